import Derived.TacticsInMore
import Derived.LoopNIn
import Derived.LoopIn
import Derived.Test.YtnjgibbfcigbfaaGreatQF6
import Derived.Test.YtnjgibbfcigbfaaGreatQF7
import Derived.RangeFuncBound
import Derived.RangeFuncCalls
import Derived.Shelf.Abstract
set_option linter.all false
set_option maxRecDepth 100000
set_option maxHeartbeats 64000000
namespace Go.Proofs.YtnjgibbfcigbfaaGreat
open Go.RowKit
attribute [local go_sem] Oper.semAt_some
theorem Rows.same {w w' : World} {B : Nat} {A : Option Addr} {l : List Sl} (h : Rows w B A l) (hk : ∀ k, k < B → w'.heap[k]? = w.heap[k]?) : Rows w' B A l :=
 ⟨fun hl => let ⟨b, off, e, hb, hc⟩ := h.va hl; ⟨b, off, e, hb, fun k v hv => (World.cell?_of_block (w := w) (hk b hb)).trans (hc k v hv)⟩,
  fun s hs hl => let ⟨b, off, e, hb, hc⟩ := h.each s hs hl; ⟨b, off, e, hb, fun k hv => (World.cell?_of_block (w := w) (hk b hb)).trans (hc k hv)⟩⟩
def bs (t : Bt) (P : Value) (st : St) : List Value := bv t P st.1 st.2
def rowH (t : Bt) (P : Value) (sp : Int) (st : St) (k : Nat) : Array Value := #[.int .i64 (k : Int), .agg (bs t P (runS t.water sp st k)).toArray]
def seqH (t : Bt) (P : Value) (sp : Int) (st : St) (last : Nat) : List (Array Value) := (List.range (stopK t.water sp st last + 1)).map (rowH t P sp st)
theorem zFb (t : Bt) (P : Value) (sp : Int) (st : St) (last : Nat) : (seqH t P sp st last).length = stopK t.water sp st last + 1 := by simp [seqH]
theorem zMr {t : Bt} {P : Value} {sp : Int} {st : St} {last k : Nat} (hk : k ≤ stopK t.water sp st last) : (seqH t P sp st last)[k]? = some (rowH t P sp st k) := by
 simp [seqH, List.getElem?_range (show k < stopK t.water sp st last + 1 by omega)]
def capH (b : Nat) (k : Nat) : Prop := k = b ∨ k = b + 1 ∨ k = b + 1 + 1
theorem zO8 : Tryz.prog.eqGuardType Tryz.prog.depth 150 = false := by kernel_rfl
theorem zG7 : RowTy Tryz.prog 150 24 := ⟨⟨_, Tryz.underlying150, rfl⟩, by kernel_rfl⟩
def OwnH (n₀ b : Nat) : Nat → Prop := fun j => n₀ ≤ j ∧ ¬ capH b j
theorem hours1 (t : Bt) (A : Option Addr) (cap : Nat) (l : List Sl) (sp : Int) (st : St) (last : Nat) (n n₀ b : Nat) (hn : 1 ≤ n) (w : World) (hn₀ : n₀ ≤ w.heap.size) (hb : b + 1 + 1 < w.heap.size) (hz : Rows w n₀ A l)
 (h1 : 1 ≤ sp) (h2 : sp ≤ 250) (hg : GoodS t.water st) (hl : lens st.2 = lens (rws l)) (h300 : last ≤ 300)
 (hb0 : w.heap[b]? = some (.cells (bs t (.slice A l.length cap) st).toArray 152 (0, 0))) (hb1 : w.heap[b + 1]? = some (.cells #[.int .i64 sp] 3 (0, 0))) (hb2 : w.heap[b + 1 + 1]? = some (.cells #[.int .i64 (last : Int)] 3 (0, 0))) :
 SeqP Fence.wide n Tryz.prog 161 #[.pointer (some ⟨b, 0, none⟩), .pointer (some ⟨b + 1 + 1, 0, none⟩), .pointer (some ⟨b + 1, 0, none⟩)] (seqH t (.slice A l.length cap) sp st last) n₀ (capH b) w := by
 intro L X J Jx W hW hX hJ hJx hY h0
 have hlater := fun k (W' : World) (hk : ∀ j, j < n₀ → W'.heap[j]? = w.heap[j]?) (hs : n₀ ≤ W'.heap.size) =>
  zQ6 t A cap l (runS t.water sp st k).1 sp (runS t.water sp st k).2 n₀ W' hs (hz.same hk) h1 h2 (zFp h1 h2 hg k) ((zDx t.water sp st k).trans hl)
 obtain ⟨S, hS⟩ : ∃ S : Nat → List Value, S = fun k => bs t (.slice A l.length cap) (runS t.water sp st k) := ⟨_, rfl⟩
 obtain ⟨wl, hwl⟩ : ∃ wl : Nat → List Int, wl = fun k => wallL (runS t.water sp st k).2 := ⟨_, rfl⟩
 have hSk : ∀ k, S k = bs t (.slice A l.length cap) (runS t.water sp st k) := fun k => by rw [hS]
 have hlat : ∀ (k : Nat) (W' : World), (∀ j, j < n₀ → W'.heap[j]? = w.heap[j]?) → n₀ ≤ W'.heap.size → Calls Tryz.prog 162 #[.agg (S k).toArray, .int .i64 sp] W' fun e w' => e = .returned (.agg (S (k + 1)).toArray) ∧ Below W'.heap.size W' w' := fun k W' a1 a2 => by
  rw [hSk k, hSk (k + 1)]; exact hlater k W' a1 a2
 have hlen : ∀ k, (S k).length = 30 := fun k => by rw [hSk k]; exact zE6 _ _ _ _
 have hall1 : ∀ k, (S k).toArray.all (·.oneCell') = true := fun k => by
  rw [List.all_toArray, List.all_eq_true, hSk k]; exact zI6 _ _ _ _ _ _
 have hdrop : ∀ k j v, (ints (wl k))[j]? = some v → (S k).toArray[6 + j]? = some v := fun k j v h => by
  rw [hSk k, List.getElem?_toArray, bs, bv, List.getElem?_append_right (by simp)]
  rw [hwl] at h
  simpa using h
 have hwll : ∀ k, (wl k).length = 24 := fun k => by rw [hwl]; exact zB8 _
 have hfix : ∀ k, fixB t.water sp st k = (wl (k + 1) == wl k) := fun k => by rw [hwl]; rfl
 have hrow : ∀ k, rowH t (.slice A l.length cap) sp st k = #[.int .i64 (k : Int), .agg (S k).toArray] := fun k => by rw [hSk k]; rfl
 have hS0 : bs t (.slice A l.length cap) st = S 0 := by rw [hSk 0]; rfl
 have hst := zHc (fixB t.water sp st) last 0; have hgo := fun j => zOe (fixB t.water sp st) last 0 j (Nat.zero_le _)
 have hstop := zGj (fixB t.water sp st) last 0; have hsl := zFb t (.slice A l.length cap) sp st last; have hsa := fun k hk => zMr (t := t) (P := .slice A l.length cap) (sp := sp) (st := st) (last := last) (k := k) hk
 obtain ⟨m, hm⟩ : ∃ m, m = stopK t.water sp st last := ⟨_, rfl⟩; rw [show lastK (fixB t.water sp st) last 0 = m from hm.symm] at hst hgo hstop
 rw [← hm] at hsl hsa; simp only [hrow] at hsa; rw [Nat.zero_add] at hst hstop; obtain ⟨hst0, hst⟩ := hst; clear hm hrow hlater hst0; rw [hS0] at hb0; have hbW := (hW.block b (by omega)).trans hb0
 have hb1W := (hW.block (b + 1) (by omega)).trans hb1
 have hb2W := (hW.block (b + 1 + 1) (by omega)).trans hb2
 have hWs : b + 1 + 1 < W.heap.size := Nat.lt_of_lt_of_le hb hW.size; have hnW : n₀ ≤ W.heap.size := Nat.le_trans hn₀ hW.size; have hlow : ∀ j, j < n₀ → W.heap[j]? = w.heap[j]? := fun j hj => hW.block j (by omega)
 obtain ⟨all, hall⟩ : ∃ all, all = seqH t (.slice A l.length cap) sp st last := ⟨_, rfl⟩; rw [← hall] at hY hsl hsa ⊢; have HY := zzh hY; have HJ := zz3 hJ hJx h0; have HX := zzh hX; have HM := zz6 hst hgo hstop hsl hsa hfix; have HB := zz4 hlen hall1 hdrop hwll; have HLT := zzh hlat; have HLOW := zzh hlow; have HBW := zz2 hbW hb1W; clear hY hJ hJx h0 hX hst hgo hstop hsl hsa hlen hall1 hdrop hwll hlat hlow hz hb0 hb1 hb2 hW hl hall hb1W hS hwl hSk hfix hS0 hg hbW; refine callsIn_of_wp Tryz.func161 rfl trivial ?_ rfl; simp only [Tryz.ntmps161, List.size_toArray, List.length_cons, List.length_nil, Nat.reduceAdd, Nat.reduceSub, Array.replicate_succ, Array.replicate_zero, List.push_toArray, List.append_toArray, List.nil_append, List.cons_append]
 gi_wp2_with (first
  | (show wpListIn _ _ _ _ _ (Oper.mk (some 8) _ _ _ _ _ :: _) _ _; refine zAq 152 (.tmp 1) rfl rfl rfl HBW.out.1 (S 0) (fun j v hj => by rw [Nat.zero_add, List.getElem?_toArray]; exact hj) (by rw [HB.out.1]; exact zAz) ?_)
  | (show wpListIn _ _ _ _ _ (Oper.mk none (Op.store _ (Operand.tmp 5) (Operand.tmp 8)) _ _ _ _ :: _) _ _; refine zAi 152 (.tmp 5) (.tmp 8) rfl rfl rfl rfl (zAd W _) (by simp [HB.out.1]) (HB.out.2.1 0) (by rw [List.size_toArray, HB.out.1]; exact zAz) ?_
     intro w4 hP4 hM4; have hb4 : Grows W w4 := ((Below.refl _ W).alloc (Nat.le_refl _) _).trans (hP4.below (Nat.le_refl _)); have hcl := fun i => cell_of_row _ (b + 1 + 1) i _ _ _ ((hb4.block _ hWs).trans hb2W)
     have H4 := zz2 hb4 hM4; clear hP4 hM4 hb4))
 have h4J := HJ.out.1 0 _ _ HJ.out.2.2 H4.out.1; have h4K : KeepsX (OwnH n₀ b) W w4 := ⟨H4.out.1.size, fun j hj _ => H4.out.1.block j hj⟩
 have H4J := zz2 h4J h4K; have HB2 := zzh hb2W; clear h4J h4K hb2W
 gi_loopw [11] (fun i wr => ∃ k : Nat, k ≤ m + 1 ∧ (k = m + 1 → m = last) ∧ i = .int .i64 k ∧ Hid (J k wr) ∧ Hid (KeepsX (OwnH n₀ b) W wr) ∧ Hid (wr.heap[W.heap.size]? = some (.cells (S k).toArray 152 (0, 0))))
  (fun i _ => last + 1 - (intOf i).toNat)
 case atStart => exact ⟨0, Nat.zero_le _, fun h => by omega, rfl, H4J.out.1, H4J.out.2, H4.out.2⟩
 case round =>
  obtain ⟨k, hk, hkl, rfl, hJk, hKk, hMk⟩ := hrel; clear hcl
  by_cases hlt : k ≤ m
  · have hml := HM.out.1; have hkz : (k : Int) < last + 1 := by omega
    have hyk := HY.out k _ wr (HM.out.2.2.2.2.1 k hlt) hJk.out hKk.out.size; have hfx := HM.out.2.2.2.2.2 k; have hel := fun W' => zQ9 W' (wl (k + 1)) (wl k) (HB.out.2.2.2 _) (HB.out.2.2.2 _)
    rw [← hfx] at hel; have HYk := zzh hyk; have hgw := zO8; clear hyk hfx; cases hf : fixB t.water sp st k with
    | true =>
      have HKM : Hid (k = m) := by
       by_cases h : k < m
       · rw [HM.out.2.1 k h] at hf; cases hf
       · exact zzh (by omega)
      rw [hf] at hel; clear hf hkl
      gi_wp2_with (first
       | (show wpListIn _ _ _ _ _ (Oper.mk (some 16) _ _ _ _ _ :: _) _ _; refine zAq 152 (.tmp 5) rfl rfl rfl hMk.out (S k) (fun j v hj => by rw [Nat.zero_add, List.getElem?_toArray]; exact hj) (by rw [HB.out.1]; exact zAz) ?_)
       | (show wpListIn _ _ _ _ _ (Oper.mk (some 17) _ _ _ _ _ :: _) _ _; refine zB9 (.tmp 14) #[.tmp 15, .tmp 16] #[3, 152] rfl rfl (fun _ => trivial) hn (l := L) rfl (by simp only [List.map_toArray, List.map_cons, List.map_nil]; rfl) HYk.out ?_
          rintro e w5 (⟨rfl, hJ5, hK5⟩ | ⟨rfl, hx5⟩); refine ⟨_, rfl, ?_⟩; have hM5 := (hK5.same W.heap.size (zAa hMk.out) (fun h => by have := (HX.out _ h).2.2; omega)).trans hMk.out
          have hKW := hKk.out.trans (hK5.more (fun j hj => ⟨(HX.out j hj).1, (HX.out j hj).2.1⟩))
          have hs5 := (hKW.same (b + 1) (by omega) (fun h => h.2 (.inr (.inl rfl)))).trans HBW.out.2
          have hc5 := fun i => cell_of_row _ (b + 1) i _ _ _ hs5
          have H5 := zz3 hJ5 hKW hM5; clear hJ5 hK5 hM5 hKW hs5; rotate_left; refine ⟨_, rfl, ?_⟩; have H5 := zzh hx5; clear hx5
          rotate_right)
       | (show wpListIn _ _ _ _ _ (Oper.mk (some 19) _ _ _ _ _ :: _) _ _; refine zAq 152 (.tmp 5) rfl rfl rfl H5.out.2.2 (S k) (fun j v hj => by rw [Nat.zero_add, List.getElem?_toArray]; exact hj) (by rw [HB.out.1]; exact zAz) ?_)
       | (refine ⟨trivial, ?_⟩
          gi_at_call 162
          refine (callsIn_wide.2 (HLT.out k _ (fun j hj => (H5.out.2.1.same j (by omega) (fun h => by have := h.1; omega)).trans (HLOW.out j hj)) (Nat.le_trans hnW H5.out.2.1.size))).mono ?_
          rintro e w6 ⟨rfl, hB6⟩; have H6 := zzh hB6; clear hB6 hc5)
       | (show wpListIn _ _ _ _ _ (Oper.mk none (Op.store _ (Operand.tmp 7) (Operand.tmp 21)) _ _ _ _ :: _) _ _; refine zAi 152 (.tmp 7) (.tmp 21) rfl rfl rfl rfl (zAd w6 _) (by simp [HB.out.1]) (HB.out.2.1 (k + 1)) (by rw [List.size_toArray, HB.out.1]; exact zAz) ?_
          intro w7 hP7 hM7; have h56 := H6.out.size; have hM5 := zAa H5.out.2.2; have hb57 : Grows w5 w7 := (H6.out.alloc h56 _).trans (hP7.below h56); have hMM := (hb57.block W.heap.size hM5).trans H5.out.2.2; have H7 := zz4 hM7 hMM hb57 (show W.heap.size ≠ w6.heap.size by omega)
          clear hP7 hM7 hMM hb57 h56 hM5)
       | (show wpListIn _ _ _ _ _ (Oper.mk (some 23) _ _ _ _ _ :: _) _ _; refine zAq 150 (.tmp 22) rfl rfl rfl H7.out.1 (ints (wl (k + 1))) (HB.out.2.2.1 (k + 1)) (by rw [show (ints (wl (k + 1))).length = 24 by simp [ints, HB.out.2.2.2]]; exact zG7) ?_)
       | (show wpListIn _ _ _ _ _ (Oper.mk (some 25) _ _ _ _ _ :: _) _ _; refine zAq 150 (.tmp 24) rfl rfl rfl H7.out.2.1 (ints (wl k)) (HB.out.2.2.1 k) (by rw [show (ints (wl k)).length = 24 by simp [ints, HB.out.2.2.2]]; exact zG7) ?_))
      · refine bodyPost_ret (results_none rfl _ _ _) rfl ?_; exact ⟨⟨_, rfl⟩, .inl (by rw [HM.out.2.2.2.1, ← HKM.out]; exact HJ.out.1 _ _ _ H5.out.1 (H7.out.2.2.1.mono H5.out.2.1.size))⟩
      refine bodyPost_ret (results_none rfl _ _ _) rfl ?_; exact ⟨⟨_, rfl⟩, .inr ⟨k, by rw [HM.out.2.2.2.1]; omega, H5.out⟩⟩
    | false =>
      have HKM : Hid (k + 1 = m + 1 → m = last) := zzh fun h => by
       obtain rfl : k = m := by omega
       rcases HM.out.2.2.1 with h | h
       · exact h
       · rw [h] at hf; cases hf
      rw [hf] at hel; clear hf hkl
      gi_wp2_with (first
       | (show wpListIn _ _ _ _ _ (Oper.mk (some 16) _ _ _ _ _ :: _) _ _; refine zAq 152 (.tmp 5) rfl rfl rfl hMk.out (S k) (fun j v hj => by rw [Nat.zero_add, List.getElem?_toArray]; exact hj) (by rw [HB.out.1]; exact zAz) ?_)
       | (show wpListIn _ _ _ _ _ (Oper.mk (some 17) _ _ _ _ _ :: _) _ _; refine zB9 (.tmp 14) #[.tmp 15, .tmp 16] #[3, 152] rfl rfl (fun _ => trivial) hn (l := L) rfl (by simp only [List.map_toArray, List.map_cons, List.map_nil]; rfl) HYk.out ?_
          rintro e w5 (⟨rfl, hJ5, hK5⟩ | ⟨rfl, hx5⟩); refine ⟨_, rfl, ?_⟩; have hM5 := (hK5.same W.heap.size (zAa hMk.out) (fun h => by have := (HX.out _ h).2.2; omega)).trans hMk.out
          have hKW := hKk.out.trans (hK5.more (fun j hj => ⟨(HX.out j hj).1, (HX.out j hj).2.1⟩))
          have hs5 := (hKW.same (b + 1) (by omega) (fun h => h.2 (.inr (.inl rfl)))).trans HBW.out.2
          have hc5 := fun i => cell_of_row _ (b + 1) i _ _ _ hs5
          have H5 := zz3 hJ5 hKW hM5; clear hJ5 hK5 hM5 hKW hs5; rotate_left; refine ⟨_, rfl, ?_⟩; have H5 := zzh hx5; clear hx5
          rotate_right)
       | (show wpListIn _ _ _ _ _ (Oper.mk (some 19) _ _ _ _ _ :: _) _ _; refine zAq 152 (.tmp 5) rfl rfl rfl H5.out.2.2 (S k) (fun j v hj => by rw [Nat.zero_add, List.getElem?_toArray]; exact hj) (by rw [HB.out.1]; exact zAz) ?_)
       | (refine ⟨trivial, ?_⟩
          gi_at_call 162
          refine (callsIn_wide.2 (HLT.out k _ (fun j hj => (H5.out.2.1.same j (by omega) (fun h => by have := h.1; omega)).trans (HLOW.out j hj)) (Nat.le_trans hnW H5.out.2.1.size))).mono ?_
          rintro e w6 ⟨rfl, hB6⟩; have H6 := zzh hB6; clear hB6 hc5)
       | (show wpListIn _ _ _ _ _ (Oper.mk none (Op.store _ (Operand.tmp 7) (Operand.tmp 21)) _ _ _ _ :: _) _ _; refine zAi 152 (.tmp 7) (.tmp 21) rfl rfl rfl rfl (zAd w6 _) (by simp [HB.out.1]) (HB.out.2.1 (k + 1)) (by rw [List.size_toArray, HB.out.1]; exact zAz) ?_
          intro w7 hP7 hM7; have h56 := H6.out.size; have hM5 := zAa H5.out.2.2; have hb57 : Grows w5 w7 := (H6.out.alloc h56 _).trans (hP7.below h56); have hMM := (hb57.block W.heap.size hM5).trans H5.out.2.2; have H7 := zz4 hM7 hMM hb57 (show W.heap.size ≠ w6.heap.size by omega)
          clear hP7 hM7 hMM hb57 h56 hM5)
       | (show wpListIn _ _ _ _ _ (Oper.mk (some 23) _ _ _ _ _ :: _) _ _; refine zAq 150 (.tmp 22) rfl rfl rfl H7.out.1 (ints (wl (k + 1))) (HB.out.2.2.1 (k + 1)) (by rw [show (ints (wl (k + 1))).length = 24 by simp [ints, HB.out.2.2.2]]; exact zG7) ?_)
       | (show wpListIn _ _ _ _ _ (Oper.mk (some 25) _ _ _ _ _ :: _) _ _; refine zAq 150 (.tmp 24) rfl rfl rfl H7.out.2.1 (ints (wl k)) (HB.out.2.2.1 k) (by rw [show (ints (wl k)).length = 24 by simp [ints, HB.out.2.2.2]]; exact zG7) ?_)
       | (show wpListIn _ _ _ _ _ (Oper.mk (some 27) _ _ _ _ _ :: _) _ _; refine zAq 152 (.tmp 7) rfl rfl rfl H7.out.1 (S (k + 1)) (fun j v hj => by rw [Nat.zero_add, List.getElem?_toArray]; exact hj) (by rw [HB.out.1]; exact zAz) ?_)
       | (show wpListIn _ _ _ _ _ (Oper.mk none (Op.store _ (Operand.tmp 5) (Operand.tmp 27)) _ _ _ _ :: _) _ _; refine zAi 152 (.tmp 5) (.tmp 27) rfl rfl rfl rfl H7.out.2.1 (by simp [HB.out.1]) (HB.out.2.1 (k + 1)) (by rw [List.size_toArray, HB.out.1]; exact zAz) ?_
          intro w8 hP8 hM8; have H8 := zz2 hP8 hM8; clear hP8 hM8))
      case roundEnd =>
       have hJ8 := HJ.out.1 (k + 1) _ _ H5.out.1 ((H7.out.2.2.1.mono H5.out.2.1.size).trans (H8.out.1.below (Nat.le_refl _))); have hK7 : KeepsX (OwnH n₀ b) w5 w7 := ⟨H7.out.2.2.1.size, fun j hj _ => H7.out.2.2.1.block j hj⟩
       have hK8 := (H5.out.2.1.trans hK7).trans (H8.out.1.keepsX (OwnH n₀ b) ⟨hnW, fun h => by unfold capH at h; omega⟩)
       have E8 := zz3 hJ8 hK8 H8.out.2; clear hJ8 hK7 hK8
       go_roundw
       case rel => exact ⟨k + 1, by omega, HKM.out, by go_num, E8.out.1, E8.out.2.1, E8.out.2.2⟩
       case measure => simp [intOf] <;> omega
      refine bodyPost_ret (results_none rfl _ _ _) rfl ?_; exact ⟨⟨_, rfl⟩, .inr ⟨k, by rw [HM.out.2.2.2.1]; omega, H5.out⟩⟩
  · have hkz : ¬ (k : Int) < last + 1 := by have := hkl (by omega); omega
    clear hkl
    gi_wp2_with fail
    go_end0
    exact ⟨⟨_, rfl⟩, .inl (by rw [HM.out.2.2.2.1, show m + 1 = k by omega]; exact hJk.out)⟩
end Go.Proofs.YtnjgibbfcigbfaaGreat
namespace Go.Proofs.YtnjgibbfcigbfaaGreat
open Go.RowKit Go.Shelf
attribute [local go_sem] Oper.semAt_some
theorem zLc (V : List Value) (sp last : Int) (w : World) : Calls Tryz.prog 120 #[.agg V.toArray, .int .i64 sp, .int .i64 last] w fun e w' =>
 e = .returned (.func (.func 161) #[] #[.pointer (some ⟨w.heap.size, 0, none⟩), .pointer (some ⟨w.heap.size + 1 + 1, 0, none⟩), .pointer (some ⟨w.heap.size + 1, 0, none⟩)]) ∧
  w' = ((w.alloc (.cells V.toArray 152)).alloc (.cells #[.int .i64 sp] 3)).alloc (.cells #[.int .i64 last] 3) := by
 go_enter Tryz.func120, Tryz.ntmps120
 go_wp2; go_ret
 exact ⟨rfl, rfl⟩
theorem zRg (t : Bt) (A : Option Addr) (cap : Nat) (l : List Sl) (sp : Int) (st : St) (last : Nat) (B : Nat) (w : World) (hB : B ≤ w.heap.size) (hz : Rows w B A l)
 (h1 : 1 ≤ sp) (h2 : sp ≤ 250) (hg : GoodS t.water st) (hl : lens st.2 = lens (rws l)) (h300 : last ≤ 300) :
 Calls Tryz.prog 73 #[.agg (bs t (.slice A l.length cap) st).toArray, .int .i64 sp, .int .i64 last] w
  fun e w' => e = .returned (.agg (bs t (.slice A l.length cap) (runS t.water sp st last)).toArray) ∧ Grows w w' := by
 obtain ⟨S, hS⟩ : ∃ S : Nat → List Value, S = fun k => bs t (.slice A l.length cap) (runS t.water sp st k) := ⟨_, rfl⟩
 obtain ⟨m, hm⟩ : ∃ m, m = stopK t.water sp st last := ⟨_, rfl⟩; have hSlen : ∀ k, (S k).length = 30 := fun k => by rw [hS]; exact zE6 _ _ _ _
 have hSone : ∀ k, (S k).toArray.all (·.oneCell') = true := fun k => by
  rw [List.all_toArray, List.all_eq_true, hS]; exact zI6 _ _ _ _ _ _
 have hSm : bs t (.slice A l.length cap) (runS t.water sp st last) = S m := by
  rw [zLq h1 h2 hg last last (by unfold stopK; have := zHc (fixB t.water sp st) last 0; omega) (Nat.le_refl _), hS, hm]
 rw [hSm]; have hlen : (bs t (.slice A l.length cap) st).length = 30 := zE6 _ _ _ _
 have hone : (bs t (.slice A l.length cap) st).toArray.all (·.oneCell') = true := by
  rw [List.all_toArray, List.all_eq_true]; exact zI6 _ _ _ _ _ _
 obtain ⟨V, hV⟩ : ∃ V, V = bs t (.slice A l.length cap) st := ⟨_, rfl⟩; rw [← hV] at hlen hone ⊢; have HV := zz3 hV hlen hone; have HZ := zzh hz; have HG := zz2 hg hl; have HSS := zz5 hS hm hSlen hSone hSm; clear hV hlen hone hz hg hl hS hm hSlen hSone hSm; refine (callsIn_wide (n := 4)).1 ?_; refine callsIn_of_wp_marks Tryz.func73 rfl trivial ?_ rfl; simp only [Tryz.ntmps73, List.size_toArray, List.length_cons, List.length_nil, Nat.reduceAdd, Nat.reduceSub, Array.replicate_succ, Array.replicate_zero, List.push_toArray, List.append_toArray, List.nil_append, List.cons_append]
 gi_wp2_with (first
  | (show wpListIn _ _ _ _ _ (Oper.mk (some 10) _ _ _ _ _ :: _) _ _; refine zAq 152 (.tmp 3) rfl rfl rfl (zAp w _ _) V (fun j v hj => by rw [Nat.zero_add, List.getElem?_toArray]; exact hj) (by rw [HV.out.2.1]; exact zAz) ?_)
  | (show wpListIn _ _ _ _ _ (Oper.mk none (Op.store _ (Operand.tmp 7) (Operand.tmp 10)) _ _ _ _ :: _) _ _; refine zAi 152 (.tmp 7) (.tmp 10) rfl rfl rfl rfl (zA9 w _ _ _) (by simp [HV.out.2.1]) HV.out.2.2 (by rw [List.size_toArray, HV.out.2.1]; exact zAz) ?_
     intro w4 hP4 hM4; have hs4 := hP4.size; simp only [World.size_alloc] at hs4; have hb4 : Grows w w4 := ((((Below.refl _ w).alloc (Nat.le_refl _) _).alloc (by simp) _).alloc (by simp; omega) _).trans (hP4.below (by omega))
     have h3 := (hP4.other w.heap.size (by omega)).trans (zA7 w _ _ _)
     have h6 : ∃ Z : List Value, w4.heap[w.heap.size + 1]? = some (.cells Z.toArray 152 (0, 0)) ∧ Z.length = 30 := ⟨_, (hP4.other (w.heap.size + 1) (by omega)).trans (zA8 w _ _ _), rfl⟩
     have H4 := zz4 hb4 h3 h6 hM4; have HS4 := zzh hs4; clear hP4 hM4 hb4 h3 h6 hs4)
  | (show wpListIn _ _ _ _ _ (Oper.mk (some 11) _ _ _ _ _ :: _) _ _; refine zAq 152 (.tmp 3) rfl rfl rfl H4.out.2.1 V (fun j v hj => by rw [Nat.zero_add, List.getElem?_toArray]; exact hj) (by rw [HV.out.2.1]; exact zAz) ?_)
  | (refine ⟨trivial, ?_⟩
     gi_at_call 120
     refine (callsIn_wide.2 (zLc V sp last w4)).mono ?_; rintro e w5 ⟨rfl, hw5⟩; have H5 := zzh hw5; clear hw5))
 obtain ⟨hS, hm, hSlen, hSone, hSm⟩ := HSS.out; have hV0 : V = S 0 := by rw [HV.out.1, hS]; rfl
 have hrow : ∀ (k : Nat) (r : Array Value), (seqH t (.slice A l.length cap) sp st last)[k]? = some r → r = #[.int .i64 (k : Int), .agg (S k).toArray] := fun k r h => by
  have hk : k < (seqH t (.slice A l.length cap) sp st last).length := (List.getElem?_eq_some_iff.1 h).1; rw [zFb] at hk; rw [zMr (by omega)] at h
  rw [← Option.some.inj h, hS]
  rfl
 have hlen := zFb t (.slice A l.length cap) sp st last; rw [← hm] at hlen; have hs4 := HS4.out; have hs5 : w5.heap.size = w4.heap.size + 3 := by rw [H5.out]; simp
 have hb5 : Grows w4 w5 := by
  rw [H5.out]; exact (((Below.refl _ _).alloc (Nat.le_refl _) _).alloc (by simp) _).alloc (by simp; omega) _
 have hbw5 : Grows w w5 := H4.out.1.trans (hb5.mono (by omega))
 have HS := zz5 hSlen hSone hrow hlen hV0; have h7 : w5.heap[w.heap.size + 1 + 1]? = some (.cells (S 0).toArray 152 (0, 0)) := by rw [← hV0]; exact (hb5.block _ (by omega)).trans H4.out.2.2.2
 have h6 : ∃ Z : List Value, w5.heap[w.heap.size + 1]? = some (.cells Z.toArray 152 (0, 0)) ∧ Z.length = 30 := H4.out.2.2.1.imp fun Z e => ⟨(hb5.block _ (by omega)).trans e.1, e.2⟩
 refine zEz rfl (by omega) (gf := 161) (lb := #[.pointer (some ⟨w4.heap.size, 0, none⟩), .pointer (some ⟨w4.heap.size + 1 + 1, 0, none⟩), .pointer (some ⟨w4.heap.size + 1, 0, none⟩)]) rfl trivial (enters_of Tryz.func161 (by kernel_rfl) rfl)
  (hours1 t A cap l sp st last (4 - 1) w.heap.size w4.heap.size (by omega) w5 (by omega) (by omega) ((HZ.out.mono hB).below hbw5) h1 h2 HG.out.1 HG.out.2 h300
    (by rw [H5.out, ← HV.out.1]; exact zA7 _ _ _ _) (by rw [H5.out]; exact zA8 _ _ _ _) (by rw [H5.out]; exact zA9 _ _ _ _)) (Below.refl _ _) (by omega) (fun k hk => by unfold capH at hk; omega)
  (fun r' hr' => by
    obtain ⟨k, hk, rfl⟩ := List.mem_map.1 hr'
    rfl)
  (fun k => k = w.heap.size + 1 + 1) (fun k hk => ⟨by omega, fun h => by unfold capH at h; omega, by omega⟩)
  (fun k A => A.heap[w.heap.size + 1 + 1]? = some (.cells (S (k - 1)).toArray 152 (0, 0)) ∧ (∃ Z : List Value, A.heap[w.heap.size + 1]? = some (.cells Z.toArray 152 (0, 0)) ∧ Z.length = 30) ∧ Grows w A)
  (fun c k A => False)
  (fun k A B hi hb => ⟨(hb.block _ (by omega)).trans hi.1, hi.2.1.imp fun Z e => ⟨(hb.block _ (by omega)).trans e.1, e.2⟩, hi.2.2.trans (hb.mono (by omega))⟩)
  (fun c k A B hi hb => hi)
  ⟨h7, h6, hbw5⟩
  (fun k b a' A' => ∃ b', b ≤ b' ∧ A'.heap[b']? = some (.cells (S k).toArray 152 (0, 0)) ∧
    a' = { tmps := #[.agg V.toArray, .int .i64 sp, .int .i64 (last : Int), .pointer (some ⟨w.heap.size, 0, none⟩), undef, undef, .pointer (some ⟨w.heap.size + 1, 0, none⟩), .pointer (some ⟨w.heap.size + 1 + 1, 0, none⟩), undef, .pointer (some ⟨b', 0, none⟩),
     .agg V.toArray, .agg V.toArray, .int .i64 sp, .int .i64 (last : Int), .func (.func 161) #[] #[.pointer (some ⟨w4.heap.size, 0, none⟩), .pointer (some ⟨w4.heap.size + 1 + 1, 0, none⟩), .pointer (some ⟨w4.heap.size + 1, 0, none⟩)],
     .int .i64 (k : Int), .agg (S k).toArray, undef, undef], defers := [] })
  (fun k b a' A B hx hj => by
    obtain ⟨b', hb, hc, ha⟩ := hx; exact ⟨b', hb, (hj b' hb).trans hc, ha⟩) ?assign ?body ?done ?stop
 case assign =>
  rintro L k r' W1 K hr' ⟨_, _, _⟩ hK; obtain rfl := HS.out.2.2.1 k r' hr'; have hKK := zzh hK; clear hK hr' hS hSlen hSone hrow hlen hs5 h6 h7 hm hSm hV0 hb5 hbw5 hs4
  gi_wp2_with
   (show wpListIn _ _ _ _ _ (Oper.mk none (Op.store _ (Operand.tmp 9) (Operand.tmp 16)) _ _ _ _ :: _) _ _
    refine zAi 152 (.tmp 9) (.tmp 16) rfl rfl rfl rfl (zAd W1 _) (by simp [HS.out.1]) (HS.out.2.1 k) (by rw [List.size_toArray, HS.out.1]; exact zAz) ?_
    intro w2 hP2 hM2; have H2 := zz2 hP2 hM2; clear hP2 hM2)
  exact hKK.out _ _ (((Below.refl _ W1).alloc (Nat.le_refl _) _).trans (H2.out.1.below (Nat.le_refl _))) ⟨_, Nat.le_refl _, H2.out.2, rfl⟩
 case body =>
  rintro L k b r' a' W1 hr' hwb hbW' ⟨hi7, hi6, hbel⟩ ⟨b', hbb, hc, rfl⟩; have HH := zz4 hi7 hi6 hbel hc; clear hi7 hi6 hbel hc hr' hS hSlen hSone hrow hlen hs5 h6 h7 hm hSm hV0 hb5 hbw5 hs4
  gi_wp2_with (first
   | (show wpListIn _ _ _ _ _ (Oper.mk (some 17) _ _ _ _ _ :: _) _ _; refine zAq 152 (.tmp 9) rfl rfl rfl HH.out.2.2.2 (S k) (fun j v hj => by rw [Nat.zero_add, List.getElem?_toArray]; exact hj) (by rw [HS.out.1]; exact zAz) ?_)
   | (show wpListIn _ _ _ _ _ (Oper.mk none (Op.store _ (Operand.tmp 7) (Operand.tmp 17)) _ _ _ _ :: _) _ _; refine zAi 152 (.tmp 7) (.tmp 17) rfl rfl rfl rfl HH.out.1 (by simp [HS.out.1]) (HS.out.2.1 k) (by rw [List.size_toArray, HS.out.1]; exact zAz) ?_
      intro w2 hP2 hM2; have H2 := zz2 hP2 hM2; clear hP2 hM2))
  exact ⟨H2.out.1.keepsX _ (.inl rfl), H2.out.2, HH.out.2.1.imp fun Z e => ⟨(H2.out.1.other _ (by omega)).trans e.1, e.2⟩, HH.out.2.2.1.trans (H2.out.1.below (by omega))⟩
 case done =>
  rintro D W3 hD3 ⟨hi7, ⟨Z, hi6, hZl⟩, hbel⟩ hD; rw [hlen, Nat.add_sub_cancel] at hi7; have hDs : w.heap.size + 1 ≠ D ∧ w.heap.size ≤ D := by omega
  have HH := zz6 hi7 hi6 hbel hD hZl hDs; clear hi7 hi6 hbel hD hZl hDs hD3 hS hSlen hSone hrow hlen hs5 h6 h7 hm hSm hV0 hb5 hbw5 hs4
  gi_wp2_with (first
   | (show wpListIn _ _ _ _ _ (Oper.mk (some 18) _ _ _ _ _ :: _) _ _; refine zAq 152 (.tmp 7) rfl rfl rfl HH.out.1 (S m) (fun j v hj => by rw [Nat.zero_add, List.getElem?_toArray]; exact hj) (by rw [HS.out.1]; exact zAz) ?_)
   | (show wpListIn _ _ _ _ _ (Oper.mk none (Op.store _ (Operand.tmp 6) (Operand.tmp 18)) _ _ _ _ :: _) _ _; refine zAi 152 (.tmp 6) (.tmp 18) rfl rfl rfl rfl HH.out.2.1 (by simp [HS.out.1, HH.out.2.2.2.2.1]) (HS.out.2.1 m) (by rw [List.size_toArray, HS.out.1]; exact zAz) ?_
      intro w2 hP2 hM2; have H2 := zz2 hP2 hM2; clear hP2 hM2))
  have hd2 := (H2.out.1.other D (Ne.symm HH.out.2.2.2.2.2.1)).trans HH.out.2.2.2.1; have hres := (World.putObj_heap_other (r := D) (o := .deferred none) HH.out.2.2.2.2.2.1).trans H2.out.2; refine ⟨by simp, .inl ⟨_, _, rfl, run_takeDeferred hd2, ?_⟩⟩
  refine ⟨.agg (S m).toArray, zC5 Tryz.results73 rfl hres (by rw [HS.out.1]; exact zAz), rfl, ?_⟩
  exact zBg (HH.out.2.2.1.trans (H2.out.1.below (by omega))) HH.out.2.2.2.2.2.2 _
 case stop =>
  rintro D c k W3 rfl hk h; exact h.elim
end Go.Proofs.YtnjgibbfcigbfaaGreat
