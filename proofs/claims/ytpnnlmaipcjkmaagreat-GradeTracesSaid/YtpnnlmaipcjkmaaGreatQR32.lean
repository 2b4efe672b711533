/-
  A batch after some hours (the program's).
-/
import Derived.TacticsInMore
import Derived.LoopNIn
import Derived.LoopIn
import Derived.Test.YtpnnlmaipcjkmaaGreatQR31
import Derived.Test.YtpnnlmaipcjkmaaGreatQR15
import Derived.RangeFuncBound
import Derived.RangeFuncCalls
import Derived.Shelf.Abstract
set_option linter.all false
namespace Go.Proofs.YtpnnlmaipcjkmaaGreat
open Go.RowKit

attribute [local go_sem] Oper.semAt_some

theorem Rows.same {w w' : World} {B : Nat} {A : Option Addr} {l : List Sl} (h : Rows w B A l) (hk : ∀ k, k < B → w'.heap[k]? = w.heap[k]?) : Rows w' B A l :=
  ⟨fun hl => let ⟨b, off, e, hb, hc⟩ := h.va hl; ⟨b, off, e, hb, fun k v hv => (World.cell?_of_block (w := w) (hk b hb)).trans (hc k v hv)⟩,
   fun s hs hl => let ⟨b, off, e, hb, hc⟩ := h.each s hs hl; ⟨b, off, e, hb, fun k hv => (World.cell?_of_block (w := w) (hk b hb)).trans (hc k hv)⟩⟩

def bs (t : Bt) (P : Value) (st : St) : List Value := bv t P st.1 st.2
def rowH (t : Bt) (P : Value) (sp : Int) (st : St) (k : Nat) : Array Value := #[.int .i64 (k : Int), .agg (bs t P (runS t.water sp st k)).toArray]
def seqH (t : Bt) (P : Value) (sp : Int) (st : St) (last : Nat) : List (Array Value) := (List.range (stopK t.water sp st last + 1)).map (rowH t P sp st)
theorem seqH_len (t : Bt) (P : Value) (sp : Int) (st : St) (last : Nat) : (seqH t P sp st last).length = stopK t.water sp st last + 1 := by simp [seqH]
theorem seqH_at {t : Bt} {P : Value} {sp : Int} {st : St} {last k : Nat} (hk : k ≤ stopK t.water sp st last) : (seqH t P sp st last)[k]? = some (rowH t P sp st k) := by
  simp [seqH, List.getElem?_range (show k < stopK t.water sp st last + 1 by omega)]

def capH (b : Nat) (k : Nat) : Prop := k = b ∨ k = b + 1 ∨ k = b + 1 + 1

theorem guardWalls : Tryz.prog.eqGuardType Tryz.prog.depth 150 = false := by kernel_rfl
theorem rowWalls : RowTy Tryz.prog 150 24 := ⟨⟨_, Tryz.underlying150, rfl⟩, by kernel_rfl⟩
def OwnH (n₀ b : Nat) : Nat → Prop := fun j => n₀ ≤ j ∧ ¬ capH b j

set_option maxRecDepth 100000 in
set_option maxHeartbeats 8000000 in
theorem hours1 (t : Bt) (A : Option Addr) (cap : Nat) (l : List Sl) (sp : Int) (st : St) (last : Nat) (n n₀ b : Nat) (hn : 1 ≤ n) (w : World) (hn₀ : n₀ ≤ w.heap.size) (hb : b + 1 + 1 < w.heap.size) (hz : Rows w n₀ A l)
    (h1 : 1 ≤ sp) (h2 : sp ≤ 250) (hg : GoodS t.water st) (hl : lens st.2 = lens (rws l)) (h300 : last ≤ 300)
    (hb0 : w.heap[b]? = some (.cells (bs t (.slice A l.length cap) st).toArray 152 (0, 0))) (hb1 : w.heap[b + 1]? = some (.cells #[.int .i64 sp] 3 (0, 0))) (hb2 : w.heap[b + 1 + 1]? = some (.cells #[.int .i64 (last : Int)] 3 (0, 0))) :
    SeqP Fence.wide n Tryz.prog 161 #[.pointer (some ⟨b, 0, none⟩), .pointer (some ⟨b + 1 + 1, 0, none⟩), .pointer (some ⟨b + 1, 0, none⟩)] (seqH t (.slice A l.length cap) sp st last) n₀ (capH b) w := by
  intro L X J Jx W hW hX hJ hJx hY h0
  have hlater := fun k (W' : World) (hk : ∀ j, j < n₀ → W'.heap[j]? = w.heap[j]?) (hs : n₀ ≤ W'.heap.size) =>
    later_any t A cap l (runS t.water sp st k).1 sp (runS t.water sp st k).2 n₀ W' hs (hz.same hk) h1 h2 (runS_good h1 h2 hg k) ((lens_run t.water sp st k).trans hl)
  obtain ⟨S, hS⟩ : ∃ S : Nat → List Value, S = fun k => bs t (.slice A l.length cap) (runS t.water sp st k) := ⟨_, rfl⟩
  obtain ⟨wl, hwl⟩ : ∃ wl : Nat → List Int, wl = fun k => wallL (runS t.water sp st k).2 := ⟨_, rfl⟩
  have hSk : ∀ k, S k = bs t (.slice A l.length cap) (runS t.water sp st k) := fun k => by rw [hS]
  have hlat : ∀ (k : Nat) (W' : World), (∀ j, j < n₀ → W'.heap[j]? = w.heap[j]?) → n₀ ≤ W'.heap.size → Calls Tryz.prog 162 #[.agg (S k).toArray, .int .i64 sp] W' fun e w' => e = .returned (.agg (S (k + 1)).toArray) ∧ Below W'.heap.size W' w' := fun k W' a1 a2 => by
    rw [hSk k, hSk (k + 1)]
    exact hlater k W' a1 a2
  have hlen : ∀ k, (S k).length = 30 := fun k => by rw [hSk k]; exact bv_len _ _ _ _
  have hall1 : ∀ k, (S k).toArray.all (·.oneCell') = true := fun k => by
    rw [List.all_toArray, List.all_eq_true, hSk k]
    exact bv_one _ _ _ _ _ _
  have hdrop : ∀ k j v, (ints (wl k))[j]? = some v → (S k).toArray[6 + j]? = some v := fun k j v h => by
    rw [hSk k, List.getElem?_toArray, bs, bv, List.getElem?_append_right (by simp)]
    rw [hwl] at h
    simpa using h
  have hwll : ∀ k, (wl k).length = 24 := fun k => by rw [hwl]; exact wallL_len _
  have hfix : ∀ k, fixB t.water sp st k = (wl (k + 1) == wl k) := fun k => by rw [hwl]; rfl
  have hrow : ∀ k, rowH t (.slice A l.length cap) sp st k = #[.int .i64 (k : Int), .agg (S k).toArray] := fun k => by rw [hSk k]; rfl
  have hS0 : bs t (.slice A l.length cap) st = S 0 := by rw [hSk 0]; rfl
  have hst := lastK_le (fixB t.water sp st) last 0
  have hgo := fun j => lastK_go (fixB t.water sp st) last 0 j (Nat.zero_le _)
  have hstop := lastK_stop (fixB t.water sp st) last 0
  have hsl := seqH_len t (.slice A l.length cap) sp st last
  have hsa := fun k hk => seqH_at (t := t) (P := .slice A l.length cap) (sp := sp) (st := st) (last := last) (k := k) hk
  obtain ⟨m, hm⟩ : ∃ m, m = stopK t.water sp st last := ⟨_, rfl⟩
  rw [show lastK (fixB t.water sp st) last 0 = m from hm.symm] at hst hgo hstop
  rw [← hm] at hsl hsa
  simp only [hrow] at hsa
  rw [Nat.zero_add] at hst hstop
  obtain ⟨hst0, hst⟩ := hst
  clear hm hrow hlater hst0
  rw [hS0] at hb0
  have hbW := (hW.block b (by omega)).trans hb0
  have hb1W := (hW.block (b + 1) (by omega)).trans hb1
  have hb2W := (hW.block (b + 1 + 1) (by omega)).trans hb2
  have hWs : b + 1 + 1 < W.heap.size := Nat.lt_of_lt_of_le hb hW.size
  have hnW : n₀ ≤ W.heap.size := Nat.le_trans hn₀ hW.size
  have hlow : ∀ j, j < n₀ → W.heap[j]? = w.heap[j]? := fun j hj => hW.block j (by omega)
  obtain ⟨all, hall⟩ : ∃ all, all = seqH t (.slice A l.length cap) sp st last := ⟨_, rfl⟩
  rw [← hall] at hY hsl hsa ⊢
  have HY := Lib.hid hY
  have HJ := Lib.hid (And.intro hJ (And.intro hJx h0))
  have HX := Lib.hid hX
  have HM := Lib.hid (And.intro hst (And.intro hgo (And.intro hstop (And.intro hsl (And.intro hsa hfix)))))
  have HB := Lib.hid (And.intro hlen (And.intro hall1 (And.intro hdrop hwll)))
  have HLT := Lib.hid hlat
  have HLOW := Lib.hid hlow
  have HBW := Lib.hid (And.intro hbW hb1W)
  clear hY hJ hJx h0 hX hst hgo hstop hsl hsa hlen hall1 hdrop hwll hlat hlow hz hb0 hb1 hb2 hW hl hall hb1W hS hwl hSk hfix hS0 hg hbW
  refine callsIn_of_wp Tryz.func161 rfl trivial ?_ rfl
  simp only [Tryz.ntmps161, List.size_toArray, List.length_cons, List.length_nil, Nat.reduceAdd, Nat.reduceSub, Array.replicate_succ, Array.replicate_zero, List.push_toArray, List.append_toArray, List.nil_append, List.cons_append]
  gi_wp2_with (first
    | (show wpListIn _ _ _ _ _ (Oper.mk (some 8) _ _ _ _ _ :: _) _ _
       refine wpListIn_load_blk 152 (.tmp 1) rfl rfl rfl HBW.out.1 (S 0) (fun j v hj => by rw [Nat.zero_add, List.getElem?_toArray]; exact hj) (by rw [HB.out.1]; exact rowBatch) ?_)
    | (show wpListIn _ _ _ _ _ (Oper.mk none (Op.store _ (Operand.tmp 5) (Operand.tmp 8)) _ _ _ _ :: _) _ _
       refine wpListIn_store_blk 152 (.tmp 5) (.tmp 8) rfl rfl rfl rfl (alloc_at0 W _) (by simp [HB.out.1]) (HB.out.2.1 0) (by rw [List.size_toArray, HB.out.1]; exact rowBatch) ?_
       intro w4 hP4 hM4
       have hb4 : Below W.heap.size W w4 := ((Below.refl _ W).alloc (Nat.le_refl _) _).trans (hP4.below (Nat.le_refl _))
       have hcl := fun i => cell_of_row _ (b + 1 + 1) i _ _ _ ((hb4.block _ hWs).trans hb2W)
       have H4 := Lib.hid (And.intro hb4 hM4)
       clear hP4 hM4 hb4))
  have h4J := HJ.out.1 0 _ _ HJ.out.2.2 H4.out.1
  have h4K : KeepsX (OwnH n₀ b) W w4 := ⟨H4.out.1.size, fun j hj _ => H4.out.1.block j hj⟩
  have H4J := Lib.hid (And.intro h4J h4K)
  have HB2 := Lib.hid hb2W
  clear h4J h4K hb2W
  gi_loopw [11] (fun i wr => ∃ k : Nat, k ≤ m + 1 ∧ (k = m + 1 → m = last) ∧ i = .int .i64 k ∧ Hid (J k wr) ∧ Hid (KeepsX (OwnH n₀ b) W wr) ∧ Hid (wr.heap[W.heap.size]? = some (.cells (S k).toArray 152 (0, 0))))
    (fun i _ => last + 1 - (intOf i).toNat)
  case atStart => exact ⟨0, Nat.zero_le _, fun h => by omega, rfl, H4J.out.1, H4J.out.2, H4.out.2⟩
  case round =>
    obtain ⟨k, hk, hkl, rfl, hJk, hKk, hMk⟩ := hrel
    clear hcl
    by_cases hlt : k ≤ m
    · have hml := HM.out.1
      have hkz : (k : Int) < last + 1 := by omega
      have hyk := HY.out k _ wr (HM.out.2.2.2.2.1 k hlt) hJk.out hKk.out.size
      have hfx := HM.out.2.2.2.2.2 k
      have hel := fun W' => eql_walls W' (wl (k + 1)) (wl k) (HB.out.2.2.2 _) (HB.out.2.2.2 _)
      rw [← hfx] at hel
      have HYk := Lib.hid hyk
      have hgw := guardWalls
      clear hyk hfx
      cases hf : fixB t.water sp st k with
      | true =>
        have HKM : Hid (k = m) := by
          by_cases h : k < m
          · rw [HM.out.2.1 k h] at hf; cases hf
          · exact Lib.hid (by omega)
        rw [hf] at hel
        clear hf hkl
        gi_wp2_with (first
          | (show wpListIn _ _ _ _ _ (Oper.mk (some 16) _ _ _ _ _ :: _) _ _
             refine wpListIn_load_blk 152 (.tmp 5) rfl rfl rfl hMk.out (S k) (fun j v hj => by rw [Nat.zero_add, List.getElem?_toArray]; exact hj) (by rw [HB.out.1]; exact rowBatch) ?_)
          | (show wpListIn _ _ _ _ _ (Oper.mk (some 17) _ _ _ _ _ :: _) _ _
             refine wpListIn_yield (.tmp 14) #[.tmp 15, .tmp 16] #[3, 152] rfl rfl (fun _ => trivial) hn (l := L) rfl (by simp only [List.map_toArray, List.map_cons, List.map_nil]; rfl) HYk.out ?_
             rintro e w5 (⟨rfl, hJ5, hK5⟩ | ⟨rfl, hx5⟩)
             refine ⟨_, rfl, ?_⟩
             have hM5 := (hK5.same W.heap.size (lt_of_heap hMk.out) (fun h => by have := (HX.out _ h).2.2; omega)).trans hMk.out
             have hKW := hKk.out.trans (hK5.more (fun j hj => ⟨(HX.out j hj).1, (HX.out j hj).2.1⟩))
             have hs5 := (hKW.same (b + 1) (by omega) (fun h => h.2 (.inr (.inl rfl)))).trans HBW.out.2
             have hc5 := fun i => cell_of_row _ (b + 1) i _ _ _ hs5
             have H5 := Lib.hid (And.intro hJ5 (And.intro hKW hM5))
             clear hJ5 hK5 hM5 hKW hs5
             rotate_left
             refine ⟨_, rfl, ?_⟩
             have H5 := Lib.hid hx5
             clear hx5
             rotate_right)
          | (show wpListIn _ _ _ _ _ (Oper.mk (some 19) _ _ _ _ _ :: _) _ _
             refine wpListIn_load_blk 152 (.tmp 5) rfl rfl rfl H5.out.2.2 (S k) (fun j v hj => by rw [Nat.zero_add, List.getElem?_toArray]; exact hj) (by rw [HB.out.1]; exact rowBatch) ?_)
          | (refine ⟨trivial, ?_⟩
             gi_at_call 162
             refine (callsIn_wide.2 (HLT.out k _ (fun j hj => (H5.out.2.1.same j (by omega) (fun h => by have := h.1; omega)).trans (HLOW.out j hj)) (Nat.le_trans hnW H5.out.2.1.size))).mono ?_
             rintro e w6 ⟨rfl, hB6⟩
             have H6 := Lib.hid hB6
             clear hB6 hc5)
          | (show wpListIn _ _ _ _ _ (Oper.mk none (Op.store _ (Operand.tmp 7) (Operand.tmp 21)) _ _ _ _ :: _) _ _
             refine wpListIn_store_blk 152 (.tmp 7) (.tmp 21) rfl rfl rfl rfl (alloc_at0 w6 _) (by simp [HB.out.1]) (HB.out.2.1 (k + 1)) (by rw [List.size_toArray, HB.out.1]; exact rowBatch) ?_
             intro w7 hP7 hM7
             have h56 := H6.out.size
             have hM5 := lt_of_heap H5.out.2.2
             have hb57 : Below w5.heap.size w5 w7 := (H6.out.alloc h56 _).trans (hP7.below h56)
             have hMM := (hb57.block W.heap.size hM5).trans H5.out.2.2
             have H7 := Lib.hid (And.intro hM7 (And.intro hMM (And.intro hb57 (show W.heap.size ≠ w6.heap.size by omega))))
             clear hP7 hM7 hMM hb57 h56 hM5)
          | (show wpListIn _ _ _ _ _ (Oper.mk (some 23) _ _ _ _ _ :: _) _ _
             refine wpListIn_load_blk 150 (.tmp 22) rfl rfl rfl H7.out.1 (ints (wl (k + 1))) (HB.out.2.2.1 (k + 1)) (by rw [show (ints (wl (k + 1))).length = 24 by simp [ints, HB.out.2.2.2]]; exact rowWalls) ?_)
          | (show wpListIn _ _ _ _ _ (Oper.mk (some 25) _ _ _ _ _ :: _) _ _
             refine wpListIn_load_blk 150 (.tmp 24) rfl rfl rfl H7.out.2.1 (ints (wl k)) (HB.out.2.2.1 k) (by rw [show (ints (wl k)).length = 24 by simp [ints, HB.out.2.2.2]]; exact rowWalls) ?_))
        · refine bodyPost_ret (results_none rfl _ _ _) rfl ?_
          exact ⟨⟨_, rfl⟩, .inl (by rw [HM.out.2.2.2.1, ← HKM.out]; exact HJ.out.1 _ _ _ H5.out.1 (H7.out.2.2.1.mono H5.out.2.1.size))⟩
        refine bodyPost_ret (results_none rfl _ _ _) rfl ?_
        exact ⟨⟨_, rfl⟩, .inr ⟨k, by rw [HM.out.2.2.2.1]; omega, H5.out⟩⟩
      | false =>
        have HKM : Hid (k + 1 = m + 1 → m = last) := Lib.hid fun h => by
          obtain rfl : k = m := by omega
          rcases HM.out.2.2.1 with h | h
          · exact h
          · rw [h] at hf; cases hf
        rw [hf] at hel
        clear hf hkl
        gi_wp2_with (first
          | (show wpListIn _ _ _ _ _ (Oper.mk (some 16) _ _ _ _ _ :: _) _ _
             refine wpListIn_load_blk 152 (.tmp 5) rfl rfl rfl hMk.out (S k) (fun j v hj => by rw [Nat.zero_add, List.getElem?_toArray]; exact hj) (by rw [HB.out.1]; exact rowBatch) ?_)
          | (show wpListIn _ _ _ _ _ (Oper.mk (some 17) _ _ _ _ _ :: _) _ _
             refine wpListIn_yield (.tmp 14) #[.tmp 15, .tmp 16] #[3, 152] rfl rfl (fun _ => trivial) hn (l := L) rfl (by simp only [List.map_toArray, List.map_cons, List.map_nil]; rfl) HYk.out ?_
             rintro e w5 (⟨rfl, hJ5, hK5⟩ | ⟨rfl, hx5⟩)
             refine ⟨_, rfl, ?_⟩
             have hM5 := (hK5.same W.heap.size (lt_of_heap hMk.out) (fun h => by have := (HX.out _ h).2.2; omega)).trans hMk.out
             have hKW := hKk.out.trans (hK5.more (fun j hj => ⟨(HX.out j hj).1, (HX.out j hj).2.1⟩))
             have hs5 := (hKW.same (b + 1) (by omega) (fun h => h.2 (.inr (.inl rfl)))).trans HBW.out.2
             have hc5 := fun i => cell_of_row _ (b + 1) i _ _ _ hs5
             have H5 := Lib.hid (And.intro hJ5 (And.intro hKW hM5))
             clear hJ5 hK5 hM5 hKW hs5
             rotate_left
             refine ⟨_, rfl, ?_⟩
             have H5 := Lib.hid hx5
             clear hx5
             rotate_right)
          | (show wpListIn _ _ _ _ _ (Oper.mk (some 19) _ _ _ _ _ :: _) _ _
             refine wpListIn_load_blk 152 (.tmp 5) rfl rfl rfl H5.out.2.2 (S k) (fun j v hj => by rw [Nat.zero_add, List.getElem?_toArray]; exact hj) (by rw [HB.out.1]; exact rowBatch) ?_)
          | (refine ⟨trivial, ?_⟩
             gi_at_call 162
             refine (callsIn_wide.2 (HLT.out k _ (fun j hj => (H5.out.2.1.same j (by omega) (fun h => by have := h.1; omega)).trans (HLOW.out j hj)) (Nat.le_trans hnW H5.out.2.1.size))).mono ?_
             rintro e w6 ⟨rfl, hB6⟩
             have H6 := Lib.hid hB6
             clear hB6 hc5)
          | (show wpListIn _ _ _ _ _ (Oper.mk none (Op.store _ (Operand.tmp 7) (Operand.tmp 21)) _ _ _ _ :: _) _ _
             refine wpListIn_store_blk 152 (.tmp 7) (.tmp 21) rfl rfl rfl rfl (alloc_at0 w6 _) (by simp [HB.out.1]) (HB.out.2.1 (k + 1)) (by rw [List.size_toArray, HB.out.1]; exact rowBatch) ?_
             intro w7 hP7 hM7
             have h56 := H6.out.size
             have hM5 := lt_of_heap H5.out.2.2
             have hb57 : Below w5.heap.size w5 w7 := (H6.out.alloc h56 _).trans (hP7.below h56)
             have hMM := (hb57.block W.heap.size hM5).trans H5.out.2.2
             have H7 := Lib.hid (And.intro hM7 (And.intro hMM (And.intro hb57 (show W.heap.size ≠ w6.heap.size by omega))))
             clear hP7 hM7 hMM hb57 h56 hM5)
          | (show wpListIn _ _ _ _ _ (Oper.mk (some 23) _ _ _ _ _ :: _) _ _
             refine wpListIn_load_blk 150 (.tmp 22) rfl rfl rfl H7.out.1 (ints (wl (k + 1))) (HB.out.2.2.1 (k + 1)) (by rw [show (ints (wl (k + 1))).length = 24 by simp [ints, HB.out.2.2.2]]; exact rowWalls) ?_)
          | (show wpListIn _ _ _ _ _ (Oper.mk (some 25) _ _ _ _ _ :: _) _ _
             refine wpListIn_load_blk 150 (.tmp 24) rfl rfl rfl H7.out.2.1 (ints (wl k)) (HB.out.2.2.1 k) (by rw [show (ints (wl k)).length = 24 by simp [ints, HB.out.2.2.2]]; exact rowWalls) ?_)
          | (show wpListIn _ _ _ _ _ (Oper.mk (some 27) _ _ _ _ _ :: _) _ _
             refine wpListIn_load_blk 152 (.tmp 7) rfl rfl rfl H7.out.1 (S (k + 1)) (fun j v hj => by rw [Nat.zero_add, List.getElem?_toArray]; exact hj) (by rw [HB.out.1]; exact rowBatch) ?_)
          | (show wpListIn _ _ _ _ _ (Oper.mk none (Op.store _ (Operand.tmp 5) (Operand.tmp 27)) _ _ _ _ :: _) _ _
             refine wpListIn_store_blk 152 (.tmp 5) (.tmp 27) rfl rfl rfl rfl H7.out.2.1 (by simp [HB.out.1]) (HB.out.2.1 (k + 1)) (by rw [List.size_toArray, HB.out.1]; exact rowBatch) ?_
             intro w8 hP8 hM8
             have H8 := Lib.hid (And.intro hP8 hM8)
             clear hP8 hM8))
        case roundEnd =>
          have hJ8 := HJ.out.1 (k + 1) _ _ H5.out.1 ((H7.out.2.2.1.mono H5.out.2.1.size).trans (H8.out.1.below (Nat.le_refl _)))
          have hK7 : KeepsX (OwnH n₀ b) w5 w7 := ⟨H7.out.2.2.1.size, fun j hj _ => H7.out.2.2.1.block j hj⟩
          have hK8 := (H5.out.2.1.trans hK7).trans (H8.out.1.keepsX (OwnH n₀ b) ⟨hnW, fun h => by unfold capH at h; omega⟩)
          have E8 := Lib.hid (And.intro hJ8 (And.intro hK8 H8.out.2))
          clear hJ8 hK7 hK8
          go_roundw
          case rel => exact ⟨k + 1, by omega, HKM.out, by go_num, E8.out.1, E8.out.2.1, E8.out.2.2⟩
          case measure => simp [intOf] <;> omega
        refine bodyPost_ret (results_none rfl _ _ _) rfl ?_
        exact ⟨⟨_, rfl⟩, .inr ⟨k, by rw [HM.out.2.2.2.1]; omega, H5.out⟩⟩
    · have hkz : ¬ (k : Int) < last + 1 := by have := hkl (by omega); omega
      clear hkl
      gi_wp2_with fail
      go_end0
      exact ⟨⟨_, rfl⟩, .inl (by rw [HM.out.2.2.2.1, show m + 1 = k by omega]; exact hJk.out)⟩

end Go.Proofs.YtpnnlmaipcjkmaaGreat

namespace Go.Proofs.YtpnnlmaipcjkmaaGreat
open Go.RowKit Go.Shelf

attribute [local go_sem] Oper.semAt_some

theorem hours_any (V : List Value) (sp last : Int) (w : World) : Calls Tryz.prog 120 #[.agg V.toArray, .int .i64 sp, .int .i64 last] w fun e w' =>
    e = .returned (.func (.func 161) #[] #[.pointer (some ⟨w.heap.size, 0, none⟩), .pointer (some ⟨w.heap.size + 1 + 1, 0, none⟩), .pointer (some ⟨w.heap.size + 1, 0, none⟩)]) ∧
      w' = ((w.alloc (.cells V.toArray 152)).alloc (.cells #[.int .i64 sp] 3)).alloc (.cells #[.int .i64 last] 3) := by
  go_enter Tryz.func120, Tryz.ntmps120
  go_wp2
  go_ret
  exact ⟨rfl, rfl⟩

end Go.Proofs.YtpnnlmaipcjkmaaGreat
