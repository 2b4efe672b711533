/-
  A batch after some hours (the program's).
-/
import Derived.Test.YtfampdiompjmeaaCeF
import Derived.RangeFuncBound
import Derived.RangeFuncCalls
import Derived.Shelf.Abstract
namespace Go.Proofs.Ytfampdiompjmeaa
open Go.RowKit Go.Shelf

attribute [local go_sem] Oper.semAt_some

theorem hours_any (V : List Value) (sp last : Int) (w : World) : Calls Try.prog 68 #[.agg V.toArray, .int .i64 sp, .int .i64 last] w fun e w' =>
    e = .returned (.func (.func 86) #[] #[.pointer (some ⟨w.heap.size, 0, none⟩), .pointer (some ⟨w.heap.size + 1 + 1, 0, none⟩), .pointer (some ⟨w.heap.size + 1, 0, none⟩)]) ∧
      w' = ((w.alloc (.cells V.toArray 92)).alloc (.cells #[.int .i64 sp] 3)).alloc (.cells #[.int .i64 last] 3) := by
  go_enter Try.func68, Try.ntmps68
  go_wp2
  go_ret
  exact ⟨rfl, rfl⟩

set_option maxRecDepth 100000 in
set_option maxHeartbeats 8000000 in
theorem after_any (t : Bt) (A : Option Addr) (cap : Nat) (l : List Sl) (sp : Int) (st : St) (last : Nat) (B : Nat) (w : World) (hB : B ≤ w.heap.size) (hz : Rows w B A l)
    (h1 : 1 ≤ sp) (h2 : sp ≤ 250) (hg : GoodS t.water st) (hl : lens st.2 = lens (rws l)) (h300 : last ≤ 300) :
    Calls Try.prog 48 #[.agg (bs t (.slice A l.length cap) st).toArray, .int .i64 sp, .int .i64 last] w
      fun e w' => e = .returned (.agg (bs t (.slice A l.length cap) (runS t.water sp st last)).toArray) ∧ Below w.heap.size w w' := by
  obtain ⟨S, hS⟩ : ∃ S : Nat → List Value, S = fun k => bs t (.slice A l.length cap) (runS t.water sp st k) := ⟨_, rfl⟩
  obtain ⟨m, hm⟩ : ∃ m, m = stopK t.water sp st last := ⟨_, rfl⟩
  have hSlen : ∀ k, (S k).length = 30 := fun k => by rw [hS]; exact bv_len _ _ _ _
  have hSone : ∀ k, (S k).toArray.all (·.oneCell') = true := fun k => by
    rw [List.all_toArray, List.all_eq_true, hS]
    exact bv_one _ _ _ _ _ _
  have hSm : bs t (.slice A l.length cap) (runS t.water sp st last) = S m := by
    rw [runS_stop h1 h2 hg last last (by unfold stopK; have := lastK_le (fixB t.water sp st) last 0; omega) (Nat.le_refl _), hS, hm]
  rw [hSm]
  have hlen : (bs t (.slice A l.length cap) st).length = 30 := bv_len _ _ _ _
  have hone : (bs t (.slice A l.length cap) st).toArray.all (·.oneCell') = true := by
    rw [List.all_toArray, List.all_eq_true]
    exact bv_one _ _ _ _ _ _
  obtain ⟨V, hV⟩ : ∃ V, V = bs t (.slice A l.length cap) st := ⟨_, rfl⟩
  rw [← hV] at hlen hone ⊢
  have HV := Lib.hid (And.intro hV (And.intro hlen hone))
  have HZ := Lib.hid hz
  have HG := Lib.hid (And.intro hg hl)
  have HSS := Lib.hid (And.intro hS (And.intro hm (And.intro hSlen (And.intro hSone hSm))))
  clear hV hlen hone hz hg hl hS hm hSlen hSone hSm
  refine (callsIn_wide (n := 4)).1 ?_
  refine callsIn_of_wp_marks Try.func48 rfl trivial ?_ rfl
  simp only [Try.ntmps48, List.size_toArray, List.length_cons, List.length_nil, Nat.reduceAdd, Nat.reduceSub, Array.replicate_succ, Array.replicate_zero, List.push_toArray, List.append_toArray, List.nil_append, List.cons_append]
  gi_wp2_with (first
    | (show wpListIn _ _ _ _ _ (Oper.mk (some 10) _ _ _ _ _ :: _) _ _
       refine wpListIn_load_blk 92 (.tmp 3) rfl rfl rfl (alloc2_at0 w _ _) V (fun j v hj => by rw [Nat.zero_add, List.getElem?_toArray]; exact hj) (by rw [HV.out.2.1]; exact rowBatch) ?_)
    | (show wpListIn _ _ _ _ _ (Oper.mk none (Op.store _ (Operand.tmp 7) (Operand.tmp 10)) _ _ _ _ :: _) _ _
       refine wpListIn_store_blk 92 (.tmp 7) (.tmp 10) rfl rfl rfl rfl (alloc3_at2 w _ _ _) (by simp [HV.out.2.1]) HV.out.2.2 (by rw [List.size_toArray, HV.out.2.1]; exact rowBatch) ?_
       intro w4 hP4 hM4
       have hs4 := hP4.size
       simp only [World.size_alloc] at hs4
       have hb4 : Below w.heap.size w w4 := ((((Below.refl _ w).alloc (Nat.le_refl _) _).alloc (by simp) _).alloc (by simp; omega) _).trans (hP4.below (by omega))
       have h3 := (hP4.other w.heap.size (by omega)).trans (alloc3_at0 w _ _ _)
       have h6 : ∃ Z : List Value, w4.heap[w.heap.size + 1]? = some (.cells Z.toArray 92 (0, 0)) ∧ Z.length = 30 := ⟨_, (hP4.other (w.heap.size + 1) (by omega)).trans (alloc3_at1 w _ _ _), rfl⟩
       have H4 := Lib.hid (And.intro hb4 (And.intro h3 (And.intro h6 hM4)))
       have HS4 := Lib.hid hs4
       clear hP4 hM4 hb4 h3 h6 hs4)
    | (show wpListIn _ _ _ _ _ (Oper.mk (some 11) _ _ _ _ _ :: _) _ _
       refine wpListIn_load_blk 92 (.tmp 3) rfl rfl rfl H4.out.2.1 V (fun j v hj => by rw [Nat.zero_add, List.getElem?_toArray]; exact hj) (by rw [HV.out.2.1]; exact rowBatch) ?_)
    | (refine ⟨trivial, ?_⟩
       gi_at_call 68
       refine (callsIn_wide.2 (hours_any V sp last w4)).mono ?_
       rintro e w5 ⟨rfl, hw5⟩
       have H5 := Lib.hid hw5
       clear hw5))
  obtain ⟨hS, hm, hSlen, hSone, hSm⟩ := HSS.out
  have hV0 : V = S 0 := by rw [HV.out.1, hS]; rfl
  have hrow : ∀ (k : Nat) (r : Array Value), (seqH t (.slice A l.length cap) sp st last)[k]? = some r → r = #[.int .i64 (k : Int), .agg (S k).toArray] := fun k r h => by
    have hk : k < (seqH t (.slice A l.length cap) sp st last).length := (List.getElem?_eq_some_iff.1 h).1
    rw [seqH_len] at hk
    rw [seqH_at (by omega)] at h
    rw [← Option.some.inj h, hS]
    rfl
  have hlen := seqH_len t (.slice A l.length cap) sp st last
  rw [← hm] at hlen
  have hs4 := HS4.out
  have hs5 : w5.heap.size = w4.heap.size + 3 := by rw [H5.out]; simp
  have hb5 : Below w4.heap.size w4 w5 := by
    rw [H5.out]
    exact (((Below.refl _ _).alloc (Nat.le_refl _) _).alloc (by simp) _).alloc (by simp; omega) _
  have hbw5 : Below w.heap.size w w5 := H4.out.1.trans (hb5.mono (by omega))
  have HS := Lib.hid (And.intro hSlen (And.intro hSone (And.intro hrow (And.intro hlen hV0))))
  have h7 : w5.heap[w.heap.size + 1 + 1]? = some (.cells (S 0).toArray 92 (0, 0)) := by rw [← hV0]; exact (hb5.block _ (by omega)).trans H4.out.2.2.2
  have h6 : ∃ Z : List Value, w5.heap[w.heap.size + 1]? = some (.cells Z.toArray 92 (0, 0)) ∧ Z.length = 30 := H4.out.2.2.1.imp fun Z e => ⟨(hb5.block _ (by omega)).trans e.1, e.2⟩
  refine wpIn_rangeP rfl (by omega) (gf := 86) (lb := #[.pointer (some ⟨w4.heap.size, 0, none⟩), .pointer (some ⟨w4.heap.size + 1 + 1, 0, none⟩), .pointer (some ⟨w4.heap.size + 1, 0, none⟩)]) rfl trivial (enters_of Try.func86 (by kernel_rfl) rfl)
    (hours1 t A cap l sp st last (4 - 1) w.heap.size w4.heap.size (by omega) w5 (by omega) (by omega) ((HZ.out.mono hB).below hbw5) h1 h2 HG.out.1 HG.out.2 h300
      (by rw [H5.out, ← HV.out.1]; exact alloc3_at0 _ _ _ _) (by rw [H5.out]; exact alloc3_at1 _ _ _ _) (by rw [H5.out]; exact alloc3_at2 _ _ _ _)) (Below.refl _ _) (by omega) (fun k hk => by unfold capH at hk; omega)
    (fun r' hr' => by
      obtain ⟨k, hk, rfl⟩ := List.mem_map.1 hr'
      rfl)
    (fun k => k = w.heap.size + 1 + 1) (fun k hk => ⟨by omega, fun h => by unfold capH at h; omega, by omega⟩)
    (fun k A => A.heap[w.heap.size + 1 + 1]? = some (.cells (S (k - 1)).toArray 92 (0, 0)) ∧ (∃ Z : List Value, A.heap[w.heap.size + 1]? = some (.cells Z.toArray 92 (0, 0)) ∧ Z.length = 30) ∧ Below w.heap.size w A)
    (fun c k A => False)
    (fun k A B hi hb => ⟨(hb.block _ (by omega)).trans hi.1, hi.2.1.imp fun Z e => ⟨(hb.block _ (by omega)).trans e.1, e.2⟩, hi.2.2.trans (hb.mono (by omega))⟩)
    (fun c k A B hi hb => hi)
    ⟨h7, h6, hbw5⟩
    (fun k b a' A' => ∃ b', b ≤ b' ∧ A'.heap[b']? = some (.cells (S k).toArray 92 (0, 0)) ∧
      a' = { tmps := #[.agg V.toArray, .int .i64 sp, .int .i64 (last : Int), .pointer (some ⟨w.heap.size, 0, none⟩), undef, undef, .pointer (some ⟨w.heap.size + 1, 0, none⟩), .pointer (some ⟨w.heap.size + 1 + 1, 0, none⟩), undef, .pointer (some ⟨b', 0, none⟩),
        .agg V.toArray, .agg V.toArray, .int .i64 sp, .int .i64 (last : Int), .func (.func 86) #[] #[.pointer (some ⟨w4.heap.size, 0, none⟩), .pointer (some ⟨w4.heap.size + 1 + 1, 0, none⟩), .pointer (some ⟨w4.heap.size + 1, 0, none⟩)],
        .int .i64 (k : Int), .agg (S k).toArray, undef, undef], defers := [] })
    (fun k b a' A B hx hj => by
      obtain ⟨b', hb, hc, ha⟩ := hx
      exact ⟨b', hb, (hj b' hb).trans hc, ha⟩) ?assign ?body ?done ?stop
  case assign =>
    rintro L k r' W1 K hr' ⟨_, _, _⟩ hK
    obtain rfl := HS.out.2.2.1 k r' hr'
    have hKK := Lib.hid hK
    clear hK hr' hS hSlen hSone hrow hlen hs5 h6 h7 hm hSm hV0 hb5 hbw5 hs4
    gi_wp2_with
      (show wpListIn _ _ _ _ _ (Oper.mk none (Op.store _ (Operand.tmp 9) (Operand.tmp 16)) _ _ _ _ :: _) _ _
       refine wpListIn_store_blk 92 (.tmp 9) (.tmp 16) rfl rfl rfl rfl (alloc_at0 W1 _) (by simp [HS.out.1]) (HS.out.2.1 k) (by rw [List.size_toArray, HS.out.1]; exact rowBatch) ?_
       intro w2 hP2 hM2
       have H2 := Lib.hid (And.intro hP2 hM2)
       clear hP2 hM2)
    exact hKK.out _ _ (((Below.refl _ W1).alloc (Nat.le_refl _) _).trans (H2.out.1.below (Nat.le_refl _))) ⟨_, Nat.le_refl _, H2.out.2, rfl⟩
  case body =>
    rintro L k b r' a' W1 hr' hwb hbW' ⟨hi7, hi6, hbel⟩ ⟨b', hbb, hc, rfl⟩
    have HH := Lib.hid (And.intro hi7 (And.intro hi6 (And.intro hbel hc)))
    clear hi7 hi6 hbel hc hr' hS hSlen hSone hrow hlen hs5 h6 h7 hm hSm hV0 hb5 hbw5 hs4
    gi_wp2_with (first
      | (show wpListIn _ _ _ _ _ (Oper.mk (some 17) _ _ _ _ _ :: _) _ _
         refine wpListIn_load_blk 92 (.tmp 9) rfl rfl rfl HH.out.2.2.2 (S k) (fun j v hj => by rw [Nat.zero_add, List.getElem?_toArray]; exact hj) (by rw [HS.out.1]; exact rowBatch) ?_)
      | (show wpListIn _ _ _ _ _ (Oper.mk none (Op.store _ (Operand.tmp 7) (Operand.tmp 17)) _ _ _ _ :: _) _ _
         refine wpListIn_store_blk 92 (.tmp 7) (.tmp 17) rfl rfl rfl rfl HH.out.1 (by simp [HS.out.1]) (HS.out.2.1 k) (by rw [List.size_toArray, HS.out.1]; exact rowBatch) ?_
         intro w2 hP2 hM2
         have H2 := Lib.hid (And.intro hP2 hM2)
         clear hP2 hM2))
    exact ⟨H2.out.1.keepsX _ (.inl rfl), H2.out.2, HH.out.2.1.imp fun Z e => ⟨(H2.out.1.other _ (by omega)).trans e.1, e.2⟩, HH.out.2.2.1.trans (H2.out.1.below (by omega))⟩
  case done =>
    rintro D W3 hD3 ⟨hi7, ⟨Z, hi6, hZl⟩, hbel⟩ hD
    rw [hlen, Nat.add_sub_cancel] at hi7
    have hDs : w.heap.size + 1 ≠ D ∧ w.heap.size ≤ D := by omega
    have HH := Lib.hid (And.intro hi7 (And.intro hi6 (And.intro hbel (And.intro hD (And.intro hZl hDs)))))
    clear hi7 hi6 hbel hD hZl hDs hD3 hS hSlen hSone hrow hlen hs5 h6 h7 hm hSm hV0 hb5 hbw5 hs4
    gi_wp2_with (first
      | (show wpListIn _ _ _ _ _ (Oper.mk (some 18) _ _ _ _ _ :: _) _ _
         refine wpListIn_load_blk 92 (.tmp 7) rfl rfl rfl HH.out.1 (S m) (fun j v hj => by rw [Nat.zero_add, List.getElem?_toArray]; exact hj) (by rw [HS.out.1]; exact rowBatch) ?_)
      | (show wpListIn _ _ _ _ _ (Oper.mk none (Op.store _ (Operand.tmp 6) (Operand.tmp 18)) _ _ _ _ :: _) _ _
         refine wpListIn_store_blk 92 (.tmp 6) (.tmp 18) rfl rfl rfl rfl HH.out.2.1 (by simp [HS.out.1, HH.out.2.2.2.2.1]) (HS.out.2.1 m) (by rw [List.size_toArray, HS.out.1]; exact rowBatch) ?_
         intro w2 hP2 hM2
         have H2 := Lib.hid (And.intro hP2 hM2)
         clear hP2 hM2))
    have hd2 := (H2.out.1.other D (Ne.symm HH.out.2.2.2.2.2.1)).trans HH.out.2.2.2.1
    have hres := (World.putObj_heap_other (r := D) (o := .deferred none) HH.out.2.2.2.2.2.1).trans H2.out.2
    refine ⟨by simp, .inl ⟨_, _, rfl, run_takeDeferred hd2, ?_⟩⟩
    refine ⟨.agg (S m).toArray, results_cell Try.results48 rfl hres (by rw [HS.out.1]; exact rowBatch), rfl, ?_⟩
    exact below_putObj (HH.out.2.2.1.trans (H2.out.1.below (by omega))) HH.out.2.2.2.2.2.2 _
  case stop =>
    rintro D c k W3 rfl hk h
    exact h.elim

end Go.Proofs.Ytfampdiompjmeaa
