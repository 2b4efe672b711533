/-
  A grove a year later; how many are ripe.
-/
import Derived.Test.YtkjdapgkojfbmaaLeafA
import Derived.Test.YtkjdapgkojfbmaaModel
import Derived.RegionTactic
import Derived.ChangeAlike
import Derived.Outline
namespace Go.Proofs.Ytkjdapgkojfbmaa
open Go.RowKit

set_option maxHeartbeats 400000 in
theorem ripe_any (h : Hab) (r : Nat) (hr : h.ripe = r) (hr6 : r ≤ 6) (c : List Int) (hc : c.length = 7) (hb : Bnd 0 1000000 c) (w : World) :
    Calls Try.prog 75 #[gv h c] w fun e w' => e = .returned (.int .i64 (c.drop r).sum) ∧ Below w.heap.size w w' := by
  obtain ⟨lo, hi, be, ri, di, ke⟩ := h
  simp only at hr
  subst hr
  have hI := ints_of_block (B := w.heap.size + 1) (r := r) (heap_alloc_new w (.cells (gcells ⟨lo, hi, be, r, di, ke⟩ c) 96)) (by omega) (7 - r) (by omega)
  have e7 : (c.drop r).take (7 - r) = c.drop r := List.take_of_length_le (by simp [hc])
  rw [e7] at hI
  have H := sum_any (some ⟨w.heap.size, 6 + r, none⟩) (7 - r) (c.drop r) (w.heap.size + 1) _ hI (by simp; omega) (hb.drop r)
  rw [List.length_drop, hc] at H
  have HH := Lib.hid H
  have hgv : gv ⟨lo, hi, be, r, di, ke⟩ c = .agg (gcells ⟨lo, hi, be, r, di, ke⟩ c) := rfl
  rw [hgv]
  clear H hI e7 hgv
  obtain ⟨c0, c1, c2, c3, c4, c5, c6, rfl⟩ := len7 hc
  have hg : gcells ⟨lo, hi, be, r, di, ke⟩ [c0, c1, c2, c3, c4, c5, c6] = #[.int .i64 lo, .int .i64 hi, .int .i64 be, .int .i64 r, .int .i64 di, .int .i64 ke, .int .i64 c0, .int .i64 c1, .int .i64 c2, .int .i64 c3, .int .i64 c4, .int .i64 c5, .int .i64 c6] := rfl
  rw [hg] at HH ⊢
  generalize (List.drop r [c0, c1, c2, c3, c4, c5, c6]).sum = S at HH ⊢
  have b1 : (0 : Int) ≤ (r : Int) := by omega
  have b2 : (r : Int) ≤ 7 := by omega
  have b3 : ¬ (7 : Nat) = r := by omega
  clear hg hb hc
  go_enter Try.func75, Try.ntmps75
  go_wp2_with (go_at_call 77; refine (HH.out).mono ?_; rintro e w' ⟨rfl, rfl⟩)
  go_ret
  exact ⟨rfl, (Below.refl _ _).alloc (Nat.le_refl _) _⟩

set_option maxHeartbeats 1000000 in
theorem later_any (h : Hab) (d : Nat) (hd : h.dies = d) (hd6 : d ≤ 6) (c : List Int) (hc : c.length = 7) (s : Int) (w : World) :
    Calls Try.prog 66 #[gv h c, .int .i64 s] w fun e w' => e = .returned (gv h (laterP d c s)) ∧ Below w.heap.size w w' := by
  obtain ⟨lo, hi, be, ri, di, ke⟩ := h
  simp only at hd
  subst hd
  have hc0 := Lib.hid hc
  obtain ⟨c0, c1, c2, c3, c4, c5, c6, hc7⟩ := len7 hc
  clear hc
  rw [show gv ⟨lo, hi, be, ri, (d : Int), ke⟩ c = .agg #[.int .i64 lo, .int .i64 hi, .int .i64 be, .int .i64 ri, .int .i64 d, .int .i64 ke, .int .i64 c0, .int .i64 c1, .int .i64 c2, .int .i64 c3, .int .i64 c4, .int .i64 c5, .int .i64 c6] from by rw [hc7]; rfl]
  go_enter Try.func66, Try.ntmps66
  go_wp2
  go_loopw [12] (fun i wr => ∃ k : Nat, k ≤ d ∧ i = .int .i64 k ∧ Hid (wr.heap[w.heap.size]? = some (.cells (gcells ⟨lo, hi, be, ri, d, ke⟩ c) 96 (0, 0))) ∧
      Hid (wr.heap[w.heap.size + 1]? = some (.cells (gcells ⟨0, 0, 0, 0, 0, 0⟩ [0, 0, 0, 0, 0, 0, 0]) 96 (0, 0))) ∧
      Hid (wr.heap[w.heap.size + 1 + 1]? = some (.cells (ints (laterP k c s)).toArray 81 (0, 0))) ∧ Hid (Below w.heap.size w wr))
    (fun i _ => d - (intOf i).toNat)
  case atStart =>
    refine ⟨0, Nat.zero_le _, rfl, ?_, ?_, ?_, ?_⟩
    · show _ = _
      first | (rw [alloc3_at0, hc7]; rfl) | (rw [heap_setCell_other _ _ _ _ (by simp), alloc3_at0, hc7]; rfl)
    · show _ = _
      first | (rw [alloc3_at1]; rfl) | (rw [heap_setCell_other _ _ _ _ (by simp), alloc3_at1]; rfl)
    · show _ = _
      rw [alloc3_at2]; rfl
    · exact (((Below.refl _ _).alloc (Nat.le_refl _) _).alloc (by simp) _).alloc (by simp; omega) _
  case round =>
    obtain ⟨k, hk, rfl, hP, hR, hG, hBel⟩ := hrel
    by_cases hlt : k < d
    · have cx : wr.cell? ⟨w.heap.size, 6 + k, none⟩ = _ := (cell_of_row wr _ _ _ _ _ hP.out).trans (gcells_at _ _ k (by rw [hc0.out]; omega))
      have hlen := laterP_len s (show k ≤ 6 by omega) hc0.out
      have cg : wr.cell? ⟨w.heap.size + 1 + 1, k + 1, none⟩ = _ := (cell_of_row wr _ _ _ _ _ hG.out).trans (ints_at _ (k + 1) (by omega))
      have fg := frozen_of_row wr _ (k + 1) _ _ hG.out
      have hs := laterP_succ s (show k < 6 by omega) hc0.out
      generalize c[k]?.getD 0 = x at cx hs
      have hst := heap_setCell_same wr (w.heap.size + 1 + 1) (k + 1) _ _ (.int .i64 x) hG.out
      rw [ints_set, hs] at hst
      have HS := Lib.hid (And.intro hst (And.intro (heap_setCell_other wr ⟨w.heap.size + 1 + 1, k + 1, none⟩ w.heap.size (.int .i64 x) (by simp; omega)) (heap_setCell_other wr ⟨w.heap.size + 1 + 1, k + 1, none⟩ (w.heap.size + 1) (.int .i64 x) (by simp))))
      have HB := Lib.hid (hBel.out.setCell (p := ⟨w.heap.size + 1 + 1, k + 1, none⟩) (by simp; omega) (.int .i64 x))
      have b1 : (k : Int) < 6 := by omega
      have b2 : (0 : Int) ≤ (k : Int) := by omega
      clear hs hlen hst hc7
      go_wp2
      go_roundw
      case rel => exact ⟨k + 1, by omega, by go_num, HS.out.2.1.trans hP.out, HS.out.2.2.trans hR.out, HS.out.1, HB.out⟩
      case measure => simp [intOf] <;> omega
    · obtain rfl : k = d := by omega
      have hlen := laterP_len s hd6 hc0.out
      generalize hst : laterP k c s = l at hG hlen ⊢
      obtain ⟨p0, p1, p2, p3, p4, p5, p6, hp⟩ := len7 hlen
      have cP := fun i => cell_of_row wr w.heap.size i _ _ _ hP.out
      have fP := fun i => frozen_of_row wr w.heap.size i _ _ hP.out
      have cG := fun i => cell_of_row wr (w.heap.size + 1 + 1) i _ _ _ hG.out
      have fR := fun i => frozen_of_row wr (w.heap.size + 1) i _ _ hR.out
      have cR := fun i => cell_of_row wr (w.heap.size + 1) i _ _ _ hR.out
      rw [hc7] at cP
      rw [hp] at cG
      simp only [gcells, hcells, ints, List.map_cons, List.map_nil, List.cons_append, List.nil_append] at cP cG cR
      have HL := Lib.hid (And.intro hst hp)
      clear hlen hst hp hc7
      go_wp2
      refine bodyPost_ret (v := .agg #[.int .i64 lo, .int .i64 hi, .int .i64 be, .int .i64 ri, .int .i64 k, .int .i64 ke, .int .i64 p0, .int .i64 p1, .int .i64 p2, .int .i64 p3, .int .i64 p4, .int .i64 p5, .int .i64 p6]) (by simp [results, Try.results66, go_sem, cR]) rfl ⟨?_, ?_⟩
      · rw [HL.out.1, HL.out.2]; rfl
      · have hBel := hBel.out
        repeat (first | with_reducible assumption | with_reducible refine Below.drew ?_ | (with_reducible refine Below.setCell ?_ ?hp _; case hp => simp; try omega))

end Go.Proofs.Ytkjdapgkojfbmaa
