/-
  Leaf walks: sums, spans, comparisons of lists.
-/
import Derived.Test.YtkjdapgkojfbmaaBasics
import Derived.Deep.QuietTactic
import Derived.BigQuiet
namespace Go.Proofs.Ytkjdapgkojfbmaa
open Go.RowKit

set_option maxHeartbeats 400000 in
theorem sum_any (A : Option Addr) (cap : Nat) (zs : List Int) (B : Nat) (w : World) (h : Ints w B A zs) (hl : zs.length ≤ 1000) (hb : Bnd 0 1000000 zs) :
    Calls Try.prog 77 #[.slice A zs.length cap] w fun e w' => e = .returned (.int .i64 zs.sum) ∧ w = w' := by
  have hbd := sum_take_bnd hb
  have hbd' := Lib.hid hbd
  have hb' := Lib.hid hb
  have h' := Lib.hid h
  clear h hb hbd
  go_enter Try.func77, Try.ntmps77
  go_wp2
  go_loop [3, 8] (fun t i => ∃ k : Nat, k ≤ zs.length ∧ i = .int .i64 k ∧ t = .int .i64 (zs.take k).sum) (fun _ i => zs.length - (intOf i).toNat)
  case atStart => exact ⟨0, Nat.zero_le _, rfl, by simp⟩
  case round =>
    obtain ⟨k, hk, rfl, rfl⟩ := hrel
    by_cases hlt : k < zs.length
    · obtain ⟨b, off, hA, _, hc⟩ := h'.out (by omega)
      subst hA
      have hcell := hc k hlt
      clear hc
      have hbk := hbd'.out k (by omega)
      have hbb := hb'.out k hlt
      have hs := sum_take_succ zs k hlt
      generalize zs[k]?.getD 0 = x at hcell hbb hs
      have hs' := Lib.hid hs
      clear hs
      go_wp2
      go_round
      case rel => exact ⟨k + 1, by omega, by go_num, by rw [hs'.out]⟩
      case measure => simp [intOf]; omega
    · go_wp2
      go_ret
      exact ⟨ret_int (by rw [List.take_of_length_le (by omega)]), rfl⟩

theorem Bnd.drop {lo hi : Int} {c : List Int} (h : Bnd lo hi c) (r : Nat) : Bnd lo hi (c.drop r) := fun k hk => by
  simp only [List.length_drop] at hk
  have := h (r + k) (by omega)
  simpa [List.getElem?_drop] using this
theorem Bnd.take {lo hi : Int} {c : List Int} (h : Bnd lo hi c) (r : Nat) : Bnd lo hi (c.take r) := fun k hk => by
  simp only [List.length_take] at hk
  have := h k (by omega)
  simpa [List.getElem?_take, show k < r by omega] using this

set_option maxHeartbeats 400000 in
theorem standing_any (h : Hab) (c : List Int) (hc : c.length = 7) (hb : Bnd 0 1000000 c) (w : World) :
    Calls Try.prog 68 #[gv h c] w fun e w' => e = .returned (.int .i64 c.sum) ∧ Below w.heap.size w w' := by
  have H := Lib.hid (sum_any (some ⟨w.heap.size, 6, none⟩) 7 c (w.heap.size + 1) (w.alloc (.cells (gcells h c) 96))
    (by have := ints_of_block (B := w.heap.size + 1) (r := 0) (heap_alloc_new w (.cells (gcells h c) 96)) (by omega) 7 (by omega); simpa [List.take_of_length_le (Nat.le_of_eq hc)] using this) (by omega) hb)
  rw [hc] at H
  obtain ⟨c0, c1, c2, c3, c4, c5, c6, rfl⟩ := len7 hc
  simp only [gv, gcells, hcells, ints, List.map_cons, List.map_nil, List.cons_append, List.nil_append] at H ⊢
  go_enter Try.func68, Try.ntmps68
  go_wp2_with (go_at_call 77; refine (H.out).mono ?_; rintro e w' ⟨rfl, rfl⟩)
  go_ret
  exact ⟨by simp, (Below.refl _ _).alloc (Nat.le_refl _) _⟩

end Go.Proofs.Ytkjdapgkojfbmaa
