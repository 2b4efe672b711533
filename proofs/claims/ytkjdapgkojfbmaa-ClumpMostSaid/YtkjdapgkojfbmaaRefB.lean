/-
  The reference's year: a year later, a cut.
-/
import Derived.Test.YtkjdapgkojfbmaaRefA
namespace Go.Proofs.Ytkjdapgkojfbmaa
open Go.RowKit

theorem Try.info3 : (Try.prog.info? 3).map (fun i => (i.zero, i.size, i.bytes)) = some (some (.int .i64 0), 1, 8) := by kernel_rfl

/-- What a call hands back: a new slice of the ints zs, of its own. -/
def NewInts (w : World) (zs : List Int) (e : Ending) (w' : World) : Prop :=
  ∃ g cap, e = .returned (.slice (some ⟨g, 0, none⟩) zs.length cap) ∧ zs.length ≤ cap ∧ w.heap.size ≤ g ∧ w'.heap[g]? = some (.cells (ints zs).toArray 3 (0, 0)) ∧ Below w.heap.size w w'

/-- A year later: none is of the age 0. -/
def ageL (l : List Int) : List Int := (0 :: l).take l.length

theorem ageL_len (l : List Int) : (ageL l).length = l.length := by simp [ageL]
def ageTo (l : List Int) (k : Nat) : List Int := (0 :: l).take k ++ List.replicate (l.length - k) 0
theorem ageTo_len (l : List Int) (k : Nat) (hk : k ≤ l.length) : (ageTo l k).length = l.length := by simp [ageTo]; omega
theorem ageTo_succ (l : List Int) (k : Nat) (h1 : 1 ≤ k) (hk : k < l.length) : (ageTo l k).set k (l[k - 1]?.getD 0) = ageTo l (k + 1) := by
  apply List.ext_getElem?
  intro i
  unfold ageTo
  by_cases hik : k = i
  · subst hik
    rw [List.getElem?_set_self (by simp; omega)]
    rw [List.getElem?_append_left (by simp; omega), List.getElem?_take]
    rw [if_pos (by omega)]
    obtain ⟨m, rfl⟩ : ∃ m, k = m + 1 := ⟨k - 1, by omega⟩
    simp [show m < l.length by omega]
  · rw [List.getElem?_set_ne hik]
    by_cases h2 : i < k
    · rw [List.getElem?_append_left (by simp; omega), List.getElem?_append_left (by simp; omega), List.getElem?_take, List.getElem?_take, if_pos h2, if_pos (by omega)]
    · rw [List.getElem?_append_right (by simp; omega), List.getElem?_append_right (by simp; omega)]
      simp only [List.length_take, List.length_cons, List.getElem?_replicate]
      by_cases h3 : i < l.length
      · rw [if_pos (by omega), if_pos (by omega)]
      · rw [if_neg (by omega), if_neg (by omega)]

set_option maxHeartbeats 1000000 in
theorem refAge_any (A : Option Addr) (cap : Nat) (zs : List Int) (B : Nat) (w : World) (hB : B ≤ w.heap.size) (h : Ints w B A zs) (hl1 : 1 ≤ zs.length) (hl : zs.length ≤ 1000) :
    Calls Try.prog 55 #[.slice A zs.length cap] w (NewInts w (ageL zs)) := by
  obtain ⟨i0, hi, hz0, hz1, hz2⟩ := info_parts Try.info3
  have hmk := fun W => run_make_ints (P := Try.prog) 26 3 i0 Try.underlying26 hi hz0 hz1 hz2 zs.length (by omega) W
  have h' := Lib.hid h
  clear h hi hz0 hz1 hz2
  go_enter Try.func55, Try.ntmps55
  go_wp2
  go_loopw [4] (fun i wr => ∃ j : Nat, j < zs.length ∧ i = .int .i64 ((j : Int) + 1) ∧ wr.heap[w.heap.size]? = some (.cells (ints (ageTo zs (j + 1))).toArray 3 (0, 0)) ∧ Below w.heap.size w wr)
    (fun i _ => zs.length - (intOf i).toNat)
  case atStart =>
    refine ⟨0, by omega, rfl, ?_, (Below.refl _ _).alloc (Nat.le_refl _) _⟩
    rw [alloc_at0]
    congr 3
    cases zs with
    | nil => simp at hl1
    | cons z zs => simp [ageTo, List.replicate_succ]
  case round =>
    obtain ⟨j, hj, rfl, hG, hBel⟩ := hrel
    by_cases hlt : j + 1 < zs.length
    · obtain ⟨b, off, hA, hbB, hc⟩ := h'.out (by omega)
      subst hA
      have hcell : wr.cell? ⟨b, off + j, none⟩ = _ := (hBel.cell (p := ⟨b, off + j, none⟩) (by simp; omega)).trans (hc j (by omega))
      clear hc
      have hlen := ageTo_len zs (j + 1) (by omega)
      have cg : wr.cell? ⟨w.heap.size, j + 1, none⟩ = _ := (cell_of_row wr _ _ _ _ _ hG).trans (ints_at _ (j + 1) (by omega))
      have fg := frozen_of_row wr _ (j + 1) _ _ hG
      have hs := ageTo_succ zs (j + 1) (by omega) hlt
      simp only [Nat.add_sub_cancel] at hs
      generalize zs[j]?.getD 0 = x at hcell hs
      have hst := heap_setCell_same wr w.heap.size (j + 1) _ _ (.int .i64 x) hG
      rw [ints_set, hs] at hst
      have HS := Lib.hid hst
      have HB := Lib.hid (hBel.setCell (p := ⟨w.heap.size, j + 1, none⟩) (Nat.le_refl _) (.int .i64 x))
      have hlt' : (j : Int) + 1 < zs.length := by omega
      clear hG hBel hs hlen hst h'
      go_wp2
      go_roundw
      case rel => exact ⟨j + 1, by omega, by simp, HS.out, HB.out⟩
      case measure => simp [intOf]; omega
    · have e : zs.length = j + 1 := by omega
      have hf : ageTo zs (j + 1) = ageL zs := by rw [← e]; simp [ageTo, ageL]
      rw [hf] at hG
      have HG := Lib.hid hG
      have HB := Lib.hid hBel
      have hlt' : (zs.length : Int) ≤ (j : Int) + 1 := by omega
      clear hG hBel e hf h' hmk
      go_wp2
      go_ret
      exact ⟨w.heap.size, zs.length, by rw [ageL_len]; rfl, by rw [ageL_len]; exact Nat.le_refl _, Nat.le_refl _, HG.out, HB.out⟩

end Go.Proofs.Ytkjdapgkojfbmaa
