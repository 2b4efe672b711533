/-
  Some of the chapter's examples are so.
-/
import Derived.Test.YthjpgpelbagceaaFvB
import Derived.Deep.QuietTactic
import Derived.BigQuiet
set_option linter.all false
namespace Go.Proofs.Ythjpgpelbagceaa
open Go.RowKit Go.Maps
open R6 (done done_ne done_me upd_ne upd_me)

attribute [local go_sem] gives

theorem take_eq9 {α : Type} {xs ys : List α} {k : Nat} {z : α} (h : xs.take k = ys.take k) (h1 : k < xs.length) (h2 : k < ys.length) (he : xs[k]?.getD z = ys[k]?.getD z) : xs.take (k + 1) = ys.take (k + 1) := by
  rw [List.take_add_one, List.take_add_one, h]
  congr 1
  simp only [List.getElem?_eq_getElem h1, List.getElem?_eq_getElem h2, Option.getD_some] at he ⊢
  rw [he]

set_option maxHeartbeats 1000000 in
theorem sameInts9_any (A1 A2 : Option Addr) (c1 c2 : Nat) (xs ys : List Int) (B : Nat) (w : World) (h1 : Ints w B A1 xs) (h2 : Ints w B A2 ys) (l1 : xs.length ≤ 1000000) (l2 : ys.length ≤ 9223372036854775807) :
    Calls Try.prog 31 #[.slice A1 xs.length c1, .slice A2 ys.length c2] w fun e w' => e = .returned (.bool (decide (xs = ys))) ∧ Below w.heap.size w w' := by
  have H1 := Lib.hid h1
  have H2 := Lib.hid h2
  clear h1 h2
  rcases Nat.lt_trichotomy xs.length ys.length with hl | hl | hl
  case inr.inl =>
    have HE := Lib.hid hl
    rw [← hl]
    clear hl
    go_enter Try.func31, Try.ntmps31
    go_wp2
    go_loopw [5] (fun i wr => ∃ k : Nat, k ≤ xs.length ∧ i = .int .i64 k ∧ Hid (xs.take k = ys.take k) ∧ Hid (Below w.heap.size w wr) ∧ Hid (∀ a : Addr, wr.cell? a = w.cell? a)) (fun i _ => xs.length - (intOf i).toNat)
    case atStart => exact ⟨0, Nat.zero_le _, rfl, by simp [Hid], Below.refl _ _, fun _ => rfl⟩
    case round =>
      obtain ⟨k, hk, rfl, ht, hB, hcw⟩ := hrel
      by_cases hlt : k < xs.length
      · obtain ⟨b, off, hA, _, hc⟩ := H1.out (by omega)
        obtain ⟨b', off', hA', _, hc'⟩ := H2.out (by rw [← HE.out]; omega)
        subst hA hA'
        have cx := (hcw.out _).trans (hc k hlt)
        have cy := (hcw.out _).trans (hc' k (by rw [← HE.out]; omega))
        clear hc hc'
        have hstep := take_eq9 (z := 0) ht.out hlt (by rw [← HE.out]; exact hlt)
        have hno : xs[k]?.getD 0 ≠ ys[k]?.getD 0 → decide (xs = ys) = false := fun h => by
          simp only [decide_eq_false_iff_not]; rintro rfl; exact h rfl
        generalize xs[k]?.getD 0 = x at cx hstep hno
        generalize ys[k]?.getD 0 = y at cy hstep hno
        have Hs := Lib.hid hstep
        have Hn := Lib.hid hno
        have b1 : (0 : Int) ≤ (k : Int) := by omega
        have b2 : (k : Int) < xs.length := by omega
        clear hstep hno
        by_cases hxy : x = y
        · subst hxy
          go_wp2
          go_quiet (fail)
          go_wp2
          go_roundw
          case rel => exact ⟨k + 1, by omega, by go_num, Hs.out (by simp), below_drewN hB.out _, hcw.out⟩
          case measure => simp [intOf] <;> omega
        · go_wp2
          go_quiet (fail)
          go_wp2
          go_ret
          exact ⟨by rw [Hn.out hxy]; rfl, below_drewN hB.out _⟩
      · have hd : decide (xs = ys) = true := by
          have h := ht.out
          have e : k = xs.length := by omega
          rw [e, List.take_of_length_le (Nat.le_refl _), HE.out, List.take_of_length_le (Nat.le_refl _)] at h
          simp [h]
        have Hd := Lib.hid hd
        clear hd
        go_wp2
        go_ret
        exact ⟨by rw [Hd.out]; rfl, hB.out⟩
  all_goals
    have hd : decide (xs = ys) = false := by simp only [decide_eq_false_iff_not]; rintro rfl; omega
    have Hd := Lib.hid hd
    clear hd
    go_enter Try.func31, Try.ntmps31
    go_wp2
    go_ret
    exact ⟨by rw [Hd.out]; rfl, Below.refl _ _⟩

theorem ex_fin : finE (exFu none) (760000, 830000) = 0 ∧ finL (exFu none) (760000, 830000) = [1, 3] := by decide +kernel
theorem ex_dri : driE (exBk none) exOs = 0 ∧ driL (exBk none) exOs = [415, 325, 278] := by decide +kernel
theorem ex_t0 : tonE (exFu none) 0 = 0 ∧ tonV (exFu none) 0 = (404761, 419512) := by decide +kernel
theorem ex_t1 : tonE (exFu none) 1 = 0 ∧ tonV (exFu none) 1 = (765765, 807511) := by decide +kernel
theorem ex_p0 : plaE (exFu none) 0 (400000, 420000) = 0 ∧ plaV (exFu none) 0 (400000, 420000) = 2 := by decide +kernel
theorem ex_p1 : plaE (exFu none) 0 (410000, 420000) = 0 ∧ plaV (exFu none) 0 (410000, 420000) = 1 := by decide +kernel
theorem ex_p2 : plaE (exFu none) 0 (420000, 430000) = 0 ∧ plaV (exFu none) 0 (420000, 430000) = 0 := by decide +kernel

end Go.Proofs.Ythjpgpelbagceaa
