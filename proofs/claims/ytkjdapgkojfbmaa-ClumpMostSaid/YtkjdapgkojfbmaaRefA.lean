/-
  The reference's small functions: spans, sums, a year later, a cut.
-/
import Derived.Test.YtkjdapgkojfbmaaBasics2
import Derived.Test.YtkjdapgkojfbmaaModel
import Derived.Deep.QuietTactic
import Derived.BigQuiet
import Derived.RegionTactic
import Derived.ChangeAlike
import Derived.Outline
namespace Go.Proofs.Ytkjdapgkojfbmaa
open Go.RowKit

set_option maxHeartbeats 400000 in
theorem refSum_any (A : Option Addr) (cap : Nat) (zs : List Int) (B : Nat) (w : World) (h : Ints w B A zs) (hl : zs.length ≤ 1000) (hb : Bnd 0 1000000 zs) :
    Calls Try.prog 35 #[.slice A zs.length cap] w fun e w' => e = .returned (.int .i64 zs.sum) ∧ w = w' := by
  have hbd := sum_take_bnd hb
  have hbd' := Lib.hid hbd
  have hb' := Lib.hid hb
  have h' := Lib.hid h
  clear h hb hbd
  go_enter Try.func35, Try.ntmps35
  go_wp2
  go_loop [3, 4] (fun t i => ∃ k : Nat, k ≤ zs.length ∧ i = .int .i64 k ∧ t = .int .i64 (zs.take k).sum) (fun _ i => zs.length - (intOf i).toNat)
  case atStart => exact ⟨0, Nat.zero_le _, rfl, by simp⟩
  case round =>
    obtain ⟨k, hk, rfl, rfl⟩ := hrel
    by_cases hlt : k < zs.length
    · obtain ⟨b, off, hA, _, hc⟩ := h'.out (by omega)
      subst hA
      have hcell := hc k hlt
      clear hc
      have hbk := hbd'.out k (by omega)
      have hbb := hb'.out k hlt
      have hs := sum_take_succ zs k hlt
      generalize zs[k]?.getD 0 = x at hcell hbb hs
      have hs' := Lib.hid hs
      clear hs
      go_wp2
      go_round
      case rel => exact ⟨k + 1, by omega, by go_num, by rw [hs'.out]⟩
      case measure => simp [intOf]; omega
    · go_wp2
      go_ret
      exact ⟨ret_int (by rw [List.take_of_length_le (by omega)]), rfl⟩

/-- A number is from lo to hi. -/
def inR (x lo hi : Int) : Bool := decide (lo ≤ x) && decide (x ≤ hi)
theorem inR_iff {x lo hi : Int} : inR x lo hi = true ↔ lo ≤ x ∧ x ≤ hi := by simp [inR]
theorem inR_not {x lo hi : Int} : inR x lo hi = false ↔ ¬ (lo ≤ x ∧ x ≤ hi) := by rw [← inR_iff, Bool.not_eq_true]

set_option maxHeartbeats 400000 in
theorem refWithin_any (x lo hi : Int) (w : World) :
    Calls Try.prog 54 #[.int .i64 x, .int .i64 lo, .int .i64 hi] w fun e w' => e = .returned (.bool (inR x lo hi)) ∧ w = w' := by
  by_cases h1 : lo ≤ x
  · by_cases h2 : x ≤ hi
    all_goals
      go_enter Try.func54, Try.ntmps54
      go_wp2
      go_ret
      exact ⟨by simp [inR, h1, h2] <;> omega, rfl⟩
  · go_enter Try.func54, Try.ntmps54
    go_wp2
    go_ret
    exact ⟨by simp [inR] <;> omega, rfl⟩

def hv (h : Hab) : Value := .agg #[.int .i64 h.lo, .int .i64 h.hi, .int .i64 h.bears, .int .i64 h.ripe, .int .i64 h.dies, .int .i64 h.keep]

/-- A habit is valid. -/
def okHab (h : Hab) : Bool := inR h.lo 0 1000 && inR h.hi h.lo 1000 && inR h.dies 1 6 && inR h.bears 0 h.dies && inR h.ripe 1 h.dies && inR h.keep 0 200

theorem chain6 (a b c d e f : Bool) : a = false ∨ (a = true ∧ b = false) ∨ (a = true ∧ b = true ∧ c = false) ∨ (a = true ∧ b = true ∧ c = true ∧ d = false) ∨
    (a = true ∧ b = true ∧ c = true ∧ d = true ∧ e = false) ∨ (a = true ∧ b = true ∧ c = true ∧ d = true ∧ e = true ∧ f = false) ∨ (a = true ∧ b = true ∧ c = true ∧ d = true ∧ e = true ∧ f = true) := by
  cases a <;> cases b <;> cases c <;> cases d <;> cases e <;> cases f <;> simp

set_option maxHeartbeats 2000000 in
theorem refHabit_any (h : Hab) (w : World) :
    Calls Try.prog 59 #[hv h] w fun e w' => e = .returned (.bool (okHab h)) ∧ Below w.heap.size w w' := by
  unfold okHab
  unfold hv
  rcases chain6 (inR h.lo 0 1000) (inR h.hi h.lo 1000) (inR h.dies 1 6) (inR h.bears 0 h.dies) (inR h.ripe 1 h.dies) (inR h.keep 0 200) with
    h1 | ⟨h1, h2⟩ | ⟨h1, h2, h3⟩ | ⟨h1, h2, h3, h4⟩ | ⟨h1, h2, h3, h4, h5⟩ | ⟨h1, h2, h3, h4, h5, h6⟩ | ⟨h1, h2, h3, h4, h5, h6⟩
  all_goals
    go_enter Try.func59, Try.ntmps59
    go_wp2_with (go_at_call 54; refine (refWithin_any _ _ _ _).mono ?_; rintro e w' ⟨rfl, rfl⟩)
    go_ret
    exact ⟨by simp [*], (Below.refl _ _).alloc (Nat.le_refl _) _⟩

end Go.Proofs.Ytkjdapgkojfbmaa
