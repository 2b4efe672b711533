/-
  Whether numbers are in a span; spans.
-/
import Derived.Test.YthjpgpelbagceaaG1
import Derived.Deep.LoopGhost
set_option linter.all false
namespace Go.Proofs.Ythjpgpelbagceaa
open Go.RowKit

/-- The first index at which something is so, -1 if there is none. -/
def idxL {α : Type} (P : α → Bool) : List α → Nat → Int
  | [], _ => -1
  | x :: l, i => if P x = true then (i : Int) else idxL P l (i + 1)
theorem idxL_step {α : Type} {P : α → Bool} {zs : List α} {k : Nat} (hk : k < zs.length) : idxL P (zs.drop k) k = if P zs[k] = true then (k : Int) else idxL P (zs.drop (k + 1)) (k + 1) := by
  rw [List.drop_eq_getElem_cons hk]; rfl
theorem idxL_iff {α : Type} {P : α → Bool} : ∀ (l : List α) (i : Nat), 0 ≤ idxL P l i ↔ l.any P = true
  | [], _ => by simp [idxL]
  | x :: l, i => by
    have ih := idxL_iff (P := P) l (i + 1)
    by_cases h : P x = true
    · have e : idxL P (x :: l) i = (i : Int) := by simp [idxL, h]
      rw [e, List.any_cons, h]
      simp
    · have e : idxL P (x :: l) i = idxL P l (i + 1) := by simp [idxL, h]
      rw [e, List.any_cons, show P x = false by simpa using h, Bool.false_or]
      exact ih
theorem idxL_any {α : Type} {P : α → Bool} (l : List α) (i : Nat) : decide (0 ≤ idxL P l i) = l.any P := by
  rw [Bool.eq_iff_iff, decide_eq_true_iff]
  exact idxL_iff l i
theorem idxL_bnd {α : Type} {P : α → Bool} : ∀ (l : List α) (i : Nat), -1 ≤ idxL P l i ∧ idxL P l i < i + l.length
  | [], i => by simp [idxL]; omega
  | x :: l, i => by
    have := idxL_bnd (P := P) l (i + 1)
    simp only [idxL, List.length_cons]
    split <;> omega

def outB (lo hi n : Int) : Bool := decide (n < lo) || decide (hi < n)

/-- All numbers are in a span. -/
def allB (lo hi : Int) (zs : List Int) : Bool := zs.all fun n => inR n lo hi
theorem allB_any (lo hi : Int) (zs : List Int) : allB lo hi zs = !zs.any (outB lo hi) := by
  unfold allB
  rw [Bool.eq_iff_iff]
  simp only [List.all_eq_true, Bool.not_eq_true', List.any_eq_false, inR_iff, outB, Bool.or_eq_true, decide_eq_true_eq, not_or]
  constructor
  · intro h x hx; have := h x hx; omega
  · intro h x hx; have := h x hx; omega

end Go.Proofs.Ythjpgpelbagceaa
