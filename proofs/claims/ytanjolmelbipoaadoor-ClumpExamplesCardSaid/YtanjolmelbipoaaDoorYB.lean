/-
  The reference: sums, ages, cuts, a year.
-/
import Derived.Test.YtanjolmelbipoaaDoorYA
import Derived.Deep.QuietTactic
import Derived.BigQuiet
import Derived.RegionTactic
import Derived.ChangeAlike
import Derived.Outline
import Derived.Deep.RegionLaw
import Derived.Deep.DeepCutAuto
namespace Go.Proofs.YtanjolmelbipoaaDoor
open Go.RowKit

/-- A number is from lo to hi. -/
def inR (x lo hi : Int) : Bool := decide (lo ≤ x) && decide (x ≤ hi)
theorem inR_iff {x lo hi : Int} : inR x lo hi = true ↔ lo ≤ x ∧ x ≤ hi := by simp [inR]
theorem inR_not {x lo hi : Int} : inR x lo hi = false ↔ ¬ (lo ≤ x ∧ x ≤ hi) := by rw [← inR_iff, Bool.not_eq_true]

def hv (h : Hab) : Value := .agg #[.int .i64 h.lo, .int .i64 h.hi, .int .i64 h.bears, .int .i64 h.ripe, .int .i64 h.dies, .int .i64 h.keep]

/-- A habit is valid. -/
def okHab (h : Hab) : Bool := inR h.lo 0 1000 && inR h.hi h.lo 1000 && inR h.dies 1 6 && inR h.bears 0 h.dies && inR h.ripe 1 h.dies && inR h.keep 0 200

theorem chain6 (a b c d e f : Bool) : a = false ∨ (a = true ∧ b = false) ∨ (a = true ∧ b = true ∧ c = false) ∨ (a = true ∧ b = true ∧ c = true ∧ d = false) ∨
    (a = true ∧ b = true ∧ c = true ∧ d = true ∧ e = false) ∨ (a = true ∧ b = true ∧ c = true ∧ d = true ∧ e = true ∧ f = false) ∨ (a = true ∧ b = true ∧ c = true ∧ d = true ∧ e = true ∧ f = true) := by
  cases a <;> cases b <;> cases c <;> cases d <;> cases e <;> cases f <;> simp

end Go.Proofs.YtanjolmelbipoaaDoor

namespace Go.Proofs.YtanjolmelbipoaaDoor
open Go.RowKit

theorem Tryd.info3 : (Tryd.prog.info? 3).map (fun i => (i.zero, i.size, i.bytes)) = some (some (.int .i64 0), 1, 8) := by kernel_rfl

/-- What a call hands back: a new slice of the ints zs, of its own. -/
def NewInts (w : World) (zs : List Int) (e : Ending) (w' : World) : Prop :=
  ∃ g cap, e = .returned (.slice (some ⟨g, 0, none⟩) zs.length cap) ∧ zs.length ≤ cap ∧ w.heap.size ≤ g ∧ w'.heap[g]? = some (.cells (ints zs).toArray 3 (0, 0)) ∧ Below w.heap.size w w'

/-- A year later: none is of the age 0. -/
def ageL (l : List Int) : List Int := (0 :: l).take l.length

theorem ageL_len (l : List Int) : (ageL l).length = l.length := by simp [ageL]
def ageTo (l : List Int) (k : Nat) : List Int := (0 :: l).take k ++ List.replicate (l.length - k) 0
theorem ageTo_len (l : List Int) (k : Nat) (hk : k ≤ l.length) : (ageTo l k).length = l.length := by simp [ageTo]; omega
theorem ageTo_succ (l : List Int) (k : Nat) (h1 : 1 ≤ k) (hk : k < l.length) : (ageTo l k).set k (l[k - 1]?.getD 0) = ageTo l (k + 1) := by
  apply List.ext_getElem?
  intro i
  unfold ageTo
  by_cases hik : k = i
  · subst hik
    rw [List.getElem?_set_self (by simp; omega)]
    rw [List.getElem?_append_left (by simp; omega), List.getElem?_take]
    rw [if_pos (by omega)]
    obtain ⟨m, rfl⟩ : ∃ m, k = m + 1 := ⟨k - 1, by omega⟩
    simp [show m < l.length by omega]
  · rw [List.getElem?_set_ne hik]
    by_cases h2 : i < k
    · rw [List.getElem?_append_left (by simp; omega), List.getElem?_append_left (by simp; omega), List.getElem?_take, List.getElem?_take, if_pos h2, if_pos (by omega)]
    · rw [List.getElem?_append_right (by simp; omega), List.getElem?_append_right (by simp; omega)]
      simp only [List.length_take, List.length_cons, List.getElem?_replicate]
      by_cases h3 : i < l.length
      · rw [if_pos (by omega), if_pos (by omega)]
      · rw [if_neg (by omega), if_neg (by omega)]

end Go.Proofs.YtanjolmelbipoaaDoor

namespace Go.Proofs.YtanjolmelbipoaaDoor
open Go.RowKit

/-- What a cut hands back: two new slices. -/
def NewTwo (w : World) (xs ys : List Int) (e : Ending) (w' : World) : Prop :=
  ∃ g1 c1 g2 c2, e = .returned (.tuple #[.slice (some ⟨g1, 0, none⟩) xs.length c1, .slice (some ⟨g2, 0, none⟩) ys.length c2]) ∧ w.heap.size ≤ g1 ∧ w.heap.size ≤ g2 ∧ g1 ≠ g2 ∧ ys.length ≤ c2 ∧
    w'.ownsRow w.heap.size 3 1 (.slice (some ⟨g1, 0, none⟩) xs.length c1) xs.length (ints xs) ∧ w'.heap[g2]? = some (.cells (ints ys).toArray 3 (0, 0)) ∧ Below w.heap.size w w'

/-- A store into a new row, and one into an owned one. -/
theorem own_set2 {w : World} {base g1 g2 i j n cap : Nat} {xs ys : List Int} (h : w.ownsRow base 3 1 (.slice (some ⟨g1, 0, none⟩) n cap) n (ints xs)) (hG : w.heap[g2]? = some (.cells (ints ys).toArray 3 (0, 0))) (hne : g1 ≠ g2) (u v : Int) :
    ((w.setCell ⟨g2, j, none⟩ (.int .i64 u)).setCell ⟨g1, i, none⟩ (.int .i64 v)).ownsRow base 3 1 (.slice (some ⟨g1, 0, none⟩) n cap) n (ints (xs.set i v)) ∧
    ((w.setCell ⟨g2, j, none⟩ (.int .i64 u)).setCell ⟨g1, i, none⟩ (.int .i64 v)).heap[g2]? = some (.cells (ints (ys.set j u)).toArray 3 (0, 0)) := by
  refine ⟨?_, ?_⟩
  · have h2 := (own_far h (p := ⟨g2, j, none⟩) hne (.int .i64 u)).stored i (.int .i64 v)
    rw [show ints (xs.set i v) = (ints xs).set i (.int .i64 v) from by simp [ints, List.map_set]]
    exact h2.1
  · refine (heap_setCell_other _ _ _ _ hne.symm).trans ?_
    rw [heap_setCell_same w g2 j _ _ _ hG, ints_set]

end Go.Proofs.YtanjolmelbipoaaDoor

namespace Go.Proofs.YtanjolmelbipoaaDoor
open Go.RowKit

/-- What stands before a cut. -/
def nowL (l : List Int) (s : Int) : List Int := (ageL l).set 0 s
theorem nowL_len (l : List Int) (s : Int) : (nowL l s).length = l.length := by simp [nowL, ageL_len]
theorem ageL_bnd {M : Int} {l : List Int} (h : Bnd 0 M l) (hM : 0 ≤ M) : Bnd 0 M (ageL l) := fun k hk => by
  rw [ageL_len] at hk
  unfold ageL
  rw [List.getElem?_take, if_pos hk]
  cases k with
  | zero => simp [hM]
  | succ k => simp only [List.getElem?_cons_succ]; exact h k (by omega)
theorem nowL_bnd {M s : Int} {l : List Int} (h : Bnd 0 M l) (hs : 0 ≤ s) (hM : s ≤ M) : Bnd 0 M (nowL l s) := (ageL_bnd h (by omega)).set 0 hs hM

def yearL (l : List Int) (s n : Int) : List Int := (cutTo (nowL l s) n (l.length - 1) l.length).1
def goneL (l : List Int) (s n : Int) : List Int := (cutTo (nowL l s) n (l.length - 1) l.length).2.1

/-- What a year hands back, where enough are ripe. -/
def NewYear (w : World) (xs ys : List Int) (e : Ending) (w' : World) : Prop :=
  ∃ g1 c1 g2 c2, e = .returned (.tuple #[.slice (some ⟨g1, 0, none⟩) xs.length c1, .slice (some ⟨g2, 0, none⟩) ys.length c2, .bool true]) ∧ w.heap.size ≤ g1 ∧ w.heap.size ≤ g2 ∧ g1 ≠ g2 ∧ xs.length ≤ c1 ∧ ys.length ≤ c2 ∧
    Ints w' w'.heap.size (some ⟨g1, 0, none⟩) xs ∧ Ints w' w'.heap.size (some ⟨g2, 0, none⟩) ys ∧ (∀ k, w'.frozen? ⟨g1, k, none⟩ = false) ∧ (∀ k, w'.frozen? ⟨g2, k, none⟩ = false) ∧ Below w.heap.size w w'

/-- A year in which no more are cut than are ripe. -/
def yearOk (r : Nat) (l : List Int) (s n : Int) : Bool := decide (n ≤ ((nowL l s).drop r).sum)

end Go.Proofs.YtanjolmelbipoaaDoor

