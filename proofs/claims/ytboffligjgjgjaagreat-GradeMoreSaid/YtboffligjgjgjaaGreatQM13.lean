/-
  The reference's Check, Stand and Taken.
-/
import Derived.Deep.RegionHeld3
import Derived.Deep.DrawnRows
import Derived.Test.YtboffligjgjgjaaGreatQM1
import Derived.Test.YtboffligjgjgjaaGreatQM11
set_option linter.all false
namespace Go.Proofs.YtboffligjgjgjaaGreat
open Go.RowKit

/-- The error of a look. -/
def errG (g : Gr) : Int := if okGrove g = true then 0 else 10

/-- Whether a year is one of a book. -/
def hasY (g : Gr) (y : Int) : Bool := inR y g.first (g.first + g.seas.length)

/-- What was cut in the last of m seasons. -/
def goneAt (g : Gr) : Nat → List Int
  | 0 => List.replicate g.start.length 0
  | m + 1 => goneL (runL g.start (g.seas.take m)) (g.seas[m]?.getD (0, 0)).1 (g.seas[m]?.getD (0, 0)).2

theorem seasOk_all {r : Nat} : ∀ {ss : List (Int × Int)} {l : List Int}, seasOk r l ss = true → ∀ k, k < ss.length →
    inR (ss[k]?.getD (0, 0)).1 0 30 = true ∧ inR (ss[k]?.getD (0, 0)).2 0 30 = true ∧ yearOk r (runL l (ss.take k)) (ss[k]?.getD (0, 0)).1 (ss[k]?.getD (0, 0)).2 = true := by
  intro ss
  induction ss with
  | nil => intro l _ k hk; simp at hk
  | cons p ss ih =>
    intro l h k hk
    simp only [seasOk, Bool.and_eq_true] at h
    cases k with
    | zero => simpa [runL] using ⟨h.1.1.1, h.1.1.2, h.1.2⟩
    | succ k =>
      have := ih h.2 k (by simpa using hk)
      simpa [runL] using this

/-- What is known of a valid grove's seasons. -/
structure Runs (g : Gr) (d r : Nat) : Prop where
  pre : Pre g d r
  b9 : Bnd 0 9 g.start
  yr : ∀ k, k < g.seas.length → (0 ≤ (g.seas[k]?.getD (0, 0)).1 ∧ (g.seas[k]?.getD (0, 0)).1 ≤ 30) ∧ (0 ≤ (g.seas[k]?.getD (0, 0)).2 ∧ (g.seas[k]?.getD (0, 0)).2 ≤ 30) ∧
    yearOk r (runL g.start (g.seas.take k)) (g.seas[k]?.getD (0, 0)).1 (g.seas[k]?.getD (0, 0)).2 = true

theorem okGrove_runs {g : Gr} (h : okGrove g = true) : ∃ d r, Runs g d r := by
  simp only [okGrove, Bool.and_eq_true] at h
  obtain ⟨d, r, P⟩ := okPre_pre h.1.1
  refine ⟨d, r, P, okStart_at h.1.2, fun k hk => ?_⟩
  have := seasOk_all h.2 k hk
  rw [P.hr, Int.toNat_natCast] at this
  exact ⟨inR_iff.1 this.1, inR_iff.1 this.2.1, this.2.2⟩

theorem runL_len (l : List Int) (ss : List (Int × Int)) : (runL l ss).length = l.length := by
  induction ss generalizing l with
  | nil => rfl
  | cons p ss ih => simp only [runL, List.foldl_cons] at ih ⊢; rw [ih, yearL_len]

theorem Runs.bnd {g : Gr} {d r : Nat} (R : Runs g d r) : ∀ k, k ≤ g.seas.length → Bnd 0 30 (runL g.start (g.seas.take k)) := by
  intro k
  induction k with
  | zero => intro _ j hj; have := R.b9 j (by simpa [runL] using hj); simp only [runL, List.take_zero, List.foldl_nil]; omega
  | succ k ih =>
    intro hk
    have h1 := ih (by omega)
    have h2 := R.yr k (by omega)
    rw [runL_succ _ _ _ (by omega)]
    exact yearL_bnd h1 (by rw [runL_len, R.pre.ls]; omega) h2.1.1 h2.1.2 h2.2.1.1 h2.2.1.2

end Go.Proofs.YtboffligjgjgjaaGreat

namespace Go.Proofs.YtboffligjgjgjaaGreat
open Go.RowKit

def standErr (g : Gr) (y : Int) : Int := if okGrove g = true then (if hasY g y = true then 0 else 6) else 10
def standVal (g : Gr) (y : Int) : List Int := if okGrove g = true ∧ hasY g y = true then runL g.start (g.seas.take (y - g.first).toNat) else []

/-- A list of ints and an error are handed back: the list in new memory. -/
def ListPost (w : World) (xs : List Int) (er : Int) (e : Ending) (w' : World) : Prop :=
  ∃ A c, e = .returned (.tuple #[.slice A xs.length c, .int .i64 er]) ∧ xs.length ≤ c ∧ Ints w' w'.heap.size A xs ∧
    (0 < xs.length → ∃ g, A = some ⟨g, 0, none⟩ ∧ w.heap.size ≤ g ∧ ∀ k, w'.frozen? ⟨g, k, none⟩ = false) ∧ Below w.heap.size w w'

theorem ListPost.nil {w w' : World} {er : Int} (h : Below w.heap.size w w') : ListPost w [] er (.returned (.tuple #[.slice none 0 0, .int .i64 er])) w' :=
  ⟨none, 0, rfl, Nat.le_refl _, fun h => by simp at h, fun h => by simp at h, h⟩

end Go.Proofs.YtboffligjgjgjaaGreat

namespace Go.Proofs.YtboffligjgjgjaaGreat
open Go.RowKit

/-- What was cut in a year, told from the oldest age downwards: k ages. -/
def takesTo (y : Int) (gone : List Int) : Nat → List (Int × Int)
  | 0 => []
  | k + 1 => takesTo y gone k ++ (if 0 < gone[gone.length - 1 - k]?.getD 0 then [(y - ((gone.length - 1 - k : Nat) : Int), gone[gone.length - 1 - k]?.getD 0)] else [])
theorem takesTo_len (y : Int) (gone : List Int) (k : Nat) : (takesTo y gone k).length ≤ k := by
  induction k with
  | zero => simp [takesTo]
  | succ k ih =>
    simp only [takesTo, List.length_append]
    split <;> simp <;> omega
def takenVal (g : Gr) (y : Int) : List (Int × Int) := if okGrove g = true ∧ hasY g y = true then takesTo y (goneAt g (y - g.first).toNat) g.start.length else []

def TakePost (w : World) (ts : List (Int × Int)) (er : Int) (e : Ending) (w' : World) : Prop :=
  ∃ A c, e = .returned (.tuple #[.slice A ts.length c, .int .i64 er]) ∧ Vals w' w'.heap.size A (pairs ts) ∧ Below w.heap.size w w'
theorem TakePost.nil {w w' : World} {er : Int} (h : Below w.heap.size w w') : TakePost w [] er (.returned (.tuple #[.slice none 0 0, .int .i64 er])) w' :=
  ⟨none, 0, rfl, fun h => by simp [pairs] at h, h⟩

theorem goneAt_len {g : Gr} (m : Nat) : (goneAt g m).length = g.start.length := by
  cases m with
  | zero => simp [goneAt]
  | succ m => simp only [goneAt]; rw [goneL_len, runL_len]
end Go.Proofs.YtboffligjgjgjaaGreat
