/-
  The plain model of groves; the reference: sums, ages, cuts, a year.
-/
import Derived.Deep.QuietTactic
import Derived.BigQuiet
import Derived.RegionTactic
import Derived.ChangeAlike
import Derived.Outline
import Derived.Deep.RegionLaw
import Derived.Deep.DeepCutAuto
import Derived.Test.YtboffligjgjgjaaGreatQM1
set_option linter.all false
namespace Go.Proofs.YtboffligjgjgjaaGreat

/-- k steps of a cut of n culms, from the age hi downwards: what is left, what is gone, what is still to be cut. -/
def cutTo (c : List Int) (n : Int) (hi : Nat) : Nat → List Int × List Int × Int
  | 0 => (c, List.replicate c.length 0, n)
  | k + 1 =>
    let s := cutTo c n hi k
    let t := min s.2.2 (s.1[hi - k]?.getD 0)
    (s.1.set (hi - k) (s.1[hi - k]?.getD 0 - t), s.2.1.set (hi - k) t, s.2.2 - t)

theorem cutTo_succ {c : List Int} {n : Int} {hi k a : Nat} (ha : a = hi - k) {x m : Int} (hx : (cutTo c n hi k).1[a]?.getD 0 = x) (hm : (cutTo c n hi k).2.2 = m) {t u v : Int} (ht : min m x = t) (hu : x - t = u) (hv : m - t = v) :
    cutTo c n hi (k + 1) = ((cutTo c n hi k).1.set a u, (cutTo c n hi k).2.1.set a t, v) := by
  subst ha hx hm ht hu hv; rfl

theorem cutTo_len (c : List Int) (n : Int) (hi k : Nat) : (cutTo c n hi k).1.length = c.length ∧ (cutTo c n hi k).2.1.length = c.length := by
  induction k with
  | zero => simp [cutTo]
  | succ k ih => simp [cutTo, ih]

theorem Bnd.set {lo hi : Int} {c : List Int} (h : Bnd lo hi c) (a : Nat) {x : Int} (h1 : lo ≤ x) (h2 : x ≤ hi) : Bnd lo hi (c.set a x) := fun k hk => by
  rw [List.length_set] at hk
  by_cases e : a = k
  · subst e; simp [hk, h1, h2]
  · rw [List.getElem?_set_ne e]; exact h k hk

theorem Bnd.replicate {lo hi x : Int} (n : Nat) (h1 : lo ≤ x) (h2 : x ≤ hi) : Bnd lo hi (List.replicate n x) := fun k hk => by
  rw [List.length_replicate] at hk
  simp [hk, h1, h2]

/-- Of a grove whose culms are from 0 to M, a cut of 0 to M leaves so many. -/
theorem cutTo_bnd {c : List Int} {n M : Int} (hc : Bnd 0 M c) (hn : 0 ≤ n) (hM : n ≤ M) (hi : Nat) (hh : hi < c.length) : ∀ k, k ≤ hi + 1 →
    Bnd 0 M (cutTo c n hi k).1 ∧ Bnd 0 M (cutTo c n hi k).2.1 ∧ 0 ≤ (cutTo c n hi k).2.2 ∧ (cutTo c n hi k).2.2 ≤ M := by
  intro k
  induction k with
  | zero => intro _; exact ⟨hc, Bnd.replicate _ (by omega) (by omega), hn, hM⟩
  | succ k ih =>
    intro hk
    obtain ⟨h1, h2, h3, h4⟩ := ih (by omega)
    have h5 := h1 (hi - k) (by rw [(cutTo_len c n hi k).1]; omega)
    simp only [cutTo]
    generalize (cutTo c n hi k).1[hi - k]?.getD 0 = x at *
    refine ⟨h1.set _ (by omega) (by omega), h2.set _ (by omega) (by omega), by omega, by omega⟩

/-- A year later, before a cut: s young ones, and those of each age up to d - 1 are a year older. -/
def laterP (d : Nat) (c : List Int) (s : Int) : List Int := s :: (c.take d ++ List.replicate (6 - d) 0)

theorem laterP_len {d : Nat} {c : List Int} (s : Int) (hd : d ≤ 6) (hc : c.length = 7) : (laterP d c s).length = 7 := by simp [laterP, hc]; omega

theorem laterP_succ {k : Nat} {c : List Int} (s : Int) (hk : k < 6) (hc : c.length = 7) : (laterP k c s).set (k + 1) (c[k]?.getD 0) = laterP (k + 1) c s := by
  obtain ⟨c0, c1, c2, c3, c4, c5, c6, rfl⟩ := len7 hc
  match k, hk with
  | 0, _ => rfl
  | 1, _ => rfl
  | 2, _ => rfl
  | 3, _ => rfl
  | 4, _ => rfl
  | 5, _ => rfl

end Go.Proofs.YtboffligjgjgjaaGreat

namespace Go.Proofs.YtboffligjgjgjaaGreat
open Go.RowKit

theorem inR_not {x lo hi : Int} : inR x lo hi = false ↔ ¬ (lo ≤ x ∧ x ≤ hi) := by rw [← inR_iff, Bool.not_eq_true]

def hv (h : Hab) : Value := .agg #[.int .i64 h.lo, .int .i64 h.hi, .int .i64 h.bears, .int .i64 h.ripe, .int .i64 h.dies, .int .i64 h.keep]

/-- A habit is valid. -/
def okHab (h : Hab) : Bool := inR h.lo 0 1000 && inR h.hi h.lo 1000 && inR h.dies 1 6 && inR h.bears 0 h.dies && inR h.ripe 1 h.dies && inR h.keep 0 200

end Go.Proofs.YtboffligjgjgjaaGreat

namespace Go.Proofs.YtboffligjgjgjaaGreat
open Go.RowKit

/-- A year later: none is of the age 0. -/
def ageL (l : List Int) : List Int := (0 :: l).take l.length

theorem ageL_len (l : List Int) : (ageL l).length = l.length := by simp [ageL]
end Go.Proofs.YtboffligjgjgjaaGreat

namespace Go.Proofs.YtboffligjgjgjaaGreat
open Go.RowKit

end Go.Proofs.YtboffligjgjgjaaGreat

namespace Go.Proofs.YtboffligjgjgjaaGreat
open Go.RowKit

/-- What stands before a cut. -/
def nowLL1 (l : List Int) (s : Int) : List Int := (ageL l).set 0 s
theorem nowL_lenL1 (l : List Int) (s : Int) : (nowLL1 l s).length = l.length := by simp [nowLL1, ageL_len]
theorem ageL_bnd {M : Int} {l : List Int} (h : Bnd 0 M l) (hM : 0 ≤ M) : Bnd 0 M (ageL l) := fun k hk => by
  rw [ageL_len] at hk
  unfold ageL
  rw [List.getElem?_take, if_pos hk]
  cases k with
  | zero => simp [hM]
  | succ k => simp only [List.getElem?_cons_succ]; exact h k (by omega)
theorem nowL_bnd {M s : Int} {l : List Int} (h : Bnd 0 M l) (hs : 0 ≤ s) (hM : s ≤ M) : Bnd 0 M (nowLL1 l s) := (ageL_bnd h (by omega)).set 0 hs hM

def yearL (l : List Int) (s n : Int) : List Int := (cutTo (nowLL1 l s) n (l.length - 1) l.length).1
def goneL (l : List Int) (s n : Int) : List Int := (cutTo (nowLL1 l s) n (l.length - 1) l.length).2.1

/-- A year in which no more are cut than are ripe. -/
def yearOk (r : Nat) (l : List Int) (s n : Int) : Bool := decide (n ≤ ((nowLL1 l s).drop r).sum)

end Go.Proofs.YtboffligjgjgjaaGreat
