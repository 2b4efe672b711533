/-
  Groves as they come in; the reference's look whether a grove is valid.
-/
import Derived.Deep.DeepCutAuto
import Derived.Test.YtboffligjgjgjaaGreatQM9
import Derived.Test.YtboffligjgjgjaaGreatQM1
set_option linter.all false
namespace Go.Proofs.YtboffligjgjgjaaGreat
open Go.RowKit

structure Gr where
  id : Int
  hab : Hab
  first : Int
  start : List Int
  seas : List (Int × Int)

/-- The grove as a value: two slices at A1 and A2. -/
def grv (g : Gr) (A1 : Option Addr) (c1 : Nat) (A2 : Option Addr) (c2 : Nat) : Value :=
  .agg #[.int .i64 g.id, .int .i64 g.hab.lo, .int .i64 g.hab.hi, .int .i64 g.hab.bears, .int .i64 g.hab.ripe, .int .i64 g.hab.dies, .int .i64 g.hab.keep, .int .i64 g.first, .slice A1 g.start.length c1, .slice A2 g.seas.length c2]

/-- Its slices lie in memory. -/
structure GrAt (w : World) (B : Nat) (g : Gr) (A1 : Option Addr) (c1 : Nat) (A2 : Option Addr) (c2 : Nat) : Prop where
  st : Ints w B A1 g.start
  se : Vals w B A2 (pairs g.seas)
  cap1 : g.start.length ≤ c1
  cap2 : g.seas.length ≤ c2
  len1 : g.start.length ≤ 9223372036854775807
  len2 : g.seas.length ≤ 9223372036854775807

theorem GrAt.below {w w' : World} {B : Nat} {g : Gr} {A1 A2 : Option Addr} {c1 c2 : Nat} (h : GrAt w B g A1 c1 A2 c2) (hb : Below B w w') : GrAt w' B g A1 c1 A2 c2 := ⟨h.st.below hb, h.se.below hb, h.cap1, h.cap2, h.len1, h.len2⟩
theorem GrAt.mono {w : World} {B B' : Nat} {g : Gr} {A1 A2 : Option Addr} {c1 c2 : Nat} (h : GrAt w B g A1 c1 A2 c2) (hb : B ≤ B') : GrAt w B' g A1 c1 A2 c2 := ⟨h.st.mono hb, h.se.mono hb, h.cap1, h.cap2, h.len1, h.len2⟩

end Go.Proofs.YtboffligjgjgjaaGreat

namespace Go.Proofs.YtboffligjgjgjaaGreat
open Go.RowKit

/-- Seasons from some culms on are valid. -/
def seasOk (r : Nat) : List Int → List (Int × Int) → Bool
  | _, [] => true
  | l, p :: ss => inR p.1 0 30 && inR p.2 0 30 && yearOk r l p.1 p.2 && seasOk r (yearL l p.1 p.2) ss

/-- What stands after some seasons. -/
def runL (l : List Int) (ss : List (Int × Int)) : List Int := ss.foldl (fun l p => yearL l p.1 p.2) l

def okPre (g : Gr) : Bool := inR g.id 0 9999 && okHab g.hab && inR g.first 0 3000 && decide ((g.start.length : Int) = g.hab.dies + 1) && decide (g.seas.length ≤ 60) && decide (g.first + g.seas.length ≤ 3000)
def okStart (g : Gr) : Bool := g.start.all fun x => inR x 0 9
def okGrove (g : Gr) : Bool := okPre g && okStart g && seasOk g.hab.ripe.toNat g.start g.seas

theorem okHab_iff {h : Hab} : okHab h = true ↔ (0 ≤ h.lo ∧ h.lo ≤ 1000) ∧ (h.lo ≤ h.hi ∧ h.hi ≤ 1000) ∧ (1 ≤ h.dies ∧ h.dies ≤ 6) ∧ (0 ≤ h.bears ∧ h.bears ≤ h.dies) ∧ (1 ≤ h.ripe ∧ h.ripe ≤ h.dies) ∧ (0 ≤ h.keep ∧ h.keep ≤ 200) := by
  simp only [okHab, Bool.and_eq_true, inR_iff, and_assoc]

theorem okStart_at {g : Gr} (h : okStart g = true) : Bnd 0 9 g.start := fun k hk => by
  simp only [okStart, List.all_eq_true] at h
  have := h g.start[k] (List.getElem_mem hk)
  rw [inR_iff] at this
  simpa [hk] using this
theorem yearL_len (l : List Int) (s n : Int) : (yearL l s n).length = l.length := by unfold yearL; rw [(cutTo_len _ _ _ _).1, nowL_lenL1]
theorem goneL_len (l : List Int) (s n : Int) : (goneL l s n).length = l.length := by unfold goneL; rw [(cutTo_len _ _ _ _).2, nowL_lenL1]
theorem yearL_bnd {M s n : Int} {l : List Int} (h : Bnd 0 M l) (hl : 1 ≤ l.length) (hs : 0 ≤ s) (hM : s ≤ M) (hn : 0 ≤ n) (hn2 : n ≤ M) : Bnd 0 M (yearL l s n) :=
  (cutTo_bnd (nowL_bnd h hs hM) hn hn2 (l.length - 1) (by rw [nowL_lenL1]; omega) l.length (by omega)).1

end Go.Proofs.YtboffligjgjgjaaGreat

namespace Go.Proofs.YtboffligjgjgjaaGreat
open Go.RowKit

end Go.Proofs.YtboffligjgjgjaaGreat

namespace Go.Proofs.YtboffligjgjgjaaGreat
open Go.RowKit

/-- What is known of a grove within its bounds. -/
structure Pre (g : Gr) (d r : Nat) : Prop where
  hd : g.hab.dies = d
  hr : g.hab.ripe = r
  d1 : 1 ≤ d
  d6 : d ≤ 6
  r1 : 1 ≤ r
  rd : r ≤ d
  ls : g.start.length = d + 1
  l60 : g.seas.length ≤ 60
  f0 : 0 ≤ g.first
  f1 : g.first ≤ 3000
  fl : g.first + g.seas.length ≤ 3000

theorem okPre_pre {g : Gr} (h : okPre g = true) : ∃ d r, Pre g d r := by
  simp only [okPre, Bool.and_eq_true, decide_eq_true_eq, inR_iff, okHab_iff] at h
  obtain ⟨⟨⟨⟨⟨h1, h2⟩, h3⟩, h4⟩, h5⟩, h6⟩ := h
  exact ⟨g.hab.dies.toNat, g.hab.ripe.toNat, by omega, by omega, by omega, by omega, by omega, by omega, by omega, by omega, by omega, by omega, by omega⟩

/-- The state of the look at the seasons. -/
theorem runL_succ (l : List Int) (ss : List (Int × Int)) (i : Nat) (hi : i < ss.length) : runL l (ss.take (i + 1)) = yearL (runL l (ss.take i)) (ss[i]?.getD (0, 0)).1 (ss[i]?.getD (0, 0)).2 := by
  unfold runL
  rw [List.take_add_one, List.foldl_append]
  simp [hi]

end Go.Proofs.YtboffligjgjgjaaGreat
