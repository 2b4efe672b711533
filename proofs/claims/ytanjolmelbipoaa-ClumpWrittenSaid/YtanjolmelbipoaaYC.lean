/-
  Groves as they come in; the reference's look whether a grove is valid.
-/
import Derived.Test.YtanjolmelbipoaaYB
import Derived.Test.YtanjolmelbipoaaYA
import Derived.Deep.DeepCutAuto
namespace Go.Proofs.Ytanjolmelbipoaa
open Go.RowKit

structure Gr where
  id : Int
  hab : Hab
  first : Int
  start : List Int
  seas : List (Int × Int)

def pairs (l : List (Int × Int)) : List Value := l.flatMap fun p => [.int .i64 p.1, .int .i64 p.2]
theorem pairs_len (l : List (Int × Int)) : (pairs l).length = l.length * 2 := by
  induction l with
  | nil => rfl
  | cons p l ih => simp only [pairs, List.flatMap_cons, List.length_append, List.length_cons, List.length_nil] at ih ⊢; rw [ih]; omega
theorem pairs_at (l : List (Int × Int)) (k : Nat) (hk : k < l.length) : (pairs l)[k * 2]? = some (.int .i64 (l[k]?.getD (0, 0)).1) ∧ (pairs l)[k * 2 + 1]? = some (.int .i64 (l[k]?.getD (0, 0)).2) := by
  induction l generalizing k with
  | nil => simp at hk
  | cons p l ih =>
    cases k with
    | zero => simp [pairs]
    | succ k =>
      have := ih k (by simpa using hk)
      simp only [pairs, List.flatMap_cons] at this ⊢
      rw [show (k + 1) * 2 = k * 2 + 1 + 1 from by omega]
      simpa using this

/-- The grove as a value: two slices at A1 and A2. -/
def grv (g : Gr) (A1 : Option Addr) (c1 : Nat) (A2 : Option Addr) (c2 : Nat) : Value :=
  .agg #[.int .i64 g.id, .int .i64 g.hab.lo, .int .i64 g.hab.hi, .int .i64 g.hab.bears, .int .i64 g.hab.ripe, .int .i64 g.hab.dies, .int .i64 g.hab.keep, .int .i64 g.first, .slice A1 g.start.length c1, .slice A2 g.seas.length c2]

/-- Its slices lie in memory. -/
structure GrAt (w : World) (B : Nat) (g : Gr) (A1 : Option Addr) (c1 : Nat) (A2 : Option Addr) (c2 : Nat) : Prop where
  st : Ints w B A1 g.start
  se : Vals w B A2 (pairs g.seas)
  cap1 : g.start.length ≤ c1
  cap2 : g.seas.length ≤ c2
  len1 : g.start.length ≤ 9223372036854775807
  len2 : g.seas.length ≤ 9223372036854775807

theorem GrAt.below {w w' : World} {B : Nat} {g : Gr} {A1 A2 : Option Addr} {c1 c2 : Nat} (h : GrAt w B g A1 c1 A2 c2) (hb : Below B w w') : GrAt w' B g A1 c1 A2 c2 := ⟨h.st.below hb, h.se.below hb, h.cap1, h.cap2, h.len1, h.len2⟩
theorem GrAt.mono {w : World} {B B' : Nat} {g : Gr} {A1 A2 : Option Addr} {c1 c2 : Nat} (h : GrAt w B g A1 c1 A2 c2) (hb : B ≤ B') : GrAt w B' g A1 c1 A2 c2 := ⟨h.st.mono hb, h.se.mono hb, h.cap1, h.cap2, h.len1, h.len2⟩

/-- A grove that is larger than the statements consider. -/
def great (g : Gr) : Bool := decide (20 < g.start.length) || decide (80 < g.seas.length)

set_option maxHeartbeats 400000 in
theorem refGreat_any (g : Gr) (A1 : Option Addr) (c1 : Nat) (A2 : Option Addr) (c2 : Nat) (w : World) :
    Calls Try.prog 12 #[grv g A1 c1 A2 c2] w fun e w' => e = .returned (.bool (great g)) ∧ Below w.heap.size w w' := by
  unfold grv
  by_cases h1 : 20 < g.start.length
  · have e : great g = true := by simp [great, h1]
    rw [e]
    clear e
    go_enter Try.func12, Try.ntmps12
    go_wp2
    go_ret
    exact ⟨by simp; try omega, (Below.refl _ _).alloc (Nat.le_refl _) _⟩
  · by_cases h2 : 80 < g.seas.length
    · have e : great g = true := by simp [great, h2]
      rw [e]
      clear e
      go_enter Try.func12, Try.ntmps12
      go_wp2
      go_ret
      exact ⟨by simp; try omega, (Below.refl _ _).alloc (Nat.le_refl _) _⟩
    · have e : great g = false := by simp [great]; omega
      rw [e]
      clear e
      go_enter Try.func12, Try.ntmps12
      go_wp2
      go_ret
      exact ⟨by simp; try omega, (Below.refl _ _).alloc (Nat.le_refl _) _⟩

theorem Try.info76 : (Try.prog.info? 76).map (fun i => (i.zero, i.size, i.bytes)) = some (some (.agg #[.int .i64 0, .int .i64 0]), 2, 16) := by kernel_rfl
theorem Try.info3' : (Try.prog.info? 3).map (fun i => (i.zero, i.size, i.bytes)) = some (some (.int .i64 0), 1, 8) := by kernel_rfl
theorem oneCells_pairs (l : List (Int × Int)) : ∀ u ∈ pairs l, u.oneCell' = true := by
  intro u hu
  simp only [pairs, List.mem_flatMap] at hu
  obtain ⟨p, _, hu⟩ := hu
  simp at hu
  rcases hu with rfl | rfl <;> rfl

/-- What Twin hands back: the same grove, its slices new. -/
def TwinPost (w : World) (g : Gr) (e : Ending) (w' : World) : Prop :=
  ∃ g1 c1 g2 c2, e = .returned (grv g (some ⟨g1, 0, none⟩) c1 (some ⟨g2, 0, none⟩) c2) ∧ w.heap.size ≤ g1 ∧ w.heap.size ≤ g2 ∧ g1 ≠ g2 ∧
    w'.ownsRow w.heap.size 3 1 (.slice (some ⟨g1, 0, none⟩) g.start.length c1) g.start.length (ints g.start) ∧
    w'.ownsRow w.heap.size 76 2 (.slice (some ⟨g2, 0, none⟩) g.seas.length c2) g.seas.length (pairs g.seas) ∧ Below w.heap.size w w'

set_option maxHeartbeats 1000000 in
theorem refTwin_any (g : Gr) (A1 : Option Addr) (c1 : Nat) (A2 : Option Addr) (c2 : Nat) (B : Nat) (w : World) (hB : B ≤ w.heap.size) (h : GrAt w B g A1 c1 A2 c2) (hg : great g = false) :
    Calls Try.prog 13 #[grv g A1 c1 A2 c2] w (TwinPost w g) := by
  obtain ⟨i0, hi, hz0, hz1, hz2⟩ := info_parts Try.info3'
  obtain ⟨i1, hi', hy0, hy1, hy2⟩ := info_parts Try.info76
  have hl : g.start.length ≤ 20 ∧ g.seas.length ≤ 80 := by simp [great] at hg; omega
  have HI := Lib.hid (And.intro hi (And.intro hz0 (And.intro hz1 hz2)))
  have HJ := Lib.hid (And.intro hi' (And.intro hy0 (And.intro hy1 hy2)))
  have Hh := Lib.hid (h.mono hB)
  clear hi hz0 hz1 hz2 hi' hy0 hy1 hy2 h hg
  unfold grv
  go_enter Try.func13, Try.ntmps13
  have h1 := oneCells_ints g.start
  have h2 := oneCells_pairs g.seas
  go_wp2_with (first
    | (at_builtin
       refine wpl_clone (by rfl) (.tmp 3) (.tmp 5) _ (by rfl) w.heap.size 3 i0 _ 1 8 Try.underlying26 HI.out.1 HI.out.2.1 HI.out.2.2.1 HI.out.2.2.2 rfl (by omega) _ (by rfl) (alloc3_at2 _ _ _ _) (by omega)
         w.heap.size A1 g.start.length c1 (ints g.start) (by rfl) (Hh.out.st.vals.below ((((Below.refl _ w).alloc (Nat.le_refl _) _).alloc (by simp) _).alloc (by simp; omega) _)) (by simp [ints]) h1 (by simp only [maxLen]; omega) (by omega) ?_
       intro g1 d1 w1 hown hgrow hat hg1 hg1s
       have hBel1 := Lib.hid (Below.ofGrown ((((Below.refl _ w).alloc (Nat.le_refl _) _).alloc (by simp) _).alloc (by simp; omega) _) hgrow (by simp; omega) (by omega))
       have hb1 := (hgrow.block w.heap.size (by simp; omega) (by simp; omega)).trans (alloc3_at0 _ _ _ _)
       have hr1 := (hgrow.block (w.heap.size + 1) (by simp) (by simp)).trans (alloc3_at1 _ _ _ _)
       have cb1 := fun i => cell_of_row w1 w.heap.size i _ _ _ hb1
       have fb1 := fun i => frozen_of_row w1 w.heap.size i _ _ hb1
       simp only [World.size_alloc] at hat
       have HO1 := Lib.hid hown
       have Hb1 := Lib.hid hb1
       have Hr1 := Lib.hid hr1
       have hne : g1 ≠ w.heap.size := by omega
       have hne' : g1 ≠ w.heap.size + 1 := by omega
       have hws : w.heap.size + 1 < w1.heap.size := by omega
       have hws0 : w.heap.size < w1.heap.size := by omega
       clear hown hgrow hb1 hr1 hat)
    | (at_builtin
       have hW := alloc_at0 (w1.setCell ⟨w.heap.size, 8, none⟩ (.slice (some ⟨g1, 0, none⟩) g.start.length d1)) (.cells #[] 76)
       simp only [World.size_setCell] at hW
       refine wpl_clone (by rfl) (.tmp 8) (.tmp 10) _ (by rfl) w.heap.size 76 i1 _ 2 16 Try.underlying27 HJ.out.1 HJ.out.2.1 HJ.out.2.2.1 HJ.out.2.2.2 rfl (by omega) _ (by rfl) hW (by omega)
         w.heap.size A2 g.seas.length c2 (pairs g.seas) (by rfl) (Hh.out.se.below ((hBel1.out.setCell (p := ⟨w.heap.size, 8, none⟩) (Nat.le_refl _) _).alloc (by simp; omega) _)) (pairs_len _) h2 (by simp only [maxLen]; omega) (by omega) ?_
       go_must (
       intro g2 d2 w2 hown hgrow hat hg2 hg2s
       have hBel2 := Lib.hid (Below.ofGrown ((hBel1.out.setCell (p := ⟨w.heap.size, 8, none⟩) (Nat.le_refl _) (.slice (some ⟨g1, 0, none⟩) g.start.length d1)).alloc (by simp; omega) _) hgrow (by simp; omega) (by omega))
       have hb2 := (hgrow.block w.heap.size (by simp; omega) (by simp; omega)).trans ((Below.heap_alloc _ _ _ (by simp; omega)).trans (heap_setCell_same w1 w.heap.size 8 _ _ (.slice (some ⟨g1, 0, none⟩) g.start.length d1) Hb1.out))
       have hr2 := (hgrow.block (w.heap.size + 1) (by simp; omega) (by simp; omega)).trans ((Below.heap_alloc _ _ _ (by simp; omega)).trans ((heap_setCell_other w1 ⟨w.heap.size, 8, none⟩ (w.heap.size + 1) (.slice (some ⟨g1, 0, none⟩) g.start.length d1) (by simp)).trans Hr1.out))
       have ho2 := ((own_far HO1.out (p := ⟨w.heap.size, 8, none⟩) hne (.slice (some ⟨g1, 0, none⟩) g.start.length d1)).alloc (.cells #[] 76)).kept hgrow (Or.inr (by simp [Value.ownBlock]; omega))
       simp only [World.size_alloc, World.size_setCell] at hat
       simp only [List.setIfInBounds_toArray, List.set_cons_succ, List.set_cons_zero] at hb2
       have cb2 := fun i => cell_of_row w2 w.heap.size i _ _ _ hb2
       have fb2 := fun i => frozen_of_row w2 w.heap.size i _ _ hb2
       have cr2 := fun i => cell_of_row w2 (w.heap.size + 1) i _ _ _ hr2
       have fr2 := fun i => frozen_of_row w2 (w.heap.size + 1) i _ _ hr2
       have HO2 := Lib.hid hown
       have HO21 := Lib.hid ho2
       have Hne2 := Lib.hid (show g1 ≠ g2 ∧ g2 ≠ w.heap.size ∧ g2 ≠ w.heap.size + 1 by omega)
       clear hown hgrow hb2 hr2 hat ho2))
    | fail)
  refine bodyPost_ret (v := grv g (some ⟨g1, 0, none⟩) d1 (some ⟨g2, 0, none⟩) d2) (by simp [results, grv, Try.results13, go_sem, cr2]) rfl ?_
  refine ⟨g1, d1, g2, d2, rfl, by omega, by omega, Hne2.out.1, ?_, ?_, ?_⟩
  · have h := HO21.out
    have hne := Hne2.out
    repeat (first | with_reducible assumption | (with_reducible refine own_far ?_ ?hp _; case hp => simp; try omega))
  · have h := HO2.out
    have hne := Hne2.out
    repeat (first | with_reducible assumption | (with_reducible refine own_far ?_ ?hp _; case hp => simp; try omega))
  · have h := hBel2.out
    repeat (first | with_reducible assumption | (with_reducible refine Below.setCell ?_ ?hp _; case hp => simp; try omega))

end Go.Proofs.Ytanjolmelbipoaa

namespace Go.Proofs.Ytanjolmelbipoaa
open Go.RowKit

/-- Seasons from some culms on are valid. -/
def seasOk (r : Nat) : List Int → List (Int × Int) → Bool
  | _, [] => true
  | l, p :: ss => inR p.1 0 30 && inR p.2 0 30 && yearOk r l p.1 p.2 && seasOk r (yearL l p.1 p.2) ss

/-- What stands after some seasons. -/
def runL (l : List Int) (ss : List (Int × Int)) : List Int := ss.foldl (fun l p => yearL l p.1 p.2) l

def okPre (g : Gr) : Bool := inR g.id 0 9999 && okHab g.hab && inR g.first 0 3000 && decide ((g.start.length : Int) = g.hab.dies + 1) && decide (g.seas.length ≤ 60) && decide (g.first + g.seas.length ≤ 3000)
def okStart (g : Gr) : Bool := g.start.all fun x => inR x 0 9
def okGrove (g : Gr) : Bool := okPre g && okStart g && seasOk g.hab.ripe.toNat g.start g.seas

theorem okHab_iff {h : Hab} : okHab h = true ↔ (0 ≤ h.lo ∧ h.lo ≤ 1000) ∧ (h.lo ≤ h.hi ∧ h.hi ≤ 1000) ∧ (1 ≤ h.dies ∧ h.dies ≤ 6) ∧ (0 ≤ h.bears ∧ h.bears ≤ h.dies) ∧ (1 ≤ h.ripe ∧ h.ripe ≤ h.dies) ∧ (0 ≤ h.keep ∧ h.keep ≤ 200) := by
  simp only [okHab, Bool.and_eq_true, inR_iff, and_assoc]

theorem okStart_at {g : Gr} (h : okStart g = true) : Bnd 0 9 g.start := fun k hk => by
  simp only [okStart, List.all_eq_true] at h
  have := h g.start[k] (List.getElem_mem hk)
  rw [inR_iff] at this
  simpa [hk] using this
theorem okStart_not {g : Gr} {k : Nat} (hk : k < g.start.length) (h : inR (g.start[k]?.getD 0) 0 9 = false) : okStart g = false := by
  simp only [okStart, List.all_eq_false]
  exact ⟨g.start[k], List.getElem_mem hk, by simpa [hk] using h⟩
theorem okStart_all {g : Gr} (h : ∀ k, k < g.start.length → inR (g.start[k]?.getD 0) 0 9 = true) : okStart g = true := by
  simp only [okStart, List.all_eq_true]
  intro x hx
  obtain ⟨k, hk, rfl⟩ := List.mem_iff_getElem.1 hx
  simpa [hk] using h k hk

theorem yearL_len (l : List Int) (s n : Int) : (yearL l s n).length = l.length := by unfold yearL; rw [(cutTo_len _ _ _ _).1, nowL_len]
theorem goneL_len (l : List Int) (s n : Int) : (goneL l s n).length = l.length := by unfold goneL; rw [(cutTo_len _ _ _ _).2, nowL_len]
theorem yearL_bnd {M s n : Int} {l : List Int} (h : Bnd 0 M l) (hl : 1 ≤ l.length) (hs : 0 ≤ s) (hM : s ≤ M) (hn : 0 ≤ n) (hn2 : n ≤ M) : Bnd 0 M (yearL l s n) :=
  (cutTo_bnd (nowL_bnd h hs hM) hn hn2 (l.length - 1) (by rw [nowL_len]; omega) l.length (by omega)).1

theorem seasOk_step {r : Nat} {l : List Int} {ss : List (Int × Int)} {i : Nat} (hi : i < ss.length) :
    seasOk r l (ss.drop i) = (inR (ss[i]?.getD (0, 0)).1 0 30 && inR (ss[i]?.getD (0, 0)).2 0 30 && yearOk r l (ss[i]?.getD (0, 0)).1 (ss[i]?.getD (0, 0)).2 && seasOk r (yearL l (ss[i]?.getD (0, 0)).1 (ss[i]?.getD (0, 0)).2) (ss.drop (i + 1))) := by
  rw [List.drop_eq_getElem_cons hi]
  simp [seasOk, hi]

end Go.Proofs.Ytanjolmelbipoaa

namespace Go.Proofs.Ytanjolmelbipoaa
open Go.RowKit

theorem chainPre (g : Gr) : (inR g.id 0 9999 = false) ∨ (inR g.id 0 9999 = true ∧ okHab g.hab = false) ∨ (inR g.id 0 9999 = true ∧ okHab g.hab = true ∧ inR g.first 0 3000 = false) ∨
    (inR g.id 0 9999 = true ∧ okHab g.hab = true ∧ inR g.first 0 3000 = true ∧ (g.start.length : Int) < g.hab.dies + 1) ∨
    (inR g.id 0 9999 = true ∧ okHab g.hab = true ∧ inR g.first 0 3000 = true ∧ g.hab.dies + 1 < (g.start.length : Int)) ∨
    (inR g.id 0 9999 = true ∧ okHab g.hab = true ∧ inR g.first 0 3000 = true ∧ (g.start.length : Int) ≤ g.hab.dies + 1 ∧ g.hab.dies + 1 ≤ (g.start.length : Int) ∧ 60 < g.seas.length) ∨
    (inR g.id 0 9999 = true ∧ okHab g.hab = true ∧ inR g.first 0 3000 = true ∧ (g.start.length : Int) ≤ g.hab.dies + 1 ∧ g.hab.dies + 1 ≤ (g.start.length : Int) ∧ g.seas.length ≤ 60 ∧ 3000 < g.first + g.seas.length) ∨
    (inR g.id 0 9999 = true ∧ okHab g.hab = true ∧ inR g.first 0 3000 = true ∧ (g.start.length : Int) ≤ g.hab.dies + 1 ∧ g.hab.dies + 1 ≤ (g.start.length : Int) ∧ g.seas.length ≤ 60 ∧ g.first + g.seas.length ≤ 3000) := by
  cases inR g.id 0 9999 <;> cases okHab g.hab <;> cases inR g.first 0 3000 <;> simp
  omega

set_option maxHeartbeats 4000000 in
theorem refGrove_pre (g : Gr) (A1 : Option Addr) (c1 : Nat) (A2 : Option Addr) (c2 : Nat) (B : Nat) (w : World) (hG : GrAt w B g A1 c1 A2 c2) (hp : okPre g = false) :
    Calls Try.prog 39 #[grv g A1 c1 A2 c2] w fun e w' => e = .returned (.bool false) ∧ Below w.heap.size w w' := by
  have hl1 := hG.len1
  have hl2 := hG.len2
  clear hG
  have Hp := Lib.hid hp
  clear hp
  unfold grv
  rcases chainPre g with h1 | ⟨h1, h2⟩ | ⟨h1, h2, h3⟩ | ⟨h1, h2, h3, h4⟩ | ⟨h1, h2, h3, h4⟩ | ⟨h1, h2, h3, h4, h4', h5⟩ | ⟨h1, h2, h3, h4, h4', h5, h6⟩ | ⟨h1, h2, h3, h4, h4', h5, h6⟩
  case inr.inr.inr.inr.inr.inr.inr =>
    exfalso
    have := Hp.out
    simp [okPre, h1, h2, h3] at this
    omega
  all_goals
    try have k2 := (okHab_iff.1 h2).2.2.1
    try have k3 := inR_iff.1 h3
    go_enter Try.func39, Try.ntmps39
    go_wp2_with (first
      | (go_at_call 54; refine (refWithin_any _ _ _ _).mono ?_; rintro e w' ⟨rfl, rfl⟩)
      | (go_at_call 59; refine (refHabit_any g.hab _).mono ?_; rintro e w' ⟨rfl, hB⟩
         have cB := fun i => (hB.cell (p := ⟨w.heap.size, i, none⟩) (by simp)).trans (cell_of_row _ w.heap.size i _ _ _ (alloc_at0 w _))
         have HB := Lib.hid hB
         clear hB))
    go_ret
    first
      | exact ⟨rfl, (Below.refl _ _).alloc (Nat.le_refl _) _⟩
      | exact ⟨rfl, ((Below.refl _ _).alloc (Nat.le_refl _) _).trans (HB.out.mono (by simp))⟩

end Go.Proofs.Ytanjolmelbipoaa

namespace Go.Proofs.Ytanjolmelbipoaa
open Go.RowKit

/-- What is known of a grove within its bounds. -/
structure Pre (g : Gr) (d r : Nat) : Prop where
  hd : g.hab.dies = d
  hr : g.hab.ripe = r
  d1 : 1 ≤ d
  d6 : d ≤ 6
  r1 : 1 ≤ r
  rd : r ≤ d
  ls : g.start.length = d + 1
  l60 : g.seas.length ≤ 60
  f0 : 0 ≤ g.first
  f1 : g.first ≤ 3000
  fl : g.first + g.seas.length ≤ 3000

theorem okPre_pre {g : Gr} (h : okPre g = true) : ∃ d r, Pre g d r := by
  simp only [okPre, Bool.and_eq_true, decide_eq_true_eq, inR_iff, okHab_iff] at h
  obtain ⟨⟨⟨⟨⟨h1, h2⟩, h3⟩, h4⟩, h5⟩, h6⟩ := h
  exact ⟨g.hab.dies.toNat, g.hab.ripe.toNat, by omega, by omega, by omega, by omega, by omega, by omega, by omega, by omega, by omega, by omega, by omega⟩

/-- The state of the look at the seasons. -/
theorem runL_succ (l : List Int) (ss : List (Int × Int)) (i : Nat) (hi : i < ss.length) : runL l (ss.take (i + 1)) = yearL (runL l (ss.take i)) (ss[i]?.getD (0, 0)).1 (ss[i]?.getD (0, 0)).2 := by
  unfold runL
  rw [List.take_add_one, List.foldl_append]
  simp [hi]

set_option maxHeartbeats 4000000 in
theorem refGrove_start (g : Gr) (A1 : Option Addr) (c1 : Nat) (A2 : Option Addr) (c2 : Nat) (B : Nat) (w : World) (hB : B ≤ w.heap.size) (hG : GrAt w B g A1 c1 A2 c2) (hp : okPre g = true) :
    Calls Try.prog 39 #[grv g A1 c1 A2 c2] w fun e w' => e = .returned (.bool (okStart g && seasOk g.hab.ripe.toNat g.start g.seas)) ∧ Below w.heap.size w w' := by
  obtain ⟨d, r, P⟩ := okPre_pre hp
  obtain ⟨hd, hr, d1, d6, r1, rd, ls, l60, f0, f1, fl⟩ := P
  have h0 : inR g.id 0 9999 = true ∧ okHab g.hab = true ∧ inR g.first 0 3000 = true := by
    simp only [okPre, Bool.and_eq_true] at hp; exact ⟨hp.1.1.1.1.1, hp.1.1.1.1.2, hp.1.1.1.2⟩
  obtain ⟨hi1, hi2, hi3⟩ := h0
  have h4 : (g.start.length : Int) ≤ g.hab.dies + 1 := by omega
  have h4' : g.hab.dies + 1 ≤ (g.start.length : Int) := by omega
  have k2 : 1 ≤ g.hab.dies ∧ g.hab.dies ≤ 6 := by omega
  have hG' := Lib.hid hG
  have Hd := Lib.hid hd
  have Hr := Lib.hid hr
  have Hls := Lib.hid ls
  have Hp := Lib.hid hp
  clear hG hd hr ls hp
  unfold grv
  go_enter Try.func39, Try.ntmps39
  go_wp2_with (first
      | (go_at_call 54; refine (refWithin_any _ _ _ _).mono ?_; rintro e w' ⟨rfl, rfl⟩)
      | (go_at_call 59; refine (refHabit_any g.hab _).mono ?_; rintro e w' ⟨rfl, hB⟩
         have cB := fun i => (hB.cell (p := ⟨w.heap.size, i, none⟩) (by simp)).trans (cell_of_row _ w.heap.size i _ _ _ (alloc_at0 w _))
         have HB := Lib.hid hB
         clear hB))
  have HCB := Lib.hid cB
  have hBw := Lib.hid (((Below.refl _ _).alloc (Nat.le_refl w.heap.size) _).trans (HB.out.mono (by simp)))
  have hsz : w.heap.size < w'.heap.size := by have := HB.out.size; simp at this; omega
  go_loop [3] (fun i => ∃ k : Nat, k ≤ g.start.length ∧ i = .int .i64 k ∧ Hid (∀ j, j < k → inR (g.start[j]?.getD 0) 0 9 = true)) (fun i => g.start.length - (intOf i).toNat)
  case atStart => exact ⟨0, Nat.zero_le _, rfl, fun j hj => absurd hj (by omega)⟩
  case round =>
    obtain ⟨k, hk, rfl, hall⟩ := hrel
    by_cases hlt : k < g.start.length
    · obtain ⟨b, off, hA, hbB, hc⟩ := hG'.out.st (by omega)
      subst hA
      have hcell : w'.cell? ⟨b, off + k, none⟩ = _ := (hBw.out.cell (p := ⟨b, off + k, none⟩) (by simp; omega)).trans (hc k hlt)
      clear hc
      have hno := fun h => okStart_not (g := g) hlt h
      generalize hx : g.start[k]?.getD 0 = x at hcell hno
      have Hx := Lib.hid hx
      have Hno := Lib.hid hno
      clear hx hno
      rcases Bool.eq_false_or_eq_true (inR x 0 9) with hin | hin
      · go_wp2_with (go_at_call 54; refine (refWithin_any _ _ _ _).mono ?_; rintro e w' ⟨rfl, rfl⟩)
        go_round
        case rel => exact ⟨k + 1, by omega, by go_num, fun j hj => by
          rcases Nat.lt_or_ge j k with h | h
          · exact hall.out j h
          · obtain rfl : j = k := by omega
            rw [Hx.out]; exact hin⟩
        case measure => simp [intOf] <;> omega
      · go_wp2_with (go_at_call 54; refine (refWithin_any _ _ _ _).mono ?_; rintro e w' ⟨rfl, rfl⟩)
        go_ret
        exact ⟨by rw [Hno.out hin]; rfl, hBw.out⟩
    · obtain rfl : k = g.start.length := by omega
      have HS := Lib.hid (okStart_all hall.out)
      clear hall hlt hk
      go_wp2
      go_loopw [4, 5] (fun v i wr => ∃ (k : Nat) (A : Option Addr) (c : Nat), k ≤ g.seas.length ∧ i = .int .i64 k ∧ v = .slice A g.start.length c ∧ Hid (g.start.length ≤ c) ∧ Hid (Ints wr wr.heap.size A (runL g.start (g.seas.take k))) ∧
          Hid ((runL g.start (g.seas.take k)).length = g.start.length) ∧ Hid (Bnd 0 30 (runL g.start (g.seas.take k))) ∧
          Hid (seasOk r g.start g.seas = seasOk r (runL g.start (g.seas.take k)) (g.seas.drop k)) ∧ Hid (Below w'.heap.size w' wr))
        (fun _ i _ => g.seas.length - (intOf i).toNat)
      case atStart => exact ⟨0, A1, c1, Nat.zero_le _, rfl, rfl, hG'.out.cap1, (hG'.out.st.below (hBw.out.mono hB)).mono (by omega), rfl, fun j hj => by
          have h := okStart_at HS.out j (by simpa [runL] using hj)
          simp only [runL, List.take_zero, List.foldl_nil]
          omega, rfl, Below.refl _ _⟩
      case round =>
        obtain ⟨k, A, c, hk, rfl, rfl, hcap, hI, hL, hBd, hS, hBr⟩ := hrel
        have cBr := fun i => (hBr.out.cell (p := ⟨w.heap.size, i, none⟩) hsz).trans (HCB.out i)
        have hszr : w.heap.size < wr.heap.size := by have := hBr.out.size; omega
        by_cases hlt : k < g.seas.length
        · obtain ⟨b, off, hA, hbB, hc⟩ := hG'.out.se (by rw [pairs_len]; omega)
          subst hA
          have hbw : b < wr.heap.size := by omega
          have hpa := pairs_at g.seas k hlt
          have hc0 : wr.cell? ⟨b, off + k * 2, none⟩ = _ := (hBr.out.cell (p := ⟨b, off + k * 2, none⟩) (by simp; omega)).trans ((hBw.out.cell (p := ⟨b, off + k * 2, none⟩) (by simp; omega)).trans (hc _ _ hpa.1))
          have hc1 : wr.cell? ⟨b, off + k * 2 + 1, none⟩ = _ := (hBr.out.cell (p := ⟨b, off + k * 2 + 1, none⟩) (by simp; omega)).trans ((hBw.out.cell (p := ⟨b, off + k * 2 + 1, none⟩) (by simp; omega)).trans (hc _ _ hpa.2))
          have hstep := seasOk_step (r := r) (l := runL g.start (g.seas.take k)) hlt
          have hsucc := runL_succ g.start g.seas k hlt
          generalize (g.seas[k]?.getD (0, 0)).1 = s at hc0 hstep hsucc
          generalize (g.seas[k]?.getD (0, 0)).2 = n at hc1 hstep hsucc
          generalize hrl : runL g.start (g.seas.take k) = l at hI hL hBd hS hstep hsucc
          have Hst := Lib.hid hstep
          have Hsu := Lib.hid hsucc
          clear hstep hsucc hrl hc hpa
          have hfalse : (inR s 0 30 = false ∨ inR n 0 30 = false ∨ yearOk r l s n = false) → (okStart g && seasOk g.hab.ripe.toNat g.start g.seas) = false := by
            intro h
            rw [HS.out, Hr.out, Int.toNat_natCast, hS.out, Hst.out]
            rcases h with h | h | h <;> simp [h]
          have HF := Lib.hid hfalse
          have hba := Lib.hid (hBw.out.trans (hBr.out.mono (by omega)))
          clear hfalse
          rcases Bool.eq_false_or_eq_true (inR s 0 30) with hs | hs
          · rcases Bool.eq_false_or_eq_true (inR n 0 30) with hn | hn
            · have ks := inR_iff.1 hs
              have kn := inR_iff.1 hn
              have Hs := Lib.hid hs
              have Hn := Lib.hid hn
              have hIa := (hI.out.below ((Below.refl wr.heap.size wr).alloc (Nat.le_refl _) (.cells #[.int .i64 s, .int .i64 n] 76)))
              rcases Bool.eq_false_or_eq_true (yearOk r l s n) with hy | hy
              · have H := refYear_yes g.hab r Hr.out A c l wr.heap.size (wr.alloc (.cells #[.int .i64 s, .int .i64 n] 76)) (by simp) hIa (by have := Hls.out; rw [hL.out]; omega) (by have := Hls.out; rw [hL.out]; omega) 30 (by omega) hBd.out s n ks.1 ks.2 kn.1 kn.2 hy
                rw [hL.out] at H
                have HY := Lib.hid H
                have Hy := Lib.hid hy
                clear H hIa hy
                go_wp2_with (first
                  | (go_at_call 54; refine (refWithin_any _ _ _ _).mono ?_; rintro e w' ⟨rfl, rfl⟩)
                  | (go_at_call 34; refine HY.out.mono ?_; rintro e w3 ⟨p1, q1, p2, q2, rfl, hp1, hp2, hne, hq1, hq2, hI1, hI2, hf1, hf2, hB3⟩
                     rw [yearL_len, goneL_len, hL.out]
                     have HI1 := Lib.hid hI1
                     have HB3 := Lib.hid hB3
                     have HQ1 := Lib.hid hq1
                     clear hI1 hI2 hf1 hf2 hB3 hq1 hq2))
                go_roundw
                case rel => exact ⟨k + 1, some ⟨p1, 0, none⟩, q1, by omega, by go_num, rfl, by have h := HQ1.out; rw [yearL_len, hL.out] at h; exact h, by rw [Hsu.out]; exact HI1.out, by rw [Hsu.out]; exact (yearL_len _ _ _).trans hL.out,
                  by rw [Hsu.out]; exact yearL_bnd hBd.out (by have := Hls.out; rw [hL.out]; omega) ks.1 ks.2 kn.1 kn.2,
                  by rw [hS.out, Hst.out, Hs.out, Hn.out, Hy.out, Hsu.out]; rfl,
                  hBr.out.trans (((Below.refl _ _).alloc (Nat.le_refl _) _).trans (HB3.out.mono (by simp)) |>.mono hBr.out.size)⟩
                case measure => simp [intOf] <;> omega
              · have H := refYear_no g.hab r Hr.out A c l wr.heap.size (wr.alloc (.cells #[.int .i64 s, .int .i64 n] 76)) (by simp) hIa (by have := Hls.out; rw [hL.out]; omega) (by have := Hls.out; rw [hL.out]; omega) 30 (by omega) hBd.out s n ks.1 ks.2 hy
                rw [hL.out] at H
                have HY := Lib.hid H
                have Hy := Lib.hid hy
                clear H hIa hy
                go_wp2_with (first
                  | (go_at_call 54; refine (refWithin_any _ _ _ _).mono ?_; rintro e w' ⟨rfl, rfl⟩)
                  | (go_at_call 34; refine HY.out.mono ?_; rintro e w3 ⟨rfl, hB3⟩
                     have HB3 := Lib.hid hB3
                     clear hB3))
                go_ret
                exact ⟨by rw [HF.out (Or.inr (Or.inr Hy.out))]; rfl, hba.out.trans (((Below.refl _ _).alloc (Nat.le_refl _) _).trans (HB3.out.mono (by simp)) |>.mono (by omega))⟩
            · go_wp2_with (go_at_call 54; refine (refWithin_any _ _ _ _).mono ?_; rintro e w' ⟨rfl, rfl⟩)
              go_ret
              exact ⟨by rw [HF.out (Or.inr (Or.inl hn))]; rfl, hba.out.alloc (by omega) _⟩
          · go_wp2_with (go_at_call 54; refine (refWithin_any _ _ _ _).mono ?_; rintro e w' ⟨rfl, rfl⟩)
            go_ret
            exact ⟨by rw [HF.out (Or.inl hs)]; rfl, hba.out.alloc (by omega) _⟩
        · obtain rfl : k = g.seas.length := by omega
          have hfin : (okStart g && seasOk g.hab.ripe.toNat g.start g.seas) = true := by
            rw [HS.out, Hr.out, Int.toNat_natCast, hS.out]
            simp [seasOk]
          have HF := Lib.hid hfin
          have hba := Lib.hid (hBw.out.trans (hBr.out.mono (by omega)))
          clear hfin
          go_wp2
          go_ret
          exact ⟨by rw [HF.out]; rfl, hba.out⟩

end Go.Proofs.Ytanjolmelbipoaa

