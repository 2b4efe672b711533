/-
  Groves as they come in: their numbers, two slices.
-/
import Derived.Test.YtkjdapgkojfbmaaRefA
import Derived.Test.YtkjdapgkojfbmaaBasics3
namespace Go.Proofs.Ytkjdapgkojfbmaa
open Go.RowKit

structure Gr where
  id : Int
  hab : Hab
  first : Int
  start : List Int
  seas : List (Int × Int)

def pairs (l : List (Int × Int)) : List Value := l.flatMap fun p => [.int .i64 p.1, .int .i64 p.2]
theorem pairs_len (l : List (Int × Int)) : (pairs l).length = l.length * 2 := by
  induction l with
  | nil => rfl
  | cons p l ih => simp only [pairs, List.flatMap_cons, List.length_append, List.length_cons, List.length_nil] at ih ⊢; rw [ih]; omega
theorem pairs_at (l : List (Int × Int)) (k : Nat) (hk : k < l.length) : (pairs l)[k * 2]? = some (.int .i64 (l[k]?.getD (0, 0)).1) ∧ (pairs l)[k * 2 + 1]? = some (.int .i64 (l[k]?.getD (0, 0)).2) := by
  induction l generalizing k with
  | nil => simp at hk
  | cons p l ih =>
    cases k with
    | zero => simp [pairs]
    | succ k =>
      have := ih k (by simpa using hk)
      simp only [pairs, List.flatMap_cons] at this ⊢
      rw [show (k + 1) * 2 = k * 2 + 1 + 1 from by omega]
      simpa using this

/-- The grove as a value: two slices at A1 and A2. -/
def grv (g : Gr) (A1 : Option Addr) (c1 : Nat) (A2 : Option Addr) (c2 : Nat) : Value :=
  .agg #[.int .i64 g.id, .int .i64 g.hab.lo, .int .i64 g.hab.hi, .int .i64 g.hab.bears, .int .i64 g.hab.ripe, .int .i64 g.hab.dies, .int .i64 g.hab.keep, .int .i64 g.first, .slice A1 g.start.length c1, .slice A2 g.seas.length c2]

/-- Its slices lie in memory. -/
structure GrAt (w : World) (B : Nat) (g : Gr) (A1 : Option Addr) (c1 : Nat) (A2 : Option Addr) (c2 : Nat) : Prop where
  st : Ints w B A1 g.start
  se : Vals w B A2 (pairs g.seas)
  cap1 : g.start.length ≤ c1
  cap2 : g.seas.length ≤ c2
  len1 : g.start.length ≤ 9223372036854775807
  len2 : g.seas.length ≤ 9223372036854775807

theorem GrAt.below {w w' : World} {B : Nat} {g : Gr} {A1 A2 : Option Addr} {c1 c2 : Nat} (h : GrAt w B g A1 c1 A2 c2) (hb : Below B w w') : GrAt w' B g A1 c1 A2 c2 := ⟨h.st.below hb, h.se.below hb, h.cap1, h.cap2, h.len1, h.len2⟩
theorem GrAt.mono {w : World} {B B' : Nat} {g : Gr} {A1 A2 : Option Addr} {c1 c2 : Nat} (h : GrAt w B g A1 c1 A2 c2) (hb : B ≤ B') : GrAt w B' g A1 c1 A2 c2 := ⟨h.st.mono hb, h.se.mono hb, h.cap1, h.cap2, h.len1, h.len2⟩

/-- A grove that is larger than the statements consider. -/
def great (g : Gr) : Bool := decide (20 < g.start.length) || decide (80 < g.seas.length)

set_option maxHeartbeats 400000 in
theorem refGreat_any (g : Gr) (A1 : Option Addr) (c1 : Nat) (A2 : Option Addr) (c2 : Nat) (w : World) :
    Calls Try.prog 12 #[grv g A1 c1 A2 c2] w fun e w' => e = .returned (.bool (great g)) ∧ Below w.heap.size w w' := by
  unfold grv
  by_cases h1 : 20 < g.start.length
  · have e : great g = true := by simp [great, h1]
    rw [e]
    clear e
    go_enter Try.func12, Try.ntmps12
    go_wp2
    go_ret
    exact ⟨by simp; try omega, (Below.refl _ _).alloc (Nat.le_refl _) _⟩
  · by_cases h2 : 80 < g.seas.length
    · have e : great g = true := by simp [great, h2]
      rw [e]
      clear e
      go_enter Try.func12, Try.ntmps12
      go_wp2
      go_ret
      exact ⟨by simp; try omega, (Below.refl _ _).alloc (Nat.le_refl _) _⟩
    · have e : great g = false := by simp [great]; omega
      rw [e]
      clear e
      go_enter Try.func12, Try.ntmps12
      go_wp2
      go_ret
      exact ⟨by simp; try omega, (Below.refl _ _).alloc (Nat.le_refl _) _⟩

theorem Try.info76 : (Try.prog.info? 76).map (fun i => (i.zero, i.size, i.bytes)) = some (some (.agg #[.int .i64 0, .int .i64 0]), 2, 16) := by kernel_rfl
theorem Try.info3' : (Try.prog.info? 3).map (fun i => (i.zero, i.size, i.bytes)) = some (some (.int .i64 0), 1, 8) := by kernel_rfl
theorem oneCells_pairs (l : List (Int × Int)) : ∀ u ∈ pairs l, u.oneCell' = true := by
  intro u hu
  simp only [pairs, List.mem_flatMap] at hu
  obtain ⟨p, _, hu⟩ := hu
  simp at hu
  rcases hu with rfl | rfl <;> rfl

/-- What Twin hands back: the same grove, its slices new. -/
def TwinPost (w : World) (g : Gr) (e : Ending) (w' : World) : Prop :=
  ∃ g1 c1 g2 c2, e = .returned (grv g (some ⟨g1, 0, none⟩) c1 (some ⟨g2, 0, none⟩) c2) ∧ w.heap.size ≤ g1 ∧ w.heap.size ≤ g2 ∧ g1 ≠ g2 ∧
    w'.ownsRow w.heap.size 3 1 (.slice (some ⟨g1, 0, none⟩) g.start.length c1) g.start.length (ints g.start) ∧
    w'.ownsRow w.heap.size 76 2 (.slice (some ⟨g2, 0, none⟩) g.seas.length c2) g.seas.length (pairs g.seas) ∧ Below w.heap.size w w'

set_option maxHeartbeats 1000000 in
theorem refTwin_any (g : Gr) (A1 : Option Addr) (c1 : Nat) (A2 : Option Addr) (c2 : Nat) (B : Nat) (w : World) (hB : B ≤ w.heap.size) (h : GrAt w B g A1 c1 A2 c2) (hg : great g = false) :
    Calls Try.prog 13 #[grv g A1 c1 A2 c2] w (TwinPost w g) := by
  obtain ⟨i0, hi, hz0, hz1, hz2⟩ := info_parts Try.info3'
  obtain ⟨i1, hi', hy0, hy1, hy2⟩ := info_parts Try.info76
  have hl : g.start.length ≤ 20 ∧ g.seas.length ≤ 80 := by simp [great] at hg; omega
  have HI := Lib.hid (And.intro hi (And.intro hz0 (And.intro hz1 hz2)))
  have HJ := Lib.hid (And.intro hi' (And.intro hy0 (And.intro hy1 hy2)))
  have Hh := Lib.hid (h.mono hB)
  clear hi hz0 hz1 hz2 hi' hy0 hy1 hy2 h hg
  unfold grv
  go_enter Try.func13, Try.ntmps13
  have h1 := oneCells_ints g.start
  have h2 := oneCells_pairs g.seas
  go_wp2_with (first
    | (at_builtin
       refine wpl_clone (by rfl) (.tmp 3) (.tmp 5) _ (by rfl) w.heap.size 3 i0 _ 1 8 Try.underlying26 HI.out.1 HI.out.2.1 HI.out.2.2.1 HI.out.2.2.2 rfl (by omega) _ (by rfl) (alloc3_at2 _ _ _ _) (by omega)
         w.heap.size A1 g.start.length c1 (ints g.start) (by rfl) (Hh.out.st.vals.below ((((Below.refl _ w).alloc (Nat.le_refl _) _).alloc (by simp) _).alloc (by simp; omega) _)) (by simp [ints]) h1 (by simp only [maxLen]; omega) (by omega) ?_
       intro g1 d1 w1 hown hgrow hat hg1 hg1s
       have hBel1 := Lib.hid (Below.ofGrown ((((Below.refl _ w).alloc (Nat.le_refl _) _).alloc (by simp) _).alloc (by simp; omega) _) hgrow (by simp; omega) (by omega))
       have hb1 := (hgrow.block w.heap.size (by simp; omega) (by simp; omega)).trans (alloc3_at0 _ _ _ _)
       have hr1 := (hgrow.block (w.heap.size + 1) (by simp) (by simp)).trans (alloc3_at1 _ _ _ _)
       have cb1 := fun i => cell_of_row w1 w.heap.size i _ _ _ hb1
       have fb1 := fun i => frozen_of_row w1 w.heap.size i _ _ hb1
       simp only [World.size_alloc] at hat
       have HO1 := Lib.hid hown
       have Hb1 := Lib.hid hb1
       have Hr1 := Lib.hid hr1
       have hne : g1 ≠ w.heap.size := by omega
       have hne' : g1 ≠ w.heap.size + 1 := by omega
       have hws : w.heap.size + 1 < w1.heap.size := by omega
       have hws0 : w.heap.size < w1.heap.size := by omega
       clear hown hgrow hb1 hr1 hat)
    | (at_builtin
       have hW := alloc_at0 (w1.setCell ⟨w.heap.size, 8, none⟩ (.slice (some ⟨g1, 0, none⟩) g.start.length d1)) (.cells #[] 76)
       simp only [World.size_setCell] at hW
       refine wpl_clone (by rfl) (.tmp 8) (.tmp 10) _ (by rfl) w.heap.size 76 i1 _ 2 16 Try.underlying27 HJ.out.1 HJ.out.2.1 HJ.out.2.2.1 HJ.out.2.2.2 rfl (by omega) _ (by rfl) hW (by omega)
         w.heap.size A2 g.seas.length c2 (pairs g.seas) (by rfl) (Hh.out.se.below ((hBel1.out.setCell (p := ⟨w.heap.size, 8, none⟩) (Nat.le_refl _) _).alloc (by simp; omega) _)) (pairs_len _) h2 (by simp only [maxLen]; omega) (by omega) ?_
       go_must (
       intro g2 d2 w2 hown hgrow hat hg2 hg2s
       have hBel2 := Lib.hid (Below.ofGrown ((hBel1.out.setCell (p := ⟨w.heap.size, 8, none⟩) (Nat.le_refl _) (.slice (some ⟨g1, 0, none⟩) g.start.length d1)).alloc (by simp; omega) _) hgrow (by simp; omega) (by omega))
       have hb2 := (hgrow.block w.heap.size (by simp; omega) (by simp; omega)).trans ((Below.heap_alloc _ _ _ (by simp; omega)).trans (heap_setCell_same w1 w.heap.size 8 _ _ (.slice (some ⟨g1, 0, none⟩) g.start.length d1) Hb1.out))
       have hr2 := (hgrow.block (w.heap.size + 1) (by simp; omega) (by simp; omega)).trans ((Below.heap_alloc _ _ _ (by simp; omega)).trans ((heap_setCell_other w1 ⟨w.heap.size, 8, none⟩ (w.heap.size + 1) (.slice (some ⟨g1, 0, none⟩) g.start.length d1) (by simp)).trans Hr1.out))
       have ho2 := ((own_far HO1.out (p := ⟨w.heap.size, 8, none⟩) hne (.slice (some ⟨g1, 0, none⟩) g.start.length d1)).alloc (.cells #[] 76)).kept hgrow (Or.inr (by simp [Value.ownBlock]; omega))
       simp only [World.size_alloc, World.size_setCell] at hat
       simp only [List.setIfInBounds_toArray, List.set_cons_succ, List.set_cons_zero] at hb2
       have cb2 := fun i => cell_of_row w2 w.heap.size i _ _ _ hb2
       have fb2 := fun i => frozen_of_row w2 w.heap.size i _ _ hb2
       have cr2 := fun i => cell_of_row w2 (w.heap.size + 1) i _ _ _ hr2
       have fr2 := fun i => frozen_of_row w2 (w.heap.size + 1) i _ _ hr2
       have HO2 := Lib.hid hown
       have HO21 := Lib.hid ho2
       have Hne2 := Lib.hid (show g1 ≠ g2 ∧ g2 ≠ w.heap.size ∧ g2 ≠ w.heap.size + 1 by omega)
       clear hown hgrow hb2 hr2 hat ho2))
    | fail)
  refine bodyPost_ret (v := grv g (some ⟨g1, 0, none⟩) d1 (some ⟨g2, 0, none⟩) d2) (by simp [results, grv, Try.results13, go_sem, cr2]) rfl ?_
  refine ⟨g1, d1, g2, d2, rfl, by omega, by omega, Hne2.out.1, ?_, ?_, ?_⟩
  · have h := HO21.out
    have hne := Hne2.out
    repeat (first | with_reducible assumption | (with_reducible refine own_far ?_ ?hp _; case hp => simp; try omega))
  · have h := HO2.out
    have hne := Hne2.out
    repeat (first | with_reducible assumption | (with_reducible refine own_far ?_ ?hp _; case hp => simp; try omega))
  · have h := hBel2.out
    repeat (first | with_reducible assumption | (with_reducible refine Below.setCell ?_ ?hp _; case hp => simp; try omega))

end Go.Proofs.Ytkjdapgkojfbmaa
