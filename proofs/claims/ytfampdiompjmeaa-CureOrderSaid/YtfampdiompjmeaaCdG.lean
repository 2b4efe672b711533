/-
  How wet poles are, and the levels of a pond.
-/
import Derived.Test.YtfampdiompjmeaaCdF
namespace Go.Proofs.Ytfampdiompjmeaa
open Go.RowKit

attribute [local go_sem] gives

theorem own_pair {w : World} {e : TypeId} {x y : Int} {base : Nat} {g : Nat} (h0 : w.heap[g]? = some (.cells #[.int .i64 x, .int .i64 y] e (0, 0))) (hb : base ≤ g) : w.ownsRow base e 2 (.slice (some ⟨g, 0, none⟩) 1 1) 1 (pairs [(x, y)]) :=
  ⟨by simp [pairs], .inr ⟨g, 1, #[.int .i64 x, .int .i64 y], rfl, hb, h0, Nat.le_refl _, by unfold maxLen; omega, by simp, by simp [pairs]⟩⟩

theorem pairs_cons (p : Int × Int) (l : List (Int × Int)) : pairs (p :: l) = pairs [p] ++ pairs l := by simp [pairs]

/-- All days' wetness. -/
def wetA (d : Dr) : List (Int × Int) := (d.wl, d.wh) :: wetL d d.wl d.wh 365
theorem wetA_len (d : Dr) : (wetA d).length = 366 := by unfold wetA; rw [List.length_cons, wetL_len]

def WetPost (w : World) (d : Dr) (e : Ending) (w' : World) : Prop :=
  ∃ A c, e = .returned (.slice A 366 c) ∧ Vals w' w'.heap.size A (pairs (wetA d)) ∧ Below w.heap.size w w'

set_option maxRecDepth 100000 in
set_option maxHeartbeats 4000000 in
theorem wetness_any (d : Dr) (hok : DrOk d) (w : World) :
    Calls Try.prog 54 #[.agg (dcells d)] w (WetPost w d) := by
  have hds := fun g W hg => daysSpan_any d g 365 (by decide) W hg hok
  unfold DaysPost fn2 at hds
  have hwa : pairs (wetA d) = pairs [(d.wl, d.wh)] ++ pairs (wetL d d.wl d.wh 365) := by unfold wetA; exact pairs_cons _ _
  have hwl : (pairs (wetL d d.wl d.wh 365)).length = 365 * 2 := by rw [pairs_len, wetL_len]
  rw [wetL_len] at hds
  generalize wetL d d.wl d.wh 365 = L at hds hwa hwl
  obtain ⟨R, hR⟩ : ∃ R, R = (pairs (List.replicate 365 (d.ll, d.lh))).toArray := ⟨_, rfl⟩
  have hrp := fun b c W hb => repeat_any d.ll d.lh b c W hb
  unfold RepPost at hrp
  rw [← hR] at hds hrp
  obtain ⟨i0, hi, hz0, hz1, hz2⟩ := info_parts infoSpan
  have HI := Lib.hid (And.intro hi (And.intro hz0 (And.intro hz1 hz2)))
  have HDS := Lib.hid hds
  have hr1 := hrp (w.heap.size + 1) 1 ((w.alloc (.cells #[.int .i64 d.wl, .int .i64 d.wh, .int .i64 d.ll, .int .i64 d.lh, .int .i64 d.most] 41)).alloc (.cells #[.int .i64 d.ll, .int .i64 d.lh] 26)) (alloc2_at1 _ _ _)
  have HRP := Lib.hid hr1
  clear hr1
  have HL := Lib.hid (And.intro hwa hwl)
  clear hds hrp hwa hwl hR hi hz0 hz1 hz2
  unfold dcells
  go_enter Try.func54, Try.ntmps54
  go_wp2_with (first
    | (go_at_call 72; refine HRP.out.mono ?_; rintro e w1 ⟨rfl, hM1, hB1⟩
       have hs1 := hB1.size
       simp only [World.size_alloc] at hs1 hM1
       have hc0 := fun i => cell_of_row w1 w.heap.size i _ _ _ ((hB1.block _ (by simp; omega)).trans (alloc2_at0 w _ _))
       have H1 := Lib.hid (And.intro hM1 (And.intro ((hB1.block w.heap.size (by simp; omega)).trans (alloc2_at0 w _ _)) (((Below.refl w.heap.size w).alloc (Nat.le_refl _) _).alloc (by simp) _ |>.trans (hB1.mono (by simp; omega)))))
       clear hM1 hB1)
    | (go_at_call 73; refine (HDS.out _ w1 H1.out.1).mono ?_; rintro e w2 ⟨rfl, hM2, hB2⟩
       have hs2 := hB2.size
       have hc1 := fun i => cell_of_row w2 w.heap.size i _ _ _ ((hB2.block _ (by omega)).trans H1.out.2.1)
       have H2 := Lib.hid (And.intro hM2 (H1.out.2.2.trans (hB2.mono H1.out.2.2.size)))
       clear hM2 hB2 hc0)
    | (at_builtin
       refine wpl_app (by rfl) (.tmp 16) (.tmp 17) _ (by rfl) w.heap.size 26 i0 _ 2 16 Try.underlying42 HI.out.1 HI.out.2.1 HI.out.2.2.1 HI.out.2.2.2 rfl (by omega) _ 1 (pairs [(d.wl, d.wh)]) (by rfl) (own_pair (alloc_at0 w2 _) H2.out.2.size)
         w2.heap.size (some ⟨w1.heap.size + 1 + 1, 0, none⟩) 365 365 (pairs L) (by rfl) (vals_in ((Below.heap_alloc _ _ _ (lt_of_heap H2.out.1)).trans H2.out.1) (lt_of_heap H2.out.1) at0) HL.out.2 (pairs_one _) (by simp only [maxLen]; omega) (by omega) (by simp; exact Nat.le_succ_of_le H2.out.2.size) ?_
       intro v3 w3 hown hgrow _
       obtain ⟨X, c3, rfl⟩ := own_slice hown
       have hB3 := (H2.out.2.alloc H2.out.2.size _).grown hgrow (by simp; exact Nat.le_succ_of_le H2.out.2.size) (fun k e => by cases e; exact H2.out.2.size)
       rw [← HL.out.1] at hown
       have H3 := Lib.hid (And.intro hown hB3)
       clear hown hgrow hB3))
  go_ret
  exact ⟨X, c3, rfl, Vals.own H3.out.1, H3.out.2⟩

def LevPost (w : World) (p : Po) (zs : List Int) (e : Ending) (w' : World) : Prop :=
  ∃ A, e = .returned (.slice A zs.length zs.length) ∧ Vals w' w'.heap.size A (pairs (levL p 0 0 zs)) ∧ Below w.heap.size w w'

theorem levelsOf_any (p : Po) (zs : List Int) (A : Option Addr) (cap : Nat) (B : Nat) (w : World) (hB : B ≤ w.heap.size) (hz : Ints w B A zs) (hok : PoOk p zs) :
    Calls Try.prog 58 #[.agg (pcells p), .slice A zs.length cap] w (LevPost w p zs) := by
  have hg : Below w.heap.size w (w.alloc (.cells (pcells p) 46)) := (Below.refl _ _).alloc (Nat.le_refl _) _
  have hds := daysInt_any p w.heap.size zs A cap B (w.alloc (.cells (pcells p) 46)) (Nat.le_trans hB hg.size) (alloc_at0 w _) (hz.below (hg.mono hB)) hok
  unfold DaysPost at hds
  rw [levL_len] at hds
  unfold LevPost
  generalize levL p 0 0 zs = L at hds
  have HG := Lib.hid hg
  clear hg hz
  unfold fn2 pcells at hds
  simp only [World.size_alloc] at hds
  have HDS := Lib.hid hds
  clear hds
  unfold pcells at HG ⊢
  go_enter Try.func58, Try.ntmps58
  go_wp2_with (go_at_call 77; refine HDS.out.mono ?_; rintro e w2 ⟨rfl, hM2, hB2⟩; have H2 := Lib.hid (And.intro hM2 hB2); clear hM2 hB2)
  go_ret
  exact ⟨_, rfl, vals_in H2.out.1 (lt_of_heap H2.out.1) at0, HG.out.trans (H2.out.2.mono (by simp))⟩

end Go.Proofs.Ytfampdiompjmeaa
