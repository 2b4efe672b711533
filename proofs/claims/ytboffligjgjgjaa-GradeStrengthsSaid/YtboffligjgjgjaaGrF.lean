/-
  Which gradings are valid.
-/
import Derived.Test.YtboffligjgjgjaaGrE
namespace Go.Proofs.Ytboffligjgjgjaa
open Go.RowKit

attribute [local go_sem] gives

theorem grValidGrade1_any (s : Int × Int) (w : World) : Calls Try.prog 69 #[.agg (sp2 s).toArray] w fun e w' => e = .returned (.bool (!okSt s.1 s.2)) ∧ Below w.heap.size w w' := by
  unfold sp2
  have H := fun W => grValidStress_any s.1 s.2 W
  generalize okSt s.1 s.2 = v at H
  have HH := Lib.hid H
  clear H
  go_enter Try.func69, Try.ntmps69
  go_wp2_with (go_at_call 70; refine (HH.out _).mono ?_; rintro e w' ⟨rfl, hB1⟩; have HB1 := Lib.hid ((grow1 w _).trans (hB1.mono (by simp))); clear hB1)
  go_ret
  exact ⟨rfl, HB1.out⟩

/-- A grade's three spans. -/
def st3 (g : Gd) : List (Int × Int) := [(g.l0, g.h0), (g.l1, g.h1), (g.l2, g.h2)]
theorem st3_vals {W : World} {b : Nat} {g : Gd} {t : TypeId} (h : W.heap[b]? = some (.cells (gcl g).toArray t (0, 0))) : Vals W (b + 1) (some ⟨b, 2, none⟩) ((st3 g).flatMap sp2) := fun _ =>
  ⟨b, 2, rfl, by omega, fun j u hj => by
    have e : (st3 g).flatMap sp2 = (gcl g).drop 2 := rfl
    rw [e, List.getElem?_drop] at hj
    rw [cell_of_row W b (2 + j) _ _ _ h, List.getElem?_toArray]
    exact hj⟩
theorem okGd_allB (g : Gd) (a b : Int) : okGd g a b = (allB a 6 [g.age] && (allB b 60 [g.wall] && !(st3 g).any fun s => !okSt s.1 s.2)) := by
  simp [okGd, allB, st3]

set_option maxRecDepth 100000 in
set_option maxHeartbeats 4000000 in
theorem grValidGrade_any (g q : Gd) (w : World) :
    Calls Try.prog 51 #[.agg (gcl g).toArray, .agg (gcl q).toArray] w fun e w' => e = .returned (.bool (okGd g q.age q.wall)) ∧ Below w.heap.size w w' := by
  rw [okGd_allB]
  have HW := Lib.hid (fun (lo hi : Int) (n : Int) (W : World) => grWithin_new lo hi [n] (W.alloc (.cells #[.int .i64 n] 3)) W.heap.size 1 1 rfl (alloc_at0 W _) (by simp))
  obtain ⟨w1, hw1⟩ : ∃ w1, w.alloc (.cells (gcl g).toArray 82) = w1 := ⟨_, rfl⟩
  obtain ⟨w2, hw2⟩ : ∃ w2, w1.alloc (.cells (gcl q).toArray 82) = w2 := ⟨_, rfl⟩
  have hs1 : w1.heap.size = w.heap.size + 1 := by rw [← hw1]; simp
  have hb2 : Below w.heap.size w w2 := by rw [← hw2, ← hw1]; exact grow2 _ _ _
  have hm1 : w2.heap[w.heap.size]? = some (.cells (gcl g).toArray 82 (0, 0)) := by rw [← hw2, ← hw1]; exact alloc2_at0 _ _ _
  have hm2 : w2.heap[w1.heap.size]? = some (.cells (gcl q).toArray 82 (0, 0)) := by rw [← hw2]; exact alloc_at0 _ _
  have hv := fun (W : World) (hW : Below w2.heap.size w2 W) => grVG_contains (fun s => !okSt s.1 s.2) (some ⟨w.heap.size, 2, none⟩) 3 (st3 g) (w.heap.size + 1) W (by have := lt_of_heap hm1; have := hW.size; omega) (st3_vals ((hW.block _ (lt_of_heap hm1)).trans hm1)) (by simp [st3]) (fun y W' _ _ => grValidGrade1_any y W')
  have hc1 := fun i => cell_of_row w2 w.heap.size i _ _ _ hm1
  have hc2 := fun i => cell_of_row w2 w1.heap.size i _ _ _ hm2
  have hk : ∀ W, Below w2.heap.size w2 W → ∀ i, W.cell? ⟨w.heap.size, i, none⟩ = w2.cell? ⟨w.heap.size, i, none⟩ := fun W hW i => hW.cell (p := ⟨w.heap.size, i, none⟩) (lt_of_heap hm1)
  have hk2 : ∀ W, Below w2.heap.size w2 W → ∀ i, W.cell? ⟨w1.heap.size, i, none⟩ = w2.cell? ⟨w1.heap.size, i, none⟩ := fun W hW i => hW.cell (p := ⟨w1.heap.size, i, none⟩) (lt_of_heap hm2)
  have HK := Lib.hid (And.intro hk (And.intro hk2 hb2))
  have HV := Lib.hid hv
  have HS1 := Lib.hid hs1
  clear hv hb2 hm1 hm2 hk hk2 hs1
  unfold gcl at hc1 hc2 hw1 hw2 ⊢
  generalize ((st3 g).any fun s => !okSt s.1 s.2) = c at HV ⊢
  cases ha : allB q.age 6 [g.age] with
  | false =>
    have HA := Lib.hid ha
    clear ha
    rw [Bool.false_and]
    go_enter Try.func51, Try.ntmps51
    go_wp2_with
      (go_at_call 37; (with_reducible show Calls _ _ #[.agg #[_, .int .i64 6], _] _ _); refine (HW.out q.age 6 g.age w2).mono ?_; rintro e w3 ⟨rfl, hB3⟩; rw [HA.out]; have B3 := Lib.hid ((grow1 w2 _).trans (hB3.mono (by simp))); clear hB3)
    go_ret
    exact ⟨rfl, HK.out.2.2.trans (B3.out.mono HK.out.2.2.size)⟩
  | true =>
  rw [Bool.true_and]
  cases hb : allB q.wall 60 [g.wall] with
  | false =>
    have HA := Lib.hid ha
    have HB := Lib.hid hb
    clear ha hb
    rw [Bool.false_and]
    go_enter Try.func51, Try.ntmps51
    go_wp2_with (first
      | (go_at_call 37; (with_reducible show Calls _ _ #[.agg #[_, .int .i64 6], _] _ _); refine (HW.out q.age 6 g.age w2).mono ?_; rintro e w3 ⟨rfl, hB3⟩; rw [HA.out]; have B3 := Lib.hid ((grow1 w2 _).trans (hB3.mono (by simp))); have hc3 := fun i => (HK.out.1 w3 B3.out i).trans (hc1 i); have hc4 := fun i => (HK.out.2.1 w3 B3.out i).trans (hc2 i); clear hB3)
      | (go_at_call 37; (with_reducible show Calls _ _ #[.agg #[_, .int .i64 60], _] _ _); refine (HW.out q.wall 60 g.wall w3).mono ?_; rintro e w4 ⟨rfl, hB4⟩; rw [HB.out]; have B4 := Lib.hid (B3.out.trans (((grow1 w3 _).trans (hB4.mono (by simp))).mono B3.out.size)); clear hB4))
    go_ret
    exact ⟨rfl, HK.out.2.2.trans (B4.out.mono HK.out.2.2.size)⟩
  | true =>
  have HA := Lib.hid ha
  have HB := Lib.hid hb
  clear ha hb
  rw [Bool.true_and]
  go_enter Try.func51, Try.ntmps51
  go_wp2_with (first
    | (go_at_call 37; (with_reducible show Calls _ _ #[.agg #[_, .int .i64 6], _] _ _); refine (HW.out q.age 6 g.age w2).mono ?_; rintro e w3 ⟨rfl, hB3⟩; rw [HA.out]; have B3 := Lib.hid ((grow1 w2 _).trans (hB3.mono (by simp))); have hc3 := fun i => (HK.out.1 w3 B3.out i).trans (hc1 i); have hc4 := fun i => (HK.out.2.1 w3 B3.out i).trans (hc2 i); clear hB3)
    | (go_at_call 37; (with_reducible show Calls _ _ #[.agg #[_, .int .i64 60], _] _ _); refine (HW.out q.wall 60 g.wall w3).mono ?_; rintro e w4 ⟨rfl, hB4⟩; rw [HB.out]; have B4 := Lib.hid (B3.out.trans (((grow1 w3 _).trans (hB4.mono (by simp))).mono B3.out.size)); clear hB4)
    | (go_at_call 66; refine (HV.out w4 B4.out).mono ?_; rintro e w5 ⟨rfl, hB5⟩; have B5 := Lib.hid (B4.out.trans (hB5.mono B4.out.size)); clear hB5))
  go_ret
  exact ⟨rfl, HK.out.2.2.trans (B5.out.mono HK.out.2.2.size)⟩

end Go.Proofs.Ytboffligjgjgjaa
