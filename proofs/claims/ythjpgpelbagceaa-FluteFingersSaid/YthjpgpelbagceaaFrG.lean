/-
  A flute's twin.
-/
import Derived.Test.YthjpgpelbagceaaFrF
import Derived.Test.YthjpgpelbagceaaCdD
set_option linter.all false
namespace Go.Proofs.Ythjpgpelbagceaa
open Go.RowKit

theorem infoHole : (Try.prog.info? 38).map (fun i => (i.zero, i.size, i.bytes)) = some (some (.agg #[.int .i64 0, .int .i64 0, .int .i64 0]), 3, 24) := by kernel_rfl
def TwinPostF (w : World) (f : Fu) (e : Ending) (w' : World) : Prop := ∃ g c, e = .returned (.agg (fuc (fuAt' f (some ⟨g, 0, none⟩) c)).toArray) ∧ FuAt w' w'.heap.size (fuAt' f (some ⟨g, 0, none⟩) c) ∧ w.heap.size ≤ g ∧ Below w.heap.size w w'

set_option maxRecDepth 100000 in
set_option maxHeartbeats 8000000 in
theorem rfTwin_any (f : Fu) (hl : f.hs.length ≤ 1000000) (B : Nat) (w : World) (hB : B ≤ w.heap.size) (hz : FuAt w B f) :
    Calls Try.prog 26 #[.agg (fuc f).toArray] w (TwinPostF w f) := by
  have h1 : Vals w B f.A (f.hs.flatMap hoc) := hz
  obtain ⟨i0, hi, hz0, hz1, hz2⟩ := info_parts infoHole
  have HF := Lib.hid (And.intro hi (And.intro hz0 (And.intro hz1 hz2)))
  have hfl := flat_len hoc_len f.hs
  clear hz hi hz0 hz1 hz2
  unfold TwinPostF fuAt' fuc
  dsimp only
  obtain ⟨w1, hw1⟩ : ∃ w1, ((w.alloc (.cells #[.int .i64 f.len, .int .i64 f.e0, .int .i64 f.e1, .int .i64 f.c0, .int .i64 f.c1, .int .i64 f.s0, .int .i64 f.s1, .slice f.A f.hs.length f.cap] 28)).alloc (.cells #[.int .i64 0, .int .i64 0, .int .i64 0, .int .i64 0, .int .i64 0, .int .i64 0, .int .i64 0, .slice none 0 0] 28)).alloc (.cells #[] 38) = w1 := ⟨_, rfl⟩
  have hb1 : Below w.heap.size w w1 := by rw [← hw1]; exact (((Below.refl _ _).alloc (Nat.le_refl _) _).alloc (by simp) _).alloc (by simp; omega) _
  have m0 : w1.heap[w.heap.size]? = some (.cells #[.int .i64 f.len, .int .i64 f.e0, .int .i64 f.e1, .int .i64 f.c0, .int .i64 f.c1, .int .i64 f.s0, .int .i64 f.s1, .slice f.A f.hs.length f.cap] 28 (0, 0)) := by rw [← hw1]; exact alloc3_at0 _ _ _ _
  have m1 : w1.heap[w.heap.size + 1]? = some (.cells #[.int .i64 0, .int .i64 0, .int .i64 0, .int .i64 0, .int .i64 0, .int .i64 0, .int .i64 0, .slice none 0 0] 28 (0, 0)) := by rw [← hw1]; exact alloc3_at1 _ _ _ _
  have m2 : w1.heap[w.heap.size + 1 + 1]? = some (.cells #[] 38 (0, 0)) := by rw [← hw1]; exact alloc3_at2 _ _ _ _
  have hc0 := fun i => cell_of_row w1 w.heap.size i _ _ _ m0
  have H1 := Lib.hid (And.intro hb1 (And.intro m0 (And.intro m1 (And.intro m2 (h1.below (hb1.mono hB))))))
  have hs1 : w1.heap.size = w.heap.size + 3 := by rw [← hw1]; simp
  have HS1 := Lib.hid hs1
  clear hb1 m0 m1 m2 h1 hs1
  have HFL := Lib.hid hfl
  clear hfl
  generalize f.A = A at hw1 hc0 H1 ⊢
  go_enter Try.func26, Try.ntmps26
  go_wp2_with (at_builtin
               refine wpl_clone (by rfl) (.tmp 3) (.tmp 5) _ (by rfl) (w.heap.size + 1 + 1) 38 i0 _ 3 24 Try.underlying26 HF.out.1 HF.out.2.1 HF.out.2.2.1 HF.out.2.2.2 rfl (by omega) _ (by rfl) H1.out.2.2.2.1 (Nat.le_refl _)
                 B A f.hs.length f.cap (f.hs.flatMap hoc) (by rfl) H1.out.2.2.2.2 HFL.out (hoc_one _) (by simp only [maxLen]; omega) (by omega) ?_
               intro g c1 w3 hown hgrow hat hg1 hg1s
               have h30 := (hgrow.block w.heap.size (lt_of_heap H1.out.2.1) (by simp only [ne_eq, Option.some.injEq]; omega)).trans H1.out.2.1
               have h31 := (hgrow.block (w.heap.size + 1) (lt_of_heap H1.out.2.2.1) (by simp only [ne_eq, Option.some.injEq]; omega)).trans H1.out.2.2.1
               have hB3 : Below w.heap.size w w3 := H1.out.1.grown hgrow H1.out.1.size (fun k e => by cases e; omega)
               have hc3 := fun i => cell_of_row w3 w.heap.size i _ _ _ h30
               have hf3 := fun i => frozen_of_row w3 w.heap.size i _ _ h30
               have hc4 := fun i => cell_of_row w3 (w.heap.size + 1) i _ _ _ h31
               have hf4 := fun i => frozen_of_row w3 (w.heap.size + 1) i _ _ h31
               have H3 := Lib.hid (And.intro hown (And.intro hB3 (And.intro hg1 (And.intro h30 h31))))
               clear hown hgrow hat hg1 hg1s hB3 h30 h31 hc0)
  refine bodyPost_ret (v := .agg #[.int .i64 f.len, .int .i64 f.e0, .int .i64 f.e1, .int .i64 f.c0, .int .i64 f.c1, .int .i64 f.s0, .int .i64 f.s1, .slice (some ⟨g, 0, none⟩) f.hs.length c1]) (by simp [results, Try.results26, go_sem, hc4]) rfl ⟨g, c1, rfl, ?_, by have := H3.out.2.2.1; omega, ?_⟩
  · have hg := H3.out.2.2.1
    refine Vals.own (base := w.heap.size + 1 + 1) (e := 38) (size := 3) (n := f.hs.length) (cap := c1) ?_
    repeat (refine ownsRow_setCell_other ?_ (by simp only [Value.ownBlock, ne_eq, Option.some.injEq]; omega) _)
    exact H3.out.1
  · repeat (refine Below.setCell ?_ (by simp) _)
    exact H3.out.2.1

end Go.Proofs.Ythjpgpelbagceaa
