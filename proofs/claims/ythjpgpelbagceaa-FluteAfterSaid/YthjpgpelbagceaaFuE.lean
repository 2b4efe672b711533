/-
  The length of the air in a tube, and its tones.
-/
import Derived.Test.YthjpgpelbagceaaFuD
import Derived.Test.YthjpgpelbagceaaFuC2
import Derived.Test.YthjpgpelbagceaaCeC
set_option linter.all false
namespace Go.Proofs.Ythjpgpelbagceaa
open Go.RowKit
open R6 (done done_ne done_me upd_ne upd_me)

attribute [local go_sem] gives

theorem rowAir : RowTy Try.prog 86 2 := ⟨⟨_, Try.underlying86, rfl⟩, by kernel_rfl⟩

set_option maxRecDepth 100000 in
set_option maxHeartbeats 4000000 in
theorem tones_any (a s : Int × Int) (ha : 50 ≤ a.1 ∧ a.1 ≤ a.2 ∧ a.2 ≤ 30000) (hs : 0 ≤ s.1 ∧ s.1 ≤ 500000 ∧ 0 ≤ s.2 ∧ s.2 ≤ 500000) (w : World) :
    Calls Try.prog 73 #[.agg #[.int .i64 a.1, .int .i64 a.2], .agg #[.int .i64 s.1, .int .i64 s.2]] w fun e w' => e = .returned (.agg #[.int .i64 (tonA s.1 s.2 a).1, .int .i64 (tonA s.1 s.2 a).2]) ∧ Below w.heap.size w w' := by
  obtain ⟨a0, a1⟩ := a
  obtain ⟨s0, s1⟩ := s
  simp only [tonA] at ha hs ⊢
  have HT1 := Lib.hid (fun W => tone_any s0 a1 (by omega) (by omega) (by omega) (by omega) W)
  have HT2 := Lib.hid (fun W => tone_any s1 a0 (by omega) (by omega) (by omega) (by omega) W)
  clear ha hs
  obtain ⟨w3, hw3⟩ : ∃ w3, ((w.alloc (.cells #[.int .i64 a0, .int .i64 a1] 86)).alloc (.cells #[.int .i64 s0, .int .i64 s1] 25)).alloc (.cells #[.int .i64 0, .int .i64 0] 25) = w3 := ⟨_, rfl⟩
  have hb : Below w.heap.size w w3 := by rw [← hw3]; exact (((Below.refl _ _).alloc (Nat.le_refl _) _).alloc (by simp) _).alloc (by simp; omega) _
  have m0 : w3.heap[w.heap.size]? = some (.cells #[.int .i64 a0, .int .i64 a1] 86 (0, 0)) := by rw [← hw3]; exact alloc3_at0 _ _ _ _
  have m1 : w3.heap[w.heap.size + 1]? = some (.cells #[.int .i64 s0, .int .i64 s1] 25 (0, 0)) := by rw [← hw3]; exact alloc3_at1 _ _ _ _
  have m2 : w3.heap[w.heap.size + 1 + 1]? = some (.cells #[.int .i64 0, .int .i64 0] 25 (0, 0)) := by rw [← hw3]; exact alloc3_at2 _ _ _ _
  have HM := Lib.hid (And.intro hb (And.intro m0 (And.intro m1 m2)))
  generalize 500 * s0 / a1 = t0 at HT1 ⊢
  generalize 500 * s1 / a0 = t1 at HT2 ⊢
  clear hb m0 m1 m2
  go_enter Try.func73, Try.ntmps73
  go_wp2
  refine R6.wp_walk (C := OneW w3 (w.heap.size + 1 + 1) (.cells #[.int .i64 0, .int .i64 0] 25 (0, 0)) (.cells #[.int .i64 t0, .int .i64 t1] 25 (0, 0)) 13) 18 (by kernel_rfl) (by kernel_rfl) rfl (OneW.start HM.out.2.2.2 rfl) ?_
  simp only []
  iterate 13
    (refine' R6.WalkR.det (fun _ => rfl) (fun D ρ W hK hC => ?_) ?_
     rotate_left
     · have f0 := fun i => cell_of_row W w.heap.size i _ _ _ ((hC.other (lt_of_heap HM.out.2.1) (by omega)).trans HM.out.2.1)
       have f1 := fun i => cell_of_row W (w.heap.size + 1) i _ _ _ ((hC.other (lt_of_heap HM.out.2.2.1) (by omega)).trans HM.out.2.2.1)
       have HC := Lib.hid hC
       clear hC hK
       go_simp
       first
         | with_reducible exact ⟨rfl, HC.out.move rfl⟩
         | (go_at_call 91; refine (HT1.out W).mono ?_; rintro e W1 ⟨rfl, rfl⟩; exact ⟨_, rfl, rfl, HC.out.move rfl⟩)
         | (go_at_call 91; refine (HT2.out W).mono ?_; rintro e W1 ⟨rfl, rfl⟩; exact ⟨_, rfl, rfl, HC.out.move rfl⟩)
     simp only [Act.put, List.setIfInBounds_toArray, List.set_cons_succ, List.set_cons_zero])
  refine' R6.WalkR.det (c := undef) (fun _ => rfl) (fun D ρ W hK hC => ?_) ?_
  · have h7 := hC.no hK.me
    refine gives_store_blk 25 (.tmp 4) (.tmp 17) rfl rfl (cs := [.int .i64 t0, .int .i64 t1]) (L := [.int .i64 0, .int .i64 0]) rfl h7 (Nat.le_refl 2) (by simp [Value.oneCell']) rowSpan ?_
    intro W1 hP hM
    exact ⟨rfl, hC.put hP hM⟩
  simp only [Act.put]
  refine R6.WalkR.nil (fun D ρ W hD hC => ?_)
  have hM7 := hC.yes (hD 13 (by decide))
  have hB7 := HM.out.1.grown hC.gb HM.out.1.size (fun k e => by cases e; omega)
  have H7 := Lib.hid (And.intro hM7 hB7)
  have hc7 := fun i => cell_of_row W (w.heap.size + 1 + 1) i _ _ _ hM7
  clear hC hD hM7 hB7
  go_wp2
  refine bodyPost_ret (v := .agg #[.int .i64 t0, .int .i64 t1]) (by simp [results, Try.results73, go_sem, hc7]) rfl ⟨rfl, H7.out.2⟩

end Go.Proofs.Ythjpgpelbagceaa
