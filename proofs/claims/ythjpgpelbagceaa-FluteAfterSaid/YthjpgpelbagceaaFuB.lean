/-
  Which flutes and notes are valid (the program's).
-/
import Derived.Test.YthjpgpelbagceaaFuP
import Derived.Test.YthjpgpelbagceaaCdD
set_option linter.all false
namespace Go.Proofs.Ythjpgpelbagceaa
open Go.RowKit
open R6 (done done_ne done_me upd_ne upd_me)

attribute [local go_sem] gives

theorem rowFlute : RowTy Try.prog 28 8 := ⟨⟨_, Try.underlying28, rfl⟩, by kernel_rfl⟩
theorem rowHole : RowTy Try.prog 38 3 := ⟨⟨_, Try.underlying38, rfl⟩, by kernel_rfl⟩

theorem validLength_any (n : Int) (w : World) : Calls Try.prog 61 #[.int .i64 n] w fun e w' => e = .returned (.bool (allB 50 20000 [n])) ∧ Below w.heap.size w w' := by
  have HW := Lib.hid (fun W b hb => within_new 50 20000 [n] W b 1 1 rfl hb (by simp))
  generalize allB 50 20000 [n] = u at HW ⊢
  go_enter Try.func61, Try.ntmps61
  go_wp2_with (go_at_call 64; refine (HW.out _ _ (alloc_at0 _ _)).mono ?_; rintro e W3 ⟨rfl, hB3⟩; have H3 := Lib.hid ((grow1 w _).trans (hB3.mono (grow1 w _).size)); clear hB3)
  go_ret
  exact ⟨rfl, H3.out⟩
theorem validSpeed_any (a b : Int) (w : World) : Calls Try.prog 63 #[.agg #[.int .i64 a, .int .i64 b]] w fun e w' => e = .returned (.bool (okS a b 100000 500000)) ∧ Below w.heap.size w w' := by
  have HW := Lib.hid (fun W => validSpan_any a b 100000 500000 W)
  generalize okS a b 100000 500000 = u at HW ⊢
  go_enter Try.func63, Try.ntmps63
  go_wp2_with (go_at_call 74; refine (HW.out _).mono ?_; rintro e W3 ⟨rfl, hB3⟩; have H3 := Lib.hid ((grow1 w _).trans (hB3.mono (grow1 w _).size)); clear hB3)
  go_ret
  exact ⟨rfl, H3.out⟩
theorem validFix_any (a b : Int) (w : World) : Calls Try.prog 62 #[.agg #[.int .i64 a, .int .i64 b]] w fun e w' => e = .returned (.bool (okS a b 0 60)) ∧ Below w.heap.size w w' := by
  obtain ⟨w1, hw1⟩ : ∃ w1, w.alloc (.cells #[.int .i64 a, .int .i64 b] 25) = w1 := ⟨_, rfl⟩
  have hb1 : Below w.heap.size w w1 := by rw [← hw1]; exact grow1 _ _
  have m1 : w1.heap[w.heap.size]? = some (.cells #[.int .i64 a, .int .i64 b] 25 (0, 0)) := by rw [← hw1]; exact alloc_at0 _ _
  have HW := Lib.hid (fun W => validSpan_any a b 0 60 W)
  generalize okS a b 0 60 = u at HW ⊢
  have H1 := Lib.hid (And.intro hb1 m1)
  clear hb1 m1
  go_enter Try.func62, Try.ntmps62
  go_wp2
  refine R6.wp_walk (C := fun _ _ W => Below w1.heap.size w1 W) 6 (by kernel_rfl) (by kernel_rfl) rfl (Below.refl _ _).drew ?_
  simp only []
  repeat (first
    | (refine' R6.WalkR.det (fun _ => rfl) (fun D ρ W hK hC => ?_) ?_
       rotate_left
       · have hcb := fun i => cell_of_row W w.heap.size i _ _ _ ((hC.block _ (lt_of_heap H1.out.2)).trans H1.out.2)
         have HC := Lib.hid hC
         clear hC hK
         go_simp
         first
           | with_reducible exact ⟨rfl, HC.out⟩
           | (go_at_call 66; refine (upTo_any _ W).mono ?_; rintro e W1 ⟨rfl, hB1⟩; exact ⟨_, rfl, rfl, HC.out.trans (hB1.mono HC.out.size)⟩)
           | (go_at_call 74; refine (HW.out W).mono ?_; rintro e W1 ⟨rfl, hB1⟩; exact ⟨_, rfl, rfl, HC.out.trans (hB1.mono HC.out.size)⟩)
       simp only [Act.put, List.setIfInBounds_toArray, List.set_cons_succ, List.set_cons_zero]))
  refine R6.WalkR.nil (fun D ρ W hD hC => ?_)
  have HB := Lib.hid (H1.out.1.trans (hC.mono H1.out.1.size))
  clear hC hD
  go_wp2
  go_ret
  exact ⟨rfl, HB.out⟩
theorem validNote_any (a b : Int) (w : World) : Calls Try.prog 46 #[.agg #[.int .i64 a, .int .i64 b]] w fun e w' => e = .returned (.bool (okS a b 1 10000000)) ∧ Below w.heap.size w w' := by
  obtain ⟨w1, hw1⟩ : ∃ w1, w.alloc (.cells #[.int .i64 a, .int .i64 b] 25) = w1 := ⟨_, rfl⟩
  have hb1 : Below w.heap.size w w1 := by rw [← hw1]; exact grow1 _ _
  have m1 : w1.heap[w.heap.size]? = some (.cells #[.int .i64 a, .int .i64 b] 25 (0, 0)) := by rw [← hw1]; exact alloc_at0 _ _
  have HW := Lib.hid (fun W => validSpan_any a b 1 10000000 W)
  generalize okS a b 1 10000000 = u at HW ⊢
  have H1 := Lib.hid (And.intro hb1 m1)
  clear hb1 m1
  go_enter Try.func46, Try.ntmps46
  go_wp2
  refine R6.wp_walk (C := fun _ _ W => Below w1.heap.size w1 W) 6 (by kernel_rfl) (by kernel_rfl) rfl (Below.refl _ _).drew ?_
  simp only []
  repeat (first
    | (refine' R6.WalkR.det (fun _ => rfl) (fun D ρ W hK hC => ?_) ?_
       rotate_left
       · have hcb := fun i => cell_of_row W w.heap.size i _ _ _ ((hC.block _ (lt_of_heap H1.out.2)).trans H1.out.2)
         have HC := Lib.hid hC
         clear hC hK
         go_simp
         first
           | with_reducible exact ⟨rfl, HC.out⟩
           | (go_at_call 65; refine (fromOne_any _ W).mono ?_; rintro e W1 ⟨rfl, hB1⟩; exact ⟨_, rfl, rfl, HC.out.trans (hB1.mono HC.out.size)⟩)
           | (go_at_call 74; refine (HW.out W).mono ?_; rintro e W1 ⟨rfl, hB1⟩; exact ⟨_, rfl, rfl, HC.out.trans (hB1.mono HC.out.size)⟩)
       simp only [Act.put, List.setIfInBounds_toArray, List.set_cons_succ, List.set_cons_zero]))
  refine R6.WalkR.nil (fun D ρ W hD hC => ?_)
  have HB := Lib.hid (H1.out.1.trans (hC.mono H1.out.1.size))
  clear hC hD
  go_wp2
  go_ret
  exact ⟨rfl, HB.out⟩

end Go.Proofs.Ythjpgpelbagceaa
