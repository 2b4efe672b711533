/-
  Which poles are valid.
-/
import Derived.Test.YtpnnlmaipcjkmaaGreatQV3
set_option linter.all false
namespace Go.Proofs.YtpnnlmaipcjkmaaGreat
open Go.RowKit
open R6 (done done_ne done_me upd_ne upd_me)

attribute [local go_sem] gives

def grVPN (p : Pol) : Nat → List Int := fun k => if k = 3 then [p.clone] else if k = 11 then [p.shot, p.cut] else if k = 29 then [p.soak] else if k = 36 then [p.place] else []

set_option maxRecDepth 100000 in
set_option maxHeartbeats 4000000 in
theorem grVP_1 (p : Pol) (w : World)
    (h1 : allB 0 9999 [p.clone] = false) :
    Calls Tryz.prog 106 #[.agg (pcl p).toArray] w fun e w' => e = .returned (.bool false) ∧ Below w.heap.size w w' := by
  unfold pcl
  have H1 := Lib.hid h1
  clear h1
  go_enter Tryz.func106, Tryz.ntmps106
  go_wp2
  refine R6.wp_walk (C := BoxM w [(w.heap.size, .cells #[.int .i64 p.id, .int .i64 p.clone, .int .i64 p.cut, .int .i64 p.shot, .int .i64 p.g0, .int .i64 p.g1, .int .i64 p.g2, .int .i64 p.w0, .int .i64 p.w1, .int .i64 p.w2, .int .i64 p.soak, .int .i64 p.place] 56)] [(3, 6)] (grVPN p)) 42 (by kernel_rfl) (by kernel_rfl) rfl (BoxM.start (grow1 w _) ⟨alloc_at0 w _, trivial⟩ (fun _ => rfl)) ?_
  simp only []
  repeat (first
    | (refine' R6.WalkR.det (fun _ => rfl) (fun D ρ W hK hC => ?_) ?_
       rotate_left
       · have hcb := fun i => cell_of_row W w.heap.size i _ _ _ hC.box.1
         have HC := Lib.hid hC
         clear hC hK
         go_simp
         first
           | with_reducible exact ⟨rfl, HC.out.move (by decide)⟩
           | (go_at_call 94; refine (grUpTo_any _ W).mono ?_; rintro e W1 ⟨rfl, hB1⟩; exact ⟨_, rfl, rfl, (HC.out.next hB1).move (by decide)⟩)
       simp only [Act.put, List.setIfInBounds_toArray, List.set_cons_succ, List.set_cons_zero]))
  refine' R6.WalkR.nd (fun _ => rfl) rfl (fun D ρ W hK hC => ?_) ?_
  · have hcb := fun i => cell_of_row W w.heap.size i _ _ _ hC.box.1
    have HC := Lib.hid hC
    clear hC hK
    go_simp
    exact HC.out.made (by decide) rfl rfl
  simp only [Act.put, List.setIfInBounds_toArray, List.set_cons_succ, List.set_cons_zero]
  refine' R6.WalkR.det (fun _ => rfl) (fun D ρ W hK hC => ?_) ?_
  rotate_left
  · obtain ⟨b, hv0, hm⟩ := hC.new (3, 6) (by decide) (hK.pre 3 (needs_edgeM (by decide +kernel)))
    have hv : _ = Value.slice (some ⟨b, 0, none⟩) 1 1 := hv0
    clear hv0
    have HC := Lib.hid hC
    have HM := Lib.hid hm
    clear hC hK hm
    go_simp
    go_at_call 93
    refine (grWithin_new 0 9999 (grVPN p 3) W b _ _ rfl HM.out (Nat.le_of_ble_eq_true rfl)).mono ?_
    rintro e W1 ⟨rfl, hB1⟩
    rw [show allB 0 9999 (grVPN p 3) = _ from H1.out]
    exact ⟨_, rfl, rfl, (HC.out.next hB1).move (by decide)⟩
  simp only [Act.put, List.setIfInBounds_toArray, List.set_cons_succ, List.set_cons_zero]
  repeat (first
    | (refine R6.WalkR.un (fun _ => rfl) (fun D ρ W hK hC => hC.move (by decide)) ?_
       simp only [Act.put, List.setIfInBounds_toArray, List.set_cons_succ, List.set_cons_zero])
    | (refine' R6.WalkR.det (fun _ => rfl) (fun D ρ W hK hC => ?_) ?_
       rotate_left
       · have hcb := fun i => cell_of_row W w.heap.size i _ _ _ hC.box.1
         have HC := Lib.hid hC
         clear hC hK
         go_simp
         first
           | with_reducible exact ⟨rfl, HC.out.move (by decide)⟩
           | (go_at_call 94; refine (grUpTo_any _ W).mono ?_; rintro e W1 ⟨rfl, hB1⟩; exact ⟨_, rfl, rfl, (HC.out.next hB1).move (by decide)⟩)
       simp only [Act.put, List.setIfInBounds_toArray, List.set_cons_succ, List.set_cons_zero]))
  refine R6.WalkR.nil (fun D ρ W hD hC => ?_)
  have HB := Lib.hid hC.bel
  clear hC hD
  go_wp2
  go_ret
  exact ⟨rfl, HB.out⟩

set_option maxRecDepth 100000 in
set_option maxHeartbeats 4000000 in
theorem grVP_2 (p : Pol) (w : World)
    (h1 : allB 0 9999 [p.clone] = true)
    (h2 : allB 0 3000 [p.shot, p.cut] = false) :
    Calls Tryz.prog 106 #[.agg (pcl p).toArray] w fun e w' => e = .returned (.bool false) ∧ Below w.heap.size w w' := by
  unfold pcl
  have H1 := Lib.hid h1
  have H2 := Lib.hid h2
  clear h1 h2
  go_enter Tryz.func106, Tryz.ntmps106
  go_wp2
  refine R6.wp_walk (C := BoxM w [(w.heap.size, .cells #[.int .i64 p.id, .int .i64 p.clone, .int .i64 p.cut, .int .i64 p.shot, .int .i64 p.g0, .int .i64 p.g1, .int .i64 p.g2, .int .i64 p.w0, .int .i64 p.w1, .int .i64 p.w2, .int .i64 p.soak, .int .i64 p.place] 56)] [(3, 6), (11, 14)] (grVPN p)) 42 (by kernel_rfl) (by kernel_rfl) rfl (BoxM.start (grow1 w _) ⟨alloc_at0 w _, trivial⟩ (fun _ => rfl)) ?_
  simp only []
  repeat (first
    | (refine' R6.WalkR.det (fun _ => rfl) (fun D ρ W hK hC => ?_) ?_
       rotate_left
       · have hcb := fun i => cell_of_row W w.heap.size i _ _ _ hC.box.1
         have HC := Lib.hid hC
         clear hC hK
         go_simp
         first
           | with_reducible exact ⟨rfl, HC.out.move (by decide)⟩
           | (go_at_call 94; refine (grUpTo_any _ W).mono ?_; rintro e W1 ⟨rfl, hB1⟩; exact ⟨_, rfl, rfl, (HC.out.next hB1).move (by decide)⟩)
       simp only [Act.put, List.setIfInBounds_toArray, List.set_cons_succ, List.set_cons_zero]))
  refine' R6.WalkR.nd (fun _ => rfl) rfl (fun D ρ W hK hC => ?_) ?_
  · have hcb := fun i => cell_of_row W w.heap.size i _ _ _ hC.box.1
    have HC := Lib.hid hC
    clear hC hK
    go_simp
    exact HC.out.made (by decide) rfl rfl
  simp only [Act.put, List.setIfInBounds_toArray, List.set_cons_succ, List.set_cons_zero]
  refine' R6.WalkR.det (fun _ => rfl) (fun D ρ W hK hC => ?_) ?_
  rotate_left
  · obtain ⟨b, hv0, hm⟩ := hC.new (3, 6) (by decide) (hK.pre 3 (needs_edgeM (by decide +kernel)))
    have hv : _ = Value.slice (some ⟨b, 0, none⟩) 1 1 := hv0
    clear hv0
    have HC := Lib.hid hC
    have HM := Lib.hid hm
    clear hC hK hm
    go_simp
    go_at_call 93
    refine (grWithin_new 0 9999 (grVPN p 3) W b _ _ rfl HM.out (Nat.le_of_ble_eq_true rfl)).mono ?_
    rintro e W1 ⟨rfl, hB1⟩
    rw [show allB 0 9999 (grVPN p 3) = _ from H1.out]
    exact ⟨_, rfl, rfl, (HC.out.next hB1).move (by decide)⟩
  simp only [Act.put, List.setIfInBounds_toArray, List.set_cons_succ, List.set_cons_zero]
  repeat (first
    | (refine' R6.WalkR.det (fun _ => rfl) (fun D ρ W hK hC => ?_) ?_
       rotate_left
       · have hcb := fun i => cell_of_row W w.heap.size i _ _ _ hC.box.1
         have HC := Lib.hid hC
         clear hC hK
         go_simp
         first
           | with_reducible exact ⟨rfl, HC.out.move (by decide)⟩
           | (go_at_call 94; refine (grUpTo_any _ W).mono ?_; rintro e W1 ⟨rfl, hB1⟩; exact ⟨_, rfl, rfl, (HC.out.next hB1).move (by decide)⟩)
       simp only [Act.put, List.setIfInBounds_toArray, List.set_cons_succ, List.set_cons_zero]))
  refine' R6.WalkR.nd (fun _ => rfl) rfl (fun D ρ W hK hC => ?_) ?_
  · have hcb := fun i => cell_of_row W w.heap.size i _ _ _ hC.box.1
    have HC := Lib.hid hC
    clear hC hK
    go_simp
    exact HC.out.made (by decide) rfl rfl
  simp only [Act.put, List.setIfInBounds_toArray, List.set_cons_succ, List.set_cons_zero]
  refine' R6.WalkR.det (fun _ => rfl) (fun D ρ W hK hC => ?_) ?_
  rotate_left
  · obtain ⟨b, hv0, hm⟩ := hC.new (11, 14) (by decide) (hK.pre 11 (needs_edgeM (by decide +kernel)))
    have hv : _ = Value.slice (some ⟨b, 0, none⟩) 2 2 := hv0
    clear hv0
    have HC := Lib.hid hC
    have HM := Lib.hid hm
    clear hC hK hm
    go_simp
    go_at_call 93
    refine (grWithin_new 0 3000 (grVPN p 11) W b _ _ rfl HM.out (Nat.le_of_ble_eq_true rfl)).mono ?_
    rintro e W1 ⟨rfl, hB1⟩
    rw [show allB 0 3000 (grVPN p 11) = _ from H2.out]
    exact ⟨_, rfl, rfl, (HC.out.next hB1).move (by decide)⟩
  simp only [Act.put, List.setIfInBounds_toArray, List.set_cons_succ, List.set_cons_zero]
  repeat (first
    | (refine R6.WalkR.un (fun _ => rfl) (fun D ρ W hK hC => hC.move (by decide)) ?_
       simp only [Act.put, List.setIfInBounds_toArray, List.set_cons_succ, List.set_cons_zero])
    | (refine' R6.WalkR.det (fun _ => rfl) (fun D ρ W hK hC => ?_) ?_
       rotate_left
       · have hcb := fun i => cell_of_row W w.heap.size i _ _ _ hC.box.1
         have HC := Lib.hid hC
         clear hC hK
         go_simp
         first
           | with_reducible exact ⟨rfl, HC.out.move (by decide)⟩
           | (go_at_call 94; refine (grUpTo_any _ W).mono ?_; rintro e W1 ⟨rfl, hB1⟩; exact ⟨_, rfl, rfl, (HC.out.next hB1).move (by decide)⟩)
       simp only [Act.put, List.setIfInBounds_toArray, List.set_cons_succ, List.set_cons_zero]))
  refine R6.WalkR.nil (fun D ρ W hD hC => ?_)
  have HB := Lib.hid hC.bel
  clear hC hD
  go_wp2
  go_ret
  exact ⟨rfl, HB.out⟩

set_option maxRecDepth 100000 in
set_option maxHeartbeats 4000000 in
theorem grVP_3 (p : Pol) (w : World)
    (h1 : allB 0 9999 [p.clone] = true)
    (h2 : allB 0 3000 [p.shot, p.cut] = true)
    (h3 : decide (p.shot ≤ p.cut) = false) :
    Calls Tryz.prog 106 #[.agg (pcl p).toArray] w fun e w' => e = .returned (.bool false) ∧ Below w.heap.size w w' := by
  unfold pcl
  have H1 := Lib.hid h1
  have H2 := Lib.hid h2
  have H3 := Lib.hid h3
  clear h1 h2 h3
  go_enter Tryz.func106, Tryz.ntmps106
  go_wp2
  refine R6.wp_walk (C := BoxM w [(w.heap.size, .cells #[.int .i64 p.id, .int .i64 p.clone, .int .i64 p.cut, .int .i64 p.shot, .int .i64 p.g0, .int .i64 p.g1, .int .i64 p.g2, .int .i64 p.w0, .int .i64 p.w1, .int .i64 p.w2, .int .i64 p.soak, .int .i64 p.place] 56)] [(3, 6), (11, 14)] (grVPN p)) 42 (by kernel_rfl) (by kernel_rfl) rfl (BoxM.start (grow1 w _) ⟨alloc_at0 w _, trivial⟩ (fun _ => rfl)) ?_
  simp only []
  repeat (first
    | (refine' R6.WalkR.det (fun _ => rfl) (fun D ρ W hK hC => ?_) ?_
       rotate_left
       · have hcb := fun i => cell_of_row W w.heap.size i _ _ _ hC.box.1
         have hq3 := H3.out
         have HC := Lib.hid hC
         clear hC hK
         go_simp
         first
           | with_reducible exact ⟨rfl, HC.out.move (by decide)⟩
           | (go_at_call 94; refine (grUpTo_any _ W).mono ?_; rintro e W1 ⟨rfl, hB1⟩; exact ⟨_, rfl, rfl, (HC.out.next hB1).move (by decide)⟩)
       simp only [Act.put, List.setIfInBounds_toArray, List.set_cons_succ, List.set_cons_zero]))
  refine' R6.WalkR.nd (fun _ => rfl) rfl (fun D ρ W hK hC => ?_) ?_
  · have hcb := fun i => cell_of_row W w.heap.size i _ _ _ hC.box.1
    have hq3 := H3.out
    have HC := Lib.hid hC
    clear hC hK
    go_simp
    exact HC.out.made (by decide) rfl rfl
  simp only [Act.put, List.setIfInBounds_toArray, List.set_cons_succ, List.set_cons_zero]
  refine' R6.WalkR.det (fun _ => rfl) (fun D ρ W hK hC => ?_) ?_
  rotate_left
  · obtain ⟨b, hv0, hm⟩ := hC.new (3, 6) (by decide) (hK.pre 3 (needs_edgeM (by decide +kernel)))
    have hv : _ = Value.slice (some ⟨b, 0, none⟩) 1 1 := hv0
    clear hv0
    have HC := Lib.hid hC
    have HM := Lib.hid hm
    clear hC hK hm
    go_simp
    go_at_call 93
    refine (grWithin_new 0 9999 (grVPN p 3) W b _ _ rfl HM.out (Nat.le_of_ble_eq_true rfl)).mono ?_
    rintro e W1 ⟨rfl, hB1⟩
    rw [show allB 0 9999 (grVPN p 3) = _ from H1.out]
    exact ⟨_, rfl, rfl, (HC.out.next hB1).move (by decide)⟩
  simp only [Act.put, List.setIfInBounds_toArray, List.set_cons_succ, List.set_cons_zero]
  repeat (first
    | (refine' R6.WalkR.det (fun _ => rfl) (fun D ρ W hK hC => ?_) ?_
       rotate_left
       · have hcb := fun i => cell_of_row W w.heap.size i _ _ _ hC.box.1
         have hq3 := H3.out
         have HC := Lib.hid hC
         clear hC hK
         go_simp
         first
           | with_reducible exact ⟨rfl, HC.out.move (by decide)⟩
           | (go_at_call 94; refine (grUpTo_any _ W).mono ?_; rintro e W1 ⟨rfl, hB1⟩; exact ⟨_, rfl, rfl, (HC.out.next hB1).move (by decide)⟩)
       simp only [Act.put, List.setIfInBounds_toArray, List.set_cons_succ, List.set_cons_zero]))
  refine' R6.WalkR.nd (fun _ => rfl) rfl (fun D ρ W hK hC => ?_) ?_
  · have hcb := fun i => cell_of_row W w.heap.size i _ _ _ hC.box.1
    have hq3 := H3.out
    have HC := Lib.hid hC
    clear hC hK
    go_simp
    exact HC.out.made (by decide) rfl rfl
  simp only [Act.put, List.setIfInBounds_toArray, List.set_cons_succ, List.set_cons_zero]
  refine' R6.WalkR.det (fun _ => rfl) (fun D ρ W hK hC => ?_) ?_
  rotate_left
  · obtain ⟨b, hv0, hm⟩ := hC.new (11, 14) (by decide) (hK.pre 11 (needs_edgeM (by decide +kernel)))
    have hv : _ = Value.slice (some ⟨b, 0, none⟩) 2 2 := hv0
    clear hv0
    have HC := Lib.hid hC
    have HM := Lib.hid hm
    clear hC hK hm
    go_simp
    go_at_call 93
    refine (grWithin_new 0 3000 (grVPN p 11) W b _ _ rfl HM.out (Nat.le_of_ble_eq_true rfl)).mono ?_
    rintro e W1 ⟨rfl, hB1⟩
    rw [show allB 0 3000 (grVPN p 11) = _ from H2.out]
    exact ⟨_, rfl, rfl, (HC.out.next hB1).move (by decide)⟩
  simp only [Act.put, List.setIfInBounds_toArray, List.set_cons_succ, List.set_cons_zero]
  repeat (first
    | (refine R6.WalkR.un (fun _ => rfl) (fun D ρ W hK hC => hC.move (by decide)) ?_
       simp only [Act.put, List.setIfInBounds_toArray, List.set_cons_succ, List.set_cons_zero])
    | (refine' R6.WalkR.det (fun _ => rfl) (fun D ρ W hK hC => ?_) ?_
       rotate_left
       · have hcb := fun i => cell_of_row W w.heap.size i _ _ _ hC.box.1
         have hq3 := H3.out
         have HC := Lib.hid hC
         clear hC hK
         go_simp
         first
           | with_reducible exact ⟨rfl, HC.out.move (by decide)⟩
           | (go_at_call 94; refine (grUpTo_any _ W).mono ?_; rintro e W1 ⟨rfl, hB1⟩; exact ⟨_, rfl, rfl, (HC.out.next hB1).move (by decide)⟩)
       simp only [Act.put, List.setIfInBounds_toArray, List.set_cons_succ, List.set_cons_zero]))
  refine R6.WalkR.nil (fun D ρ W hD hC => ?_)
  have HB := Lib.hid hC.bel
  clear hC hD
  go_wp2
  go_ret
  exact ⟨rfl, HB.out⟩

set_option maxRecDepth 100000 in
set_option maxHeartbeats 4000000 in
theorem grVP_4 (p : Pol) (w : World)
    (h1 : allB 0 9999 [p.clone] = true)
    (h2 : allB 0 3000 [p.shot, p.cut] = true)
    (h3 : decide (p.shot ≤ p.cut) = true)
    (h4 : okSecs p = false) :
    Calls Tryz.prog 106 #[.agg (pcl p).toArray] w fun e w' => e = .returned (.bool false) ∧ Below w.heap.size w w' := by
  unfold pcl
  have H1 := Lib.hid h1
  have H2 := Lib.hid h2
  have H3 := Lib.hid h3
  have H4 := Lib.hid h4
  clear h1 h2 h3 h4
  go_enter Tryz.func106, Tryz.ntmps106
  go_wp2
  refine R6.wp_walk (C := BoxM w [(w.heap.size, .cells #[.int .i64 p.id, .int .i64 p.clone, .int .i64 p.cut, .int .i64 p.shot, .int .i64 p.g0, .int .i64 p.g1, .int .i64 p.g2, .int .i64 p.w0, .int .i64 p.w1, .int .i64 p.w2, .int .i64 p.soak, .int .i64 p.place] 56)] [(3, 6), (11, 14)] (grVPN p)) 42 (by kernel_rfl) (by kernel_rfl) rfl (BoxM.start (grow1 w _) ⟨alloc_at0 w _, trivial⟩ (fun _ => rfl)) ?_
  simp only []
  repeat (first
    | (refine' R6.WalkR.det (fun _ => rfl) (fun D ρ W hK hC => ?_) ?_
       rotate_left
       · have hcb := fun i => cell_of_row W w.heap.size i _ _ _ hC.box.1
         have hq3 := H3.out
         have HC := Lib.hid hC
         clear hC hK
         go_simp
         first
           | with_reducible exact ⟨rfl, HC.out.move (by decide)⟩
           | (go_at_call 94; refine (grUpTo_any _ W).mono ?_; rintro e W1 ⟨rfl, hB1⟩; exact ⟨_, rfl, rfl, (HC.out.next hB1).move (by decide)⟩)
           | (go_at_call 145; refine (grValidSections_any p W).mono ?_; rintro e W1 ⟨rfl, hB1⟩; rw [H4.out]; exact ⟨_, rfl, rfl, (HC.out.next hB1).move (by decide)⟩)
       simp only [Act.put, List.setIfInBounds_toArray, List.set_cons_succ, List.set_cons_zero]))
  refine' R6.WalkR.nd (fun _ => rfl) rfl (fun D ρ W hK hC => ?_) ?_
  · have hcb := fun i => cell_of_row W w.heap.size i _ _ _ hC.box.1
    have hq3 := H3.out
    have HC := Lib.hid hC
    clear hC hK
    go_simp
    exact HC.out.made (by decide) rfl rfl
  simp only [Act.put, List.setIfInBounds_toArray, List.set_cons_succ, List.set_cons_zero]
  refine' R6.WalkR.det (fun _ => rfl) (fun D ρ W hK hC => ?_) ?_
  rotate_left
  · obtain ⟨b, hv0, hm⟩ := hC.new (3, 6) (by decide) (hK.pre 3 (needs_edgeM (by decide +kernel)))
    have hv : _ = Value.slice (some ⟨b, 0, none⟩) 1 1 := hv0
    clear hv0
    have HC := Lib.hid hC
    have HM := Lib.hid hm
    clear hC hK hm
    go_simp
    go_at_call 93
    refine (grWithin_new 0 9999 (grVPN p 3) W b _ _ rfl HM.out (Nat.le_of_ble_eq_true rfl)).mono ?_
    rintro e W1 ⟨rfl, hB1⟩
    rw [show allB 0 9999 (grVPN p 3) = _ from H1.out]
    exact ⟨_, rfl, rfl, (HC.out.next hB1).move (by decide)⟩
  simp only [Act.put, List.setIfInBounds_toArray, List.set_cons_succ, List.set_cons_zero]
  repeat (first
    | (refine' R6.WalkR.det (fun _ => rfl) (fun D ρ W hK hC => ?_) ?_
       rotate_left
       · have hcb := fun i => cell_of_row W w.heap.size i _ _ _ hC.box.1
         have hq3 := H3.out
         have HC := Lib.hid hC
         clear hC hK
         go_simp
         first
           | with_reducible exact ⟨rfl, HC.out.move (by decide)⟩
           | (go_at_call 94; refine (grUpTo_any _ W).mono ?_; rintro e W1 ⟨rfl, hB1⟩; exact ⟨_, rfl, rfl, (HC.out.next hB1).move (by decide)⟩)
           | (go_at_call 145; refine (grValidSections_any p W).mono ?_; rintro e W1 ⟨rfl, hB1⟩; rw [H4.out]; exact ⟨_, rfl, rfl, (HC.out.next hB1).move (by decide)⟩)
       simp only [Act.put, List.setIfInBounds_toArray, List.set_cons_succ, List.set_cons_zero]))
  refine' R6.WalkR.nd (fun _ => rfl) rfl (fun D ρ W hK hC => ?_) ?_
  · have hcb := fun i => cell_of_row W w.heap.size i _ _ _ hC.box.1
    have hq3 := H3.out
    have HC := Lib.hid hC
    clear hC hK
    go_simp
    exact HC.out.made (by decide) rfl rfl
  simp only [Act.put, List.setIfInBounds_toArray, List.set_cons_succ, List.set_cons_zero]
  refine' R6.WalkR.det (fun _ => rfl) (fun D ρ W hK hC => ?_) ?_
  rotate_left
  · obtain ⟨b, hv0, hm⟩ := hC.new (11, 14) (by decide) (hK.pre 11 (needs_edgeM (by decide +kernel)))
    have hv : _ = Value.slice (some ⟨b, 0, none⟩) 2 2 := hv0
    clear hv0
    have HC := Lib.hid hC
    have HM := Lib.hid hm
    clear hC hK hm
    go_simp
    go_at_call 93
    refine (grWithin_new 0 3000 (grVPN p 11) W b _ _ rfl HM.out (Nat.le_of_ble_eq_true rfl)).mono ?_
    rintro e W1 ⟨rfl, hB1⟩
    rw [show allB 0 3000 (grVPN p 11) = _ from H2.out]
    exact ⟨_, rfl, rfl, (HC.out.next hB1).move (by decide)⟩
  simp only [Act.put, List.setIfInBounds_toArray, List.set_cons_succ, List.set_cons_zero]
  repeat (first
    | (refine R6.WalkR.un (fun _ => rfl) (fun D ρ W hK hC => hC.move (by decide)) ?_
       simp only [Act.put, List.setIfInBounds_toArray, List.set_cons_succ, List.set_cons_zero])
    | (refine' R6.WalkR.det (fun _ => rfl) (fun D ρ W hK hC => ?_) ?_
       rotate_left
       · have hcb := fun i => cell_of_row W w.heap.size i _ _ _ hC.box.1
         have hq3 := H3.out
         have HC := Lib.hid hC
         clear hC hK
         go_simp
         first
           | with_reducible exact ⟨rfl, HC.out.move (by decide)⟩
           | (go_at_call 94; refine (grUpTo_any _ W).mono ?_; rintro e W1 ⟨rfl, hB1⟩; exact ⟨_, rfl, rfl, (HC.out.next hB1).move (by decide)⟩)
           | (go_at_call 145; refine (grValidSections_any p W).mono ?_; rintro e W1 ⟨rfl, hB1⟩; rw [H4.out]; exact ⟨_, rfl, rfl, (HC.out.next hB1).move (by decide)⟩)
       simp only [Act.put, List.setIfInBounds_toArray, List.set_cons_succ, List.set_cons_zero]))
  refine R6.WalkR.nil (fun D ρ W hD hC => ?_)
  have HB := Lib.hid hC.bel
  clear hC hD
  go_wp2
  go_ret
  exact ⟨rfl, HB.out⟩

set_option maxRecDepth 100000 in
set_option maxHeartbeats 4000000 in
theorem grVP_5 (p : Pol) (w : World)
    (h1 : allB 0 9999 [p.clone] = true)
    (h2 : allB 0 3000 [p.shot, p.cut] = true)
    (h3 : decide (p.shot ≤ p.cut) = true)
    (h4 : okSecs p = true)
    (h5 : allB 0 5 [p.soak] = false) :
    Calls Tryz.prog 106 #[.agg (pcl p).toArray] w fun e w' => e = .returned (.bool false) ∧ Below w.heap.size w w' := by
  unfold pcl
  have H1 := Lib.hid h1
  have H2 := Lib.hid h2
  have H3 := Lib.hid h3
  have H4 := Lib.hid h4
  have H5 := Lib.hid h5
  clear h1 h2 h3 h4 h5
  go_enter Tryz.func106, Tryz.ntmps106
  go_wp2
  refine R6.wp_walk (C := BoxM w [(w.heap.size, .cells #[.int .i64 p.id, .int .i64 p.clone, .int .i64 p.cut, .int .i64 p.shot, .int .i64 p.g0, .int .i64 p.g1, .int .i64 p.g2, .int .i64 p.w0, .int .i64 p.w1, .int .i64 p.w2, .int .i64 p.soak, .int .i64 p.place] 56)] [(3, 6), (11, 14), (29, 32)] (grVPN p)) 42 (by kernel_rfl) (by kernel_rfl) rfl (BoxM.start (grow1 w _) ⟨alloc_at0 w _, trivial⟩ (fun _ => rfl)) ?_
  simp only []
  repeat (first
    | (refine' R6.WalkR.det (fun _ => rfl) (fun D ρ W hK hC => ?_) ?_
       rotate_left
       · have hcb := fun i => cell_of_row W w.heap.size i _ _ _ hC.box.1
         have hq3 := H3.out
         have HC := Lib.hid hC
         clear hC hK
         go_simp
         first
           | with_reducible exact ⟨rfl, HC.out.move (by decide)⟩
           | (go_at_call 94; refine (grUpTo_any _ W).mono ?_; rintro e W1 ⟨rfl, hB1⟩; exact ⟨_, rfl, rfl, (HC.out.next hB1).move (by decide)⟩)
           | (go_at_call 145; refine (grValidSections_any p W).mono ?_; rintro e W1 ⟨rfl, hB1⟩; rw [H4.out]; exact ⟨_, rfl, rfl, (HC.out.next hB1).move (by decide)⟩)
       simp only [Act.put, List.setIfInBounds_toArray, List.set_cons_succ, List.set_cons_zero]))
  refine' R6.WalkR.nd (fun _ => rfl) rfl (fun D ρ W hK hC => ?_) ?_
  · have hcb := fun i => cell_of_row W w.heap.size i _ _ _ hC.box.1
    have hq3 := H3.out
    have HC := Lib.hid hC
    clear hC hK
    go_simp
    exact HC.out.made (by decide) rfl rfl
  simp only [Act.put, List.setIfInBounds_toArray, List.set_cons_succ, List.set_cons_zero]
  refine' R6.WalkR.det (fun _ => rfl) (fun D ρ W hK hC => ?_) ?_
  rotate_left
  · obtain ⟨b, hv0, hm⟩ := hC.new (3, 6) (by decide) (hK.pre 3 (needs_edgeM (by decide +kernel)))
    have hv : _ = Value.slice (some ⟨b, 0, none⟩) 1 1 := hv0
    clear hv0
    have HC := Lib.hid hC
    have HM := Lib.hid hm
    clear hC hK hm
    go_simp
    go_at_call 93
    refine (grWithin_new 0 9999 (grVPN p 3) W b _ _ rfl HM.out (Nat.le_of_ble_eq_true rfl)).mono ?_
    rintro e W1 ⟨rfl, hB1⟩
    rw [show allB 0 9999 (grVPN p 3) = _ from H1.out]
    exact ⟨_, rfl, rfl, (HC.out.next hB1).move (by decide)⟩
  simp only [Act.put, List.setIfInBounds_toArray, List.set_cons_succ, List.set_cons_zero]
  repeat (first
    | (refine' R6.WalkR.det (fun _ => rfl) (fun D ρ W hK hC => ?_) ?_
       rotate_left
       · have hcb := fun i => cell_of_row W w.heap.size i _ _ _ hC.box.1
         have hq3 := H3.out
         have HC := Lib.hid hC
         clear hC hK
         go_simp
         first
           | with_reducible exact ⟨rfl, HC.out.move (by decide)⟩
           | (go_at_call 94; refine (grUpTo_any _ W).mono ?_; rintro e W1 ⟨rfl, hB1⟩; exact ⟨_, rfl, rfl, (HC.out.next hB1).move (by decide)⟩)
           | (go_at_call 145; refine (grValidSections_any p W).mono ?_; rintro e W1 ⟨rfl, hB1⟩; rw [H4.out]; exact ⟨_, rfl, rfl, (HC.out.next hB1).move (by decide)⟩)
       simp only [Act.put, List.setIfInBounds_toArray, List.set_cons_succ, List.set_cons_zero]))
  refine' R6.WalkR.nd (fun _ => rfl) rfl (fun D ρ W hK hC => ?_) ?_
  · have hcb := fun i => cell_of_row W w.heap.size i _ _ _ hC.box.1
    have hq3 := H3.out
    have HC := Lib.hid hC
    clear hC hK
    go_simp
    exact HC.out.made (by decide) rfl rfl
  simp only [Act.put, List.setIfInBounds_toArray, List.set_cons_succ, List.set_cons_zero]
  refine' R6.WalkR.det (fun _ => rfl) (fun D ρ W hK hC => ?_) ?_
  rotate_left
  · obtain ⟨b, hv0, hm⟩ := hC.new (11, 14) (by decide) (hK.pre 11 (needs_edgeM (by decide +kernel)))
    have hv : _ = Value.slice (some ⟨b, 0, none⟩) 2 2 := hv0
    clear hv0
    have HC := Lib.hid hC
    have HM := Lib.hid hm
    clear hC hK hm
    go_simp
    go_at_call 93
    refine (grWithin_new 0 3000 (grVPN p 11) W b _ _ rfl HM.out (Nat.le_of_ble_eq_true rfl)).mono ?_
    rintro e W1 ⟨rfl, hB1⟩
    rw [show allB 0 3000 (grVPN p 11) = _ from H2.out]
    exact ⟨_, rfl, rfl, (HC.out.next hB1).move (by decide)⟩
  simp only [Act.put, List.setIfInBounds_toArray, List.set_cons_succ, List.set_cons_zero]
  repeat (first
    | (refine' R6.WalkR.det (fun _ => rfl) (fun D ρ W hK hC => ?_) ?_
       rotate_left
       · have hcb := fun i => cell_of_row W w.heap.size i _ _ _ hC.box.1
         have hq3 := H3.out
         have HC := Lib.hid hC
         clear hC hK
         go_simp
         first
           | with_reducible exact ⟨rfl, HC.out.move (by decide)⟩
           | (go_at_call 94; refine (grUpTo_any _ W).mono ?_; rintro e W1 ⟨rfl, hB1⟩; exact ⟨_, rfl, rfl, (HC.out.next hB1).move (by decide)⟩)
           | (go_at_call 145; refine (grValidSections_any p W).mono ?_; rintro e W1 ⟨rfl, hB1⟩; rw [H4.out]; exact ⟨_, rfl, rfl, (HC.out.next hB1).move (by decide)⟩)
       simp only [Act.put, List.setIfInBounds_toArray, List.set_cons_succ, List.set_cons_zero]))
  refine' R6.WalkR.nd (fun _ => rfl) rfl (fun D ρ W hK hC => ?_) ?_
  · have hcb := fun i => cell_of_row W w.heap.size i _ _ _ hC.box.1
    have hq3 := H3.out
    have HC := Lib.hid hC
    clear hC hK
    go_simp
    exact HC.out.made (by decide) rfl rfl
  simp only [Act.put, List.setIfInBounds_toArray, List.set_cons_succ, List.set_cons_zero]
  refine' R6.WalkR.det (fun _ => rfl) (fun D ρ W hK hC => ?_) ?_
  rotate_left
  · obtain ⟨b, hv0, hm⟩ := hC.new (29, 32) (by decide) (hK.pre 29 (needs_edgeM (by decide +kernel)))
    have hv : _ = Value.slice (some ⟨b, 0, none⟩) 1 1 := hv0
    clear hv0
    have HC := Lib.hid hC
    have HM := Lib.hid hm
    clear hC hK hm
    go_simp
    go_at_call 93
    refine (grWithin_new 0 5 (grVPN p 29) W b _ _ rfl HM.out (Nat.le_of_ble_eq_true rfl)).mono ?_
    rintro e W1 ⟨rfl, hB1⟩
    rw [show allB 0 5 (grVPN p 29) = _ from H5.out]
    exact ⟨_, rfl, rfl, (HC.out.next hB1).move (by decide)⟩
  simp only [Act.put, List.setIfInBounds_toArray, List.set_cons_succ, List.set_cons_zero]
  repeat (first
    | (refine R6.WalkR.un (fun _ => rfl) (fun D ρ W hK hC => hC.move (by decide)) ?_
       simp only [Act.put, List.setIfInBounds_toArray, List.set_cons_succ, List.set_cons_zero])
    | (refine' R6.WalkR.det (fun _ => rfl) (fun D ρ W hK hC => ?_) ?_
       rotate_left
       · have hcb := fun i => cell_of_row W w.heap.size i _ _ _ hC.box.1
         have hq3 := H3.out
         have HC := Lib.hid hC
         clear hC hK
         go_simp
         first
           | with_reducible exact ⟨rfl, HC.out.move (by decide)⟩
           | (go_at_call 94; refine (grUpTo_any _ W).mono ?_; rintro e W1 ⟨rfl, hB1⟩; exact ⟨_, rfl, rfl, (HC.out.next hB1).move (by decide)⟩)
           | (go_at_call 145; refine (grValidSections_any p W).mono ?_; rintro e W1 ⟨rfl, hB1⟩; rw [H4.out]; exact ⟨_, rfl, rfl, (HC.out.next hB1).move (by decide)⟩)
       simp only [Act.put, List.setIfInBounds_toArray, List.set_cons_succ, List.set_cons_zero]))
  refine R6.WalkR.nil (fun D ρ W hD hC => ?_)
  have HB := Lib.hid hC.bel
  clear hC hD
  go_wp2
  go_ret
  exact ⟨rfl, HB.out⟩

set_option maxRecDepth 100000 in
set_option maxHeartbeats 4000000 in
theorem grVP_6 (p : Pol) (w : World) (v : Bool)
    (h1 : allB 0 9999 [p.clone] = true)
    (h2 : allB 0 3000 [p.shot, p.cut] = true)
    (h3 : decide (p.shot ≤ p.cut) = true)
    (h4 : okSecs p = true)
    (h5 : allB 0 5 [p.soak] = true)
    (h6 : allB 0 3 [p.place] = v) :
    Calls Tryz.prog 106 #[.agg (pcl p).toArray] w fun e w' => e = .returned (.bool v) ∧ Below w.heap.size w w' := by
  unfold pcl
  have H1 := Lib.hid h1
  have H2 := Lib.hid h2
  have H3 := Lib.hid h3
  have H4 := Lib.hid h4
  have H5 := Lib.hid h5
  have H6 := Lib.hid h6
  clear h1 h2 h3 h4 h5 h6
  go_enter Tryz.func106, Tryz.ntmps106
  go_wp2
  refine R6.wp_walk (C := BoxM w [(w.heap.size, .cells #[.int .i64 p.id, .int .i64 p.clone, .int .i64 p.cut, .int .i64 p.shot, .int .i64 p.g0, .int .i64 p.g1, .int .i64 p.g2, .int .i64 p.w0, .int .i64 p.w1, .int .i64 p.w2, .int .i64 p.soak, .int .i64 p.place] 56)] [(3, 6), (11, 14), (29, 32), (36, 39)] (grVPN p)) 42 (by kernel_rfl) (by kernel_rfl) rfl (BoxM.start (grow1 w _) ⟨alloc_at0 w _, trivial⟩ (fun _ => rfl)) ?_
  simp only []
  repeat (first
    | (refine' R6.WalkR.det (fun _ => rfl) (fun D ρ W hK hC => ?_) ?_
       rotate_left
       · have hcb := fun i => cell_of_row W w.heap.size i _ _ _ hC.box.1
         have hq3 := H3.out
         have HC := Lib.hid hC
         clear hC hK
         go_simp
         first
           | with_reducible exact ⟨rfl, HC.out.move (by decide)⟩
           | (go_at_call 94; refine (grUpTo_any _ W).mono ?_; rintro e W1 ⟨rfl, hB1⟩; exact ⟨_, rfl, rfl, (HC.out.next hB1).move (by decide)⟩)
           | (go_at_call 145; refine (grValidSections_any p W).mono ?_; rintro e W1 ⟨rfl, hB1⟩; rw [H4.out]; exact ⟨_, rfl, rfl, (HC.out.next hB1).move (by decide)⟩)
       simp only [Act.put, List.setIfInBounds_toArray, List.set_cons_succ, List.set_cons_zero]))
  refine' R6.WalkR.nd (fun _ => rfl) rfl (fun D ρ W hK hC => ?_) ?_
  · have hcb := fun i => cell_of_row W w.heap.size i _ _ _ hC.box.1
    have hq3 := H3.out
    have HC := Lib.hid hC
    clear hC hK
    go_simp
    exact HC.out.made (by decide) rfl rfl
  simp only [Act.put, List.setIfInBounds_toArray, List.set_cons_succ, List.set_cons_zero]
  refine' R6.WalkR.det (fun _ => rfl) (fun D ρ W hK hC => ?_) ?_
  rotate_left
  · obtain ⟨b, hv0, hm⟩ := hC.new (3, 6) (by decide) (hK.pre 3 (needs_edgeM (by decide +kernel)))
    have hv : _ = Value.slice (some ⟨b, 0, none⟩) 1 1 := hv0
    clear hv0
    have HC := Lib.hid hC
    have HM := Lib.hid hm
    clear hC hK hm
    go_simp
    go_at_call 93
    refine (grWithin_new 0 9999 (grVPN p 3) W b _ _ rfl HM.out (Nat.le_of_ble_eq_true rfl)).mono ?_
    rintro e W1 ⟨rfl, hB1⟩
    rw [show allB 0 9999 (grVPN p 3) = _ from H1.out]
    exact ⟨_, rfl, rfl, (HC.out.next hB1).move (by decide)⟩
  simp only [Act.put, List.setIfInBounds_toArray, List.set_cons_succ, List.set_cons_zero]
  repeat (first
    | (refine' R6.WalkR.det (fun _ => rfl) (fun D ρ W hK hC => ?_) ?_
       rotate_left
       · have hcb := fun i => cell_of_row W w.heap.size i _ _ _ hC.box.1
         have hq3 := H3.out
         have HC := Lib.hid hC
         clear hC hK
         go_simp
         first
           | with_reducible exact ⟨rfl, HC.out.move (by decide)⟩
           | (go_at_call 94; refine (grUpTo_any _ W).mono ?_; rintro e W1 ⟨rfl, hB1⟩; exact ⟨_, rfl, rfl, (HC.out.next hB1).move (by decide)⟩)
           | (go_at_call 145; refine (grValidSections_any p W).mono ?_; rintro e W1 ⟨rfl, hB1⟩; rw [H4.out]; exact ⟨_, rfl, rfl, (HC.out.next hB1).move (by decide)⟩)
       simp only [Act.put, List.setIfInBounds_toArray, List.set_cons_succ, List.set_cons_zero]))
  refine' R6.WalkR.nd (fun _ => rfl) rfl (fun D ρ W hK hC => ?_) ?_
  · have hcb := fun i => cell_of_row W w.heap.size i _ _ _ hC.box.1
    have hq3 := H3.out
    have HC := Lib.hid hC
    clear hC hK
    go_simp
    exact HC.out.made (by decide) rfl rfl
  simp only [Act.put, List.setIfInBounds_toArray, List.set_cons_succ, List.set_cons_zero]
  refine' R6.WalkR.det (fun _ => rfl) (fun D ρ W hK hC => ?_) ?_
  rotate_left
  · obtain ⟨b, hv0, hm⟩ := hC.new (11, 14) (by decide) (hK.pre 11 (needs_edgeM (by decide +kernel)))
    have hv : _ = Value.slice (some ⟨b, 0, none⟩) 2 2 := hv0
    clear hv0
    have HC := Lib.hid hC
    have HM := Lib.hid hm
    clear hC hK hm
    go_simp
    go_at_call 93
    refine (grWithin_new 0 3000 (grVPN p 11) W b _ _ rfl HM.out (Nat.le_of_ble_eq_true rfl)).mono ?_
    rintro e W1 ⟨rfl, hB1⟩
    rw [show allB 0 3000 (grVPN p 11) = _ from H2.out]
    exact ⟨_, rfl, rfl, (HC.out.next hB1).move (by decide)⟩
  simp only [Act.put, List.setIfInBounds_toArray, List.set_cons_succ, List.set_cons_zero]
  repeat (first
    | (refine' R6.WalkR.det (fun _ => rfl) (fun D ρ W hK hC => ?_) ?_
       rotate_left
       · have hcb := fun i => cell_of_row W w.heap.size i _ _ _ hC.box.1
         have hq3 := H3.out
         have HC := Lib.hid hC
         clear hC hK
         go_simp
         first
           | with_reducible exact ⟨rfl, HC.out.move (by decide)⟩
           | (go_at_call 94; refine (grUpTo_any _ W).mono ?_; rintro e W1 ⟨rfl, hB1⟩; exact ⟨_, rfl, rfl, (HC.out.next hB1).move (by decide)⟩)
           | (go_at_call 145; refine (grValidSections_any p W).mono ?_; rintro e W1 ⟨rfl, hB1⟩; rw [H4.out]; exact ⟨_, rfl, rfl, (HC.out.next hB1).move (by decide)⟩)
       simp only [Act.put, List.setIfInBounds_toArray, List.set_cons_succ, List.set_cons_zero]))
  refine' R6.WalkR.nd (fun _ => rfl) rfl (fun D ρ W hK hC => ?_) ?_
  · have hcb := fun i => cell_of_row W w.heap.size i _ _ _ hC.box.1
    have hq3 := H3.out
    have HC := Lib.hid hC
    clear hC hK
    go_simp
    exact HC.out.made (by decide) rfl rfl
  simp only [Act.put, List.setIfInBounds_toArray, List.set_cons_succ, List.set_cons_zero]
  refine' R6.WalkR.det (fun _ => rfl) (fun D ρ W hK hC => ?_) ?_
  rotate_left
  · obtain ⟨b, hv0, hm⟩ := hC.new (29, 32) (by decide) (hK.pre 29 (needs_edgeM (by decide +kernel)))
    have hv : _ = Value.slice (some ⟨b, 0, none⟩) 1 1 := hv0
    clear hv0
    have HC := Lib.hid hC
    have HM := Lib.hid hm
    clear hC hK hm
    go_simp
    go_at_call 93
    refine (grWithin_new 0 5 (grVPN p 29) W b _ _ rfl HM.out (Nat.le_of_ble_eq_true rfl)).mono ?_
    rintro e W1 ⟨rfl, hB1⟩
    rw [show allB 0 5 (grVPN p 29) = _ from H5.out]
    exact ⟨_, rfl, rfl, (HC.out.next hB1).move (by decide)⟩
  simp only [Act.put, List.setIfInBounds_toArray, List.set_cons_succ, List.set_cons_zero]
  repeat (first
    | (refine' R6.WalkR.det (fun _ => rfl) (fun D ρ W hK hC => ?_) ?_
       rotate_left
       · have hcb := fun i => cell_of_row W w.heap.size i _ _ _ hC.box.1
         have hq3 := H3.out
         have HC := Lib.hid hC
         clear hC hK
         go_simp
         first
           | with_reducible exact ⟨rfl, HC.out.move (by decide)⟩
           | (go_at_call 94; refine (grUpTo_any _ W).mono ?_; rintro e W1 ⟨rfl, hB1⟩; exact ⟨_, rfl, rfl, (HC.out.next hB1).move (by decide)⟩)
           | (go_at_call 145; refine (grValidSections_any p W).mono ?_; rintro e W1 ⟨rfl, hB1⟩; rw [H4.out]; exact ⟨_, rfl, rfl, (HC.out.next hB1).move (by decide)⟩)
       simp only [Act.put, List.setIfInBounds_toArray, List.set_cons_succ, List.set_cons_zero]))
  refine' R6.WalkR.nd (fun _ => rfl) rfl (fun D ρ W hK hC => ?_) ?_
  · have hcb := fun i => cell_of_row W w.heap.size i _ _ _ hC.box.1
    have hq3 := H3.out
    have HC := Lib.hid hC
    clear hC hK
    go_simp
    exact HC.out.made (by decide) rfl rfl
  simp only [Act.put, List.setIfInBounds_toArray, List.set_cons_succ, List.set_cons_zero]
  refine' R6.WalkR.det (fun _ => rfl) (fun D ρ W hK hC => ?_) ?_
  rotate_left
  · obtain ⟨b, hv0, hm⟩ := hC.new (36, 39) (by decide) (hK.pre 36 (needs_edgeM (by decide +kernel)))
    have hv : _ = Value.slice (some ⟨b, 0, none⟩) 1 1 := hv0
    clear hv0
    have HC := Lib.hid hC
    have HM := Lib.hid hm
    clear hC hK hm
    go_simp
    go_at_call 93
    refine (grWithin_new 0 3 (grVPN p 36) W b _ _ rfl HM.out (Nat.le_of_ble_eq_true rfl)).mono ?_
    rintro e W1 ⟨rfl, hB1⟩
    rw [show allB 0 3 (grVPN p 36) = _ from H6.out]
    exact ⟨_, rfl, rfl, (HC.out.next hB1).move (by decide)⟩
  simp only [Act.put, List.setIfInBounds_toArray, List.set_cons_succ, List.set_cons_zero]
  repeat (first
    | (refine' R6.WalkR.det (fun _ => rfl) (fun D ρ W hK hC => ?_) ?_
       rotate_left
       · have hcb := fun i => cell_of_row W w.heap.size i _ _ _ hC.box.1
         have hq3 := H3.out
         have HC := Lib.hid hC
         clear hC hK
         go_simp
         first
           | with_reducible exact ⟨rfl, HC.out.move (by decide)⟩
           | (go_at_call 94; refine (grUpTo_any _ W).mono ?_; rintro e W1 ⟨rfl, hB1⟩; exact ⟨_, rfl, rfl, (HC.out.next hB1).move (by decide)⟩)
           | (go_at_call 145; refine (grValidSections_any p W).mono ?_; rintro e W1 ⟨rfl, hB1⟩; rw [H4.out]; exact ⟨_, rfl, rfl, (HC.out.next hB1).move (by decide)⟩)
       simp only [Act.put, List.setIfInBounds_toArray, List.set_cons_succ, List.set_cons_zero]))
  refine R6.WalkR.nil (fun D ρ W hD hC => ?_)
  have HB := Lib.hid hC.bel
  clear hC hD
  go_wp2
  go_ret
  exact ⟨rfl, HB.out⟩

theorem okPol_allB (p : Pol) : okPol p = (allB 0 9999 [p.clone] && (allB 0 3000 [p.shot, p.cut] && (decide (p.shot ≤ p.cut) && (okSecs p && (allB 0 5 [p.soak] && (allB 0 3 [p.place])))))) := by simp [okPol, allB]

theorem grValidPole_any (p : Pol) (w : World) :
    Calls Tryz.prog 106 #[.agg (pcl p).toArray] w fun e w' => e = .returned (.bool (okPol p)) ∧ Below w.heap.size w w' := by
  rw [okPol_allB]
  cases h1 : allB 0 9999 [p.clone] with
  | false => simp only [Bool.false_and]; exact grVP_1 p w  h1
  | true =>
  simp only [Bool.true_and]
  cases h2 : allB 0 3000 [p.shot, p.cut] with
  | false => simp only [Bool.false_and]; exact grVP_2 p w  h1 h2
  | true =>
  simp only [Bool.true_and]
  cases h3 : decide (p.shot ≤ p.cut) with
  | false => simp only [Bool.false_and]; exact grVP_3 p w  h1 h2 h3
  | true =>
  simp only [Bool.true_and]
  cases h4 : okSecs p with
  | false => simp only [Bool.false_and]; exact grVP_4 p w  h1 h2 h3 h4
  | true =>
  simp only [Bool.true_and]
  cases h5 : allB 0 5 [p.soak] with
  | false => simp only [Bool.false_and]; exact grVP_5 p w  h1 h2 h3 h4 h5
  | true =>
  simp only [Bool.true_and]
  exact grVP_6 p w _  h1 h2 h3 h4 h5 rfl

end Go.Proofs.YtpnnlmaipcjkmaaGreat
