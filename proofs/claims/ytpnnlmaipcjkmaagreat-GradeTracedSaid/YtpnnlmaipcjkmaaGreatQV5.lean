/-
  A pole by its Id; results of several values, some of them out of blocks.
-/
import Derived.Test.YtpnnlmaipcjkmaaGreatQV4
set_option linter.all false
namespace Go.Proofs.YtpnnlmaipcjkmaaGreat
open Go.RowKit
open R6 (done done_ne done_me upd_ne upd_me)

attribute [local go_sem] gives

def grVRN (n : Nat) (vary : Int) : Nat → List Int := fun k => if k = 4 then [(n : Int)] else if k = 11 then [vary] else []
theorem okGrading_allB (gs : List Gd) (vary : Int) : okGrading gs vary = (allB 1 3 [(gs.length : Int)] && (allB 0 200000 [vary] && okGds gs 0 1)) := by simp [okGrading, allB]

set_option maxRecDepth 100000 in
set_option maxHeartbeats 4000000 in
theorem grVR_1 (vary : Int) (A : Option Addr) (cap n : Nat) (w : World) (hn : n ≤ 1000000) (h1 : allB 1 3 [(n : Int)] = false) :
    Calls Tryz.prog 60 #[.agg #[.slice A n cap, .int .i64 vary]] w fun e w' => e = .returned (.bool false) ∧ Below w.heap.size w w' := by
  have H1 := Lib.hid h1
  clear h1
  go_enter Tryz.func60, Tryz.ntmps60
  go_wp2
  refine R6.wp_walk (C := BoxM w [(w.heap.size, .cells #[.slice A n cap, .int .i64 vary] 28)] [(4, 10)] (grVRN n vary)) 35 (by kernel_rfl) (by kernel_rfl) rfl (BoxM.start (grow1 w _) ⟨alloc_at0 w _, trivial⟩ (fun _ => rfl)) ?_
  simp only []
  repeat (first
    | (refine' R6.WalkR.det (fun _ => rfl) (fun D ρ W hK hC => ?_) ?_
       rotate_left
       · have hcb := fun i => cell_of_row W w.heap.size i _ _ _ hC.box.1
         have HC := Lib.hid hC
         clear hC hK
         go_simp
         first
           | with_reducible exact ⟨rfl, HC.out.move (by decide)⟩
           | (go_at_call 94; refine (grUpTo_any _ W).mono ?_; rintro e W1 ⟨rfl, hB1⟩; exact ⟨_, rfl, rfl, (HC.out.next hB1).move (by decide)⟩)
           | (go_at_call 101; refine (grFromOne_any _ W).mono ?_; rintro e W1 ⟨rfl, hB1⟩; exact ⟨_, rfl, rfl, (HC.out.next hB1).move (by decide)⟩)
       simp only [Act.put, List.setIfInBounds_toArray, List.set_cons_succ, List.set_cons_zero]))
  refine' R6.WalkR.nd (fun _ => rfl) rfl (fun D ρ W hK hC => ?_) ?_
  · have hcb := fun i => cell_of_row W w.heap.size i _ _ _ hC.box.1
    have HC := Lib.hid hC
    clear hC hK
    go_simp
    exact HC.out.made (by decide) rfl rfl
  simp only [Act.put, List.setIfInBounds_toArray, List.set_cons_succ, List.set_cons_zero]
  refine' R6.WalkR.det (fun _ => rfl) (fun D ρ W hK hC => ?_) ?_
  rotate_left
  · obtain ⟨b, hv0, hm⟩ := hC.new (4, 10) (by decide) (hK.pre 4 (needs_edgeM (by decide +kernel)))
    have hv : _ = Value.slice (some ⟨b, 0, none⟩) 1 1 := hv0
    clear hv0
    have HC := Lib.hid hC
    have HM := Lib.hid hm
    clear hC hK hm
    go_simp
    go_at_call 93
    refine (grWithin_new 1 3 (grVRN n vary 4) W b _ _ rfl HM.out (Nat.le_of_ble_eq_true rfl)).mono ?_
    rintro e W1 ⟨rfl, hB1⟩
    rw [show allB 1 3 (grVRN n vary 4) = _ from H1.out]
    exact ⟨_, rfl, rfl, (HC.out.next hB1).move (by decide)⟩
  simp only [Act.put, List.setIfInBounds_toArray, List.set_cons_succ, List.set_cons_zero]
  repeat (first
    | (refine R6.WalkR.un (fun _ => rfl) (fun D ρ W hK hC => hC.move (by decide)) ?_
       simp only [Act.put, List.setIfInBounds_toArray, List.set_cons_succ, List.set_cons_zero])
    | (refine' R6.WalkR.det (fun _ => rfl) (fun D ρ W hK hC => ?_) ?_
       rotate_left
       · have hcb := fun i => cell_of_row W w.heap.size i _ _ _ hC.box.1
         have HC := Lib.hid hC
         clear hC hK
         go_simp
         first
           | with_reducible exact ⟨rfl, HC.out.move (by decide)⟩
           | (go_at_call 94; refine (grUpTo_any _ W).mono ?_; rintro e W1 ⟨rfl, hB1⟩; exact ⟨_, rfl, rfl, (HC.out.next hB1).move (by decide)⟩)
           | (go_at_call 101; refine (grFromOne_any _ W).mono ?_; rintro e W1 ⟨rfl, hB1⟩; exact ⟨_, rfl, rfl, (HC.out.next hB1).move (by decide)⟩)
       simp only [Act.put, List.setIfInBounds_toArray, List.set_cons_succ, List.set_cons_zero]))
  refine R6.WalkR.nil (fun D ρ W hD hC => ?_)
  have HB := Lib.hid hC.bel
  clear hC hD
  go_wp2
  go_ret
  exact ⟨rfl, HB.out⟩

set_option maxRecDepth 100000 in
set_option maxHeartbeats 4000000 in
theorem grVR_2 (vary : Int) (A : Option Addr) (cap n : Nat) (w : World) (hn : n ≤ 1000000) (h1 : allB 1 3 [(n : Int)] = true) (h2 : allB 0 200000 [vary] = false) :
    Calls Tryz.prog 60 #[.agg #[.slice A n cap, .int .i64 vary]] w fun e w' => e = .returned (.bool false) ∧ Below w.heap.size w w' := by
  have H1 := Lib.hid h1
  have H2 := Lib.hid h2
  clear h1 h2
  go_enter Tryz.func60, Tryz.ntmps60
  go_wp2
  refine R6.wp_walk (C := BoxM w [(w.heap.size, .cells #[.slice A n cap, .int .i64 vary] 28)] [(4, 10), (11, 17)] (grVRN n vary)) 35 (by kernel_rfl) (by kernel_rfl) rfl (BoxM.start (grow1 w _) ⟨alloc_at0 w _, trivial⟩ (fun _ => rfl)) ?_
  simp only []
  repeat (first
    | (refine' R6.WalkR.det (fun _ => rfl) (fun D ρ W hK hC => ?_) ?_
       rotate_left
       · have hcb := fun i => cell_of_row W w.heap.size i _ _ _ hC.box.1
         have HC := Lib.hid hC
         clear hC hK
         go_simp
         first
           | with_reducible exact ⟨rfl, HC.out.move (by decide)⟩
           | (go_at_call 94; refine (grUpTo_any _ W).mono ?_; rintro e W1 ⟨rfl, hB1⟩; exact ⟨_, rfl, rfl, (HC.out.next hB1).move (by decide)⟩)
           | (go_at_call 101; refine (grFromOne_any _ W).mono ?_; rintro e W1 ⟨rfl, hB1⟩; exact ⟨_, rfl, rfl, (HC.out.next hB1).move (by decide)⟩)
       simp only [Act.put, List.setIfInBounds_toArray, List.set_cons_succ, List.set_cons_zero]))
  refine' R6.WalkR.nd (fun _ => rfl) rfl (fun D ρ W hK hC => ?_) ?_
  · have hcb := fun i => cell_of_row W w.heap.size i _ _ _ hC.box.1
    have HC := Lib.hid hC
    clear hC hK
    go_simp
    exact HC.out.made (by decide) rfl rfl
  simp only [Act.put, List.setIfInBounds_toArray, List.set_cons_succ, List.set_cons_zero]
  refine' R6.WalkR.det (fun _ => rfl) (fun D ρ W hK hC => ?_) ?_
  rotate_left
  · obtain ⟨b, hv0, hm⟩ := hC.new (4, 10) (by decide) (hK.pre 4 (needs_edgeM (by decide +kernel)))
    have hv : _ = Value.slice (some ⟨b, 0, none⟩) 1 1 := hv0
    clear hv0
    have HC := Lib.hid hC
    have HM := Lib.hid hm
    clear hC hK hm
    go_simp
    go_at_call 93
    refine (grWithin_new 1 3 (grVRN n vary 4) W b _ _ rfl HM.out (Nat.le_of_ble_eq_true rfl)).mono ?_
    rintro e W1 ⟨rfl, hB1⟩
    rw [show allB 1 3 (grVRN n vary 4) = _ from H1.out]
    exact ⟨_, rfl, rfl, (HC.out.next hB1).move (by decide)⟩
  simp only [Act.put, List.setIfInBounds_toArray, List.set_cons_succ, List.set_cons_zero]
  repeat (first
    | (refine' R6.WalkR.det (fun _ => rfl) (fun D ρ W hK hC => ?_) ?_
       rotate_left
       · have hcb := fun i => cell_of_row W w.heap.size i _ _ _ hC.box.1
         have HC := Lib.hid hC
         clear hC hK
         go_simp
         first
           | with_reducible exact ⟨rfl, HC.out.move (by decide)⟩
           | (go_at_call 94; refine (grUpTo_any _ W).mono ?_; rintro e W1 ⟨rfl, hB1⟩; exact ⟨_, rfl, rfl, (HC.out.next hB1).move (by decide)⟩)
           | (go_at_call 101; refine (grFromOne_any _ W).mono ?_; rintro e W1 ⟨rfl, hB1⟩; exact ⟨_, rfl, rfl, (HC.out.next hB1).move (by decide)⟩)
       simp only [Act.put, List.setIfInBounds_toArray, List.set_cons_succ, List.set_cons_zero]))
  refine' R6.WalkR.nd (fun _ => rfl) rfl (fun D ρ W hK hC => ?_) ?_
  · have hcb := fun i => cell_of_row W w.heap.size i _ _ _ hC.box.1
    have HC := Lib.hid hC
    clear hC hK
    go_simp
    exact HC.out.made (by decide) rfl rfl
  simp only [Act.put, List.setIfInBounds_toArray, List.set_cons_succ, List.set_cons_zero]
  refine' R6.WalkR.det (fun _ => rfl) (fun D ρ W hK hC => ?_) ?_
  rotate_left
  · obtain ⟨b, hv0, hm⟩ := hC.new (11, 17) (by decide) (hK.pre 11 (needs_edgeM (by decide +kernel)))
    have hv : _ = Value.slice (some ⟨b, 0, none⟩) 1 1 := hv0
    clear hv0
    have HC := Lib.hid hC
    have HM := Lib.hid hm
    clear hC hK hm
    go_simp
    go_at_call 93
    refine (grWithin_new 0 200000 (grVRN n vary 11) W b _ _ rfl HM.out (Nat.le_of_ble_eq_true rfl)).mono ?_
    rintro e W1 ⟨rfl, hB1⟩
    rw [show allB 0 200000 (grVRN n vary 11) = _ from H2.out]
    exact ⟨_, rfl, rfl, (HC.out.next hB1).move (by decide)⟩
  simp only [Act.put, List.setIfInBounds_toArray, List.set_cons_succ, List.set_cons_zero]
  repeat (first
    | (refine' R6.WalkR.det (fun _ => rfl) (fun D ρ W hK hC => ?_) ?_
       rotate_left
       · have hcb := fun i => cell_of_row W w.heap.size i _ _ _ hC.box.1
         have HC := Lib.hid hC
         clear hC hK
         go_simp
         first
           | with_reducible exact ⟨rfl, HC.out.move (by decide)⟩
           | (go_at_call 94; refine (grUpTo_any _ W).mono ?_; rintro e W1 ⟨rfl, hB1⟩; exact ⟨_, rfl, rfl, (HC.out.next hB1).move (by decide)⟩)
           | (go_at_call 101; refine (grFromOne_any _ W).mono ?_; rintro e W1 ⟨rfl, hB1⟩; exact ⟨_, rfl, rfl, (HC.out.next hB1).move (by decide)⟩)
       simp only [Act.put, List.setIfInBounds_toArray, List.set_cons_succ, List.set_cons_zero]))
  refine R6.WalkR.nil (fun D ρ W hD hC => ?_)
  have HB := Lib.hid hC.bel
  clear hC hD
  go_wp2
  go_ret
  exact ⟨rfl, HB.out⟩

def gd00 : Gd := ⟨0, 1, 0, 0, 0, 0, 0, 0⟩

set_option maxRecDepth 100000 in
set_option maxHeartbeats 4000000 in
theorem grVR_3 (gs : List Gd) (vary : Int) (A : Option Addr) (cap n : Nat) (B : Nat) (w : World) (hB : B ≤ w.heap.size) (hz : Vals w B A (gs.flatMap gcl)) (hn : n = gs.length)
    (h1 : allB 1 3 [(n : Int)] = true) (h2 : allB 0 200000 [vary] = true) :
    Calls Tryz.prog 60 #[.agg #[.slice A n cap, .int .i64 vary]] w fun e w' => e = .returned (.bool (okGds gs 0 1)) ∧ Below w.heap.size w w' := by
  have hn3 : n ≤ 3 := by have := h1; simp [allB, inR_iff] at this; omega
  have HN := Lib.hid hn
  have HZ := Lib.hid hz
  have H1 := Lib.hid h1
  have H2 := Lib.hid h2
  clear h1 h2 hz hn
  go_enter Tryz.func60, Tryz.ntmps60
  go_wp2
  refine R6.wp_walk (C := BoxM w [(w.heap.size, .cells #[.slice A n cap, .int .i64 vary] 28)] [(4, 10), (11, 17)] (grVRN n vary)) 35 (by kernel_rfl) (by kernel_rfl) rfl (BoxM.start (grow1 w _) ⟨alloc_at0 w _, trivial⟩ (fun _ => rfl)) ?_
  simp only []
  repeat (first
    | (refine' R6.WalkR.det (fun _ => rfl) (fun D ρ W hK hC => ?_) ?_
       rotate_left
       · have hcb := fun i => cell_of_row W w.heap.size i _ _ _ hC.box.1
         have HC := Lib.hid hC
         clear hC hK
         go_simp
         first
           | with_reducible exact ⟨rfl, HC.out.move (by decide)⟩
           | (go_at_call 94; refine (grUpTo_any _ W).mono ?_; rintro e W1 ⟨rfl, hB1⟩; exact ⟨_, rfl, rfl, (HC.out.next hB1).move (by decide)⟩)
           | (go_at_call 101; refine (grFromOne_any _ W).mono ?_; rintro e W1 ⟨rfl, hB1⟩; exact ⟨_, rfl, rfl, (HC.out.next hB1).move (by decide)⟩)
       simp only [Act.put, List.setIfInBounds_toArray, List.set_cons_succ, List.set_cons_zero]))
  refine' R6.WalkR.nd (fun _ => rfl) rfl (fun D ρ W hK hC => ?_) ?_
  · have hcb := fun i => cell_of_row W w.heap.size i _ _ _ hC.box.1
    have HC := Lib.hid hC
    clear hC hK
    go_simp
    exact HC.out.made (by decide) rfl rfl
  simp only [Act.put, List.setIfInBounds_toArray, List.set_cons_succ, List.set_cons_zero]
  refine' R6.WalkR.det (fun _ => rfl) (fun D ρ W hK hC => ?_) ?_
  rotate_left
  · obtain ⟨b, hv0, hm⟩ := hC.new (4, 10) (by decide) (hK.pre 4 (needs_edgeM (by decide +kernel)))
    have hv : _ = Value.slice (some ⟨b, 0, none⟩) 1 1 := hv0
    clear hv0
    have HC := Lib.hid hC
    have HM := Lib.hid hm
    clear hC hK hm
    go_simp
    go_at_call 93
    refine (grWithin_new 1 3 (grVRN n vary 4) W b _ _ rfl HM.out (Nat.le_of_ble_eq_true rfl)).mono ?_
    rintro e W1 ⟨rfl, hB1⟩
    rw [show allB 1 3 (grVRN n vary 4) = _ from H1.out]
    exact ⟨_, rfl, rfl, (HC.out.next hB1).move (by decide)⟩
  simp only [Act.put, List.setIfInBounds_toArray, List.set_cons_succ, List.set_cons_zero]
  repeat (first
    | (refine' R6.WalkR.det (fun _ => rfl) (fun D ρ W hK hC => ?_) ?_
       rotate_left
       · have hcb := fun i => cell_of_row W w.heap.size i _ _ _ hC.box.1
         have HC := Lib.hid hC
         clear hC hK
         go_simp
         first
           | with_reducible exact ⟨rfl, HC.out.move (by decide)⟩
           | (go_at_call 94; refine (grUpTo_any _ W).mono ?_; rintro e W1 ⟨rfl, hB1⟩; exact ⟨_, rfl, rfl, (HC.out.next hB1).move (by decide)⟩)
           | (go_at_call 101; refine (grFromOne_any _ W).mono ?_; rintro e W1 ⟨rfl, hB1⟩; exact ⟨_, rfl, rfl, (HC.out.next hB1).move (by decide)⟩)
       simp only [Act.put, List.setIfInBounds_toArray, List.set_cons_succ, List.set_cons_zero]))
  refine' R6.WalkR.nd (fun _ => rfl) rfl (fun D ρ W hK hC => ?_) ?_
  · have hcb := fun i => cell_of_row W w.heap.size i _ _ _ hC.box.1
    have HC := Lib.hid hC
    clear hC hK
    go_simp
    exact HC.out.made (by decide) rfl rfl
  simp only [Act.put, List.setIfInBounds_toArray, List.set_cons_succ, List.set_cons_zero]
  refine' R6.WalkR.det (fun _ => rfl) (fun D ρ W hK hC => ?_) ?_
  rotate_left
  · obtain ⟨b, hv0, hm⟩ := hC.new (11, 17) (by decide) (hK.pre 11 (needs_edgeM (by decide +kernel)))
    have hv : _ = Value.slice (some ⟨b, 0, none⟩) 1 1 := hv0
    clear hv0
    have HC := Lib.hid hC
    have HM := Lib.hid hm
    clear hC hK hm
    go_simp
    go_at_call 93
    refine (grWithin_new 0 200000 (grVRN n vary 11) W b _ _ rfl HM.out (Nat.le_of_ble_eq_true rfl)).mono ?_
    rintro e W1 ⟨rfl, hB1⟩
    rw [show allB 0 200000 (grVRN n vary 11) = _ from H2.out]
    exact ⟨_, rfl, rfl, (HC.out.next hB1).move (by decide)⟩
  simp only [Act.put, List.setIfInBounds_toArray, List.set_cons_succ, List.set_cons_zero]
  repeat (first
    | (refine' R6.WalkR.det (fun _ => rfl) (fun D ρ W hK hC => ?_) ?_
       rotate_left
       · have hcb := fun i => cell_of_row W w.heap.size i _ _ _ hC.box.1
         have HC := Lib.hid hC
         clear hC hK
         go_simp
         first
           | with_reducible exact ⟨rfl, HC.out.move (by decide)⟩
           | (go_at_call 94; refine (grUpTo_any _ W).mono ?_; rintro e W1 ⟨rfl, hB1⟩; exact ⟨_, rfl, rfl, (HC.out.next hB1).move (by decide)⟩)
           | (go_at_call 101; refine (grFromOne_any _ W).mono ?_; rintro e W1 ⟨rfl, hB1⟩; exact ⟨_, rfl, rfl, (HC.out.next hB1).move (by decide)⟩)
       simp only [Act.put, List.setIfInBounds_toArray, List.set_cons_succ, List.set_cons_zero]))
  refine R6.WalkR.nil (fun D ρ W hD hC => ?_)
  have hcb := fun i => cell_of_row W w.heap.size i _ _ _ hC.box.1
  have HC := Lib.hid (And.intro hC.bel hC.box.1)
  clear hC hD
  go_wp2_with
    (show wpList _ _ _ (Oper.mk none (Op.store _ (Operand.tmp 3) (Operand.tmp 21)) _ _ _ _ :: _) _ _
     refine wpList_store_blk 53 (.tmp 3) (.tmp 21) rfl rfl rfl rfl (cs := gcl gd00) rfl (alloc_at0 W _) (by decide) (fun v hv => gcl_one [gd00] v (by simpa using hv)) rowGrade ?_
     intro w3 hP3 hM3
     rw [splice_whole (by rfl)] at hM3
     have hb3 : Below W.heap.size W w3 := (grow1 W _).trans (hP3.below (Nat.le_refl _))
     have hx3 := (hb3.block _ (lt_of_heap HC.out.2)).trans HC.out.2
     have hcb3 := fun i => cell_of_row w3 w.heap.size i _ _ _ hx3
     have H3 := Lib.hid (And.intro hb3 (And.intro hM3 hx3))
     clear hP3 hM3 hb3 hx3 hcb)
  go_loopg [25] n (fun gg s25 wx => ∃ (k : Nat) (q : Gd), k + gg = n ∧ s25 = .int .i64 k ∧ Hid (okGds (gs.drop k) q.age q.wall = okGds gs 0 1) ∧ Hid (wx.heap[W.heap.size]? = some (.cells (gcl q).toArray 53 (0, 0)) ∧ Below w.heap.size w wx))
  case atStart => exact ⟨0, gd00, by omega, rfl, rfl, H3.out.2.1, HC.out.1.trans (H3.out.1.mono HC.out.1.size)⟩
  case round =>
    obtain ⟨k, q, hkg, rfl, hI, hM⟩ := hrel
    clear hcb3
    have hNW : w.heap.size ≤ W.heap.size := HC.out.1.size
    cases gk with
    | zero =>
      have hI' := hI.out
      rw [List.drop_of_length_le (by have := HN.out; omega)] at hI'
      have HI := Lib.hid hI'
      clear hI'
      have hkn : k = n := by omega
      subst hkn
      go_wp2
      go_ret
      exact ⟨by rw [← HI.out]; rfl, hM.out.2⟩
    | succ gg =>
      have hk : k < gs.length := by have := HN.out; omega
      have hkz : (k : Int) < n := by omega
      obtain ⟨c, off, hA, hcB, hc⟩ := vals_elem gcl_len HZ.out (by decide) hk
      subst hA
      have hc' : ∀ j v, (gcl gs[k])[j]? = some v → wr.cell? ⟨c, off + k * 8 + j, none⟩ = some v := fun j v hv => (hM.out.2.cell (p := ⟨c, off + k * 8 + j, none⟩) (by simp; omega)).trans (hc j v hv)
      have hst : okGds (gs.drop k) q.age q.wall = (okGd gs[k] q.age q.wall && okGds (gs.drop (k + 1)) gs[k].age gs[k].wall) := by rw [List.drop_eq_getElem_cons hk]; rfl
      rw [hI.out] at hst
      generalize gs[k] = y at hc' hst
      have hy := fun W' => grValidGrade_any y q W'
      have HY := Lib.hid hy
      have HST := Lib.hid hst
      have HCC := Lib.hid hc'
      clear hc hc' hst hy
      have hyl : (gcl y).length = 8 := rfl
      have HYL := Lib.hid hyl
      clear hyl
      cases hp : okGd y q.age q.wall
      all_goals
        rw [hp] at HY HST
        clear hp
        go_wp2_with (first
          | (show wpList _ _ _ (Oper.mk (some 28) _ _ _ _ _ :: _) _ _
             refine wpList_load_at 53 (.tmp 27) rfl rfl rfl (gcl y) HCC.out rowGrade ?_)
          | (show wpList _ _ _ (Oper.mk none (Op.store _ (Operand.tmp 5) (Operand.tmp 28)) _ _ _ _ :: _) _ _
             refine wpList_store_blk 53 (.tmp 5) (.tmp 28) rfl rfl rfl rfl rfl (alloc_at0 wr _) (Nat.le_of_ble_eq_true rfl) (fun v hv => gcl_one [y] v (by simpa using hv)) rowGrade ?_
             intro w5 hP5 hM5
             rw [splice_whole (by rfl)] at hM5
             have hb5 : Below wr.heap.size wr w5 := (grow1 wr _).trans (hP5.below (Nat.le_refl _))
             have H5 := Lib.hid (And.intro hb5 (And.intro hM5 ((hb5.block _ (lt_of_heap hM.out.1)).trans hM.out.1)))
             clear hP5 hM5 hb5)
          | (show wpList _ _ _ (Oper.mk (some 29) _ _ _ _ _ :: _) _ _
             refine wpList_load_blk 53 (.tmp 5) rfl rfl rfl H5.out.2.1 (gcl y) at0 rowGrade ?_)
          | (show wpList _ _ _ (Oper.mk (some 30) _ _ _ _ _ :: _) _ _
             refine wpList_load_blk 53 (.tmp 3) rfl rfl rfl H5.out.2.2 (gcl q) at0 rowGrade ?_)
          | (go_at_call 102
             refine (HY.out w5).mono ?_
             rintro e w6 ⟨rfl, hB6⟩
             have H6 := Lib.hid (And.intro hB6 (And.intro ((hB6.block _ (lt_of_heap H5.out.2.1)).trans H5.out.2.1) ((hB6.block _ (lt_of_heap H5.out.2.2)).trans H5.out.2.2)))
             clear hB6)
          | (show wpList _ _ _ (Oper.mk (some 33) _ _ _ _ _ :: _) _ _
             refine wpList_load_blk 53 (.tmp 5) rfl rfl rfl H6.out.2.1 (gcl y) at0 rowGrade ?_)
          | (show wpList _ _ _ (Oper.mk none (Op.store _ (Operand.tmp 3) (Operand.tmp 33)) _ _ _ _ :: _) _ _
             refine wpList_store_blk 53 (.tmp 3) (.tmp 33) rfl rfl rfl rfl rfl H6.out.2.2 (Nat.le_of_ble_eq_true rfl) (fun v hv => gcl_one [y] v (by simpa using hv)) rowGrade ?_
             intro w7 hP7 hM7
             rw [splice_whole (by rfl)] at hM7
             have H7 := Lib.hid (And.intro hP7 hM7)
             clear hP7 hM7))
      rotate_left
      · go_roundg gg
        case measure => omega
        case rel => exact ⟨k + 1, y, by omega, by go_num, by rw [HST.out]; rfl, H7.out.2, ((hM.out.2.trans (H5.out.1.mono hM.out.2.size)).trans (H6.out.1.mono (by have := hM.out.2.size; have := H5.out.1.size; omega))).trans (H7.out.1.below hNW)⟩
      · go_ret
        exact ⟨by rw [HST.out]; rfl, (hM.out.2.trans (H5.out.1.mono hM.out.2.size)).trans (H6.out.1.mono (by have := hM.out.2.size; have := H5.out.1.size; omega))⟩

theorem grValidGrading_any (gs : List Gd) (vary : Int) (A : Option Addr) (cap : Nat) (B : Nat) (w : World) (hB : B ≤ w.heap.size) (hz : Vals w B A (gs.flatMap gcl)) (hl : gs.length ≤ 1000000) :
    Calls Tryz.prog 60 #[.agg #[.slice A gs.length cap, .int .i64 vary]] w fun e w' => e = .returned (.bool (okGrading gs vary)) ∧ Below w.heap.size w w' := by
  rw [okGrading_allB]
  cases h1 : allB 1 3 [(gs.length : Int)] with
  | false => rw [Bool.false_and]; exact grVR_1 vary A cap gs.length w hl h1
  | true =>
  rw [Bool.true_and]
  cases h2 : allB 0 200000 [vary] with
  | false => rw [Bool.false_and]; exact grVR_2 vary A cap gs.length w hl h1 h2
  | true =>
  rw [Bool.true_and]
  exact grVR_3 gs vary A cap gs.length B w hB hz rfl h1 h2

end Go.Proofs.YtpnnlmaipcjkmaaGreat

namespace Go.Proofs.YtpnnlmaipcjkmaaGreat
open Go.RowKit
open R6 (done done_ne done_me upd_ne upd_me)

attribute [local go_sem] gives

theorem grId2_any (y : Pol) (w : World) : Calls Tryz.prog 105 #[.agg (pcl y).toArray] w fun e w' => e = .returned (.int .i64 y.id) ∧ Below w.heap.size w w' := by
  unfold pcl
  go_enter Tryz.func105, Tryz.ntmps105
  go_wp2
  go_ret
  exact ⟨rfl, grow1 _ _⟩

theorem grId3_any (y : Ts) (w : World) : Calls Tryz.prog 108 #[.agg (tcl y).toArray] w fun e w' => e = .returned (.int .i64 y.id) ∧ Below w.heap.size w w' := by
  unfold tcl
  go_enter Tryz.func108, Tryz.ntmps108
  go_wp2
  go_ret
  exact ⟨rfl, grow1 _ _⟩

set_option maxRecDepth 100000 in
set_option maxHeartbeats 4000000 in
theorem grByP_any (ok : Pol → Bool) (most : Int) (A : Option Addr) (cap : Nat) (l : List Pol) (B : Nat) (w : World) (hB : B ≤ w.heap.size) (hz : Vals w B A (l.flatMap pcl)) (hl : l.length ≤ 1000000)
    (HF : ∀ (y : Pol) (W : World), y ∈ l → Below w.heap.size w W → Calls Tryz.prog 106 #[.agg (pcl y).toArray] W fun e w' => e = .returned (.bool (ok y)) ∧ Below W.heap.size W w') :
    Calls Tryz.prog 104 #[.slice A l.length cap, .int .i64 most, .func (.func 105) #[] #[], .func (.func 106) #[] #[]] w fun e w' => e = .returned (.bool (decide ((l.length : Int) ≤ most) && byIdL Pol.id ok l 0)) ∧ Below w.heap.size w w' := by
  have HW := Lib.hid (fun (lo hi : Int) (n : Int) (W : World) => grWithin_new lo hi [n] (W.alloc (.cells #[.int .i64 n] 3)) W.heap.size 1 1 rfl (alloc_at0 W _) (by simp))
  have HZ := Lib.hid hz
  have HFF := Lib.hid HF
  clear hz HF
  by_cases hm : (l.length : Int) ≤ most
  · rw [show decide ((l.length : Int) ≤ most) = true by simpa using hm, Bool.true_and]
    have hm2 : ¬ most < (l.length : Int) := by omega
    clear hm
    go_enter Tryz.func104, Tryz.ntmps104
    go_wp2
    go_loopg [9, 18] l.length (fun gg s9 s18 wx => ∃ (k : Nat) (n : Int), k + gg = l.length ∧ s18 = .int .i64 k ∧ s9 = .int .i64 n ∧ (0 ≤ n ∧ n ≤ 10000) ∧ Hid (byIdL Pol.id ok (l.drop k) n = byIdL Pol.id ok l 0) ∧ Hid (Below w.heap.size w wx))
    case atStart => exact ⟨0, 0, by omega, rfl, rfl, by omega, rfl, Below.refl _ _⟩
    case round =>
      obtain ⟨k, n, hkg, rfl, rfl, hn, hI, hM⟩ := hrel
      obtain ⟨hn0, hn1⟩ := hn
      cases gk with
      | zero =>
        have hI' := hI.out
        obtain rfl : k = l.length := by omega
        rw [List.drop_length] at hI'
        have HI := Lib.hid hI'
        clear hI'
        go_wp2
        go_ret
        exact ⟨by rw [← HI.out]; rfl, hM.out⟩
      | succ gg =>
        have hk : k < l.length := by omega
        have hkz : (k : Int) < l.length := by omega
        obtain ⟨c, off, hA, hcB, hc⟩ := vals_elem pcl_len HZ.out (by decide) hk
        subst hA
        have hc' : ∀ j v, (pcl l[k])[j]? = some v → wr.cell? ⟨c, off + k * 12 + j, none⟩ = some v := fun j v hv => (hM.out.cell (p := ⟨c, off + k * 12 + j, none⟩) (by simp; omega)).trans (hc j v hv)
        have hst : byIdL Pol.id ok (l.drop k) n = (inR l[k].id n 9999 && (ok l[k] && byIdL Pol.id ok (l.drop (k + 1)) (l[k].id + 1))) := by rw [List.drop_eq_getElem_cons hk]; rfl
        rw [hI.out] at hst
        have hy := fun W' (h : Below wr.heap.size wr W') => HFF.out l[k] W' (List.getElem_mem hk) (hM.out.trans (h.mono hM.out.size))
        generalize l[k] = y at hc' hst hy
        have hid := fun W' => grId2_any y W'
        have HY := Lib.hid hy
        have HST := Lib.hid hst
        have HCC := Lib.hid hc'
        have HID := Lib.hid hid
        clear hc hc' hst hy hid
        have ea : inR y.id n 9999 = allB n 9999 [y.id] := by simp [allB]
        rw [ea] at HST
        clear ea
        cases ha : allB n 9999 [y.id] with
        | false =>
          rw [ha] at HST
          have HA := Lib.hid ha
          clear ha
          generalize hyi : y.id = yi at HID HA
          clear hyi
          go_wp2_with (first
            | (show wpList _ _ _ (Oper.mk (some 21) _ _ _ _ _ :: _) _ _
               refine wpList_load_at 56 (.tmp 20) rfl rfl rfl (pcl y) HCC.out rowPole ?_)
            | (show wpList _ _ _ (Oper.mk none (Op.store _ (Operand.tmp 11) (Operand.tmp 21)) _ _ _ _ :: _) _ _
               refine wpList_store_blk 56 (.tmp 11) (.tmp 21) rfl rfl rfl rfl rfl (alloc_at0 wr _) (Nat.le_of_ble_eq_true rfl) (fun v hv => pcl_one [y] v (by simpa using hv)) rowPole ?_
               intro w5 hP5 hM5
               rw [splice_whole (by rfl)] at hM5
               have H5 := Lib.hid (And.intro ((grow1 wr _).trans (hP5.below (Nat.le_refl _))) hM5)
               clear hP5 hM5)
            | (show wpList _ _ _ (Oper.mk (some 25) _ _ _ _ _ :: _) _ _
               refine wpList_load_blk 56 (.tmp 11) rfl rfl rfl H5.out.2 (pcl y) at0 rowPole ?_)
            | (go_at_call 105
               refine (HID.out w5).mono ?_
               rintro e w6 ⟨rfl, hB6⟩
               have H6 := Lib.hid (H5.out.1.trans (hB6.mono H5.out.1.size))
               clear hB6)
            | (go_at_call 93
               refine (HW.out n 9999 yi w6).mono ?_
               rintro e w7 ⟨rfl, hB7⟩
               rw [HA.out]
               have H7 := Lib.hid (H6.out.trans (((grow1 w6 _).trans (hB7.mono (by simp))).mono H6.out.size))
               clear hB7))
          go_ret
          exact ⟨by rw [HST.out]; rfl, hM.out.trans (H7.out.mono hM.out.size)⟩
        | true =>
          have hyb : n ≤ y.id ∧ y.id ≤ 9999 := by have := ha; simpa [allB, inR_iff] using this
          obtain ⟨hyb0, hyb1⟩ := hyb
          cases hp : ok y
          all_goals
            rw [ha, hp] at HST
            rw [hp] at HY
            have HA := Lib.hid ha
            clear ha hp
            generalize hyi : y.id = yi at HID HA HST hyb0 hyb1
            have HYI := Lib.hid hyi
            clear hyi
            go_wp2_with (first
              | (show wpList _ _ _ (Oper.mk (some 21) _ _ _ _ _ :: _) _ _
                 refine wpList_load_at 56 (.tmp 20) rfl rfl rfl (pcl y) HCC.out rowPole ?_)
              | (show wpList _ _ _ (Oper.mk none (Op.store _ (Operand.tmp 11) (Operand.tmp 21)) _ _ _ _ :: _) _ _
                 refine wpList_store_blk 56 (.tmp 11) (.tmp 21) rfl rfl rfl rfl rfl (alloc_at0 wr _) (Nat.le_of_ble_eq_true rfl) (fun v hv => pcl_one [y] v (by simpa using hv)) rowPole ?_
                 intro w5 hP5 hM5
                 rw [splice_whole (by rfl)] at hM5
                 have H5 := Lib.hid (And.intro ((grow1 wr _).trans (hP5.below (Nat.le_refl _))) hM5)
                 clear hP5 hM5)
              | (show wpList _ _ _ (Oper.mk (some 25) _ _ _ _ _ :: _) _ _
                 refine wpList_load_blk 56 (.tmp 11) rfl rfl rfl H5.out.2 (pcl y) at0 rowPole ?_)
              | (show wpList _ _ _ (Oper.mk (some 32) _ _ _ _ _ :: _) _ _
                 refine wpList_load_blkG 56 (.tmp 11) rfl rfl rfl H7.out.2 (pcl y) at0 rowPole ?_)
              | (show wpList _ _ _ (Oper.mk (some 37) _ _ _ _ _ :: _) _ _
                 refine wpList_load_blk 56 (.tmp 11) rfl rfl rfl H8.out.2 (pcl y) at0 rowPole ?_)
              | (go_at_call 106
                 refine (HY.out w7 H7.out.1).mono ?_
                 rintro e w8 ⟨rfl, hB8⟩
                 have H8 := Lib.hid (And.intro (H7.out.1.trans (hB8.mono H7.out.1.size)) ((hB8.block _ (lt_of_heap H7.out.2)).trans H7.out.2))
                 clear hB8)
              | (go_at_call 105
                 refine (HID.out w8).mono ?_
                 rintro e w9 ⟨rfl, hB9⟩
                 have H9 := Lib.hid (H8.out.1.trans (hB9.mono H8.out.1.size))
                 clear hB9)
              | (go_at_call 105
                 refine (HID.out w5).mono ?_
                 rintro e w6 ⟨rfl, hB6⟩
                 have H6 := Lib.hid (And.intro (H5.out.1.trans (hB6.mono H5.out.1.size)) ((hB6.block _ (lt_of_heap H5.out.2)).trans H5.out.2))
                 clear hB6)
              | (go_at_call 93
                 refine (HW.out n 9999 yi w6).mono ?_
                 rintro e w7 ⟨rfl, hB7⟩
                 rw [HA.out]
                 have hb7 := (grow1 w6 (.cells #[.int .i64 yi] 3)).trans (hB7.mono (by simp))
                 have H7 := Lib.hid (And.intro (H6.out.1.trans (hb7.mono H6.out.1.size)) ((hb7.block _ (lt_of_heap H6.out.2)).trans H6.out.2))
                 clear hB7 hb7))
          rotate_left
          · go_roundg gg
            case measure => omega
            case rel => exact ⟨k + 1, yi + 1, by omega, by go_num, by go_num, by omega, by rw [HST.out]; rfl, hM.out.trans (H9.out.mono hM.out.size)⟩
          · go_ret
            exact ⟨by rw [HST.out]; rfl, hM.out.trans (H8.out.1.mono hM.out.size)⟩
  · rw [show decide ((l.length : Int) ≤ most) = false by simpa using hm, Bool.false_and]
    have hm2 : most < (l.length : Int) := by omega
    clear hm
    go_enter Tryz.func104, Tryz.ntmps104
    go_wp2
    go_ret
    exact ⟨rfl, Below.refl _ _⟩

set_option maxRecDepth 100000 in
set_option maxHeartbeats 4000000 in
theorem grByT_any (ok : Ts → Bool) (most : Int) (bx : Nat) (A : Option Addr) (cap : Nat) (l : List Ts) (B : Nat) (w : World) (hB : B ≤ w.heap.size) (hz : Vals w B A (l.flatMap tcl)) (hl : l.length ≤ 1000000)
    (HF : ∀ (y : Ts) (W : World), y ∈ l → Below w.heap.size w W → Calls Tryz.prog 103 #[.agg (tcl y).toArray, .pointer (some ⟨bx, 0, none⟩)] W fun e w' => e = .returned (.bool (ok y)) ∧ Below W.heap.size W w') :
    Calls Tryz.prog 107 #[.slice A l.length cap, .int .i64 most, .func (.func 108) #[] #[], .func (.func 103) #[] #[.pointer (some ⟨bx, 0, none⟩)]] w fun e w' => e = .returned (.bool (decide ((l.length : Int) ≤ most) && byIdL Ts.id ok l 0)) ∧ Below w.heap.size w w' := by
  have HW := Lib.hid (fun (lo hi : Int) (n : Int) (W : World) => grWithin_new lo hi [n] (W.alloc (.cells #[.int .i64 n] 3)) W.heap.size 1 1 rfl (alloc_at0 W _) (by simp))
  have HZ := Lib.hid hz
  have HFF := Lib.hid HF
  clear hz HF
  by_cases hm : (l.length : Int) ≤ most
  · rw [show decide ((l.length : Int) ≤ most) = true by simpa using hm, Bool.true_and]
    have hm2 : ¬ most < (l.length : Int) := by omega
    clear hm
    go_enter Tryz.func107, Tryz.ntmps107
    go_wp2
    go_loopg [9, 18] l.length (fun gg s9 s18 wx => ∃ (k : Nat) (n : Int), k + gg = l.length ∧ s18 = .int .i64 k ∧ s9 = .int .i64 n ∧ (0 ≤ n ∧ n ≤ 10000) ∧ Hid (byIdL Ts.id ok (l.drop k) n = byIdL Ts.id ok l 0) ∧ Hid (Below w.heap.size w wx))
    case atStart => exact ⟨0, 0, by omega, rfl, rfl, by omega, rfl, Below.refl _ _⟩
    case round =>
      obtain ⟨k, n, hkg, rfl, rfl, hn, hI, hM⟩ := hrel
      obtain ⟨hn0, hn1⟩ := hn
      cases gk with
      | zero =>
        have hI' := hI.out
        obtain rfl : k = l.length := by omega
        rw [List.drop_length] at hI'
        have HI := Lib.hid hI'
        clear hI'
        go_wp2
        go_ret
        exact ⟨by rw [← HI.out]; rfl, hM.out⟩
      | succ gg =>
        have hk : k < l.length := by omega
        have hkz : (k : Int) < l.length := by omega
        obtain ⟨c, off, hA, hcB, hc⟩ := vals_elem tcl_len HZ.out (by decide) hk
        subst hA
        have hc' : ∀ j v, (tcl l[k])[j]? = some v → wr.cell? ⟨c, off + k * 5 + j, none⟩ = some v := fun j v hv => (hM.out.cell (p := ⟨c, off + k * 5 + j, none⟩) (by simp; omega)).trans (hc j v hv)
        have hst : byIdL Ts.id ok (l.drop k) n = (inR l[k].id n 9999 && (ok l[k] && byIdL Ts.id ok (l.drop (k + 1)) (l[k].id + 1))) := by rw [List.drop_eq_getElem_cons hk]; rfl
        rw [hI.out] at hst
        have hy := fun W' (h : Below wr.heap.size wr W') => HFF.out l[k] W' (List.getElem_mem hk) (hM.out.trans (h.mono hM.out.size))
        generalize l[k] = y at hc' hst hy
        have hid := fun W' => grId3_any y W'
        have HY := Lib.hid hy
        have HST := Lib.hid hst
        have HCC := Lib.hid hc'
        have HID := Lib.hid hid
        clear hc hc' hst hy hid
        have ea : inR y.id n 9999 = allB n 9999 [y.id] := by simp [allB]
        rw [ea] at HST
        clear ea
        cases ha : allB n 9999 [y.id] with
        | false =>
          rw [ha] at HST
          have HA := Lib.hid ha
          clear ha
          generalize hyi : y.id = yi at HID HA
          clear hyi
          go_wp2_with (first
            | (show wpList _ _ _ (Oper.mk (some 21) _ _ _ _ _ :: _) _ _
               refine wpList_load_at 58 (.tmp 20) rfl rfl rfl (tcl y) HCC.out rowTest ?_)
            | (show wpList _ _ _ (Oper.mk none (Op.store _ (Operand.tmp 11) (Operand.tmp 21)) _ _ _ _ :: _) _ _
               refine wpList_store_blk 58 (.tmp 11) (.tmp 21) rfl rfl rfl rfl rfl (alloc_at0 wr _) (Nat.le_of_ble_eq_true rfl) (fun v hv => tcl_one [y] v (by simpa using hv)) rowTest ?_
               intro w5 hP5 hM5
               rw [splice_whole (by rfl)] at hM5
               have H5 := Lib.hid (And.intro ((grow1 wr _).trans (hP5.below (Nat.le_refl _))) hM5)
               clear hP5 hM5)
            | (show wpList _ _ _ (Oper.mk (some 25) _ _ _ _ _ :: _) _ _
               refine wpList_load_blk 58 (.tmp 11) rfl rfl rfl H5.out.2 (tcl y) at0 rowTest ?_)
            | (go_at_call 108
               refine (HID.out w5).mono ?_
               rintro e w6 ⟨rfl, hB6⟩
               have H6 := Lib.hid (H5.out.1.trans (hB6.mono H5.out.1.size))
               clear hB6)
            | (go_at_call 93
               refine (HW.out n 9999 yi w6).mono ?_
               rintro e w7 ⟨rfl, hB7⟩
               rw [HA.out]
               have H7 := Lib.hid (H6.out.trans (((grow1 w6 _).trans (hB7.mono (by simp))).mono H6.out.size))
               clear hB7))
          go_ret
          exact ⟨by rw [HST.out]; rfl, hM.out.trans (H7.out.mono hM.out.size)⟩
        | true =>
          have hyb : n ≤ y.id ∧ y.id ≤ 9999 := by have := ha; simpa [allB, inR_iff] using this
          obtain ⟨hyb0, hyb1⟩ := hyb
          cases hp : ok y
          all_goals
            rw [ha, hp] at HST
            rw [hp] at HY
            have HA := Lib.hid ha
            clear ha hp
            generalize hyi : y.id = yi at HID HA HST hyb0 hyb1
            have HYI := Lib.hid hyi
            clear hyi
            go_wp2_with (first
              | (show wpList _ _ _ (Oper.mk (some 21) _ _ _ _ _ :: _) _ _
                 refine wpList_load_at 58 (.tmp 20) rfl rfl rfl (tcl y) HCC.out rowTest ?_)
              | (show wpList _ _ _ (Oper.mk none (Op.store _ (Operand.tmp 11) (Operand.tmp 21)) _ _ _ _ :: _) _ _
                 refine wpList_store_blk 58 (.tmp 11) (.tmp 21) rfl rfl rfl rfl rfl (alloc_at0 wr _) (Nat.le_of_ble_eq_true rfl) (fun v hv => tcl_one [y] v (by simpa using hv)) rowTest ?_
                 intro w5 hP5 hM5
                 rw [splice_whole (by rfl)] at hM5
                 have H5 := Lib.hid (And.intro ((grow1 wr _).trans (hP5.below (Nat.le_refl _))) hM5)
                 clear hP5 hM5)
              | (show wpList _ _ _ (Oper.mk (some 25) _ _ _ _ _ :: _) _ _
                 refine wpList_load_blk 58 (.tmp 11) rfl rfl rfl H5.out.2 (tcl y) at0 rowTest ?_)
              | (show wpList _ _ _ (Oper.mk (some 32) _ _ _ _ _ :: _) _ _
                 refine wpList_load_blkG 58 (.tmp 11) rfl rfl rfl H7.out.2 (tcl y) at0 rowTest ?_)
              | (show wpList _ _ _ (Oper.mk (some 37) _ _ _ _ _ :: _) _ _
                 refine wpList_load_blk 58 (.tmp 11) rfl rfl rfl H8.out.2 (tcl y) at0 rowTest ?_)
              | (go_at_call 103
                 refine (HY.out w7 H7.out.1).mono ?_
                 rintro e w8 ⟨rfl, hB8⟩
                 have H8 := Lib.hid (And.intro (H7.out.1.trans (hB8.mono H7.out.1.size)) ((hB8.block _ (lt_of_heap H7.out.2)).trans H7.out.2))
                 clear hB8)
              | (go_at_call 108
                 refine (HID.out w8).mono ?_
                 rintro e w9 ⟨rfl, hB9⟩
                 have H9 := Lib.hid (H8.out.1.trans (hB9.mono H8.out.1.size))
                 clear hB9)
              | (go_at_call 108
                 refine (HID.out w5).mono ?_
                 rintro e w6 ⟨rfl, hB6⟩
                 have H6 := Lib.hid (And.intro (H5.out.1.trans (hB6.mono H5.out.1.size)) ((hB6.block _ (lt_of_heap H5.out.2)).trans H5.out.2))
                 clear hB6)
              | (go_at_call 93
                 refine (HW.out n 9999 yi w6).mono ?_
                 rintro e w7 ⟨rfl, hB7⟩
                 rw [HA.out]
                 have hb7 := (grow1 w6 (.cells #[.int .i64 yi] 3)).trans (hB7.mono (by simp))
                 have H7 := Lib.hid (And.intro (H6.out.1.trans (hb7.mono H6.out.1.size)) ((hb7.block _ (lt_of_heap H6.out.2)).trans H6.out.2))
                 clear hB7 hb7))
          rotate_left
          · go_roundg gg
            case measure => omega
            case rel => exact ⟨k + 1, yi + 1, by omega, by go_num, by go_num, by omega, by rw [HST.out]; rfl, hM.out.trans (H9.out.mono hM.out.size)⟩
          · go_ret
            exact ⟨by rw [HST.out]; rfl, hM.out.trans (H8.out.1.mono hM.out.size)⟩
  · rw [show decide ((l.length : Int) ≤ most) = false by simpa using hm, Bool.false_and]
    have hm2 : most < (l.length : Int) := by omega
    clear hm
    go_enter Tryz.func107, Tryz.ntmps107
    go_wp2
    go_ret
    exact ⟨rfl, Below.refl _ _⟩

end Go.Proofs.YtpnnlmaipcjkmaaGreat

namespace Go.Proofs.YtpnnlmaipcjkmaaGreat
open Go.RowKit

section
variable {P : Program} {fn : Func} {tmps : Array Value} {w : World}
theorem results_cell1 {t b : Nat} {ty tt : TypeId} {cs : List Value} {fr : Nat × Nat} (hr : fn.results = #[.cell t ty]) (ht : tmps.getD t undef = .pointer (some ⟨b, 0, none⟩))
    (hb : w.heap[b]? = some (.cells cs.toArray tt fr)) (hty : RowTy P ty cs.length) : (results fn tmps).run P w = .ok (.agg cs.toArray) w := by
  obtain ⟨⟨d, hu, hd⟩, hi⟩ := hty
  have hl := run_loadVar_mid (P := P) w b 0 ty cs d (fun j v hv => by
    rw [Nat.zero_add, cell_of_row w b j _ _ _ hb, List.getElem?_toArray]; exact hv) hu hd hi
  rw [Array.getD_eq_getD_getElem?] at ht
  unfold results
  rw [hr]
  simp [ht, asAddr, hl]
theorem results_cell_tmp {t s b : Nat} {ty tt : TypeId} {cs : List Value} {v : Value} {fr : Nat × Nat} (hr : fn.results = #[.cell t ty, .tmp s]) (ht : tmps.getD t undef = .pointer (some ⟨b, 0, none⟩))
    (hb : w.heap[b]? = some (.cells cs.toArray tt fr)) (hty : RowTy P ty cs.length) (hs : tmps.getD s undef = v) : (results fn tmps).run P w = .ok (.tuple #[.agg cs.toArray, v]) w := by
  obtain ⟨⟨d, hu, hd⟩, hi⟩ := hty
  have hl := run_loadVar_mid (P := P) w b 0 ty cs d (fun j v hv => by
    rw [Nat.zero_add, cell_of_row w b j _ _ _ hb, List.getElem?_toArray]; exact hv) hu hd hi
  rw [Array.getD_eq_getD_getElem?] at ht hs
  unfold results
  rw [hr]
  simp [ht, asAddr, hl, hs]
theorem results_cell2_tmp {t t2 s b b2 : Nat} {ty ty2 tt tt2 : TypeId} {cs cs2 : List Value} {v : Value} {fr fr2 : Nat × Nat} (hr : fn.results = #[.cell t ty, .cell t2 ty2, .tmp s]) (ht : tmps.getD t undef = .pointer (some ⟨b, 0, none⟩))
    (hb : w.heap[b]? = some (.cells cs.toArray tt fr)) (hty : RowTy P ty cs.length) (ht2 : tmps.getD t2 undef = .pointer (some ⟨b2, 0, none⟩))
    (hb2 : w.heap[b2]? = some (.cells cs2.toArray tt2 fr2)) (hty2 : RowTy P ty2 cs2.length) (hs : tmps.getD s undef = v) : (results fn tmps).run P w = .ok (.tuple #[.agg cs.toArray, .agg cs2.toArray, v]) w := by
  obtain ⟨⟨d, hu, hd⟩, hi⟩ := hty
  obtain ⟨⟨d2, hu2, hd2⟩, hi2⟩ := hty2
  have hl := run_loadVar_mid (P := P) w b 0 ty cs d (fun j v hv => by
    rw [Nat.zero_add, cell_of_row w b j _ _ _ hb, List.getElem?_toArray]; exact hv) hu hd hi
  have hl2 := run_loadVar_mid (P := P) w b2 0 ty2 cs2 d2 (fun j v hv => by
    rw [Nat.zero_add, cell_of_row w b2 j _ _ _ hb2, List.getElem?_toArray]; exact hv) hu2 hd2 hi2
  rw [Array.getD_eq_getD_getElem?] at ht ht2 hs
  unfold results
  rw [hr]
  simp [ht, ht2, asAddr, hl, hl2, hs]
end

theorem idxL_find {α : Type} {P : α → Bool} : ∀ (l : List α) (i : Nat), (idxL P l i = -1 ∧ l.find? P = none ∧ l.any P = false) ∨ ∃ (k : Nat) (x : α), idxL P l i = ((i + k : Nat) : Int) ∧ l[k]? = some x ∧ l.find? P = some x ∧ l.any P = true
  | [], i => .inl ⟨rfl, rfl, rfl⟩
  | x :: l, i => by
    by_cases h : P x = true
    · exact .inr ⟨0, x, by simp [idxL, h], rfl, by simp [h], by simp [h]⟩
    · have h' : P x = false := by simpa using h
      rcases idxL_find (P := P) l (i + 1) with ⟨h1, h2, h3⟩ | ⟨k, y, h1, h2, h3, h4⟩
      · exact .inl ⟨by simp [idxL, h', h1], by simp [h', h2], by simp [h', h3]⟩
      · exact .inr ⟨k + 1, y, by simp only [idxL, h', Bool.false_eq_true, if_false, h1]; congr 1; omega, by simpa using h2, by simp [h', h3], by simp [h', h4]⟩

def pol0 : Pol := ⟨0, 0, 0, 0, 0, 0, 0, 0, 0, 0, 0, 0⟩
def fndP (ps : List Pol) (id : Int) : Pol := (ps.find? fun p => decide (p.id = id)).getD pol0

theorem grPW1_any (id : Int) (b : Nat) (y : Pol) (w : World) (hb : w.heap[b]? = some (.cells #[.int .i64 id] 3 (0, 0))) :
    Calls Tryz.prog 135 #[.agg (pcl y).toArray, .pointer (some ⟨b, 0, none⟩)] w fun e w' => e = .returned (.bool (decide (y.id = id))) ∧ Below w.heap.size w w' := by
  have hlt := lt_of_heap hb
  have hc : (w.alloc (.cells (pcl y).toArray 56)).cell? ⟨b, 0, none⟩ = some (.int .i64 id) := cell_of_row _ b 0 _ _ _ (((grow1 w _).block b hlt).trans hb)
  have HB := Lib.hid hb
  clear hb
  unfold pcl at hc ⊢
  go_enter Tryz.func135, Tryz.ntmps135
  go_wp2
  go_ret
  exact ⟨rfl, grow1 _ _⟩

set_option maxRecDepth 100000 in
set_option maxHeartbeats 4000000 in
theorem grFirstP_any (id : Int) (b : Nat) (A : Option Addr) (cap : Nat) (ps : List Pol) (B : Nat) (w : World) (hB : B ≤ w.heap.size) (hz : Vals w B A (ps.flatMap pcl)) (hl : ps.length ≤ 1000000) (hb : w.heap[b]? = some (.cells #[.int .i64 id] 3 (0, 0))) :
    Calls Tryz.prog 134 #[.slice A ps.length cap, .func (.func 135) #[] #[.pointer (some ⟨b, 0, none⟩)]] w
      fun e w' => e = .returned (.tuple #[.agg (pcl (fndP ps id)).toArray, .bool (hasPol ps id)]) ∧ Below w.heap.size w w' := by
  have H := fun (W : World) (hW : Below w.heap.size w W) => grPW_index (fun p => decide (p.id = id)) b A cap ps B W (Nat.le_trans hB hW.size) (hz.below (hW.mono hB)) hl (fun y W' _ h' => grPW1_any id b y W' ((h'.block b (by have := lt_of_heap hb; have := hW.size; omega)).trans ((hW.block b (lt_of_heap hb)).trans hb)))
  obtain ⟨Z, hZ⟩ : ∃ Z : List Value, Z = pcl pol0 := ⟨_, rfl⟩
  have hZl : Z.length = 12 := by rw [hZ]; rfl
  have hZ1 : ∀ v ∈ Z, v.oneCell' = true := by rw [hZ]; exact fun v hv => pcl_one [pol0] v (by simpa using hv)
  obtain ⟨w1, hw1⟩ : ∃ w1, w.alloc (.cells #[.int .i64 0, .int .i64 0, .int .i64 0, .int .i64 0, .int .i64 0, .int .i64 0, .int .i64 0, .int .i64 0, .int .i64 0, .int .i64 0, .int .i64 0, .int .i64 0] 56) = w1 := ⟨_, rfl⟩
  have hb1 : Below w.heap.size w w1 := by rw [← hw1]; exact grow1 _ _
  have hm1 : w1.heap[w.heap.size]? = some (.cells Z.toArray 56 (0, 0)) := by rw [← hw1, hZ]; exact alloc_at0 _ _
  have hi := H w1 hb1
  have H1 := Lib.hid (And.intro hb1 hm1)
  have HZZ := Lib.hid (And.intro hZl hZ1)
  have HVZ := Lib.hid (And.intro hz hB)
  clear hb1 hm1 H hZ1 hZl hz hB
  rcases idxL_find (P := fun p : Pol => decide (p.id = id)) ps 0 with ⟨e1, e2, e3⟩ | ⟨k, x, e1, e2, e3, e4⟩
  · have r1 : fndP ps id = pol0 := by simp [fndP, e2]
    have r2 : hasPol ps id = false := e3
    rw [r1, r2, ← hZ]
    rw [e1] at hi
    have HI := Lib.hid hi
    clear hi e1 e2 e3 r1 r2 hZ
    go_enter Tryz.func134, Tryz.ntmps134
    go_wp2_with (first
      | (go_at_call 169
         refine HI.out.mono ?_
         rintro e w2 ⟨rfl, hB2⟩
         have H2 := Lib.hid (And.intro (H1.out.1.trans (hB2.mono H1.out.1.size)) ((hB2.block _ (lt_of_heap H1.out.2)).trans H1.out.2))
         clear hB2)
      | (show wpList _ _ _ (Oper.mk (some 12) _ _ _ _ _ :: _) _ _
         refine wpList_load_blk 56 (.tmp 4) rfl rfl rfl H2.out.2 Z at0 (by rw [HZZ.out.1]; exact rowPole) ?_)
      | (show wpList _ _ _ (Oper.mk none (Op.store _ (Operand.tmp 4) (Operand.tmp 12)) _ _ _ _ :: _) _ _
         refine wpList_store_blk 56 (.tmp 4) (.tmp 12) rfl rfl rfl rfl rfl H2.out.2 (by omega) HZZ.out.2 (by rw [HZZ.out.1]; exact rowPole) ?_
         intro w3 hP3 hM3
         rw [splice_whole rfl] at hM3
         have H3 := Lib.hid (And.intro (H2.out.1.trans (hP3.below (Nat.le_refl _))) hM3)
         clear hP3 hM3))
    refine bodyPost_ret (v := .tuple #[.agg Z.toArray, .bool false]) (results_cell_tmp Tryz.results134 rfl H3.out.2 (by rw [HZZ.out.1]; exact rowPole) rfl) rfl ⟨rfl, H3.out.1⟩
  · have r1 : fndP ps id = x := by simp [fndP, e3]
    have r2 : hasPol ps id = true := e4
    rw [r1, r2]
    rw [e1, Nat.zero_add] at hi
    have hk : k < ps.length := (List.getElem?_eq_some_iff.1 e2).1
    have hx : ps[k] = x := (List.getElem?_eq_some_iff.1 e2).2
    have HI := Lib.hid hi
    obtain ⟨c, off, hA, hcB, hc⟩ := vals_elem pcl_len HVZ.out.1 (by decide) hk
    rw [hx] at hc
    subst hA
    have hkz : (k : Int) < ps.length := by omega
    have HCC := Lib.hid (And.intro hc hcB)
    clear hi e1 e2 e3 e4 r1 r2 hZ hx hc
    go_enter Tryz.func134, Tryz.ntmps134
    go_wp2_with (first
      | (go_at_call 169
         refine HI.out.mono ?_
         rintro e w2 ⟨rfl, hB2⟩
         have hb2 := H1.out.1.trans (hB2.mono H1.out.1.size)
         have hc2 : ∀ j v, (pcl x)[j]? = some v → w2.cell? ⟨c, off + k * 12 + j, none⟩ = some v := fun j v hv => (hb2.cell (p := ⟨c, off + k * 12 + j, none⟩) (by have := HVZ.out.2; simp; omega)).trans (HCC.out.1 j v hv)
         have H2 := Lib.hid (And.intro hb2 (And.intro ((hB2.block _ (lt_of_heap H1.out.2)).trans H1.out.2) hc2))
         clear hB2 hb2 hc2)
      | (show wpList _ _ _ (Oper.mk (some 16) _ _ _ _ _ :: _) _ _
         refine wpList_load_at 56 (.tmp 15) rfl rfl rfl (pcl x) H2.out.2.2 rowPole ?_)
      | (show wpList _ _ _ (Oper.mk none (Op.store _ (Operand.tmp 4) (Operand.tmp 16)) _ _ _ _ :: _) _ _
         refine wpList_store_blk 56 (.tmp 4) (.tmp 16) rfl rfl rfl rfl rfl H2.out.2.1 (by rw [HZZ.out.1]; exact Nat.le_refl _) (fun v hv => pcl_one [x] v (by simpa using hv)) rowPole ?_
         intro w3 hP3 hM3
         rw [splice_whole HZZ.out.1] at hM3
         have H3 := Lib.hid (And.intro (H2.out.1.trans (hP3.below (Nat.le_refl _))) hM3)
         clear hP3 hM3))
    refine bodyPost_ret (v := .tuple #[.agg (pcl x).toArray, .bool true]) (results_cell_tmp Tryz.results134 rfl H3.out.2 rowPole rfl) rfl ⟨rfl, H3.out.1⟩

set_option maxRecDepth 100000 in
set_option maxHeartbeats 4000000 in
theorem grPoleWith_any (id : Int) (A : Option Addr) (cap : Nat) (ps : List Pol) (B : Nat) (w : World) (hB : B ≤ w.heap.size) (hz : Vals w B A (ps.flatMap pcl)) (hl : ps.length ≤ 1000000) :
    Calls Tryz.prog 91 #[.slice A ps.length cap, .int .i64 id] w
      fun e w' => e = .returned (.tuple #[.agg (pcl (fndP ps id)).toArray, .bool (hasPol ps id)]) ∧ Below w.heap.size w w' := by
  obtain ⟨Z, hZ⟩ : ∃ Z : List Value, Z = pcl pol0 := ⟨_, rfl⟩
  have hZl : Z.length = 12 := by rw [hZ]; rfl
  obtain ⟨w1, hw1⟩ : ∃ w1, w.alloc (.cells #[.int .i64 id] 3) = w1 := ⟨_, rfl⟩
  obtain ⟨w2, hw2⟩ : ∃ w2, w1.alloc (.cells #[.int .i64 0, .int .i64 0, .int .i64 0, .int .i64 0, .int .i64 0, .int .i64 0, .int .i64 0, .int .i64 0, .int .i64 0, .int .i64 0, .int .i64 0, .int .i64 0] 56) = w2 := ⟨_, rfl⟩
  have hs1 : w1.heap.size = w.heap.size + 1 := by rw [← hw1]; simp
  have hb2 : Below w.heap.size w w2 := by rw [← hw2, ← hw1]; exact grow2 _ _ _
  have hm1 : w2.heap[w.heap.size]? = some (.cells #[.int .i64 id] 3 (0, 0)) := by rw [← hw2, ← hw1]; exact alloc2_at0 _ _ _
  have hm2 : w2.heap[w1.heap.size]? = some (.cells Z.toArray 56 (0, 0)) := by rw [← hw2, hZ]; exact alloc_at0 _ _
  have hf := grFirstP_any id w.heap.size A cap ps B w2 (Nat.le_trans hB hb2.size) (hz.below (hb2.mono hB)) hl hm1
  generalize fndP ps id = x at hf ⊢
  generalize hasPol ps id = v at hf ⊢
  have HF := Lib.hid hf
  have H2 := Lib.hid (And.intro hb2 (And.intro hm2 hs1))
  have HZL := Lib.hid hZl
  clear hf hb2 hm1 hm2 hs1 hZ hZl hz
  go_enter Tryz.func91, Tryz.ntmps91
  go_wp2_with (first
    | (go_at_call 134
       refine HF.out.mono ?_
       rintro e w3 ⟨rfl, hB3⟩
       have H3 := Lib.hid (And.intro (H2.out.1.trans (hB3.mono H2.out.1.size)) ((hB3.block _ (lt_of_heap H2.out.2.1)).trans H2.out.2.1))
       clear hB3)
    | (show wpList _ _ _ (Oper.mk none (Op.store _ (Operand.tmp 4) (Operand.tmp 9)) _ _ _ _ :: _) _ _
       refine wpList_store_blk 56 (.tmp 4) (.tmp 9) rfl rfl rfl rfl rfl H3.out.2 (by rw [HZL.out]; exact Nat.le_refl _) (fun v hv => pcl_one [x] v (by simpa using hv)) rowPole ?_
       intro w4 hP4 hM4
       rw [splice_whole HZL.out] at hM4
       have H4 := Lib.hid (And.intro (H3.out.1.trans (hP4.below (by have := H2.out.2.2; omega))) hM4)
       clear hP4 hM4))
  refine bodyPost_ret (v := .tuple #[.agg (pcl x).toArray, .bool v]) (results_cell_tmp Tryz.results91 rfl H4.out.2 rowPole rfl) rfl ⟨rfl, H4.out.1⟩

end Go.Proofs.YtpnnlmaipcjkmaaGreat
