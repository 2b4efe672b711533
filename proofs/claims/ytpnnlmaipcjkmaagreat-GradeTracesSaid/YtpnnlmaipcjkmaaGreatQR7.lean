/-
  Areas; spans that are cut; stresses as three spans: cut, wider, empty.
-/
import Derived.Test.YtpnnlmaipcjkmaaGreatQR5
import Derived.Test.YtpnnlmaipcjkmaaGreatQR6
import Derived.Lib.MinMax
set_option linter.all false
namespace Go.Proofs.YtpnnlmaipcjkmaaGreat
open Go.RowKit
open R6 (done done_ne done_me upd_ne upd_me)

attribute [local go_sem] gives

def grVTN (t : Ts) : Nat → List Int := fun k => if k = 10 then [t.force] else []
theorem okTs_allB (ps : List Pol) (t : Ts) : okTs ps t = (hasPol ps t.pole && (allB 0 2 [t.sec] && allB 1 1000000 [t.force])) := by simp [okTs, allB]

set_option maxRecDepth 100000 in
set_option maxHeartbeats 4000000 in
theorem grVT_1 (ps : List Pol) (AP : Option Addr) (cp : Nat) (AT : Option Addr) (nt ct : Nat) (t : Ts) (bx : Nat) (B : Nat) (w : World) (hB : B ≤ w.heap.size) (hz : Vals w B AP (ps.flatMap pcl)) (hl : ps.length ≤ 1000000) (hb : w.heap[bx]? = some (.cells #[.slice AP ps.length cp, .slice AT nt ct] 25 (0, 0)))
    (h1 : hasPol ps t.pole = false) :
    Calls Tryz.prog 103 #[.agg (tcl t).toArray, .pointer (some ⟨bx, 0, none⟩)] w fun e w' => e = .returned (.bool false) ∧ Below w.heap.size w w' := by
  obtain ⟨Z, hZ⟩ : ∃ Z : List Value, Z = pcl pol0 := ⟨_, rfl⟩
  have hZl : Z.length = 12 := by rw [hZ]; rfl
  have hlt := lt_of_heap hb
  obtain ⟨w1, hw1⟩ : ∃ w1, w.alloc (.cells (tcl t).toArray 58) = w1 := ⟨_, rfl⟩
  have hs1 : w1.heap.size = w.heap.size + 1 := by rw [← hw1]; simp
  have hb1 : Below w.heap.size w w1 := by rw [← hw1]; exact grow1 _ _
  have hm1 : w1.heap[w.heap.size]? = some (.cells (tcl t).toArray 58 (0, 0)) := by rw [← hw1]; exact alloc_at0 _ _
  have hc1 := fun i => cell_of_row w1 w.heap.size i _ _ _ hm1
  have hcx := fun i => cell_of_row w1 bx i _ _ _ ((hb1.block bx hlt).trans hb)
  have hf := grPoleWith_any t.pole AP cp ps B w1 (Nat.le_trans hB hb1.size) (hz.below (hb1.mono hB)) hl
  rw [h1] at hf
  generalize fndP ps t.pole = x at hf
  have HF := Lib.hid hf
  have H0 := Lib.hid (And.intro hb1 (And.intro hm1 hs1))
  have HZL := Lib.hid (And.intro hZl hZ)
  have H1 := Lib.hid h1
  clear hf hb1 hm1 hs1 hZ hZl hz hb h1
  unfold tcl at hc1 hw1 ⊢
  go_enter Tryz.func103, Tryz.ntmps103
  go_wp2_with (first
    | (go_at_call 91
       refine HF.out.mono ?_
       rintro e w2 ⟨rfl, hB2⟩
       have HB2 := Lib.hid hB2
       clear hB2)
    | (show wpList _ _ _ (Oper.mk none (Op.store _ (Operand.tmp 4) (Operand.tmp 12)) _ _ _ _ :: _) _ _
       have hm2 : (w2.alloc (.cells #[.int .i64 0, .int .i64 0, .int .i64 0, .int .i64 0, .int .i64 0, .int .i64 0, .int .i64 0, .int .i64 0, .int .i64 0, .int .i64 0, .int .i64 0, .int .i64 0] 56)).heap[w2.heap.size]? = some (.cells Z.toArray 56 (0, 0)) := by rw [HZL.out.2]; exact alloc_at0 _ _
       refine wpList_store_blk 56 (.tmp 4) (.tmp 12) rfl rfl rfl rfl rfl hm2 (by rw [HZL.out.1]; exact Nat.le_refl _) (fun v hv => pcl_one [x] v (by simpa using hv)) rowPole ?_
       intro w4 hP4 _
       clear hm2
       have hb4 : Below w1.heap.size w1 w4 := HB2.out.trans (((grow1 w2 _).trans (hP4.below (Nat.le_refl _))).mono HB2.out.size)
       have H4 := Lib.hid (And.intro (H0.out.1.trans (hb4.mono H0.out.1.size)) ((hb4.block _ (lt_of_heap H0.out.2.1)).trans H0.out.2.1))
       clear hP4 hb4))
  clear hc1 hcx hw1
  refine R6.wp_walk (C := BoxM w [(w.heap.size, .cells #[.int .i64 t.id, .int .i64 t.pole, .int .i64 t.sec, .int .i64 t.force, .bool t.held] 58)] [] (grVTN t)) 27 (by kernel_rfl) (by kernel_rfl) rfl (BoxM.start H4.out.1 ⟨H4.out.2, trivial⟩ (fun _ => rfl)) ?_
  simp only []
  repeat (first
    | (refine R6.WalkR.un (fun _ => rfl) (fun D ρ W hK hC => hC.move (by decide)) ?_
       simp only [Act.put, List.setIfInBounds_toArray, List.set_cons_succ, List.set_cons_zero])
    | (refine' R6.WalkR.det (fun _ => rfl) (fun D ρ W hK hC => ?_) ?_
       rotate_left
       · have hcb := fun i => cell_of_row W w.heap.size i _ _ _ hC.box.1
         have HC := Lib.hid hC
         clear hC hK
         go_simp
         first
           | with_reducible exact ⟨rfl, HC.out.move (by decide)⟩
           | (go_at_call 56; refine (grValidSection_any t.sec W).mono ?_; rintro e W1 ⟨rfl, hB1⟩; rw [H2.out]; exact ⟨_, rfl, rfl, (HC.out.next hB1).move (by decide)⟩)
           | (go_at_call 101; refine (grFromOne_any _ W).mono ?_; rintro e W1 ⟨rfl, hB1⟩; exact ⟨_, rfl, rfl, (HC.out.next hB1).move (by decide)⟩)
       simp only [Act.put, List.setIfInBounds_toArray, List.set_cons_succ, List.set_cons_zero]))
  refine R6.WalkR.nil (fun D ρ W hD hC => ?_)
  have HB := Lib.hid hC.bel
  clear hC hD
  go_wp2
  go_ret
  exact ⟨rfl, HB.out⟩

set_option maxRecDepth 100000 in
set_option maxHeartbeats 4000000 in
theorem grVT_2 (ps : List Pol) (AP : Option Addr) (cp : Nat) (AT : Option Addr) (nt ct : Nat) (t : Ts) (bx : Nat) (B : Nat) (w : World) (hB : B ≤ w.heap.size) (hz : Vals w B AP (ps.flatMap pcl)) (hl : ps.length ≤ 1000000) (hb : w.heap[bx]? = some (.cells #[.slice AP ps.length cp, .slice AT nt ct] 25 (0, 0)))
    (h1 : hasPol ps t.pole = true)
    (h2 : allB 0 2 [t.sec] = false) :
    Calls Tryz.prog 103 #[.agg (tcl t).toArray, .pointer (some ⟨bx, 0, none⟩)] w fun e w' => e = .returned (.bool false) ∧ Below w.heap.size w w' := by
  obtain ⟨Z, hZ⟩ : ∃ Z : List Value, Z = pcl pol0 := ⟨_, rfl⟩
  have hZl : Z.length = 12 := by rw [hZ]; rfl
  have hlt := lt_of_heap hb
  obtain ⟨w1, hw1⟩ : ∃ w1, w.alloc (.cells (tcl t).toArray 58) = w1 := ⟨_, rfl⟩
  have hs1 : w1.heap.size = w.heap.size + 1 := by rw [← hw1]; simp
  have hb1 : Below w.heap.size w w1 := by rw [← hw1]; exact grow1 _ _
  have hm1 : w1.heap[w.heap.size]? = some (.cells (tcl t).toArray 58 (0, 0)) := by rw [← hw1]; exact alloc_at0 _ _
  have hc1 := fun i => cell_of_row w1 w.heap.size i _ _ _ hm1
  have hcx := fun i => cell_of_row w1 bx i _ _ _ ((hb1.block bx hlt).trans hb)
  have hf := grPoleWith_any t.pole AP cp ps B w1 (Nat.le_trans hB hb1.size) (hz.below (hb1.mono hB)) hl
  rw [h1] at hf
  generalize fndP ps t.pole = x at hf
  have HF := Lib.hid hf
  have H0 := Lib.hid (And.intro hb1 (And.intro hm1 hs1))
  have HZL := Lib.hid (And.intro hZl hZ)
  have H1 := Lib.hid h1
  have H2 := Lib.hid h2
  clear hf hb1 hm1 hs1 hZ hZl hz hb h1 h2
  unfold tcl at hc1 hw1 ⊢
  go_enter Tryz.func103, Tryz.ntmps103
  go_wp2_with (first
    | (go_at_call 91
       refine HF.out.mono ?_
       rintro e w2 ⟨rfl, hB2⟩
       have HB2 := Lib.hid hB2
       clear hB2)
    | (show wpList _ _ _ (Oper.mk none (Op.store _ (Operand.tmp 4) (Operand.tmp 12)) _ _ _ _ :: _) _ _
       have hm2 : (w2.alloc (.cells #[.int .i64 0, .int .i64 0, .int .i64 0, .int .i64 0, .int .i64 0, .int .i64 0, .int .i64 0, .int .i64 0, .int .i64 0, .int .i64 0, .int .i64 0, .int .i64 0] 56)).heap[w2.heap.size]? = some (.cells Z.toArray 56 (0, 0)) := by rw [HZL.out.2]; exact alloc_at0 _ _
       refine wpList_store_blk 56 (.tmp 4) (.tmp 12) rfl rfl rfl rfl rfl hm2 (by rw [HZL.out.1]; exact Nat.le_refl _) (fun v hv => pcl_one [x] v (by simpa using hv)) rowPole ?_
       intro w4 hP4 _
       clear hm2
       have hb4 : Below w1.heap.size w1 w4 := HB2.out.trans (((grow1 w2 _).trans (hP4.below (Nat.le_refl _))).mono HB2.out.size)
       have H4 := Lib.hid (And.intro (H0.out.1.trans (hb4.mono H0.out.1.size)) ((hb4.block _ (lt_of_heap H0.out.2.1)).trans H0.out.2.1))
       clear hP4 hb4))
  clear hc1 hcx hw1
  refine R6.wp_walk (C := BoxM w [(w.heap.size, .cells #[.int .i64 t.id, .int .i64 t.pole, .int .i64 t.sec, .int .i64 t.force, .bool t.held] 58)] [] (grVTN t)) 27 (by kernel_rfl) (by kernel_rfl) rfl (BoxM.start H4.out.1 ⟨H4.out.2, trivial⟩ (fun _ => rfl)) ?_
  simp only []
  repeat (first
    | (refine R6.WalkR.un (fun _ => rfl) (fun D ρ W hK hC => hC.move (by decide)) ?_
       simp only [Act.put, List.setIfInBounds_toArray, List.set_cons_succ, List.set_cons_zero])
    | (refine' R6.WalkR.det (fun _ => rfl) (fun D ρ W hK hC => ?_) ?_
       rotate_left
       · have hcb := fun i => cell_of_row W w.heap.size i _ _ _ hC.box.1
         have HC := Lib.hid hC
         clear hC hK
         go_simp
         first
           | with_reducible exact ⟨rfl, HC.out.move (by decide)⟩
           | (go_at_call 56; refine (grValidSection_any t.sec W).mono ?_; rintro e W1 ⟨rfl, hB1⟩; rw [H2.out]; exact ⟨_, rfl, rfl, (HC.out.next hB1).move (by decide)⟩)
           | (go_at_call 101; refine (grFromOne_any _ W).mono ?_; rintro e W1 ⟨rfl, hB1⟩; exact ⟨_, rfl, rfl, (HC.out.next hB1).move (by decide)⟩)
       simp only [Act.put, List.setIfInBounds_toArray, List.set_cons_succ, List.set_cons_zero]))
  refine R6.WalkR.nil (fun D ρ W hD hC => ?_)
  have HB := Lib.hid hC.bel
  clear hC hD
  go_wp2
  go_ret
  exact ⟨rfl, HB.out⟩

set_option maxRecDepth 100000 in
set_option maxHeartbeats 4000000 in
theorem grVT_3 (ps : List Pol) (AP : Option Addr) (cp : Nat) (AT : Option Addr) (nt ct : Nat) (t : Ts) (bx : Nat) (B : Nat) (w : World) (hB : B ≤ w.heap.size) (hz : Vals w B AP (ps.flatMap pcl)) (hl : ps.length ≤ 1000000) (hb : w.heap[bx]? = some (.cells #[.slice AP ps.length cp, .slice AT nt ct] 25 (0, 0))) (v : Bool)
    (h1 : hasPol ps t.pole = true)
    (h2 : allB 0 2 [t.sec] = true)
    (h3 : allB 1 1000000 [t.force] = v) :
    Calls Tryz.prog 103 #[.agg (tcl t).toArray, .pointer (some ⟨bx, 0, none⟩)] w fun e w' => e = .returned (.bool v) ∧ Below w.heap.size w w' := by
  obtain ⟨Z, hZ⟩ : ∃ Z : List Value, Z = pcl pol0 := ⟨_, rfl⟩
  have hZl : Z.length = 12 := by rw [hZ]; rfl
  have hlt := lt_of_heap hb
  obtain ⟨w1, hw1⟩ : ∃ w1, w.alloc (.cells (tcl t).toArray 58) = w1 := ⟨_, rfl⟩
  have hs1 : w1.heap.size = w.heap.size + 1 := by rw [← hw1]; simp
  have hb1 : Below w.heap.size w w1 := by rw [← hw1]; exact grow1 _ _
  have hm1 : w1.heap[w.heap.size]? = some (.cells (tcl t).toArray 58 (0, 0)) := by rw [← hw1]; exact alloc_at0 _ _
  have hc1 := fun i => cell_of_row w1 w.heap.size i _ _ _ hm1
  have hcx := fun i => cell_of_row w1 bx i _ _ _ ((hb1.block bx hlt).trans hb)
  have hf := grPoleWith_any t.pole AP cp ps B w1 (Nat.le_trans hB hb1.size) (hz.below (hb1.mono hB)) hl
  rw [h1] at hf
  generalize fndP ps t.pole = x at hf
  have HF := Lib.hid hf
  have H0 := Lib.hid (And.intro hb1 (And.intro hm1 hs1))
  have HZL := Lib.hid (And.intro hZl hZ)
  have H1 := Lib.hid h1
  have H2 := Lib.hid h2
  have H3 := Lib.hid h3
  clear hf hb1 hm1 hs1 hZ hZl hz hb h1 h2 h3
  unfold tcl at hc1 hw1 ⊢
  go_enter Tryz.func103, Tryz.ntmps103
  go_wp2_with (first
    | (go_at_call 91
       refine HF.out.mono ?_
       rintro e w2 ⟨rfl, hB2⟩
       have HB2 := Lib.hid hB2
       clear hB2)
    | (show wpList _ _ _ (Oper.mk none (Op.store _ (Operand.tmp 4) (Operand.tmp 12)) _ _ _ _ :: _) _ _
       have hm2 : (w2.alloc (.cells #[.int .i64 0, .int .i64 0, .int .i64 0, .int .i64 0, .int .i64 0, .int .i64 0, .int .i64 0, .int .i64 0, .int .i64 0, .int .i64 0, .int .i64 0, .int .i64 0] 56)).heap[w2.heap.size]? = some (.cells Z.toArray 56 (0, 0)) := by rw [HZL.out.2]; exact alloc_at0 _ _
       refine wpList_store_blk 56 (.tmp 4) (.tmp 12) rfl rfl rfl rfl rfl hm2 (by rw [HZL.out.1]; exact Nat.le_refl _) (fun v hv => pcl_one [x] v (by simpa using hv)) rowPole ?_
       intro w4 hP4 _
       clear hm2
       have hb4 : Below w1.heap.size w1 w4 := HB2.out.trans (((grow1 w2 _).trans (hP4.below (Nat.le_refl _))).mono HB2.out.size)
       have H4 := Lib.hid (And.intro (H0.out.1.trans (hb4.mono H0.out.1.size)) ((hb4.block _ (lt_of_heap H0.out.2.1)).trans H0.out.2.1))
       clear hP4 hb4))
  clear hc1 hcx hw1
  refine R6.wp_walk (C := BoxM w [(w.heap.size, .cells #[.int .i64 t.id, .int .i64 t.pole, .int .i64 t.sec, .int .i64 t.force, .bool t.held] 58)] [(10, 24)] (grVTN t)) 27 (by kernel_rfl) (by kernel_rfl) rfl (BoxM.start H4.out.1 ⟨H4.out.2, trivial⟩ (fun _ => rfl)) ?_
  simp only []
  repeat (first
    | (refine' R6.WalkR.det (fun _ => rfl) (fun D ρ W hK hC => ?_) ?_
       rotate_left
       · have hcb := fun i => cell_of_row W w.heap.size i _ _ _ hC.box.1
         have HC := Lib.hid hC
         clear hC hK
         go_simp
         first
           | with_reducible exact ⟨rfl, HC.out.move (by decide)⟩
           | (go_at_call 56; refine (grValidSection_any t.sec W).mono ?_; rintro e W1 ⟨rfl, hB1⟩; rw [H2.out]; exact ⟨_, rfl, rfl, (HC.out.next hB1).move (by decide)⟩)
           | (go_at_call 101; refine (grFromOne_any _ W).mono ?_; rintro e W1 ⟨rfl, hB1⟩; exact ⟨_, rfl, rfl, (HC.out.next hB1).move (by decide)⟩)
       simp only [Act.put, List.setIfInBounds_toArray, List.set_cons_succ, List.set_cons_zero]))
  refine' R6.WalkR.nd (fun _ => rfl) rfl (fun D ρ W hK hC => ?_) ?_
  · have hcb := fun i => cell_of_row W w.heap.size i _ _ _ hC.box.1
    have HC := Lib.hid hC
    clear hC hK
    go_simp
    exact HC.out.made (by decide) rfl rfl
  simp only [Act.put, List.setIfInBounds_toArray, List.set_cons_succ, List.set_cons_zero]
  refine' R6.WalkR.det (fun _ => rfl) (fun D ρ W hK hC => ?_) ?_
  rotate_left
  · obtain ⟨b, hv0, hm⟩ := hC.new (10, 24) (by decide) (hK.pre 10 (needs_edgeM (by decide +kernel)))
    have hv : _ = Value.slice (some ⟨b, 0, none⟩) 1 1 := hv0
    clear hv0
    have HC := Lib.hid hC
    have HM := Lib.hid hm
    clear hC hK hm
    go_simp
    go_at_call 93
    refine (grWithin_new 1 1000000 (grVTN t 10) W b _ _ rfl HM.out (Nat.le_of_ble_eq_true rfl)).mono ?_
    rintro e W1 ⟨rfl, hB1⟩
    rw [show allB 1 1000000 (grVTN t 10) = _ from H3.out]
    exact ⟨_, rfl, rfl, (HC.out.next hB1).move (by decide)⟩
  simp only [Act.put, List.setIfInBounds_toArray, List.set_cons_succ, List.set_cons_zero]
  repeat (first
    | (refine' R6.WalkR.det (fun _ => rfl) (fun D ρ W hK hC => ?_) ?_
       rotate_left
       · have hcb := fun i => cell_of_row W w.heap.size i _ _ _ hC.box.1
         have HC := Lib.hid hC
         clear hC hK
         go_simp
         first
           | with_reducible exact ⟨rfl, HC.out.move (by decide)⟩
           | (go_at_call 56; refine (grValidSection_any t.sec W).mono ?_; rintro e W1 ⟨rfl, hB1⟩; rw [H2.out]; exact ⟨_, rfl, rfl, (HC.out.next hB1).move (by decide)⟩)
           | (go_at_call 101; refine (grFromOne_any _ W).mono ?_; rintro e W1 ⟨rfl, hB1⟩; exact ⟨_, rfl, rfl, (HC.out.next hB1).move (by decide)⟩)
       simp only [Act.put, List.setIfInBounds_toArray, List.set_cons_succ, List.set_cons_zero]))
  refine R6.WalkR.nil (fun D ρ W hD hC => ?_)
  have HB := Lib.hid hC.bel
  clear hC hD
  go_wp2
  go_ret
  exact ⟨rfl, HB.out⟩

theorem grValidTest_any (ps : List Pol) (AP : Option Addr) (cp : Nat) (AT : Option Addr) (nt ct : Nat) (t : Ts) (bx : Nat) (B : Nat) (w : World) (hB : B ≤ w.heap.size) (hz : Vals w B AP (ps.flatMap pcl)) (hl : ps.length ≤ 1000000)
    (hb : w.heap[bx]? = some (.cells #[.slice AP ps.length cp, .slice AT nt ct] 25 (0, 0))) :
    Calls Tryz.prog 103 #[.agg (tcl t).toArray, .pointer (some ⟨bx, 0, none⟩)] w fun e w' => e = .returned (.bool (okTs ps t)) ∧ Below w.heap.size w w' := by
  rw [okTs_allB]
  cases h1 : hasPol ps t.pole with
  | false => rw [Bool.false_and]; exact grVT_1 ps AP cp AT nt ct t bx B w hB hz hl hb h1
  | true =>
  rw [Bool.true_and]
  cases h2 : allB 0 2 [t.sec] with
  | false => rw [Bool.false_and]; exact grVT_2 ps AP cp AT nt ct t bx B w hB hz hl hb h1 h2
  | true =>
  rw [Bool.true_and]
  exact grVT_3 ps AP cp AT nt ct t bx B w hB hz hl hb _ h1 h2 rfl

structure ShAt (w : World) (B : Nat) (ps : List Pol) (ts : List Ts) (AP : Option Addr) (AT : Option Addr) : Prop where
  p : Vals w B AP (ps.flatMap pcl)
  t : Vals w B AT (ts.flatMap tcl)
  lp : ps.length ≤ 1000000
  lt : ts.length ≤ 1000000
theorem ShAt.below {w w' : World} {B : Nat} {ps : List Pol} {ts : List Ts} {AP AT : Option Addr} (h : ShAt w B ps ts AP AT) (hb : Below B w w') : ShAt w' B ps ts AP AT := ⟨h.p.below hb, h.t.below hb, h.lp, h.lt⟩
theorem ShAt.mono {w : World} {B B' : Nat} {ps : List Pol} {ts : List Ts} {AP AT : Option Addr} (h : ShAt w B ps ts AP AT) (hb : B ≤ B') : ShAt w B' ps ts AP AT := ⟨h.p.mono hb, h.t.mono hb, h.lp, h.lt⟩

set_option maxRecDepth 100000 in
set_option maxHeartbeats 4000000 in
theorem grValidSheet_any (ps : List Pol) (ts : List Ts) (AP : Option Addr) (cp : Nat) (AT : Option Addr) (ct : Nat) (B : Nat) (w : World) (hB : B ≤ w.heap.size) (hz : ShAt w B ps ts AP AT) :
    Calls Tryz.prog 61 #[.agg #[.slice AP ps.length cp, .slice AT ts.length ct]] w fun e w' => e = .returned (.bool (okSheet ps ts)) ∧ Below w.heap.size w w' := by
  obtain ⟨w1, hw1⟩ : ∃ w1, w.alloc (.cells #[.slice AP ps.length cp, .slice AT ts.length ct] 25) = w1 := ⟨_, rfl⟩
  have hb1 : Below w.heap.size w w1 := by rw [← hw1]; exact grow1 _ _
  have hm1 : w1.heap[w.heap.size]? = some (.cells #[.slice AP ps.length cp, .slice AT ts.length ct] 25 (0, 0)) := by rw [← hw1]; exact alloc_at0 _ _
  have hc1 := fun i => cell_of_row w1 w.heap.size i _ _ _ hm1
  have h1 := grByP_any okPol 12 AP cp ps B w1 (Nat.le_trans hB hb1.size) (hz.p.below (hb1.mono hB)) hz.lp (fun y W _ _ => grValidPole_any y W)
  have h2 := fun (W : World) (hW : Below w1.heap.size w1 W) => grByT_any (okTs ps) 20 w.heap.size AT ct ts B W (Nat.le_trans (Nat.le_trans hB hb1.size) hW.size) ((hz.t.below (hb1.mono hB)).below (hW.mono (Nat.le_trans hB hb1.size))) hz.lt (fun y W' _ h' => by
    have hw' := hW.trans (h'.mono hW.size)
    exact grValidTest_any ps AP cp AT ts.length ct y w.heap.size B W' (Nat.le_trans (Nat.le_trans hB hb1.size) hw'.size) ((hz.p.below (hb1.mono hB)).below (hw'.mono (Nat.le_trans hB hb1.size))) hz.lp ((hw'.block _ (lt_of_heap hm1)).trans hm1))
  have e1 : (decide ((ps.length : Int) ≤ 12) && byIdL Pol.id okPol ps 0) = okPols ps := by
    unfold okPols; congr 1; rw [Bool.eq_iff_iff]; simp; omega
  have e2 : (decide ((ts.length : Int) ≤ 20) && byIdL Ts.id (okTs ps) ts 0) = okTsL ps ts := by
    unfold okTsL; congr 1; rw [Bool.eq_iff_iff]; simp; omega
  rw [e1] at h1
  rw [e2] at h2
  have hbk := fun (W : World) (hW : Below w1.heap.size w1 W) i => (hW.cell (p := ⟨w.heap.size, i, none⟩) (lt_of_heap hm1)).trans (hc1 i)
  have H2 := Lib.hid h2
  have HK := Lib.hid (And.intro hbk hb1)
  unfold okSheet
  generalize okTsL ps ts = v at H2 ⊢
  clear h2 hbk hm1 hz e1 e2 hb1
  cases hp : okPols ps
  all_goals
    rw [hp] at h1
    have H1 := Lib.hid h1
    clear hp h1
  · rw [Bool.false_and]
    go_enter Tryz.func61, Tryz.ntmps61
    go_wp2_with (go_at_call 104; refine H1.out.mono ?_; rintro e w2 ⟨rfl, hB2⟩; have HB2 := Lib.hid hB2; clear hB2)
    go_ret
    exact ⟨rfl, HK.out.2.trans (HB2.out.mono HK.out.2.size)⟩
  · rw [Bool.true_and]
    go_enter Tryz.func61, Tryz.ntmps61
    go_wp2_with (first
      | (go_at_call 107; refine (H2.out w2 HB2.out).mono ?_; rintro e w3 ⟨rfl, hB3⟩; have HB3 := Lib.hid (HB2.out.trans (hB3.mono HB2.out.size)); clear hB3)
      | (go_at_call 104; refine H1.out.mono ?_; rintro e w2 ⟨rfl, hB2⟩; have HB2 := Lib.hid hB2; have hc2 := HK.out.1 w2 hB2; clear hB2))
    go_ret
    exact ⟨rfl, HK.out.2.trans (HB3.out.mono HK.out.2.size)⟩

structure GdAt (w : World) (B : Nat) (gs : List Gd) (AG : Option Addr) : Prop where
  g : Vals w B AG (gs.flatMap gcl)
  lg : gs.length ≤ 1000000
theorem GdAt.below {w w' : World} {B : Nat} {gs : List Gd} {AG : Option Addr} (h : GdAt w B gs AG) (hb : Below B w w') : GdAt w' B gs AG := ⟨h.g.below hb, h.lg⟩
theorem GdAt.mono {w : World} {B B' : Nat} {gs : List Gd} {AG : Option Addr} (h : GdAt w B gs AG) (hb : B ≤ B') : GdAt w B' gs AG := ⟨h.g.mono hb, h.lg⟩
def shl (ps : List Pol) (ts : List Ts) (AP : Option Addr) (cp : Nat) (AT : Option Addr) (ct : Nat) : List Value := [.slice AP ps.length cp, .slice AT ts.length ct]
def gdl (gs : List Gd) (vary : Int) (AG : Option Addr) (cg : Nat) : List Value := [.slice AG gs.length cg, .int .i64 vary]

set_option maxRecDepth 100000 in
set_option maxHeartbeats 4000000 in
theorem grCheck_any (ps : List Pol) (ts : List Ts) (gs : List Gd) (vary : Int) (AP : Option Addr) (cp : Nat) (AT : Option Addr) (ct : Nat) (AG : Option Addr) (cg : Nat) (B : Nat) (w : World) (hB : B ≤ w.heap.size) (hz : ShAt w B ps ts AP AT) (hg : GdAt w B gs AG) :
    Calls Tryz.prog 28 #[.agg (shl ps ts AP cp AT ct).toArray, .agg (gdl gs vary AG cg).toArray] w fun e w' => e = .returned (.int .i64 (gChk gs vary ps ts)) ∧ Below w.heap.size w w' := by
  unfold shl gdl gChk
  have h1 := fun (W : World) (hW : Below w.heap.size w W) => grValidGrading_any gs vary AG cg B W (Nat.le_trans hB hW.size) (hg.g.below (hW.mono hB)) hg.lg
  have h2 := fun (W : World) (hW : Below w.heap.size w W) => grValidSheet_any ps ts AP cp AT ct B W (Nat.le_trans hB hW.size) (hz.below (hW.mono hB))
  obtain ⟨w1, hw1⟩ : ∃ w1, (w.alloc (.cells #[.slice AP ps.length cp, .slice AT ts.length ct] 25)).alloc (.cells #[.slice AG gs.length cg, .int .i64 vary] 28) = w1 := ⟨_, rfl⟩
  have hb1 : Below w.heap.size w w1 := by rw [← hw1]; exact grow2 _ _ _
  have hm1 : w1.heap[w.heap.size]? = some (.cells #[.slice AP ps.length cp, .slice AT ts.length ct] 25 (0, 0)) := by rw [← hw1]; exact alloc2_at0 _ _ _
  have hm2 : w1.heap[w.heap.size + 1]? = some (.cells #[.slice AG gs.length cg, .int .i64 vary] 28 (0, 0)) := by rw [← hw1]; exact alloc2_at1 _ _ _
  have hc1 := fun i => cell_of_row w1 w.heap.size i _ _ _ hm1
  have hc2 := fun i => cell_of_row w1 (w.heap.size + 1) i _ _ _ hm2
  have hbk := fun (W : World) (hW : Below w1.heap.size w1 W) i => (hW.cell (p := ⟨w.heap.size, i, none⟩) (lt_of_heap hm1)).trans (hc1 i)
  have HK := Lib.hid (And.intro hbk hb1)
  clear hbk hb1 hm1 hm2 hz hg
  cases ha : okGrading gs vary
  · rw [if_neg (by simp)]
    rw [ha] at h1
    have H1 := Lib.hid h1
    clear h1 h2 ha
    go_enter Tryz.func28, Tryz.ntmps28
    go_wp2_with (go_at_call 60; refine (H1.out w1 HK.out.2).mono ?_; rintro e w2 ⟨rfl, hB2⟩; have HB2 := Lib.hid hB2; clear hB2)
    go_ret
    exact ⟨rfl, HK.out.2.trans (HB2.out.mono HK.out.2.size)⟩
  · rw [if_pos rfl]
    rw [ha] at h1
    have H1 := Lib.hid h1
    clear h1 ha
    cases hb : okSheet ps ts
    all_goals
      rw [hb] at h2
      have H2 := Lib.hid h2
      clear h2 hb
      go_enter Tryz.func28, Tryz.ntmps28
      go_wp2_with (first
        | (go_at_call 61; refine (H2.out w2 (HK.out.2.trans (HB2.out.mono HK.out.2.size))).mono ?_; rintro e w3 ⟨rfl, hB3⟩; have HB3 := Lib.hid (HB2.out.trans (hB3.mono HB2.out.size)); clear hB3)
        | (go_at_call 60; refine (H1.out w1 HK.out.2).mono ?_; rintro e w2 ⟨rfl, hB2⟩; have HB2 := Lib.hid hB2; have hc3 := HK.out.1 w2 hB2; clear hB2))
      go_ret
      exact ⟨rfl, HK.out.2.trans (HB3.out.mono HK.out.2.size)⟩

end Go.Proofs.YtpnnlmaipcjkmaaGreat

namespace Go.Proofs.YtpnnlmaipcjkmaaGreat
open Go.RowKit
open R6 (done done_ne done_me upd_ne upd_me)

attribute [local go_sem] gives

def yrs (p : Pol) : Prop := (0 ≤ p.shot ∧ p.shot ≤ 3000) ∧ (0 ≤ p.cut ∧ p.cut ≤ 3000)
theorem okPol_yrs {p : Pol} (h : okPol p = true) : yrs p := by
  simp only [okPol, Bool.and_eq_true, inR_iff, decide_eq_true_eq] at h
  obtain ⟨_, ⟨h1, h2⟩, _⟩ := h
  exact ⟨h1, h2⟩
end Go.Proofs.YtpnnlmaipcjkmaaGreat

namespace Go.Proofs.YtpnnlmaipcjkmaaGreat
open Go.RowKit
open R6 (done done_ne done_me upd_ne upd_me)

attribute [local go_sem] gives

def st6 (f : Nat → Int × Int) : List Value := sp2 (f 0) ++ (sp2 (f 1) ++ sp2 (f 2))
structure BothC (w0 : World) (b2 b3 : Nat) (X Y : List Value) (K : List (Nat × Obj)) (ko ks kt : Nat) (z : Int × Int) (D : Nat → Bool) (σ : Nat → Value) (W : World) : Prop where
  bel : Below w0.heap.size w0 W
  hX : D ks = false → W.heap[b2]? = some (.cells X.toArray 128 (0, 0))
  hY : D ks = true → W.heap[b2]? = some (.cells Y.toArray 128 (0, 0))
  lt : b2 < W.heap.size
  box : keptK K W
  new : D ko = true → ∃ b, b ≠ b2 ∧ σ kt = .slice (some ⟨b, 0, none⟩) 1 1 ∧ W.heap[b]? = some (.cells (sp2 z).toArray 50 (0, 0))
section
variable {w0 W W' : World} {b2 b3 : Nat} {X Y : List Value} {K : List (Nat × Obj)} {ko ks kt : Nat} {z : Int × Int} {D : Nat → Bool} {σ : Nat → Value}
theorem BothC.next (h : BothC w0 b2 b3 X Y K ko ks kt z D σ W) (hg : Grows W W') : BothC w0 b2 b3 X Y K ko ks kt z D σ W' :=
  ⟨h.bel.trans (hg.mono h.bel.size), fun e => (hg.block _ h.lt).trans (h.hX e), fun e => (hg.block _ h.lt).trans (h.hY e), Nat.lt_of_lt_of_le h.lt hg.size, h.box.next hg, fun e => let ⟨b, h0, h1, h2⟩ := h.new e; ⟨b, h0, h1, (hg.block _ (lt_of_heap h2)).trans h2⟩⟩
theorem BothC.made {cs : Array Value} (h : BothC w0 b2 b3 X Y K ko ks kt z D σ W) (hne : (ko == ks) = false) (hc : cs = (sp2 z).toArray) :
    BothC w0 b2 b3 X Y K ko ks kt z (done D ko) (R4.upd σ (some kt) (.slice (some ⟨W.heap.size, 0, none⟩) 1 1)) (W.alloc (.cells cs 50)) := by
  subst hc
  have h' := h.next (grow1 W (.cells (sp2 z).toArray 50))
  have e2 := done_ne (D := D) (k := ko) (j := ks) (by simp at hne; omega)
  exact ⟨h'.bel, by rw [e2]; exact h'.hX, by rw [e2]; exact h'.hY, h'.lt, h'.box, fun _ => ⟨_, by have := h.lt; omega, upd_me, alloc_at0 _ _⟩⟩
end

end Go.Proofs.YtpnnlmaipcjkmaaGreat
