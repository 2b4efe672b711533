/-
  Areas; spans that are cut; stresses as three spans: cut, wider, empty.
-/
import Derived.Test.YtpnnlmaipcjkmaaGreatQV5
import Derived.Test.YtpnnlmaipcjkmaaGreatQV6
import Derived.Lib.MinMax
set_option linter.all false
namespace Go.Proofs.YtpnnlmaipcjkmaaGreat
open Go.RowKit
open R6 (done done_ne done_me upd_ne upd_me)

attribute [local go_sem] gives

def grVTN (t : Ts) : Nat → List Int := fun k => if k = 10 then [t.force] else []
theorem okTs_allB (ps : List Pol) (t : Ts) : okTs ps t = (hasPol ps t.pole && (allB 0 2 [t.sec] && allB 1 1000000 [t.force])) := by simp [okTs, allB]

set_option maxRecDepth 100000 in
set_option maxHeartbeats 4000000 in
theorem grVT_1 (ps : List Pol) (AP : Option Addr) (cp : Nat) (AT : Option Addr) (nt ct : Nat) (t : Ts) (bx : Nat) (B : Nat) (w : World) (hB : B ≤ w.heap.size) (hz : Vals w B AP (ps.flatMap pcl)) (hl : ps.length ≤ 1000000) (hb : w.heap[bx]? = some (.cells #[.slice AP ps.length cp, .slice AT nt ct] 25 (0, 0)))
    (h1 : hasPol ps t.pole = false) :
    Calls Tryz.prog 103 #[.agg (tcl t).toArray, .pointer (some ⟨bx, 0, none⟩)] w fun e w' => e = .returned (.bool false) ∧ Below w.heap.size w w' := by
  obtain ⟨Z, hZ⟩ : ∃ Z : List Value, Z = pcl pol0 := ⟨_, rfl⟩
  have hZl : Z.length = 12 := by rw [hZ]; rfl
  have hlt := lt_of_heap hb
  obtain ⟨w1, hw1⟩ : ∃ w1, w.alloc (.cells (tcl t).toArray 58) = w1 := ⟨_, rfl⟩
  have hs1 : w1.heap.size = w.heap.size + 1 := by rw [← hw1]; simp
  have hb1 : Below w.heap.size w w1 := by rw [← hw1]; exact grow1 _ _
  have hm1 : w1.heap[w.heap.size]? = some (.cells (tcl t).toArray 58 (0, 0)) := by rw [← hw1]; exact alloc_at0 _ _
  have hc1 := fun i => cell_of_row w1 w.heap.size i _ _ _ hm1
  have hcx := fun i => cell_of_row w1 bx i _ _ _ ((hb1.block bx hlt).trans hb)
  have hf := grPoleWith_any t.pole AP cp ps B w1 (Nat.le_trans hB hb1.size) (hz.below (hb1.mono hB)) hl
  rw [h1] at hf
  generalize fndP ps t.pole = x at hf
  have HF := Lib.hid hf
  have H0 := Lib.hid (And.intro hb1 (And.intro hm1 hs1))
  have HZL := Lib.hid (And.intro hZl hZ)
  have H1 := Lib.hid h1
  clear hf hb1 hm1 hs1 hZ hZl hz hb h1
  unfold tcl at hc1 hw1 ⊢
  go_enter Tryz.func103, Tryz.ntmps103
  go_wp2_with (first
    | (go_at_call 91
       refine HF.out.mono ?_
       rintro e w2 ⟨rfl, hB2⟩
       have HB2 := Lib.hid hB2
       clear hB2)
    | (show wpList _ _ _ (Oper.mk none (Op.store _ (Operand.tmp 4) (Operand.tmp 12)) _ _ _ _ :: _) _ _
       have hm2 : (w2.alloc (.cells #[.int .i64 0, .int .i64 0, .int .i64 0, .int .i64 0, .int .i64 0, .int .i64 0, .int .i64 0, .int .i64 0, .int .i64 0, .int .i64 0, .int .i64 0, .int .i64 0] 56)).heap[w2.heap.size]? = some (.cells Z.toArray 56 (0, 0)) := by rw [HZL.out.2]; exact alloc_at0 _ _
       refine wpList_store_blk 56 (.tmp 4) (.tmp 12) rfl rfl rfl rfl rfl hm2 (by rw [HZL.out.1]; exact Nat.le_refl _) (fun v hv => pcl_one [x] v (by simpa using hv)) rowPole ?_
       intro w4 hP4 _
       clear hm2
       have hb4 : Below w1.heap.size w1 w4 := HB2.out.trans (((grow1 w2 _).trans (hP4.below (Nat.le_refl _))).mono HB2.out.size)
       have H4 := Lib.hid (And.intro (H0.out.1.trans (hb4.mono H0.out.1.size)) ((hb4.block _ (lt_of_heap H0.out.2.1)).trans H0.out.2.1))
       clear hP4 hb4))
  clear hc1 hcx hw1
  refine R6.wp_walk (C := BoxM w [(w.heap.size, .cells #[.int .i64 t.id, .int .i64 t.pole, .int .i64 t.sec, .int .i64 t.force, .bool t.held] 58)] [] (grVTN t)) 27 (by kernel_rfl) (by kernel_rfl) rfl (BoxM.start H4.out.1 ⟨H4.out.2, trivial⟩ (fun _ => rfl)) ?_
  simp only []
  repeat (first
    | (refine R6.WalkR.un (fun _ => rfl) (fun D ρ W hK hC => hC.move (by decide)) ?_
       simp only [Act.put, List.setIfInBounds_toArray, List.set_cons_succ, List.set_cons_zero])
    | (refine' R6.WalkR.det (fun _ => rfl) (fun D ρ W hK hC => ?_) ?_
       rotate_left
       · have hcb := fun i => cell_of_row W w.heap.size i _ _ _ hC.box.1
         have HC := Lib.hid hC
         clear hC hK
         go_simp
         first
           | with_reducible exact ⟨rfl, HC.out.move (by decide)⟩
           | (go_at_call 56; refine (grValidSection_any t.sec W).mono ?_; rintro e W1 ⟨rfl, hB1⟩; rw [H2.out]; exact ⟨_, rfl, rfl, (HC.out.next hB1).move (by decide)⟩)
           | (go_at_call 101; refine (grFromOne_any _ W).mono ?_; rintro e W1 ⟨rfl, hB1⟩; exact ⟨_, rfl, rfl, (HC.out.next hB1).move (by decide)⟩)
       simp only [Act.put, List.setIfInBounds_toArray, List.set_cons_succ, List.set_cons_zero]))
  refine R6.WalkR.nil (fun D ρ W hD hC => ?_)
  have HB := Lib.hid hC.bel
  clear hC hD
  go_wp2
  go_ret
  exact ⟨rfl, HB.out⟩

set_option maxRecDepth 100000 in
set_option maxHeartbeats 4000000 in
theorem grVT_2 (ps : List Pol) (AP : Option Addr) (cp : Nat) (AT : Option Addr) (nt ct : Nat) (t : Ts) (bx : Nat) (B : Nat) (w : World) (hB : B ≤ w.heap.size) (hz : Vals w B AP (ps.flatMap pcl)) (hl : ps.length ≤ 1000000) (hb : w.heap[bx]? = some (.cells #[.slice AP ps.length cp, .slice AT nt ct] 25 (0, 0)))
    (h1 : hasPol ps t.pole = true)
    (h2 : allB 0 2 [t.sec] = false) :
    Calls Tryz.prog 103 #[.agg (tcl t).toArray, .pointer (some ⟨bx, 0, none⟩)] w fun e w' => e = .returned (.bool false) ∧ Below w.heap.size w w' := by
  obtain ⟨Z, hZ⟩ : ∃ Z : List Value, Z = pcl pol0 := ⟨_, rfl⟩
  have hZl : Z.length = 12 := by rw [hZ]; rfl
  have hlt := lt_of_heap hb
  obtain ⟨w1, hw1⟩ : ∃ w1, w.alloc (.cells (tcl t).toArray 58) = w1 := ⟨_, rfl⟩
  have hs1 : w1.heap.size = w.heap.size + 1 := by rw [← hw1]; simp
  have hb1 : Below w.heap.size w w1 := by rw [← hw1]; exact grow1 _ _
  have hm1 : w1.heap[w.heap.size]? = some (.cells (tcl t).toArray 58 (0, 0)) := by rw [← hw1]; exact alloc_at0 _ _
  have hc1 := fun i => cell_of_row w1 w.heap.size i _ _ _ hm1
  have hcx := fun i => cell_of_row w1 bx i _ _ _ ((hb1.block bx hlt).trans hb)
  have hf := grPoleWith_any t.pole AP cp ps B w1 (Nat.le_trans hB hb1.size) (hz.below (hb1.mono hB)) hl
  rw [h1] at hf
  generalize fndP ps t.pole = x at hf
  have HF := Lib.hid hf
  have H0 := Lib.hid (And.intro hb1 (And.intro hm1 hs1))
  have HZL := Lib.hid (And.intro hZl hZ)
  have H1 := Lib.hid h1
  have H2 := Lib.hid h2
  clear hf hb1 hm1 hs1 hZ hZl hz hb h1 h2
  unfold tcl at hc1 hw1 ⊢
  go_enter Tryz.func103, Tryz.ntmps103
  go_wp2_with (first
    | (go_at_call 91
       refine HF.out.mono ?_
       rintro e w2 ⟨rfl, hB2⟩
       have HB2 := Lib.hid hB2
       clear hB2)
    | (show wpList _ _ _ (Oper.mk none (Op.store _ (Operand.tmp 4) (Operand.tmp 12)) _ _ _ _ :: _) _ _
       have hm2 : (w2.alloc (.cells #[.int .i64 0, .int .i64 0, .int .i64 0, .int .i64 0, .int .i64 0, .int .i64 0, .int .i64 0, .int .i64 0, .int .i64 0, .int .i64 0, .int .i64 0, .int .i64 0] 56)).heap[w2.heap.size]? = some (.cells Z.toArray 56 (0, 0)) := by rw [HZL.out.2]; exact alloc_at0 _ _
       refine wpList_store_blk 56 (.tmp 4) (.tmp 12) rfl rfl rfl rfl rfl hm2 (by rw [HZL.out.1]; exact Nat.le_refl _) (fun v hv => pcl_one [x] v (by simpa using hv)) rowPole ?_
       intro w4 hP4 _
       clear hm2
       have hb4 : Below w1.heap.size w1 w4 := HB2.out.trans (((grow1 w2 _).trans (hP4.below (Nat.le_refl _))).mono HB2.out.size)
       have H4 := Lib.hid (And.intro (H0.out.1.trans (hb4.mono H0.out.1.size)) ((hb4.block _ (lt_of_heap H0.out.2.1)).trans H0.out.2.1))
       clear hP4 hb4))
  clear hc1 hcx hw1
  refine R6.wp_walk (C := BoxM w [(w.heap.size, .cells #[.int .i64 t.id, .int .i64 t.pole, .int .i64 t.sec, .int .i64 t.force, .bool t.held] 58)] [] (grVTN t)) 27 (by kernel_rfl) (by kernel_rfl) rfl (BoxM.start H4.out.1 ⟨H4.out.2, trivial⟩ (fun _ => rfl)) ?_
  simp only []
  repeat (first
    | (refine R6.WalkR.un (fun _ => rfl) (fun D ρ W hK hC => hC.move (by decide)) ?_
       simp only [Act.put, List.setIfInBounds_toArray, List.set_cons_succ, List.set_cons_zero])
    | (refine' R6.WalkR.det (fun _ => rfl) (fun D ρ W hK hC => ?_) ?_
       rotate_left
       · have hcb := fun i => cell_of_row W w.heap.size i _ _ _ hC.box.1
         have HC := Lib.hid hC
         clear hC hK
         go_simp
         first
           | with_reducible exact ⟨rfl, HC.out.move (by decide)⟩
           | (go_at_call 56; refine (grValidSection_any t.sec W).mono ?_; rintro e W1 ⟨rfl, hB1⟩; rw [H2.out]; exact ⟨_, rfl, rfl, (HC.out.next hB1).move (by decide)⟩)
           | (go_at_call 101; refine (grFromOne_any _ W).mono ?_; rintro e W1 ⟨rfl, hB1⟩; exact ⟨_, rfl, rfl, (HC.out.next hB1).move (by decide)⟩)
       simp only [Act.put, List.setIfInBounds_toArray, List.set_cons_succ, List.set_cons_zero]))
  refine R6.WalkR.nil (fun D ρ W hD hC => ?_)
  have HB := Lib.hid hC.bel
  clear hC hD
  go_wp2
  go_ret
  exact ⟨rfl, HB.out⟩

set_option maxRecDepth 100000 in
set_option maxHeartbeats 4000000 in
theorem grVT_3 (ps : List Pol) (AP : Option Addr) (cp : Nat) (AT : Option Addr) (nt ct : Nat) (t : Ts) (bx : Nat) (B : Nat) (w : World) (hB : B ≤ w.heap.size) (hz : Vals w B AP (ps.flatMap pcl)) (hl : ps.length ≤ 1000000) (hb : w.heap[bx]? = some (.cells #[.slice AP ps.length cp, .slice AT nt ct] 25 (0, 0))) (v : Bool)
    (h1 : hasPol ps t.pole = true)
    (h2 : allB 0 2 [t.sec] = true)
    (h3 : allB 1 1000000 [t.force] = v) :
    Calls Tryz.prog 103 #[.agg (tcl t).toArray, .pointer (some ⟨bx, 0, none⟩)] w fun e w' => e = .returned (.bool v) ∧ Below w.heap.size w w' := by
  obtain ⟨Z, hZ⟩ : ∃ Z : List Value, Z = pcl pol0 := ⟨_, rfl⟩
  have hZl : Z.length = 12 := by rw [hZ]; rfl
  have hlt := lt_of_heap hb
  obtain ⟨w1, hw1⟩ : ∃ w1, w.alloc (.cells (tcl t).toArray 58) = w1 := ⟨_, rfl⟩
  have hs1 : w1.heap.size = w.heap.size + 1 := by rw [← hw1]; simp
  have hb1 : Below w.heap.size w w1 := by rw [← hw1]; exact grow1 _ _
  have hm1 : w1.heap[w.heap.size]? = some (.cells (tcl t).toArray 58 (0, 0)) := by rw [← hw1]; exact alloc_at0 _ _
  have hc1 := fun i => cell_of_row w1 w.heap.size i _ _ _ hm1
  have hcx := fun i => cell_of_row w1 bx i _ _ _ ((hb1.block bx hlt).trans hb)
  have hf := grPoleWith_any t.pole AP cp ps B w1 (Nat.le_trans hB hb1.size) (hz.below (hb1.mono hB)) hl
  rw [h1] at hf
  generalize fndP ps t.pole = x at hf
  have HF := Lib.hid hf
  have H0 := Lib.hid (And.intro hb1 (And.intro hm1 hs1))
  have HZL := Lib.hid (And.intro hZl hZ)
  have H1 := Lib.hid h1
  have H2 := Lib.hid h2
  have H3 := Lib.hid h3
  clear hf hb1 hm1 hs1 hZ hZl hz hb h1 h2 h3
  unfold tcl at hc1 hw1 ⊢
  go_enter Tryz.func103, Tryz.ntmps103
  go_wp2_with (first
    | (go_at_call 91
       refine HF.out.mono ?_
       rintro e w2 ⟨rfl, hB2⟩
       have HB2 := Lib.hid hB2
       clear hB2)
    | (show wpList _ _ _ (Oper.mk none (Op.store _ (Operand.tmp 4) (Operand.tmp 12)) _ _ _ _ :: _) _ _
       have hm2 : (w2.alloc (.cells #[.int .i64 0, .int .i64 0, .int .i64 0, .int .i64 0, .int .i64 0, .int .i64 0, .int .i64 0, .int .i64 0, .int .i64 0, .int .i64 0, .int .i64 0, .int .i64 0] 56)).heap[w2.heap.size]? = some (.cells Z.toArray 56 (0, 0)) := by rw [HZL.out.2]; exact alloc_at0 _ _
       refine wpList_store_blk 56 (.tmp 4) (.tmp 12) rfl rfl rfl rfl rfl hm2 (by rw [HZL.out.1]; exact Nat.le_refl _) (fun v hv => pcl_one [x] v (by simpa using hv)) rowPole ?_
       intro w4 hP4 _
       clear hm2
       have hb4 : Below w1.heap.size w1 w4 := HB2.out.trans (((grow1 w2 _).trans (hP4.below (Nat.le_refl _))).mono HB2.out.size)
       have H4 := Lib.hid (And.intro (H0.out.1.trans (hb4.mono H0.out.1.size)) ((hb4.block _ (lt_of_heap H0.out.2.1)).trans H0.out.2.1))
       clear hP4 hb4))
  clear hc1 hcx hw1
  refine R6.wp_walk (C := BoxM w [(w.heap.size, .cells #[.int .i64 t.id, .int .i64 t.pole, .int .i64 t.sec, .int .i64 t.force, .bool t.held] 58)] [(10, 24)] (grVTN t)) 27 (by kernel_rfl) (by kernel_rfl) rfl (BoxM.start H4.out.1 ⟨H4.out.2, trivial⟩ (fun _ => rfl)) ?_
  simp only []
  repeat (first
    | (refine' R6.WalkR.det (fun _ => rfl) (fun D ρ W hK hC => ?_) ?_
       rotate_left
       · have hcb := fun i => cell_of_row W w.heap.size i _ _ _ hC.box.1
         have HC := Lib.hid hC
         clear hC hK
         go_simp
         first
           | with_reducible exact ⟨rfl, HC.out.move (by decide)⟩
           | (go_at_call 56; refine (grValidSection_any t.sec W).mono ?_; rintro e W1 ⟨rfl, hB1⟩; rw [H2.out]; exact ⟨_, rfl, rfl, (HC.out.next hB1).move (by decide)⟩)
           | (go_at_call 101; refine (grFromOne_any _ W).mono ?_; rintro e W1 ⟨rfl, hB1⟩; exact ⟨_, rfl, rfl, (HC.out.next hB1).move (by decide)⟩)
       simp only [Act.put, List.setIfInBounds_toArray, List.set_cons_succ, List.set_cons_zero]))
  refine' R6.WalkR.nd (fun _ => rfl) rfl (fun D ρ W hK hC => ?_) ?_
  · have hcb := fun i => cell_of_row W w.heap.size i _ _ _ hC.box.1
    have HC := Lib.hid hC
    clear hC hK
    go_simp
    exact HC.out.made (by decide) rfl rfl
  simp only [Act.put, List.setIfInBounds_toArray, List.set_cons_succ, List.set_cons_zero]
  refine' R6.WalkR.det (fun _ => rfl) (fun D ρ W hK hC => ?_) ?_
  rotate_left
  · obtain ⟨b, hv0, hm⟩ := hC.new (10, 24) (by decide) (hK.pre 10 (needs_edgeM (by decide +kernel)))
    have hv : _ = Value.slice (some ⟨b, 0, none⟩) 1 1 := hv0
    clear hv0
    have HC := Lib.hid hC
    have HM := Lib.hid hm
    clear hC hK hm
    go_simp
    go_at_call 93
    refine (grWithin_new 1 1000000 (grVTN t 10) W b _ _ rfl HM.out (Nat.le_of_ble_eq_true rfl)).mono ?_
    rintro e W1 ⟨rfl, hB1⟩
    rw [show allB 1 1000000 (grVTN t 10) = _ from H3.out]
    exact ⟨_, rfl, rfl, (HC.out.next hB1).move (by decide)⟩
  simp only [Act.put, List.setIfInBounds_toArray, List.set_cons_succ, List.set_cons_zero]
  repeat (first
    | (refine' R6.WalkR.det (fun _ => rfl) (fun D ρ W hK hC => ?_) ?_
       rotate_left
       · have hcb := fun i => cell_of_row W w.heap.size i _ _ _ hC.box.1
         have HC := Lib.hid hC
         clear hC hK
         go_simp
         first
           | with_reducible exact ⟨rfl, HC.out.move (by decide)⟩
           | (go_at_call 56; refine (grValidSection_any t.sec W).mono ?_; rintro e W1 ⟨rfl, hB1⟩; rw [H2.out]; exact ⟨_, rfl, rfl, (HC.out.next hB1).move (by decide)⟩)
           | (go_at_call 101; refine (grFromOne_any _ W).mono ?_; rintro e W1 ⟨rfl, hB1⟩; exact ⟨_, rfl, rfl, (HC.out.next hB1).move (by decide)⟩)
       simp only [Act.put, List.setIfInBounds_toArray, List.set_cons_succ, List.set_cons_zero]))
  refine R6.WalkR.nil (fun D ρ W hD hC => ?_)
  have HB := Lib.hid hC.bel
  clear hC hD
  go_wp2
  go_ret
  exact ⟨rfl, HB.out⟩

theorem grValidTest_any (ps : List Pol) (AP : Option Addr) (cp : Nat) (AT : Option Addr) (nt ct : Nat) (t : Ts) (bx : Nat) (B : Nat) (w : World) (hB : B ≤ w.heap.size) (hz : Vals w B AP (ps.flatMap pcl)) (hl : ps.length ≤ 1000000)
    (hb : w.heap[bx]? = some (.cells #[.slice AP ps.length cp, .slice AT nt ct] 25 (0, 0))) :
    Calls Tryz.prog 103 #[.agg (tcl t).toArray, .pointer (some ⟨bx, 0, none⟩)] w fun e w' => e = .returned (.bool (okTs ps t)) ∧ Below w.heap.size w w' := by
  rw [okTs_allB]
  cases h1 : hasPol ps t.pole with
  | false => rw [Bool.false_and]; exact grVT_1 ps AP cp AT nt ct t bx B w hB hz hl hb h1
  | true =>
  rw [Bool.true_and]
  cases h2 : allB 0 2 [t.sec] with
  | false => rw [Bool.false_and]; exact grVT_2 ps AP cp AT nt ct t bx B w hB hz hl hb h1 h2
  | true =>
  rw [Bool.true_and]
  exact grVT_3 ps AP cp AT nt ct t bx B w hB hz hl hb _ h1 h2 rfl

structure ShAt (w : World) (B : Nat) (ps : List Pol) (ts : List Ts) (AP : Option Addr) (AT : Option Addr) : Prop where
  p : Vals w B AP (ps.flatMap pcl)
  t : Vals w B AT (ts.flatMap tcl)
  lp : ps.length ≤ 1000000
  lt : ts.length ≤ 1000000
theorem ShAt.below {w w' : World} {B : Nat} {ps : List Pol} {ts : List Ts} {AP AT : Option Addr} (h : ShAt w B ps ts AP AT) (hb : Below B w w') : ShAt w' B ps ts AP AT := ⟨h.p.below hb, h.t.below hb, h.lp, h.lt⟩
theorem ShAt.mono {w : World} {B B' : Nat} {ps : List Pol} {ts : List Ts} {AP AT : Option Addr} (h : ShAt w B ps ts AP AT) (hb : B ≤ B') : ShAt w B' ps ts AP AT := ⟨h.p.mono hb, h.t.mono hb, h.lp, h.lt⟩

set_option maxRecDepth 100000 in
set_option maxHeartbeats 4000000 in
theorem grValidSheet_any (ps : List Pol) (ts : List Ts) (AP : Option Addr) (cp : Nat) (AT : Option Addr) (ct : Nat) (B : Nat) (w : World) (hB : B ≤ w.heap.size) (hz : ShAt w B ps ts AP AT) :
    Calls Tryz.prog 61 #[.agg #[.slice AP ps.length cp, .slice AT ts.length ct]] w fun e w' => e = .returned (.bool (okSheet ps ts)) ∧ Below w.heap.size w w' := by
  obtain ⟨w1, hw1⟩ : ∃ w1, w.alloc (.cells #[.slice AP ps.length cp, .slice AT ts.length ct] 25) = w1 := ⟨_, rfl⟩
  have hb1 : Below w.heap.size w w1 := by rw [← hw1]; exact grow1 _ _
  have hm1 : w1.heap[w.heap.size]? = some (.cells #[.slice AP ps.length cp, .slice AT ts.length ct] 25 (0, 0)) := by rw [← hw1]; exact alloc_at0 _ _
  have hc1 := fun i => cell_of_row w1 w.heap.size i _ _ _ hm1
  have h1 := grByP_any okPol 12 AP cp ps B w1 (Nat.le_trans hB hb1.size) (hz.p.below (hb1.mono hB)) hz.lp (fun y W _ _ => grValidPole_any y W)
  have h2 := fun (W : World) (hW : Below w1.heap.size w1 W) => grByT_any (okTs ps) 20 w.heap.size AT ct ts B W (Nat.le_trans (Nat.le_trans hB hb1.size) hW.size) ((hz.t.below (hb1.mono hB)).below (hW.mono (Nat.le_trans hB hb1.size))) hz.lt (fun y W' _ h' => by
    have hw' := hW.trans (h'.mono hW.size)
    exact grValidTest_any ps AP cp AT ts.length ct y w.heap.size B W' (Nat.le_trans (Nat.le_trans hB hb1.size) hw'.size) ((hz.p.below (hb1.mono hB)).below (hw'.mono (Nat.le_trans hB hb1.size))) hz.lp ((hw'.block _ (lt_of_heap hm1)).trans hm1))
  have e1 : (decide ((ps.length : Int) ≤ 12) && byIdL Pol.id okPol ps 0) = okPols ps := by
    unfold okPols; congr 1; rw [Bool.eq_iff_iff]; simp; omega
  have e2 : (decide ((ts.length : Int) ≤ 20) && byIdL Ts.id (okTs ps) ts 0) = okTsL ps ts := by
    unfold okTsL; congr 1; rw [Bool.eq_iff_iff]; simp; omega
  rw [e1] at h1
  rw [e2] at h2
  have hbk := fun (W : World) (hW : Below w1.heap.size w1 W) i => (hW.cell (p := ⟨w.heap.size, i, none⟩) (lt_of_heap hm1)).trans (hc1 i)
  have H2 := Lib.hid h2
  have HK := Lib.hid (And.intro hbk hb1)
  unfold okSheet
  generalize okTsL ps ts = v at H2 ⊢
  clear h2 hbk hm1 hz e1 e2 hb1
  cases hp : okPols ps
  all_goals
    rw [hp] at h1
    have H1 := Lib.hid h1
    clear hp h1
  · rw [Bool.false_and]
    go_enter Tryz.func61, Tryz.ntmps61
    go_wp2_with (go_at_call 104; refine H1.out.mono ?_; rintro e w2 ⟨rfl, hB2⟩; have HB2 := Lib.hid hB2; clear hB2)
    go_ret
    exact ⟨rfl, HK.out.2.trans (HB2.out.mono HK.out.2.size)⟩
  · rw [Bool.true_and]
    go_enter Tryz.func61, Tryz.ntmps61
    go_wp2_with (first
      | (go_at_call 107; refine (H2.out w2 HB2.out).mono ?_; rintro e w3 ⟨rfl, hB3⟩; have HB3 := Lib.hid (HB2.out.trans (hB3.mono HB2.out.size)); clear hB3)
      | (go_at_call 104; refine H1.out.mono ?_; rintro e w2 ⟨rfl, hB2⟩; have HB2 := Lib.hid hB2; have hc2 := HK.out.1 w2 hB2; clear hB2))
    go_ret
    exact ⟨rfl, HK.out.2.trans (HB3.out.mono HK.out.2.size)⟩

structure GdAt (w : World) (B : Nat) (gs : List Gd) (AG : Option Addr) : Prop where
  g : Vals w B AG (gs.flatMap gcl)
  lg : gs.length ≤ 1000000
theorem GdAt.below {w w' : World} {B : Nat} {gs : List Gd} {AG : Option Addr} (h : GdAt w B gs AG) (hb : Below B w w') : GdAt w' B gs AG := ⟨h.g.below hb, h.lg⟩
theorem GdAt.mono {w : World} {B B' : Nat} {gs : List Gd} {AG : Option Addr} (h : GdAt w B gs AG) (hb : B ≤ B') : GdAt w B' gs AG := ⟨h.g.mono hb, h.lg⟩
def shl (ps : List Pol) (ts : List Ts) (AP : Option Addr) (cp : Nat) (AT : Option Addr) (ct : Nat) : List Value := [.slice AP ps.length cp, .slice AT ts.length ct]
def gdl (gs : List Gd) (vary : Int) (AG : Option Addr) (cg : Nat) : List Value := [.slice AG gs.length cg, .int .i64 vary]

set_option maxRecDepth 100000 in
set_option maxHeartbeats 4000000 in
theorem grCheck_any (ps : List Pol) (ts : List Ts) (gs : List Gd) (vary : Int) (AP : Option Addr) (cp : Nat) (AT : Option Addr) (ct : Nat) (AG : Option Addr) (cg : Nat) (B : Nat) (w : World) (hB : B ≤ w.heap.size) (hz : ShAt w B ps ts AP AT) (hg : GdAt w B gs AG) :
    Calls Tryz.prog 28 #[.agg (shl ps ts AP cp AT ct).toArray, .agg (gdl gs vary AG cg).toArray] w fun e w' => e = .returned (.int .i64 (gChk gs vary ps ts)) ∧ Below w.heap.size w w' := by
  unfold shl gdl gChk
  have h1 := fun (W : World) (hW : Below w.heap.size w W) => grValidGrading_any gs vary AG cg B W (Nat.le_trans hB hW.size) (hg.g.below (hW.mono hB)) hg.lg
  have h2 := fun (W : World) (hW : Below w.heap.size w W) => grValidSheet_any ps ts AP cp AT ct B W (Nat.le_trans hB hW.size) (hz.below (hW.mono hB))
  obtain ⟨w1, hw1⟩ : ∃ w1, (w.alloc (.cells #[.slice AP ps.length cp, .slice AT ts.length ct] 25)).alloc (.cells #[.slice AG gs.length cg, .int .i64 vary] 28) = w1 := ⟨_, rfl⟩
  have hb1 : Below w.heap.size w w1 := by rw [← hw1]; exact grow2 _ _ _
  have hm1 : w1.heap[w.heap.size]? = some (.cells #[.slice AP ps.length cp, .slice AT ts.length ct] 25 (0, 0)) := by rw [← hw1]; exact alloc2_at0 _ _ _
  have hm2 : w1.heap[w.heap.size + 1]? = some (.cells #[.slice AG gs.length cg, .int .i64 vary] 28 (0, 0)) := by rw [← hw1]; exact alloc2_at1 _ _ _
  have hc1 := fun i => cell_of_row w1 w.heap.size i _ _ _ hm1
  have hc2 := fun i => cell_of_row w1 (w.heap.size + 1) i _ _ _ hm2
  have hbk := fun (W : World) (hW : Below w1.heap.size w1 W) i => (hW.cell (p := ⟨w.heap.size, i, none⟩) (lt_of_heap hm1)).trans (hc1 i)
  have HK := Lib.hid (And.intro hbk hb1)
  clear hbk hb1 hm1 hm2 hz hg
  cases ha : okGrading gs vary
  · rw [if_neg (by simp)]
    rw [ha] at h1
    have H1 := Lib.hid h1
    clear h1 h2 ha
    go_enter Tryz.func28, Tryz.ntmps28
    go_wp2_with (go_at_call 60; refine (H1.out w1 HK.out.2).mono ?_; rintro e w2 ⟨rfl, hB2⟩; have HB2 := Lib.hid hB2; clear hB2)
    go_ret
    exact ⟨rfl, HK.out.2.trans (HB2.out.mono HK.out.2.size)⟩
  · rw [if_pos rfl]
    rw [ha] at h1
    have H1 := Lib.hid h1
    clear h1 ha
    cases hb : okSheet ps ts
    all_goals
      rw [hb] at h2
      have H2 := Lib.hid h2
      clear h2 hb
      go_enter Tryz.func28, Tryz.ntmps28
      go_wp2_with (first
        | (go_at_call 61; refine (H2.out w2 (HK.out.2.trans (HB2.out.mono HK.out.2.size))).mono ?_; rintro e w3 ⟨rfl, hB3⟩; have HB3 := Lib.hid (HB2.out.trans (hB3.mono HB2.out.size)); clear hB3)
        | (go_at_call 60; refine (H1.out w1 HK.out.2).mono ?_; rintro e w2 ⟨rfl, hB2⟩; have HB2 := Lib.hid hB2; have hc3 := HK.out.1 w2 hB2; clear hB2))
      go_ret
      exact ⟨rfl, HK.out.2.trans (HB3.out.mono HK.out.2.size)⟩

end Go.Proofs.YtpnnlmaipcjkmaaGreat

namespace Go.Proofs.YtpnnlmaipcjkmaaGreat
open Go.RowKit
open R6 (done done_ne done_me upd_ne upd_me)

attribute [local go_sem] gives

def mn3 (a b c : Int) (k : Nat) : Int := if k = 1 then a else if k = 2 then min a b else min (min a b) c

set_option maxHeartbeats 2000000 in
theorem grMin3_any (a b c : Int) (A : Option Addr) (cap : Nat) (B : Nat) (w : World) (hB : B ≤ w.heap.size) (hz : Ints w B A [a, b, c]) :
    Calls Tryz.prog 92 #[.slice A 3 cap] w fun e w' => e = .returned (.int .i64 (min (min a b) c)) ∧ w = w' := by
  obtain ⟨d, off, hA, hd, hc⟩ := hz (by simp)
  subst hA
  have h0 := hc 0 (by simp)
  have h1 := hc 1 (by simp)
  have h2 := hc 2 (by simp)
  simp only [List.getElem?_cons_zero, List.getElem?_cons_succ, Option.getD_some, Nat.add_zero] at h0 h1 h2
  have hm3 : min (min a b) c = mn3 a b c 3 := rfl
  rw [hm3]
  have H := Lib.hid (And.intro h1 h2)
  clear hz hc h1 h2
  go_enter Tryz.func92, Tryz.ntmps92
  go_wp2
  clear h0
  go_loopg [3, 4] 2 (fun gn s3 s4 wx => ∃ k : Nat, k + gn = 3 ∧ 1 ≤ k ∧ s4 = .int .i64 k ∧ s3 = .int .i64 (mn3 a b c k) ∧ wx = w)
  case atStart => exact ⟨1, by omega, by omega, rfl, rfl, rfl⟩
  case round =>
    obtain ⟨k, hkg, hk1, rfl, rfl, rfl⟩ := hrel
    cases gk with
    | zero =>
      obtain rfl : k = 3 := by omega
      go_wp2
      go_ret
      exact ⟨rfl, rfl⟩
    | succ gn =>
      have hk : k = 1 ∨ k = 2 := by omega
      rcases hk with rfl | rfl
      · have hx := H.out.1
        generalize hm : mn3 a b c 1 = m
        have HM := Lib.hid hm
        clear hm
        go_wp2
        go_roundg gn
        case measure => omega
        case rel => exact ⟨2, by omega, by omega, by go_num, by rw [← HM.out]; rfl, rfl⟩
      · have hx := H.out.2
        generalize hm : mn3 a b c 2 = m
        have HM := Lib.hid hm
        clear hm
        go_wp2
        go_roundg gn
        case measure => omega
        case rel => exact ⟨3, by omega, by omega, by go_num, by rw [← HM.out]; rfl, rfl⟩

theorem fitG_min (p : Pol) (g : Gd) : fitG p g = (decide (g.age ≤ p.cut - p.shot) && decide (g.wall ≤ min (min p.w0 p.w1) p.w2)) := by
  unfold fitG
  rw [Bool.eq_iff_iff]
  simp only [Bool.and_eq_true, decide_eq_true_eq]
  omega
def yrs (p : Pol) : Prop := (0 ≤ p.shot ∧ p.shot ≤ 3000) ∧ (0 ≤ p.cut ∧ p.cut ≤ 3000)
theorem okPol_yrs {p : Pol} (h : okPol p = true) : yrs p := by
  simp only [okPol, Bool.and_eq_true, inR_iff, decide_eq_true_eq] at h
  obtain ⟨_, ⟨h1, h2⟩, _⟩ := h
  exact ⟨h1, h2⟩
theorem gOfL_step (p : Pol) (gs : List Gd) (k b : Nat) (hk : k < gs.length) : gOfL p (gs.drop k) k b = gOfL p (gs.drop (k + 1)) (k + 1) (if fitG p gs[k] = true then k + 1 else b) := by
  rw [List.drop_eq_getElem_cons hk]; rfl

set_option maxRecDepth 100000 in
set_option maxHeartbeats 8000000 in
theorem grGradeOf_any (gs : List Gd) (vary : Int) (p : Pol) (AP : Option Addr) (np cp : Nat) (AT : Option Addr) (nt ct : Nat) (AG : Option Addr) (cg : Nat) (B : Nat) (w : World) (hB : B ≤ w.heap.size) (hg : GdAt w B gs AG) (hp : yrs p) :
    Calls Tryz.prog 55 #[.agg #[.slice AP np cp, .slice AT nt ct, .slice AG gs.length cg, .int .i64 vary], .agg (pcl p).toArray] w
      fun e w' => e = .returned (.int .i64 (gOf gs p : Nat)) ∧ Below w.heap.size w w' := by
  obtain ⟨⟨s0, s1⟩, ⟨t0, t1⟩⟩ := hp
  have hlg := hg.lg
  obtain ⟨w1, hw1⟩ : ∃ w1, (w.alloc (.cells #[.slice AP np cp, .slice AT nt ct, .slice AG gs.length cg, .int .i64 vary] 119)).alloc (.cells (pcl p).toArray 56) = w1 := ⟨_, rfl⟩
  have hb1 : Below w.heap.size w w1 := by rw [← hw1]; exact grow2 _ _ _
  have hm1 : w1.heap[w.heap.size]? = some (.cells #[.slice AP np cp, .slice AT nt ct, .slice AG gs.length cg, .int .i64 vary] 119 (0, 0)) := by rw [← hw1]; exact alloc2_at0 _ _ _
  have hm2 : w1.heap[w.heap.size + 1]? = some (.cells (pcl p).toArray 56 (0, 0)) := by rw [← hw1]; exact alloc2_at1 _ _ _
  have hc1 := fun i => cell_of_row w1 w.heap.size i _ _ _ hm1
  have hs1 : w1.heap.size = w.heap.size + 2 := by rw [← hw1]; simp
  have hwr : IntKind.i64.wrap (p.cut - p.shot) = p.cut - p.shot := IntWalk.i64_in _ (by omega)
  have HWR := Lib.hid hwr
  have HG := Lib.hid (And.intro hg hB)
  have H1 := Lib.hid (And.intro hb1 (And.intro hm2 hs1))
  clear hg hb1 hm1 hm2 hs1 hwr
  go_enter Tryz.func55, Tryz.ntmps55
  go_wp2
  clear hc1
  go_loopg [5, 12] gs.length (fun gg s5 s12 wx => ∃ (k b : Nat), k + gg = gs.length ∧ s12 = .int .i64 k ∧ s5 = .int .i64 b ∧ b ≤ k ∧ Hid (gOfL p (gs.drop k) k b = gOf gs p) ∧ Hid (Below w1.heap.size w1 wx))
  case atStart => exact ⟨0, 0, by omega, rfl, rfl, Nat.le_refl _, rfl, Below.refl _ _⟩
  case round =>
    obtain ⟨k, b, hkg, rfl, rfl, hbk, hI, hM⟩ := hrel
    cases gk with
    | zero =>
      have hI' := hI.out
      obtain rfl : k = gs.length := by omega
      rw [List.drop_length] at hI'
      have HI := Lib.hid hI'
      clear hI'
      go_wp2
      go_ret
      exact ⟨by rw [← HI.out]; rfl, H1.out.1.trans (hM.out.mono H1.out.1.size)⟩
    | succ gg =>
      have hk : k < gs.length := by omega
      have hkz : (k : Int) < gs.length := by omega
      obtain ⟨c, off, hA, hcB, hc⟩ := vals_elem gcl_len HG.out.1.g (by decide) hk
      subst hA
      have hbr := H1.out.1.trans (hM.out.mono H1.out.1.size)
      have hc' : ∀ j v, (gcl gs[k])[j]? = some v → wr.cell? ⟨c, off + k * 8 + j, none⟩ = some v := fun j v hv => (hbr.cell (p := ⟨c, off + k * 8 + j, none⟩) (by have := HG.out.2; simp; omega)).trans (hc j v hv)
      have hst := gOfL_step p gs k b hk
      rw [hI.out, fitG_min] at hst
      have hpr := (hM.out.block _ (lt_of_heap H1.out.2.1)).trans H1.out.2.1
      generalize gs[k] = y at hc' hst
      have HST := Lib.hid hst
      have HCC := Lib.hid hc'
      have HPR := Lib.hid (And.intro hpr hbr)
      clear hc hc' hst hpr hbr
      have hmin := Lib.hid (fun (W : World) (hW : W.heap[w.heap.size + 1]? = some (.cells (pcl p).toArray 56 (0, 0))) => grMin3_any p.w0 p.w1 p.w2 (some ⟨w.heap.size + 1, 7, none⟩) 3 _ W (Nat.le_refl _) (fun _ => ⟨w.heap.size + 1, 7, rfl, lt_of_heap hW, fun j hj => by
        rw [cell_of_row W (w.heap.size + 1) (7 + j) _ _ _ hW]
        match j, hj with
        | 0, _ => rfl
        | 1, _ => rfl
        | 2, _ => rfl⟩))
      generalize min (min p.w0 p.w1) p.w2 = m at hmin HST
      have ld := fun (Q : Prop) (h : Q) => h
      clear ld
      cases q1 : decide (y.age ≤ p.cut - p.shot)
      · rw [q1] at HST
        have HQ := Lib.hid q1
        clear q1
        go_wp2_with (first
          | (show wpList _ _ _ (Oper.mk (some 16) _ _ _ _ _ :: _) _ _
             refine wpList_load_at 53 (.tmp 15) rfl rfl rfl (gcl y) HCC.out rowGrade ?_)
          | (show wpList _ _ _ (Oper.mk none (Op.store _ (Operand.tmp 7) (Operand.tmp 16)) _ _ _ _ :: _) _ _
             refine wpList_store_blk 53 (.tmp 7) (.tmp 16) rfl rfl rfl rfl rfl (alloc_at0 wr _) (Nat.le_of_ble_eq_true rfl) (fun v hv => gcl_one [y] v (by simpa using hv)) rowGrade ?_
             intro w5 hP5 hM5
             rw [splice_whole (by rfl)] at hM5
             have hb5 : Below wr.heap.size wr w5 := (grow1 wr _).trans (hP5.below (Nat.le_refl _))
             have H5 := Lib.hid (And.intro hb5 (And.intro hM5 ((hb5.block _ (lt_of_heap HPR.out.1)).trans HPR.out.1)))
             clear hP5 hM5 hb5))
        refine R6.wp_walk (C := BoxM wr [(wr.heap.size, .cells (gcl y).toArray 53), (w.heap.size + 1, .cells (pcl p).toArray 56)] [] (fun _ => [])) 37 (by kernel_rfl) (by kernel_rfl) rfl (BoxM.start H5.out.1 ⟨H5.out.2.1, H5.out.2.2, trivial⟩ (fun _ => rfl)) ?_
        simp only []
        repeat (first
          | (refine R6.WalkR.un (fun _ => rfl) (fun D ρ W hK hC => hC.move (by decide)) ?_
             simp only [Act.put, List.setIfInBounds_toArray, List.set_cons_succ, List.set_cons_zero])
          | (refine' R6.WalkR.det (fun _ => rfl) (fun D ρ W hK hC => ?_) ?_
             rotate_left
             · have f0 : W.cell? ⟨wr.heap.size, 0, none⟩ = some (.int .i64 y.age) := cell_of_row W _ 0 _ _ _ hC.box.1
               have f1 : W.cell? ⟨w.heap.size + 1, 2, none⟩ = some (.int .i64 p.cut) := cell_of_row W _ 2 _ _ _ hC.box.2.1
               have f2 : W.cell? ⟨w.heap.size + 1, 3, none⟩ = some (.int .i64 p.shot) := cell_of_row W _ 3 _ _ _ hC.box.2.1
               have q1 := HQ.out
               have hwr := HWR.out
               have HC := Lib.hid hC
               clear hC hK
               go_simp
               first
                 | with_reducible exact ⟨rfl, HC.out.move (by decide)⟩
                 | fail
             simp only [Act.put, List.setIfInBounds_toArray, List.set_cons_succ, List.set_cons_zero]))
        refine R6.WalkR.nil (fun D ρ W hD hC => ?_)
        have HB := Lib.hid hC.bel
        clear hC hD
        go_wp2
        go_roundg gg
        case measure => omega
        case rel => exact ⟨k + 1, b, by omega, by go_num, rfl, by omega, by rw [HST.out]; rfl, hM.out.trans (HB.out.mono hM.out.size)⟩
      · cases q2 : decide (y.wall ≤ m)
        all_goals
          rw [q1, q2] at HST
          have HQ := Lib.hid (And.intro q1 q2)
          clear q1 q2
          go_wp2_with (first
            | (show wpList _ _ _ (Oper.mk (some 16) _ _ _ _ _ :: _) _ _
               refine wpList_load_at 53 (.tmp 15) rfl rfl rfl (gcl y) HCC.out rowGrade ?_)
            | (show wpList _ _ _ (Oper.mk none (Op.store _ (Operand.tmp 7) (Operand.tmp 16)) _ _ _ _ :: _) _ _
               refine wpList_store_blk 53 (.tmp 7) (.tmp 16) rfl rfl rfl rfl rfl (alloc_at0 wr _) (Nat.le_of_ble_eq_true rfl) (fun v hv => gcl_one [y] v (by simpa using hv)) rowGrade ?_
               intro w5 hP5 hM5
               rw [splice_whole (by rfl)] at hM5
               have hb5 : Below wr.heap.size wr w5 := (grow1 wr _).trans (hP5.below (Nat.le_refl _))
               have H5 := Lib.hid (And.intro hb5 (And.intro hM5 ((hb5.block _ (lt_of_heap HPR.out.1)).trans HPR.out.1)))
               clear hP5 hM5 hb5))
          refine R6.wp_walk (C := BoxM wr [(wr.heap.size, .cells (gcl y).toArray 53), (w.heap.size + 1, .cells (pcl p).toArray 56)] [] (fun _ => [])) 37 (by kernel_rfl) (by kernel_rfl) rfl (BoxM.start H5.out.1 ⟨H5.out.2.1, H5.out.2.2, trivial⟩ (fun _ => rfl)) ?_
          simp only []
          repeat (first
            | (refine' R6.WalkR.det (fun _ => rfl) (fun D ρ W hK hC => ?_) ?_
               rotate_left
               · have f0 : W.cell? ⟨wr.heap.size, 0, none⟩ = some (.int .i64 y.age) := cell_of_row W _ 0 _ _ _ hC.box.1
                 have f3 : W.cell? ⟨wr.heap.size, 1, none⟩ = some (.int .i64 y.wall) := cell_of_row W _ 1 _ _ _ hC.box.1
                 have f1 : W.cell? ⟨w.heap.size + 1, 2, none⟩ = some (.int .i64 p.cut) := cell_of_row W _ 2 _ _ _ hC.box.2.1
                 have f2 : W.cell? ⟨w.heap.size + 1, 3, none⟩ = some (.int .i64 p.shot) := cell_of_row W _ 3 _ _ _ hC.box.2.1
                 have q1 := HQ.out.1
                 have q2 := HQ.out.2
                 have hwr := HWR.out
                 have HC := Lib.hid hC
                 clear hC hK
                 go_simp
                 first
                   | with_reducible exact ⟨rfl, HC.out.move (by decide)⟩
                   | (go_at_call 92; refine (hmin.out W HC.out.box.2.1).mono ?_; rintro e W1 ⟨rfl, rfl⟩; exact ⟨_, rfl, rfl, HC.out.move (by decide)⟩)
               simp only [Act.put, List.setIfInBounds_toArray, List.set_cons_succ, List.set_cons_zero]))
          refine R6.WalkR.nil (fun D ρ W hD hC => ?_)
          have HB := Lib.hid hC.bel
          clear hC hD
          go_wp2
          go_roundg gg
        · exact ⟨k + 1, b, by omega, by go_num, rfl, by omega, by rw [HST.out]; rfl, hM.out.trans (HB.out.mono hM.out.size)⟩
        · omega
        · exact ⟨k + 1, k + 1, by omega, by go_num, by go_num, by omega, by rw [HST.out]; rfl, hM.out.trans (HB.out.mono hM.out.size)⟩
        · omega

end Go.Proofs.YtpnnlmaipcjkmaaGreat

namespace Go.Proofs.YtpnnlmaipcjkmaaGreat
open Go.RowKit
open R6 (done done_ne done_me upd_ne upd_me)

attribute [local go_sem] gives

set_option maxRecDepth 100000 in
set_option maxHeartbeats 4000000 in
theorem grArea_any (p : Pol) (k : Nat) (hk : k < 3) (hs : okSecs p = true) (w : World) :
    Calls Tryz.prog 59 #[.agg (pcl p).toArray, .int .i64 (k : Int)] w fun e w' => e = .returned (.int .i64 (ar p k)) ∧ Below w.heap.size w w' := by
  have ha := ar_pos hs k
  simp only [okSecs, okSec, Bool.and_eq_true, inR_iff, decide_eq_true_eq] at hs
  obtain ⟨⟨a1, a2, a3⟩, ⟨b1, b2, b3⟩, ⟨c1, c2, c3⟩⟩ := hs
  unfold pcl
  unfold ar at ha ⊢
  have h3 : k = 0 ∨ k = 1 ∨ k = 2 := by omega
  rcases h3 with rfl | rfl | rfl
  · simp only [gg, ww, if_true] at ha ⊢
    go_enter Tryz.func59, Tryz.ntmps59
    go_wp2
    go_ret
    exact ⟨rfl, grow1 _ _⟩
  · simp only [gg, ww, if_true, Nat.one_ne_zero, if_false] at ha ⊢
    go_enter Tryz.func59, Tryz.ntmps59
    go_wp2
    go_ret
    exact ⟨rfl, grow1 _ _⟩
  · simp only [gg, ww, show ¬ (2 : Nat) = 0 by omega, show ¬ (2 : Nat) = 1 by omega, if_false] at ha ⊢
    go_enter Tryz.func59, Tryz.ntmps59
    go_wp2
    go_ret
    exact ⟨rfl, grow1 _ _⟩

theorem cutL_step (s : Int × Int) (l : List (Int × Int)) (k : Nat) (hk : k < l.length) : cutL s (l.take (k + 1)) = cut1 (cutL s (l.take k)) l[k] := by
  unfold cutL
  rw [List.take_add_one, List.foldl_append, List.getElem?_eq_getElem hk]
  rfl
theorem sp2_one (s : Int × Int) : ∀ v ∈ sp2 s, v.oneCell' = true := by
  intro v hv
  simp only [sp2, List.mem_cons, List.not_mem_nil, or_false] at hv
  rcases hv with rfl | rfl <;> rfl

set_option maxRecDepth 100000 in
set_option maxHeartbeats 4000000 in
theorem grCut_any (s : Int × Int) (A : Option Addr) (cap : Nat) (l : List (Int × Int)) (B : Nat) (w : World) (hB : B ≤ w.heap.size) (hz : Vals w B A (l.flatMap sp2)) (hl : l.length ≤ 1000000) :
    Calls Tryz.prog 140 #[.agg (sp2 s).toArray, .slice A l.length cap] w fun e w' => e = .returned (.agg (sp2 (cutL s l)).toArray) ∧ Below w.heap.size w w' := by
  obtain ⟨w1, hw1⟩ : ∃ w1, (w.alloc (.cells (sp2 s).toArray 50)).alloc (.cells #[.int .i64 0, .int .i64 0] 50) = w1 := ⟨_, rfl⟩
  have hb1 : Below w.heap.size w w1 := by rw [← hw1]; exact grow2 _ _ _
  have hm1 : w1.heap[w.heap.size]? = some (.cells (sp2 s).toArray 50 (0, 0)) := by rw [← hw1]; exact alloc2_at0 _ _ _
  have hm2 : w1.heap[w.heap.size + 1]? = some (.cells [Value.int .i64 0, .int .i64 0].toArray 50 (0, 0)) := by rw [← hw1]; exact alloc2_at1 _ _ _
  have HZ := Lib.hid (And.intro hz hB)
  have H1 := Lib.hid (And.intro hb1 (And.intro hm1 hm2))
  clear hz hb1 hm1 hm2
  go_enter Tryz.func140, Tryz.ntmps140
  go_wp2
  go_loopg [9] l.length (fun gg s9 wx => ∃ k : Nat, k + gg = l.length ∧ s9 = .int .i64 k ∧ Hid (wx.heap[w.heap.size]? = some (.cells (sp2 (cutL s (l.take k))).toArray 50 (0, 0)) ∧ wx.heap[w.heap.size + 1]? = some (.cells [Value.int .i64 0, .int .i64 0].toArray 50 (0, 0)) ∧ Below w.heap.size w wx))
  case atStart => exact ⟨0, by omega, rfl, H1.out.2.1, H1.out.2.2, H1.out.1⟩
  case round =>
    obtain ⟨k, hkg, rfl, hM⟩ := hrel
    cases gk with
    | zero =>
      have hM' := hM.out
      obtain rfl : k = l.length := by omega
      rw [List.take_length] at hM'
      obtain ⟨z, hze⟩ : ∃ z, z = cutL s l := ⟨_, rfl⟩
      rw [← hze] at hM'
      have HZE := Lib.hid hze
      have HM := Lib.hid hM'
      clear hM' hze
      go_wp2_with (first
        | (show wpList _ _ _ (Oper.mk (some 25) _ _ _ _ _ :: _) _ _
           refine wpList_load_blk 50 (.tmp 2) rfl rfl rfl HM.out.1 (sp2 z) at0 rowSpan5 ?_)
        | (show wpList _ _ _ (Oper.mk none (Op.store _ (Operand.tmp 4) (Operand.tmp 25)) _ _ _ _ :: _) _ _
           refine wpList_store_blk 50 (.tmp 4) (.tmp 25) rfl rfl rfl rfl rfl HM.out.2.1 (Nat.le_of_ble_eq_true rfl) (sp2_one z) rowSpan5 ?_
           intro w3 hP3 hM3
           rw [splice_whole (by rfl)] at hM3
           have H3 := Lib.hid (And.intro (HM.out.2.2.trans (hP3.below (by omega))) hM3)
           clear hP3 hM3))
      refine bodyPost_ret (v := .agg (sp2 z).toArray) (results_cell1 Tryz.results140 rfl H3.out.2 rowSpan5) rfl ⟨by rw [HZE.out], H3.out.1⟩
    | succ gg =>
      have hk : k < l.length := by omega
      have hkz : (k : Int) < l.length := by omega
      obtain ⟨c, off, hA, hcB, hc⟩ := vals_elem sp2_len HZ.out.1 (by decide) hk
      subst hA
      have hc' : ∀ j v, (sp2 l[k])[j]? = some v → wr.cell? ⟨c, off + k * 2 + j, none⟩ = some v := fun j v hv => (hM.out.2.2.cell (p := ⟨c, off + k * 2 + j, none⟩) (by have := HZ.out.2; simp; omega)).trans (hc j v hv)
      have hst := cutL_step s l k hk
      generalize l[k] = y at hc' hst
      have hM' := hM.out
      generalize cutL s (l.take k) = z at hM' hst
      have HST := Lib.hid hst
      have HCC := Lib.hid hc'
      have HM := Lib.hid hM'
      clear hc hc' hst hM'
      obtain ⟨y1, y2⟩ := y
      obtain ⟨z1, z2⟩ := z
      go_wp2_with (first
        | (show wpList _ _ _ (Oper.mk (some 12) _ _ _ _ _ :: _) _ _
           refine wpList_load_at 50 (.tmp 11) rfl rfl rfl (sp2 (y1, y2)) HCC.out rowSpan5 ?_)
        | (show wpList _ _ _ (Oper.mk none (Op.store _ (Operand.tmp 6) (Operand.tmp 12)) _ _ _ _ :: _) _ _
           refine wpList_store_blk 50 (.tmp 6) (.tmp 12) rfl rfl rfl rfl rfl (alloc_at0 wr _) (Nat.le_of_ble_eq_true rfl) (sp2_one _) rowSpan5 ?_
           intro w5 hP5 hM5
           rw [splice_whole (by rfl)] at hM5
           have hb5 : Below wr.heap.size wr w5 := (grow1 wr _).trans (hP5.below (Nat.le_refl _))
           have hx2 := (hb5.block _ (lt_of_heap HM.out.1)).trans HM.out.1
           have hx4 := (hb5.block _ (lt_of_heap HM.out.2.1)).trans HM.out.2.1
           have f0 : w5.cell? ⟨wr.heap.size, 0, none⟩ = some (.int .i64 y1) := cell_of_row w5 _ 0 _ _ _ hM5
           have f1 : w5.cell? ⟨wr.heap.size, 1, none⟩ = some (.int .i64 y2) := cell_of_row w5 _ 1 _ _ _ hM5
           have f2 : w5.cell? ⟨w.heap.size, 0, none⟩ = some (.int .i64 z1) := cell_of_row w5 _ 0 _ _ _ hx2
           have f3 : w5.cell? ⟨w.heap.size, 1, none⟩ = some (.int .i64 z2) := cell_of_row w5 _ 1 _ _ _ hx2
           have H5 := Lib.hid (And.intro hx2 (And.intro hx4 (HM.out.2.2.trans (hb5.mono HM.out.2.2.size))))
           clear hP5 hM5 hb5 hx2 hx4)
        | (show wpList _ _ _ (Oper.mk none (Op.store _ (Operand.tmp 2) (Operand.tmp 23)) _ _ _ _ :: _) _ _
           refine wpList_store_blk 50 (.tmp 2) (.tmp 23) rfl rfl rfl rfl (cs := sp2 (cut1 (z1, z2) (y1, y2))) rfl H5.out.1 (Nat.le_of_ble_eq_true rfl) (sp2_one _) rowSpan5 ?_
           intro w7 hP7 hM7
           rw [splice_whole (by rfl)] at hM7
           have H7 := Lib.hid (And.intro hM7 (And.intro ((hP7.other _ (by omega)).trans H5.out.2.1) (H5.out.2.2.trans (hP7.below (Nat.le_refl _)))))
           clear hP7 hM7))
      go_roundg gg
      case measure => omega
      case rel => exact ⟨k + 1, by omega, by go_num, by rw [HST.out]; exact H7.out.1, H7.out.2.1, H7.out.2.2⟩

def st6 (f : Nat → Int × Int) : List Value := sp2 (f 0) ++ (sp2 (f 1) ++ sp2 (f 2))
theorem st6_len (f : Nat → Int × Int) : (st6 f).length = 6 := rfl
theorem st6_one (f : Nat → Int × Int) : ∀ v ∈ st6 f, v.oneCell' = true := by
  intro v hv
  simp only [st6, List.mem_append] at hv
  rcases hv with h | h | h
  · exact sp2_one _ v h
  · exact sp2_one _ v h
  · exact sp2_one _ v h
theorem st6_at (f : Nat → Int × Int) {k : Nat} (hk : k < 3) : ∀ j v, (sp2 (f k))[j]? = some v → (st6 f).toArray[k * 2 + j]? = some v := by
  intro j v hv
  have hj : j < 2 := (List.getElem?_eq_some_iff.1 hv).1
  rw [List.getElem?_toArray]
  have h3 : k = 0 ∨ k = 1 ∨ k = 2 := by omega
  have h2 : j = 0 ∨ j = 1 := by omega
  rcases h3 with rfl | rfl | rfl <;> rcases h2 with rfl | rfl <;> exact hv
def updF (f : Nat → Int × Int) (k : Nat) (z : Int × Int) : Nat → Int × Int := fun i => if i = k then z else f i
theorem st6_set (f : Nat → Int × Int) {k : Nat} (hk : k < 3) (z : Int × Int) : splice (st6 f) (k * 2) (sp2 z) = st6 (updF f k z) := by
  have h3 : k = 0 ∨ k = 1 ∨ k = 2 := by omega
  rcases h3 with rfl | rfl | rfl <;> rfl
theorem st6_congr {f g : Nat → Int × Int} (h : ∀ i, i < 3 → f i = g i) : st6 f = st6 g := by unfold st6; rw [h 0 (by omega), h 1 (by omega), h 2 (by omega)]
def mixF (s n : Nat → Int × Int) (k : Nat) : Nat → Int × Int := fun i => if i < k then n i else s i
theorem mixF_zero (s n : Nat → Int × Int) : st6 (mixF s n 0) = st6 s := st6_congr fun i _ => by simp [mixF]
theorem mixF_all (s n : Nat → Int × Int) : st6 (mixF s n 3) = st6 n := st6_congr fun i hi => by simp [mixF, hi]
theorem mixF_at (s n : Nat → Int × Int) (k : Nat) : mixF s n k k = s k := by simp [mixF]
theorem mixF_set (s n : Nat → Int × Int) (k : Nat) : st6 (updF (mixF s n k) k (n k)) = st6 (mixF s n (k + 1)) := st6_congr fun i _ => by
  unfold updF mixF
  by_cases h1 : i = k
  · subst h1; simp
  · by_cases h2 : i < k
    · rw [if_neg h1, if_pos h2, if_pos (by omega)]
    · rw [if_neg h1, if_neg h2, if_neg (by omega)]
theorem rowStress : RowTy Tryz.prog 128 6 := ⟨⟨_, Tryz.underlying128, rfl⟩, by kernel_rfl⟩
theorem rowSpans3 : RowTy Tryz.prog 51 6 := ⟨⟨_, Tryz.underlying51, rfl⟩, by kernel_rfl⟩

structure BothC (w0 : World) (b2 b3 : Nat) (X Y : List Value) (K : List (Nat × Obj)) (ko ks kt : Nat) (z : Int × Int) (D : Nat → Bool) (σ : Nat → Value) (W : World) : Prop where
  bel : Below w0.heap.size w0 W
  hX : D ks = false → W.heap[b2]? = some (.cells X.toArray 128 (0, 0))
  hY : D ks = true → W.heap[b2]? = some (.cells Y.toArray 128 (0, 0))
  lt : b2 < W.heap.size
  box : keptK K W
  new : D ko = true → ∃ b, b ≠ b2 ∧ σ kt = .slice (some ⟨b, 0, none⟩) 1 1 ∧ W.heap[b]? = some (.cells (sp2 z).toArray 50 (0, 0))
def bothK (ko ks kt k : Nat) (d : Option Nat) : Bool := !(k == ko || k == ks || d == some kt)
section
variable {w0 W W' : World} {b2 b3 : Nat} {X Y : List Value} {K : List (Nat × Obj)} {ko ks kt : Nat} {z : Int × Int} {D : Nat → Bool} {σ : Nat → Value}
theorem BothC.move {k : Nat} {d : Option Nat} {v : Value} (h : BothC w0 b2 b3 X Y K ko ks kt z D σ W) (hk : bothK ko ks kt k d = true) : BothC w0 b2 b3 X Y K ko ks kt z (done D k) (R4.upd σ d v) W := by
  simp only [bothK, Bool.not_eq_true', Bool.or_eq_false_iff, beq_eq_false_iff_ne, ne_eq] at hk
  obtain ⟨⟨h1, h2⟩, h3⟩ := hk
  have e1 := done_ne (D := D) (k := k) (j := ko) (by omega)
  have e2 := done_ne (D := D) (k := k) (j := ks) (by omega)
  have u1 := upd_ne (ρ := σ) (v := v) h3
  exact ⟨h.bel, by rw [e2]; exact h.hX, by rw [e2]; exact h.hY, h.lt, h.box, by rw [e1, u1]; exact h.new⟩
theorem BothC.next (h : BothC w0 b2 b3 X Y K ko ks kt z D σ W) (hg : Grows W W') : BothC w0 b2 b3 X Y K ko ks kt z D σ W' :=
  ⟨h.bel.trans (hg.mono h.bel.size), fun e => (hg.block _ h.lt).trans (h.hX e), fun e => (hg.block _ h.lt).trans (h.hY e), Nat.lt_of_lt_of_le h.lt hg.size, h.box.next hg, fun e => let ⟨b, h0, h1, h2⟩ := h.new e; ⟨b, h0, h1, (hg.block _ (lt_of_heap h2)).trans h2⟩⟩
theorem BothC.made {cs : Array Value} (h : BothC w0 b2 b3 X Y K ko ks kt z D σ W) (hne : (ko == ks) = false) (hc : cs = (sp2 z).toArray) :
    BothC w0 b2 b3 X Y K ko ks kt z (done D ko) (R4.upd σ (some kt) (.slice (some ⟨W.heap.size, 0, none⟩) 1 1)) (W.alloc (.cells cs 50)) := by
  subst hc
  have h' := h.next (grow1 W (.cells (sp2 z).toArray 50))
  have e2 := done_ne (D := D) (k := ko) (j := ks) (by simp at hne; omega)
  exact ⟨h'.bel, by rw [e2]; exact h'.hX, by rw [e2]; exact h'.hY, h'.lt, h'.box, fun _ => ⟨_, by have := h.lt; omega, upd_me, alloc_at0 _ _⟩⟩
end

set_option maxHeartbeats 1000000 in
theorem grNone_any (f : Nat → Int × Int) (w : World) :
    Calls Tryz.prog 99 #[.agg (st6 f).toArray] w fun e w' => e = .returned (.bool (!(List.range 3).all fun k => decide ((f k).1 ≤ (f k).2))) ∧ Below w.heap.size w w' := by
  obtain ⟨w1, hw1⟩ : ∃ w1, w.alloc (.cells (st6 f).toArray 128) = w1 := ⟨_, rfl⟩
  have hb1 : Below w.heap.size w w1 := by rw [← hw1]; exact grow1 _ _
  have hm1 : w1.heap[w.heap.size]? = some (.cells (st6 f).toArray 128 (0, 0)) := by rw [← hw1]; exact alloc_at0 _ _
  have hv : Vals w1 w1.heap.size (some ⟨w.heap.size, 0, none⟩) ([f 0, f 1, f 2].flatMap sp2) := fun _ => ⟨w.heap.size, 0, rfl, lt_of_heap hm1, fun j u hj => by
    rw [Nat.zero_add, cell_of_row w1 _ j _ _ _ hm1, List.getElem?_toArray]
    exact hj⟩
  have h := grEm_contains (fun s => decide (s.2 < s.1)) (some ⟨w.heap.size, 0, none⟩) 3 [f 0, f 1, f 2] w1.heap.size w1 (Nat.le_refl _) hv (by simp) (fun y W _ _ => grEmpty_any y.1 y.2 W)
  have e : ([f 0, f 1, f 2].any fun s => decide (s.2 < s.1)) = !(List.range 3).all fun k => decide ((f k).1 ≤ (f k).2) := by
    rw [Bool.eq_iff_iff]
    simp [List.range_succ]
  rw [e] at h
  generalize (!(List.range 3).all fun k => decide ((f k).1 ≤ (f k).2)) = v at h
  have H := Lib.hid h
  have HB := Lib.hid hb1
  clear h hv hm1 e hb1
  go_enter Tryz.func99, Tryz.ntmps99
  go_wp2_with (go_at_call 141; refine H.out.mono ?_; rintro e w2 ⟨rfl, hB2⟩; have H2 := Lib.hid hB2; clear hB2)
  go_ret
  exact ⟨rfl, HB.out.trans (H2.out.mono HB.out.size)⟩

end Go.Proofs.YtpnnlmaipcjkmaaGreat
