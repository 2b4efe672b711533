/-
  Spans of stresses that are valid.
-/
import Derived.Test.YtpnnlmaipcjkmaaGreatQV2
set_option linter.all false
namespace Go.Proofs.YtpnnlmaipcjkmaaGreat
open Go.RowKit
open R6 (done done_ne done_me upd_ne upd_me)

attribute [local go_sem] gives

def grVSN (lo : Int) (hi : Int) : Nat → List Int := fun k => if k = 9 then [lo, hi] else []

set_option maxRecDepth 100000 in
set_option maxHeartbeats 4000000 in
theorem grVS_1 (lo hi : Int) (w : World)
    (h1 : decide (lo ≤ hi) = false) :
    Calls Tryz.prog 144 #[.agg #[.int .i64 lo, .int .i64 hi]] w fun e w' => e = .returned (.bool false) ∧ Below w.heap.size w w' := by
  have hne : decide (hi < lo) = !decide (lo ≤ hi) := by rw [Bool.eq_iff_iff]; simp
  rw [h1] at hne
  have H1 := Lib.hid h1
  clear h1
  go_enter Tryz.func144, Tryz.ntmps144
  go_wp2
  refine R6.wp_walk (C := BoxM w [(w.heap.size, .cells #[.int .i64 lo, .int .i64 hi] 50)] [] (grVSN lo hi)) 15 (by kernel_rfl) (by kernel_rfl) rfl (BoxM.start (grow1 w _) ⟨alloc_at0 w _, trivial⟩ (fun _ => rfl)) ?_
  simp only []
  repeat (first
    | (refine R6.WalkR.un (fun _ => rfl) (fun D ρ W hK hC => hC.move (by decide)) ?_
       simp only [Act.put, List.setIfInBounds_toArray, List.set_cons_succ, List.set_cons_zero])
    | (refine' R6.WalkR.det (fun _ => rfl) (fun D ρ W hK hC => ?_) ?_
       rotate_left
       · have hcb := fun i => cell_of_row W w.heap.size i _ _ _ hC.box.1
         have HC := Lib.hid hC
         clear hC hK
         go_simp
         first
           | with_reducible exact ⟨rfl, HC.out.move (by decide)⟩
           | (go_at_call 142; refine (grEmpty_any lo hi W).mono ?_; rintro e W1 ⟨rfl, hB1⟩; rw [hne]; exact ⟨_, rfl, rfl, (HC.out.next hB1).move (by decide)⟩)
           | (go_at_call 101; refine (grFromOne_any _ W).mono ?_; rintro e W1 ⟨rfl, hB1⟩; exact ⟨_, rfl, rfl, (HC.out.next hB1).move (by decide)⟩)
       simp only [Act.put, List.setIfInBounds_toArray, List.set_cons_succ, List.set_cons_zero]))
  refine R6.WalkR.nil (fun D ρ W hD hC => ?_)
  have HB := Lib.hid hC.bel
  clear hC hD
  go_wp2
  go_ret
  exact ⟨rfl, HB.out⟩

set_option maxRecDepth 100000 in
set_option maxHeartbeats 4000000 in
theorem grVS_2 (lo hi : Int) (w : World) (v : Bool)
    (h1 : decide (lo ≤ hi) = true)
    (h2 : allB 1 200000 [lo, hi] = v) :
    Calls Tryz.prog 144 #[.agg #[.int .i64 lo, .int .i64 hi]] w fun e w' => e = .returned (.bool v) ∧ Below w.heap.size w w' := by
  have hne : decide (hi < lo) = !decide (lo ≤ hi) := by rw [Bool.eq_iff_iff]; simp
  rw [h1] at hne
  have H1 := Lib.hid h1
  have H2 := Lib.hid h2
  clear h1 h2
  go_enter Tryz.func144, Tryz.ntmps144
  go_wp2
  refine R6.wp_walk (C := BoxM w [(w.heap.size, .cells #[.int .i64 lo, .int .i64 hi] 50)] [(9, 12)] (grVSN lo hi)) 15 (by kernel_rfl) (by kernel_rfl) rfl (BoxM.start (grow1 w _) ⟨alloc_at0 w _, trivial⟩ (fun _ => rfl)) ?_
  simp only []
  repeat (first
    | (refine' R6.WalkR.det (fun _ => rfl) (fun D ρ W hK hC => ?_) ?_
       rotate_left
       · have hcb := fun i => cell_of_row W w.heap.size i _ _ _ hC.box.1
         have HC := Lib.hid hC
         clear hC hK
         go_simp
         first
           | with_reducible exact ⟨rfl, HC.out.move (by decide)⟩
           | (go_at_call 142; refine (grEmpty_any lo hi W).mono ?_; rintro e W1 ⟨rfl, hB1⟩; rw [hne]; exact ⟨_, rfl, rfl, (HC.out.next hB1).move (by decide)⟩)
           | (go_at_call 101; refine (grFromOne_any _ W).mono ?_; rintro e W1 ⟨rfl, hB1⟩; exact ⟨_, rfl, rfl, (HC.out.next hB1).move (by decide)⟩)
       simp only [Act.put, List.setIfInBounds_toArray, List.set_cons_succ, List.set_cons_zero]))
  refine' R6.WalkR.nd (fun _ => rfl) rfl (fun D ρ W hK hC => ?_) ?_
  · have hcb := fun i => cell_of_row W w.heap.size i _ _ _ hC.box.1
    have HC := Lib.hid hC
    clear hC hK
    go_simp
    exact HC.out.made (by decide) rfl rfl
  simp only [Act.put, List.setIfInBounds_toArray, List.set_cons_succ, List.set_cons_zero]
  refine' R6.WalkR.det (fun _ => rfl) (fun D ρ W hK hC => ?_) ?_
  rotate_left
  · obtain ⟨b, hv0, hm⟩ := hC.new (9, 12) (by decide) (hK.pre 9 (needs_edgeM (by decide +kernel)))
    have hv : _ = Value.slice (some ⟨b, 0, none⟩) 2 2 := hv0
    clear hv0
    have HC := Lib.hid hC
    have HM := Lib.hid hm
    clear hC hK hm
    go_simp
    go_at_call 93
    refine (grWithin_new 1 200000 (grVSN lo hi 9) W b _ _ rfl HM.out (Nat.le_of_ble_eq_true rfl)).mono ?_
    rintro e W1 ⟨rfl, hB1⟩
    rw [show allB 1 200000 (grVSN lo hi 9) = _ from H2.out]
    exact ⟨_, rfl, rfl, (HC.out.next hB1).move (by decide)⟩
  simp only [Act.put, List.setIfInBounds_toArray, List.set_cons_succ, List.set_cons_zero]
  repeat (first
    | (refine' R6.WalkR.det (fun _ => rfl) (fun D ρ W hK hC => ?_) ?_
       rotate_left
       · have hcb := fun i => cell_of_row W w.heap.size i _ _ _ hC.box.1
         have HC := Lib.hid hC
         clear hC hK
         go_simp
         first
           | with_reducible exact ⟨rfl, HC.out.move (by decide)⟩
           | (go_at_call 142; refine (grEmpty_any lo hi W).mono ?_; rintro e W1 ⟨rfl, hB1⟩; rw [hne]; exact ⟨_, rfl, rfl, (HC.out.next hB1).move (by decide)⟩)
           | (go_at_call 101; refine (grFromOne_any _ W).mono ?_; rintro e W1 ⟨rfl, hB1⟩; exact ⟨_, rfl, rfl, (HC.out.next hB1).move (by decide)⟩)
       simp only [Act.put, List.setIfInBounds_toArray, List.set_cons_succ, List.set_cons_zero]))
  refine R6.WalkR.nil (fun D ρ W hD hC => ?_)
  have HB := Lib.hid hC.bel
  clear hC hD
  go_wp2
  go_ret
  exact ⟨rfl, HB.out⟩

theorem okSt_allB (lo hi : Int) : okSt lo hi = (decide (lo ≤ hi) && allB 1 200000 [lo, hi]) := by simp [okSt, allB]

theorem grValidStress_any (lo hi : Int) (w : World) :
    Calls Tryz.prog 144 #[.agg #[.int .i64 lo, .int .i64 hi]] w fun e w' => e = .returned (.bool (okSt lo hi)) ∧ Below w.heap.size w w' := by
  rw [okSt_allB]
  cases h1 : decide (lo ≤ hi) with
  | false => simp only [Bool.false_and]; exact grVS_1 lo hi w  h1
  | true =>
  simp only [Bool.true_and]
  exact grVS_2 lo hi w _  h1 rfl

theorem rowPole : RowTy Tryz.prog 56 12 := ⟨⟨_, Tryz.underlying56, rfl⟩, by kernel_rfl⟩
theorem rowGrade : RowTy Tryz.prog 53 8 := ⟨⟨_, Tryz.underlying53, rfl⟩, by kernel_rfl⟩
theorem rowTest : RowTy Tryz.prog 58 5 := ⟨⟨_, Tryz.underlying58, rfl⟩, by kernel_rfl⟩

theorem idx3_0 (a b c : Int) (W : World) : (Instr.index 54 (.agg #[.int .i64 a, .int .i64 b, .int .i64 c]) (.int .i64 0)).run Tryz.prog W = .ok (.int .i64 a) W := by kernel_rfl
theorem idx3_1 (a b c : Int) (W : World) : (Instr.index 54 (.agg #[.int .i64 a, .int .i64 b, .int .i64 c]) (.int .i64 1)).run Tryz.prog W = .ok (.int .i64 b) W := by kernel_rfl
theorem idx3_2 (a b c : Int) (W : World) : (Instr.index 54 (.agg #[.int .i64 a, .int .i64 b, .int .i64 c]) (.int .i64 2)).run Tryz.prog W = .ok (.int .i64 c) W := by kernel_rfl

theorem okSec_allB (g x : Int) : okSec g x = (allB 1 60 [x] && (allB 10 300 [g] && decide (2 * x ≤ g))) := by simp [okSec, allB]

def secF (p : Pol) (k : Nat) : Bool := okSec (gg p k) (ww p k)
theorem okSecs_at (p : Pol) : okSecs p = (secF p 0 && (secF p 1 && (secF p 2 && true))) := by simp [okSecs, secF, gg, ww]
def restS (p : Pol) : Nat → Bool
  | 0 => okSecs p
  | 1 => secF p 1 && (secF p 2 && true)
  | 2 => secF p 2 && true
  | _ => true
theorem restS_step (p : Pol) {k : Nat} (hk : k < 3) : restS p k = (secF p k && restS p (k + 1)) := by
  match k, hk with
  | 0, _ => exact okSecs_at p
  | 1, _ => rfl
  | 2, _ => rfl

set_option maxRecDepth 100000 in
set_option maxHeartbeats 4000000 in
theorem grValidSections_any (p : Pol) (w : World) :
    Calls Tryz.prog 145 #[.agg (pcl p).toArray] w fun e w' => e = .returned (.bool (okSecs p)) ∧ Below w.heap.size w w' := by
  have HW := Lib.hid (fun (lo hi : Int) (n : Int) (W : World) => grWithin_new lo hi [n] (W.alloc (.cells #[.int .i64 n] 3)) W.heap.size 1 1 rfl (alloc_at0 W _) (by simp))
  have hok : okSecs p = restS p 0 := rfl
  rw [hok]
  have HOK := Lib.hid hok
  clear hok
  unfold pcl
  obtain ⟨w1, hw1⟩ : ∃ w1, w.alloc (.cells #[.int .i64 p.id, .int .i64 p.clone, .int .i64 p.cut, .int .i64 p.shot, .int .i64 p.g0, .int .i64 p.g1, .int .i64 p.g2, .int .i64 p.w0, .int .i64 p.w1, .int .i64 p.w2, .int .i64 p.soak, .int .i64 p.place] 56) = w1 := ⟨_, rfl⟩
  have hb1 : Below w.heap.size w w1 := by rw [← hw1]; exact grow1 _ _
  have hm1 : w1.heap[w.heap.size]? = some (.cells #[.int .i64 p.id, .int .i64 p.clone, .int .i64 p.cut, .int .i64 p.shot, .int .i64 p.g0, .int .i64 p.g1, .int .i64 p.g2, .int .i64 p.w0, .int .i64 p.w1, .int .i64 p.w2, .int .i64 p.soak, .int .i64 p.place] 56 (0, 0)) := by rw [← hw1]; exact alloc_at0 _ _
  have H1 := Lib.hid (And.intro hb1 hm1)
  have hc1 := fun i => cell_of_row w1 w.heap.size i _ _ _ hm1
  clear hb1 hm1
  go_enter Tryz.func145, Tryz.ntmps145
  go_wp2
  go_loopg [8] 3 (fun gn s8 wx => ∃ k : Nat, k + gn = 3 ∧ s8 = .int .i64 k ∧ Hid (restS p k = restS p 0) ∧ Hid (Below w1.heap.size w1 wx))
  case atStart => exact ⟨0, by omega, rfl, rfl, Below.refl _ _⟩
  case round =>
    obtain ⟨k, hkg, rfl, hI, hBr⟩ := hrel
    cases gk with
    | zero =>
      obtain rfl : k = 3 := by omega
      go_wp2
      go_ret
      refine ⟨?_, H1.out.1.trans (hBr.out.mono H1.out.1.size)⟩
      rw [← hI.out]
      rfl
    | succ gn =>
      have hcr := fun i => cell_of_row wr w.heap.size i _ _ _ ((hBr.out.block _ (lt_of_heap H1.out.2)).trans H1.out.2)
      have hk3 : k = 0 ∨ k = 1 ∨ k = 2 := by omega
      have hst := restS_step p (k := k) (by omega)
      rw [hI.out] at hst
      clear hc1
      rcases hk3 with rfl | rfl | rfl
      · have hsec : secF p 0 = (allB 1 60 [p.w0] && (allB 10 300 [p.g0] && decide (2 * p.w0 ≤ p.g0))) := okSec_allB _ _
        rw [hsec] at hst
        clear hsec
        have hidx := idx3_0 p.w0 p.w1 p.w2
        cases ha : allB 1 60 [p.w0] with
        | false =>
          rw [ha] at hst
          have HST := Lib.hid hst
          have HA := Lib.hid ha
          clear hst ha
          go_wp2_with (first
            | (go_at_call 93; (with_reducible show Calls _ _ #[.agg #[.int .i64 1, _], _] _ _); refine (HW.out 1 60 p.w0 w2).mono ?_; rintro e w3 ⟨rfl, hB3⟩; rw [HA.out]; have B3 := Lib.hid (B2.out.trans (((grow1 w2 _).trans (hB3.mono (by simp))).mono B2.out.size)); clear hB3)
            | (go_at_call 101; refine (grFromOne_any _ _).mono ?_; rintro e w2 ⟨rfl, hB2⟩; have B2 := Lib.hid (hBr.out.trans (hB2.mono hBr.out.size)); clear hB2))
          go_ret
          exact ⟨by rw [HST.out]; rfl, H1.out.1.trans (B3.out.mono H1.out.1.size)⟩
        | true =>
          have hw6 : 1 ≤ p.w0 ∧ p.w0 ≤ 60 := by have := ha; simpa [allB, inR_iff] using this
          cases hb : allB 10 300 [p.g0] with
          | false =>
            rw [ha, hb] at hst
            have HST := Lib.hid hst
            have HA := Lib.hid ha
            have HB := Lib.hid hb
            clear hst ha hb
            go_wp2_with (first
              | (go_at_call 93; (with_reducible show Calls _ _ #[.agg #[.int .i64 1, _], _] _ _); refine (HW.out 1 60 p.w0 w2).mono ?_; rintro e w3 ⟨rfl, hB3⟩; rw [HA.out]; have B3 := Lib.hid (B2.out.trans (((grow1 w2 _).trans (hB3.mono (by simp))).mono B2.out.size)); clear hB3)
              | (go_at_call 93; (with_reducible show Calls _ _ #[.agg #[.int .i64 10, _], _] _ _); refine (HW.out 10 300 p.g0 w3).mono ?_; rintro e w4 ⟨rfl, hB4⟩; rw [HB.out]; have B4 := Lib.hid (B3.out.trans (((grow1 w3 _).trans (hB4.mono (by simp))).mono B3.out.size)); clear hB4)
              | (go_at_call 101; refine (grFromOne_any _ _).mono ?_; rintro e w2 ⟨rfl, hB2⟩; have B2 := Lib.hid (hBr.out.trans (hB2.mono hBr.out.size)); clear hB2))
            go_ret
            exact ⟨by rw [HST.out]; rfl, H1.out.1.trans (B4.out.mono H1.out.1.size)⟩
          | true =>
            by_cases hq : 2 * p.w0 ≤ p.g0
            · rw [ha, hb, show decide (2 * p.w0 ≤ p.g0) = true by simpa using hq] at hst
              have HST := Lib.hid hst
              have HA := Lib.hid ha
              have HB := Lib.hid hb
              clear hst ha hb
              have hq2 : ¬ p.g0 < 2 * p.w0 := by omega
              go_wp2_with (first
                | (go_at_call 93; (with_reducible show Calls _ _ #[.agg #[.int .i64 1, _], _] _ _); refine (HW.out 1 60 p.w0 w2).mono ?_; rintro e w3 ⟨rfl, hB3⟩; rw [HA.out]; have B3 := Lib.hid (B2.out.trans (((grow1 w2 _).trans (hB3.mono (by simp))).mono B2.out.size)); clear hB3)
                | (go_at_call 93; (with_reducible show Calls _ _ #[.agg #[.int .i64 10, _], _] _ _); refine (HW.out 10 300 p.g0 w3).mono ?_; rintro e w4 ⟨rfl, hB4⟩; rw [HB.out]; have B4 := Lib.hid (B3.out.trans (((grow1 w3 _).trans (hB4.mono (by simp))).mono B3.out.size)); clear hB4)
                | (go_at_call 101; refine (grFromOne_any _ _).mono ?_; rintro e w2 ⟨rfl, hB2⟩; have B2 := Lib.hid (hBr.out.trans (hB2.mono hBr.out.size)); clear hB2))
              go_roundg gn
              case measure => omega
              case rel => exact ⟨1, by omega, by go_num, by rw [HST.out]; rfl, B4.out⟩
            · rw [ha, hb, show decide (2 * p.w0 ≤ p.g0) = false by simpa using hq] at hst
              have HST := Lib.hid hst
              have HA := Lib.hid ha
              have HB := Lib.hid hb
              clear hst ha hb
              have hq2 : p.g0 < 2 * p.w0 := by omega
              go_wp2_with (first
                | (go_at_call 93; (with_reducible show Calls _ _ #[.agg #[.int .i64 1, _], _] _ _); refine (HW.out 1 60 p.w0 w2).mono ?_; rintro e w3 ⟨rfl, hB3⟩; rw [HA.out]; have B3 := Lib.hid (B2.out.trans (((grow1 w2 _).trans (hB3.mono (by simp))).mono B2.out.size)); clear hB3)
                | (go_at_call 93; (with_reducible show Calls _ _ #[.agg #[.int .i64 10, _], _] _ _); refine (HW.out 10 300 p.g0 w3).mono ?_; rintro e w4 ⟨rfl, hB4⟩; rw [HB.out]; have B4 := Lib.hid (B3.out.trans (((grow1 w3 _).trans (hB4.mono (by simp))).mono B3.out.size)); clear hB4)
                | (go_at_call 101; refine (grFromOne_any _ _).mono ?_; rintro e w2 ⟨rfl, hB2⟩; have B2 := Lib.hid (hBr.out.trans (hB2.mono hBr.out.size)); clear hB2))
              go_ret
              exact ⟨by rw [HST.out]; rfl, H1.out.1.trans (B4.out.mono H1.out.1.size)⟩
      · have hsec : secF p 1 = (allB 1 60 [p.w1] && (allB 10 300 [p.g1] && decide (2 * p.w1 ≤ p.g1))) := okSec_allB _ _
        rw [hsec] at hst
        clear hsec
        have hidx := idx3_1 p.w0 p.w1 p.w2
        cases ha : allB 1 60 [p.w1] with
        | false =>
          rw [ha] at hst
          have HST := Lib.hid hst
          have HA := Lib.hid ha
          clear hst ha
          go_wp2_with (first
            | (go_at_call 93; (with_reducible show Calls _ _ #[.agg #[.int .i64 1, _], _] _ _); refine (HW.out 1 60 p.w1 w2).mono ?_; rintro e w3 ⟨rfl, hB3⟩; rw [HA.out]; have B3 := Lib.hid (B2.out.trans (((grow1 w2 _).trans (hB3.mono (by simp))).mono B2.out.size)); clear hB3)
            | (go_at_call 101; refine (grFromOne_any _ _).mono ?_; rintro e w2 ⟨rfl, hB2⟩; have B2 := Lib.hid (hBr.out.trans (hB2.mono hBr.out.size)); clear hB2))
          go_ret
          exact ⟨by rw [HST.out]; rfl, H1.out.1.trans (B3.out.mono H1.out.1.size)⟩
        | true =>
          have hw6 : 1 ≤ p.w1 ∧ p.w1 ≤ 60 := by have := ha; simpa [allB, inR_iff] using this
          cases hb : allB 10 300 [p.g1] with
          | false =>
            rw [ha, hb] at hst
            have HST := Lib.hid hst
            have HA := Lib.hid ha
            have HB := Lib.hid hb
            clear hst ha hb
            go_wp2_with (first
              | (go_at_call 93; (with_reducible show Calls _ _ #[.agg #[.int .i64 1, _], _] _ _); refine (HW.out 1 60 p.w1 w2).mono ?_; rintro e w3 ⟨rfl, hB3⟩; rw [HA.out]; have B3 := Lib.hid (B2.out.trans (((grow1 w2 _).trans (hB3.mono (by simp))).mono B2.out.size)); clear hB3)
              | (go_at_call 93; (with_reducible show Calls _ _ #[.agg #[.int .i64 10, _], _] _ _); refine (HW.out 10 300 p.g1 w3).mono ?_; rintro e w4 ⟨rfl, hB4⟩; rw [HB.out]; have B4 := Lib.hid (B3.out.trans (((grow1 w3 _).trans (hB4.mono (by simp))).mono B3.out.size)); clear hB4)
              | (go_at_call 101; refine (grFromOne_any _ _).mono ?_; rintro e w2 ⟨rfl, hB2⟩; have B2 := Lib.hid (hBr.out.trans (hB2.mono hBr.out.size)); clear hB2))
            go_ret
            exact ⟨by rw [HST.out]; rfl, H1.out.1.trans (B4.out.mono H1.out.1.size)⟩
          | true =>
            by_cases hq : 2 * p.w1 ≤ p.g1
            · rw [ha, hb, show decide (2 * p.w1 ≤ p.g1) = true by simpa using hq] at hst
              have HST := Lib.hid hst
              have HA := Lib.hid ha
              have HB := Lib.hid hb
              clear hst ha hb
              have hq2 : ¬ p.g1 < 2 * p.w1 := by omega
              go_wp2_with (first
                | (go_at_call 93; (with_reducible show Calls _ _ #[.agg #[.int .i64 1, _], _] _ _); refine (HW.out 1 60 p.w1 w2).mono ?_; rintro e w3 ⟨rfl, hB3⟩; rw [HA.out]; have B3 := Lib.hid (B2.out.trans (((grow1 w2 _).trans (hB3.mono (by simp))).mono B2.out.size)); clear hB3)
                | (go_at_call 93; (with_reducible show Calls _ _ #[.agg #[.int .i64 10, _], _] _ _); refine (HW.out 10 300 p.g1 w3).mono ?_; rintro e w4 ⟨rfl, hB4⟩; rw [HB.out]; have B4 := Lib.hid (B3.out.trans (((grow1 w3 _).trans (hB4.mono (by simp))).mono B3.out.size)); clear hB4)
                | (go_at_call 101; refine (grFromOne_any _ _).mono ?_; rintro e w2 ⟨rfl, hB2⟩; have B2 := Lib.hid (hBr.out.trans (hB2.mono hBr.out.size)); clear hB2))
              go_roundg gn
              case measure => omega
              case rel => exact ⟨2, by omega, by go_num, by rw [HST.out]; rfl, B4.out⟩
            · rw [ha, hb, show decide (2 * p.w1 ≤ p.g1) = false by simpa using hq] at hst
              have HST := Lib.hid hst
              have HA := Lib.hid ha
              have HB := Lib.hid hb
              clear hst ha hb
              have hq2 : p.g1 < 2 * p.w1 := by omega
              go_wp2_with (first
                | (go_at_call 93; (with_reducible show Calls _ _ #[.agg #[.int .i64 1, _], _] _ _); refine (HW.out 1 60 p.w1 w2).mono ?_; rintro e w3 ⟨rfl, hB3⟩; rw [HA.out]; have B3 := Lib.hid (B2.out.trans (((grow1 w2 _).trans (hB3.mono (by simp))).mono B2.out.size)); clear hB3)
                | (go_at_call 93; (with_reducible show Calls _ _ #[.agg #[.int .i64 10, _], _] _ _); refine (HW.out 10 300 p.g1 w3).mono ?_; rintro e w4 ⟨rfl, hB4⟩; rw [HB.out]; have B4 := Lib.hid (B3.out.trans (((grow1 w3 _).trans (hB4.mono (by simp))).mono B3.out.size)); clear hB4)
                | (go_at_call 101; refine (grFromOne_any _ _).mono ?_; rintro e w2 ⟨rfl, hB2⟩; have B2 := Lib.hid (hBr.out.trans (hB2.mono hBr.out.size)); clear hB2))
              go_ret
              exact ⟨by rw [HST.out]; rfl, H1.out.1.trans (B4.out.mono H1.out.1.size)⟩
      · have hsec : secF p 2 = (allB 1 60 [p.w2] && (allB 10 300 [p.g2] && decide (2 * p.w2 ≤ p.g2))) := okSec_allB _ _
        rw [hsec] at hst
        clear hsec
        have hidx := idx3_2 p.w0 p.w1 p.w2
        cases ha : allB 1 60 [p.w2] with
        | false =>
          rw [ha] at hst
          have HST := Lib.hid hst
          have HA := Lib.hid ha
          clear hst ha
          go_wp2_with (first
            | (go_at_call 93; (with_reducible show Calls _ _ #[.agg #[.int .i64 1, _], _] _ _); refine (HW.out 1 60 p.w2 w2).mono ?_; rintro e w3 ⟨rfl, hB3⟩; rw [HA.out]; have B3 := Lib.hid (B2.out.trans (((grow1 w2 _).trans (hB3.mono (by simp))).mono B2.out.size)); clear hB3)
            | (go_at_call 101; refine (grFromOne_any _ _).mono ?_; rintro e w2 ⟨rfl, hB2⟩; have B2 := Lib.hid (hBr.out.trans (hB2.mono hBr.out.size)); clear hB2))
          go_ret
          exact ⟨by rw [HST.out]; rfl, H1.out.1.trans (B3.out.mono H1.out.1.size)⟩
        | true =>
          have hw6 : 1 ≤ p.w2 ∧ p.w2 ≤ 60 := by have := ha; simpa [allB, inR_iff] using this
          cases hb : allB 10 300 [p.g2] with
          | false =>
            rw [ha, hb] at hst
            have HST := Lib.hid hst
            have HA := Lib.hid ha
            have HB := Lib.hid hb
            clear hst ha hb
            go_wp2_with (first
              | (go_at_call 93; (with_reducible show Calls _ _ #[.agg #[.int .i64 1, _], _] _ _); refine (HW.out 1 60 p.w2 w2).mono ?_; rintro e w3 ⟨rfl, hB3⟩; rw [HA.out]; have B3 := Lib.hid (B2.out.trans (((grow1 w2 _).trans (hB3.mono (by simp))).mono B2.out.size)); clear hB3)
              | (go_at_call 93; (with_reducible show Calls _ _ #[.agg #[.int .i64 10, _], _] _ _); refine (HW.out 10 300 p.g2 w3).mono ?_; rintro e w4 ⟨rfl, hB4⟩; rw [HB.out]; have B4 := Lib.hid (B3.out.trans (((grow1 w3 _).trans (hB4.mono (by simp))).mono B3.out.size)); clear hB4)
              | (go_at_call 101; refine (grFromOne_any _ _).mono ?_; rintro e w2 ⟨rfl, hB2⟩; have B2 := Lib.hid (hBr.out.trans (hB2.mono hBr.out.size)); clear hB2))
            go_ret
            exact ⟨by rw [HST.out]; rfl, H1.out.1.trans (B4.out.mono H1.out.1.size)⟩
          | true =>
            by_cases hq : 2 * p.w2 ≤ p.g2
            · rw [ha, hb, show decide (2 * p.w2 ≤ p.g2) = true by simpa using hq] at hst
              have HST := Lib.hid hst
              have HA := Lib.hid ha
              have HB := Lib.hid hb
              clear hst ha hb
              have hq2 : ¬ p.g2 < 2 * p.w2 := by omega
              go_wp2_with (first
                | (go_at_call 93; (with_reducible show Calls _ _ #[.agg #[.int .i64 1, _], _] _ _); refine (HW.out 1 60 p.w2 w2).mono ?_; rintro e w3 ⟨rfl, hB3⟩; rw [HA.out]; have B3 := Lib.hid (B2.out.trans (((grow1 w2 _).trans (hB3.mono (by simp))).mono B2.out.size)); clear hB3)
                | (go_at_call 93; (with_reducible show Calls _ _ #[.agg #[.int .i64 10, _], _] _ _); refine (HW.out 10 300 p.g2 w3).mono ?_; rintro e w4 ⟨rfl, hB4⟩; rw [HB.out]; have B4 := Lib.hid (B3.out.trans (((grow1 w3 _).trans (hB4.mono (by simp))).mono B3.out.size)); clear hB4)
                | (go_at_call 101; refine (grFromOne_any _ _).mono ?_; rintro e w2 ⟨rfl, hB2⟩; have B2 := Lib.hid (hBr.out.trans (hB2.mono hBr.out.size)); clear hB2))
              go_roundg gn
              case measure => omega
              case rel => exact ⟨3, by omega, by go_num, by rw [HST.out]; rfl, B4.out⟩
            · rw [ha, hb, show decide (2 * p.w2 ≤ p.g2) = false by simpa using hq] at hst
              have HST := Lib.hid hst
              have HA := Lib.hid ha
              have HB := Lib.hid hb
              clear hst ha hb
              have hq2 : p.g2 < 2 * p.w2 := by omega
              go_wp2_with (first
                | (go_at_call 93; (with_reducible show Calls _ _ #[.agg #[.int .i64 1, _], _] _ _); refine (HW.out 1 60 p.w2 w2).mono ?_; rintro e w3 ⟨rfl, hB3⟩; rw [HA.out]; have B3 := Lib.hid (B2.out.trans (((grow1 w2 _).trans (hB3.mono (by simp))).mono B2.out.size)); clear hB3)
                | (go_at_call 93; (with_reducible show Calls _ _ #[.agg #[.int .i64 10, _], _] _ _); refine (HW.out 10 300 p.g2 w3).mono ?_; rintro e w4 ⟨rfl, hB4⟩; rw [HB.out]; have B4 := Lib.hid (B3.out.trans (((grow1 w3 _).trans (hB4.mono (by simp))).mono B3.out.size)); clear hB4)
                | (go_at_call 101; refine (grFromOne_any _ _).mono ?_; rintro e w2 ⟨rfl, hB2⟩; have B2 := Lib.hid (hBr.out.trans (hB2.mono hBr.out.size)); clear hB2))
              go_ret
              exact ⟨by rw [HST.out]; rfl, H1.out.1.trans (B4.out.mono H1.out.1.size)⟩

end Go.Proofs.YtpnnlmaipcjkmaaGreat
