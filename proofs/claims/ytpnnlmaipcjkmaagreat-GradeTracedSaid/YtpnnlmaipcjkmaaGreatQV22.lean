/-
  Whether a grading is valid (the reference's).
-/
import Derived.BigGuardPart
import Derived.Outline
import Derived.Test.YtpnnlmaipcjkmaaGreatQV21
import Derived.Test.YtpnnlmaipcjkmaaGreatQV14
set_option linter.all false
namespace Go.Proofs.YtpnnlmaipcjkmaaGreat
open Go.RowKit Go.BigFrame
open R6 (done done_ne done_me upd_ne upd_me)

attribute [local go_sem] gives

def stOk (y : Gd) (k : Nat) : Bool := inR (st0 y k).1 1 (st0 y k).2 && decide ((st0 y k).2 ≤ 200000)
theorem okGd_ref (y : Gd) (a v : Int) (ha : 0 ≤ a) (hv : 1 ≤ v) : okGd y a v = ((inR y.age 0 6 && (inR y.wall 1 60 && (decide (a ≤ y.age) && decide (v ≤ y.wall)))) && (List.range 3).all (stOk y)) := by
  have e : (List.range 3).all (stOk y) = (stOk y 0 && (stOk y 1 && stOk y 2)) := by simp [List.range_succ, Bool.and_assoc]
  rw [e, Bool.eq_iff_iff]
  unfold okGd okSt stOk
  have e0 : st0 y 0 = (y.l0, y.h0) := rfl
  have e1 : st0 y 1 = (y.l1, y.h1) := rfl
  have e2 : st0 y 2 = (y.l2, y.h2) := rfl
  rw [e0, e1, e2]
  simp only [Bool.and_eq_true, inR_iff, decide_eq_true_eq]
  omega
theorem okGd_no {y q : Gd} (hq : 0 ≤ q.age ∧ 1 ≤ q.wall) {k : Nat} (hk : k < 3) (h : stOk y k = false) : okGd y q.age q.wall = false := by
  rw [okGd_ref y _ _ hq.1 hq.2]
  have : (List.range 3).all (stOk y) = false := List.all_eq_false.2 ⟨k, List.mem_range.2 hk, by simp [h]⟩
  rw [this, Bool.and_false]
theorem all_range6 (f : Nat → Bool) (k : Nat) : (List.range (k + 1)).all f = ((List.range k).all f && f k) := by
  rw [List.range_succ, List.all_append]
  simp

set_option maxRecDepth 100000 in
set_option maxHeartbeats 16000000 in
theorem rfGrading_any (gs : List Gd) (vary : Int) (AG : Option Addr) (cg : Nat) (B : Nat) (w : World) (hB : B ≤ w.heap.size) (hg : GdAt w B gs AG) :
    Calls Tryz.prog 81 #[.agg #[.slice AG gs.length cg, .int .i64 vary]] w fun e w' => e = .returned (.bool (okGrading gs vary)) ∧ Below w.heap.size w w' := by
  obtain ⟨w1, hw1⟩ : ∃ w1, w.alloc (.cells #[.slice AG gs.length cg, .int .i64 vary] 28) = w1 := ⟨_, rfl⟩
  have hb1 : Below w.heap.size w w1 := by rw [← hw1]; exact grow1 _ _
  have m1 : w1.heap[w.heap.size]? = some (.cells #[.slice AG gs.length cg, .int .i64 vary] 28 (0, 0)) := by rw [← hw1]; exact alloc_at0 _ _
  have hlg := hg.lg
  have f1 : w1.cell? ⟨w.heap.size, 0, none⟩ = some (.slice AG gs.length cg) := cell_of_row w1 _ 0 _ _ _ m1
  have f2 : w1.cell? ⟨w.heap.size, 1, none⟩ = some (.int .i64 vary) := cell_of_row w1 _ 1 _ _ _ m1
  have HM := Lib.hid (And.intro hb1 m1)
  have hpe := fun (j : Nat) (hj : j < gs.length) => vals_elem gcl_len hg.g (by decide) hj
  have HPE := Lib.hid hpe
  unfold okGrading
  clear hb1 m1 hg hpe
  cases h1 : inR gs.length 1 3
  · have H1 := Lib.hid h1
    rw [Bool.false_and]
    clear h1
    go_enter Tryz.func81, Tryz.ntmps81
    go_wp2_with (first
      | go_big_skip
      | (go_at_call 67; refine (rfWithin_any _ _ _ _).mono ?_; rintro e _ ⟨rfl, rfl⟩; (first | rw [H1.out])))
    go_ret
    exact ⟨rfl, HM.out.1⟩
  rw [Bool.true_and]
  have H1 := Lib.hid h1
  clear h1
  cases h2 : inR vary 0 200000
  · have H2 := Lib.hid h2
    rw [Bool.false_and]
    clear h2
    go_enter Tryz.func81, Tryz.ntmps81
    go_wp2_with (first
      | go_big_skip
      | (go_at_call 67; refine (rfWithin_any _ _ _ _).mono ?_; rintro e _ ⟨rfl, rfl⟩; (first | rw [H1.out] | rw [H2.out])))
    go_ret
    exact ⟨rfl, HM.out.1⟩
  rw [Bool.true_and]
  have H2 := Lib.hid h2
  clear h2
  obtain ⟨r, hr⟩ : ∃ r, okGds gs 0 1 = r := ⟨_, rfl⟩
  rw [hr]
  have HRR := Lib.hid hr
  clear hr
  go_enter Tryz.func81, Tryz.ntmps81
  go_wp2_with (first
    | go_big_skip
    | (go_at_call 67; refine (rfWithin_any _ _ _ _).mono ?_; rintro e _ ⟨rfl, rfl⟩; (first | rw [H1.out] | rw [H2.out])))
  clear f1 f2
  go_loopg [3] gs.length (fun gn s3 wx => ∃ (j : Nat) (q : Gd), j + gn = gs.length ∧ s3 = .int .i64 j ∧ Hid (okGds (gs.drop j) q.age q.wall = r ∧ (0 ≤ q.age ∧ 1 ≤ q.wall) ∧ (0 < j → gs[j - 1]? = some q) ∧ (j = 0 → q.age = 0 ∧ q.wall = 1) ∧ Below w.heap.size w wx ∧ wx.heap[w.heap.size]? = some (.cells #[.slice AG gs.length cg, .int .i64 vary] 28 (0, 0))))
  case atStart => exact ⟨0, ⟨0, 1, 0, 0, 0, 0, 0, 0⟩, by omega, rfl, HRR.out, ⟨by decide, by decide⟩, fun h => absurd h (by decide), fun _ => ⟨rfl, rfl⟩, HM.out⟩
  case round =>
    obtain ⟨j, q, hjg, rfl, hJ⟩ := hrel
    have hcr : wr.cell? ⟨w.heap.size, 0, none⟩ = some (.slice AG gs.length cg) := cell_of_row wr _ 0 _ _ _ hJ.out.2.2.2.2.2
    cases gk with
    | zero =>
      have hJ' := hJ.out
      obtain rfl : j = gs.length := by omega
      rw [List.drop_length] at hJ'
      have HJ := Lib.hid hJ'
      clear hJ' hJ
      go_wp2
      go_ret
      exact ⟨by rw [← HJ.out.1]; rfl, HJ.out.2.2.2.2.1⟩
    | succ gn =>
      have hj : j < gs.length := by omega
      have hjz : (j : Int) < gs.length := by omega
      obtain ⟨c, off, hA, hcB, hc⟩ := HPE.out j hj
      subst hA
      have hc' : ∀ n v, (gcl gs[j])[n]? = some v → wr.cell? ⟨c, off + j * 8 + n, none⟩ = some v := fun n v hv => (hJ.out.2.2.2.2.1.cell (p := ⟨c, off + j * 8 + n, none⟩) (by simp; omega)).trans (hc n v hv)
      have hst : okGds (gs.drop j) q.age q.wall = (okGd gs[j] q.age q.wall && okGds (gs.drop (j + 1)) gs[j].age gs[j].wall) := by rw [List.drop_eq_getElem_cons hj]; rfl
      rw [hJ.out.1] at hst
      have hyj : gs[j]? = some gs[j] := List.getElem?_eq_getElem hj
      have hqq := hJ.out.2.1
      generalize gs[j] = y at hc' hst hyj
      have HST := Lib.hid (And.intro hst (And.intro hyj hqq))
      have HCC := Lib.hid hc'
      have HJ := Lib.hid hJ.out.2.2
      clear hc hc' hst hyj hJ hqq
      go_wp2_with (first
        | (show wpList _ _ _ (Oper.mk (some 28) _ _ _ _ _ :: _) _ _
           refine wpList_load_at 53 (.tmp 27) rfl rfl rfl (gcl y) HCC.out rowGrade ?_)
        | (show wpList _ _ _ (Oper.mk none (Op.store _ (Operand.tmp 4) (Operand.tmp 28)) _ _ _ _ :: _) _ _
           refine wpList_store_blk 53 (.tmp 4) (.tmp 28) rfl rfl rfl rfl rfl (alloc_at0 wr _) (Nat.le_of_ble_eq_true rfl) (fun v hv => gcl_one [y] v (by simpa using hv)) rowGrade ?_
           intro w5 hP5 hM5
           rw [splice_whole (by rfl)] at hM5
           have hb5 : Below wr.heap.size wr w5 := (grow1 wr _).trans (hP5.below (Nat.le_refl _))
           have H5 := Lib.hid (And.intro hM5 (And.intro (HJ.out.2.2.1.trans (hb5.mono HJ.out.2.2.1.size)) ((hb5.block _ (lt_of_heap HJ.out.2.2.2)).trans HJ.out.2.2.2)))
           clear hP5 hM5 hb5))
      clear hcr
      cases c1 : inR y.age 0 6
      · have H3 := Lib.hid c1
        clear c1
        refine R6.wp_walk (C := fun _ _ W => Below w5.heap.size w5 W) 91 (by kernel_rfl) (by kernel_rfl) rfl (Below.refl _ _).drew ?_
        simp only []
        repeat (first
          | (refine R6.WalkR.un (fun _ => rfl) (fun D ρ W hK hC => hC) ?_
             simp only [Act.put, List.setIfInBounds_toArray, List.set_cons_succ, List.set_cons_zero])
          | (refine' R6.WalkR.det (fun _ => rfl) (fun D ρ W hK hC => ?_) ?_
             rotate_left
             · have f1 : W.cell? ⟨w.heap.size, 0, none⟩ = some (.slice (some ⟨c, off, none⟩) gs.length cg) := cell_of_row W _ 0 _ _ _ ((hC.block _ (lt_of_heap H5.out.2.2)).trans H5.out.2.2)
               have hy5 := (hC.block _ (lt_of_heap H5.out.1)).trans H5.out.1
               have f2 : W.cell? ⟨wr.heap.size, 0, none⟩ = some (.int .i64 y.age) := cell_of_row W _ 0 _ _ _ hy5
               have f3 : W.cell? ⟨wr.heap.size, 1, none⟩ = some (.int .i64 y.wall) := cell_of_row W _ 1 _ _ _ hy5
               clear hy5
               have HC := Lib.hid hC
               clear hC hK
               go_simp
               first
                 | with_reducible exact ⟨rfl, HC.out⟩
                 | (go_at_call 67; refine (rfWithin_any _ _ _ W).mono ?_; rintro e _ ⟨rfl, rfl⟩; (first | rw [H3.out]); exact ⟨_, rfl, rfl, HC.out⟩)
             simp only [Act.put, List.setIfInBounds_toArray, List.set_cons_succ, List.set_cons_zero]))
        refine R6.WalkR.nil (fun D ρ W6 hD hC => ?_)
        have H6 := Lib.hid (And.intro ((hC.block _ (lt_of_heap H5.out.1)).trans H5.out.1) (And.intro (H5.out.2.1.trans (hC.mono H5.out.2.1.size)) ((hC.block _ (lt_of_heap H5.out.2.2)).trans H5.out.2.2)))
        clear hC hD
        go_wp2
        go_ret
        exact ⟨by rw [HST.out.1, okGd_ref y _ _ HST.out.2.2.1 HST.out.2.2.2, H3.out]; rfl, H6.out.2.1⟩
      have H3 := Lib.hid c1
      clear c1
      cases c2 : inR y.wall 1 60
      · have H4 := Lib.hid c2
        clear c2
        refine R6.wp_walk (C := fun _ _ W => Below w5.heap.size w5 W) 91 (by kernel_rfl) (by kernel_rfl) rfl (Below.refl _ _).drew ?_
        simp only []
        repeat (first
          | (refine R6.WalkR.un (fun _ => rfl) (fun D ρ W hK hC => hC) ?_
             simp only [Act.put, List.setIfInBounds_toArray, List.set_cons_succ, List.set_cons_zero])
          | (refine' R6.WalkR.det (fun _ => rfl) (fun D ρ W hK hC => ?_) ?_
             rotate_left
             · have f1 : W.cell? ⟨w.heap.size, 0, none⟩ = some (.slice (some ⟨c, off, none⟩) gs.length cg) := cell_of_row W _ 0 _ _ _ ((hC.block _ (lt_of_heap H5.out.2.2)).trans H5.out.2.2)
               have hy5 := (hC.block _ (lt_of_heap H5.out.1)).trans H5.out.1
               have f2 : W.cell? ⟨wr.heap.size, 0, none⟩ = some (.int .i64 y.age) := cell_of_row W _ 0 _ _ _ hy5
               have f3 : W.cell? ⟨wr.heap.size, 1, none⟩ = some (.int .i64 y.wall) := cell_of_row W _ 1 _ _ _ hy5
               clear hy5
               have HC := Lib.hid hC
               clear hC hK
               go_simp
               first
                 | with_reducible exact ⟨rfl, HC.out⟩
                 | (go_at_call 67; refine (rfWithin_any _ _ _ W).mono ?_; rintro e _ ⟨rfl, rfl⟩; (first | rw [H3.out] | rw [H4.out]); exact ⟨_, rfl, rfl, HC.out⟩)
             simp only [Act.put, List.setIfInBounds_toArray, List.set_cons_succ, List.set_cons_zero]))
        refine R6.WalkR.nil (fun D ρ W6 hD hC => ?_)
        have H6 := Lib.hid (And.intro ((hC.block _ (lt_of_heap H5.out.1)).trans H5.out.1) (And.intro (H5.out.2.1.trans (hC.mono H5.out.2.1.size)) ((hC.block _ (lt_of_heap H5.out.2.2)).trans H5.out.2.2)))
        clear hC hD
        go_wp2
        go_ret
        exact ⟨by rw [HST.out.1, okGd_ref y _ _ HST.out.2.2.1 HST.out.2.2.2, H3.out, H4.out]; rfl, H6.out.2.1⟩
      have H4 := Lib.hid c2
      clear c2
      cases j with
      | zero =>
        have hq0 := HJ.out.2.1 rfl
        have hl1 : decide (q.age ≤ y.age) = true := by have := (inR_iff.1 H3.out).1; simp; omega
        have hl2 : decide (q.wall ≤ y.wall) = true := by have := (inR_iff.1 H4.out).1; simp; omega
        have HL := Lib.hid (And.intro hl1 hl2)
        clear hq0 hl1 hl2
        refine R6.wp_walk (C := fun _ _ W => Below w5.heap.size w5 W) 91 (by kernel_rfl) (by kernel_rfl) rfl (Below.refl _ _).drew ?_
        simp only []
        repeat (first
          | (refine R6.WalkR.un (fun _ => rfl) (fun D ρ W hK hC => hC) ?_
             simp only [Act.put, List.setIfInBounds_toArray, List.set_cons_succ, List.set_cons_zero])
          | (refine' R6.WalkR.det (fun _ => rfl) (fun D ρ W hK hC => ?_) ?_
             rotate_left
             · have f1 : W.cell? ⟨w.heap.size, 0, none⟩ = some (.slice (some ⟨c, off, none⟩) gs.length cg) := cell_of_row W _ 0 _ _ _ ((hC.block _ (lt_of_heap H5.out.2.2)).trans H5.out.2.2)
               have hy5 := (hC.block _ (lt_of_heap H5.out.1)).trans H5.out.1
               have f2 : W.cell? ⟨wr.heap.size, 0, none⟩ = some (.int .i64 y.age) := cell_of_row W _ 0 _ _ _ hy5
               have f3 : W.cell? ⟨wr.heap.size, 1, none⟩ = some (.int .i64 y.wall) := cell_of_row W _ 1 _ _ _ hy5
               clear hy5
               have HC := Lib.hid hC
               clear hC hK
               go_simp
               first
                 | with_reducible exact ⟨rfl, HC.out⟩
                 | (go_at_call 67; refine (rfWithin_any _ _ _ W).mono ?_; rintro e _ ⟨rfl, rfl⟩; (first | rw [H3.out] | rw [H4.out]); exact ⟨_, rfl, rfl, HC.out⟩)
             simp only [Act.put, List.setIfInBounds_toArray, List.set_cons_succ, List.set_cons_zero]))
        refine R6.WalkR.nil (fun D ρ W6 hD hC => ?_)
        have H6 := Lib.hid (And.intro ((hC.block _ (lt_of_heap H5.out.1)).trans H5.out.1) (And.intro (H5.out.2.1.trans (hC.mono H5.out.2.1.size)) ((hC.block _ (lt_of_heap H5.out.2.2)).trans H5.out.2.2)))
        clear hC hD
        go_wp2
        obtain ⟨wo, rfl⟩ : ∃ wo : World, wo = wr := ⟨_, rfl⟩
        go_loopg [5] 3 (fun gm s5 wx => ∃ k : Nat, k + gm = 3 ∧ s5 = .int .i64 k ∧ Hid ((List.range k).all (stOk y) = true ∧ wx.heap[wo.heap.size]? = some (.cells (gcl y).toArray 53 (0, 0)) ∧ Below w.heap.size w wx ∧ wx.heap[w.heap.size]? = some (.cells #[.slice (some ⟨c, off, none⟩) gs.length cg, .int .i64 vary] 28 (0, 0))))
        case atStart => exact ⟨0, by omega, rfl, rfl, H6.out⟩
        case round =>
          obtain ⟨k, hkg, rfl, hK⟩ := hrel
          have HK := Lib.hid hK.out
          clear hK
          cases gk with
          | zero =>
            obtain rfl : k = 3 := by omega
            go_wp2
            go_roundg gn
            case measure => omega
            case rel => exact ⟨0 + 1, y, by omega, by go_num, by have := HST.out.1; rw [okGd_ref y _ _ HST.out.2.2.1 HST.out.2.2.2, H3.out, H4.out, HL.out.1, HL.out.2, HK.out.1] at this; simpa using this.symm, ⟨(inR_iff.1 H3.out).1, (inR_iff.1 H4.out).1⟩, fun _ => HST.out.2.1, fun h => absurd h (by omega), HK.out.2.2⟩
          | succ gm =>
            have hk : k < 3 := by omega
            have hkz : (k : Int) < 3 := by omega
            have hs0 : ∀ m v, (sp2 (st0 y k))[m]? = some v → (gcl y).toArray[2 + k * 2 + m]? = some v := fun m v hv => by rw [List.getElem?_toArray]; exact gcl_st0 y hk m v hv
            have hno := fun (h : stOk y k = false) => okGd_no (y := y) HST.out.2.2 hk h
            have hsk : stOk y k = (inR (st0 y k).1 1 (st0 y k).2 && decide ((st0 y k).2 ≤ 200000)) := rfl
            have hrs := all_range6 (stOk y) k
            rw [HK.out.1, Bool.true_and] at hrs
            generalize hsz : st0 y k = s at hs0 hsk
            obtain ⟨s1, s2⟩ := s
            have hsk' : stOk y k = (inR s1 1 s2 && decide (s2 ≤ 200000)) := hsk
            have HS := Lib.hid (And.intro hs0 (And.intro hno (And.intro hrs hsk')))
            clear hs0 hno hsk hsk' hrs hsz
            cases d1 : inR s1 1 s2
            · have D1 := Lib.hid d1
              clear d1
              go_wp2
              refine R6.wp_walk (C := fun _ _ W => Below wr.heap.size wr W) 91 (by kernel_rfl) (by kernel_rfl) rfl (Below.refl _ _).drew ?_
              simp only []
              repeat (first
                | (refine R6.WalkR.un (fun _ => rfl) (fun D ρ W hK hC => hC) ?_
                   simp only [Act.put, List.setIfInBounds_toArray, List.set_cons_succ, List.set_cons_zero])
                | (refine' R6.WalkR.det (fun _ => rfl) (fun D ρ W hK hC => ?_) ?_
                   rotate_left
                   · have hy6 := (hC.block _ (lt_of_heap HK.out.2.1)).trans HK.out.2.1
                     have f1 : W.cell? ⟨wo.heap.size, 2 + k * 2, none⟩ = some (.int .i64 s1) := (cell_of_row W _ (2 + k * 2) _ _ _ hy6).trans (HS.out.1 0 _ rfl)
                     have f2 : W.cell? ⟨wo.heap.size, 2 + k * 2 + 1, none⟩ = some (.int .i64 s2) := (cell_of_row W _ (2 + k * 2 + 1) _ _ _ hy6).trans (HS.out.1 1 _ rfl)
                     clear hy6
                     have HC := Lib.hid hC
                     clear hC hK
                     go_simp
                     first
                       | with_reducible exact ⟨rfl, HC.out⟩
                       | (go_at_call 67; refine (rfWithin_any _ _ _ W).mono ?_; rintro e _ ⟨rfl, rfl⟩; (first | rw [D1.out]); exact ⟨_, rfl, rfl, HC.out⟩)
                   simp only [Act.put, List.setIfInBounds_toArray, List.set_cons_succ, List.set_cons_zero]))
              refine R6.WalkR.nil (fun D ρ W8 hD hC => ?_)
              have H8 := Lib.hid (And.intro ((hC.block _ (lt_of_heap HK.out.2.1)).trans HK.out.2.1) (And.intro (HK.out.2.2.1.trans (hC.mono HK.out.2.2.1.size)) ((hC.block _ (lt_of_heap HK.out.2.2.2)).trans HK.out.2.2.2)))
              clear hC hD
              go_wp2
              go_ret
              exact ⟨by rw [HST.out.1, HS.out.2.1 (by rw [HS.out.2.2.2, D1.out]; rfl)]; rfl, H8.out.2.1⟩
            · have D1 := Lib.hid d1
              clear d1
              by_cases d2 : 200000 < s2
              · have D2 := Lib.hid d2
                go_wp2
                refine R6.wp_walk (C := fun _ _ W => Below wr.heap.size wr W) 91 (by kernel_rfl) (by kernel_rfl) rfl (Below.refl _ _).drew ?_
                simp only []
                repeat (first
                  | (refine R6.WalkR.un (fun _ => rfl) (fun D ρ W hK hC => hC) ?_
                     simp only [Act.put, List.setIfInBounds_toArray, List.set_cons_succ, List.set_cons_zero])
                  | (refine' R6.WalkR.det (fun _ => rfl) (fun D ρ W hK hC => ?_) ?_
                     rotate_left
                     · have hy6 := (hC.block _ (lt_of_heap HK.out.2.1)).trans HK.out.2.1
                       have f1 : W.cell? ⟨wo.heap.size, 2 + k * 2, none⟩ = some (.int .i64 s1) := (cell_of_row W _ (2 + k * 2) _ _ _ hy6).trans (HS.out.1 0 _ rfl)
                       have f2 : W.cell? ⟨wo.heap.size, 2 + k * 2 + 1, none⟩ = some (.int .i64 s2) := (cell_of_row W _ (2 + k * 2 + 1) _ _ _ hy6).trans (HS.out.1 1 _ rfl)
                       clear hy6
                       have d2 := D2.out
                       have HC := Lib.hid hC
                       clear hC hK
                       go_simp
                       first
                         | with_reducible exact ⟨rfl, HC.out⟩
                         | (go_at_call 67; refine (rfWithin_any _ _ _ W).mono ?_; rintro e _ ⟨rfl, rfl⟩; (first | rw [D1.out]); exact ⟨_, rfl, rfl, HC.out⟩)
                     simp only [Act.put, List.setIfInBounds_toArray, List.set_cons_succ, List.set_cons_zero]))
                refine R6.WalkR.nil (fun D ρ W8 hD hC => ?_)
                have H8 := Lib.hid (And.intro ((hC.block _ (lt_of_heap HK.out.2.1)).trans HK.out.2.1) (And.intro (HK.out.2.2.1.trans (hC.mono HK.out.2.2.1.size)) ((hC.block _ (lt_of_heap HK.out.2.2.2)).trans HK.out.2.2.2)))
                clear hC hD
                go_wp2
                go_ret
                exact ⟨by rw [HST.out.1, HS.out.2.1 (by rw [HS.out.2.2.2, decide_eq_false (Int.not_le.2 D2.out), Bool.and_false])]; rfl, H8.out.2.1⟩
              · have D2 := Lib.hid (Int.not_lt.1 d2)
                go_wp2
                refine R6.wp_walk (C := fun _ _ W => Below wr.heap.size wr W) 91 (by kernel_rfl) (by kernel_rfl) rfl (Below.refl _ _).drew ?_
                simp only []
                repeat (first
                  | (refine R6.WalkR.un (fun _ => rfl) (fun D ρ W hK hC => hC) ?_
                     simp only [Act.put, List.setIfInBounds_toArray, List.set_cons_succ, List.set_cons_zero])
                  | (refine' R6.WalkR.det (fun _ => rfl) (fun D ρ W hK hC => ?_) ?_
                     rotate_left
                     · have hy6 := (hC.block _ (lt_of_heap HK.out.2.1)).trans HK.out.2.1
                       have f1 : W.cell? ⟨wo.heap.size, 2 + k * 2, none⟩ = some (.int .i64 s1) := (cell_of_row W _ (2 + k * 2) _ _ _ hy6).trans (HS.out.1 0 _ rfl)
                       have f2 : W.cell? ⟨wo.heap.size, 2 + k * 2 + 1, none⟩ = some (.int .i64 s2) := (cell_of_row W _ (2 + k * 2 + 1) _ _ _ hy6).trans (HS.out.1 1 _ rfl)
                       clear hy6
                       have d2 := D2.out
                       have HC := Lib.hid hC
                       clear hC hK
                       go_simp
                       first
                         | with_reducible exact ⟨rfl, HC.out⟩
                         | (go_at_call 67; refine (rfWithin_any _ _ _ W).mono ?_; rintro e _ ⟨rfl, rfl⟩; (first | rw [D1.out]); exact ⟨_, rfl, rfl, HC.out⟩)
                     simp only [Act.put, List.setIfInBounds_toArray, List.set_cons_succ, List.set_cons_zero]))
                refine R6.WalkR.nil (fun D ρ W8 hD hC => ?_)
                have H8 := Lib.hid (And.intro ((hC.block _ (lt_of_heap HK.out.2.1)).trans HK.out.2.1) (And.intro (HK.out.2.2.1.trans (hC.mono HK.out.2.2.1.size)) ((hC.block _ (lt_of_heap HK.out.2.2.2)).trans HK.out.2.2.2)))
                clear hC hD
                go_wp2
                go_roundg gm
                case measure => omega
                case rel => exact ⟨k + 1, by omega, by go_num, by rw [HS.out.2.2.1, HS.out.2.2.2, D1.out, decide_eq_true D2.out]; rfl, H8.out⟩
      | succ j =>
        have hjj : (j : Int) < gs.length := by omega
        have hpv := HJ.out.1 (by omega)
        rw [Nat.add_sub_cancel] at hpv
        obtain ⟨c', o', hA, -, hcq⟩ := HPE.out j (by omega)
        simp only [Option.some.injEq, Addr.mk.injEq, and_true] at hA
        obtain ⟨rfl, rfl⟩ := hA
        rw [List.getElem?_eq_getElem (by omega)] at hpv
        rw [Option.some.inj hpv] at hcq
        have hcq5 : ∀ m v, (gcl q)[m]? = some v → w5.cell? ⟨c, off + j * 8 + m, none⟩ = some v := fun m v hv => (H5.out.2.1.cell (p := ⟨c, off + j * 8 + m, none⟩) (by simp; omega)).trans (hcq m v hv)
        have HPV := Lib.hid (And.intro hcq5 (show c < w5.heap.size from Nat.lt_of_lt_of_le (Nat.lt_of_lt_of_le hcB hB) H5.out.2.1.size))
        have v1 : IntKind.i64.wrap (j : Int) = j := IntWalk.i64_in _ (by omega)
        have v2 : IntKind.i64.wrap ((j : Int) + 1 - 1) = j := by rw [Int.add_sub_cancel]; exact v1
        have HV := Lib.hid (And.intro v1 v2)
        clear hpv hcq hcq5 v1 v2
        by_cases c3 : y.age < q.age
        · have H7 := Lib.hid c3
          refine R6.wp_walk (C := fun _ _ W => Below w5.heap.size w5 W) 91 (by kernel_rfl) (by kernel_rfl) rfl (Below.refl _ _).drew ?_
          simp only []
          repeat (first
            | (refine R6.WalkR.un (fun _ => rfl) (fun D ρ W hK hC => hC) ?_
               simp only [Act.put, List.setIfInBounds_toArray, List.set_cons_succ, List.set_cons_zero])
            | (refine' R6.WalkR.det (fun _ => rfl) (fun D ρ W hK hC => ?_) ?_
               rotate_left
               · have f1 : W.cell? ⟨w.heap.size, 0, none⟩ = some (.slice (some ⟨c, off, none⟩) gs.length cg) := cell_of_row W _ 0 _ _ _ ((hC.block _ (lt_of_heap H5.out.2.2)).trans H5.out.2.2)
                 have hy5 := (hC.block _ (lt_of_heap H5.out.1)).trans H5.out.1
                 have f2 : W.cell? ⟨wr.heap.size, 0, none⟩ = some (.int .i64 y.age) := cell_of_row W _ 0 _ _ _ hy5
                 have f3 : W.cell? ⟨wr.heap.size, 1, none⟩ = some (.int .i64 y.wall) := cell_of_row W _ 1 _ _ _ hy5
                 clear hy5
                 have f4 : W.cell? ⟨c, off + j * 8, none⟩ = some (.int .i64 q.age) := (hC.cell (p := ⟨c, off + j * 8, none⟩) (by have := HPV.out.2; simp; omega)).trans (HPV.out.1 0 _ rfl)
                 have f5 : W.cell? ⟨c, off + j * 8 + 1, none⟩ = some (.int .i64 q.wall) := (hC.cell (p := ⟨c, off + j * 8 + 1, none⟩) (by have := HPV.out.2; simp; omega)).trans (HPV.out.1 1 _ rfl)
                 obtain ⟨v1, v2⟩ := HV.out
                 have c3 := H7.out
                 have HC := Lib.hid hC
                 clear hC hK
                 go_simp
                 first
                   | with_reducible exact ⟨rfl, HC.out⟩
                   | (go_at_call 67; refine (rfWithin_any _ _ _ W).mono ?_; rintro e _ ⟨rfl, rfl⟩; (first | rw [H3.out] | rw [H4.out]); exact ⟨_, rfl, rfl, HC.out⟩)
               simp only [Act.put, List.setIfInBounds_toArray, List.set_cons_succ, List.set_cons_zero]))
          refine R6.WalkR.nil (fun D ρ W6 hD hC => ?_)
          have H6 := Lib.hid (And.intro ((hC.block _ (lt_of_heap H5.out.1)).trans H5.out.1) (And.intro (H5.out.2.1.trans (hC.mono H5.out.2.1.size)) ((hC.block _ (lt_of_heap H5.out.2.2)).trans H5.out.2.2)))
          clear hC hD
          go_wp2
          go_ret
          exact ⟨by rw [HST.out.1, okGd_ref y _ _ HST.out.2.2.1 HST.out.2.2.2, decide_eq_false (Int.not_le.2 H7.out), Bool.false_and, Bool.and_false, Bool.and_false]; rfl, H6.out.2.1⟩
        have H7 := Lib.hid (Int.not_lt.1 c3)
        have H7b := Lib.hid c3
        clear c3
        by_cases c4 : y.wall < q.wall
        · have H8 := Lib.hid c4
          refine R6.wp_walk (C := fun _ _ W => Below w5.heap.size w5 W) 91 (by kernel_rfl) (by kernel_rfl) rfl (Below.refl _ _).drew ?_
          simp only []
          repeat (first
            | (refine R6.WalkR.un (fun _ => rfl) (fun D ρ W hK hC => hC) ?_
               simp only [Act.put, List.setIfInBounds_toArray, List.set_cons_succ, List.set_cons_zero])
            | (refine' R6.WalkR.det (fun _ => rfl) (fun D ρ W hK hC => ?_) ?_
               rotate_left
               · have f1 : W.cell? ⟨w.heap.size, 0, none⟩ = some (.slice (some ⟨c, off, none⟩) gs.length cg) := cell_of_row W _ 0 _ _ _ ((hC.block _ (lt_of_heap H5.out.2.2)).trans H5.out.2.2)
                 have hy5 := (hC.block _ (lt_of_heap H5.out.1)).trans H5.out.1
                 have f2 : W.cell? ⟨wr.heap.size, 0, none⟩ = some (.int .i64 y.age) := cell_of_row W _ 0 _ _ _ hy5
                 have f3 : W.cell? ⟨wr.heap.size, 1, none⟩ = some (.int .i64 y.wall) := cell_of_row W _ 1 _ _ _ hy5
                 clear hy5
                 have f4 : W.cell? ⟨c, off + j * 8, none⟩ = some (.int .i64 q.age) := (hC.cell (p := ⟨c, off + j * 8, none⟩) (by have := HPV.out.2; simp; omega)).trans (HPV.out.1 0 _ rfl)
                 have f5 : W.cell? ⟨c, off + j * 8 + 1, none⟩ = some (.int .i64 q.wall) := (hC.cell (p := ⟨c, off + j * 8 + 1, none⟩) (by have := HPV.out.2; simp; omega)).trans (HPV.out.1 1 _ rfl)
                 obtain ⟨v1, v2⟩ := HV.out
                 have c3 := decide_eq_false (Int.not_lt.2 H7.out)
                 have c4 := H8.out
                 have HC := Lib.hid hC
                 clear hC hK
                 go_simp
                 first
                   | with_reducible exact ⟨rfl, HC.out⟩
                   | (go_at_call 67; refine (rfWithin_any _ _ _ W).mono ?_; rintro e _ ⟨rfl, rfl⟩; (first | rw [H3.out] | rw [H4.out]); exact ⟨_, rfl, rfl, HC.out⟩)
               simp only [Act.put, List.setIfInBounds_toArray, List.set_cons_succ, List.set_cons_zero]))
          refine R6.WalkR.nil (fun D ρ W6 hD hC => ?_)
          have H6 := Lib.hid (And.intro ((hC.block _ (lt_of_heap H5.out.1)).trans H5.out.1) (And.intro (H5.out.2.1.trans (hC.mono H5.out.2.1.size)) ((hC.block _ (lt_of_heap H5.out.2.2)).trans H5.out.2.2)))
          clear hC hD
          go_wp2
          go_ret
          exact ⟨by rw [HST.out.1, okGd_ref y _ _ HST.out.2.2.1 HST.out.2.2.2, decide_eq_false (Int.not_le.2 H8.out), Bool.and_false, Bool.and_false, Bool.and_false]; rfl, H6.out.2.1⟩
        have H8 := Lib.hid (Int.not_lt.1 c4)
        clear c4
        refine R6.wp_walk (C := fun _ _ W => Below w5.heap.size w5 W) 91 (by kernel_rfl) (by kernel_rfl) rfl (Below.refl _ _).drew ?_
        simp only []
        repeat (first
          | (refine R6.WalkR.un (fun _ => rfl) (fun D ρ W hK hC => hC) ?_
             simp only [Act.put, List.setIfInBounds_toArray, List.set_cons_succ, List.set_cons_zero])
          | (refine' R6.WalkR.det (fun _ => rfl) (fun D ρ W hK hC => ?_) ?_
             rotate_left
             · have f1 : W.cell? ⟨w.heap.size, 0, none⟩ = some (.slice (some ⟨c, off, none⟩) gs.length cg) := cell_of_row W _ 0 _ _ _ ((hC.block _ (lt_of_heap H5.out.2.2)).trans H5.out.2.2)
               have hy5 := (hC.block _ (lt_of_heap H5.out.1)).trans H5.out.1
               have f2 : W.cell? ⟨wr.heap.size, 0, none⟩ = some (.int .i64 y.age) := cell_of_row W _ 0 _ _ _ hy5
               have f3 : W.cell? ⟨wr.heap.size, 1, none⟩ = some (.int .i64 y.wall) := cell_of_row W _ 1 _ _ _ hy5
               clear hy5
               have f4 : W.cell? ⟨c, off + j * 8, none⟩ = some (.int .i64 q.age) := (hC.cell (p := ⟨c, off + j * 8, none⟩) (by have := HPV.out.2; simp; omega)).trans (HPV.out.1 0 _ rfl)
               have f5 : W.cell? ⟨c, off + j * 8 + 1, none⟩ = some (.int .i64 q.wall) := (hC.cell (p := ⟨c, off + j * 8 + 1, none⟩) (by have := HPV.out.2; simp; omega)).trans (HPV.out.1 1 _ rfl)
               obtain ⟨v1, v2⟩ := HV.out
               have c3 := decide_eq_false (Int.not_lt.2 H7.out)
               have c4 := decide_eq_false (Int.not_lt.2 H8.out)
               have HC := Lib.hid hC
               clear hC hK
               go_simp
               first
                 | with_reducible exact ⟨rfl, HC.out⟩
                 | (go_at_call 67; refine (rfWithin_any _ _ _ W).mono ?_; rintro e _ ⟨rfl, rfl⟩; (first | rw [H3.out] | rw [H4.out]); exact ⟨_, rfl, rfl, HC.out⟩)
             simp only [Act.put, List.setIfInBounds_toArray, List.set_cons_succ, List.set_cons_zero]))
        refine R6.WalkR.nil (fun D ρ W6 hD hC => ?_)
        have H6 := Lib.hid (And.intro ((hC.block _ (lt_of_heap H5.out.1)).trans H5.out.1) (And.intro (H5.out.2.1.trans (hC.mono H5.out.2.1.size)) ((hC.block _ (lt_of_heap H5.out.2.2)).trans H5.out.2.2)))
        clear hC hD
        go_wp2
        obtain ⟨wo, rfl⟩ : ∃ wo : World, wo = wr := ⟨_, rfl⟩
        go_loopg [5] 3 (fun gm s5 wx => ∃ k : Nat, k + gm = 3 ∧ s5 = .int .i64 k ∧ Hid ((List.range k).all (stOk y) = true ∧ wx.heap[wo.heap.size]? = some (.cells (gcl y).toArray 53 (0, 0)) ∧ Below w.heap.size w wx ∧ wx.heap[w.heap.size]? = some (.cells #[.slice (some ⟨c, off, none⟩) gs.length cg, .int .i64 vary] 28 (0, 0))))
        case atStart => exact ⟨0, by omega, rfl, rfl, H6.out⟩
        case round =>
          obtain ⟨k, hkg, rfl, hK⟩ := hrel
          have HK := Lib.hid hK.out
          clear hK
          cases gk with
          | zero =>
            obtain rfl : k = 3 := by omega
            go_wp2
            go_roundg gn
            case measure => omega
            case rel => exact ⟨(j + 1) + 1, y, by omega, by go_num, by have := HST.out.1; rw [okGd_ref y _ _ HST.out.2.2.1 HST.out.2.2.2, H3.out, H4.out, decide_eq_true H7.out, decide_eq_true H8.out, HK.out.1] at this; simpa using this.symm, ⟨(inR_iff.1 H3.out).1, (inR_iff.1 H4.out).1⟩, fun _ => HST.out.2.1, fun h => absurd h (by omega), HK.out.2.2⟩
          | succ gm =>
            have hk : k < 3 := by omega
            have hkz : (k : Int) < 3 := by omega
            have hs0 : ∀ m v, (sp2 (st0 y k))[m]? = some v → (gcl y).toArray[2 + k * 2 + m]? = some v := fun m v hv => by rw [List.getElem?_toArray]; exact gcl_st0 y hk m v hv
            have hno := fun (h : stOk y k = false) => okGd_no (y := y) HST.out.2.2 hk h
            have hsk : stOk y k = (inR (st0 y k).1 1 (st0 y k).2 && decide ((st0 y k).2 ≤ 200000)) := rfl
            have hrs := all_range6 (stOk y) k
            rw [HK.out.1, Bool.true_and] at hrs
            generalize hsz : st0 y k = s at hs0 hsk
            obtain ⟨s1, s2⟩ := s
            have hsk' : stOk y k = (inR s1 1 s2 && decide (s2 ≤ 200000)) := hsk
            have HS := Lib.hid (And.intro hs0 (And.intro hno (And.intro hrs hsk')))
            clear hs0 hno hsk hsk' hrs hsz
            cases d1 : inR s1 1 s2
            · have D1 := Lib.hid d1
              clear d1
              go_wp2
              refine R6.wp_walk (C := fun _ _ W => Below wr.heap.size wr W) 91 (by kernel_rfl) (by kernel_rfl) rfl (Below.refl _ _).drew ?_
              simp only []
              repeat (first
                | (refine R6.WalkR.un (fun _ => rfl) (fun D ρ W hK hC => hC) ?_
                   simp only [Act.put, List.setIfInBounds_toArray, List.set_cons_succ, List.set_cons_zero])
                | (refine' R6.WalkR.det (fun _ => rfl) (fun D ρ W hK hC => ?_) ?_
                   rotate_left
                   · have hy6 := (hC.block _ (lt_of_heap HK.out.2.1)).trans HK.out.2.1
                     have f1 : W.cell? ⟨wo.heap.size, 2 + k * 2, none⟩ = some (.int .i64 s1) := (cell_of_row W _ (2 + k * 2) _ _ _ hy6).trans (HS.out.1 0 _ rfl)
                     have f2 : W.cell? ⟨wo.heap.size, 2 + k * 2 + 1, none⟩ = some (.int .i64 s2) := (cell_of_row W _ (2 + k * 2 + 1) _ _ _ hy6).trans (HS.out.1 1 _ rfl)
                     clear hy6
                     have HC := Lib.hid hC
                     clear hC hK
                     go_simp
                     first
                       | with_reducible exact ⟨rfl, HC.out⟩
                       | (go_at_call 67; refine (rfWithin_any _ _ _ W).mono ?_; rintro e _ ⟨rfl, rfl⟩; (first | rw [D1.out]); exact ⟨_, rfl, rfl, HC.out⟩)
                   simp only [Act.put, List.setIfInBounds_toArray, List.set_cons_succ, List.set_cons_zero]))
              refine R6.WalkR.nil (fun D ρ W8 hD hC => ?_)
              have H8 := Lib.hid (And.intro ((hC.block _ (lt_of_heap HK.out.2.1)).trans HK.out.2.1) (And.intro (HK.out.2.2.1.trans (hC.mono HK.out.2.2.1.size)) ((hC.block _ (lt_of_heap HK.out.2.2.2)).trans HK.out.2.2.2)))
              clear hC hD
              go_wp2
              go_ret
              exact ⟨by rw [HST.out.1, HS.out.2.1 (by rw [HS.out.2.2.2, D1.out]; rfl)]; rfl, H8.out.2.1⟩
            · have D1 := Lib.hid d1
              clear d1
              by_cases d2 : 200000 < s2
              · have D2 := Lib.hid d2
                go_wp2
                refine R6.wp_walk (C := fun _ _ W => Below wr.heap.size wr W) 91 (by kernel_rfl) (by kernel_rfl) rfl (Below.refl _ _).drew ?_
                simp only []
                repeat (first
                  | (refine R6.WalkR.un (fun _ => rfl) (fun D ρ W hK hC => hC) ?_
                     simp only [Act.put, List.setIfInBounds_toArray, List.set_cons_succ, List.set_cons_zero])
                  | (refine' R6.WalkR.det (fun _ => rfl) (fun D ρ W hK hC => ?_) ?_
                     rotate_left
                     · have hy6 := (hC.block _ (lt_of_heap HK.out.2.1)).trans HK.out.2.1
                       have f1 : W.cell? ⟨wo.heap.size, 2 + k * 2, none⟩ = some (.int .i64 s1) := (cell_of_row W _ (2 + k * 2) _ _ _ hy6).trans (HS.out.1 0 _ rfl)
                       have f2 : W.cell? ⟨wo.heap.size, 2 + k * 2 + 1, none⟩ = some (.int .i64 s2) := (cell_of_row W _ (2 + k * 2 + 1) _ _ _ hy6).trans (HS.out.1 1 _ rfl)
                       clear hy6
                       have d2 := D2.out
                       have HC := Lib.hid hC
                       clear hC hK
                       go_simp
                       first
                         | with_reducible exact ⟨rfl, HC.out⟩
                         | (go_at_call 67; refine (rfWithin_any _ _ _ W).mono ?_; rintro e _ ⟨rfl, rfl⟩; (first | rw [D1.out]); exact ⟨_, rfl, rfl, HC.out⟩)
                     simp only [Act.put, List.setIfInBounds_toArray, List.set_cons_succ, List.set_cons_zero]))
                refine R6.WalkR.nil (fun D ρ W8 hD hC => ?_)
                have H8 := Lib.hid (And.intro ((hC.block _ (lt_of_heap HK.out.2.1)).trans HK.out.2.1) (And.intro (HK.out.2.2.1.trans (hC.mono HK.out.2.2.1.size)) ((hC.block _ (lt_of_heap HK.out.2.2.2)).trans HK.out.2.2.2)))
                clear hC hD
                go_wp2
                go_ret
                exact ⟨by rw [HST.out.1, HS.out.2.1 (by rw [HS.out.2.2.2, decide_eq_false (Int.not_le.2 D2.out), Bool.and_false])]; rfl, H8.out.2.1⟩
              · have D2 := Lib.hid (Int.not_lt.1 d2)
                go_wp2
                refine R6.wp_walk (C := fun _ _ W => Below wr.heap.size wr W) 91 (by kernel_rfl) (by kernel_rfl) rfl (Below.refl _ _).drew ?_
                simp only []
                repeat (first
                  | (refine R6.WalkR.un (fun _ => rfl) (fun D ρ W hK hC => hC) ?_
                     simp only [Act.put, List.setIfInBounds_toArray, List.set_cons_succ, List.set_cons_zero])
                  | (refine' R6.WalkR.det (fun _ => rfl) (fun D ρ W hK hC => ?_) ?_
                     rotate_left
                     · have hy6 := (hC.block _ (lt_of_heap HK.out.2.1)).trans HK.out.2.1
                       have f1 : W.cell? ⟨wo.heap.size, 2 + k * 2, none⟩ = some (.int .i64 s1) := (cell_of_row W _ (2 + k * 2) _ _ _ hy6).trans (HS.out.1 0 _ rfl)
                       have f2 : W.cell? ⟨wo.heap.size, 2 + k * 2 + 1, none⟩ = some (.int .i64 s2) := (cell_of_row W _ (2 + k * 2 + 1) _ _ _ hy6).trans (HS.out.1 1 _ rfl)
                       clear hy6
                       have d2 := D2.out
                       have HC := Lib.hid hC
                       clear hC hK
                       go_simp
                       first
                         | with_reducible exact ⟨rfl, HC.out⟩
                         | (go_at_call 67; refine (rfWithin_any _ _ _ W).mono ?_; rintro e _ ⟨rfl, rfl⟩; (first | rw [D1.out]); exact ⟨_, rfl, rfl, HC.out⟩)
                     simp only [Act.put, List.setIfInBounds_toArray, List.set_cons_succ, List.set_cons_zero]))
                refine R6.WalkR.nil (fun D ρ W8 hD hC => ?_)
                have H8 := Lib.hid (And.intro ((hC.block _ (lt_of_heap HK.out.2.1)).trans HK.out.2.1) (And.intro (HK.out.2.2.1.trans (hC.mono HK.out.2.2.1.size)) ((hC.block _ (lt_of_heap HK.out.2.2.2)).trans HK.out.2.2.2)))
                clear hC hD
                go_wp2
                go_roundg gm
                case measure => omega
                case rel => exact ⟨k + 1, by omega, by go_num, by rw [HS.out.2.2.1, HS.out.2.2.2, D1.out, decide_eq_true D2.out]; rfl, H8.out⟩

end Go.Proofs.YtpnnlmaipcjkmaaGreat
