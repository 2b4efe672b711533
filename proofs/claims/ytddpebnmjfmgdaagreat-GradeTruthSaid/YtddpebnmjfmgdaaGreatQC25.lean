/-
  Whether a sheet is valid (the reference's).
-/
import Derived.BigGuardPart
import Derived.Test.YtddpebnmjfmgdaaGreatQC15
set_option linter.all false
namespace Go.Proofs.YtddpebnmjfmgdaaGreat
open Go.RowKit Go.BigFrame
open R6 (done done_ne done_me upd_ne upd_me)

attribute [local go_sem] gives

/-- A section. -/
def secOk (y : Pol) (k : Nat) : Bool := inR (gg y k) 10 300 && (inR (ww y k) 1 60 && decide (2 * ww y k ≤ gg y k))
theorem pol_ref (y : Pol) (n : Int) (hn : 0 ≤ n) : (inR y.id n 9999 && okPol y) = ((inR y.id 0 9999 && (decide (n ≤ y.id) && (inR y.clone 0 9999 && (inR y.shot 0 y.cut && (decide (y.cut ≤ 3000) && (inR y.soak 0 5 && inR y.place 0 3)))))) && (List.range 3).all (secOk y)) := by
  have e : (List.range 3).all (secOk y) = (secOk y 0 && (secOk y 1 && secOk y 2)) := by simp [List.range_succ]
  rw [e, Bool.eq_iff_iff]
  unfold okPol okSecs okSec secOk
  have e0 : gg y 0 = y.g0 ∧ gg y 1 = y.g1 ∧ gg y 2 = y.g2 := ⟨rfl, rfl, rfl⟩
  have e1 : ww y 0 = y.w0 ∧ ww y 1 = y.w1 ∧ ww y 2 = y.w2 := ⟨rfl, rfl, rfl⟩
  rw [e0.1, e0.2.1, e0.2.2, e1.1, e1.2.1, e1.2.2]
  simp only [Bool.and_eq_true, inR_iff, decide_eq_true_eq]
  omega
theorem pol_no {y : Pol} {n : Int} (hn : 0 ≤ n) {k : Nat} (hk : k < 3) (h : secOk y k = false) : (inR y.id n 9999 && okPol y) = false := by
  rw [pol_ref y n hn]
  have : (List.range 3).all (secOk y) = false := List.all_eq_false.2 ⟨k, List.mem_range.2 hk, by simp [h]⟩
  rw [this, Bool.and_false]
theorem ts_ref (ps : List Pol) (y : Ts) (n : Int) (hn : 0 ≤ n) : (inR y.id n 9999 && okTs ps y) = (inR y.id 0 9999 && (decide (n ≤ y.id) && (hasPol ps y.pole && (inR y.sec 0 2 && inR y.force 1 1000000)))) := by
  rw [Bool.eq_iff_iff]
  unfold okTs
  simp only [Bool.and_eq_true, inR_iff, decide_eq_true_eq]
  generalize hasPol ps y.pole = b
  cases b <;> simp <;> omega
theorem at_has (ps : List Pol) (id : Int) : (hasPol ps id = true ∧ 0 ≤ idxL (fun p : Pol => decide (p.id = id)) ps 0) ∨ (hasPol ps id = false ∧ idxL (fun p : Pol => decide (p.id = id)) ps 0 < 0) := by
  have h := idxL_iff (P := fun p : Pol => decide (p.id = id)) ps 0
  unfold hasPol
  cases hb : ps.any fun p => decide (p.id = id)
  · exact .inr ⟨rfl, Int.not_le.1 fun h' => by have := h.1 h'; rw [hb] at this; cases this⟩
  · exact .inl ⟨rfl, h.2 hb⟩

set_option maxRecDepth 100000 in
set_option maxHeartbeats 32000000 in
theorem rfSheet_any (ps : List Pol) (ts : List Ts) (AP : Option Addr) (cp : Nat) (AT : Option Addr) (ct : Nat) (B : Nat) (w : World) (hB : B ≤ w.heap.size) (hz : ShAt w B ps ts AP AT) :
    Calls Tryz.prog 82 #[.agg #[.slice AP ps.length cp, .slice AT ts.length ct]] w fun e w' => e = .returned (.bool (okSheet ps ts)) ∧ Below w.heap.size w w' := by
  obtain ⟨w1, hw1⟩ : ∃ w1, w.alloc (.cells #[.slice AP ps.length cp, .slice AT ts.length ct] 25) = w1 := ⟨_, rfl⟩
  have hb1 : Below w.heap.size w w1 := by rw [← hw1]; exact grow1 _ _
  have m1 : w1.heap[w.heap.size]? = some (.cells #[.slice AP ps.length cp, .slice AT ts.length ct] 25 (0, 0)) := by rw [← hw1]; exact alloc_at0 _ _
  have hlp := hz.lp
  have hlt := hz.lt
  have f1 : w1.cell? ⟨w.heap.size, 0, none⟩ = some (.slice AP ps.length cp) := cell_of_row w1 _ 0 _ _ _ m1
  have f2 : w1.cell? ⟨w.heap.size, 1, none⟩ = some (.slice AT ts.length ct) := cell_of_row w1 _ 1 _ _ _ m1
  have HM := Lib.hid (And.intro hb1 m1)
  have hpe := fun (j : Nat) (hj : j < ps.length) => vals_elem pcl_len hz.p (by decide) hj
  have hte := fun (j : Nat) (hj : j < ts.length) => vals_elem tcl_len hz.t (by decide) hj
  have hat := fun (id : Int) (W : World) (hW : Below w.heap.size w W) => rfAt_any ps id AP cp AT ts.length ct B W (Nat.le_trans hB hW.size) (hz.p.below (hW.mono hB)) hlp
  have HPE := Lib.hid hpe
  have HTE := Lib.hid (And.intro hte hat)
  unfold okSheet okPols okTsL
  clear hb1 m1 hz hpe hte hat
  by_cases h1 : 12 < ps.length
  · rw [decide_eq_false (by omega), Bool.false_and, Bool.false_and]
    have h1z : (12 : Int) < ps.length := by omega
    go_enter Tryz.func82, Tryz.ntmps82
    go_wp2_with go_big_skip
    go_ret
    exact ⟨rfl, HM.out.1⟩
  rw [decide_eq_true (Nat.not_lt.1 h1), Bool.true_and]
  have h1z : ¬ (12 : Int) < ps.length := by omega
  by_cases h2 : 20 < ts.length
  · rw [decide_eq_false (Nat.not_le.2 h2), Bool.false_and, Bool.and_false]
    have h2z : (20 : Int) < ts.length := by omega
    go_enter Tryz.func82, Tryz.ntmps82
    go_wp2_with go_big_skip
    go_ret
    exact ⟨rfl, HM.out.1⟩
  rw [decide_eq_true (Nat.not_lt.1 h2), Bool.true_and]
  have h2z : ¬ (20 : Int) < ts.length := by omega
  obtain ⟨r1, hr1⟩ : ∃ r, byIdL Pol.id okPol ps 0 = r := ⟨_, rfl⟩
  obtain ⟨r2, hr2⟩ : ∃ r, byIdL Ts.id (okTs ps) ts 0 = r := ⟨_, rfl⟩
  rw [hr1, hr2]
  have HRR := Lib.hid (And.intro hr1 hr2)
  clear hr1 hr2
  go_enter Tryz.func82, Tryz.ntmps82
  go_wp2_with go_big_skip
  clear f1 f2 h1z h2z
  go_loopg [3] ps.length (fun gn s3 wx => ∃ (j : Nat) (n : Int), j + gn = ps.length ∧ s3 = .int .i64 j ∧ Hid (byIdL Pol.id okPol (ps.drop j) n = r1 ∧ 0 ≤ n ∧ (0 < j → ∃ q, ps[j - 1]? = some q ∧ n = q.id + 1) ∧ (j = 0 → n = 0) ∧ Below w.heap.size w wx ∧ wx.heap[w.heap.size]? = some (.cells #[.slice AP ps.length cp, .slice AT ts.length ct] 25 (0, 0))))
  case atStart => exact ⟨0, 0, by omega, rfl, HRR.out.1, Int.le_refl _, fun h => absurd h (by decide), fun _ => rfl, HM.out⟩
  case round =>
    obtain ⟨j, n, hjg, rfl, hJ⟩ := hrel
    have hcr : wr.cell? ⟨w.heap.size, 0, none⟩ = some (.slice AP ps.length cp) := cell_of_row wr _ 0 _ _ _ hJ.out.2.2.2.2.2
    cases gk with
    | zero =>
      have hJ' := hJ.out
      obtain rfl : j = ps.length := by omega
      rw [List.drop_length] at hJ'
      have hr1 : r1 = true := by rw [← hJ'.1]; rfl
      have HR1 := Lib.hid hr1
      clear hr1
      have HJ0 := Lib.hid hJ'.2.2.2.2
      clear hJ' hJ
      go_wp2
      obtain ⟨wo, rfl⟩ : ∃ wo : World, wo = wr := ⟨_, rfl⟩
      clear hcr
      go_loopg [6] ts.length (fun gm s6 wx => ∃ (j : Nat) (n : Int), j + gm = ts.length ∧ s6 = .int .i64 j ∧ Hid (byIdL Ts.id (okTs ps) (ts.drop j) n = r2 ∧ 0 ≤ n ∧ (0 < j → ∃ q, ts[j - 1]? = some q ∧ n = q.id + 1) ∧ (j = 0 → n = 0) ∧ Below w.heap.size w wx ∧ wx.heap[w.heap.size]? = some (.cells #[.slice AP ps.length cp, .slice AT ts.length ct] 25 (0, 0))))
      case atStart => exact ⟨0, 0, by omega, rfl, HRR.out.2, Int.le_refl _, fun h => absurd h (by decide), fun _ => rfl, HJ0.out⟩
      case round =>
        obtain ⟨j, n, hjg, rfl, hJ⟩ := hrel
        have hcr : wr.cell? ⟨w.heap.size, 1, none⟩ = some (.slice AT ts.length ct) := cell_of_row wr _ 1 _ _ _ hJ.out.2.2.2.2.2
        cases gk with
        | zero =>
          have hJ' := hJ.out
          obtain rfl : j = ts.length := by omega
          rw [List.drop_length] at hJ'
          have HJ := Lib.hid hJ'
          clear hJ' hJ
          go_wp2
          go_ret
          exact ⟨by rw [HR1.out, Bool.true_and, ← HJ.out.1]; rfl, HJ.out.2.2.2.2.1⟩
        | succ gm =>
          have hj : j < ts.length := by omega
          have hjz : (j : Int) < ts.length := by omega
          obtain ⟨c, off, hA, hcB, hc⟩ := HTE.out.1 j hj
          subst hA
          have hc' : ∀ m v, (tcl ts[j])[m]? = some v → wr.cell? ⟨c, off + j * 5 + m, none⟩ = some v := fun m v hv => (hJ.out.2.2.2.2.1.cell (p := ⟨c, off + j * 5 + m, none⟩) (by simp; omega)).trans (hc m v hv)
          have hst : byIdL Ts.id (okTs ps) (ts.drop j) n = (inR ts[j].id n 9999 && (okTs ps ts[j] && byIdL Ts.id (okTs ps) (ts.drop (j + 1)) (ts[j].id + 1))) := by rw [List.drop_eq_getElem_cons hj]; rfl
          rw [hJ.out.1] at hst
          have hyj : ts[j]? = some ts[j] := List.getElem?_eq_getElem hj
          have hn0 := hJ.out.2.1
          generalize ts[j] = y at hc' hst hyj
          have HAT := Lib.hid (HTE.out.2 y.pole)
          have HST := Lib.hid (And.intro hst (And.intro hyj hn0))
          have HCC := Lib.hid hc'
          have HJ := Lib.hid hJ.out.2.2
          clear hc hc' hst hyj hJ hn0
          go_wp2_with (first
            | (show wpList _ _ _ (Oper.mk (some 122) _ _ _ _ _ :: _) _ _
               refine wpList_load_at 58 (.tmp 121) rfl rfl rfl (tcl y) HCC.out rowTest ?_)
            | (show wpList _ _ _ (Oper.mk none (Op.store _ (Operand.tmp 7) (Operand.tmp 122)) _ _ _ _ :: _) _ _
               refine wpList_store_blk 58 (.tmp 7) (.tmp 122) rfl rfl rfl rfl rfl (alloc_at0 wr _) (Nat.le_of_ble_eq_true rfl) (fun v hv => tcl_one [y] v (by simpa using hv)) rowTest ?_
               intro w5 hP5 hM5
               rw [splice_whole (by rfl)] at hM5
               have hb5 : Below wr.heap.size wr w5 := (grow1 wr _).trans (hP5.below (Nat.le_refl _))
               have H5 := Lib.hid (And.intro hM5 (And.intro (HJ.out.2.2.1.trans (hb5.mono HJ.out.2.2.1.size)) ((hb5.block _ (lt_of_heap HJ.out.2.2.2)).trans HJ.out.2.2.2)))
               clear hP5 hM5 hb5))
          clear hcr
          cases c1 : inR y.id 0 9999
          · have C1 := Lib.hid c1
            clear c1
            refine R6.wp_walk (C := fun _ _ W => Below w5.heap.size w5 W) 162 (by kernel_rfl) (by kernel_rfl) rfl (Below.refl _ _).drew ?_
            simp only []
            repeat (first
              | (refine R6.WalkR.un (fun _ => rfl) (fun D ρ W hK hC => hC) ?_
                 simp only [Act.put, List.setIfInBounds_toArray, List.set_cons_succ, List.set_cons_zero])
              | (refine' R6.WalkR.det (fun _ => rfl) (fun D ρ W hK hC => ?_) ?_
                 rotate_left
                 · have f2 : W.cell? ⟨w.heap.size, 1, none⟩ = some (.slice (some ⟨c, off, none⟩) ts.length ct) := cell_of_row W _ 1 _ _ _ ((hC.block _ (lt_of_heap H5.out.2.2)).trans H5.out.2.2)
                   have hy5 := (hC.block _ (lt_of_heap H5.out.1)).trans H5.out.1
                   have y0 : W.cell? ⟨wr.heap.size, 0, none⟩ = some (.int .i64 y.id) := cell_of_row W _ 0 _ _ _ hy5
                   have y1 : W.cell? ⟨wr.heap.size, 1, none⟩ = some (.int .i64 y.pole) := cell_of_row W _ 1 _ _ _ hy5
                   have y2 : W.cell? ⟨wr.heap.size, 2, none⟩ = some (.int .i64 y.sec) := cell_of_row W _ 2 _ _ _ hy5
                   have y3 : W.cell? ⟨wr.heap.size, 3, none⟩ = some (.int .i64 y.force) := cell_of_row W _ 3 _ _ _ hy5
                   clear hy5
                   have HC := Lib.hid hC
                   clear hC hK
                   go_simp
                   first
                     | with_reducible exact ⟨rfl, HC.out⟩
                     | (go_at_call 67; refine (rfWithin_any _ _ _ W).mono ?_; rintro e _ ⟨rfl, rfl⟩; (first | rw [C1.out]); exact ⟨_, rfl, rfl, HC.out⟩)
                 simp only [Act.put, List.setIfInBounds_toArray, List.set_cons_succ, List.set_cons_zero]))
            refine R6.WalkR.nil (fun D ρ W6 hD hC => ?_)
            have H6 := Lib.hid (And.intro ((hC.block _ (lt_of_heap H5.out.1)).trans H5.out.1) (And.intro (H5.out.2.1.trans (hC.mono H5.out.2.1.size)) ((hC.block _ (lt_of_heap H5.out.2.2)).trans H5.out.2.2)))
            clear hC hD
            go_wp2
            go_ret
            exact ⟨by rw [show r2 = false by rw [HST.out.1, ← Bool.and_assoc, ts_ref ps y n HST.out.2.2, C1.out, Bool.false_and]; simp, Bool.and_false]; rfl, H6.out.2.1⟩
          have C1 := Lib.hid c1
          clear c1
          cases j with
          | zero =>
            have hq0 := HJ.out.2.1 rfl
            have hl1 : decide (n ≤ y.id) = true := by have := (inR_iff.1 C1.out).1; simp; omega
            have HL := Lib.hid hl1
            clear hq0 hl1
            rcases at_has ps y.pole with ⟨c3, c3i⟩ | ⟨c3, c3i⟩
            rotate_left
            · have C3 := Lib.hid (And.intro c3 c3i)
              clear c3 c3i
              refine R6.wp_walk (C := fun _ _ W => Below w5.heap.size w5 W) 162 (by kernel_rfl) (by kernel_rfl) rfl (Below.refl _ _).drew ?_
              simp only []
              repeat (first
                | (refine R6.WalkR.un (fun _ => rfl) (fun D ρ W hK hC => hC) ?_
                   simp only [Act.put, List.setIfInBounds_toArray, List.set_cons_succ, List.set_cons_zero])
                | (refine' R6.WalkR.det (fun _ => rfl) (fun D ρ W hK hC => ?_) ?_
                   rotate_left
                   · have f2 : W.cell? ⟨w.heap.size, 1, none⟩ = some (.slice (some ⟨c, off, none⟩) ts.length ct) := cell_of_row W _ 1 _ _ _ ((hC.block _ (lt_of_heap H5.out.2.2)).trans H5.out.2.2)
                     have hy5 := (hC.block _ (lt_of_heap H5.out.1)).trans H5.out.1
                     have y0 : W.cell? ⟨wr.heap.size, 0, none⟩ = some (.int .i64 y.id) := cell_of_row W _ 0 _ _ _ hy5
                     have y1 : W.cell? ⟨wr.heap.size, 1, none⟩ = some (.int .i64 y.pole) := cell_of_row W _ 1 _ _ _ hy5
                     have y2 : W.cell? ⟨wr.heap.size, 2, none⟩ = some (.int .i64 y.sec) := cell_of_row W _ 2 _ _ _ hy5
                     have y3 : W.cell? ⟨wr.heap.size, 3, none⟩ = some (.int .i64 y.force) := cell_of_row W _ 3 _ _ _ hy5
                     clear hy5
                     have c3i := C3.out.2
                     have HC := Lib.hid hC
                     clear hC hK
                     go_simp
                     first
                       | with_reducible exact ⟨rfl, HC.out⟩
                       | (go_at_call 67; refine (rfWithin_any _ _ _ W).mono ?_; rintro e _ ⟨rfl, rfl⟩; (first | rw [C1.out]); exact ⟨_, rfl, rfl, HC.out⟩)
                   simp only [Act.put, List.setIfInBounds_toArray, List.set_cons_succ, List.set_cons_zero]))
              refine' R6.WalkR.det (fun _ => rfl) (fun D ρ W hK hC => ?_) ?_
              rotate_left
              · exact gives_load_blk 25 (.tmp 1) rfl rfl ((hC.block _ (lt_of_heap H5.out.2.2)).trans H5.out.2.2) [.slice AP ps.length cp, .slice (some ⟨c, off, none⟩) ts.length ct] at0 rowSheet5 ⟨rfl, hC⟩
              simp only [Act.put, List.setIfInBounds_toArray, List.set_cons_succ, List.set_cons_zero]
              repeat (first
                | (refine R6.WalkR.un (fun _ => rfl) (fun D ρ W hK hC => hC) ?_
                   simp only [Act.put, List.setIfInBounds_toArray, List.set_cons_succ, List.set_cons_zero])
                | (refine' R6.WalkR.det (fun _ => rfl) (fun D ρ W hK hC => ?_) ?_
                   rotate_left
                   · have f2 : W.cell? ⟨w.heap.size, 1, none⟩ = some (.slice (some ⟨c, off, none⟩) ts.length ct) := cell_of_row W _ 1 _ _ _ ((hC.block _ (lt_of_heap H5.out.2.2)).trans H5.out.2.2)
                     have hy5 := (hC.block _ (lt_of_heap H5.out.1)).trans H5.out.1
                     have y0 : W.cell? ⟨wr.heap.size, 0, none⟩ = some (.int .i64 y.id) := cell_of_row W _ 0 _ _ _ hy5
                     have y1 : W.cell? ⟨wr.heap.size, 1, none⟩ = some (.int .i64 y.pole) := cell_of_row W _ 1 _ _ _ hy5
                     have y2 : W.cell? ⟨wr.heap.size, 2, none⟩ = some (.int .i64 y.sec) := cell_of_row W _ 2 _ _ _ hy5
                     have y3 : W.cell? ⟨wr.heap.size, 3, none⟩ = some (.int .i64 y.force) := cell_of_row W _ 3 _ _ _ hy5
                     clear hy5
                     have c3i := C3.out.2
                     have HC := Lib.hid hC
                     clear hC hK
                     go_simp
                     first
                       | with_reducible exact ⟨rfl, HC.out⟩
                       | (go_at_call 67; refine (rfWithin_any _ _ _ W).mono ?_; rintro e _ ⟨rfl, rfl⟩; (first | rw [C1.out]); exact ⟨_, rfl, rfl, HC.out⟩)
                       | (go_at_call 31; refine (HAT.out W (H5.out.2.1.trans (HC.out.mono H5.out.2.1.size))).mono ?_; rintro e W1 ⟨rfl, hB1⟩; exact ⟨_, rfl, rfl, HC.out.trans (hB1.mono HC.out.size)⟩)
                   simp only [Act.put, List.setIfInBounds_toArray, List.set_cons_succ, List.set_cons_zero]))
              refine R6.WalkR.nil (fun D ρ W6 hD hC => ?_)
              have H6 := Lib.hid (And.intro ((hC.block _ (lt_of_heap H5.out.1)).trans H5.out.1) (And.intro (H5.out.2.1.trans (hC.mono H5.out.2.1.size)) ((hC.block _ (lt_of_heap H5.out.2.2)).trans H5.out.2.2)))
              clear hC hD
              go_wp2
              go_ret
              exact ⟨by rw [show r2 = false by rw [HST.out.1, ← Bool.and_assoc, ts_ref ps y n HST.out.2.2, C3.out.1, Bool.false_and]; simp, Bool.and_false]; rfl, H6.out.2.1⟩
            have C3 := Lib.hid (And.intro c3 c3i)
            clear c3 c3i
            cases c : inR y.sec 0 2
            · have C4 := Lib.hid c
              clear c
              refine R6.wp_walk (C := fun _ _ W => Below w5.heap.size w5 W) 162 (by kernel_rfl) (by kernel_rfl) rfl (Below.refl _ _).drew ?_
              simp only []
              repeat (first
                | (refine R6.WalkR.un (fun _ => rfl) (fun D ρ W hK hC => hC) ?_
                   simp only [Act.put, List.setIfInBounds_toArray, List.set_cons_succ, List.set_cons_zero])
                | (refine' R6.WalkR.det (fun _ => rfl) (fun D ρ W hK hC => ?_) ?_
                   rotate_left
                   · have f2 : W.cell? ⟨w.heap.size, 1, none⟩ = some (.slice (some ⟨c, off, none⟩) ts.length ct) := cell_of_row W _ 1 _ _ _ ((hC.block _ (lt_of_heap H5.out.2.2)).trans H5.out.2.2)
                     have hy5 := (hC.block _ (lt_of_heap H5.out.1)).trans H5.out.1
                     have y0 : W.cell? ⟨wr.heap.size, 0, none⟩ = some (.int .i64 y.id) := cell_of_row W _ 0 _ _ _ hy5
                     have y1 : W.cell? ⟨wr.heap.size, 1, none⟩ = some (.int .i64 y.pole) := cell_of_row W _ 1 _ _ _ hy5
                     have y2 : W.cell? ⟨wr.heap.size, 2, none⟩ = some (.int .i64 y.sec) := cell_of_row W _ 2 _ _ _ hy5
                     have y3 : W.cell? ⟨wr.heap.size, 3, none⟩ = some (.int .i64 y.force) := cell_of_row W _ 3 _ _ _ hy5
                     clear hy5
                     have c3i := C3.out.2
                     have c3j := decide_eq_false (Int.not_lt.2 C3.out.2)
                     have HC := Lib.hid hC
                     clear hC hK
                     go_simp
                     first
                       | with_reducible exact ⟨rfl, HC.out⟩
                       | (go_at_call 67; refine (rfWithin_any _ _ _ W).mono ?_; rintro e _ ⟨rfl, rfl⟩; (first | rw [C1.out] | rw [C4.out]); exact ⟨_, rfl, rfl, HC.out⟩)
                   simp only [Act.put, List.setIfInBounds_toArray, List.set_cons_succ, List.set_cons_zero]))
              refine' R6.WalkR.det (fun _ => rfl) (fun D ρ W hK hC => ?_) ?_
              rotate_left
              · exact gives_load_blk 25 (.tmp 1) rfl rfl ((hC.block _ (lt_of_heap H5.out.2.2)).trans H5.out.2.2) [.slice AP ps.length cp, .slice (some ⟨c, off, none⟩) ts.length ct] at0 rowSheet5 ⟨rfl, hC⟩
              simp only [Act.put, List.setIfInBounds_toArray, List.set_cons_succ, List.set_cons_zero]
              repeat (first
                | (refine R6.WalkR.un (fun _ => rfl) (fun D ρ W hK hC => hC) ?_
                   simp only [Act.put, List.setIfInBounds_toArray, List.set_cons_succ, List.set_cons_zero])
                | (refine' R6.WalkR.det (fun _ => rfl) (fun D ρ W hK hC => ?_) ?_
                   rotate_left
                   · have f2 : W.cell? ⟨w.heap.size, 1, none⟩ = some (.slice (some ⟨c, off, none⟩) ts.length ct) := cell_of_row W _ 1 _ _ _ ((hC.block _ (lt_of_heap H5.out.2.2)).trans H5.out.2.2)
                     have hy5 := (hC.block _ (lt_of_heap H5.out.1)).trans H5.out.1
                     have y0 : W.cell? ⟨wr.heap.size, 0, none⟩ = some (.int .i64 y.id) := cell_of_row W _ 0 _ _ _ hy5
                     have y1 : W.cell? ⟨wr.heap.size, 1, none⟩ = some (.int .i64 y.pole) := cell_of_row W _ 1 _ _ _ hy5
                     have y2 : W.cell? ⟨wr.heap.size, 2, none⟩ = some (.int .i64 y.sec) := cell_of_row W _ 2 _ _ _ hy5
                     have y3 : W.cell? ⟨wr.heap.size, 3, none⟩ = some (.int .i64 y.force) := cell_of_row W _ 3 _ _ _ hy5
                     clear hy5
                     have c3i := C3.out.2
                     have c3j := decide_eq_false (Int.not_lt.2 C3.out.2)
                     have HC := Lib.hid hC
                     clear hC hK
                     go_simp
                     first
                       | with_reducible exact ⟨rfl, HC.out⟩
                       | (go_at_call 67; refine (rfWithin_any _ _ _ W).mono ?_; rintro e _ ⟨rfl, rfl⟩; (first | rw [C1.out] | rw [C4.out]); exact ⟨_, rfl, rfl, HC.out⟩)
                       | (go_at_call 31; refine (HAT.out W (H5.out.2.1.trans (HC.out.mono H5.out.2.1.size))).mono ?_; rintro e W1 ⟨rfl, hB1⟩; exact ⟨_, rfl, rfl, HC.out.trans (hB1.mono HC.out.size)⟩)
                   simp only [Act.put, List.setIfInBounds_toArray, List.set_cons_succ, List.set_cons_zero]))
              refine R6.WalkR.nil (fun D ρ W6 hD hC => ?_)
              have H6 := Lib.hid (And.intro ((hC.block _ (lt_of_heap H5.out.1)).trans H5.out.1) (And.intro (H5.out.2.1.trans (hC.mono H5.out.2.1.size)) ((hC.block _ (lt_of_heap H5.out.2.2)).trans H5.out.2.2)))
              clear hC hD
              go_wp2
              go_ret
              exact ⟨by rw [show r2 = false by rw [HST.out.1, ← Bool.and_assoc, ts_ref ps y n HST.out.2.2, C4.out, Bool.false_and]; simp, Bool.and_false]; rfl, H6.out.2.1⟩
            have C4 := Lib.hid c
            clear c
            cases c : inR y.force 1 1000000
            · have C5 := Lib.hid c
              clear c
              refine R6.wp_walk (C := fun _ _ W => Below w5.heap.size w5 W) 162 (by kernel_rfl) (by kernel_rfl) rfl (Below.refl _ _).drew ?_
              simp only []
              repeat (first
                | (refine R6.WalkR.un (fun _ => rfl) (fun D ρ W hK hC => hC) ?_
                   simp only [Act.put, List.setIfInBounds_toArray, List.set_cons_succ, List.set_cons_zero])
                | (refine' R6.WalkR.det (fun _ => rfl) (fun D ρ W hK hC => ?_) ?_
                   rotate_left
                   · have f2 : W.cell? ⟨w.heap.size, 1, none⟩ = some (.slice (some ⟨c, off, none⟩) ts.length ct) := cell_of_row W _ 1 _ _ _ ((hC.block _ (lt_of_heap H5.out.2.2)).trans H5.out.2.2)
                     have hy5 := (hC.block _ (lt_of_heap H5.out.1)).trans H5.out.1
                     have y0 : W.cell? ⟨wr.heap.size, 0, none⟩ = some (.int .i64 y.id) := cell_of_row W _ 0 _ _ _ hy5
                     have y1 : W.cell? ⟨wr.heap.size, 1, none⟩ = some (.int .i64 y.pole) := cell_of_row W _ 1 _ _ _ hy5
                     have y2 : W.cell? ⟨wr.heap.size, 2, none⟩ = some (.int .i64 y.sec) := cell_of_row W _ 2 _ _ _ hy5
                     have y3 : W.cell? ⟨wr.heap.size, 3, none⟩ = some (.int .i64 y.force) := cell_of_row W _ 3 _ _ _ hy5
                     clear hy5
                     have c3i := C3.out.2
                     have c3j := decide_eq_false (Int.not_lt.2 C3.out.2)
                     have HC := Lib.hid hC
                     clear hC hK
                     go_simp
                     first
                       | with_reducible exact ⟨rfl, HC.out⟩
                       | (go_at_call 67; refine (rfWithin_any _ _ _ W).mono ?_; rintro e _ ⟨rfl, rfl⟩; (first | rw [C1.out] | rw [C4.out] | rw [C5.out]); exact ⟨_, rfl, rfl, HC.out⟩)
                   simp only [Act.put, List.setIfInBounds_toArray, List.set_cons_succ, List.set_cons_zero]))
              refine' R6.WalkR.det (fun _ => rfl) (fun D ρ W hK hC => ?_) ?_
              rotate_left
              · exact gives_load_blk 25 (.tmp 1) rfl rfl ((hC.block _ (lt_of_heap H5.out.2.2)).trans H5.out.2.2) [.slice AP ps.length cp, .slice (some ⟨c, off, none⟩) ts.length ct] at0 rowSheet5 ⟨rfl, hC⟩
              simp only [Act.put, List.setIfInBounds_toArray, List.set_cons_succ, List.set_cons_zero]
              repeat (first
                | (refine R6.WalkR.un (fun _ => rfl) (fun D ρ W hK hC => hC) ?_
                   simp only [Act.put, List.setIfInBounds_toArray, List.set_cons_succ, List.set_cons_zero])
                | (refine' R6.WalkR.det (fun _ => rfl) (fun D ρ W hK hC => ?_) ?_
                   rotate_left
                   · have f2 : W.cell? ⟨w.heap.size, 1, none⟩ = some (.slice (some ⟨c, off, none⟩) ts.length ct) := cell_of_row W _ 1 _ _ _ ((hC.block _ (lt_of_heap H5.out.2.2)).trans H5.out.2.2)
                     have hy5 := (hC.block _ (lt_of_heap H5.out.1)).trans H5.out.1
                     have y0 : W.cell? ⟨wr.heap.size, 0, none⟩ = some (.int .i64 y.id) := cell_of_row W _ 0 _ _ _ hy5
                     have y1 : W.cell? ⟨wr.heap.size, 1, none⟩ = some (.int .i64 y.pole) := cell_of_row W _ 1 _ _ _ hy5
                     have y2 : W.cell? ⟨wr.heap.size, 2, none⟩ = some (.int .i64 y.sec) := cell_of_row W _ 2 _ _ _ hy5
                     have y3 : W.cell? ⟨wr.heap.size, 3, none⟩ = some (.int .i64 y.force) := cell_of_row W _ 3 _ _ _ hy5
                     clear hy5
                     have c3i := C3.out.2
                     have c3j := decide_eq_false (Int.not_lt.2 C3.out.2)
                     have HC := Lib.hid hC
                     clear hC hK
                     go_simp
                     first
                       | with_reducible exact ⟨rfl, HC.out⟩
                       | (go_at_call 67; refine (rfWithin_any _ _ _ W).mono ?_; rintro e _ ⟨rfl, rfl⟩; (first | rw [C1.out] | rw [C4.out] | rw [C5.out]); exact ⟨_, rfl, rfl, HC.out⟩)
                       | (go_at_call 31; refine (HAT.out W (H5.out.2.1.trans (HC.out.mono H5.out.2.1.size))).mono ?_; rintro e W1 ⟨rfl, hB1⟩; exact ⟨_, rfl, rfl, HC.out.trans (hB1.mono HC.out.size)⟩)
                   simp only [Act.put, List.setIfInBounds_toArray, List.set_cons_succ, List.set_cons_zero]))
              refine R6.WalkR.nil (fun D ρ W6 hD hC => ?_)
              have H6 := Lib.hid (And.intro ((hC.block _ (lt_of_heap H5.out.1)).trans H5.out.1) (And.intro (H5.out.2.1.trans (hC.mono H5.out.2.1.size)) ((hC.block _ (lt_of_heap H5.out.2.2)).trans H5.out.2.2)))
              clear hC hD
              go_wp2
              go_ret
              exact ⟨by rw [show r2 = false by rw [HST.out.1, ← Bool.and_assoc, ts_ref ps y n HST.out.2.2, C5.out]; simp, Bool.and_false]; rfl, H6.out.2.1⟩
            have C5 := Lib.hid c
            clear c
            refine R6.wp_walk (C := fun _ _ W => Below w5.heap.size w5 W) 162 (by kernel_rfl) (by kernel_rfl) rfl (Below.refl _ _).drew ?_
            simp only []
            repeat (first
              | (refine R6.WalkR.un (fun _ => rfl) (fun D ρ W hK hC => hC) ?_
                 simp only [Act.put, List.setIfInBounds_toArray, List.set_cons_succ, List.set_cons_zero])
              | (refine' R6.WalkR.det (fun _ => rfl) (fun D ρ W hK hC => ?_) ?_
                 rotate_left
                 · have f2 : W.cell? ⟨w.heap.size, 1, none⟩ = some (.slice (some ⟨c, off, none⟩) ts.length ct) := cell_of_row W _ 1 _ _ _ ((hC.block _ (lt_of_heap H5.out.2.2)).trans H5.out.2.2)
                   have hy5 := (hC.block _ (lt_of_heap H5.out.1)).trans H5.out.1
                   have y0 : W.cell? ⟨wr.heap.size, 0, none⟩ = some (.int .i64 y.id) := cell_of_row W _ 0 _ _ _ hy5
                   have y1 : W.cell? ⟨wr.heap.size, 1, none⟩ = some (.int .i64 y.pole) := cell_of_row W _ 1 _ _ _ hy5
                   have y2 : W.cell? ⟨wr.heap.size, 2, none⟩ = some (.int .i64 y.sec) := cell_of_row W _ 2 _ _ _ hy5
                   have y3 : W.cell? ⟨wr.heap.size, 3, none⟩ = some (.int .i64 y.force) := cell_of_row W _ 3 _ _ _ hy5
                   clear hy5
                   have c3i := C3.out.2
                   have c3j := decide_eq_false (Int.not_lt.2 C3.out.2)
                   have HC := Lib.hid hC
                   clear hC hK
                   go_simp
                   first
                     | with_reducible exact ⟨rfl, HC.out⟩
                     | (go_at_call 67; refine (rfWithin_any _ _ _ W).mono ?_; rintro e _ ⟨rfl, rfl⟩; (first | rw [C1.out] | rw [C4.out] | rw [C5.out]); exact ⟨_, rfl, rfl, HC.out⟩)
                 simp only [Act.put, List.setIfInBounds_toArray, List.set_cons_succ, List.set_cons_zero]))
            refine' R6.WalkR.det (fun _ => rfl) (fun D ρ W hK hC => ?_) ?_
            rotate_left
            · exact gives_load_blk 25 (.tmp 1) rfl rfl ((hC.block _ (lt_of_heap H5.out.2.2)).trans H5.out.2.2) [.slice AP ps.length cp, .slice (some ⟨c, off, none⟩) ts.length ct] at0 rowSheet5 ⟨rfl, hC⟩
            simp only [Act.put, List.setIfInBounds_toArray, List.set_cons_succ, List.set_cons_zero]
            repeat (first
              | (refine R6.WalkR.un (fun _ => rfl) (fun D ρ W hK hC => hC) ?_
                 simp only [Act.put, List.setIfInBounds_toArray, List.set_cons_succ, List.set_cons_zero])
              | (refine' R6.WalkR.det (fun _ => rfl) (fun D ρ W hK hC => ?_) ?_
                 rotate_left
                 · have f2 : W.cell? ⟨w.heap.size, 1, none⟩ = some (.slice (some ⟨c, off, none⟩) ts.length ct) := cell_of_row W _ 1 _ _ _ ((hC.block _ (lt_of_heap H5.out.2.2)).trans H5.out.2.2)
                   have hy5 := (hC.block _ (lt_of_heap H5.out.1)).trans H5.out.1
                   have y0 : W.cell? ⟨wr.heap.size, 0, none⟩ = some (.int .i64 y.id) := cell_of_row W _ 0 _ _ _ hy5
                   have y1 : W.cell? ⟨wr.heap.size, 1, none⟩ = some (.int .i64 y.pole) := cell_of_row W _ 1 _ _ _ hy5
                   have y2 : W.cell? ⟨wr.heap.size, 2, none⟩ = some (.int .i64 y.sec) := cell_of_row W _ 2 _ _ _ hy5
                   have y3 : W.cell? ⟨wr.heap.size, 3, none⟩ = some (.int .i64 y.force) := cell_of_row W _ 3 _ _ _ hy5
                   clear hy5
                   have c3i := C3.out.2
                   have c3j := decide_eq_false (Int.not_lt.2 C3.out.2)
                   have HC := Lib.hid hC
                   clear hC hK
                   go_simp
                   first
                     | with_reducible exact ⟨rfl, HC.out⟩
                     | (go_at_call 67; refine (rfWithin_any _ _ _ W).mono ?_; rintro e _ ⟨rfl, rfl⟩; (first | rw [C1.out] | rw [C4.out] | rw [C5.out]); exact ⟨_, rfl, rfl, HC.out⟩)
                     | (go_at_call 31; refine (HAT.out W (H5.out.2.1.trans (HC.out.mono H5.out.2.1.size))).mono ?_; rintro e W1 ⟨rfl, hB1⟩; exact ⟨_, rfl, rfl, HC.out.trans (hB1.mono HC.out.size)⟩)
                 simp only [Act.put, List.setIfInBounds_toArray, List.set_cons_succ, List.set_cons_zero]))
            refine R6.WalkR.nil (fun D ρ W6 hD hC => ?_)
            have H6 := Lib.hid (And.intro ((hC.block _ (lt_of_heap H5.out.1)).trans H5.out.1) (And.intro (H5.out.2.1.trans (hC.mono H5.out.2.1.size)) ((hC.block _ (lt_of_heap H5.out.2.2)).trans H5.out.2.2)))
            clear hC hD
            go_wp2
            go_roundg gm
            case measure => omega
            case rel => exact ⟨0 + 1, y.id + 1, by omega, by go_num, by have := HST.out.1; rw [← Bool.and_assoc, ts_ref ps y n HST.out.2.2, C1.out, HL.out, C3.out.1, C4.out, C5.out] at this; simpa using this.symm, by have := (inR_iff.1 C1.out).1; omega, fun _ => ⟨y, HST.out.2.1, rfl⟩, fun h => absurd h (by omega), H6.out.2⟩
          | succ j =>
            have hjj : (j : Int) < ts.length := by omega
            obtain ⟨q, hpv, hnq⟩ := HJ.out.1 (by omega)
            rw [Nat.add_sub_cancel] at hpv
            obtain ⟨c', o', hA, -, hcq⟩ := HTE.out.1 j (by omega)
            simp only [Option.some.injEq, Addr.mk.injEq, and_true] at hA
            obtain ⟨rfl, rfl⟩ := hA
            rw [List.getElem?_eq_getElem (by omega)] at hpv
            rw [Option.some.inj hpv] at hcq
            have hcq5 : ∀ m v, (tcl q)[m]? = some v → w5.cell? ⟨c, off + j * 5 + m, none⟩ = some v := fun m v hv => (H5.out.2.1.cell (p := ⟨c, off + j * 5 + m, none⟩) (by simp; omega)).trans (hcq m v hv)
            have HPV := Lib.hid (And.intro hcq5 (show c < w5.heap.size from Nat.lt_of_lt_of_le (Nat.lt_of_lt_of_le hcB hB) H5.out.2.1.size))
            have v1 : IntKind.i64.wrap (j : Int) = j := IntWalk.i64_in _ (by omega)
            have v2 : IntKind.i64.wrap ((j : Int) + 1 - 1) = j := by rw [Int.add_sub_cancel]; exact v1
            have HV := Lib.hid (And.intro v1 v2)
            have HNQ := Lib.hid hnq
            clear hpv hcq hcq5 v1 v2 hnq
            by_cases c2 : y.id ≤ q.id
            · have C2 := Lib.hid c2
              refine R6.wp_walk (C := fun _ _ W => Below w5.heap.size w5 W) 162 (by kernel_rfl) (by kernel_rfl) rfl (Below.refl _ _).drew ?_
              simp only []
              repeat (first
                | (refine R6.WalkR.un (fun _ => rfl) (fun D ρ W hK hC => hC) ?_
                   simp only [Act.put, List.setIfInBounds_toArray, List.set_cons_succ, List.set_cons_zero])
                | (refine' R6.WalkR.det (fun _ => rfl) (fun D ρ W hK hC => ?_) ?_
                   rotate_left
                   · have f2 : W.cell? ⟨w.heap.size, 1, none⟩ = some (.slice (some ⟨c, off, none⟩) ts.length ct) := cell_of_row W _ 1 _ _ _ ((hC.block _ (lt_of_heap H5.out.2.2)).trans H5.out.2.2)
                     have hy5 := (hC.block _ (lt_of_heap H5.out.1)).trans H5.out.1
                     have y0 : W.cell? ⟨wr.heap.size, 0, none⟩ = some (.int .i64 y.id) := cell_of_row W _ 0 _ _ _ hy5
                     have y1 : W.cell? ⟨wr.heap.size, 1, none⟩ = some (.int .i64 y.pole) := cell_of_row W _ 1 _ _ _ hy5
                     have y2 : W.cell? ⟨wr.heap.size, 2, none⟩ = some (.int .i64 y.sec) := cell_of_row W _ 2 _ _ _ hy5
                     have y3 : W.cell? ⟨wr.heap.size, 3, none⟩ = some (.int .i64 y.force) := cell_of_row W _ 3 _ _ _ hy5
                     clear hy5
                     have f4 : W.cell? ⟨c, off + j * 5, none⟩ = some (.int .i64 q.id) := (hC.cell (p := ⟨c, off + j * 5, none⟩) (by have := HPV.out.2; simp; omega)).trans (HPV.out.1 0 _ rfl)
                     obtain ⟨v1, v2⟩ := HV.out
                     have c2 := C2.out
                     have HC := Lib.hid hC
                     clear hC hK
                     go_simp
                     first
                       | with_reducible exact ⟨rfl, HC.out⟩
                       | (go_at_call 67; refine (rfWithin_any _ _ _ W).mono ?_; rintro e _ ⟨rfl, rfl⟩; (first | rw [C1.out]); exact ⟨_, rfl, rfl, HC.out⟩)
                   simp only [Act.put, List.setIfInBounds_toArray, List.set_cons_succ, List.set_cons_zero]))
              refine R6.WalkR.nil (fun D ρ W6 hD hC => ?_)
              have H6 := Lib.hid (And.intro ((hC.block _ (lt_of_heap H5.out.1)).trans H5.out.1) (And.intro (H5.out.2.1.trans (hC.mono H5.out.2.1.size)) ((hC.block _ (lt_of_heap H5.out.2.2)).trans H5.out.2.2)))
              clear hC hD
              go_wp2
              go_ret
              exact ⟨by rw [show r2 = false by rw [HST.out.1, ← Bool.and_assoc, ts_ref ps y n HST.out.2.2, decide_eq_false (show ¬ n ≤ y.id by have := HNQ.out; have := C2.out; omega), Bool.false_and]; simp, Bool.and_false]; rfl, H6.out.2.1⟩
            have C2 := Lib.hid c2
            have hl1 : decide (n ≤ y.id) = true := by have := HNQ.out; simp; omega
            have HL := Lib.hid hl1
            clear c2 hl1
            rcases at_has ps y.pole with ⟨c3, c3i⟩ | ⟨c3, c3i⟩
            rotate_left
            · have C3 := Lib.hid (And.intro c3 c3i)
              clear c3 c3i
              refine R6.wp_walk (C := fun _ _ W => Below w5.heap.size w5 W) 162 (by kernel_rfl) (by kernel_rfl) rfl (Below.refl _ _).drew ?_
              simp only []
              repeat (first
                | (refine R6.WalkR.un (fun _ => rfl) (fun D ρ W hK hC => hC) ?_
                   simp only [Act.put, List.setIfInBounds_toArray, List.set_cons_succ, List.set_cons_zero])
                | (refine' R6.WalkR.det (fun _ => rfl) (fun D ρ W hK hC => ?_) ?_
                   rotate_left
                   · have f2 : W.cell? ⟨w.heap.size, 1, none⟩ = some (.slice (some ⟨c, off, none⟩) ts.length ct) := cell_of_row W _ 1 _ _ _ ((hC.block _ (lt_of_heap H5.out.2.2)).trans H5.out.2.2)
                     have hy5 := (hC.block _ (lt_of_heap H5.out.1)).trans H5.out.1
                     have y0 : W.cell? ⟨wr.heap.size, 0, none⟩ = some (.int .i64 y.id) := cell_of_row W _ 0 _ _ _ hy5
                     have y1 : W.cell? ⟨wr.heap.size, 1, none⟩ = some (.int .i64 y.pole) := cell_of_row W _ 1 _ _ _ hy5
                     have y2 : W.cell? ⟨wr.heap.size, 2, none⟩ = some (.int .i64 y.sec) := cell_of_row W _ 2 _ _ _ hy5
                     have y3 : W.cell? ⟨wr.heap.size, 3, none⟩ = some (.int .i64 y.force) := cell_of_row W _ 3 _ _ _ hy5
                     clear hy5
                     have f4 : W.cell? ⟨c, off + j * 5, none⟩ = some (.int .i64 q.id) := (hC.cell (p := ⟨c, off + j * 5, none⟩) (by have := HPV.out.2; simp; omega)).trans (HPV.out.1 0 _ rfl)
                     obtain ⟨v1, v2⟩ := HV.out
                     have c2 := decide_eq_false C2.out
                     have c3i := C3.out.2
                     have HC := Lib.hid hC
                     clear hC hK
                     go_simp
                     first
                       | with_reducible exact ⟨rfl, HC.out⟩
                       | (go_at_call 67; refine (rfWithin_any _ _ _ W).mono ?_; rintro e _ ⟨rfl, rfl⟩; (first | rw [C1.out]); exact ⟨_, rfl, rfl, HC.out⟩)
                   simp only [Act.put, List.setIfInBounds_toArray, List.set_cons_succ, List.set_cons_zero]))
              refine' R6.WalkR.det (fun _ => rfl) (fun D ρ W hK hC => ?_) ?_
              rotate_left
              · exact gives_load_blk 25 (.tmp 1) rfl rfl ((hC.block _ (lt_of_heap H5.out.2.2)).trans H5.out.2.2) [.slice AP ps.length cp, .slice (some ⟨c, off, none⟩) ts.length ct] at0 rowSheet5 ⟨rfl, hC⟩
              simp only [Act.put, List.setIfInBounds_toArray, List.set_cons_succ, List.set_cons_zero]
              repeat (first
                | (refine R6.WalkR.un (fun _ => rfl) (fun D ρ W hK hC => hC) ?_
                   simp only [Act.put, List.setIfInBounds_toArray, List.set_cons_succ, List.set_cons_zero])
                | (refine' R6.WalkR.det (fun _ => rfl) (fun D ρ W hK hC => ?_) ?_
                   rotate_left
                   · have f2 : W.cell? ⟨w.heap.size, 1, none⟩ = some (.slice (some ⟨c, off, none⟩) ts.length ct) := cell_of_row W _ 1 _ _ _ ((hC.block _ (lt_of_heap H5.out.2.2)).trans H5.out.2.2)
                     have hy5 := (hC.block _ (lt_of_heap H5.out.1)).trans H5.out.1
                     have y0 : W.cell? ⟨wr.heap.size, 0, none⟩ = some (.int .i64 y.id) := cell_of_row W _ 0 _ _ _ hy5
                     have y1 : W.cell? ⟨wr.heap.size, 1, none⟩ = some (.int .i64 y.pole) := cell_of_row W _ 1 _ _ _ hy5
                     have y2 : W.cell? ⟨wr.heap.size, 2, none⟩ = some (.int .i64 y.sec) := cell_of_row W _ 2 _ _ _ hy5
                     have y3 : W.cell? ⟨wr.heap.size, 3, none⟩ = some (.int .i64 y.force) := cell_of_row W _ 3 _ _ _ hy5
                     clear hy5
                     have f4 : W.cell? ⟨c, off + j * 5, none⟩ = some (.int .i64 q.id) := (hC.cell (p := ⟨c, off + j * 5, none⟩) (by have := HPV.out.2; simp; omega)).trans (HPV.out.1 0 _ rfl)
                     obtain ⟨v1, v2⟩ := HV.out
                     have c2 := decide_eq_false C2.out
                     have c3i := C3.out.2
                     have HC := Lib.hid hC
                     clear hC hK
                     go_simp
                     first
                       | with_reducible exact ⟨rfl, HC.out⟩
                       | (go_at_call 67; refine (rfWithin_any _ _ _ W).mono ?_; rintro e _ ⟨rfl, rfl⟩; (first | rw [C1.out]); exact ⟨_, rfl, rfl, HC.out⟩)
                       | (go_at_call 31; refine (HAT.out W (H5.out.2.1.trans (HC.out.mono H5.out.2.1.size))).mono ?_; rintro e W1 ⟨rfl, hB1⟩; exact ⟨_, rfl, rfl, HC.out.trans (hB1.mono HC.out.size)⟩)
                   simp only [Act.put, List.setIfInBounds_toArray, List.set_cons_succ, List.set_cons_zero]))
              refine R6.WalkR.nil (fun D ρ W6 hD hC => ?_)
              have H6 := Lib.hid (And.intro ((hC.block _ (lt_of_heap H5.out.1)).trans H5.out.1) (And.intro (H5.out.2.1.trans (hC.mono H5.out.2.1.size)) ((hC.block _ (lt_of_heap H5.out.2.2)).trans H5.out.2.2)))
              clear hC hD
              go_wp2
              go_ret
              exact ⟨by rw [show r2 = false by rw [HST.out.1, ← Bool.and_assoc, ts_ref ps y n HST.out.2.2, C3.out.1, Bool.false_and]; simp, Bool.and_false]; rfl, H6.out.2.1⟩
            have C3 := Lib.hid (And.intro c3 c3i)
            clear c3 c3i
            cases c : inR y.sec 0 2
            · have C4 := Lib.hid c
              clear c
              refine R6.wp_walk (C := fun _ _ W => Below w5.heap.size w5 W) 162 (by kernel_rfl) (by kernel_rfl) rfl (Below.refl _ _).drew ?_
              simp only []
              repeat (first
                | (refine R6.WalkR.un (fun _ => rfl) (fun D ρ W hK hC => hC) ?_
                   simp only [Act.put, List.setIfInBounds_toArray, List.set_cons_succ, List.set_cons_zero])
                | (refine' R6.WalkR.det (fun _ => rfl) (fun D ρ W hK hC => ?_) ?_
                   rotate_left
                   · have f2 : W.cell? ⟨w.heap.size, 1, none⟩ = some (.slice (some ⟨c, off, none⟩) ts.length ct) := cell_of_row W _ 1 _ _ _ ((hC.block _ (lt_of_heap H5.out.2.2)).trans H5.out.2.2)
                     have hy5 := (hC.block _ (lt_of_heap H5.out.1)).trans H5.out.1
                     have y0 : W.cell? ⟨wr.heap.size, 0, none⟩ = some (.int .i64 y.id) := cell_of_row W _ 0 _ _ _ hy5
                     have y1 : W.cell? ⟨wr.heap.size, 1, none⟩ = some (.int .i64 y.pole) := cell_of_row W _ 1 _ _ _ hy5
                     have y2 : W.cell? ⟨wr.heap.size, 2, none⟩ = some (.int .i64 y.sec) := cell_of_row W _ 2 _ _ _ hy5
                     have y3 : W.cell? ⟨wr.heap.size, 3, none⟩ = some (.int .i64 y.force) := cell_of_row W _ 3 _ _ _ hy5
                     clear hy5
                     have f4 : W.cell? ⟨c, off + j * 5, none⟩ = some (.int .i64 q.id) := (hC.cell (p := ⟨c, off + j * 5, none⟩) (by have := HPV.out.2; simp; omega)).trans (HPV.out.1 0 _ rfl)
                     obtain ⟨v1, v2⟩ := HV.out
                     have c2 := decide_eq_false C2.out
                     have c3i := C3.out.2
                     have c3j := decide_eq_false (Int.not_lt.2 C3.out.2)
                     have HC := Lib.hid hC
                     clear hC hK
                     go_simp
                     first
                       | with_reducible exact ⟨rfl, HC.out⟩
                       | (go_at_call 67; refine (rfWithin_any _ _ _ W).mono ?_; rintro e _ ⟨rfl, rfl⟩; (first | rw [C1.out] | rw [C4.out]); exact ⟨_, rfl, rfl, HC.out⟩)
                   simp only [Act.put, List.setIfInBounds_toArray, List.set_cons_succ, List.set_cons_zero]))
              refine' R6.WalkR.det (fun _ => rfl) (fun D ρ W hK hC => ?_) ?_
              rotate_left
              · exact gives_load_blk 25 (.tmp 1) rfl rfl ((hC.block _ (lt_of_heap H5.out.2.2)).trans H5.out.2.2) [.slice AP ps.length cp, .slice (some ⟨c, off, none⟩) ts.length ct] at0 rowSheet5 ⟨rfl, hC⟩
              simp only [Act.put, List.setIfInBounds_toArray, List.set_cons_succ, List.set_cons_zero]
              repeat (first
                | (refine R6.WalkR.un (fun _ => rfl) (fun D ρ W hK hC => hC) ?_
                   simp only [Act.put, List.setIfInBounds_toArray, List.set_cons_succ, List.set_cons_zero])
                | (refine' R6.WalkR.det (fun _ => rfl) (fun D ρ W hK hC => ?_) ?_
                   rotate_left
                   · have f2 : W.cell? ⟨w.heap.size, 1, none⟩ = some (.slice (some ⟨c, off, none⟩) ts.length ct) := cell_of_row W _ 1 _ _ _ ((hC.block _ (lt_of_heap H5.out.2.2)).trans H5.out.2.2)
                     have hy5 := (hC.block _ (lt_of_heap H5.out.1)).trans H5.out.1
                     have y0 : W.cell? ⟨wr.heap.size, 0, none⟩ = some (.int .i64 y.id) := cell_of_row W _ 0 _ _ _ hy5
                     have y1 : W.cell? ⟨wr.heap.size, 1, none⟩ = some (.int .i64 y.pole) := cell_of_row W _ 1 _ _ _ hy5
                     have y2 : W.cell? ⟨wr.heap.size, 2, none⟩ = some (.int .i64 y.sec) := cell_of_row W _ 2 _ _ _ hy5
                     have y3 : W.cell? ⟨wr.heap.size, 3, none⟩ = some (.int .i64 y.force) := cell_of_row W _ 3 _ _ _ hy5
                     clear hy5
                     have f4 : W.cell? ⟨c, off + j * 5, none⟩ = some (.int .i64 q.id) := (hC.cell (p := ⟨c, off + j * 5, none⟩) (by have := HPV.out.2; simp; omega)).trans (HPV.out.1 0 _ rfl)
                     obtain ⟨v1, v2⟩ := HV.out
                     have c2 := decide_eq_false C2.out
                     have c3i := C3.out.2
                     have c3j := decide_eq_false (Int.not_lt.2 C3.out.2)
                     have HC := Lib.hid hC
                     clear hC hK
                     go_simp
                     first
                       | with_reducible exact ⟨rfl, HC.out⟩
                       | (go_at_call 67; refine (rfWithin_any _ _ _ W).mono ?_; rintro e _ ⟨rfl, rfl⟩; (first | rw [C1.out] | rw [C4.out]); exact ⟨_, rfl, rfl, HC.out⟩)
                       | (go_at_call 31; refine (HAT.out W (H5.out.2.1.trans (HC.out.mono H5.out.2.1.size))).mono ?_; rintro e W1 ⟨rfl, hB1⟩; exact ⟨_, rfl, rfl, HC.out.trans (hB1.mono HC.out.size)⟩)
                   simp only [Act.put, List.setIfInBounds_toArray, List.set_cons_succ, List.set_cons_zero]))
              refine R6.WalkR.nil (fun D ρ W6 hD hC => ?_)
              have H6 := Lib.hid (And.intro ((hC.block _ (lt_of_heap H5.out.1)).trans H5.out.1) (And.intro (H5.out.2.1.trans (hC.mono H5.out.2.1.size)) ((hC.block _ (lt_of_heap H5.out.2.2)).trans H5.out.2.2)))
              clear hC hD
              go_wp2
              go_ret
              exact ⟨by rw [show r2 = false by rw [HST.out.1, ← Bool.and_assoc, ts_ref ps y n HST.out.2.2, C4.out, Bool.false_and]; simp, Bool.and_false]; rfl, H6.out.2.1⟩
            have C4 := Lib.hid c
            clear c
            cases c : inR y.force 1 1000000
            · have C5 := Lib.hid c
              clear c
              refine R6.wp_walk (C := fun _ _ W => Below w5.heap.size w5 W) 162 (by kernel_rfl) (by kernel_rfl) rfl (Below.refl _ _).drew ?_
              simp only []
              repeat (first
                | (refine R6.WalkR.un (fun _ => rfl) (fun D ρ W hK hC => hC) ?_
                   simp only [Act.put, List.setIfInBounds_toArray, List.set_cons_succ, List.set_cons_zero])
                | (refine' R6.WalkR.det (fun _ => rfl) (fun D ρ W hK hC => ?_) ?_
                   rotate_left
                   · have f2 : W.cell? ⟨w.heap.size, 1, none⟩ = some (.slice (some ⟨c, off, none⟩) ts.length ct) := cell_of_row W _ 1 _ _ _ ((hC.block _ (lt_of_heap H5.out.2.2)).trans H5.out.2.2)
                     have hy5 := (hC.block _ (lt_of_heap H5.out.1)).trans H5.out.1
                     have y0 : W.cell? ⟨wr.heap.size, 0, none⟩ = some (.int .i64 y.id) := cell_of_row W _ 0 _ _ _ hy5
                     have y1 : W.cell? ⟨wr.heap.size, 1, none⟩ = some (.int .i64 y.pole) := cell_of_row W _ 1 _ _ _ hy5
                     have y2 : W.cell? ⟨wr.heap.size, 2, none⟩ = some (.int .i64 y.sec) := cell_of_row W _ 2 _ _ _ hy5
                     have y3 : W.cell? ⟨wr.heap.size, 3, none⟩ = some (.int .i64 y.force) := cell_of_row W _ 3 _ _ _ hy5
                     clear hy5
                     have f4 : W.cell? ⟨c, off + j * 5, none⟩ = some (.int .i64 q.id) := (hC.cell (p := ⟨c, off + j * 5, none⟩) (by have := HPV.out.2; simp; omega)).trans (HPV.out.1 0 _ rfl)
                     obtain ⟨v1, v2⟩ := HV.out
                     have c2 := decide_eq_false C2.out
                     have c3i := C3.out.2
                     have c3j := decide_eq_false (Int.not_lt.2 C3.out.2)
                     have HC := Lib.hid hC
                     clear hC hK
                     go_simp
                     first
                       | with_reducible exact ⟨rfl, HC.out⟩
                       | (go_at_call 67; refine (rfWithin_any _ _ _ W).mono ?_; rintro e _ ⟨rfl, rfl⟩; (first | rw [C1.out] | rw [C4.out] | rw [C5.out]); exact ⟨_, rfl, rfl, HC.out⟩)
                   simp only [Act.put, List.setIfInBounds_toArray, List.set_cons_succ, List.set_cons_zero]))
              refine' R6.WalkR.det (fun _ => rfl) (fun D ρ W hK hC => ?_) ?_
              rotate_left
              · exact gives_load_blk 25 (.tmp 1) rfl rfl ((hC.block _ (lt_of_heap H5.out.2.2)).trans H5.out.2.2) [.slice AP ps.length cp, .slice (some ⟨c, off, none⟩) ts.length ct] at0 rowSheet5 ⟨rfl, hC⟩
              simp only [Act.put, List.setIfInBounds_toArray, List.set_cons_succ, List.set_cons_zero]
              repeat (first
                | (refine R6.WalkR.un (fun _ => rfl) (fun D ρ W hK hC => hC) ?_
                   simp only [Act.put, List.setIfInBounds_toArray, List.set_cons_succ, List.set_cons_zero])
                | (refine' R6.WalkR.det (fun _ => rfl) (fun D ρ W hK hC => ?_) ?_
                   rotate_left
                   · have f2 : W.cell? ⟨w.heap.size, 1, none⟩ = some (.slice (some ⟨c, off, none⟩) ts.length ct) := cell_of_row W _ 1 _ _ _ ((hC.block _ (lt_of_heap H5.out.2.2)).trans H5.out.2.2)
                     have hy5 := (hC.block _ (lt_of_heap H5.out.1)).trans H5.out.1
                     have y0 : W.cell? ⟨wr.heap.size, 0, none⟩ = some (.int .i64 y.id) := cell_of_row W _ 0 _ _ _ hy5
                     have y1 : W.cell? ⟨wr.heap.size, 1, none⟩ = some (.int .i64 y.pole) := cell_of_row W _ 1 _ _ _ hy5
                     have y2 : W.cell? ⟨wr.heap.size, 2, none⟩ = some (.int .i64 y.sec) := cell_of_row W _ 2 _ _ _ hy5
                     have y3 : W.cell? ⟨wr.heap.size, 3, none⟩ = some (.int .i64 y.force) := cell_of_row W _ 3 _ _ _ hy5
                     clear hy5
                     have f4 : W.cell? ⟨c, off + j * 5, none⟩ = some (.int .i64 q.id) := (hC.cell (p := ⟨c, off + j * 5, none⟩) (by have := HPV.out.2; simp; omega)).trans (HPV.out.1 0 _ rfl)
                     obtain ⟨v1, v2⟩ := HV.out
                     have c2 := decide_eq_false C2.out
                     have c3i := C3.out.2
                     have c3j := decide_eq_false (Int.not_lt.2 C3.out.2)
                     have HC := Lib.hid hC
                     clear hC hK
                     go_simp
                     first
                       | with_reducible exact ⟨rfl, HC.out⟩
                       | (go_at_call 67; refine (rfWithin_any _ _ _ W).mono ?_; rintro e _ ⟨rfl, rfl⟩; (first | rw [C1.out] | rw [C4.out] | rw [C5.out]); exact ⟨_, rfl, rfl, HC.out⟩)
                       | (go_at_call 31; refine (HAT.out W (H5.out.2.1.trans (HC.out.mono H5.out.2.1.size))).mono ?_; rintro e W1 ⟨rfl, hB1⟩; exact ⟨_, rfl, rfl, HC.out.trans (hB1.mono HC.out.size)⟩)
                   simp only [Act.put, List.setIfInBounds_toArray, List.set_cons_succ, List.set_cons_zero]))
              refine R6.WalkR.nil (fun D ρ W6 hD hC => ?_)
              have H6 := Lib.hid (And.intro ((hC.block _ (lt_of_heap H5.out.1)).trans H5.out.1) (And.intro (H5.out.2.1.trans (hC.mono H5.out.2.1.size)) ((hC.block _ (lt_of_heap H5.out.2.2)).trans H5.out.2.2)))
              clear hC hD
              go_wp2
              go_ret
              exact ⟨by rw [show r2 = false by rw [HST.out.1, ← Bool.and_assoc, ts_ref ps y n HST.out.2.2, C5.out]; simp, Bool.and_false]; rfl, H6.out.2.1⟩
            have C5 := Lib.hid c
            clear c
            refine R6.wp_walk (C := fun _ _ W => Below w5.heap.size w5 W) 162 (by kernel_rfl) (by kernel_rfl) rfl (Below.refl _ _).drew ?_
            simp only []
            repeat (first
              | (refine R6.WalkR.un (fun _ => rfl) (fun D ρ W hK hC => hC) ?_
                 simp only [Act.put, List.setIfInBounds_toArray, List.set_cons_succ, List.set_cons_zero])
              | (refine' R6.WalkR.det (fun _ => rfl) (fun D ρ W hK hC => ?_) ?_
                 rotate_left
                 · have f2 : W.cell? ⟨w.heap.size, 1, none⟩ = some (.slice (some ⟨c, off, none⟩) ts.length ct) := cell_of_row W _ 1 _ _ _ ((hC.block _ (lt_of_heap H5.out.2.2)).trans H5.out.2.2)
                   have hy5 := (hC.block _ (lt_of_heap H5.out.1)).trans H5.out.1
                   have y0 : W.cell? ⟨wr.heap.size, 0, none⟩ = some (.int .i64 y.id) := cell_of_row W _ 0 _ _ _ hy5
                   have y1 : W.cell? ⟨wr.heap.size, 1, none⟩ = some (.int .i64 y.pole) := cell_of_row W _ 1 _ _ _ hy5
                   have y2 : W.cell? ⟨wr.heap.size, 2, none⟩ = some (.int .i64 y.sec) := cell_of_row W _ 2 _ _ _ hy5
                   have y3 : W.cell? ⟨wr.heap.size, 3, none⟩ = some (.int .i64 y.force) := cell_of_row W _ 3 _ _ _ hy5
                   clear hy5
                   have f4 : W.cell? ⟨c, off + j * 5, none⟩ = some (.int .i64 q.id) := (hC.cell (p := ⟨c, off + j * 5, none⟩) (by have := HPV.out.2; simp; omega)).trans (HPV.out.1 0 _ rfl)
                   obtain ⟨v1, v2⟩ := HV.out
                   have c2 := decide_eq_false C2.out
                   have c3i := C3.out.2
                   have c3j := decide_eq_false (Int.not_lt.2 C3.out.2)
                   have HC := Lib.hid hC
                   clear hC hK
                   go_simp
                   first
                     | with_reducible exact ⟨rfl, HC.out⟩
                     | (go_at_call 67; refine (rfWithin_any _ _ _ W).mono ?_; rintro e _ ⟨rfl, rfl⟩; (first | rw [C1.out] | rw [C4.out] | rw [C5.out]); exact ⟨_, rfl, rfl, HC.out⟩)
                 simp only [Act.put, List.setIfInBounds_toArray, List.set_cons_succ, List.set_cons_zero]))
            refine' R6.WalkR.det (fun _ => rfl) (fun D ρ W hK hC => ?_) ?_
            rotate_left
            · exact gives_load_blk 25 (.tmp 1) rfl rfl ((hC.block _ (lt_of_heap H5.out.2.2)).trans H5.out.2.2) [.slice AP ps.length cp, .slice (some ⟨c, off, none⟩) ts.length ct] at0 rowSheet5 ⟨rfl, hC⟩
            simp only [Act.put, List.setIfInBounds_toArray, List.set_cons_succ, List.set_cons_zero]
            repeat (first
              | (refine R6.WalkR.un (fun _ => rfl) (fun D ρ W hK hC => hC) ?_
                 simp only [Act.put, List.setIfInBounds_toArray, List.set_cons_succ, List.set_cons_zero])
              | (refine' R6.WalkR.det (fun _ => rfl) (fun D ρ W hK hC => ?_) ?_
                 rotate_left
                 · have f2 : W.cell? ⟨w.heap.size, 1, none⟩ = some (.slice (some ⟨c, off, none⟩) ts.length ct) := cell_of_row W _ 1 _ _ _ ((hC.block _ (lt_of_heap H5.out.2.2)).trans H5.out.2.2)
                   have hy5 := (hC.block _ (lt_of_heap H5.out.1)).trans H5.out.1
                   have y0 : W.cell? ⟨wr.heap.size, 0, none⟩ = some (.int .i64 y.id) := cell_of_row W _ 0 _ _ _ hy5
                   have y1 : W.cell? ⟨wr.heap.size, 1, none⟩ = some (.int .i64 y.pole) := cell_of_row W _ 1 _ _ _ hy5
                   have y2 : W.cell? ⟨wr.heap.size, 2, none⟩ = some (.int .i64 y.sec) := cell_of_row W _ 2 _ _ _ hy5
                   have y3 : W.cell? ⟨wr.heap.size, 3, none⟩ = some (.int .i64 y.force) := cell_of_row W _ 3 _ _ _ hy5
                   clear hy5
                   have f4 : W.cell? ⟨c, off + j * 5, none⟩ = some (.int .i64 q.id) := (hC.cell (p := ⟨c, off + j * 5, none⟩) (by have := HPV.out.2; simp; omega)).trans (HPV.out.1 0 _ rfl)
                   obtain ⟨v1, v2⟩ := HV.out
                   have c2 := decide_eq_false C2.out
                   have c3i := C3.out.2
                   have c3j := decide_eq_false (Int.not_lt.2 C3.out.2)
                   have HC := Lib.hid hC
                   clear hC hK
                   go_simp
                   first
                     | with_reducible exact ⟨rfl, HC.out⟩
                     | (go_at_call 67; refine (rfWithin_any _ _ _ W).mono ?_; rintro e _ ⟨rfl, rfl⟩; (first | rw [C1.out] | rw [C4.out] | rw [C5.out]); exact ⟨_, rfl, rfl, HC.out⟩)
                     | (go_at_call 31; refine (HAT.out W (H5.out.2.1.trans (HC.out.mono H5.out.2.1.size))).mono ?_; rintro e W1 ⟨rfl, hB1⟩; exact ⟨_, rfl, rfl, HC.out.trans (hB1.mono HC.out.size)⟩)
                 simp only [Act.put, List.setIfInBounds_toArray, List.set_cons_succ, List.set_cons_zero]))
            refine R6.WalkR.nil (fun D ρ W6 hD hC => ?_)
            have H6 := Lib.hid (And.intro ((hC.block _ (lt_of_heap H5.out.1)).trans H5.out.1) (And.intro (H5.out.2.1.trans (hC.mono H5.out.2.1.size)) ((hC.block _ (lt_of_heap H5.out.2.2)).trans H5.out.2.2)))
            clear hC hD
            go_wp2
            go_roundg gm
            case measure => omega
            case rel => exact ⟨(j + 1) + 1, y.id + 1, by omega, by go_num, by have := HST.out.1; rw [← Bool.and_assoc, ts_ref ps y n HST.out.2.2, C1.out, HL.out, C3.out.1, C4.out, C5.out] at this; simpa using this.symm, by have := (inR_iff.1 C1.out).1; omega, fun _ => ⟨y, HST.out.2.1, rfl⟩, fun h => absurd h (by omega), H6.out.2⟩
    | succ gn =>
      have hj : j < ps.length := by omega
      have hjz : (j : Int) < ps.length := by omega
      obtain ⟨c, off, hA, hcB, hc⟩ := HPE.out j hj
      subst hA
      have hc' : ∀ m v, (pcl ps[j])[m]? = some v → wr.cell? ⟨c, off + j * 12 + m, none⟩ = some v := fun m v hv => (hJ.out.2.2.2.2.1.cell (p := ⟨c, off + j * 12 + m, none⟩) (by simp; omega)).trans (hc m v hv)
      have hst : byIdL Pol.id okPol (ps.drop j) n = (inR ps[j].id n 9999 && (okPol ps[j] && byIdL Pol.id okPol (ps.drop (j + 1)) (ps[j].id + 1))) := by rw [List.drop_eq_getElem_cons hj]; rfl
      rw [hJ.out.1] at hst
      have hyj : ps[j]? = some ps[j] := List.getElem?_eq_getElem hj
      have hn0 := hJ.out.2.1
      generalize ps[j] = y at hc' hst hyj
      have HST := Lib.hid (And.intro hst (And.intro hyj hn0))
      have HCC := Lib.hid hc'
      have HJ := Lib.hid hJ.out.2.2
      clear hc hc' hst hyj hJ hn0
      go_wp2_with (first
        | (show wpList _ _ _ (Oper.mk (some 29) _ _ _ _ _ :: _) _ _
           refine wpList_load_at 56 (.tmp 28) rfl rfl rfl (pcl y) HCC.out rowPole ?_)
        | (show wpList _ _ _ (Oper.mk none (Op.store _ (Operand.tmp 4) (Operand.tmp 29)) _ _ _ _ :: _) _ _
           refine wpList_store_blk 56 (.tmp 4) (.tmp 29) rfl rfl rfl rfl rfl (alloc_at0 wr _) (Nat.le_of_ble_eq_true rfl) (fun v hv => pcl_one [y] v (by simpa using hv)) rowPole ?_
           intro w5 hP5 hM5
           rw [splice_whole (by rfl)] at hM5
           have hb5 : Below wr.heap.size wr w5 := (grow1 wr _).trans (hP5.below (Nat.le_refl _))
           have H5 := Lib.hid (And.intro hM5 (And.intro (HJ.out.2.2.1.trans (hb5.mono HJ.out.2.2.1.size)) ((hb5.block _ (lt_of_heap HJ.out.2.2.2)).trans HJ.out.2.2.2)))
           clear hP5 hM5 hb5))
      clear hcr
      cases c1 : inR y.id 0 9999
      · have C1 := Lib.hid c1
        clear c1
        refine R6.wp_walk (C := fun _ _ W => Below w5.heap.size w5 W) 162 (by kernel_rfl) (by kernel_rfl) rfl (Below.refl _ _).drew ?_
        simp only []
        repeat (first
          | (refine R6.WalkR.un (fun _ => rfl) (fun D ρ W hK hC => hC) ?_
             simp only [Act.put, List.setIfInBounds_toArray, List.set_cons_succ, List.set_cons_zero])
          | (refine' R6.WalkR.det (fun _ => rfl) (fun D ρ W hK hC => ?_) ?_
             rotate_left
             · have f1 : W.cell? ⟨w.heap.size, 0, none⟩ = some (.slice (some ⟨c, off, none⟩) ps.length cp) := cell_of_row W _ 0 _ _ _ ((hC.block _ (lt_of_heap H5.out.2.2)).trans H5.out.2.2)
               have hy5 := (hC.block _ (lt_of_heap H5.out.1)).trans H5.out.1
               have y0 : W.cell? ⟨wr.heap.size, 0, none⟩ = some (.int .i64 y.id) := cell_of_row W _ 0 _ _ _ hy5
               have y1 : W.cell? ⟨wr.heap.size, 1, none⟩ = some (.int .i64 y.clone) := cell_of_row W _ 1 _ _ _ hy5
               have y2 : W.cell? ⟨wr.heap.size, 2, none⟩ = some (.int .i64 y.cut) := cell_of_row W _ 2 _ _ _ hy5
               have y3 : W.cell? ⟨wr.heap.size, 3, none⟩ = some (.int .i64 y.shot) := cell_of_row W _ 3 _ _ _ hy5
               have y10 : W.cell? ⟨wr.heap.size, 10, none⟩ = some (.int .i64 y.soak) := cell_of_row W _ 10 _ _ _ hy5
               have y11 : W.cell? ⟨wr.heap.size, 11, none⟩ = some (.int .i64 y.place) := cell_of_row W _ 11 _ _ _ hy5
               clear hy5
               have HC := Lib.hid hC
               clear hC hK
               go_simp
               first
                 | with_reducible exact ⟨rfl, HC.out⟩
                 | (go_at_call 67; refine (rfWithin_any _ _ _ W).mono ?_; rintro e _ ⟨rfl, rfl⟩; (first | rw [C1.out]); exact ⟨_, rfl, rfl, HC.out⟩)
             simp only [Act.put, List.setIfInBounds_toArray, List.set_cons_succ, List.set_cons_zero]))
        refine R6.WalkR.nil (fun D ρ W6 hD hC => ?_)
        have H6 := Lib.hid (And.intro ((hC.block _ (lt_of_heap H5.out.1)).trans H5.out.1) (And.intro (H5.out.2.1.trans (hC.mono H5.out.2.1.size)) ((hC.block _ (lt_of_heap H5.out.2.2)).trans H5.out.2.2)))
        clear hC hD
        go_wp2
        go_ret
        exact ⟨by rw [show r1 = false by rw [HST.out.1, ← Bool.and_assoc, pol_ref y n HST.out.2.2, C1.out, Bool.false_and]; simp, Bool.false_and]; rfl, H6.out.2.1⟩
      have C1 := Lib.hid c1
      clear c1
      cases j with
      | zero =>
        have hq0 := HJ.out.2.1 rfl
        have hl1 : decide (n ≤ y.id) = true := by have := (inR_iff.1 C1.out).1; simp; omega
        have HL := Lib.hid hl1
        clear hq0 hl1
        cases c : inR y.clone 0 9999
        · have C3 := Lib.hid c
          clear c
          refine R6.wp_walk (C := fun _ _ W => Below w5.heap.size w5 W) 162 (by kernel_rfl) (by kernel_rfl) rfl (Below.refl _ _).drew ?_
          simp only []
          repeat (first
            | (refine R6.WalkR.un (fun _ => rfl) (fun D ρ W hK hC => hC) ?_
               simp only [Act.put, List.setIfInBounds_toArray, List.set_cons_succ, List.set_cons_zero])
            | (refine' R6.WalkR.det (fun _ => rfl) (fun D ρ W hK hC => ?_) ?_
               rotate_left
               · have f1 : W.cell? ⟨w.heap.size, 0, none⟩ = some (.slice (some ⟨c, off, none⟩) ps.length cp) := cell_of_row W _ 0 _ _ _ ((hC.block _ (lt_of_heap H5.out.2.2)).trans H5.out.2.2)
                 have hy5 := (hC.block _ (lt_of_heap H5.out.1)).trans H5.out.1
                 have y0 : W.cell? ⟨wr.heap.size, 0, none⟩ = some (.int .i64 y.id) := cell_of_row W _ 0 _ _ _ hy5
                 have y1 : W.cell? ⟨wr.heap.size, 1, none⟩ = some (.int .i64 y.clone) := cell_of_row W _ 1 _ _ _ hy5
                 have y2 : W.cell? ⟨wr.heap.size, 2, none⟩ = some (.int .i64 y.cut) := cell_of_row W _ 2 _ _ _ hy5
                 have y3 : W.cell? ⟨wr.heap.size, 3, none⟩ = some (.int .i64 y.shot) := cell_of_row W _ 3 _ _ _ hy5
                 have y10 : W.cell? ⟨wr.heap.size, 10, none⟩ = some (.int .i64 y.soak) := cell_of_row W _ 10 _ _ _ hy5
                 have y11 : W.cell? ⟨wr.heap.size, 11, none⟩ = some (.int .i64 y.place) := cell_of_row W _ 11 _ _ _ hy5
                 clear hy5
                 have HC := Lib.hid hC
                 clear hC hK
                 go_simp
                 first
                   | with_reducible exact ⟨rfl, HC.out⟩
                   | (go_at_call 67; refine (rfWithin_any _ _ _ W).mono ?_; rintro e _ ⟨rfl, rfl⟩; (first | rw [C1.out] | rw [C3.out]); exact ⟨_, rfl, rfl, HC.out⟩)
               simp only [Act.put, List.setIfInBounds_toArray, List.set_cons_succ, List.set_cons_zero]))
          refine R6.WalkR.nil (fun D ρ W6 hD hC => ?_)
          have H6 := Lib.hid (And.intro ((hC.block _ (lt_of_heap H5.out.1)).trans H5.out.1) (And.intro (H5.out.2.1.trans (hC.mono H5.out.2.1.size)) ((hC.block _ (lt_of_heap H5.out.2.2)).trans H5.out.2.2)))
          clear hC hD
          go_wp2
          go_ret
          exact ⟨by rw [show r1 = false by rw [HST.out.1, ← Bool.and_assoc, pol_ref y n HST.out.2.2, C3.out, Bool.false_and]; simp, Bool.false_and]; rfl, H6.out.2.1⟩
        have C3 := Lib.hid c
        clear c
        cases c : inR y.shot 0 y.cut
        · have C4 := Lib.hid c
          clear c
          refine R6.wp_walk (C := fun _ _ W => Below w5.heap.size w5 W) 162 (by kernel_rfl) (by kernel_rfl) rfl (Below.refl _ _).drew ?_
          simp only []
          repeat (first
            | (refine R6.WalkR.un (fun _ => rfl) (fun D ρ W hK hC => hC) ?_
               simp only [Act.put, List.setIfInBounds_toArray, List.set_cons_succ, List.set_cons_zero])
            | (refine' R6.WalkR.det (fun _ => rfl) (fun D ρ W hK hC => ?_) ?_
               rotate_left
               · have f1 : W.cell? ⟨w.heap.size, 0, none⟩ = some (.slice (some ⟨c, off, none⟩) ps.length cp) := cell_of_row W _ 0 _ _ _ ((hC.block _ (lt_of_heap H5.out.2.2)).trans H5.out.2.2)
                 have hy5 := (hC.block _ (lt_of_heap H5.out.1)).trans H5.out.1
                 have y0 : W.cell? ⟨wr.heap.size, 0, none⟩ = some (.int .i64 y.id) := cell_of_row W _ 0 _ _ _ hy5
                 have y1 : W.cell? ⟨wr.heap.size, 1, none⟩ = some (.int .i64 y.clone) := cell_of_row W _ 1 _ _ _ hy5
                 have y2 : W.cell? ⟨wr.heap.size, 2, none⟩ = some (.int .i64 y.cut) := cell_of_row W _ 2 _ _ _ hy5
                 have y3 : W.cell? ⟨wr.heap.size, 3, none⟩ = some (.int .i64 y.shot) := cell_of_row W _ 3 _ _ _ hy5
                 have y10 : W.cell? ⟨wr.heap.size, 10, none⟩ = some (.int .i64 y.soak) := cell_of_row W _ 10 _ _ _ hy5
                 have y11 : W.cell? ⟨wr.heap.size, 11, none⟩ = some (.int .i64 y.place) := cell_of_row W _ 11 _ _ _ hy5
                 clear hy5
                 have HC := Lib.hid hC
                 clear hC hK
                 go_simp
                 first
                   | with_reducible exact ⟨rfl, HC.out⟩
                   | (go_at_call 67; refine (rfWithin_any _ _ _ W).mono ?_; rintro e _ ⟨rfl, rfl⟩; (first | rw [C1.out] | rw [C3.out] | rw [C4.out]); exact ⟨_, rfl, rfl, HC.out⟩)
               simp only [Act.put, List.setIfInBounds_toArray, List.set_cons_succ, List.set_cons_zero]))
          refine R6.WalkR.nil (fun D ρ W6 hD hC => ?_)
          have H6 := Lib.hid (And.intro ((hC.block _ (lt_of_heap H5.out.1)).trans H5.out.1) (And.intro (H5.out.2.1.trans (hC.mono H5.out.2.1.size)) ((hC.block _ (lt_of_heap H5.out.2.2)).trans H5.out.2.2)))
          clear hC hD
          go_wp2
          go_ret
          exact ⟨by rw [show r1 = false by rw [HST.out.1, ← Bool.and_assoc, pol_ref y n HST.out.2.2, C4.out, Bool.false_and]; simp, Bool.false_and]; rfl, H6.out.2.1⟩
        have C4 := Lib.hid c
        clear c
        by_cases cc : 3000 < y.cut
        · have C5 := Lib.hid cc
          refine R6.wp_walk (C := fun _ _ W => Below w5.heap.size w5 W) 162 (by kernel_rfl) (by kernel_rfl) rfl (Below.refl _ _).drew ?_
          simp only []
          repeat (first
            | (refine R6.WalkR.un (fun _ => rfl) (fun D ρ W hK hC => hC) ?_
               simp only [Act.put, List.setIfInBounds_toArray, List.set_cons_succ, List.set_cons_zero])
            | (refine' R6.WalkR.det (fun _ => rfl) (fun D ρ W hK hC => ?_) ?_
               rotate_left
               · have f1 : W.cell? ⟨w.heap.size, 0, none⟩ = some (.slice (some ⟨c, off, none⟩) ps.length cp) := cell_of_row W _ 0 _ _ _ ((hC.block _ (lt_of_heap H5.out.2.2)).trans H5.out.2.2)
                 have hy5 := (hC.block _ (lt_of_heap H5.out.1)).trans H5.out.1
                 have y0 : W.cell? ⟨wr.heap.size, 0, none⟩ = some (.int .i64 y.id) := cell_of_row W _ 0 _ _ _ hy5
                 have y1 : W.cell? ⟨wr.heap.size, 1, none⟩ = some (.int .i64 y.clone) := cell_of_row W _ 1 _ _ _ hy5
                 have y2 : W.cell? ⟨wr.heap.size, 2, none⟩ = some (.int .i64 y.cut) := cell_of_row W _ 2 _ _ _ hy5
                 have y3 : W.cell? ⟨wr.heap.size, 3, none⟩ = some (.int .i64 y.shot) := cell_of_row W _ 3 _ _ _ hy5
                 have y10 : W.cell? ⟨wr.heap.size, 10, none⟩ = some (.int .i64 y.soak) := cell_of_row W _ 10 _ _ _ hy5
                 have y11 : W.cell? ⟨wr.heap.size, 11, none⟩ = some (.int .i64 y.place) := cell_of_row W _ 11 _ _ _ hy5
                 clear hy5
                 have c5 := C5.out
                 have HC := Lib.hid hC
                 clear hC hK
                 go_simp
                 first
                   | with_reducible exact ⟨rfl, HC.out⟩
                   | (go_at_call 67; refine (rfWithin_any _ _ _ W).mono ?_; rintro e _ ⟨rfl, rfl⟩; (first | rw [C1.out] | rw [C3.out] | rw [C4.out]); exact ⟨_, rfl, rfl, HC.out⟩)
               simp only [Act.put, List.setIfInBounds_toArray, List.set_cons_succ, List.set_cons_zero]))
          refine R6.WalkR.nil (fun D ρ W6 hD hC => ?_)
          have H6 := Lib.hid (And.intro ((hC.block _ (lt_of_heap H5.out.1)).trans H5.out.1) (And.intro (H5.out.2.1.trans (hC.mono H5.out.2.1.size)) ((hC.block _ (lt_of_heap H5.out.2.2)).trans H5.out.2.2)))
          clear hC hD
          go_wp2
          go_ret
          exact ⟨by rw [show r1 = false by rw [HST.out.1, ← Bool.and_assoc, pol_ref y n HST.out.2.2, decide_eq_false (Int.not_le.2 C5.out), Bool.false_and]; simp, Bool.false_and]; rfl, H6.out.2.1⟩
        have C5 := Lib.hid (Int.not_lt.1 cc)
        clear cc
        cases c : inR y.soak 0 5
        · have C6 := Lib.hid c
          clear c
          refine R6.wp_walk (C := fun _ _ W => Below w5.heap.size w5 W) 162 (by kernel_rfl) (by kernel_rfl) rfl (Below.refl _ _).drew ?_
          simp only []
          repeat (first
            | (refine R6.WalkR.un (fun _ => rfl) (fun D ρ W hK hC => hC) ?_
               simp only [Act.put, List.setIfInBounds_toArray, List.set_cons_succ, List.set_cons_zero])
            | (refine' R6.WalkR.det (fun _ => rfl) (fun D ρ W hK hC => ?_) ?_
               rotate_left
               · have f1 : W.cell? ⟨w.heap.size, 0, none⟩ = some (.slice (some ⟨c, off, none⟩) ps.length cp) := cell_of_row W _ 0 _ _ _ ((hC.block _ (lt_of_heap H5.out.2.2)).trans H5.out.2.2)
                 have hy5 := (hC.block _ (lt_of_heap H5.out.1)).trans H5.out.1
                 have y0 : W.cell? ⟨wr.heap.size, 0, none⟩ = some (.int .i64 y.id) := cell_of_row W _ 0 _ _ _ hy5
                 have y1 : W.cell? ⟨wr.heap.size, 1, none⟩ = some (.int .i64 y.clone) := cell_of_row W _ 1 _ _ _ hy5
                 have y2 : W.cell? ⟨wr.heap.size, 2, none⟩ = some (.int .i64 y.cut) := cell_of_row W _ 2 _ _ _ hy5
                 have y3 : W.cell? ⟨wr.heap.size, 3, none⟩ = some (.int .i64 y.shot) := cell_of_row W _ 3 _ _ _ hy5
                 have y10 : W.cell? ⟨wr.heap.size, 10, none⟩ = some (.int .i64 y.soak) := cell_of_row W _ 10 _ _ _ hy5
                 have y11 : W.cell? ⟨wr.heap.size, 11, none⟩ = some (.int .i64 y.place) := cell_of_row W _ 11 _ _ _ hy5
                 clear hy5
                 have c5 := decide_eq_false (Int.not_lt.2 C5.out)
                 have HC := Lib.hid hC
                 clear hC hK
                 go_simp
                 first
                   | with_reducible exact ⟨rfl, HC.out⟩
                   | (go_at_call 67; refine (rfWithin_any _ _ _ W).mono ?_; rintro e _ ⟨rfl, rfl⟩; (first | rw [C1.out] | rw [C3.out] | rw [C4.out] | rw [C6.out]); exact ⟨_, rfl, rfl, HC.out⟩)
               simp only [Act.put, List.setIfInBounds_toArray, List.set_cons_succ, List.set_cons_zero]))
          refine R6.WalkR.nil (fun D ρ W6 hD hC => ?_)
          have H6 := Lib.hid (And.intro ((hC.block _ (lt_of_heap H5.out.1)).trans H5.out.1) (And.intro (H5.out.2.1.trans (hC.mono H5.out.2.1.size)) ((hC.block _ (lt_of_heap H5.out.2.2)).trans H5.out.2.2)))
          clear hC hD
          go_wp2
          go_ret
          exact ⟨by rw [show r1 = false by rw [HST.out.1, ← Bool.and_assoc, pol_ref y n HST.out.2.2, C6.out, Bool.false_and]; simp, Bool.false_and]; rfl, H6.out.2.1⟩
        have C6 := Lib.hid c
        clear c
        cases c : inR y.place 0 3
        · have C7 := Lib.hid c
          clear c
          refine R6.wp_walk (C := fun _ _ W => Below w5.heap.size w5 W) 162 (by kernel_rfl) (by kernel_rfl) rfl (Below.refl _ _).drew ?_
          simp only []
          repeat (first
            | (refine R6.WalkR.un (fun _ => rfl) (fun D ρ W hK hC => hC) ?_
               simp only [Act.put, List.setIfInBounds_toArray, List.set_cons_succ, List.set_cons_zero])
            | (refine' R6.WalkR.det (fun _ => rfl) (fun D ρ W hK hC => ?_) ?_
               rotate_left
               · have f1 : W.cell? ⟨w.heap.size, 0, none⟩ = some (.slice (some ⟨c, off, none⟩) ps.length cp) := cell_of_row W _ 0 _ _ _ ((hC.block _ (lt_of_heap H5.out.2.2)).trans H5.out.2.2)
                 have hy5 := (hC.block _ (lt_of_heap H5.out.1)).trans H5.out.1
                 have y0 : W.cell? ⟨wr.heap.size, 0, none⟩ = some (.int .i64 y.id) := cell_of_row W _ 0 _ _ _ hy5
                 have y1 : W.cell? ⟨wr.heap.size, 1, none⟩ = some (.int .i64 y.clone) := cell_of_row W _ 1 _ _ _ hy5
                 have y2 : W.cell? ⟨wr.heap.size, 2, none⟩ = some (.int .i64 y.cut) := cell_of_row W _ 2 _ _ _ hy5
                 have y3 : W.cell? ⟨wr.heap.size, 3, none⟩ = some (.int .i64 y.shot) := cell_of_row W _ 3 _ _ _ hy5
                 have y10 : W.cell? ⟨wr.heap.size, 10, none⟩ = some (.int .i64 y.soak) := cell_of_row W _ 10 _ _ _ hy5
                 have y11 : W.cell? ⟨wr.heap.size, 11, none⟩ = some (.int .i64 y.place) := cell_of_row W _ 11 _ _ _ hy5
                 clear hy5
                 have c5 := decide_eq_false (Int.not_lt.2 C5.out)
                 have HC := Lib.hid hC
                 clear hC hK
                 go_simp
                 first
                   | with_reducible exact ⟨rfl, HC.out⟩
                   | (go_at_call 67; refine (rfWithin_any _ _ _ W).mono ?_; rintro e _ ⟨rfl, rfl⟩; (first | rw [C1.out] | rw [C3.out] | rw [C4.out] | rw [C6.out] | rw [C7.out]); exact ⟨_, rfl, rfl, HC.out⟩)
               simp only [Act.put, List.setIfInBounds_toArray, List.set_cons_succ, List.set_cons_zero]))
          refine R6.WalkR.nil (fun D ρ W6 hD hC => ?_)
          have H6 := Lib.hid (And.intro ((hC.block _ (lt_of_heap H5.out.1)).trans H5.out.1) (And.intro (H5.out.2.1.trans (hC.mono H5.out.2.1.size)) ((hC.block _ (lt_of_heap H5.out.2.2)).trans H5.out.2.2)))
          clear hC hD
          go_wp2
          go_ret
          exact ⟨by rw [show r1 = false by rw [HST.out.1, ← Bool.and_assoc, pol_ref y n HST.out.2.2, C7.out]; simp, Bool.false_and]; rfl, H6.out.2.1⟩
        have C7 := Lib.hid c
        clear c
        refine R6.wp_walk (C := fun _ _ W => Below w5.heap.size w5 W) 162 (by kernel_rfl) (by kernel_rfl) rfl (Below.refl _ _).drew ?_
        simp only []
        repeat (first
          | (refine R6.WalkR.un (fun _ => rfl) (fun D ρ W hK hC => hC) ?_
             simp only [Act.put, List.setIfInBounds_toArray, List.set_cons_succ, List.set_cons_zero])
          | (refine' R6.WalkR.det (fun _ => rfl) (fun D ρ W hK hC => ?_) ?_
             rotate_left
             · have f1 : W.cell? ⟨w.heap.size, 0, none⟩ = some (.slice (some ⟨c, off, none⟩) ps.length cp) := cell_of_row W _ 0 _ _ _ ((hC.block _ (lt_of_heap H5.out.2.2)).trans H5.out.2.2)
               have hy5 := (hC.block _ (lt_of_heap H5.out.1)).trans H5.out.1
               have y0 : W.cell? ⟨wr.heap.size, 0, none⟩ = some (.int .i64 y.id) := cell_of_row W _ 0 _ _ _ hy5
               have y1 : W.cell? ⟨wr.heap.size, 1, none⟩ = some (.int .i64 y.clone) := cell_of_row W _ 1 _ _ _ hy5
               have y2 : W.cell? ⟨wr.heap.size, 2, none⟩ = some (.int .i64 y.cut) := cell_of_row W _ 2 _ _ _ hy5
               have y3 : W.cell? ⟨wr.heap.size, 3, none⟩ = some (.int .i64 y.shot) := cell_of_row W _ 3 _ _ _ hy5
               have y10 : W.cell? ⟨wr.heap.size, 10, none⟩ = some (.int .i64 y.soak) := cell_of_row W _ 10 _ _ _ hy5
               have y11 : W.cell? ⟨wr.heap.size, 11, none⟩ = some (.int .i64 y.place) := cell_of_row W _ 11 _ _ _ hy5
               clear hy5
               have c5 := decide_eq_false (Int.not_lt.2 C5.out)
               have HC := Lib.hid hC
               clear hC hK
               go_simp
               first
                 | with_reducible exact ⟨rfl, HC.out⟩
                 | (go_at_call 67; refine (rfWithin_any _ _ _ W).mono ?_; rintro e _ ⟨rfl, rfl⟩; (first | rw [C1.out] | rw [C3.out] | rw [C4.out] | rw [C6.out] | rw [C7.out]); exact ⟨_, rfl, rfl, HC.out⟩)
             simp only [Act.put, List.setIfInBounds_toArray, List.set_cons_succ, List.set_cons_zero]))
        refine R6.WalkR.nil (fun D ρ W6 hD hC => ?_)
        have H6 := Lib.hid (And.intro ((hC.block _ (lt_of_heap H5.out.1)).trans H5.out.1) (And.intro (H5.out.2.1.trans (hC.mono H5.out.2.1.size)) ((hC.block _ (lt_of_heap H5.out.2.2)).trans H5.out.2.2)))
        clear hC hD
        go_wp2
        obtain ⟨wo, rfl⟩ : ∃ wo : World, wo = wr := ⟨_, rfl⟩
        go_loopg [5] 3 (fun gm s5 wx => ∃ k : Nat, k + gm = 3 ∧ s5 = .int .i64 k ∧ Hid ((List.range k).all (secOk y) = true ∧ wx.heap[wo.heap.size]? = some (.cells (pcl y).toArray 56 (0, 0)) ∧ Below w.heap.size w wx ∧ wx.heap[w.heap.size]? = some (.cells #[.slice (some ⟨c, off, none⟩) ps.length cp, .slice AT ts.length ct] 25 (0, 0))))
        case atStart => exact ⟨0, by omega, rfl, rfl, H6.out⟩
        case round =>
          obtain ⟨k, hkg, rfl, hK⟩ := hrel
          have HK := Lib.hid hK.out
          clear hK
          cases gk with
          | zero =>
            obtain rfl : k = 3 := by omega
            go_wp2
            go_roundg gn
            case measure => omega
            case rel => exact ⟨0 + 1, y.id + 1, by omega, by go_num, by have := HST.out.1; rw [← Bool.and_assoc, pol_ref y n HST.out.2.2, C1.out, HL.out, C3.out, C4.out, decide_eq_true C5.out, C6.out, C7.out, HK.out.1] at this; simpa using this.symm, by have := (inR_iff.1 C1.out).1; omega, fun _ => ⟨y, HST.out.2.1, rfl⟩, fun h => absurd h (by omega), HK.out.2.2⟩
          | succ gm =>
            have hk : k < 3 := by omega
            have hkz : (k : Int) < 3 := by omega
            have hsec : ∀ W : World, W.heap[wo.heap.size]? = some (.cells (pcl y).toArray 56 (0, 0)) → W.cell? ⟨wo.heap.size, 4 + k, none⟩ = some (.int .i64 (gg y k)) ∧ W.cell? ⟨wo.heap.size, 7 + k, none⟩ = some (.int .i64 (ww y k)) := fun W hW => by
              rw [cell_of_row W _ (4 + k) _ _ _ hW, cell_of_row W _ (7 + k) _ _ _ hW]
              have h3 : k = 0 ∨ k = 1 ∨ k = 2 := by omega
              rcases h3 with rfl | rfl | rfl <;> exact ⟨rfl, rfl⟩
            have hno := fun (h : secOk y k = false) => pol_no (y := y) HST.out.2.2 hk h
            have hsk : secOk y k = (inR (gg y k) 10 300 && (inR (ww y k) 1 60 && decide (2 * ww y k ≤ gg y k))) := rfl
            have hrs := all_range6 (secOk y) k
            rw [HK.out.1, Bool.true_and] at hrs
            generalize gg y k = g at hsec hsk
            generalize ww y k = x at hsec hsk
            cases d1 : inR g 10 300
            · have D1 := Lib.hid d1
              have HS := Lib.hid (And.intro hsec (And.intro hno (And.intro hrs (And.intro (trivial : True) hsk))))
              clear d1 hsec hno hrs hsk
              go_wp2
              refine R6.wp_walk (C := fun _ _ W => Below wr.heap.size wr W) 162 (by kernel_rfl) (by kernel_rfl) rfl (Below.refl _ _).drew ?_
              simp only []
              repeat (first
                | (refine R6.WalkR.un (fun _ => rfl) (fun D ρ W hK hC => hC) ?_
                   simp only [Act.put, List.setIfInBounds_toArray, List.set_cons_succ, List.set_cons_zero])
                | (refine' R6.WalkR.det (fun _ => rfl) (fun D ρ W hK hC => ?_) ?_
                   rotate_left
                   · have hy6 := (hC.block _ (lt_of_heap HK.out.2.1)).trans HK.out.2.1
                     obtain ⟨f1, f2⟩ := HS.out.1 W hy6
                     have u1 := HS.out.2.2.2.1
                     clear hy6
                     have HC := Lib.hid hC
                     clear hC hK
                     go_simp
                     first
                       | with_reducible exact ⟨rfl, HC.out⟩
                       | (go_at_call 67; refine (rfWithin_any _ _ _ W).mono ?_; rintro e _ ⟨rfl, rfl⟩; (first | rw [D1.out]); exact ⟨_, rfl, rfl, HC.out⟩)
                   simp only [Act.put, List.setIfInBounds_toArray, List.set_cons_succ, List.set_cons_zero]))
              refine R6.WalkR.nil (fun D ρ W8 hD hC => ?_)
              have H8 := Lib.hid (And.intro ((hC.block _ (lt_of_heap HK.out.2.1)).trans HK.out.2.1) (And.intro (HK.out.2.2.1.trans (hC.mono HK.out.2.2.1.size)) ((hC.block _ (lt_of_heap HK.out.2.2.2)).trans HK.out.2.2.2)))
              clear hC hD
              go_wp2
              go_ret
              exact ⟨by rw [show r1 = false by rw [HST.out.1, ← Bool.and_assoc, HS.out.2.1 (by rw [HS.out.2.2.2.2, D1.out, Bool.false_and])]; rfl, Bool.false_and]; rfl, H8.out.2.1⟩
            cases d2 : inR x 1 60
            · have D1 := Lib.hid d1
              have D2 := Lib.hid d2
              have HS := Lib.hid (And.intro hsec (And.intro hno (And.intro hrs (And.intro (trivial : True) hsk))))
              clear d1 d2 hsec hno hrs hsk
              go_wp2
              refine R6.wp_walk (C := fun _ _ W => Below wr.heap.size wr W) 162 (by kernel_rfl) (by kernel_rfl) rfl (Below.refl _ _).drew ?_
              simp only []
              repeat (first
                | (refine R6.WalkR.un (fun _ => rfl) (fun D ρ W hK hC => hC) ?_
                   simp only [Act.put, List.setIfInBounds_toArray, List.set_cons_succ, List.set_cons_zero])
                | (refine' R6.WalkR.det (fun _ => rfl) (fun D ρ W hK hC => ?_) ?_
                   rotate_left
                   · have hy6 := (hC.block _ (lt_of_heap HK.out.2.1)).trans HK.out.2.1
                     obtain ⟨f1, f2⟩ := HS.out.1 W hy6
                     have u1 := HS.out.2.2.2.1
                     clear hy6
                     have HC := Lib.hid hC
                     clear hC hK
                     go_simp
                     first
                       | with_reducible exact ⟨rfl, HC.out⟩
                       | (go_at_call 67; refine (rfWithin_any _ _ _ W).mono ?_; rintro e _ ⟨rfl, rfl⟩; (first | rw [D1.out] | rw [D2.out]); exact ⟨_, rfl, rfl, HC.out⟩)
                   simp only [Act.put, List.setIfInBounds_toArray, List.set_cons_succ, List.set_cons_zero]))
              refine R6.WalkR.nil (fun D ρ W8 hD hC => ?_)
              have H8 := Lib.hid (And.intro ((hC.block _ (lt_of_heap HK.out.2.1)).trans HK.out.2.1) (And.intro (HK.out.2.2.1.trans (hC.mono HK.out.2.2.1.size)) ((hC.block _ (lt_of_heap HK.out.2.2.2)).trans HK.out.2.2.2)))
              clear hC hD
              go_wp2
              go_ret
              exact ⟨by rw [show r1 = false by rw [HST.out.1, ← Bool.and_assoc, HS.out.2.1 (by rw [HS.out.2.2.2.2, D2.out, Bool.false_and, Bool.and_false])]; rfl, Bool.false_and]; rfl, H8.out.2.1⟩
            have hu : IntKind.i64.wrap (2 * x) = 2 * x := IntWalk.i64_in _ (by have := inR_iff.1 d2; omega)
            have HS := Lib.hid (And.intro hsec (And.intro hno (And.intro hrs (And.intro hu hsk))))
            have D1 := Lib.hid d1
            have D2 := Lib.hid d2
            clear d1 d2 hsec hno hrs hsk hu
            by_cases d3 : g < 2 * x
            · have D3 := Lib.hid d3
              go_wp2
              refine R6.wp_walk (C := fun _ _ W => Below wr.heap.size wr W) 162 (by kernel_rfl) (by kernel_rfl) rfl (Below.refl _ _).drew ?_
              simp only []
              repeat (first
                | (refine R6.WalkR.un (fun _ => rfl) (fun D ρ W hK hC => hC) ?_
                   simp only [Act.put, List.setIfInBounds_toArray, List.set_cons_succ, List.set_cons_zero])
                | (refine' R6.WalkR.det (fun _ => rfl) (fun D ρ W hK hC => ?_) ?_
                   rotate_left
                   · have hy6 := (hC.block _ (lt_of_heap HK.out.2.1)).trans HK.out.2.1
                     obtain ⟨f1, f2⟩ := HS.out.1 W hy6
                     have u1 := HS.out.2.2.2.1
                     clear hy6
                     have d3 := D3.out
                     have HC := Lib.hid hC
                     clear hC hK
                     go_simp
                     first
                       | with_reducible exact ⟨rfl, HC.out⟩
                       | (go_at_call 67; refine (rfWithin_any _ _ _ W).mono ?_; rintro e _ ⟨rfl, rfl⟩; (first | rw [D1.out] | rw [D2.out]); exact ⟨_, rfl, rfl, HC.out⟩)
                   simp only [Act.put, List.setIfInBounds_toArray, List.set_cons_succ, List.set_cons_zero]))
              refine R6.WalkR.nil (fun D ρ W8 hD hC => ?_)
              have H8 := Lib.hid (And.intro ((hC.block _ (lt_of_heap HK.out.2.1)).trans HK.out.2.1) (And.intro (HK.out.2.2.1.trans (hC.mono HK.out.2.2.1.size)) ((hC.block _ (lt_of_heap HK.out.2.2.2)).trans HK.out.2.2.2)))
              clear hC hD
              go_wp2
              go_ret
              exact ⟨by rw [show r1 = false by rw [HST.out.1, ← Bool.and_assoc, HS.out.2.1 (by rw [HS.out.2.2.2.2, decide_eq_false (Int.not_le.2 D3.out), Bool.and_false, Bool.and_false])]; rfl, Bool.false_and]; rfl, H8.out.2.1⟩
            · have D3 := Lib.hid (Int.not_lt.1 d3)
              clear d3
              go_wp2
              refine R6.wp_walk (C := fun _ _ W => Below wr.heap.size wr W) 162 (by kernel_rfl) (by kernel_rfl) rfl (Below.refl _ _).drew ?_
              simp only []
              repeat (first
                | (refine R6.WalkR.un (fun _ => rfl) (fun D ρ W hK hC => hC) ?_
                   simp only [Act.put, List.setIfInBounds_toArray, List.set_cons_succ, List.set_cons_zero])
                | (refine' R6.WalkR.det (fun _ => rfl) (fun D ρ W hK hC => ?_) ?_
                   rotate_left
                   · have hy6 := (hC.block _ (lt_of_heap HK.out.2.1)).trans HK.out.2.1
                     obtain ⟨f1, f2⟩ := HS.out.1 W hy6
                     have u1 := HS.out.2.2.2.1
                     clear hy6
                     have d3 := decide_eq_false (Int.not_lt.2 D3.out)
                     have HC := Lib.hid hC
                     clear hC hK
                     go_simp
                     first
                       | with_reducible exact ⟨rfl, HC.out⟩
                       | (go_at_call 67; refine (rfWithin_any _ _ _ W).mono ?_; rintro e _ ⟨rfl, rfl⟩; (first | rw [D1.out] | rw [D2.out]); exact ⟨_, rfl, rfl, HC.out⟩)
                   simp only [Act.put, List.setIfInBounds_toArray, List.set_cons_succ, List.set_cons_zero]))
              refine R6.WalkR.nil (fun D ρ W8 hD hC => ?_)
              have H8 := Lib.hid (And.intro ((hC.block _ (lt_of_heap HK.out.2.1)).trans HK.out.2.1) (And.intro (HK.out.2.2.1.trans (hC.mono HK.out.2.2.1.size)) ((hC.block _ (lt_of_heap HK.out.2.2.2)).trans HK.out.2.2.2)))
              clear hC hD
              go_wp2
              go_roundg gm
              case measure => omega
              case rel => exact ⟨k + 1, by omega, by go_num, by rw [HS.out.2.2.1, HS.out.2.2.2.2, D1.out, D2.out, decide_eq_true D3.out]; rfl, H8.out⟩
      | succ j =>
        have hjj : (j : Int) < ps.length := by omega
        obtain ⟨q, hpv, hnq⟩ := HJ.out.1 (by omega)
        rw [Nat.add_sub_cancel] at hpv
        obtain ⟨c', o', hA, -, hcq⟩ := HPE.out j (by omega)
        simp only [Option.some.injEq, Addr.mk.injEq, and_true] at hA
        obtain ⟨rfl, rfl⟩ := hA
        rw [List.getElem?_eq_getElem (by omega)] at hpv
        rw [Option.some.inj hpv] at hcq
        have hcq5 : ∀ m v, (pcl q)[m]? = some v → w5.cell? ⟨c, off + j * 12 + m, none⟩ = some v := fun m v hv => (H5.out.2.1.cell (p := ⟨c, off + j * 12 + m, none⟩) (by simp; omega)).trans (hcq m v hv)
        have HPV := Lib.hid (And.intro hcq5 (show c < w5.heap.size from Nat.lt_of_lt_of_le (Nat.lt_of_lt_of_le hcB hB) H5.out.2.1.size))
        have v1 : IntKind.i64.wrap (j : Int) = j := IntWalk.i64_in _ (by omega)
        have v2 : IntKind.i64.wrap ((j : Int) + 1 - 1) = j := by rw [Int.add_sub_cancel]; exact v1
        have HV := Lib.hid (And.intro v1 v2)
        have HNQ := Lib.hid hnq
        clear hpv hcq hcq5 v1 v2 hnq
        by_cases c2 : y.id ≤ q.id
        · have C2 := Lib.hid c2
          refine R6.wp_walk (C := fun _ _ W => Below w5.heap.size w5 W) 162 (by kernel_rfl) (by kernel_rfl) rfl (Below.refl _ _).drew ?_
          simp only []
          repeat (first
            | (refine R6.WalkR.un (fun _ => rfl) (fun D ρ W hK hC => hC) ?_
               simp only [Act.put, List.setIfInBounds_toArray, List.set_cons_succ, List.set_cons_zero])
            | (refine' R6.WalkR.det (fun _ => rfl) (fun D ρ W hK hC => ?_) ?_
               rotate_left
               · have f1 : W.cell? ⟨w.heap.size, 0, none⟩ = some (.slice (some ⟨c, off, none⟩) ps.length cp) := cell_of_row W _ 0 _ _ _ ((hC.block _ (lt_of_heap H5.out.2.2)).trans H5.out.2.2)
                 have hy5 := (hC.block _ (lt_of_heap H5.out.1)).trans H5.out.1
                 have y0 : W.cell? ⟨wr.heap.size, 0, none⟩ = some (.int .i64 y.id) := cell_of_row W _ 0 _ _ _ hy5
                 have y1 : W.cell? ⟨wr.heap.size, 1, none⟩ = some (.int .i64 y.clone) := cell_of_row W _ 1 _ _ _ hy5
                 have y2 : W.cell? ⟨wr.heap.size, 2, none⟩ = some (.int .i64 y.cut) := cell_of_row W _ 2 _ _ _ hy5
                 have y3 : W.cell? ⟨wr.heap.size, 3, none⟩ = some (.int .i64 y.shot) := cell_of_row W _ 3 _ _ _ hy5
                 have y10 : W.cell? ⟨wr.heap.size, 10, none⟩ = some (.int .i64 y.soak) := cell_of_row W _ 10 _ _ _ hy5
                 have y11 : W.cell? ⟨wr.heap.size, 11, none⟩ = some (.int .i64 y.place) := cell_of_row W _ 11 _ _ _ hy5
                 clear hy5
                 have f4 : W.cell? ⟨c, off + j * 12, none⟩ = some (.int .i64 q.id) := (hC.cell (p := ⟨c, off + j * 12, none⟩) (by have := HPV.out.2; simp; omega)).trans (HPV.out.1 0 _ rfl)
                 obtain ⟨v1, v2⟩ := HV.out
                 have c2 := C2.out
                 have HC := Lib.hid hC
                 clear hC hK
                 go_simp
                 first
                   | with_reducible exact ⟨rfl, HC.out⟩
                   | (go_at_call 67; refine (rfWithin_any _ _ _ W).mono ?_; rintro e _ ⟨rfl, rfl⟩; (first | rw [C1.out]); exact ⟨_, rfl, rfl, HC.out⟩)
               simp only [Act.put, List.setIfInBounds_toArray, List.set_cons_succ, List.set_cons_zero]))
          refine R6.WalkR.nil (fun D ρ W6 hD hC => ?_)
          have H6 := Lib.hid (And.intro ((hC.block _ (lt_of_heap H5.out.1)).trans H5.out.1) (And.intro (H5.out.2.1.trans (hC.mono H5.out.2.1.size)) ((hC.block _ (lt_of_heap H5.out.2.2)).trans H5.out.2.2)))
          clear hC hD
          go_wp2
          go_ret
          exact ⟨by rw [show r1 = false by rw [HST.out.1, ← Bool.and_assoc, pol_ref y n HST.out.2.2, decide_eq_false (show ¬ n ≤ y.id by have := HNQ.out; have := C2.out; omega), Bool.false_and]; simp, Bool.false_and]; rfl, H6.out.2.1⟩
        have C2 := Lib.hid c2
        have hl1 : decide (n ≤ y.id) = true := by have := HNQ.out; simp; omega
        have HL := Lib.hid hl1
        clear c2 hl1
        cases c : inR y.clone 0 9999
        · have C3 := Lib.hid c
          clear c
          refine R6.wp_walk (C := fun _ _ W => Below w5.heap.size w5 W) 162 (by kernel_rfl) (by kernel_rfl) rfl (Below.refl _ _).drew ?_
          simp only []
          repeat (first
            | (refine R6.WalkR.un (fun _ => rfl) (fun D ρ W hK hC => hC) ?_
               simp only [Act.put, List.setIfInBounds_toArray, List.set_cons_succ, List.set_cons_zero])
            | (refine' R6.WalkR.det (fun _ => rfl) (fun D ρ W hK hC => ?_) ?_
               rotate_left
               · have f1 : W.cell? ⟨w.heap.size, 0, none⟩ = some (.slice (some ⟨c, off, none⟩) ps.length cp) := cell_of_row W _ 0 _ _ _ ((hC.block _ (lt_of_heap H5.out.2.2)).trans H5.out.2.2)
                 have hy5 := (hC.block _ (lt_of_heap H5.out.1)).trans H5.out.1
                 have y0 : W.cell? ⟨wr.heap.size, 0, none⟩ = some (.int .i64 y.id) := cell_of_row W _ 0 _ _ _ hy5
                 have y1 : W.cell? ⟨wr.heap.size, 1, none⟩ = some (.int .i64 y.clone) := cell_of_row W _ 1 _ _ _ hy5
                 have y2 : W.cell? ⟨wr.heap.size, 2, none⟩ = some (.int .i64 y.cut) := cell_of_row W _ 2 _ _ _ hy5
                 have y3 : W.cell? ⟨wr.heap.size, 3, none⟩ = some (.int .i64 y.shot) := cell_of_row W _ 3 _ _ _ hy5
                 have y10 : W.cell? ⟨wr.heap.size, 10, none⟩ = some (.int .i64 y.soak) := cell_of_row W _ 10 _ _ _ hy5
                 have y11 : W.cell? ⟨wr.heap.size, 11, none⟩ = some (.int .i64 y.place) := cell_of_row W _ 11 _ _ _ hy5
                 clear hy5
                 have f4 : W.cell? ⟨c, off + j * 12, none⟩ = some (.int .i64 q.id) := (hC.cell (p := ⟨c, off + j * 12, none⟩) (by have := HPV.out.2; simp; omega)).trans (HPV.out.1 0 _ rfl)
                 obtain ⟨v1, v2⟩ := HV.out
                 have c2 := decide_eq_false C2.out
                 have HC := Lib.hid hC
                 clear hC hK
                 go_simp
                 first
                   | with_reducible exact ⟨rfl, HC.out⟩
                   | (go_at_call 67; refine (rfWithin_any _ _ _ W).mono ?_; rintro e _ ⟨rfl, rfl⟩; (first | rw [C1.out] | rw [C3.out]); exact ⟨_, rfl, rfl, HC.out⟩)
               simp only [Act.put, List.setIfInBounds_toArray, List.set_cons_succ, List.set_cons_zero]))
          refine R6.WalkR.nil (fun D ρ W6 hD hC => ?_)
          have H6 := Lib.hid (And.intro ((hC.block _ (lt_of_heap H5.out.1)).trans H5.out.1) (And.intro (H5.out.2.1.trans (hC.mono H5.out.2.1.size)) ((hC.block _ (lt_of_heap H5.out.2.2)).trans H5.out.2.2)))
          clear hC hD
          go_wp2
          go_ret
          exact ⟨by rw [show r1 = false by rw [HST.out.1, ← Bool.and_assoc, pol_ref y n HST.out.2.2, C3.out, Bool.false_and]; simp, Bool.false_and]; rfl, H6.out.2.1⟩
        have C3 := Lib.hid c
        clear c
        cases c : inR y.shot 0 y.cut
        · have C4 := Lib.hid c
          clear c
          refine R6.wp_walk (C := fun _ _ W => Below w5.heap.size w5 W) 162 (by kernel_rfl) (by kernel_rfl) rfl (Below.refl _ _).drew ?_
          simp only []
          repeat (first
            | (refine R6.WalkR.un (fun _ => rfl) (fun D ρ W hK hC => hC) ?_
               simp only [Act.put, List.setIfInBounds_toArray, List.set_cons_succ, List.set_cons_zero])
            | (refine' R6.WalkR.det (fun _ => rfl) (fun D ρ W hK hC => ?_) ?_
               rotate_left
               · have f1 : W.cell? ⟨w.heap.size, 0, none⟩ = some (.slice (some ⟨c, off, none⟩) ps.length cp) := cell_of_row W _ 0 _ _ _ ((hC.block _ (lt_of_heap H5.out.2.2)).trans H5.out.2.2)
                 have hy5 := (hC.block _ (lt_of_heap H5.out.1)).trans H5.out.1
                 have y0 : W.cell? ⟨wr.heap.size, 0, none⟩ = some (.int .i64 y.id) := cell_of_row W _ 0 _ _ _ hy5
                 have y1 : W.cell? ⟨wr.heap.size, 1, none⟩ = some (.int .i64 y.clone) := cell_of_row W _ 1 _ _ _ hy5
                 have y2 : W.cell? ⟨wr.heap.size, 2, none⟩ = some (.int .i64 y.cut) := cell_of_row W _ 2 _ _ _ hy5
                 have y3 : W.cell? ⟨wr.heap.size, 3, none⟩ = some (.int .i64 y.shot) := cell_of_row W _ 3 _ _ _ hy5
                 have y10 : W.cell? ⟨wr.heap.size, 10, none⟩ = some (.int .i64 y.soak) := cell_of_row W _ 10 _ _ _ hy5
                 have y11 : W.cell? ⟨wr.heap.size, 11, none⟩ = some (.int .i64 y.place) := cell_of_row W _ 11 _ _ _ hy5
                 clear hy5
                 have f4 : W.cell? ⟨c, off + j * 12, none⟩ = some (.int .i64 q.id) := (hC.cell (p := ⟨c, off + j * 12, none⟩) (by have := HPV.out.2; simp; omega)).trans (HPV.out.1 0 _ rfl)
                 obtain ⟨v1, v2⟩ := HV.out
                 have c2 := decide_eq_false C2.out
                 have HC := Lib.hid hC
                 clear hC hK
                 go_simp
                 first
                   | with_reducible exact ⟨rfl, HC.out⟩
                   | (go_at_call 67; refine (rfWithin_any _ _ _ W).mono ?_; rintro e _ ⟨rfl, rfl⟩; (first | rw [C1.out] | rw [C3.out] | rw [C4.out]); exact ⟨_, rfl, rfl, HC.out⟩)
               simp only [Act.put, List.setIfInBounds_toArray, List.set_cons_succ, List.set_cons_zero]))
          refine R6.WalkR.nil (fun D ρ W6 hD hC => ?_)
          have H6 := Lib.hid (And.intro ((hC.block _ (lt_of_heap H5.out.1)).trans H5.out.1) (And.intro (H5.out.2.1.trans (hC.mono H5.out.2.1.size)) ((hC.block _ (lt_of_heap H5.out.2.2)).trans H5.out.2.2)))
          clear hC hD
          go_wp2
          go_ret
          exact ⟨by rw [show r1 = false by rw [HST.out.1, ← Bool.and_assoc, pol_ref y n HST.out.2.2, C4.out, Bool.false_and]; simp, Bool.false_and]; rfl, H6.out.2.1⟩
        have C4 := Lib.hid c
        clear c
        by_cases cc : 3000 < y.cut
        · have C5 := Lib.hid cc
          refine R6.wp_walk (C := fun _ _ W => Below w5.heap.size w5 W) 162 (by kernel_rfl) (by kernel_rfl) rfl (Below.refl _ _).drew ?_
          simp only []
          repeat (first
            | (refine R6.WalkR.un (fun _ => rfl) (fun D ρ W hK hC => hC) ?_
               simp only [Act.put, List.setIfInBounds_toArray, List.set_cons_succ, List.set_cons_zero])
            | (refine' R6.WalkR.det (fun _ => rfl) (fun D ρ W hK hC => ?_) ?_
               rotate_left
               · have f1 : W.cell? ⟨w.heap.size, 0, none⟩ = some (.slice (some ⟨c, off, none⟩) ps.length cp) := cell_of_row W _ 0 _ _ _ ((hC.block _ (lt_of_heap H5.out.2.2)).trans H5.out.2.2)
                 have hy5 := (hC.block _ (lt_of_heap H5.out.1)).trans H5.out.1
                 have y0 : W.cell? ⟨wr.heap.size, 0, none⟩ = some (.int .i64 y.id) := cell_of_row W _ 0 _ _ _ hy5
                 have y1 : W.cell? ⟨wr.heap.size, 1, none⟩ = some (.int .i64 y.clone) := cell_of_row W _ 1 _ _ _ hy5
                 have y2 : W.cell? ⟨wr.heap.size, 2, none⟩ = some (.int .i64 y.cut) := cell_of_row W _ 2 _ _ _ hy5
                 have y3 : W.cell? ⟨wr.heap.size, 3, none⟩ = some (.int .i64 y.shot) := cell_of_row W _ 3 _ _ _ hy5
                 have y10 : W.cell? ⟨wr.heap.size, 10, none⟩ = some (.int .i64 y.soak) := cell_of_row W _ 10 _ _ _ hy5
                 have y11 : W.cell? ⟨wr.heap.size, 11, none⟩ = some (.int .i64 y.place) := cell_of_row W _ 11 _ _ _ hy5
                 clear hy5
                 have f4 : W.cell? ⟨c, off + j * 12, none⟩ = some (.int .i64 q.id) := (hC.cell (p := ⟨c, off + j * 12, none⟩) (by have := HPV.out.2; simp; omega)).trans (HPV.out.1 0 _ rfl)
                 obtain ⟨v1, v2⟩ := HV.out
                 have c2 := decide_eq_false C2.out
                 have c5 := C5.out
                 have HC := Lib.hid hC
                 clear hC hK
                 go_simp
                 first
                   | with_reducible exact ⟨rfl, HC.out⟩
                   | (go_at_call 67; refine (rfWithin_any _ _ _ W).mono ?_; rintro e _ ⟨rfl, rfl⟩; (first | rw [C1.out] | rw [C3.out] | rw [C4.out]); exact ⟨_, rfl, rfl, HC.out⟩)
               simp only [Act.put, List.setIfInBounds_toArray, List.set_cons_succ, List.set_cons_zero]))
          refine R6.WalkR.nil (fun D ρ W6 hD hC => ?_)
          have H6 := Lib.hid (And.intro ((hC.block _ (lt_of_heap H5.out.1)).trans H5.out.1) (And.intro (H5.out.2.1.trans (hC.mono H5.out.2.1.size)) ((hC.block _ (lt_of_heap H5.out.2.2)).trans H5.out.2.2)))
          clear hC hD
          go_wp2
          go_ret
          exact ⟨by rw [show r1 = false by rw [HST.out.1, ← Bool.and_assoc, pol_ref y n HST.out.2.2, decide_eq_false (Int.not_le.2 C5.out), Bool.false_and]; simp, Bool.false_and]; rfl, H6.out.2.1⟩
        have C5 := Lib.hid (Int.not_lt.1 cc)
        clear cc
        cases c : inR y.soak 0 5
        · have C6 := Lib.hid c
          clear c
          refine R6.wp_walk (C := fun _ _ W => Below w5.heap.size w5 W) 162 (by kernel_rfl) (by kernel_rfl) rfl (Below.refl _ _).drew ?_
          simp only []
          repeat (first
            | (refine R6.WalkR.un (fun _ => rfl) (fun D ρ W hK hC => hC) ?_
               simp only [Act.put, List.setIfInBounds_toArray, List.set_cons_succ, List.set_cons_zero])
            | (refine' R6.WalkR.det (fun _ => rfl) (fun D ρ W hK hC => ?_) ?_
               rotate_left
               · have f1 : W.cell? ⟨w.heap.size, 0, none⟩ = some (.slice (some ⟨c, off, none⟩) ps.length cp) := cell_of_row W _ 0 _ _ _ ((hC.block _ (lt_of_heap H5.out.2.2)).trans H5.out.2.2)
                 have hy5 := (hC.block _ (lt_of_heap H5.out.1)).trans H5.out.1
                 have y0 : W.cell? ⟨wr.heap.size, 0, none⟩ = some (.int .i64 y.id) := cell_of_row W _ 0 _ _ _ hy5
                 have y1 : W.cell? ⟨wr.heap.size, 1, none⟩ = some (.int .i64 y.clone) := cell_of_row W _ 1 _ _ _ hy5
                 have y2 : W.cell? ⟨wr.heap.size, 2, none⟩ = some (.int .i64 y.cut) := cell_of_row W _ 2 _ _ _ hy5
                 have y3 : W.cell? ⟨wr.heap.size, 3, none⟩ = some (.int .i64 y.shot) := cell_of_row W _ 3 _ _ _ hy5
                 have y10 : W.cell? ⟨wr.heap.size, 10, none⟩ = some (.int .i64 y.soak) := cell_of_row W _ 10 _ _ _ hy5
                 have y11 : W.cell? ⟨wr.heap.size, 11, none⟩ = some (.int .i64 y.place) := cell_of_row W _ 11 _ _ _ hy5
                 clear hy5
                 have f4 : W.cell? ⟨c, off + j * 12, none⟩ = some (.int .i64 q.id) := (hC.cell (p := ⟨c, off + j * 12, none⟩) (by have := HPV.out.2; simp; omega)).trans (HPV.out.1 0 _ rfl)
                 obtain ⟨v1, v2⟩ := HV.out
                 have c2 := decide_eq_false C2.out
                 have c5 := decide_eq_false (Int.not_lt.2 C5.out)
                 have HC := Lib.hid hC
                 clear hC hK
                 go_simp
                 first
                   | with_reducible exact ⟨rfl, HC.out⟩
                   | (go_at_call 67; refine (rfWithin_any _ _ _ W).mono ?_; rintro e _ ⟨rfl, rfl⟩; (first | rw [C1.out] | rw [C3.out] | rw [C4.out] | rw [C6.out]); exact ⟨_, rfl, rfl, HC.out⟩)
               simp only [Act.put, List.setIfInBounds_toArray, List.set_cons_succ, List.set_cons_zero]))
          refine R6.WalkR.nil (fun D ρ W6 hD hC => ?_)
          have H6 := Lib.hid (And.intro ((hC.block _ (lt_of_heap H5.out.1)).trans H5.out.1) (And.intro (H5.out.2.1.trans (hC.mono H5.out.2.1.size)) ((hC.block _ (lt_of_heap H5.out.2.2)).trans H5.out.2.2)))
          clear hC hD
          go_wp2
          go_ret
          exact ⟨by rw [show r1 = false by rw [HST.out.1, ← Bool.and_assoc, pol_ref y n HST.out.2.2, C6.out, Bool.false_and]; simp, Bool.false_and]; rfl, H6.out.2.1⟩
        have C6 := Lib.hid c
        clear c
        cases c : inR y.place 0 3
        · have C7 := Lib.hid c
          clear c
          refine R6.wp_walk (C := fun _ _ W => Below w5.heap.size w5 W) 162 (by kernel_rfl) (by kernel_rfl) rfl (Below.refl _ _).drew ?_
          simp only []
          repeat (first
            | (refine R6.WalkR.un (fun _ => rfl) (fun D ρ W hK hC => hC) ?_
               simp only [Act.put, List.setIfInBounds_toArray, List.set_cons_succ, List.set_cons_zero])
            | (refine' R6.WalkR.det (fun _ => rfl) (fun D ρ W hK hC => ?_) ?_
               rotate_left
               · have f1 : W.cell? ⟨w.heap.size, 0, none⟩ = some (.slice (some ⟨c, off, none⟩) ps.length cp) := cell_of_row W _ 0 _ _ _ ((hC.block _ (lt_of_heap H5.out.2.2)).trans H5.out.2.2)
                 have hy5 := (hC.block _ (lt_of_heap H5.out.1)).trans H5.out.1
                 have y0 : W.cell? ⟨wr.heap.size, 0, none⟩ = some (.int .i64 y.id) := cell_of_row W _ 0 _ _ _ hy5
                 have y1 : W.cell? ⟨wr.heap.size, 1, none⟩ = some (.int .i64 y.clone) := cell_of_row W _ 1 _ _ _ hy5
                 have y2 : W.cell? ⟨wr.heap.size, 2, none⟩ = some (.int .i64 y.cut) := cell_of_row W _ 2 _ _ _ hy5
                 have y3 : W.cell? ⟨wr.heap.size, 3, none⟩ = some (.int .i64 y.shot) := cell_of_row W _ 3 _ _ _ hy5
                 have y10 : W.cell? ⟨wr.heap.size, 10, none⟩ = some (.int .i64 y.soak) := cell_of_row W _ 10 _ _ _ hy5
                 have y11 : W.cell? ⟨wr.heap.size, 11, none⟩ = some (.int .i64 y.place) := cell_of_row W _ 11 _ _ _ hy5
                 clear hy5
                 have f4 : W.cell? ⟨c, off + j * 12, none⟩ = some (.int .i64 q.id) := (hC.cell (p := ⟨c, off + j * 12, none⟩) (by have := HPV.out.2; simp; omega)).trans (HPV.out.1 0 _ rfl)
                 obtain ⟨v1, v2⟩ := HV.out
                 have c2 := decide_eq_false C2.out
                 have c5 := decide_eq_false (Int.not_lt.2 C5.out)
                 have HC := Lib.hid hC
                 clear hC hK
                 go_simp
                 first
                   | with_reducible exact ⟨rfl, HC.out⟩
                   | (go_at_call 67; refine (rfWithin_any _ _ _ W).mono ?_; rintro e _ ⟨rfl, rfl⟩; (first | rw [C1.out] | rw [C3.out] | rw [C4.out] | rw [C6.out] | rw [C7.out]); exact ⟨_, rfl, rfl, HC.out⟩)
               simp only [Act.put, List.setIfInBounds_toArray, List.set_cons_succ, List.set_cons_zero]))
          refine R6.WalkR.nil (fun D ρ W6 hD hC => ?_)
          have H6 := Lib.hid (And.intro ((hC.block _ (lt_of_heap H5.out.1)).trans H5.out.1) (And.intro (H5.out.2.1.trans (hC.mono H5.out.2.1.size)) ((hC.block _ (lt_of_heap H5.out.2.2)).trans H5.out.2.2)))
          clear hC hD
          go_wp2
          go_ret
          exact ⟨by rw [show r1 = false by rw [HST.out.1, ← Bool.and_assoc, pol_ref y n HST.out.2.2, C7.out]; simp, Bool.false_and]; rfl, H6.out.2.1⟩
        have C7 := Lib.hid c
        clear c
        refine R6.wp_walk (C := fun _ _ W => Below w5.heap.size w5 W) 162 (by kernel_rfl) (by kernel_rfl) rfl (Below.refl _ _).drew ?_
        simp only []
        repeat (first
          | (refine R6.WalkR.un (fun _ => rfl) (fun D ρ W hK hC => hC) ?_
             simp only [Act.put, List.setIfInBounds_toArray, List.set_cons_succ, List.set_cons_zero])
          | (refine' R6.WalkR.det (fun _ => rfl) (fun D ρ W hK hC => ?_) ?_
             rotate_left
             · have f1 : W.cell? ⟨w.heap.size, 0, none⟩ = some (.slice (some ⟨c, off, none⟩) ps.length cp) := cell_of_row W _ 0 _ _ _ ((hC.block _ (lt_of_heap H5.out.2.2)).trans H5.out.2.2)
               have hy5 := (hC.block _ (lt_of_heap H5.out.1)).trans H5.out.1
               have y0 : W.cell? ⟨wr.heap.size, 0, none⟩ = some (.int .i64 y.id) := cell_of_row W _ 0 _ _ _ hy5
               have y1 : W.cell? ⟨wr.heap.size, 1, none⟩ = some (.int .i64 y.clone) := cell_of_row W _ 1 _ _ _ hy5
               have y2 : W.cell? ⟨wr.heap.size, 2, none⟩ = some (.int .i64 y.cut) := cell_of_row W _ 2 _ _ _ hy5
               have y3 : W.cell? ⟨wr.heap.size, 3, none⟩ = some (.int .i64 y.shot) := cell_of_row W _ 3 _ _ _ hy5
               have y10 : W.cell? ⟨wr.heap.size, 10, none⟩ = some (.int .i64 y.soak) := cell_of_row W _ 10 _ _ _ hy5
               have y11 : W.cell? ⟨wr.heap.size, 11, none⟩ = some (.int .i64 y.place) := cell_of_row W _ 11 _ _ _ hy5
               clear hy5
               have f4 : W.cell? ⟨c, off + j * 12, none⟩ = some (.int .i64 q.id) := (hC.cell (p := ⟨c, off + j * 12, none⟩) (by have := HPV.out.2; simp; omega)).trans (HPV.out.1 0 _ rfl)
               obtain ⟨v1, v2⟩ := HV.out
               have c2 := decide_eq_false C2.out
               have c5 := decide_eq_false (Int.not_lt.2 C5.out)
               have HC := Lib.hid hC
               clear hC hK
               go_simp
               first
                 | with_reducible exact ⟨rfl, HC.out⟩
                 | (go_at_call 67; refine (rfWithin_any _ _ _ W).mono ?_; rintro e _ ⟨rfl, rfl⟩; (first | rw [C1.out] | rw [C3.out] | rw [C4.out] | rw [C6.out] | rw [C7.out]); exact ⟨_, rfl, rfl, HC.out⟩)
             simp only [Act.put, List.setIfInBounds_toArray, List.set_cons_succ, List.set_cons_zero]))
        refine R6.WalkR.nil (fun D ρ W6 hD hC => ?_)
        have H6 := Lib.hid (And.intro ((hC.block _ (lt_of_heap H5.out.1)).trans H5.out.1) (And.intro (H5.out.2.1.trans (hC.mono H5.out.2.1.size)) ((hC.block _ (lt_of_heap H5.out.2.2)).trans H5.out.2.2)))
        clear hC hD
        go_wp2
        obtain ⟨wo, rfl⟩ : ∃ wo : World, wo = wr := ⟨_, rfl⟩
        go_loopg [5] 3 (fun gm s5 wx => ∃ k : Nat, k + gm = 3 ∧ s5 = .int .i64 k ∧ Hid ((List.range k).all (secOk y) = true ∧ wx.heap[wo.heap.size]? = some (.cells (pcl y).toArray 56 (0, 0)) ∧ Below w.heap.size w wx ∧ wx.heap[w.heap.size]? = some (.cells #[.slice (some ⟨c, off, none⟩) ps.length cp, .slice AT ts.length ct] 25 (0, 0))))
        case atStart => exact ⟨0, by omega, rfl, rfl, H6.out⟩
        case round =>
          obtain ⟨k, hkg, rfl, hK⟩ := hrel
          have HK := Lib.hid hK.out
          clear hK
          cases gk with
          | zero =>
            obtain rfl : k = 3 := by omega
            go_wp2
            go_roundg gn
            case measure => omega
            case rel => exact ⟨(j + 1) + 1, y.id + 1, by omega, by go_num, by have := HST.out.1; rw [← Bool.and_assoc, pol_ref y n HST.out.2.2, C1.out, HL.out, C3.out, C4.out, decide_eq_true C5.out, C6.out, C7.out, HK.out.1] at this; simpa using this.symm, by have := (inR_iff.1 C1.out).1; omega, fun _ => ⟨y, HST.out.2.1, rfl⟩, fun h => absurd h (by omega), HK.out.2.2⟩
          | succ gm =>
            have hk : k < 3 := by omega
            have hkz : (k : Int) < 3 := by omega
            have hsec : ∀ W : World, W.heap[wo.heap.size]? = some (.cells (pcl y).toArray 56 (0, 0)) → W.cell? ⟨wo.heap.size, 4 + k, none⟩ = some (.int .i64 (gg y k)) ∧ W.cell? ⟨wo.heap.size, 7 + k, none⟩ = some (.int .i64 (ww y k)) := fun W hW => by
              rw [cell_of_row W _ (4 + k) _ _ _ hW, cell_of_row W _ (7 + k) _ _ _ hW]
              have h3 : k = 0 ∨ k = 1 ∨ k = 2 := by omega
              rcases h3 with rfl | rfl | rfl <;> exact ⟨rfl, rfl⟩
            have hno := fun (h : secOk y k = false) => pol_no (y := y) HST.out.2.2 hk h
            have hsk : secOk y k = (inR (gg y k) 10 300 && (inR (ww y k) 1 60 && decide (2 * ww y k ≤ gg y k))) := rfl
            have hrs := all_range6 (secOk y) k
            rw [HK.out.1, Bool.true_and] at hrs
            generalize gg y k = g at hsec hsk
            generalize ww y k = x at hsec hsk
            cases d1 : inR g 10 300
            · have D1 := Lib.hid d1
              have HS := Lib.hid (And.intro hsec (And.intro hno (And.intro hrs (And.intro (trivial : True) hsk))))
              clear d1 hsec hno hrs hsk
              go_wp2
              refine R6.wp_walk (C := fun _ _ W => Below wr.heap.size wr W) 162 (by kernel_rfl) (by kernel_rfl) rfl (Below.refl _ _).drew ?_
              simp only []
              repeat (first
                | (refine R6.WalkR.un (fun _ => rfl) (fun D ρ W hK hC => hC) ?_
                   simp only [Act.put, List.setIfInBounds_toArray, List.set_cons_succ, List.set_cons_zero])
                | (refine' R6.WalkR.det (fun _ => rfl) (fun D ρ W hK hC => ?_) ?_
                   rotate_left
                   · have hy6 := (hC.block _ (lt_of_heap HK.out.2.1)).trans HK.out.2.1
                     obtain ⟨f1, f2⟩ := HS.out.1 W hy6
                     have u1 := HS.out.2.2.2.1
                     clear hy6
                     have HC := Lib.hid hC
                     clear hC hK
                     go_simp
                     first
                       | with_reducible exact ⟨rfl, HC.out⟩
                       | (go_at_call 67; refine (rfWithin_any _ _ _ W).mono ?_; rintro e _ ⟨rfl, rfl⟩; (first | rw [D1.out]); exact ⟨_, rfl, rfl, HC.out⟩)
                   simp only [Act.put, List.setIfInBounds_toArray, List.set_cons_succ, List.set_cons_zero]))
              refine R6.WalkR.nil (fun D ρ W8 hD hC => ?_)
              have H8 := Lib.hid (And.intro ((hC.block _ (lt_of_heap HK.out.2.1)).trans HK.out.2.1) (And.intro (HK.out.2.2.1.trans (hC.mono HK.out.2.2.1.size)) ((hC.block _ (lt_of_heap HK.out.2.2.2)).trans HK.out.2.2.2)))
              clear hC hD
              go_wp2
              go_ret
              exact ⟨by rw [show r1 = false by rw [HST.out.1, ← Bool.and_assoc, HS.out.2.1 (by rw [HS.out.2.2.2.2, D1.out, Bool.false_and])]; rfl, Bool.false_and]; rfl, H8.out.2.1⟩
            cases d2 : inR x 1 60
            · have D1 := Lib.hid d1
              have D2 := Lib.hid d2
              have HS := Lib.hid (And.intro hsec (And.intro hno (And.intro hrs (And.intro (trivial : True) hsk))))
              clear d1 d2 hsec hno hrs hsk
              go_wp2
              refine R6.wp_walk (C := fun _ _ W => Below wr.heap.size wr W) 162 (by kernel_rfl) (by kernel_rfl) rfl (Below.refl _ _).drew ?_
              simp only []
              repeat (first
                | (refine R6.WalkR.un (fun _ => rfl) (fun D ρ W hK hC => hC) ?_
                   simp only [Act.put, List.setIfInBounds_toArray, List.set_cons_succ, List.set_cons_zero])
                | (refine' R6.WalkR.det (fun _ => rfl) (fun D ρ W hK hC => ?_) ?_
                   rotate_left
                   · have hy6 := (hC.block _ (lt_of_heap HK.out.2.1)).trans HK.out.2.1
                     obtain ⟨f1, f2⟩ := HS.out.1 W hy6
                     have u1 := HS.out.2.2.2.1
                     clear hy6
                     have HC := Lib.hid hC
                     clear hC hK
                     go_simp
                     first
                       | with_reducible exact ⟨rfl, HC.out⟩
                       | (go_at_call 67; refine (rfWithin_any _ _ _ W).mono ?_; rintro e _ ⟨rfl, rfl⟩; (first | rw [D1.out] | rw [D2.out]); exact ⟨_, rfl, rfl, HC.out⟩)
                   simp only [Act.put, List.setIfInBounds_toArray, List.set_cons_succ, List.set_cons_zero]))
              refine R6.WalkR.nil (fun D ρ W8 hD hC => ?_)
              have H8 := Lib.hid (And.intro ((hC.block _ (lt_of_heap HK.out.2.1)).trans HK.out.2.1) (And.intro (HK.out.2.2.1.trans (hC.mono HK.out.2.2.1.size)) ((hC.block _ (lt_of_heap HK.out.2.2.2)).trans HK.out.2.2.2)))
              clear hC hD
              go_wp2
              go_ret
              exact ⟨by rw [show r1 = false by rw [HST.out.1, ← Bool.and_assoc, HS.out.2.1 (by rw [HS.out.2.2.2.2, D2.out, Bool.false_and, Bool.and_false])]; rfl, Bool.false_and]; rfl, H8.out.2.1⟩
            have hu : IntKind.i64.wrap (2 * x) = 2 * x := IntWalk.i64_in _ (by have := inR_iff.1 d2; omega)
            have HS := Lib.hid (And.intro hsec (And.intro hno (And.intro hrs (And.intro hu hsk))))
            have D1 := Lib.hid d1
            have D2 := Lib.hid d2
            clear d1 d2 hsec hno hrs hsk hu
            by_cases d3 : g < 2 * x
            · have D3 := Lib.hid d3
              go_wp2
              refine R6.wp_walk (C := fun _ _ W => Below wr.heap.size wr W) 162 (by kernel_rfl) (by kernel_rfl) rfl (Below.refl _ _).drew ?_
              simp only []
              repeat (first
                | (refine R6.WalkR.un (fun _ => rfl) (fun D ρ W hK hC => hC) ?_
                   simp only [Act.put, List.setIfInBounds_toArray, List.set_cons_succ, List.set_cons_zero])
                | (refine' R6.WalkR.det (fun _ => rfl) (fun D ρ W hK hC => ?_) ?_
                   rotate_left
                   · have hy6 := (hC.block _ (lt_of_heap HK.out.2.1)).trans HK.out.2.1
                     obtain ⟨f1, f2⟩ := HS.out.1 W hy6
                     have u1 := HS.out.2.2.2.1
                     clear hy6
                     have d3 := D3.out
                     have HC := Lib.hid hC
                     clear hC hK
                     go_simp
                     first
                       | with_reducible exact ⟨rfl, HC.out⟩
                       | (go_at_call 67; refine (rfWithin_any _ _ _ W).mono ?_; rintro e _ ⟨rfl, rfl⟩; (first | rw [D1.out] | rw [D2.out]); exact ⟨_, rfl, rfl, HC.out⟩)
                   simp only [Act.put, List.setIfInBounds_toArray, List.set_cons_succ, List.set_cons_zero]))
              refine R6.WalkR.nil (fun D ρ W8 hD hC => ?_)
              have H8 := Lib.hid (And.intro ((hC.block _ (lt_of_heap HK.out.2.1)).trans HK.out.2.1) (And.intro (HK.out.2.2.1.trans (hC.mono HK.out.2.2.1.size)) ((hC.block _ (lt_of_heap HK.out.2.2.2)).trans HK.out.2.2.2)))
              clear hC hD
              go_wp2
              go_ret
              exact ⟨by rw [show r1 = false by rw [HST.out.1, ← Bool.and_assoc, HS.out.2.1 (by rw [HS.out.2.2.2.2, decide_eq_false (Int.not_le.2 D3.out), Bool.and_false, Bool.and_false])]; rfl, Bool.false_and]; rfl, H8.out.2.1⟩
            · have D3 := Lib.hid (Int.not_lt.1 d3)
              clear d3
              go_wp2
              refine R6.wp_walk (C := fun _ _ W => Below wr.heap.size wr W) 162 (by kernel_rfl) (by kernel_rfl) rfl (Below.refl _ _).drew ?_
              simp only []
              repeat (first
                | (refine R6.WalkR.un (fun _ => rfl) (fun D ρ W hK hC => hC) ?_
                   simp only [Act.put, List.setIfInBounds_toArray, List.set_cons_succ, List.set_cons_zero])
                | (refine' R6.WalkR.det (fun _ => rfl) (fun D ρ W hK hC => ?_) ?_
                   rotate_left
                   · have hy6 := (hC.block _ (lt_of_heap HK.out.2.1)).trans HK.out.2.1
                     obtain ⟨f1, f2⟩ := HS.out.1 W hy6
                     have u1 := HS.out.2.2.2.1
                     clear hy6
                     have d3 := decide_eq_false (Int.not_lt.2 D3.out)
                     have HC := Lib.hid hC
                     clear hC hK
                     go_simp
                     first
                       | with_reducible exact ⟨rfl, HC.out⟩
                       | (go_at_call 67; refine (rfWithin_any _ _ _ W).mono ?_; rintro e _ ⟨rfl, rfl⟩; (first | rw [D1.out] | rw [D2.out]); exact ⟨_, rfl, rfl, HC.out⟩)
                   simp only [Act.put, List.setIfInBounds_toArray, List.set_cons_succ, List.set_cons_zero]))
              refine R6.WalkR.nil (fun D ρ W8 hD hC => ?_)
              have H8 := Lib.hid (And.intro ((hC.block _ (lt_of_heap HK.out.2.1)).trans HK.out.2.1) (And.intro (HK.out.2.2.1.trans (hC.mono HK.out.2.2.1.size)) ((hC.block _ (lt_of_heap HK.out.2.2.2)).trans HK.out.2.2.2)))
              clear hC hD
              go_wp2
              go_roundg gm
              case measure => omega
              case rel => exact ⟨k + 1, by omega, by go_num, by rw [HS.out.2.2.1, HS.out.2.2.2.2, D1.out, D2.out, decide_eq_true D3.out]; rfl, H8.out⟩

end Go.Proofs.YtddpebnmjfmgdaaGreat
