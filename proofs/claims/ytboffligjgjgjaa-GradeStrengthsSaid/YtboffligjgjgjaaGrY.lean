/-
  Between which stresses a section of a pole is by its grade and its own tests (the reference's): the walk.
-/
import Derived.Test.YtboffligjgjgjaaGrY0
import Derived.Test.YtboffligjgjgjaaGrQ
import Derived.BigGuardPart
import Derived.Outline
namespace Go.Proofs.Ytboffligjgjgjaa
open Go.RowKit Go.BigFrame
open R6 (done done_ne done_me upd_ne upd_me)

attribute [local go_sem] gives

set_option maxRecDepth 100000 in
set_option maxHeartbeats 16000000 in
theorem rfOwn_any (gs : List Gd) (vary : Int) (ps : List Pol) (ts : List Ts) (AP : Option Addr) (cp : Nat) (AT : Option Addr) (nt ct : Nat) (AG : Option Addr) (cg : Nat) (A2 : Option Addr) (c2 : Nat) (i k : Nat) (B : Nat) (w : World) (hB : B ≤ w.heap.size)
    (hz : Vals w B AP (ps.flatMap pcl)) (hg : GdAt w B gs AG) (h2 : Vals w B A2 (ts.flatMap tcl)) (hl2 : ts.length ≤ 1000000) (hlp : ps.length ≤ 1000000) (hi : i < ps.length) (hk : k < 3) (hg1 : 1 ≤ gOf gs ps[i]) (hs : okSecs ps[i] = true) (hy : yrs ps[i]) (ht : ∀ t ∈ ts, okT t) :
    Calls Try.prog 45 #[.agg #[.slice AP ps.length cp, .slice AT nt ct], .agg #[.slice AG gs.length cg, .int .i64 vary], .slice A2 ts.length c2, .int .i64 (i : Int), .int .i64 (k : Int)] w
      fun e w' => e = .returned (.agg (sp2 (own ps[i] (gAt gs ps[i]) ts k)).toArray) ∧ Below w.heap.size w w' := by
  obtain ⟨m, hm⟩ : ∃ m, gOf gs ps[i] = m + 1 := ⟨gOf gs ps[i] - 1, by omega⟩
  have hml : m < gs.length := by have := gOf_le gs ps[i]; omega
  have hgat : gAt gs ps[i] = gs[m] := by simp [gAt, hm, hml]
  have har := ar_pos hs k
  have hlg := hg.lg
  obtain ⟨cP, oP, hAP, hcPB, hcP⟩ := vals_elem pcl_len hz (by decide) hi
  obtain ⟨cG, oG, hAG, hcGB, hcG⟩ := vals_elem gcl_len hg.g (by decide) hml
  subst hAP hAG
  obtain ⟨w1, hw1⟩ : ∃ w1, ((w.alloc (.cells #[.slice (some ⟨cP, oP, none⟩) ps.length cp, .slice AT nt ct] 25)).alloc (.cells #[.slice (some ⟨cG, oG, none⟩) gs.length cg, .int .i64 vary] 28)).alloc (.cells #[.int .i64 0, .int .i64 0] 38) = w1 := ⟨_, rfl⟩
  have hb1 : Below w.heap.size w w1 := by rw [← hw1]; exact (grow2 _ _ _).alloc (by simp; omega) _
  have hs1 : w1.heap.size = w.heap.size + 3 := by rw [← hw1]; simp
  have m1 : w1.heap[w.heap.size]? = some (.cells #[.slice (some ⟨cP, oP, none⟩) ps.length cp, .slice AT nt ct] 25 (0, 0)) := by rw [← hw1]; exact alloc3_at0 _ _ _ _
  have m2 : w1.heap[w.heap.size + 1]? = some (.cells #[.slice (some ⟨cG, oG, none⟩) gs.length cg, .int .i64 vary] 28 (0, 0)) := by rw [← hw1]; exact alloc3_at1 _ _ _ _
  have m3 : w1.heap[w.heap.size + 1 + 1]? = some (.cells [Value.int .i64 0, .int .i64 0].toArray 38 (0, 0)) := by rw [← hw1]; exact alloc3_at2 _ _ _ _
  have hc1 : w1.cell? ⟨w.heap.size, 0, none⟩ = some (.slice (some ⟨cP, oP, none⟩) ps.length cp) := cell_of_row w1 _ 0 _ _ _ m1
  have hcP1 : ∀ j v, (pcl ps[i])[j]? = some v → w1.cell? ⟨cP, oP + i * 12 + j, none⟩ = some v := fun j v hv => (hb1.cell (p := ⟨cP, oP + i * 12 + j, none⟩) (by simp; omega)).trans (hcP j v hv)
  have hcG1 : ∀ W, Below w.heap.size w W → ∀ j v, (sp2 (st0 gs[m] k))[j]? = some v → W.cell? ⟨cG, oG + m * 8 + 2 + k * 2 + j, none⟩ = some v := fun W hW j v hv => by
    have := (hW.cell (p := ⟨cG, oG + m * 8 + (2 + k * 2 + j), none⟩) (by simp; omega)).trans (hcG _ v (gcl_st0 _ hk j v hv))
    rw [show oG + m * 8 + 2 + k * 2 + j = oG + m * 8 + (2 + k * 2 + j) by omega]
    exact this
  have hof := fun (W : World) (hW : Below w.heap.size w W) => rfOf_any gs vary ps[i] (some ⟨cG, oG, none⟩) cg B W (Nat.le_trans hB hW.size) (hg.below (hW.mono hB)) hy
  rw [hm] at hof
  have hare := fun (W : World) => rfArea_any ps[i] k hk hs W
  have hst := fun (j : Nat) (hj : j < ts.length) => own_step ps[i] gs[m] ts k j hj
  have hst0 : own ps[i] gs[m] (ts.take 0) k = st0 gs[m] k := rfl
  have hun : ∀ s t, own1 ps[i] k s t = if t.pole = ps[i].id ∧ t.sec = k then (if t.held = true then (max s.1 (needN (ar ps[i] k) t.force), s.2) else (s.1, min s.2 (needN (ar ps[i] k) t.force - 1))) else s := fun _ _ => rfl
  rw [hgat]
  generalize ps[i] = p at *
  generalize gs[m] = g at *
  generalize ar p k = a at *
  have hiz : (i : Int) < ps.length := by omega
  have hmz : (m : Int) < gs.length := by omega
  have hkz : (k : Int) < 3 := by omega
  have v1 : IntKind.i64.wrap (m : Int) = m := IntWalk.i64_in _ (by omega)
  have HCP := Lib.hid hcP1
  have HF := Lib.hid (And.intro hcG1 (And.intro hof (And.intro hare (And.intro hst (And.intro hst0 hun)))))
  have HM := Lib.hid (And.intro hb1 (And.intro m1 (And.intro m2 (And.intro m3 hs1))))
  have HZ := Lib.hid (And.intro h2 (And.intro ht hB))
  have HV := Lib.hid v1
  clear hz hg hcP hcG hcP1 hcG1 hof hare hst hst0 hun hb1 m1 m2 m3 h2 ht hg1 hm hgat hs hy hs1 v1
  go_enter Try.func45, Try.ntmps45
  go_wp2_with (first
    | (show wpList _ _ _ (Oper.mk (some 21) _ _ _ _ _ :: _) _ _
       refine wpList_load_at 58 (.tmp 20) rfl rfl rfl (pcl p) HCP.out rowPole ?_)
    | (show wpList _ _ _ (Oper.mk none (Op.store _ (Operand.tmp 11) (Operand.tmp 21)) _ _ _ _ :: _) _ _
       refine wpList_store_blk 58 (.tmp 11) (.tmp 21) rfl rfl rfl rfl rfl (alloc_at0 w1 _) (Nat.le_of_ble_eq_true rfl) (fun v hv => pcl_one [p] v (by simpa using hv)) rowPole ?_
       intro w5 hP5 hM5
       rw [splice_whole (by rfl)] at hM5
       have hb5 : Below w1.heap.size w1 w5 := (grow1 w1 _).trans (hP5.below (Nat.le_refl _))
       have H5 := Lib.hid (And.intro hM5 (And.intro (HM.out.1.trans (hb5.mono HM.out.1.size)) (And.intro ((hb5.block _ (lt_of_heap HM.out.2.2.1)).trans HM.out.2.2.1) (And.intro ((hb5.block _ (lt_of_heap HM.out.2.2.2.1)).trans HM.out.2.2.2.1) (show w1.heap.size < w5.heap.size from lt_of_heap hM5)))))
       clear hP5 hM5 hb5))
  clear hc1
  refine R6.wp_walk (C := MkS w5 11 12 12 38 [.int .i64 0, .int .i64 0] (sp2 (st0 g k))) 79 (by kernel_rfl) (by kernel_rfl) rfl (MkS.start (fun _ => rfl)) ?_
  simp only []
  repeat (first
    | (refine' R6.WalkR.det (fun _ => rfl) (fun D ρ W hK hC => ?_) ?_
       rotate_left
       · have f1 : W.cell? ⟨w.heap.size + 1, 0, none⟩ = some (.slice (some ⟨cG, oG, none⟩) gs.length cg) := cell_of_row W _ 0 _ _ _ ((hC.bel.block _ (lt_of_heap H5.out.2.2.1)).trans H5.out.2.2.1)
         have HC := Lib.hid hC
         clear hC hK
         go_simp
         with_reducible exact ⟨rfl, HC.out.move (by decide)⟩
       simp only [Act.put, List.setIfInBounds_toArray, List.set_cons_succ, List.set_cons_zero]))
  refine' R6.WalkR.det (fun _ => rfl) (fun D ρ W hK hC => ?_) ?_
  rotate_left
  · exact gives_load_blk 28 (.tmp 6) rfl rfl ((hC.bel.block _ (lt_of_heap H5.out.2.2.1)).trans H5.out.2.2.1) [.slice (some ⟨cG, oG, none⟩) gs.length cg, .int .i64 vary] at0 rowGrading5 ⟨rfl, hC.move (by decide)⟩
  simp only [Act.put, List.setIfInBounds_toArray, List.set_cons_succ, List.set_cons_zero]
  refine' R6.WalkR.det (fun _ => rfl) (fun D ρ W hK hC => ?_) ?_
  rotate_left
  · exact gives_load_blk 58 (.tmp 11) rfl rfl ((hC.bel.block _ (lt_of_heap H5.out.1)).trans H5.out.1) (pcl p) at0 rowPole ⟨rfl, hC.move (by decide)⟩
  simp only [Act.put, List.setIfInBounds_toArray, List.set_cons_succ, List.set_cons_zero]
  repeat (first
    | (refine' R6.WalkR.det (fun _ => rfl) (fun D ρ W hK hC => ?_) ?_
       rotate_left
       · have v1 := HV.out
         have HC := Lib.hid hC
         clear hC hK
         go_simp
         first
           | with_reducible exact ⟨rfl, HC.out.move (by decide)⟩
           | (go_at_call 21; refine (HF.out.2.1 W (H5.out.2.1.trans (HC.out.bel.mono H5.out.2.1.size))).mono ?_; rintro e W1 ⟨rfl, hB1⟩; exact ⟨_, rfl, rfl, (HC.out.next (hB1)).move (by decide)⟩)
       simp only [Act.put, List.setIfInBounds_toArray, List.set_cons_succ, List.set_cons_zero]))
  refine' R6.WalkR.det (c := .agg (sp2 (st0 g k)).toArray) (fun _ => rfl) (fun D ρ W hK hC => ?_) ?_
  · exact gives_load_at 38 (.tmp 31) rfl rfl (sp2 (st0 g k)) (HF.out.1 W (H5.out.2.1.trans (hC.bel.mono H5.out.2.1.size))) rowSpan5 ⟨rfl, hC.move (by decide)⟩
  simp only [Act.put, List.setIfInBounds_toArray, List.set_cons_succ, List.set_cons_zero]
  refine' R6.WalkR.nd (fun _ => rfl) rfl (fun D ρ W hK hC => ?_) ?_
  · have h12 := hK.post 12 (by decide +kernel)
    have HC := Lib.hid (And.intro hC h12)
    clear hC hK h12
    go_simp
    exact HC.out.1.made (by decide) HC.out.2 rfl
  simp only [Act.put, List.setIfInBounds_toArray, List.set_cons_succ, List.set_cons_zero]
  refine' R6.WalkR.det (c := undef) (fun _ => rfl) (fun D ρ W hK hC => ?_) ?_
  · obtain ⟨b, hb, hv0, hmb⟩ := hC.new (hK.pre 11 (needs_edgeM (by decide +kernel)))
    rw [hK.me, if_neg (by decide)] at hmb
    refine gives_store_blk 38 (.tmp 12) (.tmp 32) (cs := sp2 (st0 g k)) rfl hv0 rfl hmb (Nat.le_of_ble_eq_true rfl) (sp2_one _) rowSpan5 ?_
    intro W' hP hM'
    rw [splice_whole (by rfl)] at hM'
    exact ⟨rfl, hC.put (by decide) hb hv0 hP hM'⟩
  simp only [Act.put, List.setIfInBounds_toArray, List.set_cons_succ, List.set_cons_zero]
  refine R6.WalkR.nil (fun D ρ W6 hD hC => ?_)
  obtain ⟨b, hb, hv0, hmb⟩ := hC.new (hD 11 (by omega))
  rw [hD 12 (by omega), if_pos rfl] at hmb
  have hv : _ = Value.pointer (some ⟨b, 0, none⟩) := hv0
  clear hv0
  rw [hv]
  have hb6 := hC.bel
  have H6 := Lib.hid (And.intro hmb (And.intro (H5.out.2.1.trans (hb6.mono H5.out.2.1.size)) (And.intro ((hb6.block _ (lt_of_heap H5.out.1)).trans H5.out.1) (And.intro ((hb6.block _ (lt_of_heap H5.out.2.2.2.1)).trans H5.out.2.2.2.1) hb))))
  clear hmb hb6 hC hD
  obtain ⟨w7, hw7⟩ : ∃ w7, W6 = w7 := ⟨_, rfl⟩
  subst hw7
  go_wp2_with (first
    | (show wpList _ _ _ (Oper.mk (some 33) _ _ _ _ _ :: _) _ _
       refine wpList_load_blk 58 (.tmp 11) rfl rfl rfl H6.out.2.2.1 (pcl p) at0 rowPole ?_)
    | (go_at_call 46
       refine (HF.out.2.2.1 W6).mono ?_
       rintro e w8 ⟨rfl, hB8⟩
       have H8 := Lib.hid (And.intro ((hB8.block _ (lt_of_heap H6.out.1)).trans H6.out.1) (And.intro (H6.out.2.1.trans (hB8.mono H6.out.2.1.size)) (And.intro ((hB8.block _ (lt_of_heap H6.out.2.2.1)).trans H6.out.2.2.1) ((hB8.block _ (lt_of_heap H6.out.2.2.2.1)).trans H6.out.2.2.2.1))))
       clear hB8))
  have hbn : w5.heap.size ≤ b := H6.out.2.2.2.2
  have hn5 : w1.heap.size < w5.heap.size := H5.out.2.2.2.2
  have hn1 : w1.heap.size = w.heap.size + 3 := HM.out.2.2.2.2
  have HB := Lib.hid (And.intro hbn (And.intro hn5 hn1))
  clear hbn hn5 hn1
  go_loopg [14] ts.length (fun gn s14 wx => ∃ j : Nat, j + gn = ts.length ∧ s14 = .int .i64 j ∧ Hid (wx.heap[b]? = some (.cells (sp2 (own p g (ts.take j) k)).toArray 38 (0, 0)) ∧ Below w.heap.size w wx ∧ wx.heap[w1.heap.size]? = some (.cells (pcl p).toArray 58 (0, 0)) ∧ wx.heap[w.heap.size + 1 + 1]? = some (.cells [Value.int .i64 0, .int .i64 0].toArray 38 (0, 0))))
  case atStart => exact ⟨0, by omega, rfl, H8.out⟩
  case round =>
    obtain ⟨j, hjg, rfl, hJ⟩ := hrel
    cases gk with
    | zero =>
      have hJ' := hJ.out
      obtain rfl : j = ts.length := by omega
      rw [List.take_length] at hJ'
      obtain ⟨z, hze⟩ : ∃ z, z = own p g ts k := ⟨_, rfl⟩
      rw [← hze] at hJ'
      have HZE := Lib.hid hze
      have HJ := Lib.hid hJ'
      clear hJ' hze hJ
      go_wp2_with (first
        | (show wpList _ _ _ (Oper.mk (some 78) _ _ _ _ _ :: _) _ _
           refine wpList_load_blk 38 (.tmp 12) rfl rfl rfl HJ.out.1 (sp2 z) at0 rowSpan5 ?_)
        | (show wpList _ _ _ (Oper.mk none (Op.store _ (Operand.tmp 10) (Operand.tmp 78)) _ _ _ _ :: _) _ _
           refine wpList_store_blk 38 (.tmp 10) (.tmp 78) rfl rfl rfl rfl rfl HJ.out.2.2.2 (Nat.le_of_ble_eq_true rfl) (sp2_one z) rowSpan5 ?_
           intro w9 hP9 hM9
           rw [splice_whole (by rfl)] at hM9
           have H9 := Lib.hid (And.intro (HJ.out.2.1.trans (hP9.below (by omega))) hM9)
           clear hP9 hM9))
      refine bodyPost_ret (v := .agg (sp2 z).toArray) (results_cell1 Try.results45 rfl H9.out.2 rowSpan5) rfl ⟨by rw [HZE.out], H9.out.1⟩
    | succ gn =>
      have hj : j < ts.length := by omega
      have hjz : (j : Int) < ts.length := by omega
      obtain ⟨c, off, hA, hcB, hc⟩ := vals_elem tcl_len HZ.out.1 (by decide) hj
      subst hA
      have hc' : ∀ n v, (tcl ts[j])[n]? = some v → wr.cell? ⟨c, off + j * 5 + n, none⟩ = some v := fun n v hv => (hJ.out.2.1.cell (p := ⟨c, off + j * 5 + n, none⟩) (by have := HZ.out.2.2; simp; omega)).trans (hc n v hv)
      have hst := HF.out.2.2.2.1 j hj
      have hty := HZ.out.2.1 _ (List.getElem_mem hj)
      rw [HF.out.2.2.2.2.2] at hst
      have hJ' := hJ.out
      generalize ts[j] = y at hc' hst hty
      generalize own p g (ts.take j) k = z at hJ' hst
      have hnb := needN_bnd har.1 hty.2.1 hty.2.2
      have hq : (1000 * y.force + a - 1).tdiv a = needN a y.force := Int.tdiv_eq_ediv_of_nonneg (by have := hty.2.1; have := har.1; omega)
      have hf2 := hty.2
      have u1 : IntKind.i64.wrap (1000 * y.force) = 1000 * y.force := IntWalk.i64_in _ (by omega)
      have u2 : IntKind.i64.wrap (1000 * y.force + a) = 1000 * y.force + a := IntWalk.i64_in _ (by omega)
      have u3 : IntKind.i64.wrap (1000 * y.force + a - 1) = 1000 * y.force + a - 1 := IntWalk.i64_in _ (by omega)
      have u4 : IntKind.i64.wrap ((1000 * y.force + a - 1).tdiv a) = needN a y.force := by rw [hq]; exact IntWalk.i64_in _ (by omega)
      have u5 : ¬ a = 0 := by omega
      have u6 : (a == 0) = false := by simp; omega
      have u7 : IntKind.i64.wrap (needN a y.force - 1) = needN a y.force - 1 := IntWalk.i64_in _ (by omega)
      generalize needN a y.force = nn at *
      have HST := Lib.hid hst
      have HCC := Lib.hid hc'
      have HJ := Lib.hid hJ'
      clear hc hc' hst hJ' hJ hty hq hnb hf2
      obtain ⟨z1, z2⟩ := z
      have arm : True := trivial
      by_cases q1 : y.pole = p.id
      · by_cases q2 : y.sec = k
        · cases hh : y.held
          · rw [hh] at HST
            go_wp2_with (first
              | go_big_skip
              | (show wpList _ _ _ (Oper.mk (some 45) _ _ _ _ _ :: _) _ _
                 refine wpList_load_at 78 (.tmp 44) rfl rfl rfl (tcl y) HCC.out rowTest ?_)
              | (show wpList _ _ _ (Oper.mk none (Op.store _ (Operand.tmp 15) (Operand.tmp 45)) _ _ _ _ :: _) _ _
                 refine wpList_store_blk 78 (.tmp 15) (.tmp 45) rfl rfl rfl rfl rfl (alloc_at0 wr _) (Nat.le_of_ble_eq_true rfl) (fun v hv => tcl_one [y] v (by simpa using hv)) rowTest ?_
                 intro w7 hP7 hM7
                 rw [splice_whole (by rfl)] at hM7
                 have hb7 : Below wr.heap.size wr w7 := (grow1 wr _).trans (hP7.below (Nat.le_refl _))
                 have hx1 := (hb7.block _ (lt_of_heap HJ.out.1)).trans HJ.out.1
                 have hx3 := (hb7.block _ (lt_of_heap HJ.out.2.2.1)).trans HJ.out.2.2.1
                 have hx4 := (hb7.block _ (lt_of_heap HJ.out.2.2.2)).trans HJ.out.2.2.2
                 have f1 : w7.cell? ⟨wr.heap.size, 1, none⟩ = some (.int .i64 y.pole) := cell_of_row w7 _ 1 _ _ _ hM7
                 have f2 : w7.cell? ⟨wr.heap.size, 2, none⟩ = some (.int .i64 y.sec) := cell_of_row w7 _ 2 _ _ _ hM7
                 have f3 : w7.cell? ⟨wr.heap.size, 3, none⟩ = some (.int .i64 y.force) := cell_of_row w7 _ 3 _ _ _ hM7
                 have f4 : w7.cell? ⟨wr.heap.size, 4, none⟩ = some (.bool y.held) := cell_of_row w7 _ 4 _ _ _ hM7
                 have f5 : w7.cell? ⟨w1.heap.size, 0, none⟩ = some (.int .i64 p.id) := cell_of_row w7 _ 0 _ _ _ hx3
                 have f6 : w7.cell? ⟨b, 0, none⟩ = some (.int .i64 z1) := cell_of_row w7 _ 0 _ _ _ hx1
                 have f7 : w7.cell? ⟨b, 1, none⟩ = some (.int .i64 z2) := cell_of_row w7 _ 1 _ _ _ hx1
                 have H7 := Lib.hid (And.intro hx1 (And.intro (HJ.out.2.1.trans (hb7.mono HJ.out.2.1.size)) (And.intro hx3 hx4)))
                 clear hP7 hM7 hb7 hx1 hx3 hx4)
              | (show wpList _ _ _ (Oper.mk none (Op.store _ (Operand.tmp 71) (Operand.tmp 70)) _ _ _ _ :: _) _ _
                 refine wpList_store1 3 (.tmp 71) (.tmp 70) rfl rfl rfl rfl rfl H7.out.1 (Nat.le_of_ble_eq_true rfl) info3s ?_
                 intro w9 hP9 hM9
                 have H9 := Lib.hid (And.intro hM9 (And.intro (H7.out.2.1.trans (hP9.below (by have := HB.out; omega))) (And.intro ((hP9.other _ (by have := HB.out; omega)).trans H7.out.2.2.1) ((hP9.other _ (by have := HB.out; omega)).trans H7.out.2.2.2))))
                 clear hP9 hM9)
              | (show wpList _ _ _ (Oper.mk none (Op.store _ (Operand.tmp 77) (Operand.tmp 76)) _ _ _ _ :: _) _ _
                 refine wpList_store1 3 (.tmp 77) (.tmp 76) rfl rfl rfl rfl rfl H7.out.1 (Nat.le_of_ble_eq_true rfl) info3s ?_
                 intro w9 hP9 hM9
                 have H9 := Lib.hid (And.intro hM9 (And.intro (H7.out.2.1.trans (hP9.below (by have := HB.out; omega))) (And.intro ((hP9.other _ (by have := HB.out; omega)).trans H7.out.2.2.1) ((hP9.other _ (by have := HB.out; omega)).trans H7.out.2.2.2))))
                 clear hP9 hM9))
            go_roundg gn
            case measure => omega
            case rel => exact ⟨j + 1, by omega, by go_num, by rw [HST.out, if_pos ⟨q1, q2⟩, if_neg (by decide)]; exact H9.out⟩
          · rw [hh] at HST
            go_wp2_with (first
              | go_big_skip
              | (show wpList _ _ _ (Oper.mk (some 45) _ _ _ _ _ :: _) _ _
                 refine wpList_load_at 78 (.tmp 44) rfl rfl rfl (tcl y) HCC.out rowTest ?_)
              | (show wpList _ _ _ (Oper.mk none (Op.store _ (Operand.tmp 15) (Operand.tmp 45)) _ _ _ _ :: _) _ _
                 refine wpList_store_blk 78 (.tmp 15) (.tmp 45) rfl rfl rfl rfl rfl (alloc_at0 wr _) (Nat.le_of_ble_eq_true rfl) (fun v hv => tcl_one [y] v (by simpa using hv)) rowTest ?_
                 intro w7 hP7 hM7
                 rw [splice_whole (by rfl)] at hM7
                 have hb7 : Below wr.heap.size wr w7 := (grow1 wr _).trans (hP7.below (Nat.le_refl _))
                 have hx1 := (hb7.block _ (lt_of_heap HJ.out.1)).trans HJ.out.1
                 have hx3 := (hb7.block _ (lt_of_heap HJ.out.2.2.1)).trans HJ.out.2.2.1
                 have hx4 := (hb7.block _ (lt_of_heap HJ.out.2.2.2)).trans HJ.out.2.2.2
                 have f1 : w7.cell? ⟨wr.heap.size, 1, none⟩ = some (.int .i64 y.pole) := cell_of_row w7 _ 1 _ _ _ hM7
                 have f2 : w7.cell? ⟨wr.heap.size, 2, none⟩ = some (.int .i64 y.sec) := cell_of_row w7 _ 2 _ _ _ hM7
                 have f3 : w7.cell? ⟨wr.heap.size, 3, none⟩ = some (.int .i64 y.force) := cell_of_row w7 _ 3 _ _ _ hM7
                 have f4 : w7.cell? ⟨wr.heap.size, 4, none⟩ = some (.bool y.held) := cell_of_row w7 _ 4 _ _ _ hM7
                 have f5 : w7.cell? ⟨w1.heap.size, 0, none⟩ = some (.int .i64 p.id) := cell_of_row w7 _ 0 _ _ _ hx3
                 have f6 : w7.cell? ⟨b, 0, none⟩ = some (.int .i64 z1) := cell_of_row w7 _ 0 _ _ _ hx1
                 have f7 : w7.cell? ⟨b, 1, none⟩ = some (.int .i64 z2) := cell_of_row w7 _ 1 _ _ _ hx1
                 have H7 := Lib.hid (And.intro hx1 (And.intro (HJ.out.2.1.trans (hb7.mono HJ.out.2.1.size)) (And.intro hx3 hx4)))
                 clear hP7 hM7 hb7 hx1 hx3 hx4)
              | (show wpList _ _ _ (Oper.mk none (Op.store _ (Operand.tmp 71) (Operand.tmp 70)) _ _ _ _ :: _) _ _
                 refine wpList_store1 3 (.tmp 71) (.tmp 70) rfl rfl rfl rfl rfl H7.out.1 (Nat.le_of_ble_eq_true rfl) info3s ?_
                 intro w9 hP9 hM9
                 have H9 := Lib.hid (And.intro hM9 (And.intro (H7.out.2.1.trans (hP9.below (by have := HB.out; omega))) (And.intro ((hP9.other _ (by have := HB.out; omega)).trans H7.out.2.2.1) ((hP9.other _ (by have := HB.out; omega)).trans H7.out.2.2.2))))
                 clear hP9 hM9)
              | (show wpList _ _ _ (Oper.mk none (Op.store _ (Operand.tmp 77) (Operand.tmp 76)) _ _ _ _ :: _) _ _
                 refine wpList_store1 3 (.tmp 77) (.tmp 76) rfl rfl rfl rfl rfl H7.out.1 (Nat.le_of_ble_eq_true rfl) info3s ?_
                 intro w9 hP9 hM9
                 have H9 := Lib.hid (And.intro hM9 (And.intro (H7.out.2.1.trans (hP9.below (by have := HB.out; omega))) (And.intro ((hP9.other _ (by have := HB.out; omega)).trans H7.out.2.2.1) ((hP9.other _ (by have := HB.out; omega)).trans H7.out.2.2.2))))
                 clear hP9 hM9))
            go_roundg gn
            case measure => omega
            case rel => exact ⟨j + 1, by omega, by go_num, by rw [HST.out, if_pos ⟨q1, q2⟩, if_pos trivial]; exact H9.out⟩
        · go_wp2_with (first
            | go_big_skip
            | (show wpList _ _ _ (Oper.mk (some 45) _ _ _ _ _ :: _) _ _
               refine wpList_load_at 78 (.tmp 44) rfl rfl rfl (tcl y) HCC.out rowTest ?_)
            | (show wpList _ _ _ (Oper.mk none (Op.store _ (Operand.tmp 15) (Operand.tmp 45)) _ _ _ _ :: _) _ _
               refine wpList_store_blk 78 (.tmp 15) (.tmp 45) rfl rfl rfl rfl rfl (alloc_at0 wr _) (Nat.le_of_ble_eq_true rfl) (fun v hv => tcl_one [y] v (by simpa using hv)) rowTest ?_
               intro w7 hP7 hM7
               rw [splice_whole (by rfl)] at hM7
               have hb7 : Below wr.heap.size wr w7 := (grow1 wr _).trans (hP7.below (Nat.le_refl _))
               have hx1 := (hb7.block _ (lt_of_heap HJ.out.1)).trans HJ.out.1
               have hx3 := (hb7.block _ (lt_of_heap HJ.out.2.2.1)).trans HJ.out.2.2.1
               have hx4 := (hb7.block _ (lt_of_heap HJ.out.2.2.2)).trans HJ.out.2.2.2
               have f1 : w7.cell? ⟨wr.heap.size, 1, none⟩ = some (.int .i64 y.pole) := cell_of_row w7 _ 1 _ _ _ hM7
               have f2 : w7.cell? ⟨wr.heap.size, 2, none⟩ = some (.int .i64 y.sec) := cell_of_row w7 _ 2 _ _ _ hM7
               have f3 : w7.cell? ⟨wr.heap.size, 3, none⟩ = some (.int .i64 y.force) := cell_of_row w7 _ 3 _ _ _ hM7
               have f4 : w7.cell? ⟨wr.heap.size, 4, none⟩ = some (.bool y.held) := cell_of_row w7 _ 4 _ _ _ hM7
               have f5 : w7.cell? ⟨w1.heap.size, 0, none⟩ = some (.int .i64 p.id) := cell_of_row w7 _ 0 _ _ _ hx3
               have f6 : w7.cell? ⟨b, 0, none⟩ = some (.int .i64 z1) := cell_of_row w7 _ 0 _ _ _ hx1
               have f7 : w7.cell? ⟨b, 1, none⟩ = some (.int .i64 z2) := cell_of_row w7 _ 1 _ _ _ hx1
               have H7 := Lib.hid (And.intro hx1 (And.intro (HJ.out.2.1.trans (hb7.mono HJ.out.2.1.size)) (And.intro hx3 hx4)))
               clear hP7 hM7 hb7 hx1 hx3 hx4)
            | (show wpList _ _ _ (Oper.mk none (Op.store _ (Operand.tmp 71) (Operand.tmp 70)) _ _ _ _ :: _) _ _
               refine wpList_store1 3 (.tmp 71) (.tmp 70) rfl rfl rfl rfl rfl H7.out.1 (Nat.le_of_ble_eq_true rfl) info3s ?_
               intro w9 hP9 hM9
               have H9 := Lib.hid (And.intro hM9 (And.intro (H7.out.2.1.trans (hP9.below (by have := HB.out; omega))) (And.intro ((hP9.other _ (by have := HB.out; omega)).trans H7.out.2.2.1) ((hP9.other _ (by have := HB.out; omega)).trans H7.out.2.2.2))))
               clear hP9 hM9)
            | (show wpList _ _ _ (Oper.mk none (Op.store _ (Operand.tmp 77) (Operand.tmp 76)) _ _ _ _ :: _) _ _
               refine wpList_store1 3 (.tmp 77) (.tmp 76) rfl rfl rfl rfl rfl H7.out.1 (Nat.le_of_ble_eq_true rfl) info3s ?_
               intro w9 hP9 hM9
               have H9 := Lib.hid (And.intro hM9 (And.intro (H7.out.2.1.trans (hP9.below (by have := HB.out; omega))) (And.intro ((hP9.other _ (by have := HB.out; omega)).trans H7.out.2.2.1) ((hP9.other _ (by have := HB.out; omega)).trans H7.out.2.2.2))))
               clear hP9 hM9))
          go_roundg gn
          case measure => omega
          case rel => exact ⟨j + 1, by omega, by go_num, by rw [HST.out, if_neg (fun h => q2 h.2)]; exact H7.out⟩
      · go_wp2_with (first
          | go_big_skip
          | (show wpList _ _ _ (Oper.mk (some 45) _ _ _ _ _ :: _) _ _
             refine wpList_load_at 78 (.tmp 44) rfl rfl rfl (tcl y) HCC.out rowTest ?_)
          | (show wpList _ _ _ (Oper.mk none (Op.store _ (Operand.tmp 15) (Operand.tmp 45)) _ _ _ _ :: _) _ _
             refine wpList_store_blk 78 (.tmp 15) (.tmp 45) rfl rfl rfl rfl rfl (alloc_at0 wr _) (Nat.le_of_ble_eq_true rfl) (fun v hv => tcl_one [y] v (by simpa using hv)) rowTest ?_
             intro w7 hP7 hM7
             rw [splice_whole (by rfl)] at hM7
             have hb7 : Below wr.heap.size wr w7 := (grow1 wr _).trans (hP7.below (Nat.le_refl _))
             have hx1 := (hb7.block _ (lt_of_heap HJ.out.1)).trans HJ.out.1
             have hx3 := (hb7.block _ (lt_of_heap HJ.out.2.2.1)).trans HJ.out.2.2.1
             have hx4 := (hb7.block _ (lt_of_heap HJ.out.2.2.2)).trans HJ.out.2.2.2
             have f1 : w7.cell? ⟨wr.heap.size, 1, none⟩ = some (.int .i64 y.pole) := cell_of_row w7 _ 1 _ _ _ hM7
             have f2 : w7.cell? ⟨wr.heap.size, 2, none⟩ = some (.int .i64 y.sec) := cell_of_row w7 _ 2 _ _ _ hM7
             have f3 : w7.cell? ⟨wr.heap.size, 3, none⟩ = some (.int .i64 y.force) := cell_of_row w7 _ 3 _ _ _ hM7
             have f4 : w7.cell? ⟨wr.heap.size, 4, none⟩ = some (.bool y.held) := cell_of_row w7 _ 4 _ _ _ hM7
             have f5 : w7.cell? ⟨w1.heap.size, 0, none⟩ = some (.int .i64 p.id) := cell_of_row w7 _ 0 _ _ _ hx3
             have f6 : w7.cell? ⟨b, 0, none⟩ = some (.int .i64 z1) := cell_of_row w7 _ 0 _ _ _ hx1
             have f7 : w7.cell? ⟨b, 1, none⟩ = some (.int .i64 z2) := cell_of_row w7 _ 1 _ _ _ hx1
             have H7 := Lib.hid (And.intro hx1 (And.intro (HJ.out.2.1.trans (hb7.mono HJ.out.2.1.size)) (And.intro hx3 hx4)))
             clear hP7 hM7 hb7 hx1 hx3 hx4)
          | (show wpList _ _ _ (Oper.mk none (Op.store _ (Operand.tmp 71) (Operand.tmp 70)) _ _ _ _ :: _) _ _
             refine wpList_store1 3 (.tmp 71) (.tmp 70) rfl rfl rfl rfl rfl H7.out.1 (Nat.le_of_ble_eq_true rfl) info3s ?_
             intro w9 hP9 hM9
             have H9 := Lib.hid (And.intro hM9 (And.intro (H7.out.2.1.trans (hP9.below (by have := HB.out; omega))) (And.intro ((hP9.other _ (by have := HB.out; omega)).trans H7.out.2.2.1) ((hP9.other _ (by have := HB.out; omega)).trans H7.out.2.2.2))))
             clear hP9 hM9)
          | (show wpList _ _ _ (Oper.mk none (Op.store _ (Operand.tmp 77) (Operand.tmp 76)) _ _ _ _ :: _) _ _
             refine wpList_store1 3 (.tmp 77) (.tmp 76) rfl rfl rfl rfl rfl H7.out.1 (Nat.le_of_ble_eq_true rfl) info3s ?_
             intro w9 hP9 hM9
             have H9 := Lib.hid (And.intro hM9 (And.intro (H7.out.2.1.trans (hP9.below (by have := HB.out; omega))) (And.intro ((hP9.other _ (by have := HB.out; omega)).trans H7.out.2.2.1) ((hP9.other _ (by have := HB.out; omega)).trans H7.out.2.2.2))))
             clear hP9 hM9))
        go_roundg gn
        case measure => omega
        case rel => exact ⟨j + 1, by omega, by go_num, by rw [HST.out, if_neg (fun h => q1 h.1)]; exact H7.out⟩

end Go.Proofs.Ytboffligjgjgjaa
