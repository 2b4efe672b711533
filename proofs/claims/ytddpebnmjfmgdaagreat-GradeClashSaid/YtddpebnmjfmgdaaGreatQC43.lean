/-
  The law GradeClash.
-/
import Derived.BigGuardPart
import Derived.Test.YtddpebnmjfmgdaaGreatQC39
import Derived.Test.YtddpebnmjfmgdaaGreatQC40
import Derived.Test.YtddpebnmjfmgdaaGreatQC38
set_option linter.all false
namespace Go.Proofs.YtddpebnmjfmgdaaGreat
open Go.RowKit Go.BigFrame
open R6 (done done_ne done_me upd_ne upd_me)

attribute [local go_sem] gives

set_option maxRecDepth 100000 in
set_option maxHeartbeats 32000000 in
theorem gradeClash_law2 (ps : List Pol) (ts : List Ts) (gs : List Gd) (vary one two : Int) (AP : Option Addr) (cp : Nat) (AT : Option Addr) (ct : Nat) (AG : Option Addr) (cg : Nat) (B : Nat) (w : World) (hB : B ≤ w.heap.size)
    (hz1 : Vals w B AP (ps.flatMap pcl)) (hz2 : Vals w B AT (ts.flatMap tcl)) (hz3 : Vals w B AG (gs.flatMap gcl)) (r1 : 0 ≤ one ∧ one ≤ 255) (r2 : 0 ≤ two ∧ two ≤ 255) (hrv : rdyS gs vary ps ts = true) (htr : truth gs vary ps ts = false)
    (c : List Int) (hc : clashL gs vary ps ts = c) (hcl : c.length = 2)
    (i0 k0 : Nat) (hi0 : k0 < ts.length ∧ i0 < k0) (hce : c = [ts[i0].id, ts[k0].id]) (hf : truth gs vary ps [ts[i0], ts[k0]] = false ∧ (∀ t ∈ ts, truth gs vary ps [t] = true) ∧
      ∀ a b, ∀ hb : b < ts.length, ∀ hab : a < b, truth gs vary ps [ts[a], ts[b]] = false → i0 < a ∨ (i0 = a ∧ k0 ≤ b)) :
    Calls Tryz.prog 8 #[.agg #[.slice AP ps.length cp, .slice AT ts.length ct], .agg #[.slice AG gs.length cg, .int .i64 vary], .int .u8 one, .int .u8 two] w fun e w' => e = .returned (.bool true) ∧ Below w.heap.size w w' := by
  have hrd := fun (W : World) (hW : Below w.heap.size w W) => grReady_any ps ts gs vary AP cp AT ct AG cg B W (Nat.le_trans hB hW.size) (hz1.below (hW.mono hB)) (hz2.below (hW.mono hB)) (hz3.below (hW.mono hB))
  rw [hrv] at hrd
  have HRD := Lib.hid hrd
  obtain ⟨hl, hck⟩ := rdyS_parts hrv
  have hz : ShAt w B ps ts AP AT := ⟨hz1, hz2, by omega, by omega⟩
  have hg : GdAt w B gs AG := ⟨hz3, by omega⟩
  have hcc := fun (W : World) (hW : Below w.heap.size w W) => grClashP_any ps ts gs vary AP cp AT ct AG cg B W (Nat.le_trans hB hW.size) (hz.below (hW.mono hB)) (hg.below (hW.mono hB))
  unfold ClashPost at hcc
  have hsc : sClash gs vary ps ts = (c, 0) := by unfold sClash; rw [if_pos hck, hc]
  rw [hsc] at hcc
  simp only [hcl] at hcc
  have hgr := fun (j : Nat) (hj : j < ps.length) (W : World) (hW : Below w.heap.size w W) => And.intro (grGrade_any ps ts gs vary ps[j].id AP cp AT ct AG cg B W (Nat.le_trans hB hW.size) (hz.below (hW.mono hB)) (hg.below (hW.mono hB))) (grStrength_any ps ts gs vary ps[j].id (0 : Nat) AP cp AT ct AG cg B W (Nat.le_trans hB hW.size) (hz.below (hW.mono hB)) (hg.below (hW.mono hB)))
  have hpe := fun (j : Nat) (hj : j < ps.length) => And.intro (vals_elem pcl_len hz1 (by decide) hj) (And.intro (sGrade_at hck (List.getElem_mem hj)) (sStr_at hck (List.getElem_mem hj) (show 0 < 3 by decide)))
  rw [htr] at hpe
  have HCC := Lib.hid hcc
  have HGR := Lib.hid hgr
  have HPE := Lib.hid hpe
  have HZG := Lib.hid (And.intro hz (And.intro hg (And.intro hB (And.intro hl hck))))
  have hpq := (id_lt (gChk_upT hck) hi0.1 (Nat.lt_trans hi0.2 hi0.1)).2 hi0.2
  obtain ⟨P, hP⟩ : ∃ P, ts[i0].id = P := ⟨_, rfl⟩
  obtain ⟨Q, hQ⟩ : ∃ Q, ts[k0].id = Q := ⟨_, rfl⟩
  rw [hP, hQ] at hce hpq
  have HCF := Lib.hid (And.intro hce (And.intro hcl htr))
  have HP := Lib.hid (And.intro hP hQ)
  have HI0 := Lib.hid hi0
  have HF := Lib.hid hf
  have HPQ := Lib.hid hpq
  obtain ⟨w1, hw1⟩ : ∃ w1, (w.alloc (.cells #[.slice AP ps.length cp, .slice AT ts.length ct] 25)).alloc (.cells #[.slice AG gs.length cg, .int .i64 vary] 28) = w1 := ⟨_, rfl⟩
  have hb1 : Below w.heap.size w w1 := by rw [← hw1]; exact grow2 _ _ _
  have m1 : w1.heap[w.heap.size]? = some (.cells [.slice AP ps.length cp, .slice AT ts.length ct].toArray 25 (0, 0)) := by rw [← hw1]; exact alloc2_at0 _ _ _
  have m2 : w1.heap[w.heap.size + 1]? = some (.cells [.slice AG gs.length cg, .int .i64 vary].toArray 28 (0, 0)) := by rw [← hw1]; exact alloc2_at1 _ _ _
  have H1 := Lib.hid (And.intro hb1 (And.intro m1 m2))
  have HR := Lib.hid (And.intro r1 r2)
  clear hb1 m1 m2 r1 r2 hrd hrv hz1 hz2 hz3 hl hck hz hg hcc hsc hgr hpe htr hc hB hcl hP hQ hce hf hpq
  go_enter Tryz.func8, Tryz.ntmps8
  go_wp2_with (first
    | (go_at_call 29
       refine (HRD.out w2 H2.out.1).mono ?_
       rintro e w3 ⟨rfl, hB3⟩
       have H3 := Lib.hid (And.intro (H2.out.1.trans (hB3.mono H2.out.1.size)) (And.intro ((hB3.block _ (lt_of_heap H2.out.2.1)).trans H2.out.2.1) ((hB3.block _ (lt_of_heap H2.out.2.2)).trans H2.out.2.2)))
       clear hB3)
    | (show wpList _ _ _ (Oper.mk (some 31) _ _ _ _ _ :: _) _ _
       refine wpList_load_blkG 25 (.tmp 4) rfl rfl rfl H2.out.2.1 [.slice AP ps.length cp, .slice AT ts.length ct] at0 rowSheetP ?_)
    | (show wpList _ _ _ (Oper.mk (some 32) _ _ _ _ _ :: _) _ _
       refine wpList_load_blkG 28 (.tmp 5) rfl rfl rfl H2.out.2.2 [.slice AG gs.length cg, .int .i64 vary] at0 rowGradingP ?_)
    | (go_at_call 20
       refine (grAlive_any w1).mono ?_
       rintro e w2 ⟨rfl, hB2⟩
       have H2 := Lib.hid (And.intro (H1.out.1.trans (hB2.mono H1.out.1.size)) (And.intro ((hB2.block _ (lt_of_heap H1.out.2.1)).trans H1.out.2.1) ((hB2.block _ (lt_of_heap H1.out.2.2)).trans H1.out.2.2)))
       clear hB2)
    | (show wpList _ _ _ (Oper.mk (some 41) _ _ _ _ _ :: _) _ _
       refine wpList_load_blk 25 (.tmp 4) rfl rfl rfl H3.out.2.1 [.slice AP ps.length cp, .slice AT ts.length ct] at0 rowSheetP ?_)
    | (show wpList _ _ _ (Oper.mk (some 42) _ _ _ _ _ :: _) _ _
       refine wpList_load_blk 28 (.tmp 5) rfl rfl rfl H3.out.2.2 [.slice AG gs.length cg, .int .i64 vary] at0 rowGradingP ?_)
    | (go_at_call 33
       refine (HCC.out w3 H3.out.1).mono ?_
       rintro e w4 ⟨A4, c4, rfl, hI4, hB4⟩
       have H4 := Lib.hid (And.intro (H3.out.1.trans (hB4.mono H3.out.1.size)) (And.intro ((hB4.block _ (lt_of_heap H3.out.2.1)).trans H3.out.2.1) (And.intro ((hB4.block _ (lt_of_heap H3.out.2.2)).trans H3.out.2.2) hI4)))
       have f4 : w4.cell? ⟨w.heap.size, 0, none⟩ = some (.slice AP ps.length cp) := cell_of_row w4 _ 0 _ _ _ H4.out.2.1
       clear hB4 hI4))
  clear f4
  have hB4 : B ≤ w4.heap.size := Nat.le_trans HZG.out.2.2.1 H4.out.1.size
  have hz4 := HZG.out.1.below (H4.out.1.mono HZG.out.2.2.1)
  have hg4 := HZG.out.2.1.below (H4.out.1.mono HZG.out.2.2.1)
  have hon := fun (j : Nat) (hj : j < ts.length) => cls_one hB4 hz4 hg4 HZG.out.2.2.2.1.1 HZG.out.2.2.2.1.2.1 H4.out.2.1 H4.out.2.2.1 HZG.out.2.2.2.2 hj
  have htw := fun (j k : Nat) (hk : k < ts.length) (hjk : j < k) => cls_two hB4 hz4 hg4 HZG.out.2.2.2.1.1 HZG.out.2.2.2.1.2.1 H4.out.2.1 H4.out.2.2.1 HZG.out.2.2.2.2 hk hjk
  have hk1 : ClsAt w4 w.heap.size (w.heap.size + 1) [P, Q] true := by
    have h := htw i0 k0 HI0.out.1 HI0.out.2
    rw [HF.out.1, HP.out.1, HP.out.2] at h
    exact h
  have hk2 : ClsAt w4 w.heap.size (w.heap.size + 1) [P] false := by
    have h := hon i0 (Nat.lt_trans HI0.out.2 HI0.out.1)
    rw [HF.out.2.1 _ (List.getElem_mem _), HP.out.1] at h
    exact h
  have hk3 : ClsAt w4 w.heap.size (w.heap.size + 1) [Q] false := by
    have h := hon k0 HI0.out.1
    rw [HF.out.2.1 _ (List.getElem_mem _), HP.out.2] at h
    exact h
  have HK1 := Lib.hid (And.intro hk1 (And.intro hk2 hk3))
  have h4i := H4.out.2.2.2
  rw [HCF.out.1] at h4i
  obtain ⟨gA, oA, rfl, hgA, hcA⟩ := h4i (by simp)
  have hce := fun (W : World) (hW : Below w4.heap.size w4 W) => And.intro ((hW.cell (p := ⟨gA, oA + 0, none⟩) hgA).trans (hcA 0 (by simp))) ((hW.cell (p := ⟨gA, oA + 1, none⟩) hgA).trans (hcA 1 (by simp)))
  simp only [List.getElem?_cons_zero, List.getElem?_cons_succ, Option.getD_some, Nat.add_zero] at hce
  have HCE := Lib.hid hce
  clear hk1 hk2 hk3 h4i hgA hcA hce
  have HON := Lib.hid hon
  have HTW := Lib.hid htw
  clear hB4 hz4 hg4 hon htw
  have hbx := fun (W : World) (hW : Below w4.heap.size w4 W) => And.intro ((hW.block _ (lt_of_heap H4.out.2.1)).trans H4.out.2.1) ((hW.block _ (lt_of_heap H4.out.2.2.1)).trans H4.out.2.2.1)
  have HBX := Lib.hid hbx
  clear hbx
  go_loopg [56] ps.length (fun gn s56 wx => ∃ i : Nat, i + gn = ps.length ∧ s56 = .int .i64 i ∧ Hid (Below w4.heap.size w4 wx))
  case atStart => exact ⟨0, by omega, rfl, Below.refl _ _⟩
  case round =>
    obtain ⟨i, hig, rfl, hI⟩ := hrel
    cases gk with
    | zero =>
      obtain rfl : i = ps.length := by omega
      have H9 := Lib.hid hI.out
      clear hI
      have hca : Calls Tryz.prog 36 #[.slice (some ⟨gA, oA, none⟩) 2 c4, .pointer (some ⟨w.heap.size, 0, none⟩), .pointer (some ⟨w.heap.size + 1, 0, none⟩)] wr fun e w' => e = .returned (.tuple #[.bool true, .bool true]) ∧ Below wr.heap.size wr w' := HK1.out.1 wr H9.out _ c4 (by have h := H4.out.2.2.2; rw [HCF.out.1] at h; exact (h.below H9.out).mono H9.out.size)
      have HCA := Lib.hid hca
      clear hca
      go_wp2_with (first
        | (go_at_call 36
           (with_reducible show Calls _ _ #[Value.slice _ 1 _, _, _] (World.alloc wb _) _)
           refine (HK1.out.2.2 (wb.alloc _) (HB.out.trans ((grow1 wb _).mono HB.out.size)) _ _ (ints_lit [Q] (alloc_at0 wb _) rfl)).mono ?_
           rintro e wc ⟨rfl, hBn⟩
           have HC := Lib.hid ((HB.out.trans ((grow1 wb _).mono HB.out.size)).trans (hBn.mono (HB.out.trans ((grow1 wb _).mono HB.out.size)).size))
           clear hBn)
        | (go_at_call 36
           (with_reducible show Calls _ _ #[Value.slice _ 1 _, _, _] (World.alloc wa _) _)
           refine (HK1.out.2.1 (wa.alloc _) (HA.out.trans ((grow1 wa _).mono HA.out.size)) _ _ (ints_lit [P] (alloc_at0 wa _) rfl)).mono ?_
           rintro e wb ⟨rfl, hBn⟩
           have HB := Lib.hid ((HA.out.trans ((grow1 wa _).mono HA.out.size)).trans (hBn.mono (HA.out.trans ((grow1 wa _).mono HA.out.size)).size))
           obtain ⟨fcwb, fdwb⟩ := HCE.out wb HB.out
           clear hBn)
        | (go_at_call 36
           (with_reducible show Calls _ _ _ wr _)
           refine HCA.out.mono ?_
           rintro e wa ⟨rfl, hBn⟩
           have HA := Lib.hid (H9.out.trans (hBn.mono H9.out.size))
           obtain ⟨fcwa, fdwa⟩ := HCE.out wa HA.out
           clear hBn))
      clear fcwa fdwa fcwb fdwb
      refine R6.wp_walk (C := fun _ _ W => Below wc.heap.size wc W) 253 (by kernel_rfl) (by kernel_rfl) rfl (Below.refl _ _).drew ?_
      simp only []
      repeat (first
        | (refine' R6.WalkR.det (fun _ => rfl) (fun D ρ W hK hC => ?_) ?_
           rotate_left
           · obtain ⟨f1, f2⟩ := HCE.out W (HC.out.trans (hC.mono HC.out.size))
             have q1 : ¬ Q ≤ P := by have := HPQ.out; omega
             have q2 : decide (Q ≤ P) = false := decide_eq_false q1
             have HC := Lib.hid hC
             clear hC hK
             go_simp
             with_reducible exact ⟨rfl, HC.out⟩
           simp only [Act.put, List.setIfInBounds_toArray, List.set_cons_succ, List.set_cons_zero]))
      refine R6.WalkR.nil (fun D ρ wd hD hC => ?_)
      have HBW := Lib.hid (HC.out.trans (hC.mono HC.out.size))
      clear hC hD
      have f9 : wd.cell? ⟨w.heap.size, 1, none⟩ = some (.slice AT ts.length ct) := cell_of_row wd _ 1 _ _ _ (HBX.out wd HBW.out).1
      have h2 : ¬ ts.length < 2 := by have := HI0.out; omega
      have h2' : ¬ (ts.length : Int) < 2 := by omega
      have hp0 : 0 < ts.length := by omega
      have hkx : one.toNat % ts.length < ts.length := Nat.mod_lt _ hp0
      have hky : two.toNat % ts.length < ts.length := Nat.mod_lt _ hp0
      have tm1 : one.tmod (ts.length : Int) = ((one.toNat % ts.length : Nat) : Int) := tmod_nat HR.out.1.1 _
      have tm2 : two.tmod (ts.length : Int) = ((two.toNat % ts.length : Nat) : Int) := tmod_nat HR.out.2.1 _
      generalize one.toNat % ts.length = kx at hkx tm1
      generalize two.toNat % ts.length = ky at hky tm2
      obtain ⟨X, hX⟩ : ∃ X, ts[kx].id = X := ⟨_, rfl⟩
      obtain ⟨Y, hY⟩ : ∃ Y, ts[ky].id = Y := ⟨_, rfl⟩
      obtain ⟨s, hs⟩ : ∃ s, (!truth gs vary ps [ts[kx]]) = s := ⟨_, rfl⟩
      have hx1 : ClsAt w4 w.heap.size (w.heap.size + 1) [X] s := by
        have h := HON.out kx hkx
        rw [hX, hs] at h
        exact h
      have hs0 : s = false := by rw [← hs, HF.out.2.1 _ (List.getElem_mem hkx)]; rfl
      have hcase : (¬ X < Y) ∨ (X < Y ∧ ClsAt w4 w.heap.size (w.heap.size + 1) [X, Y] false) ∨ (X < Y ∧ ClsAt w4 w.heap.size (w.heap.size + 1) [X, Y] true ∧ P < X) ∨ (X < Y ∧ ClsAt w4 w.heap.size (w.heap.size + 1) [X, Y] true ∧ ¬ P < X ∧ (P = X ∧ Q ≤ Y)) := by
        by_cases hxy : X < Y
        · have hkk : kx < ky := (id_lt (gChk_upT HZG.out.2.2.2.2) hky hkx).1 (by rw [hX, hY]; exact hxy)
          have h := HTW.out kx ky hky hkk
          cases hb : truth gs vary ps [ts[kx], ts[ky]]
          · rw [hX, hY, hb] at h
            rcases HF.out.2.2 kx ky hky hkk hb with h1 | ⟨h1, h2⟩
            · have h3 := (id_lt (gChk_upT HZG.out.2.2.2.2) hkx (Nat.lt_trans HI0.out.2 HI0.out.1)).2 h1
              rw [HP.out.1, hX] at h3
              exact .inr (.inr (.inl ⟨hxy, h, h3⟩))
            · subst h1
              have h3 := id_le (gChk_upT HZG.out.2.2.2.2) hky HI0.out.1 h2
              have h4 := HP.out.1
              rw [hX] at h4
              rw [HP.out.2, hY] at h3
              exact .inr (.inr (.inr ⟨hxy, h, by omega, h4.symm, h3⟩))
          · rw [hX, hY, hb] at h
            exact .inr (.inl ⟨hxy, h⟩)
        · exact .inl hxy
      subst hs0
      have HX1 := Lib.hid hx1
      have HCASE := Lib.hid hcase
      clear hx1 hcase hs
      obtain ⟨cT, oT, hA, hcB, hcx⟩ := vals_elem tcl_len HZG.out.1.t (by decide) hkx
      obtain ⟨cT', oT', hA', hcB', hcy⟩ := vals_elem tcl_len HZG.out.1.t (by decide) hky
      subst hA
      simp only [Option.some.injEq, Addr.mk.injEq, and_true] at hA'
      obtain ⟨rfl, rfl⟩ := hA'
      have hcx0 := hcx 0 (.int .i64 X) (by rw [← hX]; rfl)
      have hcy0 := hcy 0 (.int .i64 Y) (by rw [← hY]; rfl)
      rw [Nat.add_zero] at hcx0 hcy0
      have hid := fun (W : World) (hW : Below w.heap.size w W) => And.intro ((hW.cell (p := ⟨cT, oT + kx * 5, none⟩) (by have := HZG.out.2.2.1; simp; omega)).trans hcx0) ((hW.cell (p := ⟨cT, oT + ky * 5, none⟩) (by have := HZG.out.2.2.1; simp; omega)).trans hcy0)
      have HID := Lib.hid hid
      have HKX := Lib.hid (And.intro hkx (And.intro hky (And.intro tm1 (And.intro tm2 hp0))))
      have HWI := Lib.hid (p := (IntKind.i64.wrap one = one ∧ IntKind.i64.wrap two = two)) ⟨IntWalk.i64_in _ (by have := HR.out; omega), IntWalk.i64_in _ (by have := HR.out; omega)⟩
      clear hid hcx hcy hcx0 hcy0 hcB hcB' tm1 tm2 hp0 hkx hky hX hY h2
      go_wp2
      clear f9
      clear h2'
      refine R6.wp_walk (C := fun _ _ W => Below wd.heap.size wd W) 253 (by kernel_rfl) (by kernel_rfl) rfl (Below.refl _ _).drew ?_
      simp only []
      repeat (first
        | (refine' R6.WalkR.det (fun _ => rfl) (fun D ρ W hK hC => ?_) ?_
           rotate_left
           · have f1 : W.cell? ⟨w.heap.size, 1, none⟩ = some (.slice (some ⟨cT, oT, none⟩) ts.length ct) := cell_of_row W _ 1 _ _ _ (HBX.out W (HBW.out.trans (hC.mono HBW.out.size))).1
             obtain ⟨f2, f3⟩ := HID.out W (H4.out.1.trans ((HBW.out.trans (hC.mono HBW.out.size)).mono H4.out.1.size))
             obtain ⟨q1, q2, q3, q4, q5⟩ := HKX.out
             obtain ⟨i1, i2⟩ := HWI.out
             have q6 : ((ts.length : Int) == 0) = false := beq_eq_false_iff_ne.2 (by omega)
             have q7 : ¬ (ts.length : Int) = 0 := by omega
             have q7' : ¬ ts.length = 0 := by omega
             have q8 : (kx : Int) < ts.length := by omega
             have q9 : (ky : Int) < ts.length := by omega
             have HC0 := Lib.hid hC
             clear hC hK
             go_simp
             with_reducible exact ⟨rfl, HC0.out⟩
           simp only [Act.put, List.setIfInBounds_toArray, List.set_cons_succ, List.set_cons_zero]))
      refine R6.WalkR.nil (fun D ρ W10 hD hC => ?_)
      have H10 := Lib.hid (HBW.out.trans (hC.mono HBW.out.size))
      clear hC hD
      rcases HCASE.out with hxy | ⟨hxy, hx2⟩ | ⟨hxy, hx2, hpx⟩ | ⟨hxy, hx2, hpx, hpe, hqy⟩
      · have q1 : Y ≤ X := by omega
        have q2 : decide (Y ≤ X) = true := decide_eq_true q1
        clear hxy
        go_wp2_with (first
          | (go_at_call 36
             (with_reducible show Calls _ _ #[Value.slice _ 1 _, _, _] (World.alloc W10 _) _)
             refine (HX1.out (W10.alloc _) (H10.out.trans ((grow1 W10 _).mono H10.out.size)) _ _ (ints_lit [X] (alloc_at0 W10 _) rfl)).mono ?_
             rintro e w11 ⟨rfl, hBn⟩
             have H11 := Lib.hid ((H10.out.trans ((grow1 W10 _).mono H10.out.size)).trans (hBn.mono (H10.out.trans ((grow1 W10 _).mono H10.out.size)).size))
             obtain ⟨fcw11, fdw11⟩ := HCE.out w11 H11.out
             clear hBn))
        go_ret
        exact ⟨rfl, H4.out.1.trans (H11.out.mono H4.out.1.size)⟩
      · have q1 : ¬ Y ≤ X := by omega
        have q2 : decide (Y ≤ X) = false := decide_eq_false q1
        clear hxy
        have HX2 := Lib.hid hx2
        clear hx2
        go_wp2_with (first
          | (go_at_call 36
             (with_reducible show Calls _ _ #[Value.slice _ 2 _, _, _] (World.alloc w11 _) _)
             refine (HX2.out (w11.alloc _) (H11.out.trans ((grow1 w11 _).mono H11.out.size)) _ _ (ints_lit [X, Y] (alloc_at0 w11 _) rfl)).mono ?_
             rintro e w12 ⟨rfl, hBn⟩
             have H12 := Lib.hid ((H11.out.trans ((grow1 w11 _).mono H11.out.size)).trans (hBn.mono (H11.out.trans ((grow1 w11 _).mono H11.out.size)).size))
             obtain ⟨fcw12, fdw12⟩ := HCE.out w12 H12.out
             clear hBn)
          | (go_at_call 36
             (with_reducible show Calls _ _ #[Value.slice _ 1 _, _, _] (World.alloc W10 _) _)
             refine (HX1.out (W10.alloc _) (H10.out.trans ((grow1 W10 _).mono H10.out.size)) _ _ (ints_lit [X] (alloc_at0 W10 _) rfl)).mono ?_
             rintro e w11 ⟨rfl, hBn⟩
             have H11 := Lib.hid ((H10.out.trans ((grow1 W10 _).mono H10.out.size)).trans (hBn.mono (H10.out.trans ((grow1 W10 _).mono H10.out.size)).size))
             obtain ⟨fcw11, fdw11⟩ := HCE.out w11 H11.out
             clear hBn))
        go_ret
        exact ⟨rfl, H4.out.1.trans (H12.out.mono H4.out.1.size)⟩
      · have q1 : ¬ Y ≤ X := by omega
        have q2 : decide (Y ≤ X) = false := decide_eq_false q1
        clear hxy
        have HX2 := Lib.hid hx2
        have q3 : decide (P < X) = true := decide_eq_true hpx
        clear hx2
        go_wp2_with (first
          | (go_at_call 36
             (with_reducible show Calls _ _ #[Value.slice _ 2 _, _, _] (World.alloc w11 _) _)
             refine (HX2.out (w11.alloc _) (H11.out.trans ((grow1 w11 _).mono H11.out.size)) _ _ (ints_lit [X, Y] (alloc_at0 w11 _) rfl)).mono ?_
             rintro e w12 ⟨rfl, hBn⟩
             have H12 := Lib.hid ((H11.out.trans ((grow1 w11 _).mono H11.out.size)).trans (hBn.mono (H11.out.trans ((grow1 w11 _).mono H11.out.size)).size))
             obtain ⟨fcw12, fdw12⟩ := HCE.out w12 H12.out
             clear hBn)
          | (go_at_call 36
             (with_reducible show Calls _ _ #[Value.slice _ 1 _, _, _] (World.alloc W10 _) _)
             refine (HX1.out (W10.alloc _) (H10.out.trans ((grow1 W10 _).mono H10.out.size)) _ _ (ints_lit [X] (alloc_at0 W10 _) rfl)).mono ?_
             rintro e w11 ⟨rfl, hBn⟩
             have H11 := Lib.hid ((H10.out.trans ((grow1 W10 _).mono H10.out.size)).trans (hBn.mono (H10.out.trans ((grow1 W10 _).mono H10.out.size)).size))
             obtain ⟨fcw11, fdw11⟩ := HCE.out w11 H11.out
             clear hBn))
        go_ret
        exact ⟨rfl, H4.out.1.trans (H12.out.mono H4.out.1.size)⟩
      · have q1 : ¬ Y ≤ X := by omega
        have q2 : decide (Y ≤ X) = false := decide_eq_false q1
        clear hxy
        have HX2 := Lib.hid hx2
        have q3 : decide (P < X) = false := decide_eq_false (by omega)
        have q4 : (P == X) = true := by simpa using hpe
        have q5 : decide (Q ≤ Y) = true := decide_eq_true hqy
        have HPE2 := Lib.hid hpe
        clear hx2 hpe
        go_wp2_with (first
          | (go_at_call 36
             (with_reducible show Calls _ _ #[Value.slice _ 2 _, _, _] (World.alloc w11 _) _)
             refine (HX2.out (w11.alloc _) (H11.out.trans ((grow1 w11 _).mono H11.out.size)) _ _ (ints_lit [X, Y] (alloc_at0 w11 _) rfl)).mono ?_
             rintro e w12 ⟨rfl, hBn⟩
             have H12 := Lib.hid ((H11.out.trans ((grow1 w11 _).mono H11.out.size)).trans (hBn.mono (H11.out.trans ((grow1 w11 _).mono H11.out.size)).size))
             obtain ⟨fcw12, fdw12⟩ := HCE.out w12 H12.out
             clear hBn)
          | (go_at_call 36
             (with_reducible show Calls _ _ #[Value.slice _ 1 _, _, _] (World.alloc W10 _) _)
             refine (HX1.out (W10.alloc _) (H10.out.trans ((grow1 W10 _).mono H10.out.size)) _ _ (ints_lit [X] (alloc_at0 W10 _) rfl)).mono ?_
             rintro e w11 ⟨rfl, hBn⟩
             have H11 := Lib.hid ((H10.out.trans ((grow1 W10 _).mono H10.out.size)).trans (hBn.mono (H10.out.trans ((grow1 W10 _).mono H10.out.size)).size))
             obtain ⟨fcw11, fdw11⟩ := HCE.out w11 H11.out
             clear hBn))
        go_ret
        exact ⟨rfl, H4.out.1.trans (H12.out.mono H4.out.1.size)⟩
    | succ gi =>
      have hi : i < ps.length := by omega
      have hl16 : ps.length ≤ 16 := HZG.out.2.2.2.1.1
      have hiz : (i : Int) < ps.length := by omega
      obtain ⟨⟨cP, oP, hA, hcB, hc⟩, hsg, hss⟩ := HPE.out i hi
      have hgr := fun (W : World) (hW : Below w.heap.size w W) => HGR.out i hi W hW
      have hc' : ∀ j v, (pcl ps[i])[j]? = some v → wr.cell? ⟨cP, oP + i * 12 + j, none⟩ = some v := fun j v hv => ((H4.out.1.trans (hI.out.mono H4.out.1.size)).cell (p := ⟨cP, oP + i * 12 + j, none⟩) (by have := HZG.out.2.2.1; simp; omega)).trans (hc j v hv)
      obtain ⟨z, h, hzh, hzz⟩ : ∃ (z : Int × Int) (h : Int), sStr gs vary ps ts ps[i].id ((0 : Nat) : Int) = (z, h) ∧ (gOf gs ps[i] = 0 ∨ (¬ gOf gs ps[i] = 0 ∧ h = 52)) := by
        rw [hss]
        by_cases h0 : gOf gs ps[i] = 0
        · exact ⟨_, _, by rw [if_pos h0], .inl h0⟩
        · exact ⟨_, _, by rw [if_neg h0]; rfl, .inr ⟨h0, rfl⟩⟩
      rw [hsg, hzh] at hgr
      obtain ⟨Z, hZ⟩ : ∃ Z : Int, ((gOf gs ps[i] : Nat) : Int) = Z := ⟨_, rfl⟩
      have hzz : Z = 0 ∨ (¬ Z = 0 ∧ h = 52) := by
        rcases hzz with e | ⟨e, e2⟩
        · exact .inl (by rw [← hZ, e]; rfl)
        · exact .inr ⟨by rw [← hZ]; omega, e2⟩
      rw [hZ] at hgr
      clear hsg hss hzh hZ
      generalize ps[i] = y at hc' hgr
      subst hA
      have HG2 := Lib.hid hgr
      have HCC2 := Lib.hid hc'
      clear hgr hc hc'
      rcases hzz with rfl | ⟨hz0, rfl⟩
      · go_wp2_with (first
          | (show wpList _ _ _ (Oper.mk (some 59) _ _ _ _ _ :: _) _ _
             refine wpList_load_at 56 (.tmp 58) rfl rfl rfl (pcl y) HCC2.out rowPole ?_)
          | (show wpList _ _ _ (Oper.mk none (Op.store _ (Operand.tmp 13) (Operand.tmp 59)) _ _ _ _ :: _) _ _
             refine wpList_store_blk 56 (.tmp 13) (.tmp 59) (cs := pcl y) rfl rfl rfl rfl rfl (alloc_at0 wr _) (Nat.le_of_ble_eq_true rfl) (fun v hv => pcl_one [y] v (by simpa using hv)) rowPole ?_
             intro w5 hP hM
             rw [splice_whole (by rfl)] at hM
             have hb := hI.out.trans (((grow1 wr _).trans (hP.below (Nat.le_refl _))).mono hI.out.size)
             have fk5 : w5.cell? ⟨wr.heap.size, 0, none⟩ = some (.int .i64 y.id) := cell_of_row w5 _ 0 _ _ _ hM
             have H5 := Lib.hid (And.intro hb hM)
             clear hP hM hb)
          | (show wpList _ _ _ (Oper.mk (some 61) _ _ _ _ _ :: _) _ _
             refine wpList_load_blk 25 (.tmp 4) rfl rfl rfl (HBX.out w5 H5.out.1).1 [.slice (some ⟨cP, oP, none⟩) ps.length cp, .slice AT ts.length ct] at0 rowSheetP ?_)
          | (show wpList _ _ _ (Oper.mk (some 62) _ _ _ _ _ :: _) _ _
             refine wpList_load_blk 28 (.tmp 5) rfl rfl rfl (HBX.out w5 H5.out.1).2 [.slice AG gs.length cg, .int .i64 vary] at0 rowGradingP ?_)
          | (go_at_call 25
             (with_reducible show Calls _ _ _ w5 _)
             refine (HG2.out w5 (H4.out.1.trans (H5.out.1.mono H4.out.1.size))).1.mono ?_
             rintro e w6 ⟨rfl, hB6⟩
             have hM6 := (hB6.block _ (lt_of_heap H5.out.2)).trans H5.out.2
             have fk6 : w6.cell? ⟨wr.heap.size, 0, none⟩ = some (.int .i64 y.id) := cell_of_row w6 _ 0 _ _ _ hM6
             have H6 := Lib.hid (H5.out.1.trans (hB6.mono H5.out.1.size))
             clear hB6 hM6)
          | (show wpList _ _ _ (Oper.mk (some 69) _ _ _ _ _ :: _) _ _
             refine wpList_load_blk 25 (.tmp 4) rfl rfl rfl (HBX.out w6 H6.out).1 [.slice (some ⟨cP, oP, none⟩) ps.length cp, .slice AT ts.length ct] at0 rowSheetP ?_)
          | (show wpList _ _ _ (Oper.mk (some 70) _ _ _ _ _ :: _) _ _
             refine wpList_load_blk 28 (.tmp 5) rfl rfl rfl (HBX.out w6 H6.out).2 [.slice AG gs.length cg, .int .i64 vary] at0 rowGradingP ?_)
          | (go_at_call 26
             (with_reducible show Calls _ _ _ w6 _)
             refine (HG2.out w6 (H4.out.1.trans (H6.out.mono H4.out.1.size))).2.mono ?_
             rintro e w7 ⟨rfl, hB7⟩
             have H7 := Lib.hid (H6.out.trans (hB7.mono H6.out.size))
             clear hB7)
          | (show wpList _ _ _ (Oper.mk none (Op.store _ (Operand.tmp 16) (Operand.tmp 74)) _ _ _ _ :: _) _ _
             have hm : (w7.alloc (.cells #[.int .i64 0, .int .i64 0] 50)).heap[w7.heap.size]? = some (.cells [Value.int .i64 0, .int .i64 0].toArray 50 (0, 0)) := alloc_at0 _ _
             refine wpList_store_blk 50 (.tmp 16) (.tmp 74) rfl rfl rfl rfl (cs := sp2 z) rfl hm (Nat.le_of_ble_eq_true rfl) (sp2_one _) rowSpan5 ?_
             intro w8 hP hM
             have hb : Below w7.heap.size w7 w8 := (grow1 w7 _).trans (hP.below (Nat.le_refl _))
             have H8 := Lib.hid (H7.out.trans (hb.mono H7.out.size))
             clear hP hM hm hb))
        go_roundg gi
        case measure => omega
        case rel => exact ⟨i + 1, by omega, by go_num, H8.out⟩
      · have hz1 : (Z != 0) = true := by simpa using hz0
        have hz2 : (Z == 0) = false := by simpa using hz0
        go_wp2_with (first
          | (show wpList _ _ _ (Oper.mk (some 59) _ _ _ _ _ :: _) _ _
             refine wpList_load_at 56 (.tmp 58) rfl rfl rfl (pcl y) HCC2.out rowPole ?_)
          | (show wpList _ _ _ (Oper.mk none (Op.store _ (Operand.tmp 13) (Operand.tmp 59)) _ _ _ _ :: _) _ _
             refine wpList_store_blk 56 (.tmp 13) (.tmp 59) (cs := pcl y) rfl rfl rfl rfl rfl (alloc_at0 wr _) (Nat.le_of_ble_eq_true rfl) (fun v hv => pcl_one [y] v (by simpa using hv)) rowPole ?_
             intro w5 hP hM
             rw [splice_whole (by rfl)] at hM
             have hb := hI.out.trans (((grow1 wr _).trans (hP.below (Nat.le_refl _))).mono hI.out.size)
             have fk5 : w5.cell? ⟨wr.heap.size, 0, none⟩ = some (.int .i64 y.id) := cell_of_row w5 _ 0 _ _ _ hM
             have H5 := Lib.hid (And.intro hb hM)
             clear hP hM hb)
          | (show wpList _ _ _ (Oper.mk (some 61) _ _ _ _ _ :: _) _ _
             refine wpList_load_blk 25 (.tmp 4) rfl rfl rfl (HBX.out w5 H5.out.1).1 [.slice (some ⟨cP, oP, none⟩) ps.length cp, .slice AT ts.length ct] at0 rowSheetP ?_)
          | (show wpList _ _ _ (Oper.mk (some 62) _ _ _ _ _ :: _) _ _
             refine wpList_load_blk 28 (.tmp 5) rfl rfl rfl (HBX.out w5 H5.out.1).2 [.slice AG gs.length cg, .int .i64 vary] at0 rowGradingP ?_)
          | (go_at_call 25
             (with_reducible show Calls _ _ _ w5 _)
             refine (HG2.out w5 (H4.out.1.trans (H5.out.1.mono H4.out.1.size))).1.mono ?_
             rintro e w6 ⟨rfl, hB6⟩
             have hM6 := (hB6.block _ (lt_of_heap H5.out.2)).trans H5.out.2
             have fk6 : w6.cell? ⟨wr.heap.size, 0, none⟩ = some (.int .i64 y.id) := cell_of_row w6 _ 0 _ _ _ hM6
             have H6 := Lib.hid (H5.out.1.trans (hB6.mono H5.out.1.size))
             clear hB6 hM6)
          | (show wpList _ _ _ (Oper.mk (some 69) _ _ _ _ _ :: _) _ _
             refine wpList_load_blk 25 (.tmp 4) rfl rfl rfl (HBX.out w6 H6.out).1 [.slice (some ⟨cP, oP, none⟩) ps.length cp, .slice AT ts.length ct] at0 rowSheetP ?_)
          | (show wpList _ _ _ (Oper.mk (some 70) _ _ _ _ _ :: _) _ _
             refine wpList_load_blk 28 (.tmp 5) rfl rfl rfl (HBX.out w6 H6.out).2 [.slice AG gs.length cg, .int .i64 vary] at0 rowGradingP ?_)
          | (go_at_call 26
             (with_reducible show Calls _ _ _ w6 _)
             refine (HG2.out w6 (H4.out.1.trans (H6.out.mono H4.out.1.size))).2.mono ?_
             rintro e w7 ⟨rfl, hB7⟩
             have H7 := Lib.hid (H6.out.trans (hB7.mono H6.out.size))
             clear hB7)
          | (show wpList _ _ _ (Oper.mk none (Op.store _ (Operand.tmp 16) (Operand.tmp 74)) _ _ _ _ :: _) _ _
             have hm : (w7.alloc (.cells #[.int .i64 0, .int .i64 0] 50)).heap[w7.heap.size]? = some (.cells [Value.int .i64 0, .int .i64 0].toArray 50 (0, 0)) := alloc_at0 _ _
             refine wpList_store_blk 50 (.tmp 16) (.tmp 74) rfl rfl rfl rfl (cs := sp2 z) rfl hm (Nat.le_of_ble_eq_true rfl) (sp2_one _) rowSpan5 ?_
             intro w8 hP hM
             have hb : Below w7.heap.size w7 w8 := (grow1 w7 _).trans (hP.below (Nat.le_refl _))
             have H8 := Lib.hid (H7.out.trans (hb.mono H7.out.size))
             clear hP hM hm hb))
        go_roundg gi
        case measure => omega
        case rel => exact ⟨i + 1, by omega, by go_num, H8.out⟩

end Go.Proofs.YtddpebnmjfmgdaaGreat
