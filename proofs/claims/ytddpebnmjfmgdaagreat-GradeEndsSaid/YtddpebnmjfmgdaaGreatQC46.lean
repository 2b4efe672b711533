/-
  The law GradeEnds.
-/
import Derived.BigGuardPart
import Derived.Lib.MinMax
import Derived.Test.YtddpebnmjfmgdaaGreatQC45
import Derived.Test.YtddpebnmjfmgdaaGreatQC30
import Derived.Test.YtddpebnmjfmgdaaGreatQC40
set_option linter.all false
namespace Go.Proofs.YtddpebnmjfmgdaaGreat
open Go.RowKit Go.BigFrame
open R6 (done done_ne done_me upd_ne upd_me)

attribute [local go_sem] gives

set_option maxRecDepth 100000 in
set_option maxHeartbeats 32000000 in
theorem gradeEnds_law (ps : List Pol) (ts : List Ts) (gs : List Gd) (vary wh se f : Int) (AP : Option Addr) (cp : Nat) (AT : Option Addr) (ct : Nat) (AG : Option Addr) (cg : Nat) (B : Nat) (w : World) (hB : B ≤ w.heap.size)
    (hz1 : Vals w B AP (ps.flatMap pcl)) (hz2 : Vals w B AT (ts.flatMap tcl)) (hz3 : Vals w B AG (gs.flatMap gcl)) (r2 : 0 ≤ wh ∧ wh ≤ 255) (r3 : 0 ≤ se ∧ se ≤ 255) :
    Calls Tryz.prog 6 #[.agg #[.slice AP ps.length cp, .slice AT ts.length ct], .agg #[.slice AG gs.length cg, .int .i64 vary], .int .u8 wh, .int .u8 se, .int .i64 f] w fun e w' => e = .returned (.bool true) ∧ Below w.heap.size w w' := by
  have hrd := fun (W : World) (hW : Below w.heap.size w W) => grReady_any ps ts gs vary AP cp AT ct AG cg B W (Nat.le_trans hB hW.size) (hz1.below (hW.mono hB)) (hz2.below (hW.mono hB)) (hz3.below (hW.mono hB))
  obtain ⟨w1, hw1⟩ : ∃ w1, ((w.alloc (.cells #[.slice AP ps.length cp, .slice AT ts.length ct] 25)).alloc (.cells #[.slice AG gs.length cg, .int .i64 vary] 28)).alloc (.cells #[.int .i64 f] 3) = w1 := ⟨_, rfl⟩
  have hb1 : Below w.heap.size w w1 := by rw [← hw1]; exact (grow2 _ _ _).alloc (by simp; omega) _
  have m1 : w1.heap[w.heap.size]? = some (.cells [.slice AP ps.length cp, .slice AT ts.length ct].toArray 25 (0, 0)) := by rw [← hw1]; exact alloc3_at0 _ _ _ _
  have m2 : w1.heap[w.heap.size + 1]? = some (.cells [.slice AG gs.length cg, .int .i64 vary].toArray 28 (0, 0)) := by rw [← hw1]; exact alloc3_at1 _ _ _ _
  have m3 : w1.heap[w.heap.size + 1 + 1]? = some (.cells [Value.int .i64 f].toArray 3 (0, 0)) := by rw [← hw1]; exact alloc3_at2 _ _ _ _
  have H1 := Lib.hid hb1
  have hbx := fun (W : World) (hW : Below w1.heap.size w1 W) => And.intro ((hW.block _ (lt_of_heap m1)).trans m1) (And.intro ((hW.block _ (lt_of_heap m2)).trans m2) ((hW.block _ (lt_of_heap m3)).trans m3))
  have HBX := Lib.hid hbx
  have HR := Lib.hid (And.intro r2 r3)
  clear hb1 m1 m2 m3 r2 r3 hbx
  cases hrv : rdyS gs vary ps ts
  · rw [hrv] at hrd
    have HRD := Lib.hid hrd
    clear hrd hrv hz1 hz2 hz3
    go_enter Tryz.func6, Tryz.ntmps6
    go_wp2_with (first
      | (go_at_call 29
         refine (HRD.out w2 (H1.out.trans (H2.out.mono H1.out.size))).mono ?_
         rintro e w3 ⟨rfl, hB3⟩
         have H3 := Lib.hid (H2.out.trans (hB3.mono H2.out.size))
         have f3 : w3.cell? ⟨w.heap.size, 0, none⟩ = some (.slice AP ps.length cp) := cell_of_row w3 _ 0 _ _ _ (HBX.out w3 H3.out).1
         have f3t : w3.cell? ⟨w.heap.size, 1, none⟩ = some (.slice AT ts.length ct) := cell_of_row w3 _ 1 _ _ _ (HBX.out w3 H3.out).1
         have f3f : w3.cell? ⟨w.heap.size + 1 + 1, 0, none⟩ = some (.int .i64 f) := cell_of_row w3 _ 0 _ _ _ (HBX.out w3 H3.out).2.2
         clear hB3)
      | (show wpList _ _ _ (Oper.mk (some 27) _ _ _ _ _ :: _) _ _
         refine wpList_load_blkG 25 (.tmp 5) rfl rfl rfl (HBX.out w2 H2.out).1 [.slice AP ps.length cp, .slice AT ts.length ct] at0 rowSheetP ?_)
      | (show wpList _ _ _ (Oper.mk (some 28) _ _ _ _ _ :: _) _ _
         refine wpList_load_blkG 28 (.tmp 6) rfl rfl rfl (HBX.out w2 H2.out).2.1 [.slice AG gs.length cg, .int .i64 vary] at0 rowGradingP ?_)
      | (go_at_call 20
         refine (grAlive_any w1).mono ?_
         rintro e w2 ⟨rfl, hB2⟩
         have H2 := Lib.hid hB2
         clear hB2))
    go_ret
    exact ⟨rfl, H1.out.trans (H3.out.mono H1.out.size)⟩
  rw [hrv] at hrd
  have HRD := Lib.hid hrd
  by_cases hp0 : ps.length = 0
  · have hpe : ((ps.length : Int) == 0) = true := by rw [hp0]; rfl
    clear hrd hrv hz1 hz2 hz3 hp0
    go_enter Tryz.func6, Tryz.ntmps6
    go_wp2_with (first
      | (go_at_call 29
         refine (HRD.out w2 (H1.out.trans (H2.out.mono H1.out.size))).mono ?_
         rintro e w3 ⟨rfl, hB3⟩
         have H3 := Lib.hid (H2.out.trans (hB3.mono H2.out.size))
         have f3 : w3.cell? ⟨w.heap.size, 0, none⟩ = some (.slice AP ps.length cp) := cell_of_row w3 _ 0 _ _ _ (HBX.out w3 H3.out).1
         have f3t : w3.cell? ⟨w.heap.size, 1, none⟩ = some (.slice AT ts.length ct) := cell_of_row w3 _ 1 _ _ _ (HBX.out w3 H3.out).1
         have f3f : w3.cell? ⟨w.heap.size + 1 + 1, 0, none⟩ = some (.int .i64 f) := cell_of_row w3 _ 0 _ _ _ (HBX.out w3 H3.out).2.2
         clear hB3)
      | (show wpList _ _ _ (Oper.mk (some 27) _ _ _ _ _ :: _) _ _
         refine wpList_load_blkG 25 (.tmp 5) rfl rfl rfl (HBX.out w2 H2.out).1 [.slice AP ps.length cp, .slice AT ts.length ct] at0 rowSheetP ?_)
      | (show wpList _ _ _ (Oper.mk (some 28) _ _ _ _ _ :: _) _ _
         refine wpList_load_blkG 28 (.tmp 6) rfl rfl rfl (HBX.out w2 H2.out).2.1 [.slice AG gs.length cg, .int .i64 vary] at0 rowGradingP ?_)
      | (go_at_call 20
         refine (grAlive_any w1).mono ?_
         rintro e w2 ⟨rfl, hB2⟩
         have H2 := Lib.hid hB2
         clear hB2))
    go_ret
    exact ⟨rfl, H1.out.trans (H3.out.mono H1.out.size)⟩
  have hpe : ((ps.length : Int) == 0) = false := beq_eq_false_iff_ne.2 (by omega)
  by_cases hl0 : ts.length < 20
  rotate_left
  · have h20 : 20 ≤ ts.length := by omega
    have h21 : (20 : Int) ≤ ts.length := by omega
    clear hrd hrv hz1 hz2 hz3 hp0 hl0
    go_enter Tryz.func6, Tryz.ntmps6
    go_wp2_with (first
      | (go_at_call 29
         refine (HRD.out w2 (H1.out.trans (H2.out.mono H1.out.size))).mono ?_
         rintro e w3 ⟨rfl, hB3⟩
         have H3 := Lib.hid (H2.out.trans (hB3.mono H2.out.size))
         have f3 : w3.cell? ⟨w.heap.size, 0, none⟩ = some (.slice AP ps.length cp) := cell_of_row w3 _ 0 _ _ _ (HBX.out w3 H3.out).1
         have f3t : w3.cell? ⟨w.heap.size, 1, none⟩ = some (.slice AT ts.length ct) := cell_of_row w3 _ 1 _ _ _ (HBX.out w3 H3.out).1
         have f3f : w3.cell? ⟨w.heap.size + 1 + 1, 0, none⟩ = some (.int .i64 f) := cell_of_row w3 _ 0 _ _ _ (HBX.out w3 H3.out).2.2
         clear hB3)
      | (show wpList _ _ _ (Oper.mk (some 27) _ _ _ _ _ :: _) _ _
         refine wpList_load_blkG 25 (.tmp 5) rfl rfl rfl (HBX.out w2 H2.out).1 [.slice AP ps.length cp, .slice AT ts.length ct] at0 rowSheetP ?_)
      | (show wpList _ _ _ (Oper.mk (some 28) _ _ _ _ _ :: _) _ _
         refine wpList_load_blkG 28 (.tmp 6) rfl rfl rfl (HBX.out w2 H2.out).2.1 [.slice AG gs.length cg, .int .i64 vary] at0 rowGradingP ?_)
      | (go_at_call 20
         refine (grAlive_any w1).mono ?_
         rintro e w2 ⟨rfl, hB2⟩
         have H2 := Lib.hid hB2
         clear hB2))
    go_ret
    exact ⟨rfl, H1.out.trans (H3.out.mono H1.out.size)⟩
  have h20 : decide (20 ≤ ts.length) = false := decide_eq_false (by omega)
  have h21 : decide ((20 : Int) ≤ (ts.length : Int)) = false := decide_eq_false (by omega)
  by_cases hf1 : f < 1
  · clear hrd hrv hz1 hz2 hz3 hp0 hl0
    go_enter Tryz.func6, Tryz.ntmps6
    go_wp2_with (first
      | (go_at_call 29
         refine (HRD.out w2 (H1.out.trans (H2.out.mono H1.out.size))).mono ?_
         rintro e w3 ⟨rfl, hB3⟩
         have H3 := Lib.hid (H2.out.trans (hB3.mono H2.out.size))
         have f3 : w3.cell? ⟨w.heap.size, 0, none⟩ = some (.slice AP ps.length cp) := cell_of_row w3 _ 0 _ _ _ (HBX.out w3 H3.out).1
         have f3t : w3.cell? ⟨w.heap.size, 1, none⟩ = some (.slice AT ts.length ct) := cell_of_row w3 _ 1 _ _ _ (HBX.out w3 H3.out).1
         have f3f : w3.cell? ⟨w.heap.size + 1 + 1, 0, none⟩ = some (.int .i64 f) := cell_of_row w3 _ 0 _ _ _ (HBX.out w3 H3.out).2.2
         clear hB3)
      | (show wpList _ _ _ (Oper.mk (some 27) _ _ _ _ _ :: _) _ _
         refine wpList_load_blkG 25 (.tmp 5) rfl rfl rfl (HBX.out w2 H2.out).1 [.slice AP ps.length cp, .slice AT ts.length ct] at0 rowSheetP ?_)
      | (show wpList _ _ _ (Oper.mk (some 28) _ _ _ _ _ :: _) _ _
         refine wpList_load_blkG 28 (.tmp 6) rfl rfl rfl (HBX.out w2 H2.out).2.1 [.slice AG gs.length cg, .int .i64 vary] at0 rowGradingP ?_)
      | (go_at_call 20
         refine (grAlive_any w1).mono ?_
         rintro e w2 ⟨rfl, hB2⟩
         have H2 := Lib.hid hB2
         clear hB2))
    go_ret
    exact ⟨rfl, H1.out.trans (H3.out.mono H1.out.size)⟩
  have hf1d : decide (f < 1) = false := decide_eq_false hf1
  by_cases hf2 : 1000000 < f
  · clear hrd hrv hz1 hz2 hz3 hp0 hl0
    go_enter Tryz.func6, Tryz.ntmps6
    go_wp2_with (first
      | (go_at_call 29
         refine (HRD.out w2 (H1.out.trans (H2.out.mono H1.out.size))).mono ?_
         rintro e w3 ⟨rfl, hB3⟩
         have H3 := Lib.hid (H2.out.trans (hB3.mono H2.out.size))
         have f3 : w3.cell? ⟨w.heap.size, 0, none⟩ = some (.slice AP ps.length cp) := cell_of_row w3 _ 0 _ _ _ (HBX.out w3 H3.out).1
         have f3t : w3.cell? ⟨w.heap.size, 1, none⟩ = some (.slice AT ts.length ct) := cell_of_row w3 _ 1 _ _ _ (HBX.out w3 H3.out).1
         have f3f : w3.cell? ⟨w.heap.size + 1 + 1, 0, none⟩ = some (.int .i64 f) := cell_of_row w3 _ 0 _ _ _ (HBX.out w3 H3.out).2.2
         clear hB3)
      | (show wpList _ _ _ (Oper.mk (some 27) _ _ _ _ _ :: _) _ _
         refine wpList_load_blkG 25 (.tmp 5) rfl rfl rfl (HBX.out w2 H2.out).1 [.slice AP ps.length cp, .slice AT ts.length ct] at0 rowSheetP ?_)
      | (show wpList _ _ _ (Oper.mk (some 28) _ _ _ _ _ :: _) _ _
         refine wpList_load_blkG 28 (.tmp 6) rfl rfl rfl (HBX.out w2 H2.out).2.1 [.slice AG gs.length cg, .int .i64 vary] at0 rowGradingP ?_)
      | (go_at_call 20
         refine (grAlive_any w1).mono ?_
         rintro e w2 ⟨rfl, hB2⟩
         have H2 := Lib.hid hB2
         clear hB2))
    go_ret
    exact ⟨rfl, H1.out.trans (H3.out.mono H1.out.size)⟩
  have hf2d : decide (1000000 < f) = false := decide_eq_false hf2
  obtain ⟨hl, hck⟩ := rdyS_parts hrv
  have hkx : wh.toNat % ps.length < ps.length := Nat.mod_lt _ (by omega)
  have hk3 : se.toNat % 3 < 3 := Nat.mod_lt _ (by decide)
  have tm1 : wh.tmod (ps.length : Int) = ((wh.toNat % ps.length : Nat) : Int) := tmod_nat HR.out.1.1 _
  have tm2 : se.tmod 3 = ((se.toNat % 3 : Nat) : Int) := tmod_nat HR.out.2.1 3
  generalize wh.toNat % ps.length = kx at hkx tm1
  generalize se.toNat % 3 = k at hk3 tm2
  have hz : ShAt w B ps ts AP AT := ⟨hz1, hz2, by omega, by omega⟩
  have hg : GdAt w B gs AG := ⟨hz3, by omega⟩
  obtain ⟨cP, oP, hAP, hcPB, hcP⟩ := vals_elem pcl_len hz1 (by decide) hkx
  subst hAP
  have hmem : ps[kx] ∈ ps := List.getElem_mem hkx
  have hpy := fun (W : World) (hW : Below w1.heap.size w1 W) => ((H1.out.trans (hW.mono H1.out.size)).cell (p := ⟨cP, oP + kx * 12 + 0, none⟩) (Nat.lt_of_lt_of_le hcPB hB)).trans (hcP 0 (.int .i64 ps[kx].id) rfl)
  simp only [Nat.add_zero] at hpy
  have hst := fun (W : World) (hW : Below w.heap.size w W) => grStrength_any ps ts gs vary ps[kx].id (k : Int) (some ⟨cP, oP, none⟩) cp AT ct AG cg B W (Nat.le_trans hB hW.size) (hz.below (hW.mono hB)) (hg.below (hW.mono hB))
  have hvt := fun (j : Nat) (hj : j < ts.length) => vals_elem tcl_len hz2 (by decide) hj
  generalize ps[kx] = y at hmem hpy hst
  obtain ⟨pid, hpid⟩ : ∃ pid, y.id = pid := ⟨_, rfl⟩
  rw [hpid] at hpy hst
  have HPY := Lib.hid hpy
  have HTM := Lib.hid (And.intro tm1 tm2)
  have HKX := Lib.hid (And.intro hkx hp0)
  have HWI := Lib.hid (p := (IntKind.i64.wrap wh = wh ∧ IntKind.i64.wrap se = se)) ⟨IntWalk.i64_in _ (by have := HR.out; omega), IntWalk.i64_in _ (by have := HR.out; omega)⟩
  have hcases : (∃ ee, (ee = 8 ∨ ee = 52) ∧ sStr gs vary ps ts pid k = ((0, 0), ee)) ∨ (gOf gs y ≠ 0 ∧ truth gs vary ps ts = true ∧ ∃ b, sStr gs vary ps ts pid k = (b, 0) ∧ 0 ≤ b.1 ∧ b.1 ≤ b.2 ∧ b.2 ≤ 1000000) := by
    have h := sStr_at hck hmem hk3
    by_cases h0 : gOf gs y = 0
    · rw [if_pos h0, hpid] at h
      exact .inl ⟨8, .inl rfl, h⟩
    · rw [if_neg h0] at h
      cases ht : truth gs vary ps ts
      · rw [ht, if_neg (by decide), hpid] at h
        exact .inl ⟨52, .inr rfl, h⟩
      · have h1 := str_ok hck ht hmem h0 hk3
        rw [hpid] at h1
        exact .inr ⟨h0, rfl, h1⟩
  have HZ := Lib.hid (And.intro hz (And.intro hg (And.intro hB hl)))
  have HVT := Lib.hid hvt
  have HP := Lib.hid (And.intro hck (And.intro hmem (And.intro hk3 (And.intro hpid hl0))))
  clear hrd hrv hz1 hz2 hz3 hz hg hcP hcPB hpy tm1 tm2 hkx hk3 hp0 hl hck hmem hpid hvt hl0
  rcases hcases with ⟨ee, hee, hs⟩ | ⟨hy0, htr, b, hs, hb1, hb2, hb3⟩
  · rw [hs] at hst
    have HST := Lib.hid hst
    clear hst hs
    rcases hee with rfl | rfl
    · go_enter Tryz.func6, Tryz.ntmps6
      go_wp2_with (first
        | (go_at_call 29
           refine (HRD.out w2 (H1.out.trans (H2.out.mono H1.out.size))).mono ?_
           rintro e w3 ⟨rfl, hB3⟩
           have H3 := Lib.hid (H2.out.trans (hB3.mono H2.out.size))
           have f3 : w3.cell? ⟨w.heap.size, 0, none⟩ = some (.slice (some ⟨cP, oP, none⟩) ps.length cp) := cell_of_row w3 _ 0 _ _ _ (HBX.out w3 H3.out).1
           have f3t : w3.cell? ⟨w.heap.size, 1, none⟩ = some (.slice AT ts.length ct) := cell_of_row w3 _ 1 _ _ _ (HBX.out w3 H3.out).1
           have f3f : w3.cell? ⟨w.heap.size + 1 + 1, 0, none⟩ = some (.int .i64 f) := cell_of_row w3 _ 0 _ _ _ (HBX.out w3 H3.out).2.2
           clear hB3)
        | (show wpList _ _ _ (Oper.mk (some 27) _ _ _ _ _ :: _) _ _
           refine wpList_load_blkG 25 (.tmp 5) rfl rfl rfl (HBX.out w2 H2.out).1 [.slice (some ⟨cP, oP, none⟩) ps.length cp, .slice AT ts.length ct] at0 rowSheetP ?_)
        | (show wpList _ _ _ (Oper.mk (some 28) _ _ _ _ _ :: _) _ _
           refine wpList_load_blkG 28 (.tmp 6) rfl rfl rfl (HBX.out w2 H2.out).2.1 [.slice AG gs.length cg, .int .i64 vary] at0 rowGradingP ?_)
        | (go_at_call 20
           refine (grAlive_any w1).mono ?_
           rintro e w2 ⟨rfl, hB2⟩
           have H2 := Lib.hid hB2
           clear hB2))
      clear f3 f3t f3f hpe h20 h21 hf1 hf2 hf1d hf2d
      refine R6.wp_walk (C := Mk2 w3 3 [Value.int .i64 0] 14 16 12 [.int .i64 pid] 15 17 13 [.int .i64 (k : Int)]) 213 (by kernel_rfl) (by kernel_rfl) rfl (Mk2.start (fun _ => rfl)) ?_
      simp only []
      repeat (first
        | (refine' R6.WalkR.det (fun _ => rfl) (fun D ρ W hK hC => ?_) ?_
           rotate_left
           · have f1 : W.cell? ⟨w.heap.size, 0, none⟩ = some (.slice (some ⟨cP, oP, none⟩) ps.length cp) := cell_of_row W _ 0 _ _ _ (HBX.out W (H3.out.trans (hC.bel.mono H3.out.size))).1
             have f2 : W.cell? ⟨cP, oP + kx * 12, none⟩ = some (.int .i64 pid) := HPY.out W (H3.out.trans (hC.bel.mono H3.out.size))
             obtain ⟨q1, q2⟩ := HTM.out
             obtain ⟨⟨q4, q5⟩, q6, q7⟩ := HR.out
             have q8 : (kx : Int) < ps.length := by have := HKX.out.1; omega
             have q9 : ¬ ps.length = 0 := HKX.out.2
             have q10 : ((ps.length : Int) == 0) = false := beq_eq_false_iff_ne.2 (by omega)
             have q11 : ¬ (ps.length : Int) = 0 := by omega
             obtain ⟨i1, i2⟩ := HWI.out
             have HC := Lib.hid hC
             clear hC hK
             go_simp
             with_reducible exact ⟨rfl, HC.out.move (by decide)⟩
           simp only [Act.put, List.setIfInBounds_toArray, List.set_cons_succ, List.set_cons_zero]))
      refine' R6.WalkR.nd (fun _ => rfl) rfl (fun D ρ W hK hC => ?_) ?_
      · have HC := Lib.hid (And.intro hC (hK.post 16 (by decide +kernel)))
        clear hC hK
        go_simp
        exact HC.out.1.newA (by decide) HC.out.2 rfl
      simp only [Act.put, List.setIfInBounds_toArray, List.set_cons_succ, List.set_cons_zero]
      refine' R6.WalkR.nd (fun _ => rfl) rfl (fun D ρ W hK hC => ?_) ?_
      · have HC := Lib.hid (And.intro hC (hK.post 17 (by decide +kernel)))
        clear hC hK
        go_simp
        exact (HC.out.1.swap.newA (by decide) HC.out.2 rfl).swap
      simp only [Act.put, List.setIfInBounds_toArray, List.set_cons_succ, List.set_cons_zero]
      refine' R6.WalkR.det (c := undef) (fun _ => rfl) (fun D ρ W hK hC => ?_) ?_
      · have h0 := hK.pre 14 (by decide +kernel)
        obtain ⟨b, hb0, hv, hm⟩ := hC.a h0
        rw [hK.me, if_neg (by decide)] at hm
        refine gives_store_val 3 (.tmp 12) (.tmp 66) rfl hv (v := .int .i64 pid) rfl rfl rfl (L := [Value.int .i64 0]) hm (Nat.le_of_ble_eq_true rfl) infoInt6 ?_
        intro W' hP hM
        exact ⟨rfl, hC.putA (by decide) h0 hv hb0 hP hM⟩
      simp only [Act.put, List.setIfInBounds_toArray, List.set_cons_succ, List.set_cons_zero]
      refine' R6.WalkR.det (c := undef) (fun _ => rfl) (fun D ρ W hK hC => ?_) ?_
      · have h0 := hK.pre 15 (by decide +kernel)
        obtain ⟨b, hb0, hv, hm⟩ := hC.b h0
        rw [hK.me, if_neg (by decide)] at hm
        refine gives_store_val 3 (.tmp 13) (.tmp 69) rfl hv (v := .int .i64 (k : Int)) rfl rfl rfl (L := [Value.int .i64 0]) hm (Nat.le_of_ble_eq_true rfl) infoInt6 ?_
        intro W' hP hM
        exact ⟨rfl, (hC.swap.putA (by decide) h0 hv hb0 hP hM).swap⟩
      simp only [Act.put, List.setIfInBounds_toArray, List.set_cons_succ, List.set_cons_zero]
      refine R6.WalkR.nil (fun D ρ W4 hD hC => ?_)
      obtain ⟨b12, hb12, hv12, hm12⟩ := hC.a (hD 14 (by omega))
      obtain ⟨b13, hb13, hv13, hm13⟩ := hC.b (hD 15 (by omega))
      rw [hD 16 (by omega), if_pos rfl] at hm12
      rw [hD 17 (by omega), if_pos rfl] at hm13
      simp only [hv12, hv13]
      have H4 := Lib.hid (H3.out.trans (hC.bel.mono H3.out.size))
      have H4m := Lib.hid (And.intro hm12 hm13)
      clear hC hD hv12 hv13 hm12 hm13 hb12 hb13
      have hby := fun (W : World) (hW : Below W4.heap.size W4 W) => And.intro ((hW.block _ (lt_of_heap H4m.out.1)).trans H4m.out.1) ((hW.block _ (lt_of_heap H4m.out.2)).trans H4m.out.2)
      have HBY := Lib.hid hby
      clear hby
      have f71 : W4.cell? ⟨b12, 0, none⟩ = some (.int .i64 pid) := cell_of_row W4 _ 0 _ _ _ H4m.out.1
      have f72 : W4.cell? ⟨b13, 0, none⟩ = some (.int .i64 (k : Int)) := cell_of_row W4 _ 0 _ _ _ H4m.out.2
      go_wp2_with (first
        | (show wpList _ _ _ (Oper.mk none (Op.store _ (Operand.tmp 14) (Operand.tmp 76)) _ _ _ _ :: _) _ _
           have hm : (w5.alloc (.cells #[.int .i64 0, .int .i64 0] 50)).heap[w5.heap.size]? = some (.cells [Value.int .i64 0, .int .i64 0].toArray 50 (0, 0)) := alloc_at0 _ _
           refine wpList_store_blk 50 (.tmp 14) (.tmp 76) rfl rfl rfl rfl (cs := sp2 (0, 0)) rfl hm (Nat.le_of_ble_eq_true rfl) (sp2_one _) rowSpan5 ?_
           intro w6 hP hM
           rw [splice_whole (by rfl)] at hM
           have hb : Below w5.heap.size w5 w6 := (grow1 w5 _).trans (hP.below (Nat.le_refl _))
           have H6 := Lib.hid (And.intro ((H5.out).trans (hb.mono (H5.out).size)) hM)
           clear hP hM hm hb)
        | (go_at_call 26
           refine (HST.out W4 (H1.out.trans (H4.out.mono H1.out.size))).mono ?_
           rintro e w5 ⟨rfl, hB5⟩
           have H5 := Lib.hid hB5
           clear hB5)
        | (show wpList _ _ _ (Oper.mk (some 71) _ _ _ _ _ :: _) _ _
           refine wpList_load_blk 25 (.tmp 5) rfl rfl rfl (HBX.out W4 H4.out).1 [.slice (some ⟨cP, oP, none⟩) ps.length cp, .slice AT ts.length ct] at0 rowSheetP ?_)
        | (show wpList _ _ _ (Oper.mk (some 72) _ _ _ _ _ :: _) _ _
           refine wpList_load_blk 28 (.tmp 6) rfl rfl rfl (HBX.out W4 H4.out).2.1 [.slice AG gs.length cg, .int .i64 vary] at0 rowGradingP ?_))
      go_ret
      exact ⟨rfl, H1.out.trans ((H4.out.trans (H6.out.1.mono H4.out.size)).mono H1.out.size)⟩
    · go_enter Tryz.func6, Tryz.ntmps6
      go_wp2_with (first
        | (go_at_call 29
           refine (HRD.out w2 (H1.out.trans (H2.out.mono H1.out.size))).mono ?_
           rintro e w3 ⟨rfl, hB3⟩
           have H3 := Lib.hid (H2.out.trans (hB3.mono H2.out.size))
           have f3 : w3.cell? ⟨w.heap.size, 0, none⟩ = some (.slice (some ⟨cP, oP, none⟩) ps.length cp) := cell_of_row w3 _ 0 _ _ _ (HBX.out w3 H3.out).1
           have f3t : w3.cell? ⟨w.heap.size, 1, none⟩ = some (.slice AT ts.length ct) := cell_of_row w3 _ 1 _ _ _ (HBX.out w3 H3.out).1
           have f3f : w3.cell? ⟨w.heap.size + 1 + 1, 0, none⟩ = some (.int .i64 f) := cell_of_row w3 _ 0 _ _ _ (HBX.out w3 H3.out).2.2
           clear hB3)
        | (show wpList _ _ _ (Oper.mk (some 27) _ _ _ _ _ :: _) _ _
           refine wpList_load_blkG 25 (.tmp 5) rfl rfl rfl (HBX.out w2 H2.out).1 [.slice (some ⟨cP, oP, none⟩) ps.length cp, .slice AT ts.length ct] at0 rowSheetP ?_)
        | (show wpList _ _ _ (Oper.mk (some 28) _ _ _ _ _ :: _) _ _
           refine wpList_load_blkG 28 (.tmp 6) rfl rfl rfl (HBX.out w2 H2.out).2.1 [.slice AG gs.length cg, .int .i64 vary] at0 rowGradingP ?_)
        | (go_at_call 20
           refine (grAlive_any w1).mono ?_
           rintro e w2 ⟨rfl, hB2⟩
           have H2 := Lib.hid hB2
           clear hB2))
      clear f3 f3t f3f hpe h20 h21 hf1 hf2 hf1d hf2d
      refine R6.wp_walk (C := Mk2 w3 3 [Value.int .i64 0] 14 16 12 [.int .i64 pid] 15 17 13 [.int .i64 (k : Int)]) 213 (by kernel_rfl) (by kernel_rfl) rfl (Mk2.start (fun _ => rfl)) ?_
      simp only []
      repeat (first
        | (refine' R6.WalkR.det (fun _ => rfl) (fun D ρ W hK hC => ?_) ?_
           rotate_left
           · have f1 : W.cell? ⟨w.heap.size, 0, none⟩ = some (.slice (some ⟨cP, oP, none⟩) ps.length cp) := cell_of_row W _ 0 _ _ _ (HBX.out W (H3.out.trans (hC.bel.mono H3.out.size))).1
             have f2 : W.cell? ⟨cP, oP + kx * 12, none⟩ = some (.int .i64 pid) := HPY.out W (H3.out.trans (hC.bel.mono H3.out.size))
             obtain ⟨q1, q2⟩ := HTM.out
             obtain ⟨⟨q4, q5⟩, q6, q7⟩ := HR.out
             have q8 : (kx : Int) < ps.length := by have := HKX.out.1; omega
             have q9 : ¬ ps.length = 0 := HKX.out.2
             have q10 : ((ps.length : Int) == 0) = false := beq_eq_false_iff_ne.2 (by omega)
             have q11 : ¬ (ps.length : Int) = 0 := by omega
             obtain ⟨i1, i2⟩ := HWI.out
             have HC := Lib.hid hC
             clear hC hK
             go_simp
             with_reducible exact ⟨rfl, HC.out.move (by decide)⟩
           simp only [Act.put, List.setIfInBounds_toArray, List.set_cons_succ, List.set_cons_zero]))
      refine' R6.WalkR.nd (fun _ => rfl) rfl (fun D ρ W hK hC => ?_) ?_
      · have HC := Lib.hid (And.intro hC (hK.post 16 (by decide +kernel)))
        clear hC hK
        go_simp
        exact HC.out.1.newA (by decide) HC.out.2 rfl
      simp only [Act.put, List.setIfInBounds_toArray, List.set_cons_succ, List.set_cons_zero]
      refine' R6.WalkR.nd (fun _ => rfl) rfl (fun D ρ W hK hC => ?_) ?_
      · have HC := Lib.hid (And.intro hC (hK.post 17 (by decide +kernel)))
        clear hC hK
        go_simp
        exact (HC.out.1.swap.newA (by decide) HC.out.2 rfl).swap
      simp only [Act.put, List.setIfInBounds_toArray, List.set_cons_succ, List.set_cons_zero]
      refine' R6.WalkR.det (c := undef) (fun _ => rfl) (fun D ρ W hK hC => ?_) ?_
      · have h0 := hK.pre 14 (by decide +kernel)
        obtain ⟨b, hb0, hv, hm⟩ := hC.a h0
        rw [hK.me, if_neg (by decide)] at hm
        refine gives_store_val 3 (.tmp 12) (.tmp 66) rfl hv (v := .int .i64 pid) rfl rfl rfl (L := [Value.int .i64 0]) hm (Nat.le_of_ble_eq_true rfl) infoInt6 ?_
        intro W' hP hM
        exact ⟨rfl, hC.putA (by decide) h0 hv hb0 hP hM⟩
      simp only [Act.put, List.setIfInBounds_toArray, List.set_cons_succ, List.set_cons_zero]
      refine' R6.WalkR.det (c := undef) (fun _ => rfl) (fun D ρ W hK hC => ?_) ?_
      · have h0 := hK.pre 15 (by decide +kernel)
        obtain ⟨b, hb0, hv, hm⟩ := hC.b h0
        rw [hK.me, if_neg (by decide)] at hm
        refine gives_store_val 3 (.tmp 13) (.tmp 69) rfl hv (v := .int .i64 (k : Int)) rfl rfl rfl (L := [Value.int .i64 0]) hm (Nat.le_of_ble_eq_true rfl) infoInt6 ?_
        intro W' hP hM
        exact ⟨rfl, (hC.swap.putA (by decide) h0 hv hb0 hP hM).swap⟩
      simp only [Act.put, List.setIfInBounds_toArray, List.set_cons_succ, List.set_cons_zero]
      refine R6.WalkR.nil (fun D ρ W4 hD hC => ?_)
      obtain ⟨b12, hb12, hv12, hm12⟩ := hC.a (hD 14 (by omega))
      obtain ⟨b13, hb13, hv13, hm13⟩ := hC.b (hD 15 (by omega))
      rw [hD 16 (by omega), if_pos rfl] at hm12
      rw [hD 17 (by omega), if_pos rfl] at hm13
      simp only [hv12, hv13]
      have H4 := Lib.hid (H3.out.trans (hC.bel.mono H3.out.size))
      have H4m := Lib.hid (And.intro hm12 hm13)
      clear hC hD hv12 hv13 hm12 hm13 hb12 hb13
      have hby := fun (W : World) (hW : Below W4.heap.size W4 W) => And.intro ((hW.block _ (lt_of_heap H4m.out.1)).trans H4m.out.1) ((hW.block _ (lt_of_heap H4m.out.2)).trans H4m.out.2)
      have HBY := Lib.hid hby
      clear hby
      have f71 : W4.cell? ⟨b12, 0, none⟩ = some (.int .i64 pid) := cell_of_row W4 _ 0 _ _ _ H4m.out.1
      have f72 : W4.cell? ⟨b13, 0, none⟩ = some (.int .i64 (k : Int)) := cell_of_row W4 _ 0 _ _ _ H4m.out.2
      go_wp2_with (first
        | (show wpList _ _ _ (Oper.mk none (Op.store _ (Operand.tmp 14) (Operand.tmp 76)) _ _ _ _ :: _) _ _
           have hm : (w5.alloc (.cells #[.int .i64 0, .int .i64 0] 50)).heap[w5.heap.size]? = some (.cells [Value.int .i64 0, .int .i64 0].toArray 50 (0, 0)) := alloc_at0 _ _
           refine wpList_store_blk 50 (.tmp 14) (.tmp 76) rfl rfl rfl rfl (cs := sp2 (0, 0)) rfl hm (Nat.le_of_ble_eq_true rfl) (sp2_one _) rowSpan5 ?_
           intro w6 hP hM
           rw [splice_whole (by rfl)] at hM
           have hb : Below w5.heap.size w5 w6 := (grow1 w5 _).trans (hP.below (Nat.le_refl _))
           have H6 := Lib.hid (And.intro ((H5.out).trans (hb.mono (H5.out).size)) hM)
           clear hP hM hm hb)
        | (go_at_call 26
           refine (HST.out W4 (H1.out.trans (H4.out.mono H1.out.size))).mono ?_
           rintro e w5 ⟨rfl, hB5⟩
           have H5 := Lib.hid hB5
           clear hB5)
        | (show wpList _ _ _ (Oper.mk (some 71) _ _ _ _ _ :: _) _ _
           refine wpList_load_blk 25 (.tmp 5) rfl rfl rfl (HBX.out W4 H4.out).1 [.slice (some ⟨cP, oP, none⟩) ps.length cp, .slice AT ts.length ct] at0 rowSheetP ?_)
        | (show wpList _ _ _ (Oper.mk (some 72) _ _ _ _ _ :: _) _ _
           refine wpList_load_blk 28 (.tmp 6) rfl rfl rfl (HBX.out W4 H4.out).2.1 [.slice AG gs.length cg, .int .i64 vary] at0 rowGradingP ?_))
      go_ret
      exact ⟨rfl, H1.out.trans ((H4.out.trans (H6.out.1.mono H4.out.size)).mono H1.out.size)⟩
  rw [hs] at hst
  have HST := Lib.hid hst
  have HS := Lib.hid (And.intro hs (And.intro hy0 htr))
  have HF := Lib.hid (show 1 ≤ f ∧ f ≤ 1000000 by omega)
  have hb1' : ¬ b.1 < 0 := by omega
  have hb2' : ¬ b.2 < b.1 := by omega
  have hb3' : ¬ 1000000 < b.2 := by omega
  have HBB := Lib.hid (And.intro hb1 (And.intro hb2 hb3))
  clear hst hs hy0 htr hb1 hb2 hb3
  go_enter Tryz.func6, Tryz.ntmps6
  go_wp2_with (first
    | (go_at_call 29
       refine (HRD.out w2 (H1.out.trans (H2.out.mono H1.out.size))).mono ?_
       rintro e w3 ⟨rfl, hB3⟩
       have H3 := Lib.hid (H2.out.trans (hB3.mono H2.out.size))
       have f3 : w3.cell? ⟨w.heap.size, 0, none⟩ = some (.slice (some ⟨cP, oP, none⟩) ps.length cp) := cell_of_row w3 _ 0 _ _ _ (HBX.out w3 H3.out).1
       have f3t : w3.cell? ⟨w.heap.size, 1, none⟩ = some (.slice AT ts.length ct) := cell_of_row w3 _ 1 _ _ _ (HBX.out w3 H3.out).1
       have f3f : w3.cell? ⟨w.heap.size + 1 + 1, 0, none⟩ = some (.int .i64 f) := cell_of_row w3 _ 0 _ _ _ (HBX.out w3 H3.out).2.2
       clear hB3)
    | (show wpList _ _ _ (Oper.mk (some 27) _ _ _ _ _ :: _) _ _
       refine wpList_load_blkG 25 (.tmp 5) rfl rfl rfl (HBX.out w2 H2.out).1 [.slice (some ⟨cP, oP, none⟩) ps.length cp, .slice AT ts.length ct] at0 rowSheetP ?_)
    | (show wpList _ _ _ (Oper.mk (some 28) _ _ _ _ _ :: _) _ _
       refine wpList_load_blkG 28 (.tmp 6) rfl rfl rfl (HBX.out w2 H2.out).2.1 [.slice AG gs.length cg, .int .i64 vary] at0 rowGradingP ?_)
    | (go_at_call 20
       refine (grAlive_any w1).mono ?_
       rintro e w2 ⟨rfl, hB2⟩
       have H2 := Lib.hid hB2
       clear hB2))
  clear f3 f3t f3f hpe h20 h21 hf1 hf2 hf1d hf2d
  refine R6.wp_walk (C := Mk2 w3 3 [Value.int .i64 0] 14 16 12 [.int .i64 pid] 15 17 13 [.int .i64 (k : Int)]) 213 (by kernel_rfl) (by kernel_rfl) rfl (Mk2.start (fun _ => rfl)) ?_
  simp only []
  repeat (first
    | (refine' R6.WalkR.det (fun _ => rfl) (fun D ρ W hK hC => ?_) ?_
       rotate_left
       · have f1 : W.cell? ⟨w.heap.size, 0, none⟩ = some (.slice (some ⟨cP, oP, none⟩) ps.length cp) := cell_of_row W _ 0 _ _ _ (HBX.out W (H3.out.trans (hC.bel.mono H3.out.size))).1
         have f2 : W.cell? ⟨cP, oP + kx * 12, none⟩ = some (.int .i64 pid) := HPY.out W (H3.out.trans (hC.bel.mono H3.out.size))
         obtain ⟨q1, q2⟩ := HTM.out
         obtain ⟨⟨q4, q5⟩, q6, q7⟩ := HR.out
         have q8 : (kx : Int) < ps.length := by have := HKX.out.1; omega
         have q9 : ¬ ps.length = 0 := HKX.out.2
         have q10 : ((ps.length : Int) == 0) = false := beq_eq_false_iff_ne.2 (by omega)
         have q11 : ¬ (ps.length : Int) = 0 := by omega
         obtain ⟨i1, i2⟩ := HWI.out
         have HC := Lib.hid hC
         clear hC hK
         go_simp
         with_reducible exact ⟨rfl, HC.out.move (by decide)⟩
       simp only [Act.put, List.setIfInBounds_toArray, List.set_cons_succ, List.set_cons_zero]))
  refine' R6.WalkR.nd (fun _ => rfl) rfl (fun D ρ W hK hC => ?_) ?_
  · have HC := Lib.hid (And.intro hC (hK.post 16 (by decide +kernel)))
    clear hC hK
    go_simp
    exact HC.out.1.newA (by decide) HC.out.2 rfl
  simp only [Act.put, List.setIfInBounds_toArray, List.set_cons_succ, List.set_cons_zero]
  refine' R6.WalkR.nd (fun _ => rfl) rfl (fun D ρ W hK hC => ?_) ?_
  · have HC := Lib.hid (And.intro hC (hK.post 17 (by decide +kernel)))
    clear hC hK
    go_simp
    exact (HC.out.1.swap.newA (by decide) HC.out.2 rfl).swap
  simp only [Act.put, List.setIfInBounds_toArray, List.set_cons_succ, List.set_cons_zero]
  refine' R6.WalkR.det (c := undef) (fun _ => rfl) (fun D ρ W hK hC => ?_) ?_
  · have h0 := hK.pre 14 (by decide +kernel)
    obtain ⟨b, hb0, hv, hm⟩ := hC.a h0
    rw [hK.me, if_neg (by decide)] at hm
    refine gives_store_val 3 (.tmp 12) (.tmp 66) rfl hv (v := .int .i64 pid) rfl rfl rfl (L := [Value.int .i64 0]) hm (Nat.le_of_ble_eq_true rfl) infoInt6 ?_
    intro W' hP hM
    exact ⟨rfl, hC.putA (by decide) h0 hv hb0 hP hM⟩
  simp only [Act.put, List.setIfInBounds_toArray, List.set_cons_succ, List.set_cons_zero]
  refine' R6.WalkR.det (c := undef) (fun _ => rfl) (fun D ρ W hK hC => ?_) ?_
  · have h0 := hK.pre 15 (by decide +kernel)
    obtain ⟨b, hb0, hv, hm⟩ := hC.b h0
    rw [hK.me, if_neg (by decide)] at hm
    refine gives_store_val 3 (.tmp 13) (.tmp 69) rfl hv (v := .int .i64 (k : Int)) rfl rfl rfl (L := [Value.int .i64 0]) hm (Nat.le_of_ble_eq_true rfl) infoInt6 ?_
    intro W' hP hM
    exact ⟨rfl, (hC.swap.putA (by decide) h0 hv hb0 hP hM).swap⟩
  simp only [Act.put, List.setIfInBounds_toArray, List.set_cons_succ, List.set_cons_zero]
  refine R6.WalkR.nil (fun D ρ W4 hD hC => ?_)
  obtain ⟨b12, hb12, hv12, hm12⟩ := hC.a (hD 14 (by omega))
  obtain ⟨b13, hb13, hv13, hm13⟩ := hC.b (hD 15 (by omega))
  rw [hD 16 (by omega), if_pos rfl] at hm12
  rw [hD 17 (by omega), if_pos rfl] at hm13
  simp only [hv12, hv13]
  have H4 := Lib.hid (H3.out.trans (hC.bel.mono H3.out.size))
  have H4m := Lib.hid (And.intro hm12 hm13)
  clear hC hD hv12 hv13 hm12 hm13 hb12 hb13
  have hby := fun (W : World) (hW : Below W4.heap.size W4 W) => And.intro ((hW.block _ (lt_of_heap H4m.out.1)).trans H4m.out.1) ((hW.block _ (lt_of_heap H4m.out.2)).trans H4m.out.2)
  have HBY := Lib.hid hby
  clear hby
  have f71 : W4.cell? ⟨b12, 0, none⟩ = some (.int .i64 pid) := cell_of_row W4 _ 0 _ _ _ H4m.out.1
  have f72 : W4.cell? ⟨b13, 0, none⟩ = some (.int .i64 (k : Int)) := cell_of_row W4 _ 0 _ _ _ H4m.out.2
  go_wp2_with (first
    | (show wpList _ _ _ (Oper.mk none (Op.store _ (Operand.tmp 16) _) _ _ _ _ :: _) _ _
       have hm : (w6.alloc (.cells #[.int .i64 0] 3)).heap[w6.heap.size]? = some (.cells [Value.int .i64 0].toArray 3 (0, 0)) := alloc_at0 _ _
       refine wpList_store_v5 3 (.tmp 16) (.const (.int .i64 0)) (v := .int .i64 0) rfl rfl rfl rfl rfl rfl rfl (L := [.int .i64 0]) hm (Nat.le_of_ble_eq_true rfl) infoInt6 ?_
       intro w7 hP hM
       have hb : Below w6.heap.size w6 w7 := (grow1 w6 _).trans (hP.below (Nat.le_refl _))
       have hM' : w7.heap[w6.heap.size]? = some (.cells [Value.int .i64 0].toArray 3 (0, 0)) := hM
       have H7 := Lib.hid (And.intro hb hM')
       have f7 : w7.cell? ⟨w.heap.size, 1, none⟩ = some (.slice AT ts.length ct) := cell_of_row w7 _ 1 _ _ _ (HBX.out w7 ((H4.out.trans (H6.out.1.mono H4.out.size)).trans (hb.mono (H4.out.trans (H6.out.1.mono H4.out.size)).size))).1
       clear hP hM hM' hm hb)
    | (show wpList _ _ _ (Oper.mk none (Op.store _ (Operand.tmp 14) (Operand.tmp 76)) _ _ _ _ :: _) _ _
       have hm : (w5.alloc (.cells #[.int .i64 0, .int .i64 0] 50)).heap[w5.heap.size]? = some (.cells [Value.int .i64 0, .int .i64 0].toArray 50 (0, 0)) := alloc_at0 _ _
       refine wpList_store_blk 50 (.tmp 14) (.tmp 76) rfl rfl rfl rfl (cs := sp2 b) rfl hm (Nat.le_of_ble_eq_true rfl) (sp2_one _) rowSpan5 ?_
       intro w6 hP hM
       rw [splice_whole (by rfl)] at hM
       have hb : Below w5.heap.size w5 w6 := (grow1 w5 _).trans (hP.below (Nat.le_refl _))
       have H6 := Lib.hid (And.intro ((H5.out).trans (hb.mono (H5.out).size)) hM)
       have g1 : w6.cell? ⟨w5.heap.size, 0, none⟩ = some (.int .i64 b.1) := cell_of_row w6 _ 0 _ _ _ hM
       have g2 : w6.cell? ⟨w5.heap.size, 1, none⟩ = some (.int .i64 b.2) := cell_of_row w6 _ 1 _ _ _ hM
       clear hP hM hm hb)
    | (go_at_call 26
       refine (HST.out W4 (H1.out.trans (H4.out.mono H1.out.size))).mono ?_
       rintro e w5 ⟨rfl, hB5⟩
       have H5 := Lib.hid hB5
       clear hB5)
    | (show wpList _ _ _ (Oper.mk (some 71) _ _ _ _ _ :: _) _ _
       refine wpList_load_blk 25 (.tmp 5) rfl rfl rfl (HBX.out W4 H4.out).1 [.slice (some ⟨cP, oP, none⟩) ps.length cp, .slice AT ts.length ct] at0 rowSheetP ?_)
    | (show wpList _ _ _ (Oper.mk (some 72) _ _ _ _ _ :: _) _ _
       refine wpList_load_blk 28 (.tmp 6) rfl rfl rfl (HBX.out W4 H4.out).2.1 [.slice AG gs.length cg, .int .i64 vary] at0 rowGradingP ?_))
  clear f7 g1 g2 hb1' hb2' hb3' f71 f72
  go_loopg [107] ts.length (fun gn s107 wx => ∃ i : Nat, i + gn = ts.length ∧ s107 = .int .i64 i ∧ Hid (Below w6.heap.size w6 wx ∧ wx.heap[w6.heap.size]? = some (.cells [Value.int .i64 (nxtL (ts.take i))].toArray 3 (0, 0))))
  case atStart => exact ⟨0, by omega, rfl, H7.out⟩
  case round =>
    obtain ⟨i, hig, rfl, hI⟩ := hrel
    cases gk with
    | zero =>
      obtain rfl : i = ts.length := by omega
      rw [List.take_length] at hI
      have H9 := Lib.hid hI.out
      have f90 : wr.cell? ⟨w6.heap.size, 0, none⟩ = some (.int .i64 (nxtL ts)) := cell_of_row wr _ 0 _ _ _ H9.out.2
      clear hI
      by_cases h9 : 9999 < nxtL ts
      · generalize nxtL ts = nx at f90 h9
        go_wp2
        go_ret
        exact ⟨rfl, H1.out.trans ((H4.out.trans ((H6.out.1.trans (H9.out.1.mono H6.out.1.size)).mono H4.out.size)).mono H1.out.size)⟩
      obtain ⟨b', x, z, ex, ez, cx, cz, hE, -, hEc⟩ := ends_of HP.out.1 HS.out.2.2 HP.out.2.1 HS.out.2.1 HP.out.2.2.1 HF.out.1 HF.out.2 HP.out.2.2.2.2 (by omega)
      have hbb : b' = b := by
        have h1 := hE.sb
        rw [HP.out.2.2.2.1, HS.out.1] at h1
        exact (Prod.mk.inj h1).1.symm
      subst hbb
      obtain ⟨-, sx, sz, lx, lz⟩ := hE
      rw [HP.out.2.2.2.1] at sx sz lx lz
      have hex : (ex = 0 ∧ cx = []) ∨ (ex = 52 ∧ cx ≠ []) := by
        rcases hEc with h | h | h
        · exact .inl ⟨h.2.1, h.2.2.1⟩
        · exact .inr h.2.2.2.2.2
        · exact .inl ⟨h.2.2.1, h.2.2.2.1⟩
      have hez : (ez = 0 ∧ cz = []) ∨ (ez = 52 ∧ cz ≠ []) := by
        rcases hEc with h | h | h
        · exact .inr h.2.2.2.2
        · exact .inl ⟨h.2.2.1, h.2.2.2.1⟩
        · exact .inl ⟨h.2.2.2.2.1, h.2.2.2.2.2.1⟩
      have hb0 := H1.out.trans ((H4.out.trans ((H6.out.1.trans (H9.out.1.mono H6.out.1.size)).mono H4.out.size)).mono H1.out.size)
      have hwx := fun (W : World) (hW : Below wr.heap.size wr W) =>
        have hb1 := hb0.trans (hW.mono hb0.size)
        have hb2 := (H4.out.trans ((H6.out.1.trans (H9.out.1.mono H6.out.1.size)).mono H4.out.size)).trans (hW.mono (H4.out.trans ((H6.out.1.trans (H9.out.1.mono H6.out.1.size)).mono H4.out.size)).size)
        have hb3 := (H6.out.1.trans (H9.out.1.mono H6.out.1.size)).trans (hW.mono (H6.out.1.trans (H9.out.1.mono H6.out.1.size)).size)
        And.intro (gtWith_any ps ts gs vary true (nxtL ts) pid f k x ex cx (some ⟨cP, oP, none⟩) cp AT ct AG cg w.heap.size w6.heap.size b12 b13 (w.heap.size + 1 + 1) (w.heap.size + 1) B W (Nat.le_trans HZ.out.2.2.1 hb1.size) (HZ.out.1.below (hb1.mono HZ.out.2.2.1)) (HZ.out.2.1.below (hb1.mono HZ.out.2.2.1)) HZ.out.2.2.2.1 HZ.out.2.2.2.2.1 (HBX.out W hb2).1 (HBX.out W hb2).2.1 ((hW.block _ (lt_of_heap H9.out.2)).trans H9.out.2) (HBY.out W hb3).1 (HBY.out W hb3).2 (HBX.out W hb2).2.2 sx lx hex)
          (gtWith_any ps ts gs vary false (nxtL ts) pid f k z ez cz (some ⟨cP, oP, none⟩) cp AT ct AG cg w.heap.size w6.heap.size b12 b13 (w.heap.size + 1 + 1) (w.heap.size + 1) B W (Nat.le_trans HZ.out.2.2.1 hb1.size) (HZ.out.1.below (hb1.mono HZ.out.2.2.1)) (HZ.out.2.1.below (hb1.mono HZ.out.2.2.1)) HZ.out.2.2.2.1 HZ.out.2.2.2.2.1 (HBX.out W hb2).1 (HBX.out W hb2).2.1 ((hW.block _ (lt_of_heap H9.out.2)).trans H9.out.2) (HBY.out W hb3).1 (HBY.out W hb3).2 (HBX.out W hb2).2.2 sz lz hez)
      have HWX := Lib.hid hwx
      clear hwx hb0 sx sz lx lz hex hez
      generalize nxtL ts = nx at f90 h9 H9
      have HE := Lib.hid hEc
      clear hEc
      rcases HE.out with ⟨hf3, rfl, -, rfl, rfl, -⟩ | ⟨hf3, hf4, rfl, -, rfl, rfl, -⟩ | ⟨hf3, hf4, rfl, -, rfl, -, hf5, hf6, hf7, hf8⟩
      · have q1 : decide (f ≤ x.1) = true := decide_eq_true hf3
        go_wp2_with (first
          | (show wpList _ _ _ (Oper.mk (some 151) _ _ _ _ _ :: _) _ _
             refine wpList_eqlG 50 50 (.tmp 149) (.tmp 150) rfl rfl rfl rfl (guard_structEq guardSpan5) (eqlSpan5 w14 x) ?_)
          | (show wpList _ _ _ (Oper.mk (some 149) _ _ _ _ _ :: _) _ _
             refine wpList_load_blkG 50 (.tmp 20) rfl rfl rfl HM14.out.2.1 (sp2 x) at0 rowSpan5 ?_)
          | (show wpList _ _ _ (Oper.mk (some 150) _ _ _ _ _ :: _) _ _
             refine wpList_load_blkG 50 (.tmp 14) rfl rfl rfl HM14.out.1 (sp2 x) at0 rowSpan5 ?_)
          | (show wpList _ _ _ (Oper.mk none (Op.store _ (Operand.tmp 23) (Operand.tmp 130)) _ _ _ _ :: _) _ _
             have hm : (w13.alloc (.cells #[.int .i64 0, .int .i64 0] 50)).heap[w13.heap.size]? = some (.cells [Value.int .i64 0, .int .i64 0].toArray 50 (0, 0)) := alloc_at0 _ _
             refine wpList_store_blk 50 (.tmp 23) (.tmp 130) rfl rfl rfl rfl (cs := sp2 z) rfl hm (Nat.le_of_ble_eq_true rfl) (sp2_one _) rowSpan5 ?_
             intro w14 hP hM
             rw [splice_whole (by rfl)] at hM
             have hb : Below w13.heap.size w13 w14 := (grow1 w13 _).trans (hP.below (Nat.le_refl _))
             have H14 := Lib.hid (And.intro ((H13.out.1).trans (hb.mono (H13.out.1).size)) hM)
             have hm20 := (hb.block _ (lt_of_heap H13.out.2)).trans H13.out.2
             have hbw := (H9.out.1.trans ((H13.out.1.trans (hb.mono H13.out.1.size)).mono H9.out.1.size))
             have hm14 := (hbw.block _ (lt_of_heap H6.out.2)).trans H6.out.2
             have hbf := H4.out.trans ((H6.out.1.trans (hbw.mono H6.out.1.size)).mono H4.out.size)
             have ff : w14.cell? ⟨w.heap.size + 1 + 1, 0, none⟩ = some (.int .i64 f) := cell_of_row w14 _ 0 _ _ _ (HBX.out w14 hbf).2.2
             have fb1 : w14.cell? ⟨w5.heap.size, 0, none⟩ = some (.int .i64 x.1) := cell_of_row w14 _ 0 _ _ _ hm14
             have fb2 : w14.cell? ⟨w5.heap.size, 1, none⟩ = some (.int .i64 x.2) := cell_of_row w14 _ 1 _ _ _ hm14
             have fx1 : w14.cell? ⟨w11.heap.size, 0, none⟩ = some (.int .i64 x.1) := cell_of_row w14 _ 0 _ _ _ hm20
             have fx2 : w14.cell? ⟨w11.heap.size, 1, none⟩ = some (.int .i64 x.2) := cell_of_row w14 _ 1 _ _ _ hm20
             have fz1 : w14.cell? ⟨w13.heap.size, 0, none⟩ = some (.int .i64 z.1) := cell_of_row w14 _ 0 _ _ _ hM
             have fz2 : w14.cell? ⟨w13.heap.size, 1, none⟩ = some (.int .i64 z.2) := cell_of_row w14 _ 1 _ _ _ hM
             have HM14 := Lib.hid (And.intro hm14 (And.intro hm20 hM))
             have HBF := Lib.hid hbf
             clear hm20 hbw hm14 hbf
             clear hP hM hm hb)
          | (go_at_call 35
             (with_reducible show Calls _ _ _ w12 _)
             refine (HWX.out w12 H12.out.1).2.mono ?_
             rintro e w13 ⟨rfl, hBn⟩
             have H13 := Lib.hid (And.intro (H12.out.1.trans (hBn.mono H12.out.1.size)) ((hBn.block _ (lt_of_heap H12.out.2)).trans H12.out.2))
             clear hBn)
          | (show wpList _ _ _ (Oper.mk none (Op.store _ (Operand.tmp 20) (Operand.tmp 124)) _ _ _ _ :: _) _ _
             have hm : (w11.alloc (.cells #[.int .i64 0, .int .i64 0] 50)).heap[w11.heap.size]? = some (.cells [Value.int .i64 0, .int .i64 0].toArray 50 (0, 0)) := alloc_at0 _ _
             refine wpList_store_blk 50 (.tmp 20) (.tmp 124) rfl rfl rfl rfl (cs := sp2 x) rfl hm (Nat.le_of_ble_eq_true rfl) (sp2_one _) rowSpan5 ?_
             intro w12 hP hM
             rw [splice_whole (by rfl)] at hM
             have hb : Below w11.heap.size w11 w12 := (grow1 w11 _).trans (hP.below (Nat.le_refl _))
             have H12 := Lib.hid (And.intro ((H11.out).trans (hb.mono (H11.out).size)) hM)
             clear hP hM hm hb)
          | (go_at_call 35
             (with_reducible show Calls _ _ _ wr _)
             refine (HWX.out wr (Below.refl _ _)).1.mono ?_
             rintro e w11 ⟨rfl, hBn⟩
             have H11 := Lib.hid hBn
             clear hBn))
        go_ret
        exact ⟨rfl, H1.out.trans (HBF.out.mono H1.out.size)⟩
      · have q1 : decide (f ≤ z.1) = false := decide_eq_false (by omega)
        have q2 : decide (z.2 < f) = true := decide_eq_true hf3
        go_wp2_with (first
          | (show wpList _ _ _ (Oper.mk (some 169) _ _ _ _ _ :: _) _ _
             refine wpList_eqlG 50 50 (.tmp 167) (.tmp 168) rfl rfl rfl rfl (guard_structEq guardSpan5) (eqlSpan5 w14 z) ?_)
          | (show wpList _ _ _ (Oper.mk (some 167) _ _ _ _ _ :: _) _ _
             refine wpList_load_blkG 50 (.tmp 23) rfl rfl rfl HM14.out.2.2 (sp2 z) at0 rowSpan5 ?_)
          | (show wpList _ _ _ (Oper.mk (some 168) _ _ _ _ _ :: _) _ _
             refine wpList_load_blkG 50 (.tmp 14) rfl rfl rfl HM14.out.1 (sp2 z) at0 rowSpan5 ?_)
          | (show wpList _ _ _ (Oper.mk none (Op.store _ (Operand.tmp 23) (Operand.tmp 130)) _ _ _ _ :: _) _ _
             have hm : (w13.alloc (.cells #[.int .i64 0, .int .i64 0] 50)).heap[w13.heap.size]? = some (.cells [Value.int .i64 0, .int .i64 0].toArray 50 (0, 0)) := alloc_at0 _ _
             refine wpList_store_blk 50 (.tmp 23) (.tmp 130) rfl rfl rfl rfl (cs := sp2 z) rfl hm (Nat.le_of_ble_eq_true rfl) (sp2_one _) rowSpan5 ?_
             intro w14 hP hM
             rw [splice_whole (by rfl)] at hM
             have hb : Below w13.heap.size w13 w14 := (grow1 w13 _).trans (hP.below (Nat.le_refl _))
             have H14 := Lib.hid (And.intro ((H13.out.1).trans (hb.mono (H13.out.1).size)) hM)
             have hm20 := (hb.block _ (lt_of_heap H13.out.2)).trans H13.out.2
             have hbw := (H9.out.1.trans ((H13.out.1.trans (hb.mono H13.out.1.size)).mono H9.out.1.size))
             have hm14 := (hbw.block _ (lt_of_heap H6.out.2)).trans H6.out.2
             have hbf := H4.out.trans ((H6.out.1.trans (hbw.mono H6.out.1.size)).mono H4.out.size)
             have ff : w14.cell? ⟨w.heap.size + 1 + 1, 0, none⟩ = some (.int .i64 f) := cell_of_row w14 _ 0 _ _ _ (HBX.out w14 hbf).2.2
             have fb1 : w14.cell? ⟨w5.heap.size, 0, none⟩ = some (.int .i64 z.1) := cell_of_row w14 _ 0 _ _ _ hm14
             have fb2 : w14.cell? ⟨w5.heap.size, 1, none⟩ = some (.int .i64 z.2) := cell_of_row w14 _ 1 _ _ _ hm14
             have fx1 : w14.cell? ⟨w11.heap.size, 0, none⟩ = some (.int .i64 x.1) := cell_of_row w14 _ 0 _ _ _ hm20
             have fx2 : w14.cell? ⟨w11.heap.size, 1, none⟩ = some (.int .i64 x.2) := cell_of_row w14 _ 1 _ _ _ hm20
             have fz1 : w14.cell? ⟨w13.heap.size, 0, none⟩ = some (.int .i64 z.1) := cell_of_row w14 _ 0 _ _ _ hM
             have fz2 : w14.cell? ⟨w13.heap.size, 1, none⟩ = some (.int .i64 z.2) := cell_of_row w14 _ 1 _ _ _ hM
             have HM14 := Lib.hid (And.intro hm14 (And.intro hm20 hM))
             have HBF := Lib.hid hbf
             clear hm20 hbw hm14 hbf
             clear hP hM hm hb)
          | (go_at_call 35
             (with_reducible show Calls _ _ _ w12 _)
             refine (HWX.out w12 H12.out.1).2.mono ?_
             rintro e w13 ⟨rfl, hBn⟩
             have H13 := Lib.hid (And.intro (H12.out.1.trans (hBn.mono H12.out.1.size)) ((hBn.block _ (lt_of_heap H12.out.2)).trans H12.out.2))
             clear hBn)
          | (show wpList _ _ _ (Oper.mk none (Op.store _ (Operand.tmp 20) (Operand.tmp 124)) _ _ _ _ :: _) _ _
             have hm : (w11.alloc (.cells #[.int .i64 0, .int .i64 0] 50)).heap[w11.heap.size]? = some (.cells [Value.int .i64 0, .int .i64 0].toArray 50 (0, 0)) := alloc_at0 _ _
             refine wpList_store_blk 50 (.tmp 20) (.tmp 124) rfl rfl rfl rfl (cs := sp2 x) rfl hm (Nat.le_of_ble_eq_true rfl) (sp2_one _) rowSpan5 ?_
             intro w12 hP hM
             rw [splice_whole (by rfl)] at hM
             have hb : Below w11.heap.size w11 w12 := (grow1 w11 _).trans (hP.below (Nat.le_refl _))
             have H12 := Lib.hid (And.intro ((H11.out).trans (hb.mono (H11.out).size)) hM)
             clear hP hM hm hb)
          | (go_at_call 35
             (with_reducible show Calls _ _ _ wr _)
             refine (HWX.out wr (Below.refl _ _)).1.mono ?_
             rintro e w11 ⟨rfl, hBn⟩
             have H11 := Lib.hid hBn
             clear hBn))
        go_ret
        exact ⟨rfl, H1.out.trans (HBF.out.mono H1.out.size)⟩
      · have q1 : decide (f ≤ b'.1) = false := decide_eq_false (by omega)
        have q2 : decide (b'.2 < f) = false := decide_eq_false (by omega)
        have q3 : decide (f ≤ x.1) = true := decide_eq_true hf5
        have q4 : (x.2 == b'.2) = true := by simpa using hf6
        have q5 : (z.1 == b'.1) = true := by simpa using hf7
        have q6 : decide (z.2 < f) = true := decide_eq_true hf8
        have HQ := Lib.hid (And.intro hf6 hf7)
        clear hf6 hf7
        go_wp2_with (first
          | (show wpList _ _ _ (Oper.mk none (Op.store _ (Operand.tmp 23) (Operand.tmp 130)) _ _ _ _ :: _) _ _
             have hm : (w13.alloc (.cells #[.int .i64 0, .int .i64 0] 50)).heap[w13.heap.size]? = some (.cells [Value.int .i64 0, .int .i64 0].toArray 50 (0, 0)) := alloc_at0 _ _
             refine wpList_store_blk 50 (.tmp 23) (.tmp 130) rfl rfl rfl rfl (cs := sp2 z) rfl hm (Nat.le_of_ble_eq_true rfl) (sp2_one _) rowSpan5 ?_
             intro w14 hP hM
             rw [splice_whole (by rfl)] at hM
             have hb : Below w13.heap.size w13 w14 := (grow1 w13 _).trans (hP.below (Nat.le_refl _))
             have H14 := Lib.hid (And.intro ((H13.out.1).trans (hb.mono (H13.out.1).size)) hM)
             have hm20 := (hb.block _ (lt_of_heap H13.out.2)).trans H13.out.2
             have hbw := (H9.out.1.trans ((H13.out.1.trans (hb.mono H13.out.1.size)).mono H9.out.1.size))
             have hm14 := (hbw.block _ (lt_of_heap H6.out.2)).trans H6.out.2
             have hbf := H4.out.trans ((H6.out.1.trans (hbw.mono H6.out.1.size)).mono H4.out.size)
             have ff : w14.cell? ⟨w.heap.size + 1 + 1, 0, none⟩ = some (.int .i64 f) := cell_of_row w14 _ 0 _ _ _ (HBX.out w14 hbf).2.2
             have fb1 : w14.cell? ⟨w5.heap.size, 0, none⟩ = some (.int .i64 b'.1) := cell_of_row w14 _ 0 _ _ _ hm14
             have fb2 : w14.cell? ⟨w5.heap.size, 1, none⟩ = some (.int .i64 b'.2) := cell_of_row w14 _ 1 _ _ _ hm14
             have fx1 : w14.cell? ⟨w11.heap.size, 0, none⟩ = some (.int .i64 x.1) := cell_of_row w14 _ 0 _ _ _ hm20
             have fx2 : w14.cell? ⟨w11.heap.size, 1, none⟩ = some (.int .i64 x.2) := cell_of_row w14 _ 1 _ _ _ hm20
             have fz1 : w14.cell? ⟨w13.heap.size, 0, none⟩ = some (.int .i64 z.1) := cell_of_row w14 _ 0 _ _ _ hM
             have fz2 : w14.cell? ⟨w13.heap.size, 1, none⟩ = some (.int .i64 z.2) := cell_of_row w14 _ 1 _ _ _ hM
             have HM14 := Lib.hid (And.intro hm14 (And.intro hm20 hM))
             have HBF := Lib.hid hbf
             clear hm20 hbw hm14 hbf
             clear hP hM hm hb)
          | (go_at_call 35
             (with_reducible show Calls _ _ _ w12 _)
             refine (HWX.out w12 H12.out.1).2.mono ?_
             rintro e w13 ⟨rfl, hBn⟩
             have H13 := Lib.hid (And.intro (H12.out.1.trans (hBn.mono H12.out.1.size)) ((hBn.block _ (lt_of_heap H12.out.2)).trans H12.out.2))
             clear hBn)
          | (show wpList _ _ _ (Oper.mk none (Op.store _ (Operand.tmp 20) (Operand.tmp 124)) _ _ _ _ :: _) _ _
             have hm : (w11.alloc (.cells #[.int .i64 0, .int .i64 0] 50)).heap[w11.heap.size]? = some (.cells [Value.int .i64 0, .int .i64 0].toArray 50 (0, 0)) := alloc_at0 _ _
             refine wpList_store_blk 50 (.tmp 20) (.tmp 124) rfl rfl rfl rfl (cs := sp2 x) rfl hm (Nat.le_of_ble_eq_true rfl) (sp2_one _) rowSpan5 ?_
             intro w12 hP hM
             rw [splice_whole (by rfl)] at hM
             have hb : Below w11.heap.size w11 w12 := (grow1 w11 _).trans (hP.below (Nat.le_refl _))
             have H12 := Lib.hid (And.intro ((H11.out).trans (hb.mono (H11.out).size)) hM)
             clear hP hM hm hb)
          | (go_at_call 35
             (with_reducible show Calls _ _ _ wr _)
             refine (HWX.out wr (Below.refl _ _)).1.mono ?_
             rintro e w11 ⟨rfl, hBn⟩
             have H11 := Lib.hid hBn
             clear hBn))
        go_ret
        exact ⟨rfl, H1.out.trans (HBF.out.mono H1.out.size)⟩
    | succ gi =>
      have hi : i < ts.length := by omega
      have hiz : (i : Int) < ts.length := by omega
      have hl26 : ts.length ≤ 26 := HZ.out.2.2.2.2.1
      obtain ⟨cT, oT, hA, hcB, hc⟩ := HVT.out i hi
      have hb0 := H1.out.trans ((H4.out.trans ((H6.out.1.trans (hI.out.1.mono H6.out.1.size)).mono H4.out.size)).mono H1.out.size)
      have hc' : ∀ j v, (tcl ts[i])[j]? = some v → wr.cell? ⟨cT, oT + i * 5 + j, none⟩ = some v := fun j v hv => (hb0.cell (p := ⟨cT, oT + i * 5 + j, none⟩) (by have := HZ.out.2.2.1; simp; omega)).trans (hc j v hv)
      have hst := nxtL_step ts i hi
      have hbd := (gChk_tid HP.out.1) _ (List.getElem_mem hi)
      have hn0 := nxtL_bnd HP.out.1 i
      obtain ⟨xid, hxi⟩ : ∃ v, ts[i].id = v := ⟨_, rfl⟩
      rw [hxi] at hst hbd
      have hx0 : ∃ l, tcl ts[i] = .int .i64 xid :: l := ⟨_, by rw [← hxi]; rfl⟩
      generalize nxtL (ts.take i) = n0 at hst hI hn0
      obtain ⟨X, hX⟩ : ∃ X, tcl ts[i] = X := ⟨_, rfl⟩
      have hXl : X.length = 5 := by rw [← hX]; rfl
      have hX1 : ∀ v ∈ X, v.oneCell' = true := by rw [← hX]; exact fun v hv => tcl_one [ts[i]] v (by simpa using hv)
      rw [hX] at hc' hx0
      obtain ⟨Xl, hx0⟩ := hx0
      have hrow : RowTy Tryz.prog 58 X.length := by rw [hXl]; exact rowTest
      subst hA
      have HX := Lib.hid (And.intro hXl (And.intro hX1 (And.intro hx0 hrow)))
      have HCC := Lib.hid hc'
      have HST9 := Lib.hid hst
      have HI := Lib.hid hI.out
      clear hc hc' hst hb0 hXl hX1 hx0 hrow hX hxi hI hcB
      obtain ⟨hd1, hd2⟩ := hbd
      obtain ⟨hn1, hn2⟩ := hn0
      go_wp2_with (first
        | (show wpList _ _ _ (Oper.mk (some 110) _ _ _ _ _ :: _) _ _
           refine wpList_load_at 58 (.tmp 109) rfl rfl rfl X HCC.out HX.out.2.2.2 ?_)
        | (show wpList _ _ _ (Oper.mk none (Op.store _ (Operand.tmp 18) (Operand.tmp 110)) _ _ _ _ :: _) _ _
           have hm : (wr.alloc (.cells #[.int .i64 0, .int .i64 0, .int .i64 0, .int .i64 0, .bool false] 58)).heap[wr.heap.size]? = some (.cells (tcl tst0).toArray 58 (0, 0)) := alloc_at0 _ _
           refine wpList_store_blk 58 (.tmp 18) (.tmp 110) (cs := X) rfl rfl rfl rfl rfl hm (by rw [HX.out.1]; exact Nat.le_refl _) HX.out.2.1 HX.out.2.2.2 ?_
           intro w8 hP hM
           rw [splice_whole (by rw [HX.out.1]; rfl), HX.out.2.2.1] at hM
           have hb : Below wr.heap.size wr w8 := (grow1 wr _).trans (hP.below (Nat.le_refl _))
           have hM8 := (hb.block _ (lt_of_heap HI.out.2)).trans HI.out.2
           have f80 : w8.cell? ⟨wr.heap.size, 0, none⟩ = some (.int .i64 xid) := cell_of_row w8 _ 0 _ _ _ hM
           have f81 : w8.cell? ⟨w6.heap.size, 0, none⟩ = some (.int .i64 n0) := cell_of_row w8 _ 0 _ _ _ hM8
           have H8 := Lib.hid (And.intro (HI.out.1.trans (hb.mono HI.out.1.size)) hM8)
           clear hP hM hM8 hm hb)
        | (show wpList _ _ _ (Oper.mk none (Op.store _ (Operand.tmp 16) (Operand.tmp 115)) _ _ _ _ :: _) _ _
           refine wpList_store_v5 3 (.tmp 16) (.tmp 115) (v := .int .i64 (max n0 (xid + 1))) rfl rfl rfl rfl rfl rfl rfl (L := [.int .i64 n0]) H8.out.2 (Nat.le_of_ble_eq_true rfl) infoInt6 ?_
           intro w9 hP hM
           have hM' : w9.heap[w6.heap.size]? = some (.cells [Value.int .i64 (nxtL (ts.take (i + 1)))].toArray 3 (0, 0)) := by rw [HST9.out]; exact hM
           have H9 := Lib.hid (And.intro (H8.out.1.trans (hP.below (Nat.le_refl _))) hM')
           clear hP hM hM'))
      go_roundg gi
      case measure => omega
      case rel => exact ⟨i + 1, by omega, by go_num, H9.out⟩
end Go.Proofs.YtddpebnmjfmgdaaGreat
