/-
  The law GradeMore: the walk.
-/
import Derived.BigGuardPart
import Derived.Test.YtboffligjgjgjaaGreatQM48
import Derived.Test.YtboffligjgjgjaaGreatQM38
import Derived.Test.YtboffligjgjgjaaGreatQM40
import Derived.Test.YtboffligjgjgjaaGreatQM36
set_option linter.all false
namespace Go.Proofs.YtboffligjgjgjaaGreat
open Go.RowKit Go.BigFrame
open R6 (done done_ne done_me upd_ne upd_me)

attribute [local go_sem] gives

theorem OwnS.mono5 {W : World} {b b' : Nat} {ps : List Pol} {ts : List Ts} {v1 v2 : Value} (h : OwnS W b ps ts v1 v2) (hb : b' ≤ b) : OwnS W b' ps ts v1 v2 := ⟨own_weak h.1 hb, own_weak h.2 hb⟩
theorem OwnS.put5 {W W' : World} {b g : Nat} {ps : List Pol} {ts : List Ts} {v1 v2 : Value} {cs : Array Value} {fr : Nat × Nat} (h : OwnS W b ps ts v1 v2) (hP : Put W W' g) (hb : W.heap[g]? = some (.cells cs 25 fr)) : OwnS W' b ps ts v1 v2 := ⟨own_put h.1 hP hb (by decide), own_put h.2 hP hb (by decide)⟩
theorem neqSpan5 (w : World) (s : Int × Int) : (binOp .neq 50 (.agg (sp2 s).toArray) (.agg (sp2 s).toArray)).run Tryz.prog w = .ok (.bool false) w := by
  unfold sp2
  rw [run_neq_struct, run_equalIn_agg _ _ _ _ _ stSpan5 heldSpan5]
  simp [Program.fieldsOf, Tryz.underlying50, Op.eqFields, go_sem]

set_option maxRecDepth 100000 in
set_option maxHeartbeats 32000000 in
theorem gradeMore_law (ps : List Pol) (ts : List Ts) (gs : List Gd) (vary few wh se : Int) (AP : Option Addr) (cp : Nat) (AT : Option Addr) (ct : Nat) (AG : Option Addr) (cg : Nat) (B : Nat) (w : World) (hB : B ≤ w.heap.size)
    (hz1 : Vals w B AP (ps.flatMap pcl)) (hz2 : Vals w B AT (ts.flatMap tcl)) (hz3 : Vals w B AG (gs.flatMap gcl)) (r1 : 0 ≤ few ∧ few ≤ 255) (r2 : 0 ≤ wh ∧ wh ≤ 255) (r3 : 0 ≤ se ∧ se ≤ 255) :
    Calls Tryz.prog 7 #[.agg #[.slice AP ps.length cp, .slice AT ts.length ct], .agg #[.slice AG gs.length cg, .int .i64 vary], .int .u8 few, .int .u8 wh, .int .u8 se] w fun e w' => e = .returned (.bool true) ∧ Below w.heap.size w w' := by
  have hrd := fun (W : World) (hW : Below w.heap.size w W) => grReady_any ps ts gs vary AP cp AT ct AG cg B W (Nat.le_trans hB hW.size) (hz1.below (hW.mono hB)) (hz2.below (hW.mono hB)) (hz3.below (hW.mono hB))
  obtain ⟨w1, hw1⟩ : ∃ w1, (w.alloc (.cells #[.slice AP ps.length cp, .slice AT ts.length ct] 25)).alloc (.cells #[.slice AG gs.length cg, .int .i64 vary] 28) = w1 := ⟨_, rfl⟩
  have hb1 : Below w.heap.size w w1 := by rw [← hw1]; exact grow2 _ _ _
  have m1 : w1.heap[w.heap.size]? = some (.cells [.slice AP ps.length cp, .slice AT ts.length ct].toArray 25 (0, 0)) := by rw [← hw1]; exact alloc2_at0 _ _ _
  have m2 : w1.heap[w.heap.size + 1]? = some (.cells [.slice AG gs.length cg, .int .i64 vary].toArray 28 (0, 0)) := by rw [← hw1]; exact alloc2_at1 _ _ _
  have H1 := Lib.hid (And.intro hb1 (And.intro m1 m2))
  have HR := Lib.hid (And.intro r1 (And.intro r2 r3))
  clear hb1 m1 m2 r1 r2 r3
  cases hrv : rdyS gs vary ps ts
  · rw [hrv] at hrd
    have HRD := Lib.hid hrd
    clear hrd hrv hz1 hz2 hz3
    go_enter Tryz.func7, Tryz.ntmps7
    go_wp2_with (first
      | (go_at_call 29
         refine (HRD.out w2 H2.out.1).mono ?_
         rintro e w3 ⟨rfl, hB3⟩
         have H3 := Lib.hid (And.intro (H2.out.1.trans (hB3.mono H2.out.1.size)) (And.intro ((hB3.block _ (lt_of_heap H2.out.2.1)).trans H2.out.2.1) ((hB3.block _ (lt_of_heap H2.out.2.2)).trans H2.out.2.2)))
         have f3 : w3.cell? ⟨w.heap.size, 0, none⟩ = some (.slice AP ps.length cp) := cell_of_row w3 _ 0 _ _ _ H3.out.2.1
         clear hB3)
      | (show wpList _ _ _ (Oper.mk (some 28) _ _ _ _ _ :: _) _ _
         refine wpList_load_blkG 25 (.tmp 5) rfl rfl rfl H2.out.2.1 [.slice AP ps.length cp, .slice AT ts.length ct] at0 rowSheetP ?_)
      | (show wpList _ _ _ (Oper.mk (some 29) _ _ _ _ _ :: _) _ _
         refine wpList_load_blkG 28 (.tmp 6) rfl rfl rfl H2.out.2.2 [.slice AG gs.length cg, .int .i64 vary] at0 rowGradingP ?_)
      | (go_at_call 20
         refine (grAlive_any w1).mono ?_
         rintro e w2 ⟨rfl, hB2⟩
         have H2 := Lib.hid (And.intro (H1.out.1.trans (hB2.mono H1.out.1.size)) (And.intro ((hB2.block _ (lt_of_heap H1.out.2.1)).trans H1.out.2.1) ((hB2.block _ (lt_of_heap H1.out.2.2)).trans H1.out.2.2)))
         clear hB2))
    go_ret
    exact ⟨rfl, H3.out.1⟩
  rw [hrv] at hrd
  have HRD := Lib.hid hrd
  by_cases hp0 : ps.length = 0
  · have hpe : ((ps.length : Int) == 0) = true := by rw [hp0]; rfl
    clear hrd hrv hz1 hz2 hz3 hp0
    go_enter Tryz.func7, Tryz.ntmps7
    go_wp2_with (first
      | (go_at_call 29
         refine (HRD.out w2 H2.out.1).mono ?_
         rintro e w3 ⟨rfl, hB3⟩
         have H3 := Lib.hid (And.intro (H2.out.1.trans (hB3.mono H2.out.1.size)) (And.intro ((hB3.block _ (lt_of_heap H2.out.2.1)).trans H2.out.2.1) ((hB3.block _ (lt_of_heap H2.out.2.2)).trans H2.out.2.2)))
         have f3 : w3.cell? ⟨w.heap.size, 0, none⟩ = some (.slice AP ps.length cp) := cell_of_row w3 _ 0 _ _ _ H3.out.2.1
         clear hB3)
      | (show wpList _ _ _ (Oper.mk (some 28) _ _ _ _ _ :: _) _ _
         refine wpList_load_blkG 25 (.tmp 5) rfl rfl rfl H2.out.2.1 [.slice AP ps.length cp, .slice AT ts.length ct] at0 rowSheetP ?_)
      | (show wpList _ _ _ (Oper.mk (some 29) _ _ _ _ _ :: _) _ _
         refine wpList_load_blkG 28 (.tmp 6) rfl rfl rfl H2.out.2.2 [.slice AG gs.length cg, .int .i64 vary] at0 rowGradingP ?_)
      | (go_at_call 20
         refine (grAlive_any w1).mono ?_
         rintro e w2 ⟨rfl, hB2⟩
         have H2 := Lib.hid (And.intro (H1.out.1.trans (hB2.mono H1.out.1.size)) (And.intro ((hB2.block _ (lt_of_heap H1.out.2.1)).trans H1.out.2.1) ((hB2.block _ (lt_of_heap H1.out.2.2)).trans H1.out.2.2)))
         clear hB2))
    go_ret
    exact ⟨rfl, H3.out.1⟩
  obtain ⟨hl, hck⟩ := rdyS_parts hrv
  have hpe : ((ps.length : Int) == 0) = false := beq_eq_false_iff_ne.2 (by omega)
  have hpz : ¬ (ps.length : Int) = 0 := by omega
  have HPZ := Lib.hid (And.intro hpe hpz)
  clear hpz
  have hkx : wh.toNat % ps.length < ps.length := Nat.mod_lt _ (by omega)
  have hk3 : se.toNat % 3 < 3 := Nat.mod_lt _ (by decide)
  have hmm : few.toNat % (ts.length + 1) ≤ ts.length := by have := Nat.mod_lt few.toNat (show 0 < ts.length + 1 by omega); omega
  have tm1 : wh.tmod (ps.length : Int) = ((wh.toNat % ps.length : Nat) : Int) := tmod_nat HR.out.2.1.1 _
  have tm2 : se.tmod 3 = ((se.toNat % 3 : Nat) : Int) := tmod_nat HR.out.2.2.1 3
  have tm3 : few.tmod ((ts.length : Int) + 1) = ((few.toNat % (ts.length + 1) : Nat) : Int) := by have := tmod_nat HR.out.1.1 (ts.length + 1); simpa using this
  generalize wh.toNat % ps.length = kx at hkx tm1
  generalize se.toNat % 3 = k at hk3 tm2
  generalize few.toNat % (ts.length + 1) = m at hmm tm3
  have hz : ShAt w B ps ts AP AT := ⟨hz1, hz2, by omega, by omega⟩
  have hg : GdAt w B gs AG := ⟨hz3, by omega⟩
  have htw := fun (W : World) (hW : Below w.heap.size w W) => rfTwin_any ps ts AP cp AT ct B W (Nat.le_trans hB hW.size) (hz.below (hW.mono hB)) (by omega) (by omega)
  unfold TwinPost at htw
  have HTW := Lib.hid htw
  obtain ⟨cP, oP, hAP, hcPB, hcP⟩ := vals_elem pcl_len hz1 (by decide) hkx
  obtain ⟨N, z1, z2, z3, ef, eh, ei, X, hF, hcs⟩ := moF_cases hck (List.getElem_mem hkx) hk3 m
  have hsec := okPol_secs ((grOk_of hck).po _ (List.getElem_mem hkx)).2
  generalize ps[kx] = y at hcP hF hcs hsec
  have hmT : (ts.take m).length = m := by simp; omega
  generalize hT : ts.take m = T at hF hmT
  subst hmT
  have HZG := Lib.hid (And.intro hz (And.intro hg (And.intro hB hz3)))
  have HT := Lib.hid hT
  have HPY := Lib.hid (And.intro hcP (Nat.lt_of_lt_of_le hcPB hB))
  have HF := Lib.hid hF
  have HCS := Lib.hid (And.intro hcs (And.intro hsec hk3))
  subst hAP
  have HTM := Lib.hid (And.intro tm1 (And.intro tm2 tm3))
  have HWI := Lib.hid (p := ((IntKind.i64.wrap wh = wh ∧ IntKind.i64.wrap se = se) ∧ (IntKind.i64.wrap few = few ∧ True))) ⟨⟨IntWalk.i64_in _ (by have := HR.out; omega) , IntWalk.i64_in _ (by have := HR.out; omega)⟩, IntWalk.i64_in _ (by have := HR.out; omega), trivial⟩
  have HKX := Lib.hid (And.intro hkx (And.intro hmm (And.intro hl hp0)))
  clear hrd hrv hz1 hz2 hz3 hck hz hg htw hcP hF hcs hsec hT hcPB tm1 tm2 tm3 hkx hmm hk3 hl hp0
  go_enter Tryz.func7, Tryz.ntmps7
  go_wp2_with (first
    | (go_at_call 29
       refine (HRD.out w2 H2.out.1).mono ?_
       rintro e w3 ⟨rfl, hB3⟩
       have H3 := Lib.hid (And.intro (H2.out.1.trans (hB3.mono H2.out.1.size)) (And.intro ((hB3.block _ (lt_of_heap H2.out.2.1)).trans H2.out.2.1) ((hB3.block _ (lt_of_heap H2.out.2.2)).trans H2.out.2.2)))
       have f3 : w3.cell? ⟨w.heap.size, 0, none⟩ = some (.slice (some ⟨cP, oP, none⟩) ps.length cp) := cell_of_row w3 _ 0 _ _ _ H3.out.2.1
       clear hB3)
    | (show wpList _ _ _ (Oper.mk (some 28) _ _ _ _ _ :: _) _ _
       refine wpList_load_blkG 25 (.tmp 5) rfl rfl rfl H2.out.2.1 [.slice (some ⟨cP, oP, none⟩) ps.length cp, .slice AT ts.length ct] at0 rowSheetP ?_)
    | (show wpList _ _ _ (Oper.mk (some 29) _ _ _ _ _ :: _) _ _
       refine wpList_load_blkG 28 (.tmp 6) rfl rfl rfl H2.out.2.2 [.slice AG gs.length cg, .int .i64 vary] at0 rowGradingP ?_)
    | (go_at_call 20
       refine (grAlive_any w1).mono ?_
       rintro e w2 ⟨rfl, hB2⟩
       have H2 := Lib.hid (And.intro (H1.out.1.trans (hB2.mono H1.out.1.size)) (And.intro ((hB2.block _ (lt_of_heap H1.out.2.1)).trans H1.out.2.1) ((hB2.block _ (lt_of_heap H1.out.2.2)).trans H1.out.2.2)))
       clear hB2))
  clear f3
  refine R6.wp_walk (C := MkS w3 13 14 12 56 (pcl pol0) (pcl y)) 224 (by kernel_rfl) (by kernel_rfl) rfl (MkS.start (fun _ => rfl)) ?_
  simp only []
  repeat (first
    | (refine' R6.WalkR.det (fun _ => rfl) (fun D ρ W hK hC => ?_) ?_
       rotate_left
       · have f1 : W.cell? ⟨w.heap.size, 0, none⟩ = some (.slice (some ⟨cP, oP, none⟩) ps.length cp) := cell_of_row W _ 0 _ _ _ ((hC.bel.block _ (lt_of_heap H3.out.2.1)).trans H3.out.2.1)
         obtain ⟨q1, q2, -⟩ := HTM.out
         obtain ⟨-, ⟨q4, q5⟩, q6, q7⟩ := HR.out
         have q8 : (kx : Int) < ps.length := by have := HKX.out.1; omega
         have q9 : ¬ ps.length = 0 := HKX.out.2.2.2
         have q10 := HPZ.out.1
         have q11 := HPZ.out.2
         obtain ⟨⟨i1, i2⟩, i3, -⟩ := HWI.out
         have HC := Lib.hid hC
         clear hC hK
         go_simp
         with_reducible exact ⟨rfl, HC.out.move (by decide)⟩
       simp only [Act.put, List.setIfInBounds_toArray, List.set_cons_succ, List.set_cons_zero]))
  refine' R6.WalkR.det (fun _ => rfl) (fun D ρ W hK hC => ?_) ?_
  rotate_left
  · have hc := fun j v hv => ((H3.out.1.trans (hC.bel.mono H3.out.1.size)).cell (p := ⟨cP, oP + kx * 12 + j, none⟩) HPY.out.2).trans (HPY.out.1 j v hv)
    exact gives_load_at 56 (.tmp 51) rfl rfl (pcl y) hc rowPole ⟨rfl, hC.move (by decide)⟩
  simp only [Act.put, List.setIfInBounds_toArray, List.set_cons_succ, List.set_cons_zero]
  repeat (first
    | (refine' R6.WalkR.det (fun _ => rfl) (fun D ρ W hK hC => ?_) ?_
       rotate_left
       · have f1 : W.cell? ⟨w.heap.size, 0, none⟩ = some (.slice (some ⟨cP, oP, none⟩) ps.length cp) := cell_of_row W _ 0 _ _ _ ((hC.bel.block _ (lt_of_heap H3.out.2.1)).trans H3.out.2.1)
         obtain ⟨q1, q2, -⟩ := HTM.out
         obtain ⟨-, ⟨q4, q5⟩, q6, q7⟩ := HR.out
         have q8 : (kx : Int) < ps.length := by have := HKX.out.1; omega
         have q9 : ¬ ps.length = 0 := HKX.out.2.2.2
         have q10 := HPZ.out.1
         have q11 := HPZ.out.2
         obtain ⟨⟨i1, i2⟩, i3, -⟩ := HWI.out
         have HC := Lib.hid hC
         clear hC hK
         go_simp
         with_reducible exact ⟨rfl, HC.out.move (by decide)⟩
       simp only [Act.put, List.setIfInBounds_toArray, List.set_cons_succ, List.set_cons_zero]))
  refine' R6.WalkR.nd (fun _ => rfl) rfl (fun D ρ W hK hC => ?_) ?_
  · have HC := Lib.hid (And.intro hC (hK.post 14 (by decide +kernel)))
    clear hC hK
    go_simp
    exact HC.out.1.made (by decide) HC.out.2 rfl
  simp only [Act.put, List.setIfInBounds_toArray, List.set_cons_succ, List.set_cons_zero]
  refine' R6.WalkR.det (c := undef) (fun _ => rfl) (fun D ρ W hK hC => ?_) ?_
  · obtain ⟨b, hb0, hv, hm⟩ := hC.new (hK.pre 13 (by decide +kernel))
    rw [hK.me, if_neg (by decide)] at hm
    refine gives_store_blk 56 (.tmp 12) (.tmp 52) (cs := pcl y) rfl hv rfl hm (Nat.le_refl _) (fun v hv => pcl_one [y] v (by simpa using hv)) rowPole ?_
    intro W' hP hM
    rw [splice_whole (by rfl)] at hM
    exact ⟨rfl, hC.put (by decide) hb0 hv hP hM⟩
  simp only [Act.put, List.setIfInBounds_toArray, List.set_cons_succ, List.set_cons_zero]
  repeat (first
    | (refine' R6.WalkR.det (fun _ => rfl) (fun D ρ W hK hC => ?_) ?_
       rotate_left
       · skip
         have HC := Lib.hid hC
         clear hC hK
         go_simp
         with_reducible exact ⟨rfl, HC.out.move (by decide)⟩
       simp only [Act.put, List.setIfInBounds_toArray, List.set_cons_succ, List.set_cons_zero]))
  refine R6.WalkR.nil (fun D ρ W4 hD hC => ?_)
  obtain ⟨b12, hb12, hv12, hm12⟩ := hC.new (hD 13 (by omega))
  rw [hD 14 (by omega), if_pos rfl] at hm12
  simp only [hv12]
  have H4 := Lib.hid (And.intro (H3.out.1.trans (hC.bel.mono H3.out.1.size)) (And.intro ((hC.bel.block _ (lt_of_heap H3.out.2.1)).trans H3.out.2.1) (And.intro ((hC.bel.block _ (lt_of_heap H3.out.2.2)).trans H3.out.2.2) hm12)))
  have HL4 := Lib.hid (Nat.le_trans H3.out.1.size hb12)
  clear hC hD hv12 hm12 hb12
  go_wp2
  refine R6.wp_walk (C := TsC W4 ps ts [(w.heap.size, .cells #[.slice (some ⟨cP, oP, none⟩) ps.length cp, .slice AT ts.length ct] 25), (w.heap.size + 1, .cells #[.slice AG gs.length cg, .int .i64 vary] 28), (b12, .cells (pcl y).toArray 56)] 57 59 14 15) 224 (by kernel_rfl) (by kernel_rfl) rfl
    ⟨(Below.refl _ _).drew, ⟨H4.out.2.1, H4.out.2.2.1, H4.out.2.2.2, trivial⟩, (fun e => by cases e), (fun e => by cases e), (fun e => by cases e), (fun e => by cases e)⟩ ?_
  simp only []
  refine' R6.WalkR.det (fun _ => rfl) (fun D ρ W hK hC => ?_) ?_
  rotate_left
  · exact gives_load_blk 25 (.tmp 5) rfl rfl hC.box.1 [.slice (some ⟨cP, oP, none⟩) ps.length cp, .slice AT ts.length ct] at0 rowSheetP ⟨rfl, hC.move (by decide)⟩
  simp only [Act.put, List.setIfInBounds_toArray, List.set_cons_succ, List.set_cons_zero]
  refine' R6.WalkR.nd (fun _ => rfl) rfl (fun D ρ W hK hC => ?_) ?_
  · have HC := Lib.hid (And.intro hC (hK.post 6 (by decide +kernel)))
    clear hC hK
    go_simp
    go_at_call 13
    refine (HTW.out W (H4.out.1.trans (HC.out.1.bel.mono H4.out.1.size))).mono ?_
    rintro e W1 ⟨v1, v2, rfl, ho, hB1⟩
    exact ⟨_, rfl, HC.out.1.twa HC.out.2 rfl rfl rfl hB1 ho⟩
  simp only [Act.put, List.setIfInBounds_toArray, List.set_cons_succ, List.set_cons_zero]
  refine' R6.WalkR.det (fun _ => rfl) (fun D ρ W hK hC => ?_) ?_
  rotate_left
  · exact gives_load_blk 25 (.tmp 5) rfl rfl hC.box.1 [.slice (some ⟨cP, oP, none⟩) ps.length cp, .slice AT ts.length ct] at0 rowSheetP ⟨rfl, hC.move (by decide)⟩
  simp only [Act.put, List.setIfInBounds_toArray, List.set_cons_succ, List.set_cons_zero]
  refine' R6.WalkR.nd (fun _ => rfl) rfl (fun D ρ W hK hC => ?_) ?_
  · have HC := Lib.hid (And.intro hC (hK.post 7 (by decide +kernel)))
    clear hC hK
    go_simp
    go_at_call 13
    refine (HTW.out W (H4.out.1.trans (HC.out.1.bel.mono H4.out.1.size))).mono ?_
    rintro e W1 ⟨v1, v2, rfl, ho, hB1⟩
    exact ⟨_, rfl, HC.out.1.twb HC.out.2 rfl rfl rfl hB1 ho⟩
  simp only [Act.put, List.setIfInBounds_toArray, List.set_cons_succ, List.set_cons_zero]
  refine' R6.WalkR.nd (fun _ => rfl) rfl (fun D ρ W hK hC => ?_) ?_
  · have HC := Lib.hid (And.intro hC (hK.post 6 (by decide +kernel)))
    clear hC hK
    go_simp
    exact TsC.alp (X := [.slice none 0 0, .slice none 0 0]) rfl HC.out.1 HC.out.2 rfl rfl rfl
  simp only [Act.put, List.setIfInBounds_toArray, List.set_cons_succ, List.set_cons_zero]
  refine' R6.WalkR.nd (fun _ => rfl) rfl (fun D ρ W hK hC => ?_) ?_
  · have HC := Lib.hid (And.intro hC (hK.post 7 (by decide +kernel)))
    clear hC hK
    go_simp
    exact TsC.alq (X := [.slice none 0 0, .slice none 0 0]) rfl HC.out.1 HC.out.2 rfl rfl rfl
  simp only [Act.put, List.setIfInBounds_toArray, List.set_cons_succ, List.set_cons_zero]
  refine' R6.WalkR.det (c := undef) (fun _ => rfl) (fun D ρ W hK hC => ?_) ?_
  · obtain ⟨v1, v2, ha, ho⟩ := hC.sa (hK.pre 1 (by decide +kernel))
    obtain ⟨g, hvp, hg0, ⟨X0, hX0, hhX, -⟩, hn⟩ := hC.sp (hK.pre 4 (by decide +kernel))
    obtain ⟨A1, c1, rfl⟩ := own_slice ho.1
    obtain ⟨A2, c2, rfl⟩ := own_slice ho.2
    refine gives_store_blk 25 (.tmp 14) (.tmp 57) (cs := [.slice A1 ps.length c1, .slice A2 ts.length c2]) rfl hvp ha hhX (by rw [hX0]; exact Nat.le_refl _) (by intro v hv; simp only [List.mem_cons, List.not_mem_nil, or_false] at hv; rcases hv with rfl | rfl <;> rfl) rowSheetP ?_
    intro W' hP hM
    rw [splice_whole hX0] at hM
    exact ⟨rfl, hC.putp hP hg0 (fun e he => by have := H4.out.1.size; have := lt_of_heap H4.out.2.2.1; have := lt_of_heap H4.out.2.2.2; simp only [List.mem_cons, List.not_mem_nil, or_false] at he; rcases he with rfl | rfl | rfl <;> (dsimp only; omega)) hhX hvp rfl hM ha hn⟩
  simp only [Act.put, List.setIfInBounds_toArray, List.set_cons_succ, List.set_cons_zero]
  refine' R6.WalkR.det (c := undef) (fun _ => rfl) (fun D ρ W hK hC => ?_) ?_
  · obtain ⟨v1, v2, ha, ho⟩ := hC.sb (hK.pre 3 (by decide +kernel))
    have h5 := hK.pre 5 (by decide +kernel)
    obtain ⟨g, hvq, hg0, X0, hX0, hhX, -⟩ := hC.sq h5
    obtain ⟨A1, c1, rfl⟩ := own_slice ho.1
    obtain ⟨A2, c2, rfl⟩ := own_slice ho.2
    refine gives_store_blk 25 (.tmp 15) (.tmp 59) (cs := [.slice A1 ps.length c1, .slice A2 ts.length c2]) rfl hvq ha hhX (by rw [hX0]; exact Nat.le_refl _) (by intro v hv; simp only [List.mem_cons, List.not_mem_nil, or_false] at hv; rcases hv with rfl | rfl <;> rfl) rowSheetP ?_
    intro W' hP hM
    rw [splice_whole hX0] at hM
    exact ⟨rfl, hC.putq hP hg0 (fun e he => by have := H4.out.1.size; have := lt_of_heap H4.out.2.2.1; have := lt_of_heap H4.out.2.2.2; simp only [List.mem_cons, List.not_mem_nil, or_false] at he; rcases he with rfl | rfl | rfl <;> (dsimp only; omega)) hhX h5 hvq rfl hM ha⟩
  simp only [Act.put, List.setIfInBounds_toArray, List.set_cons_succ, List.set_cons_zero]
  refine R6.WalkR.nil (fun D ρ W5 hD hC => ?_)
  obtain ⟨v1, v2, h57, ho1⟩ := hC.sa (hD 1 (by omega))
  obtain ⟨u1, u2, h59, ho2⟩ := hC.sb (hD 3 (by omega))
  obtain ⟨g14, hv14, hg14, ⟨X1, hX1, hh14, hx1⟩, hn⟩ := hC.sp (hD 4 (by omega))
  obtain ⟨g15, hv15, hg15, X2, hX2, hh15, hx2⟩ := hC.sq (hD 5 (by omega))
  have hn := hn (hD 5 (by omega))
  have hx1 := hx1 (hD 6 (by omega))
  have hx2 := hx2 (hD 7 (by omega))
  obtain ⟨A1, c1, rfl⟩ := own_slice ho1.1
  obtain ⟨A2, c2, rfl⟩ := own_slice ho1.2
  obtain ⟨B1, d1, rfl⟩ := own_slice ho2.1
  obtain ⟨B2, d2, rfl⟩ := own_slice ho2.2
  rw [h57] at hx1
  rw [h59] at hx2
  simp only [Value.agg.injEq] at hx1 hx2
  rw [← hx1] at hh14
  rw [← hx2] at hh15
  have hne : g14 ≠ g15 := fun e => hn (by rw [hv15, e])
  simp only [hv14, hv15, h57, h59]
  have H5 := Lib.hid (And.intro (H4.out.1.trans (hC.bel.mono H4.out.1.size)) (And.intro hC.box.1 (And.intro hC.box.2.1 (And.intro hC.box.2.2.1 (And.intro hh14 hh15)))))
  have HO1 := Lib.hid ho1
  have HO2 := Lib.hid ho2
  have HNE := Lib.hid (And.intro hne (And.intro (Nat.le_trans H4.out.1.size hg14) (And.intro (Nat.le_trans H4.out.1.size hg15) (And.intro (Nat.lt_of_lt_of_le (lt_of_heap H4.out.2.2.2) hg14) (And.intro (Nat.lt_of_lt_of_le (lt_of_heap H4.out.2.2.2) hg15) (Nat.lt_of_lt_of_le (lt_of_heap H4.out.2.2.1) hg14))))))
  have HN2 := Lib.hid (Nat.lt_of_lt_of_le (lt_of_heap H4.out.2.2.1) hg15)
  clear hC hD hv14 hv15 h57 h59 hx1 hx2 hh14 hh15 hn hne hg14 hg15 hX1 hX2 ho1 ho2
  go_wp2
  have hoa := own_addr HO1.out.2
  have HOA := Lib.hid hoa
  clear hoa
  have hos := And.intro (OwnS.mono5 HO1.out (Nat.le_trans H4.out.1.size (Nat.le_refl _))) (OwnS.mono5 HO2.out (Nat.le_trans H4.out.1.size (Nat.le_refl _)))
  have HOS := Lib.hid hos
  clear hos
  refine R6.wp_walk (C := fun D σ W => StM w g14 25 [.slice A1 ps.length c1, .slice A2 ts.length c2] [.slice A1 ps.length c1, .slice A2 T.length c2] [(w.heap.size, .cells #[.slice (some ⟨cP, oP, none⟩) ps.length cp, .slice AT ts.length ct] 25), (w.heap.size + 1, .cells #[.slice AG gs.length cg, .int .i64 vary] 28), (b12, .cells (pcl y).toArray 56), (g15, .cells #[.slice B1 ps.length d1, .slice B2 ts.length d2] 25)] 11 D σ W ∧ (OwnS W w.heap.size ps ts (.slice A1 ps.length c1) (.slice A2 ts.length c2) ∧ OwnS W w.heap.size ps ts (.slice B1 ps.length d1) (.slice B2 ts.length d2))) 224 (by kernel_rfl) (by kernel_rfl) rfl
    ⟨⟨H5.out.1.drew, fun _ => H5.out.2.2.2.2.1, (fun e => by cases e), lt_of_heap H5.out.2.2.2.2.1, ⟨H5.out.2.1, H5.out.2.2.1, H5.out.2.2.2.1, H5.out.2.2.2.2.2, trivial⟩⟩, HOS.out⟩ ?_
  simp only []
  repeat (first
    | (refine' R6.WalkR.det (fun _ => rfl) (fun D ρ W hK hC => ?_) ?_
       rotate_left
       · have f1 : W.cell? ⟨w.heap.size, 1, none⟩ = some (.slice AT ts.length ct) := cell_of_row W _ 1 _ _ _ hC.1.box.1
         have f2 : W.cell? ⟨g14, 1, none⟩ = some (.slice A2 ts.length c2) := cell_of_row W _ 1 _ _ _ (hC.1.hX (hK.post 11 (by decide +kernel)))
         obtain ⟨-, -, q3⟩ := HTM.out
         obtain ⟨⟨-, -⟩, i3, -⟩ := HWI.out
         have q12 : IntKind.i64.wrap ((ts.length : Int) + 1) = (ts.length : Int) + 1 := IntWalk.i64_in _ (by have := HKX.out.2.2.1; omega)
         have q13 : ((ts.length : Int) + 1 == 0) = false := beq_eq_false_iff_ne.2 (by omega)
         have q14 : ¬ (ts.length : Int) + 1 = 0 := by omega
         have HC := Lib.hid hC
         clear hC hK
         go_simp
         with_reducible exact ⟨rfl, ⟨HC.out.1.move (by decide), HC.out.2⟩⟩
       simp only [Act.put, List.setIfInBounds_toArray, List.set_cons_succ, List.set_cons_zero]))
  refine' R6.WalkR.det (fun _ => rfl) (fun D ρ W hK hC => ?_) ?_
  rotate_left
  · obtain ⟨i, hi⟩ := infoTestS5
    refine gives_slice_h5 23 (.tmp 61) (.tmp 68) rfl underTestS5 rfl rfl (h := (T.length : Int)) (by omega) (by have := HOA.out.2; have := HKX.out.2.1; omega) hi cellsTestS5 ?_
    rw [sliced_zero HOA.out.1]
    exact ⟨rfl, hC.1.move (by decide), hC.2⟩
  simp only [Act.put, List.setIfInBounds_toArray, List.set_cons_succ, List.set_cons_zero]
  repeat (first
    | (refine' R6.WalkR.det (fun _ => rfl) (fun D ρ W hK hC => ?_) ?_
       rotate_left
       · have f1 : W.cell? ⟨w.heap.size, 1, none⟩ = some (.slice AT ts.length ct) := cell_of_row W _ 1 _ _ _ hC.1.box.1
         have f2 : W.cell? ⟨g14, 1, none⟩ = some (.slice A2 ts.length c2) := cell_of_row W _ 1 _ _ _ (hC.1.hX (hK.post 11 (by decide +kernel)))
         obtain ⟨-, -, q3⟩ := HTM.out
         obtain ⟨⟨-, -⟩, i3, -⟩ := HWI.out
         have q12 : IntKind.i64.wrap ((ts.length : Int) + 1) = (ts.length : Int) + 1 := IntWalk.i64_in _ (by have := HKX.out.2.2.1; omega)
         have q13 : ((ts.length : Int) + 1 == 0) = false := beq_eq_false_iff_ne.2 (by omega)
         have q14 : ¬ (ts.length : Int) + 1 = 0 := by omega
         have HC := Lib.hid hC
         clear hC hK
         go_simp
         with_reducible exact ⟨rfl, ⟨HC.out.1.move (by decide), HC.out.2⟩⟩
       simp only [Act.put, List.setIfInBounds_toArray, List.set_cons_succ, List.set_cons_zero]))
  refine' R6.WalkR.det (c := undef) (fun _ => rfl) (fun D ρ W hK hC => ?_) ?_
  · refine gives_store_val 23 (.tmp 70) (.tmp 69) rfl rfl rfl rfl rfl (L := [.slice A1 ps.length c1, .slice A2 ts.length c2]) (hC.1.hX hK.me) (Nat.le_of_ble_eq_true rfl) infoTL5 ?_
    intro W' hP hM
    have hX := hC.1.hX hK.me
    exact ⟨rfl, hC.1.put hP hM HNE.out.2.1 (fun e he => by have h1 := H5.out.1.size; have h2 := HNE.out; have h3 := HN2.out; have h4 := lt_of_heap H5.out.2.1; simp only [List.mem_cons, List.not_mem_nil, or_false] at he; rcases he with rfl | rfl | rfl | rfl <;> (dsimp only; omega)), hC.2.1.put5 hP hX, hC.2.2.put5 hP hX⟩
  simp only [Act.put, List.setIfInBounds_toArray, List.set_cons_succ, List.set_cons_zero]
  refine R6.WalkR.nil (fun D ρ W6 hD hC => ?_)
  have H6 := Lib.hid (And.intro hC.1.bel (And.intro hC.1.box.1 (And.intro hC.1.box.2.1 (And.intro hC.1.box.2.2.1 (And.intro (hC.1.hY (hD 11 (by omega))) (And.intro hC.1.box.2.2.2.1 hC.2))))))
  clear hC hD
  obtain ⟨Z, hZ⟩ : ∃ Z : Int, (N : Int) = Z := ⟨_, rfl⟩
  have HZ := Lib.hid hZ
  clear hZ
  have hpre : ∀ w7 : World, Put W6 w7 g15 → w7.heap[g15]? = some (.cells ([.slice B1 ps.length d1, .slice B2 ts.length d2].set 1 (.slice none 0 0)).toArray 25 (0, 0)) → Below w.heap.size w w7 ∧ ((∀ W : World, Below w7.heap.size w7 W → (W.heap[w.heap.size]? = some (.cells #[.slice (some ⟨cP, oP, none⟩) ps.length cp, .slice AT ts.length ct] 25 (0, 0)) ∧ (W.heap[w.heap.size + 1]? = some (.cells #[.slice AG gs.length cg, .int .i64 vary] 28 (0, 0)) ∧ (W.heap[b12]? = some (.cells (pcl y).toArray 56 (0, 0)) ∧ (W.heap[g14]? = some (.cells #[.slice A1 ps.length c1, .slice A2 T.length c2] 25 (0, 0)) ∧ W.heap[g15]? = some (.cells #[.slice B1 ps.length d1, .slice none 0 0] 25 (0, 0))))))) ∧
      ((∀ W : World, Below w7.heap.size w7 W → Calls Tryz.prog 25 #[.agg #[.slice (some ⟨cP, oP, none⟩) ps.length cp, .slice AT ts.length ct], .agg #[.slice AG gs.length cg, .int .i64 vary], .int .i64 y.id] W fun e w' => e = .returned (.tuple #[.int .i64 Z, .int .i64 0]) ∧ Below W.heap.size W w') ∧
      ((∀ W : World, Below w7.heap.size w7 W → Calls Tryz.prog 26 #[.agg #[.slice (some ⟨cP, oP, none⟩) ps.length cp, .slice AT ts.length ct], .agg #[.slice AG gs.length cg, .int .i64 vary], .int .i64 y.id, .int .i64 (k : Int)] W fun e w' => e = .returned (.tuple #[.agg (sp2 z1).toArray, .int .i64 ef]) ∧ Below W.heap.size W w') ∧
      ((∀ W : World, Below w7.heap.size w7 W → Calls Tryz.prog 26 #[.agg #[.slice A1 ps.length c1, .slice A2 T.length c2], .agg #[.slice AG gs.length cg, .int .i64 vary], .int .i64 y.id, .int .i64 (k : Int)] W fun e w' => e = .returned (.tuple #[.agg (sp2 z2).toArray, .int .i64 eh]) ∧ Below W.heap.size W w') ∧
      ((∀ W : World, Below w7.heap.size w7 W → Calls Tryz.prog 26 #[.agg #[.slice B1 ps.length d1, .slice none 0 0], .agg #[.slice AG gs.length cg, .int .i64 vary], .int .i64 y.id, .int .i64 (k : Int)] W fun e w' => e = .returned (.tuple #[.agg (sp2 z3).toArray, .int .i64 ei]) ∧ Below W.heap.size W w') ∧
      ((∀ W : World, Below w7.heap.size w7 W → Calls Tryz.prog 33 #[.agg #[.slice B1 ps.length d1, .slice none 0 0], .agg #[.slice AG gs.length cg, .int .i64 vary]] W fun e w' => (∃ A c, e = .returned (.tuple #[.slice A 0 c, .int .i64 0])) ∧ Below W.heap.size W w') ∧
      Vals w7 w.heap.size AG (gs.flatMap gcl))))))) := by
    intro w7 hP hM
    obtain ⟨hb, x1, x2, x3, x4, x5, o1, o2⟩ := H6.out
    obtain ⟨n1, n2, n3, n4, n5, n6⟩ := HNE.out
    have n7 := HN2.out
    have lw := lt_of_heap H5.out.2.1
    have hsz := H5.out.1.size
    have p1 := o1.put5 hP x5
    have p2 := o2.put5 hP x5
    have hb7 : Below w.heap.size w w7 := hb.trans (hP.below n3)
    have y1 := (hP.other w.heap.size (by omega)).trans x1
    have y2 := (hP.other (w.heap.size + 1) (by omega)).trans x2
    have y3 := (hP.other b12 (by omega)).trans x3
    have y4 := (hP.other g14 n1).trans x4
    have hz7 : ShAt w7 w7.heap.size ps ts (some ⟨cP, oP, none⟩) AT := (HZG.out.1.below (hb7.mono HZG.out.2.2.1)).mono (Nat.le_trans HZG.out.2.2.1 hb7.size)
    have hg7 : GdAt w7 w7.heap.size gs AG := (HZG.out.2.1.below (hb7.mono HZG.out.2.2.1)).mono (Nat.le_trans HZG.out.2.2.1 hb7.size)
    have hzT : ShAt w7 w7.heap.size ps T A1 A2 := ⟨Vals.own p1.1, by have := vals_take5 (Vals.own p1.2) T.length; rwa [HT.out] at this, hz7.lp, Nat.le_trans HKX.out.2.1 hz7.lt⟩
    have hzN : ShAt w7 w7.heap.size ps [] B1 none := ⟨Vals.own p2.1, fun h => absurd h (by simp), hz7.lp, Nat.zero_le _⟩
    refine ⟨hb7, fun W hW => ⟨(hW.block _ (lt_of_heap y1)).trans y1, (hW.block _ (lt_of_heap y2)).trans y2, (hW.block _ (lt_of_heap y3)).trans y3, (hW.block _ (lt_of_heap y4)).trans y4, (hW.block _ (lt_of_heap hM)).trans hM⟩, fun W hW => ?_, fun W hW => ?_, fun W hW => ?_, fun W hW => ?_, fun W hW => ?_, ?_⟩
    · have h := grGrade_any ps ts gs vary y.id (some ⟨cP, oP, none⟩) cp AT ct AG cg w7.heap.size W hW.size (hz7.below hW) (hg7.below hW)
      rw [HF.out.g, HZ.out] at h
      exact h
    · have h := grStrength_any ps ts gs vary y.id k (some ⟨cP, oP, none⟩) cp AT ct AG cg w7.heap.size W hW.size (hz7.below hW) (hg7.below hW)
      rw [HF.out.a] at h
      exact h
    · have h := grStrength_any ps T gs vary y.id k A1 c1 A2 c2 AG cg w7.heap.size W hW.size (hzT.below hW) (hg7.below hW)
      rw [HF.out.b] at h
      exact h
    · have h := grStrength_any ps [] gs vary y.id k B1 d1 none 0 AG cg w7.heap.size W hW.size (hzN.below hW) (hg7.below hW)
      rw [HF.out.c] at h
      exact h
    · have h := grClashP_any ps [] gs vary B1 d1 none 0 AG cg w7.heap.size W hW.size (hzN.below hW) (hg7.below hW)
      rw [HF.out.l] at h
      refine h.mono ?_
      rintro e w' ⟨A, c, he, -, hb'⟩
      exact ⟨⟨A, c, he⟩, hb'⟩
    · exact (HZG.out.2.2.2.below (hb7.mono HZG.out.2.2.1)).mono HZG.out.2.2.1
  have HPRE := Lib.hid hpre
  clear hpre
  have q10 : ((gs.length : Int) < 0) = False := eq_false (by omega)
  rcases HCS.out.1 with ⟨rfl, rfl, rfl, rfl⟩ | ⟨M, y', hM, rfl, hy', hX, rfl, hz3', hX1, hX2, hcc⟩
  · have hz0 : Z = 0 := by have := HZ.out; omega
    subst hz0
    go_wp2_with (first
      | (show wpList _ _ _ (Oper.mk none (Op.store _ (Operand.tmp 71) _) _ _ _ _ :: _) _ _
         refine wpList_store_v5 23 (.tmp 71) (.const (.slice none 0 0)) (v := .slice none 0 0) rfl rfl rfl rfl rfl rfl rfl (L := [.slice B1 ps.length d1, .slice B2 ts.length d2]) H6.out.2.2.2.2.2.1 (Nat.le_of_ble_eq_true rfl) infoTL5 ?_
         intro w7 hP hM
         obtain ⟨h0, h1, h2, h3, h4, h5, h6, h7⟩ := HPRE.out w7 hP hM
         have HW7 := Lib.hid h0
         have HBX := Lib.hid h1
         have HGR := Lib.hid h2
         have HSA := Lib.hid h3
         have HSB := Lib.hid h4
         have HSC := Lib.hid h5
         have HCL := Lib.hid h6
         have HVG := Lib.hid h7
         clear hP hM h0 h1 h2 h3 h4 h5 h6 h7
         have fk7 : w7.cell? ⟨b12, 0, none⟩ = some (.int .i64 y.id) := cell_of_row w7 _ 0 _ _ _ (HBX.out w7 (Below.refl w7.heap.size w7)).2.2.1)
      | (show wpList _ _ _ (Oper.mk (some 73) _ _ _ _ _ :: _) _ _
         refine wpList_load_blk 25 (.tmp 5) rfl rfl rfl (HBX.out w7 (Below.refl w7.heap.size w7)).1 [.slice (some ⟨cP, oP, none⟩) ps.length cp, .slice AT ts.length ct] at0 rowSheetP ?_)
      | (show wpList _ _ _ (Oper.mk (some 74) _ _ _ _ _ :: _) _ _
         refine wpList_load_blk 28 (.tmp 6) rfl rfl rfl (HBX.out w7 (Below.refl w7.heap.size w7)).2.1 [.slice AG gs.length cg, .int .i64 vary] at0 rowGradingP ?_)
      | (go_at_call 25
         (with_reducible show Calls _ _ _ w7 _)
         refine (HGR.out w7 (Below.refl w7.heap.size w7)).mono ?_
         rintro e w8 ⟨rfl, hB8⟩
         have HB8 := Lib.hid (((Below.refl w7.heap.size w7)).trans (hB8.mono ((Below.refl w7.heap.size w7)).size))
         have HS8 := Lib.hid hB8
         have fk8 : w8.cell? ⟨b12, 0, none⟩ = some (.int .i64 y.id) := cell_of_row w8 _ 0 _ _ _ (HBX.out w8 HB8.out).2.2.1
         clear hB8)
      | (show wpList _ _ _ (Oper.mk (some 81) _ _ _ _ _ :: _) _ _
         refine wpList_load_blk 25 (.tmp 5) rfl rfl rfl (HBX.out w8 HB8.out).1 [.slice (some ⟨cP, oP, none⟩) ps.length cp, .slice AT ts.length ct] at0 rowSheetP ?_)
      | (show wpList _ _ _ (Oper.mk (some 82) _ _ _ _ _ :: _) _ _
         refine wpList_load_blk 28 (.tmp 6) rfl rfl rfl (HBX.out w8 HB8.out).2.1 [.slice AG gs.length cg, .int .i64 vary] at0 rowGradingP ?_)
      | (go_at_call 26
         (with_reducible show Calls _ _ _ w8 _)
         refine (HSA.out w8 HB8.out).mono ?_
         rintro e w9 ⟨rfl, hB9⟩
         have HB9 := Lib.hid ((HB8.out).trans (hB9.mono (HB8.out).size))
         have HS9 := Lib.hid hB9
         clear hB9)
      | (show wpList _ _ _ (Oper.mk none (Op.store _ (Operand.tmp 18) (Operand.tmp 87)) _ _ _ _ :: _) _ _
         have hm : (w9.alloc (.cells #[.int .i64 0, .int .i64 0] 50)).heap[w9.heap.size]? = some (.cells [Value.int .i64 0, .int .i64 0].toArray 50 (0, 0)) := alloc_at0 _ _
         refine wpList_store_blk 50 (.tmp 18) (.tmp 87) rfl rfl rfl rfl (cs := sp2 z1) rfl hm (Nat.le_of_ble_eq_true rfl) (sp2_one _) rowSpan5 ?_
         intro w10 hP hM
         rw [splice_whole (by rfl)] at hM
         have hb : Below w9.heap.size w9 w10 := (grow1 w9 _).trans (hP.below (Nat.le_refl _))
         have HB10 := Lib.hid ((HB9.out).trans (hb.mono (HB9.out).size))
         have HM10 := Lib.hid hM
         have HS10 := Lib.hid hb
         have fk10 : w10.cell? ⟨b12, 0, none⟩ = some (.int .i64 y.id) := cell_of_row w10 _ 0 _ _ _ (HBX.out w10 HB10.out).2.2.1
         clear hP hM hm hb)
      | (show wpList _ _ _ (Oper.mk (some 90) _ _ _ _ _ :: _) _ _
         refine wpList_load_blk 25 (.tmp 14) rfl rfl rfl (HBX.out w10 HB10.out).2.2.2.1 [.slice A1 ps.length c1, .slice A2 T.length c2] at0 rowSheetP ?_)
      | (show wpList _ _ _ (Oper.mk (some 91) _ _ _ _ _ :: _) _ _
         refine wpList_load_blk 28 (.tmp 6) rfl rfl rfl (HBX.out w10 HB10.out).2.1 [.slice AG gs.length cg, .int .i64 vary] at0 rowGradingP ?_)
      | (go_at_call 26
         (with_reducible show Calls _ _ _ w10 _)
         refine (HSB.out w10 HB10.out).mono ?_
         rintro e w11 ⟨rfl, hB11⟩
         have HB11 := Lib.hid ((HB10.out).trans (hB11.mono (HB10.out).size))
         have HS11 := Lib.hid hB11
         clear hB11)
      | (show wpList _ _ _ (Oper.mk none (Op.store _ (Operand.tmp 20) (Operand.tmp 96)) _ _ _ _ :: _) _ _
         have hm : (w11.alloc (.cells #[.int .i64 0, .int .i64 0] 50)).heap[w11.heap.size]? = some (.cells [Value.int .i64 0, .int .i64 0].toArray 50 (0, 0)) := alloc_at0 _ _
         refine wpList_store_blk 50 (.tmp 20) (.tmp 96) rfl rfl rfl rfl (cs := sp2 z2) rfl hm (Nat.le_of_ble_eq_true rfl) (sp2_one _) rowSpan5 ?_
         intro w12 hP hM
         rw [splice_whole (by rfl)] at hM
         have hb : Below w11.heap.size w11 w12 := (grow1 w11 _).trans (hP.below (Nat.le_refl _))
         have HB12 := Lib.hid ((HB11.out).trans (hb.mono (HB11.out).size))
         have HM12 := Lib.hid hM
         have HS12 := Lib.hid hb
         have fk12 : w12.cell? ⟨b12, 0, none⟩ = some (.int .i64 y.id) := cell_of_row w12 _ 0 _ _ _ (HBX.out w12 HB12.out).2.2.1
         clear hP hM hm hb)
      | (show wpList _ _ _ (Oper.mk (some 99) _ _ _ _ _ :: _) _ _
         refine wpList_load_blk 25 (.tmp 15) rfl rfl rfl (HBX.out w12 HB12.out).2.2.2.2 [.slice B1 ps.length d1, .slice none 0 0] at0 rowSheetP ?_)
      | (show wpList _ _ _ (Oper.mk (some 100) _ _ _ _ _ :: _) _ _
         refine wpList_load_blk 28 (.tmp 6) rfl rfl rfl (HBX.out w12 HB12.out).2.1 [.slice AG gs.length cg, .int .i64 vary] at0 rowGradingP ?_)
      | (go_at_call 26
         (with_reducible show Calls _ _ _ w12 _)
         refine (HSC.out w12 HB12.out).mono ?_
         rintro e w13 ⟨rfl, hB13⟩
         have HB13 := Lib.hid ((HB12.out).trans (hB13.mono (HB12.out).size))
         have HS13 := Lib.hid hB13
         clear hB13)
      | (show wpList _ _ _ (Oper.mk none (Op.store _ (Operand.tmp 22) (Operand.tmp 105)) _ _ _ _ :: _) _ _
         have hm : (w13.alloc (.cells #[.int .i64 0, .int .i64 0] 50)).heap[w13.heap.size]? = some (.cells [Value.int .i64 0, .int .i64 0].toArray 50 (0, 0)) := alloc_at0 _ _
         refine wpList_store_blk 50 (.tmp 22) (.tmp 105) rfl rfl rfl rfl (cs := sp2 z3) rfl hm (Nat.le_of_ble_eq_true rfl) (sp2_one _) rowSpan5 ?_
         intro w14 hP hM
         rw [splice_whole (by rfl)] at hM
         have hb : Below w13.heap.size w13 w14 := (grow1 w13 _).trans (hP.below (Nat.le_refl _))
         have HB14 := Lib.hid ((HB13.out).trans (hb.mono (HB13.out).size))
         have HM14 := Lib.hid hM
         have HS14 := Lib.hid hb
         clear hP hM hm hb)
      | (show wpList _ _ _ (Oper.mk (some 108) _ _ _ _ _ :: _) _ _
         refine wpList_load_blk 25 (.tmp 15) rfl rfl rfl (HBX.out w14 HB14.out).2.2.2.2 [.slice B1 ps.length d1, .slice none 0 0] at0 rowSheetP ?_)
      | (show wpList _ _ _ (Oper.mk (some 109) _ _ _ _ _ :: _) _ _
         refine wpList_load_blk 28 (.tmp 6) rfl rfl rfl (HBX.out w14 HB14.out).2.1 [.slice AG gs.length cg, .int .i64 vary] at0 rowGradingP ?_)
      | (go_at_call 33
         (with_reducible show Calls _ _ _ w14 _)
         refine (HCL.out w14 HB14.out).mono ?_
         rintro e w15 ⟨⟨AL, cL, rfl⟩, hB15⟩
         have HB15 := Lib.hid ((HB14.out).trans (hB15.mono (HB14.out).size))
         have HS15 := Lib.hid hB15
         have fg15 : w15.cell? ⟨w.heap.size + 1, 0, none⟩ = some (.slice AG gs.length cg) := cell_of_row w15 _ 0 _ _ _ (HBX.out w15 HB15.out).2.1
         clear hB15))
    go_ret
    exact ⟨rfl, HW7.out.trans (HB15.out.mono HW7.out.size)⟩
  obtain ⟨cG, oG, hAG, hcGB, hcG⟩ := vals_elem gcl_len HZG.out.2.2.2 (by decide) hM
  subst hAG
  have hxc : ∀ W : World, Below w.heap.size w W → ∀ j v, (sp2 X)[j]? = some v → W.cell? ⟨cG, oG + M * 8 + (2 + k * 2 + j), none⟩ = some v := fun W hW j v hv =>
    (hW.cell (p := ⟨cG, oG + M * 8 + (2 + k * 2 + j), none⟩) (Nat.lt_of_lt_of_le hcGB HZG.out.2.2.1)).trans (hcG _ v (by rw [hy']; rw [hX] at hv; exact gcl_st0 y' HCS.out.2.2 j v hv))
  have HXC := Lib.hid hxc
  have hba := fun W => rfBears_any y k X.1 HCS.out.2.2 HCS.out.2.1 (by omega) hX1.2 W
  have HBA := Lib.hid hba
  have hbb := fun W => rfBears_any y k X.2 HCS.out.2.2 HCS.out.2.1 (by omega) hX2.2 W
  have HBB := Lib.hid hbb
  have hsp := fun W => exSpan_any (bears y k X.1) (bears y k X.2) W
  rw [← hz3'] at hsp
  have HSP := Lib.hid hsp
  have HCC := Lib.hid hcc
  have q1 : (Z < 0) = False := eq_false (by have := HZ.out; omega)
  have q2 : ((gs.length : Int) < Z) = False := eq_false (by have := HZ.out; omega)
  have q3 : (Z == 0) = false := beq_eq_false_iff_ne.2 (by have := HZ.out; omega)
  have q3' : (Z = 0) = False := eq_false (by have := HZ.out; omega)
  have q4 : IntKind.i64.wrap (Z - 1) = (M : Int) := by rw [IntWalk.i64_in _ (by have := HZ.out; have := HKX.out.2.2.1; omega)]; have := HZ.out; omega
  have q5 : (M : Int) < gs.length := by omega
  have q6 : (k : Int) < 3 := by have := HCS.out.2.2; omega
  clear hba hbb hsp hcc hxc hcG hX1 hX2 hz3' hX hy' hcGB q10
  go_wp2_with (first
    | (show wpList _ _ _ (Oper.mk none (Op.store _ (Operand.tmp 71) _) _ _ _ _ :: _) _ _
       refine wpList_store_v5 23 (.tmp 71) (.const (.slice none 0 0)) (v := .slice none 0 0) rfl rfl rfl rfl rfl rfl rfl (L := [.slice B1 ps.length d1, .slice B2 ts.length d2]) H6.out.2.2.2.2.2.1 (Nat.le_of_ble_eq_true rfl) infoTL5 ?_
       intro w7 hP hM
       obtain ⟨h0, h1, h2, h3, h4, h5, h6, h7⟩ := HPRE.out w7 hP hM
       have HW7 := Lib.hid h0
       have HBX := Lib.hid h1
       have HGR := Lib.hid h2
       have HSA := Lib.hid h3
       have HSB := Lib.hid h4
       have HSC := Lib.hid h5
       have HCL := Lib.hid h6
       have HVG := Lib.hid h7
       clear hP hM h0 h1 h2 h3 h4 h5 h6 h7
       have fk7 : w7.cell? ⟨b12, 0, none⟩ = some (.int .i64 y.id) := cell_of_row w7 _ 0 _ _ _ (HBX.out w7 (Below.refl w7.heap.size w7)).2.2.1)
    | (show wpList _ _ _ (Oper.mk (some 73) _ _ _ _ _ :: _) _ _
       refine wpList_load_blk 25 (.tmp 5) rfl rfl rfl (HBX.out w7 (Below.refl w7.heap.size w7)).1 [.slice (some ⟨cP, oP, none⟩) ps.length cp, .slice AT ts.length ct] at0 rowSheetP ?_)
    | (show wpList _ _ _ (Oper.mk (some 74) _ _ _ _ _ :: _) _ _
       refine wpList_load_blk 28 (.tmp 6) rfl rfl rfl (HBX.out w7 (Below.refl w7.heap.size w7)).2.1 [.slice (some ⟨cG, oG, none⟩) gs.length cg, .int .i64 vary] at0 rowGradingP ?_)
    | (go_at_call 25
       (with_reducible show Calls _ _ _ w7 _)
       refine (HGR.out w7 (Below.refl w7.heap.size w7)).mono ?_
       rintro e w8 ⟨rfl, hB8⟩
       have HB8 := Lib.hid (((Below.refl w7.heap.size w7)).trans (hB8.mono ((Below.refl w7.heap.size w7)).size))
       have HS8 := Lib.hid hB8
       have fk8 : w8.cell? ⟨b12, 0, none⟩ = some (.int .i64 y.id) := cell_of_row w8 _ 0 _ _ _ (HBX.out w8 HB8.out).2.2.1
       clear hB8)
    | (show wpList _ _ _ (Oper.mk (some 81) _ _ _ _ _ :: _) _ _
       refine wpList_load_blk 25 (.tmp 5) rfl rfl rfl (HBX.out w8 HB8.out).1 [.slice (some ⟨cP, oP, none⟩) ps.length cp, .slice AT ts.length ct] at0 rowSheetP ?_)
    | (show wpList _ _ _ (Oper.mk (some 82) _ _ _ _ _ :: _) _ _
       refine wpList_load_blk 28 (.tmp 6) rfl rfl rfl (HBX.out w8 HB8.out).2.1 [.slice (some ⟨cG, oG, none⟩) gs.length cg, .int .i64 vary] at0 rowGradingP ?_)
    | (go_at_call 26
       (with_reducible show Calls _ _ _ w8 _)
       refine (HSA.out w8 HB8.out).mono ?_
       rintro e w9 ⟨rfl, hB9⟩
       have HB9 := Lib.hid ((HB8.out).trans (hB9.mono (HB8.out).size))
       have HS9 := Lib.hid hB9
       clear hB9)
    | (show wpList _ _ _ (Oper.mk none (Op.store _ (Operand.tmp 18) (Operand.tmp 87)) _ _ _ _ :: _) _ _
       have hm : (w9.alloc (.cells #[.int .i64 0, .int .i64 0] 50)).heap[w9.heap.size]? = some (.cells [Value.int .i64 0, .int .i64 0].toArray 50 (0, 0)) := alloc_at0 _ _
       refine wpList_store_blk 50 (.tmp 18) (.tmp 87) rfl rfl rfl rfl (cs := sp2 z1) rfl hm (Nat.le_of_ble_eq_true rfl) (sp2_one _) rowSpan5 ?_
       intro w10 hP hM
       rw [splice_whole (by rfl)] at hM
       have hb : Below w9.heap.size w9 w10 := (grow1 w9 _).trans (hP.below (Nat.le_refl _))
       have HB10 := Lib.hid ((HB9.out).trans (hb.mono (HB9.out).size))
       have HM10 := Lib.hid hM
       have HS10 := Lib.hid hb
       have fk10 : w10.cell? ⟨b12, 0, none⟩ = some (.int .i64 y.id) := cell_of_row w10 _ 0 _ _ _ (HBX.out w10 HB10.out).2.2.1
       clear hP hM hm hb)
    | (show wpList _ _ _ (Oper.mk (some 90) _ _ _ _ _ :: _) _ _
       refine wpList_load_blk 25 (.tmp 14) rfl rfl rfl (HBX.out w10 HB10.out).2.2.2.1 [.slice A1 ps.length c1, .slice A2 T.length c2] at0 rowSheetP ?_)
    | (show wpList _ _ _ (Oper.mk (some 91) _ _ _ _ _ :: _) _ _
       refine wpList_load_blk 28 (.tmp 6) rfl rfl rfl (HBX.out w10 HB10.out).2.1 [.slice (some ⟨cG, oG, none⟩) gs.length cg, .int .i64 vary] at0 rowGradingP ?_)
    | (go_at_call 26
       (with_reducible show Calls _ _ _ w10 _)
       refine (HSB.out w10 HB10.out).mono ?_
       rintro e w11 ⟨rfl, hB11⟩
       have HB11 := Lib.hid ((HB10.out).trans (hB11.mono (HB10.out).size))
       have HS11 := Lib.hid hB11
       clear hB11)
    | (show wpList _ _ _ (Oper.mk none (Op.store _ (Operand.tmp 20) (Operand.tmp 96)) _ _ _ _ :: _) _ _
       have hm : (w11.alloc (.cells #[.int .i64 0, .int .i64 0] 50)).heap[w11.heap.size]? = some (.cells [Value.int .i64 0, .int .i64 0].toArray 50 (0, 0)) := alloc_at0 _ _
       refine wpList_store_blk 50 (.tmp 20) (.tmp 96) rfl rfl rfl rfl (cs := sp2 z2) rfl hm (Nat.le_of_ble_eq_true rfl) (sp2_one _) rowSpan5 ?_
       intro w12 hP hM
       rw [splice_whole (by rfl)] at hM
       have hb : Below w11.heap.size w11 w12 := (grow1 w11 _).trans (hP.below (Nat.le_refl _))
       have HB12 := Lib.hid ((HB11.out).trans (hb.mono (HB11.out).size))
       have HM12 := Lib.hid hM
       have HS12 := Lib.hid hb
       have fk12 : w12.cell? ⟨b12, 0, none⟩ = some (.int .i64 y.id) := cell_of_row w12 _ 0 _ _ _ (HBX.out w12 HB12.out).2.2.1
       clear hP hM hm hb)
    | (show wpList _ _ _ (Oper.mk (some 99) _ _ _ _ _ :: _) _ _
       refine wpList_load_blk 25 (.tmp 15) rfl rfl rfl (HBX.out w12 HB12.out).2.2.2.2 [.slice B1 ps.length d1, .slice none 0 0] at0 rowSheetP ?_)
    | (show wpList _ _ _ (Oper.mk (some 100) _ _ _ _ _ :: _) _ _
       refine wpList_load_blk 28 (.tmp 6) rfl rfl rfl (HBX.out w12 HB12.out).2.1 [.slice (some ⟨cG, oG, none⟩) gs.length cg, .int .i64 vary] at0 rowGradingP ?_)
    | (go_at_call 26
       (with_reducible show Calls _ _ _ w12 _)
       refine (HSC.out w12 HB12.out).mono ?_
       rintro e w13 ⟨rfl, hB13⟩
       have HB13 := Lib.hid ((HB12.out).trans (hB13.mono (HB12.out).size))
       have HS13 := Lib.hid hB13
       clear hB13)
    | (show wpList _ _ _ (Oper.mk none (Op.store _ (Operand.tmp 22) (Operand.tmp 105)) _ _ _ _ :: _) _ _
       have hm : (w13.alloc (.cells #[.int .i64 0, .int .i64 0] 50)).heap[w13.heap.size]? = some (.cells [Value.int .i64 0, .int .i64 0].toArray 50 (0, 0)) := alloc_at0 _ _
       refine wpList_store_blk 50 (.tmp 22) (.tmp 105) rfl rfl rfl rfl (cs := sp2 z3) rfl hm (Nat.le_of_ble_eq_true rfl) (sp2_one _) rowSpan5 ?_
       intro w14 hP hM
       rw [splice_whole (by rfl)] at hM
       have hb : Below w13.heap.size w13 w14 := (grow1 w13 _).trans (hP.below (Nat.le_refl _))
       have HB14 := Lib.hid ((HB13.out).trans (hb.mono (HB13.out).size))
       have HM14 := Lib.hid hM
       have HS14 := Lib.hid hb
       clear hP hM hm hb)
    | (show wpList _ _ _ (Oper.mk (some 108) _ _ _ _ _ :: _) _ _
       refine wpList_load_blk 25 (.tmp 15) rfl rfl rfl (HBX.out w14 HB14.out).2.2.2.2 [.slice B1 ps.length d1, .slice none 0 0] at0 rowSheetP ?_)
    | (show wpList _ _ _ (Oper.mk (some 109) _ _ _ _ _ :: _) _ _
       refine wpList_load_blk 28 (.tmp 6) rfl rfl rfl (HBX.out w14 HB14.out).2.1 [.slice (some ⟨cG, oG, none⟩) gs.length cg, .int .i64 vary] at0 rowGradingP ?_)
    | (go_at_call 33
       (with_reducible show Calls _ _ _ w14 _)
       refine (HCL.out w14 HB14.out).mono ?_
       rintro e w15 ⟨⟨AL, cL, rfl⟩, hB15⟩
       have HB15 := Lib.hid ((HB14.out).trans (hB15.mono (HB14.out).size))
       have HS15 := Lib.hid hB15
       have fg15 : w15.cell? ⟨w.heap.size + 1, 0, none⟩ = some (.slice (some ⟨cG, oG, none⟩) gs.length cg) := cell_of_row w15 _ 0 _ _ _ (HBX.out w15 HB15.out).2.1
       clear hB15)
    | (show wpList _ _ _ (Oper.mk (some 158) _ _ _ _ _ :: _) _ _
       refine wpList_load_at 50 (.tmp 157) rfl rfl rfl (sp2 X) (fun j v hv => by have h := HXC.out w15 (HW7.out.trans (HB15.out.mono HW7.out.size)) j v hv; simpa [Nat.add_assoc] using h) rowSpan5 ?_)
    | (show wpList _ _ _ (Oper.mk none (Op.store _ (Operand.tmp 26) (Operand.tmp 158)) _ _ _ _ :: _) _ _
       have hm : (w15.alloc (.cells #[.int .i64 0, .int .i64 0] 50)).heap[w15.heap.size]? = some (.cells [Value.int .i64 0, .int .i64 0].toArray 50 (0, 0)) := alloc_at0 _ _
       refine wpList_store_blk 50 (.tmp 26) (.tmp 158) rfl rfl rfl rfl (cs := sp2 X) rfl hm (Nat.le_of_ble_eq_true rfl) (sp2_one _) rowSpan5 ?_
       intro w17 hP hM
       rw [splice_whole (by rfl)] at hM
       have hb : Below w15.heap.size w15 w17 := (grow1 w15 _).trans (hP.below (Nat.le_refl _))
       have HB17 := Lib.hid ((HB15.out).trans (hb.mono (HB15.out).size))
       have HM17 := Lib.hid hM
       have HS17 := Lib.hid hb
       clear hP hM hm hb))
  refine R6.wp_walk (C := fun _ _ W => Below w17.heap.size w17 W) 224 (by kernel_rfl) (by kernel_rfl) rfl (Below.refl _ _).drew ?_
  simp only []
  repeat (first
    | (refine' R6.WalkR.det (fun _ => rfl) (fun D ρ W hK hC => ?_) ?_
       rotate_left
       · have f0 : W.cell? ⟨w15.heap.size, 0, none⟩ = some (.int .i64 X.1) := cell_of_row W _ 0 _ _ _ ((hC.block _ (lt_of_heap HM17.out)).trans HM17.out)
         have f1 : W.cell? ⟨w15.heap.size, 1, none⟩ = some (.int .i64 X.2) := cell_of_row W _ 1 _ _ _ ((hC.block _ (lt_of_heap HM17.out)).trans HM17.out)
         have HC := Lib.hid hC
         clear hC hK
         go_simp
         with_reducible exact ⟨rfl, HC.out⟩
       simp only [Act.put, List.setIfInBounds_toArray, List.set_cons_succ, List.set_cons_zero]))
  refine' R6.WalkR.det (fun _ => rfl) (fun D ρ W hK hC => ?_) ?_
  rotate_left
  · have h1 := ((HS15.out).trans (HS17.out.mono (HS15.out).size))
    have h2 := h1.trans (hC.mono h1.size)
    exact gives_load_blk 50 (.tmp 22) rfl rfl ((h2.block _ (lt_of_heap HM14.out)).trans HM14.out) (sp2 z3) at0 rowSpan5 ⟨rfl, hC⟩
  simp only [Act.put, List.setIfInBounds_toArray, List.set_cons_succ, List.set_cons_zero]
  refine' R6.WalkR.det (fun _ => rfl) (fun D ρ W hK hC => ?_) ?_
  rotate_left
  · exact gives_load_blk 56 (.tmp 12) rfl rfl (HBX.out W (HB17.out.trans (hC.mono HB17.out.size))).2.2.1 (pcl y) at0 rowPole ⟨rfl, hC⟩
  simp only [Act.put, List.setIfInBounds_toArray, List.set_cons_succ, List.set_cons_zero]
  repeat (first
    | (refine' R6.WalkR.det (fun _ => rfl) (fun D ρ W hK hC => ?_) ?_
       rotate_left
       · have f0 : W.cell? ⟨w15.heap.size, 0, none⟩ = some (.int .i64 X.1) := cell_of_row W _ 0 _ _ _ ((hC.block _ (lt_of_heap HM17.out)).trans HM17.out)
         have f1 : W.cell? ⟨w15.heap.size, 1, none⟩ = some (.int .i64 X.2) := cell_of_row W _ 1 _ _ _ ((hC.block _ (lt_of_heap HM17.out)).trans HM17.out)
         have HC := Lib.hid hC
         clear hC hK
         go_simp
         with_reducible exact ⟨rfl, HC.out⟩
       simp only [Act.put, List.setIfInBounds_toArray, List.set_cons_succ, List.set_cons_zero]))
  refine' R6.WalkR.det (fun _ => rfl) (fun D ρ W hK hC => ?_) ?_
  rotate_left
  · have HC := Lib.hid hC
    clear hC hK
    go_simp
    go_at_call 34
    refine (HBA.out W).mono ?_
    rintro e W1 ⟨rfl, hB1⟩
    exact ⟨_, rfl, rfl, HC.out.trans (hB1.mono HC.out.size)⟩
  simp only [Act.put, List.setIfInBounds_toArray, List.set_cons_succ, List.set_cons_zero]
  refine' R6.WalkR.det (fun _ => rfl) (fun D ρ W hK hC => ?_) ?_
  rotate_left
  · exact gives_load_blk 56 (.tmp 12) rfl rfl (HBX.out W (HB17.out.trans (hC.mono HB17.out.size))).2.2.1 (pcl y) at0 rowPole ⟨rfl, hC⟩
  simp only [Act.put, List.setIfInBounds_toArray, List.set_cons_succ, List.set_cons_zero]
  repeat (first
    | (refine' R6.WalkR.det (fun _ => rfl) (fun D ρ W hK hC => ?_) ?_
       rotate_left
       · have f0 : W.cell? ⟨w15.heap.size, 0, none⟩ = some (.int .i64 X.1) := cell_of_row W _ 0 _ _ _ ((hC.block _ (lt_of_heap HM17.out)).trans HM17.out)
         have f1 : W.cell? ⟨w15.heap.size, 1, none⟩ = some (.int .i64 X.2) := cell_of_row W _ 1 _ _ _ ((hC.block _ (lt_of_heap HM17.out)).trans HM17.out)
         have HC := Lib.hid hC
         clear hC hK
         go_simp
         with_reducible exact ⟨rfl, HC.out⟩
       simp only [Act.put, List.setIfInBounds_toArray, List.set_cons_succ, List.set_cons_zero]))
  refine' R6.WalkR.det (fun _ => rfl) (fun D ρ W hK hC => ?_) ?_
  rotate_left
  · have HC := Lib.hid hC
    clear hC hK
    go_simp
    go_at_call 34
    refine (HBB.out W).mono ?_
    rintro e W1 ⟨rfl, hB1⟩
    exact ⟨_, rfl, rfl, HC.out.trans (hB1.mono HC.out.size)⟩
  simp only [Act.put, List.setIfInBounds_toArray, List.set_cons_succ, List.set_cons_zero]
  refine' R6.WalkR.det (fun _ => rfl) (fun D ρ W hK hC => ?_) ?_
  rotate_left
  · have HC := Lib.hid hC
    clear hC hK
    go_simp
    go_at_call 24
    refine (HSP.out W).mono ?_
    rintro e W1 ⟨rfl, hB1⟩
    exact ⟨_, rfl, rfl, HC.out.trans (hB1.mono HC.out.size)⟩
  simp only [Act.put, List.setIfInBounds_toArray, List.set_cons_succ, List.set_cons_zero]
  refine' R6.WalkR.det (fun _ => rfl) (fun D ρ W hK hC => ?_) ?_
  rotate_left
  · exact gives_neq 50 _ (.tmp 162) (.tmp 173) rfl rfl rfl (guard_struct guardSpan5) (neqSpan5 W z3) ⟨rfl, hC⟩
  simp only [Act.put, List.setIfInBounds_toArray, List.set_cons_succ, List.set_cons_zero]
  repeat (first
    | (refine' R6.WalkR.det (fun _ => rfl) (fun D ρ W hK hC => ?_) ?_
       rotate_left
       · have f0 : W.cell? ⟨w15.heap.size, 0, none⟩ = some (.int .i64 X.1) := cell_of_row W _ 0 _ _ _ ((hC.block _ (lt_of_heap HM17.out)).trans HM17.out)
         have f1 : W.cell? ⟨w15.heap.size, 1, none⟩ = some (.int .i64 X.2) := cell_of_row W _ 1 _ _ _ ((hC.block _ (lt_of_heap HM17.out)).trans HM17.out)
         have HC := Lib.hid hC
         clear hC hK
         go_simp
         with_reducible exact ⟨rfl, HC.out⟩
       simp only [Act.put, List.setIfInBounds_toArray, List.set_cons_succ, List.set_cons_zero]))
  refine R6.WalkR.nil (fun D ρ W18 hD hC => ?_)
  have HB18 := Lib.hid (HB17.out.trans (hC.mono HB17.out.size))
  have j1 := ((((((((((HS11.out).trans (HS12.out.mono (HS11.out).size))).trans (HS13.out.mono (((HS11.out).trans (HS12.out.mono (HS11.out).size))).size))).trans (HS14.out.mono (((((HS11.out).trans (HS12.out.mono (HS11.out).size))).trans (HS13.out.mono (((HS11.out).trans (HS12.out.mono (HS11.out).size))).size))).size))).trans (HS15.out.mono (((((((HS11.out).trans (HS12.out.mono (HS11.out).size))).trans (HS13.out.mono (((HS11.out).trans (HS12.out.mono (HS11.out).size))).size))).trans (HS14.out.mono (((((HS11.out).trans (HS12.out.mono (HS11.out).size))).trans (HS13.out.mono (((HS11.out).trans (HS12.out.mono (HS11.out).size))).size))).size))).size))).trans (HS17.out.mono (((((((((HS11.out).trans (HS12.out.mono (HS11.out).size))).trans (HS13.out.mono (((HS11.out).trans (HS12.out.mono (HS11.out).size))).size))).trans (HS14.out.mono (((((HS11.out).trans (HS12.out.mono (HS11.out).size))).trans (HS13.out.mono (((HS11.out).trans (HS12.out.mono (HS11.out).size))).size))).size))).trans (HS15.out.mono (((((((HS11.out).trans (HS12.out.mono (HS11.out).size))).trans (HS13.out.mono (((HS11.out).trans (HS12.out.mono (HS11.out).size))).size))).trans (HS14.out.mono (((((HS11.out).trans (HS12.out.mono (HS11.out).size))).trans (HS13.out.mono (((HS11.out).trans (HS12.out.mono (HS11.out).size))).size))).size))).size))).size))
  have j2 := ((((((HS13.out).trans (HS14.out.mono (HS13.out).size))).trans (HS15.out.mono (((HS13.out).trans (HS14.out.mono (HS13.out).size))).size))).trans (HS17.out.mono (((((HS13.out).trans (HS14.out.mono (HS13.out).size))).trans (HS15.out.mono (((HS13.out).trans (HS14.out.mono (HS13.out).size))).size))).size))
  have j3 := ((HS15.out).trans (HS17.out.mono (HS15.out).size))
  have k1 := ((j1.trans (hC.mono j1.size)).block _ (lt_of_heap HM10.out)).trans HM10.out
  have k2 := ((j2.trans (hC.mono j2.size)).block _ (lt_of_heap HM12.out)).trans HM12.out
  have k3 := ((j3.trans (hC.mono j3.size)).block _ (lt_of_heap HM14.out)).trans HM14.out
  have a0 : W18.cell? ⟨w9.heap.size, 0, none⟩ = some (.int .i64 z1.1) := cell_of_row W18 _ 0 _ _ _ k1
  have a1 : W18.cell? ⟨w9.heap.size, 1, none⟩ = some (.int .i64 z1.2) := cell_of_row W18 _ 1 _ _ _ k1
  have b0 : W18.cell? ⟨w11.heap.size, 0, none⟩ = some (.int .i64 z2.1) := cell_of_row W18 _ 0 _ _ _ k2
  have b1 : W18.cell? ⟨w11.heap.size, 1, none⟩ = some (.int .i64 z2.2) := cell_of_row W18 _ 1 _ _ _ k2
  have d0 : W18.cell? ⟨w13.heap.size, 0, none⟩ = some (.int .i64 z3.1) := cell_of_row W18 _ 0 _ _ _ k3
  have d1 : W18.cell? ⟨w13.heap.size, 1, none⟩ = some (.int .i64 z3.2) := cell_of_row W18 _ 1 _ _ _ k3
  clear hC hD j1 j2 j3 k1 k2 k3 q1 q2 q3 q3' q4 q5 q6 hM
  rcases HCC.out with ⟨rfl, rfl⟩ | ⟨rfl, l1, l2, rfl | ⟨rfl, l3, l4⟩⟩
  · go_wp2
    go_ret
    exact ⟨rfl, HW7.out.trans (HB18.out.mono HW7.out.size)⟩
  · go_wp2
    go_ret
    exact ⟨rfl, HW7.out.trans (HB18.out.mono HW7.out.size)⟩
  · go_wp2
    go_ret
    exact ⟨rfl, HW7.out.trans (HB18.out.mono HW7.out.size)⟩


end Go.Proofs.YtboffligjgjgjaaGreat
