/-
  The law GradeStrengths.
-/
import Derived.Test.YtboffligjgjgjaaGrLa
import Derived.Test.YtboffligjgjgjaaGrSb
import Derived.Test.YtboffligjgjgjaaGrCe
import Derived.Test.YtboffligjgjgjaaGrCd
import Derived.Test.YtboffligjgjgjaaGrPb
import Derived.Test.YtboffligjgjgjaaGrWb
import Derived.BigGuardPart
namespace Go.Proofs.Ytboffligjgjgjaa
open Go.RowKit Go.BigFrame
open R6 (done done_ne done_me upd_ne upd_me)

attribute [local go_sem] gives

theorem gives_eql {P : Program} {op : Oper} {a : Act} {w : World} {R : Value → World → Prop} (ty ty2 : TypeId) (x y : Operand) (ho : op.op = .binOp .eql ty x y ty2) {u v : Value} (hx : a.eval x = u) (hy : a.eval y = v) {r : Value} (hg : (eqGuard .eql ty x y u v).run P w = .ok () w)
    (hr : (binOp .eql ty u v).run P w = .ok r w) (h : R r w) : gives P op a w R := by
  unfold gives execOp
  simp only [ho, hx, hy, Sem.run_bind, hg, hr, Result.andThen_ok]
  exact h
theorem guard_structE {P : Program} {ty : TypeId} {x y : Operand} {X Y : Array Value} {w : World} (hg : P.eqGuardType P.depth ty = false) : (eqGuard .eql ty x y (.agg X) (.agg Y)).run P w = .ok () w := by
  unfold eqGuard
  simp [hg, go_sem]
def greatS (a b c : Nat) : Bool := decide (16 < a) || (decide (26 < b) || decide (6 < c))

set_option maxRecDepth 100000 in
set_option maxHeartbeats 16000000 in
theorem gradeStrengths_law (ps : List Pol) (ts : List Ts) (gs : List Gd) (vary pole sec : Int) (AP : Option Addr) (cp : Nat) (AT : Option Addr) (ct : Nat) (AG : Option Addr) (cg : Nat) (B : Nat) (w : World) (hB : B ≤ w.heap.size)
    (hz1 : Vals w B AP (ps.flatMap pcl)) (hz2 : Vals w B AT (ts.flatMap tcl)) (hz3 : Vals w B AG (gs.flatMap gcl)) (hct : ts.length ≤ ct) :
    Calls Try.prog 3 #[.agg #[.slice AP ps.length cp, .slice AT ts.length ct], .agg #[.slice AG gs.length cg, .int .i64 vary], .int .i64 pole, .int .i64 sec] w fun e w' => e = .returned (.bool true) ∧ Below w.heap.size w w' := by
  have hgt := fun (W : World) => rfGreat_any ps.length ts.length gs.length AP cp AT ct AG cg vary W
  obtain ⟨vg, hvg⟩ : ∃ vg, (decide (16 < ps.length) || (decide (26 < ts.length) || decide (6 < gs.length))) = vg := ⟨_, rfl⟩
  rw [hvg] at hgt
  have HGT := Lib.hid hgt
  obtain ⟨w1, hw1⟩ : ∃ w1, (w.alloc (.cells #[.slice AP ps.length cp, .slice AT ts.length ct] 25)).alloc (.cells #[.slice AG gs.length cg, .int .i64 vary] 28) = w1 := ⟨_, rfl⟩
  have hb1 : Below w.heap.size w w1 := by rw [← hw1]; exact grow2 _ _ _
  have m1 : w1.heap[w.heap.size]? = some (.cells [.slice AP ps.length cp, .slice AT ts.length ct].toArray 25 (0, 0)) := by rw [← hw1]; exact alloc2_at0 _ _ _
  have m2 : w1.heap[w.heap.size + 1]? = some (.cells [.slice AG gs.length cg, .int .i64 vary].toArray 28 (0, 0)) := by rw [← hw1]; exact alloc2_at1 _ _ _
  have H1 := Lib.hid (And.intro hb1 (And.intro m1 m2))
  clear hb1 m1 m2 hgt
  cases vg
  rotate_left
  · clear hvg
    go_enter Try.func3, Try.ntmps3
    go_wp2_with (first
      | (go_at_call 4
         refine (HGT.out w1).mono ?_
         rintro e w2 ⟨rfl, hB2⟩
         have H2 := Lib.hid (And.intro (H1.out.1.trans (hB2.mono H1.out.1.size)) (And.intro ((hB2.block _ (lt_of_heap H1.out.2.1)).trans H1.out.2.1) ((hB2.block _ (lt_of_heap H1.out.2.2)).trans H1.out.2.2)))
         clear hB2)
      | (show wpList _ _ _ (Oper.mk (some 23) _ _ _ _ _ :: _) _ _
         refine wpList_load_blk 25 (.tmp 4) rfl rfl rfl H1.out.2.1 [.slice AP ps.length cp, .slice AT ts.length ct] at0 rowSheetP ?_)
      | (show wpList _ _ _ (Oper.mk (some 24) _ _ _ _ _ :: _) _ _
         refine wpList_load_blk 28 (.tmp 5) rfl rfl rfl H1.out.2.2 [.slice AG gs.length cg, .int .i64 vary] at0 rowGradingP ?_))
    go_ret
    exact ⟨rfl, H2.out.1⟩
  have hl : ps.length ≤ 16 ∧ ts.length ≤ 26 ∧ gs.length ≤ 6 := by simp at hvg; omega
  clear hvg
  have hz : ShAt w B ps ts AP AT := ⟨hz1, hz2, by omega, by omega⟩
  have hg : GdAt w B gs AG := ⟨hz3, by omega⟩
  have htw := fun (W : World) (hW : Below w.heap.size w W) => rfTwin_any ps ts AP cp AT ct B W (Nat.le_trans hB hW.size) (hz.below (hW.mono hB)) (by omega) (by omega)
  have htg := fun (W : World) (hW : Below w.heap.size w W) => rfTwinGrading_any gs vary AG cg B W (Nat.le_trans hB hW.size) (hg.below (hW.mono hB)) (by omega)
  unfold TwinPost at htw
  unfold TwinGPost at htg
  have HTW := Lib.hid htw
  have HTG := Lib.hid htg
  have HZG := Lib.hid (And.intro hz (And.intro hg (And.intro hB (And.intro hct hl))))
  clear htw htg hz hg hz1 hz2 hz3 hB hct hl
  go_enter Try.func3, Try.ntmps3
  go_wp2_with (first
    | (go_at_call 4
       refine (HGT.out w1).mono ?_
       rintro e w2 ⟨rfl, hB2⟩
       have H2 := Lib.hid (And.intro (H1.out.1.trans (hB2.mono H1.out.1.size)) (And.intro ((hB2.block _ (lt_of_heap H1.out.2.1)).trans H1.out.2.1) ((hB2.block _ (lt_of_heap H1.out.2.2)).trans H1.out.2.2)))
       clear hB2)
    | (show wpList _ _ _ (Oper.mk (some 23) _ _ _ _ _ :: _) _ _
       refine wpList_load_blk 25 (.tmp 4) rfl rfl rfl H1.out.2.1 [.slice AP ps.length cp, .slice AT ts.length ct] at0 rowSheetP ?_)
    | (show wpList _ _ _ (Oper.mk (some 24) _ _ _ _ _ :: _) _ _
       refine wpList_load_blk 28 (.tmp 5) rfl rfl rfl H1.out.2.2 [.slice AG gs.length cg, .int .i64 vary] at0 rowGradingP ?_))
  refine R6.wp_walk (C := LwC w2 ps ts gs vary [(w.heap.size, .cells #[.slice AP ps.length cp, .slice AT ts.length ct] 25), (w.heap.size + 1, .cells #[.slice AG gs.length cg, .int .i64 vary] 28)]) 119 (by kernel_rfl) (by kernel_rfl) rfl
    ⟨(Below.refl _ _).drew, ⟨H2.out.2.1, H2.out.2.2, trivial⟩, (fun e => by cases e), (fun e => by cases e), (fun e => by cases e), (fun e => by cases e)⟩ ?_
  simp only []
  refine' R6.WalkR.det (fun _ => rfl) (fun D ρ W hK hC => ?_) ?_
  rotate_left
  · exact gives_load_blk 25 (.tmp 4) rfl rfl hC.box.1 [.slice AP ps.length cp, .slice AT ts.length ct] at0 rowSheetP ⟨rfl, hC.move (by decide)⟩
  simp only [Act.put, List.setIfInBounds_toArray, List.set_cons_succ, List.set_cons_zero]
  refine' R6.WalkR.nd (fun _ => rfl) rfl (fun D ρ W hK hC => ?_) ?_
  · have HC := Lib.hid (And.intro hC (hK.post 6 (by decide +kernel)))
    clear hC hK
    go_simp
    go_at_call 5
    refine (HTW.out W (H2.out.1.trans (HC.out.1.bel.mono H2.out.1.size))).mono ?_
    rintro e W1 ⟨v1, v2, rfl, ho, hB1⟩
    exact ⟨_, rfl, HC.out.1.twin HC.out.2 hB1 ho⟩
  simp only [Act.put, List.setIfInBounds_toArray, List.set_cons_succ, List.set_cons_zero]
  refine' R6.WalkR.det (fun _ => rfl) (fun D ρ W hK hC => ?_) ?_
  rotate_left
  · exact gives_load_blk 28 (.tmp 5) rfl rfl hC.box.2.1 [.slice AG gs.length cg, .int .i64 vary] at0 rowGradingP ⟨rfl, hC.move (by decide)⟩
  simp only [Act.put, List.setIfInBounds_toArray, List.set_cons_succ, List.set_cons_zero]
  refine' R6.WalkR.nd (fun _ => rfl) rfl (fun D ρ W hK hC => ?_) ?_
  · have HC := Lib.hid (And.intro hC (hK.post 7 (by decide +kernel)))
    clear hC hK
    go_simp
    go_at_call 6
    refine (HTG.out W (H2.out.1.trans (HC.out.1.bel.mono H2.out.1.size))).mono ?_
    rintro e W1 ⟨v3, rfl, ho, hB1⟩
    exact ⟨_, rfl, HC.out.1.twinG HC.out.2 hB1 ho⟩
  simp only [Act.put, List.setIfInBounds_toArray, List.set_cons_succ, List.set_cons_zero]
  refine' R6.WalkR.nd (fun _ => rfl) rfl (fun D ρ W hK hC => ?_) ?_
  · have HC := Lib.hid (And.intro hC (hK.post 6 (by decide +kernel)))
    clear hC hK
    go_simp
    exact HC.out.1.al4 (X := [.slice none 0 0, .slice none 0 0]) rfl HC.out.2
  simp only [Act.put, List.setIfInBounds_toArray, List.set_cons_succ, List.set_cons_zero]
  refine' R6.WalkR.nd (fun _ => rfl) rfl (fun D ρ W hK hC => ?_) ?_
  · have HC := Lib.hid (And.intro hC (hK.post 7 (by decide +kernel)))
    clear hC hK
    go_simp
    exact HC.out.1.al5 (X := [.slice none 0 0, .int .i64 0]) rfl HC.out.2
  simp only [Act.put, List.setIfInBounds_toArray, List.set_cons_succ, List.set_cons_zero]
  refine' R6.WalkR.det (c := undef) (fun _ => rfl) (fun D ρ W hK hC => ?_) ?_
  · obtain ⟨v1, v2, h27, ho⟩ := hC.s27 (hK.pre 1 (by decide +kernel))
    obtain ⟨b, hv9, hb9, X, hX, hhX, -⟩ := hC.s9 (hK.pre 4 (by decide +kernel))
    obtain ⟨A1, c1, rfl⟩ := own_slice ho.1
    obtain ⟨A2, c2, rfl⟩ := own_slice ho.2
    refine gives_store_blk 25 (.tmp 9) (.tmp 27) (cs := [.slice A1 ps.length c1, .slice A2 ts.length c2]) rfl hv9 h27 hhX (by rw [hX]; exact Nat.le_refl _) (by intro v hv; simp only [List.mem_cons, List.not_mem_nil, or_false] at hv; rcases hv with rfl | rfl <;> rfl) rowSheetP ?_
    intro W' hP hM
    rw [splice_whole hX] at hM
    have hl1 := lt_of_heap H2.out.2.2
    exact ⟨rfl, hC.put6 hP hb9 (fun e he => by simp only [List.mem_cons, List.not_mem_nil, or_false] at he; rcases he with rfl | rfl <;> (dsimp only; omega)) hhX hv9 rfl hM h27⟩
  simp only [Act.put, List.setIfInBounds_toArray, List.set_cons_succ, List.set_cons_zero]
  refine' R6.WalkR.det (c := undef) (fun _ => rfl) (fun D ρ W hK hC => ?_) ?_
  · obtain ⟨v3, h29, ho⟩ := hC.s29 (hK.pre 3 (by decide +kernel))
    obtain ⟨b, hv10, hb10, X, hX, hhX, -⟩ := hC.s10 (hK.pre 5 (by decide +kernel))
    obtain ⟨A3, c3, rfl⟩ := own_slice ho
    refine gives_store_blk 28 (.tmp 10) (.tmp 29) (cs := [.slice A3 gs.length c3, .int .i64 vary]) rfl hv10 h29 hhX (by rw [hX]; exact Nat.le_refl _) (by intro v hv; simp only [List.mem_cons, List.not_mem_nil, or_false] at hv; rcases hv with rfl | rfl <;> rfl) rowGradingP ?_
    intro W' hP hM
    rw [splice_whole hX] at hM
    have hl1 := lt_of_heap H2.out.2.2
    exact ⟨rfl, hC.put7 hP hb10 (fun e he => by simp only [List.mem_cons, List.not_mem_nil, or_false] at he; rcases he with rfl | rfl <;> (dsimp only; omega)) hhX hv10 rfl hM h29⟩
  simp only [Act.put, List.setIfInBounds_toArray, List.set_cons_succ, List.set_cons_zero]
  refine R6.WalkR.nil (fun D ρ W3 hD hC => ?_)
  obtain ⟨v1, v2, h27, ho⟩ := hC.s27 (hD 1 (by omega))
  obtain ⟨v3, h29, ho3⟩ := hC.s29 (hD 3 (by omega))
  obtain ⟨b9, hv9, hb9, X, hX, hhX, hx⟩ := hC.s9 (hD 4 (by omega))
  obtain ⟨b10, hv10, hb10, Y, hY, hhY, hy⟩ := hC.s10 (hD 5 (by omega))
  have hx := hx (hD 6 (by omega))
  have hy := hy (hD 7 (by omega))
  obtain ⟨A1, c1, rfl⟩ := own_slice ho.1
  obtain ⟨A2, c2, rfl⟩ := own_slice ho.2
  obtain ⟨A3, c3, rfl⟩ := own_slice ho3
  rw [h27] at hx
  rw [h29] at hy
  simp only [Value.agg.injEq] at hx hy
  rw [← hx] at hhX
  rw [← hy] at hhY
  simp only [hv9, hv10, h27, h29]
  have hb3 := H2.out.1.trans (hC.bel.mono H2.out.1.size)
  have hbx := fun (W : World) (hW : Below W3.heap.size W3 W) => And.intro ((hW.block _ (lt_of_heap hC.box.1)).trans hC.box.1) (And.intro ((hW.block _ (lt_of_heap hC.box.2.1)).trans hC.box.2.1) (And.intro ((hW.block _ (lt_of_heap hhX)).trans hhX) ((hW.block _ (lt_of_heap hhY)).trans hhY)))
  have hlw : w.heap.size ≤ W3.heap.size := hb3.size
  have hB3 : B ≤ W3.heap.size := Nat.le_trans HZG.out.2.2.1 hlw
  have hz3 : ShAt W3 W3.heap.size ps ts AP AT := (HZG.out.1.below (hb3.mono HZG.out.2.2.1)).mono hB3
  have hg3 : GdAt W3 W3.heap.size gs AG := (HZG.out.2.1.below (hb3.mono HZG.out.2.2.1)).mono hB3
  have hzo : ShAt W3 W3.heap.size ps ts A1 A2 := ⟨Vals.own ho.1, Vals.own ho.2, hz3.lp, hz3.lt⟩
  have hgo : GdAt W3 W3.heap.size gs A3 := ⟨Vals.own ho3, hg3.lg⟩
  have hG := fun (W : World) (hW : Below W3.heap.size W3 W) => And.intro (grGrade_any ps ts gs vary pole A1 c1 A2 c2 A3 c3 W3.heap.size W hW.size (hzo.below hW) (hgo.below hW)) (rfGrade_any ps ts gs vary pole AP cp AT ct AG cg W3.heap.size W hW.size (hz3.below hW) (hg3.below hW))
  have hS := fun (W : World) (hW : Below W3.heap.size W3 W) => And.intro (grStrength_any ps ts gs vary pole sec A1 c1 A2 c2 A3 c3 W3.heap.size W hW.size (hzo.below hW) (hgo.below hW)) (rfStrength_any ps ts gs vary pole sec AP cp AT ct AG cg W3.heap.size W hW.size (hz3.below hW) (hg3.below hW))
  have hL := fun (W : World) (hW : Below W3.heap.size W3 W) => And.intro (grClashP_any ps ts gs vary A1 c1 A2 c2 A3 c3 W3.heap.size W hW.size (hzo.below hW) (hgo.below hW)) (rfClash_any ps ts gs vary AP cp AT ct AG cg W3.heap.size W hW.size (hz3.below hW) (hg3.below hW) HZG.out.2.2.2.1)
  unfold ClashPost at hL
  have hH := fun (W : World) (hW : Below W3.heap.size W3 W) => And.intro (grCheck_any ps ts gs vary A1 c1 A2 c2 A3 c3 W3.heap.size W hW.size (hzo.below hW) (hgo.below hW)) (rfCheck_any ps ts gs vary AP cp AT ct AG cg W3.heap.size W hW.size (hz3.below hW) (hg3.below hW))
  unfold shl gdl at hH
  have hM := fun (W : World) (hW : Below W3.heap.size W3 W) => And.intro (rfSame_any ps ts A1 AP A2 AT c1 cp c2 ct W3.heap.size W hW.size (hzo.below hW) (hz3.below hW)) (rfSameGrading_any gs vary A3 AG c3 cg W3.heap.size W hW.size (hgo.below hW) (hg3.below hW))
  have hlc : (sClash gs vary ps ts).1.length ≤ 1000000 := sClash_len _ _ _ _
  generalize sClash gs vary ps ts = r at hL hlc
  generalize sGrade gs vary ps ts pole = a at hG
  generalize sStr gs vary ps ts pole sec = s at hS
  generalize gChk gs vary ps ts = ck at hH
  obtain ⟨z, z2⟩ := s
  obtain ⟨a1, a2⟩ := a
  obtain ⟨L, r2⟩ := r
  have HG := Lib.hid hG
  have HSt := Lib.hid hS
  have HL := Lib.hid hL
  have HH := Lib.hid hH
  have HM := Lib.hid hM
  have HBX := Lib.hid hbx
  have HB3 := Lib.hid hb3
  have HLC := Lib.hid hlc
  clear hG hS hL hH hM hbx hb3 hlc hC hD h27 h29 ho ho3 hv9 hv10 hb9 hb10 hX hY hhX hhY hx hy hz3 hg3 hzo hgo hlw hB3
  have HB0 := Lib.hid (Below.refl W3.heap.size W3)
  go_wp2_with (first
    | (go_at_call 12
       refine (HL.out W10 HB10.out).2.mono ?_
       rintro e W11 ⟨A11, c11, rfl, hI11, hB11⟩
       have HB11 := Lib.hid (HB10.out.trans (hB11.mono HB10.out.size))
       have HS11 := Lib.hid hB11
       have HI11 := Lib.hid hI11
       clear hB11 hI11)
    | (show wpList _ _ _ (Oper.mk (some 68) _ _ _ _ _ :: _) _ _
       refine wpList_load_blk 28 (.tmp 5) rfl rfl rfl (HBX.out W10 HB10.out).2.1 [.slice AG gs.length cg, .int .i64 vary] at0 rowGradingP ?_)
    | (show wpList _ _ _ (Oper.mk (some 67) _ _ _ _ _ :: _) _ _
       refine wpList_load_blk 25 (.tmp 4) rfl rfl rfl (HBX.out W10 HB10.out).1 [.slice AP ps.length cp, .slice AT ts.length ct] at0 rowSheetP ?_)
    | (go_at_call 11
       refine (HL.out W9 HB9.out).1.mono ?_
       rintro e W10 ⟨A10, c10, rfl, hI10, hB10⟩
       have HB10 := Lib.hid (HB9.out.trans (hB10.mono HB9.out.size))
       have HS10 := Lib.hid hB10
       have HI10 := Lib.hid hI10
       clear hB10 hI10)
    | (show wpList _ _ _ (Oper.mk (some 62) _ _ _ _ _ :: _) _ _
       refine wpList_load_blk 28 (.tmp 10) rfl rfl rfl (HBX.out W9 HB9.out).2.2.2 [.slice A3 gs.length c3, .int .i64 vary] at0 rowGradingP ?_)
    | (show wpList _ _ _ (Oper.mk (some 61) _ _ _ _ _ :: _) _ _
       refine wpList_load_blk 25 (.tmp 9) rfl rfl rfl (HBX.out W9 HB9.out).2.2.1 [.slice A1 ps.length c1, .slice A2 ts.length c2] at0 rowSheetP ?_)
    | (show wpList _ _ _ (Oper.mk none (Op.store _ (Operand.tmp 17) (Operand.tmp 58)) _ _ _ _ :: _) _ _
       have hm : (W8.alloc (.cells #[.int .i64 0, .int .i64 0] 38)).heap[W8.heap.size]? = some (.cells [Value.int .i64 0, .int .i64 0].toArray 38 (0, 0)) := alloc_at0 _ _
       refine wpList_store_blk 38 (.tmp 17) (.tmp 58) rfl rfl rfl rfl (cs := sp2 z) rfl hm (Nat.le_of_ble_eq_true rfl) (sp2_one _) rowSpan5 ?_
       intro W9 hP hM
       rw [splice_whole (by rfl)] at hM
       have hb : Below W8.heap.size W8 W9 := (grow1 W8 _).trans (hP.below (Nat.le_refl _))
       have HB9 := Lib.hid ((HB8.out).trans (hb.mono (HB8.out).size))
       have HM9 := Lib.hid hM
       have HS9 := Lib.hid hb
       clear hP hM hm hb)
    | (go_at_call 10
       refine (HSt.out W7 HB7.out).2.mono ?_
       rintro e W8 ⟨rfl, hB8⟩
       have HB8 := Lib.hid (HB7.out.trans (hB8.mono HB7.out.size))
       have HS8 := Lib.hid hB8
       clear hB8)
    | (show wpList _ _ _ (Oper.mk (some 54) _ _ _ _ _ :: _) _ _
       refine wpList_load_blk 28 (.tmp 5) rfl rfl rfl (HBX.out W7 HB7.out).2.1 [.slice AG gs.length cg, .int .i64 vary] at0 rowGradingP ?_)
    | (show wpList _ _ _ (Oper.mk (some 53) _ _ _ _ _ :: _) _ _
       refine wpList_load_blk 25 (.tmp 4) rfl rfl rfl (HBX.out W7 HB7.out).1 [.slice AP ps.length cp, .slice AT ts.length ct] at0 rowSheetP ?_)
    | (show wpList _ _ _ (Oper.mk none (Op.store _ (Operand.tmp 15) (Operand.tmp 50)) _ _ _ _ :: _) _ _
       have hm : (W6.alloc (.cells #[.int .i64 0, .int .i64 0] 38)).heap[W6.heap.size]? = some (.cells [Value.int .i64 0, .int .i64 0].toArray 38 (0, 0)) := alloc_at0 _ _
       refine wpList_store_blk 38 (.tmp 15) (.tmp 50) rfl rfl rfl rfl (cs := sp2 z) rfl hm (Nat.le_of_ble_eq_true rfl) (sp2_one _) rowSpan5 ?_
       intro W7 hP hM
       rw [splice_whole (by rfl)] at hM
       have hb : Below W6.heap.size W6 W7 := (grow1 W6 _).trans (hP.below (Nat.le_refl _))
       have HB7 := Lib.hid ((HB6.out).trans (hb.mono (HB6.out).size))
       have HM7 := Lib.hid hM
       have HS7 := Lib.hid hb
       clear hP hM hm hb)
    | (go_at_call 9
       refine (HSt.out W5 HB5.out).1.mono ?_
       rintro e W6 ⟨rfl, hB6⟩
       have HB6 := Lib.hid (HB5.out.trans (hB6.mono HB5.out.size))
       have HS6 := Lib.hid hB6
       clear hB6)
    | (show wpList _ _ _ (Oper.mk (some 46) _ _ _ _ _ :: _) _ _
       refine wpList_load_blk 28 (.tmp 10) rfl rfl rfl (HBX.out W5 HB5.out).2.2.2 [.slice A3 gs.length c3, .int .i64 vary] at0 rowGradingP ?_)
    | (show wpList _ _ _ (Oper.mk (some 45) _ _ _ _ _ :: _) _ _
       refine wpList_load_blk 25 (.tmp 9) rfl rfl rfl (HBX.out W5 HB5.out).2.2.1 [.slice A1 ps.length c1, .slice A2 ts.length c2] at0 rowSheetP ?_)
    | (go_at_call 8
       refine (HG.out W4 HB4.out).2.mono ?_
       rintro e W5 ⟨rfl, hB5⟩
       have HB5 := Lib.hid (HB4.out.trans (hB5.mono HB4.out.size))
       have HS5 := Lib.hid hB5
       clear hB5)
    | (show wpList _ _ _ (Oper.mk (some 39) _ _ _ _ _ :: _) _ _
       refine wpList_load_blk 28 (.tmp 5) rfl rfl rfl (HBX.out W4 HB4.out).2.1 [.slice AG gs.length cg, .int .i64 vary] at0 rowGradingP ?_)
    | (show wpList _ _ _ (Oper.mk (some 38) _ _ _ _ _ :: _) _ _
       refine wpList_load_blk 25 (.tmp 4) rfl rfl rfl (HBX.out W4 HB4.out).1 [.slice AP ps.length cp, .slice AT ts.length ct] at0 rowSheetP ?_)
    | (go_at_call 7
       refine (HG.out W3 HB0.out).1.mono ?_
       rintro e W4 ⟨rfl, hB4⟩
       have HB4 := Lib.hid (HB0.out.trans (hB4.mono HB0.out.size))
       have HS4 := Lib.hid hB4
       clear hB4)
    | (show wpList _ _ _ (Oper.mk (some 32) _ _ _ _ _ :: _) _ _
       refine wpList_load_blk 28 (.tmp 10) rfl rfl rfl (HBX.out W3 HB0.out).2.2.2 [.slice A3 gs.length c3, .int .i64 vary] at0 rowGradingP ?_)
    | (show wpList _ _ _ (Oper.mk (some 31) _ _ _ _ _ :: _) _ _
       refine wpList_load_blk 25 (.tmp 9) rfl rfl rfl (HBX.out W3 HB0.out).2.2.1 [.slice A1 ps.length c1, .slice A2 ts.length c2] at0 rowSheetP ?_))
  have h15 : W11.heap[W6.heap.size]? = some (.cells (sp2 z).toArray 38 (0, 0)) := ((HS8.out.trans (HS9.out.mono HS8.out.size)).trans ((HS10.out.trans (HS11.out.mono HS10.out.size)).mono (HS8.out.trans (HS9.out.mono HS8.out.size)).size)).block _ (lt_of_heap HM7.out) |>.trans HM7.out
  have h17 : W11.heap[W8.heap.size]? = some (.cells (sp2 z).toArray 38 (0, 0)) := (HS10.out.trans (HS11.out.mono HS10.out.size)).block _ (lt_of_heap HM9.out) |>.trans HM9.out
  have hint := fun (W : World) (hW : Below W11.heap.size W11 W) => rfSameInts_any L A10 A11 c10 c11 W11.heap.size W (((HI10.out.below HS11.out).mono HS11.out.size).below hW) (HI11.out.below hW) HLC.out
  have HK := Lib.hid (And.intro h15 (And.intro h17 hint))
  clear h15 h17 hint
  refine R6.wp_walk (C := fun _ _ W => Below W11.heap.size W11 W) 119 (by kernel_rfl) (by kernel_rfl) rfl (Below.refl _ _).drew ?_
  simp only []
  refine' R6.WalkR.det (fun _ => rfl) (fun D ρ W hK hC => ?_) ?_
  rotate_left
  · exact gives_load_blk 25 (.tmp 9) rfl rfl (HBX.out W (HB11.out.trans (hC.mono HB11.out.size))).2.2.1 [.slice A1 ps.length c1, .slice A2 ts.length c2] at0 rowSheetP ⟨rfl, hC⟩
  simp only [Act.put, List.setIfInBounds_toArray, List.set_cons_succ, List.set_cons_zero]
  refine' R6.WalkR.det (fun _ => rfl) (fun D ρ W hK hC => ?_) ?_
  rotate_left
  · exact gives_load_blk 28 (.tmp 10) rfl rfl (HBX.out W (HB11.out.trans (hC.mono HB11.out.size))).2.2.2 [.slice A3 gs.length c3, .int .i64 vary] at0 rowGradingP ⟨rfl, hC⟩
  simp only [Act.put, List.setIfInBounds_toArray, List.set_cons_succ, List.set_cons_zero]
  refine' R6.WalkR.det (fun _ => rfl) (fun D ρ W hK hC => ?_) ?_
  rotate_left
  · have HC := Lib.hid hC
    clear hC hK
    go_simp
    go_at_call 13
    refine (HH.out W (HB11.out.trans (HC.out.mono HB11.out.size))).1.mono ?_
    rintro e W1 ⟨rfl, hB1⟩
    exact ⟨_, rfl, rfl, HC.out.trans (hB1.mono HC.out.size)⟩
  simp only [Act.put, List.setIfInBounds_toArray, List.set_cons_succ, List.set_cons_zero]
  refine' R6.WalkR.det (fun _ => rfl) (fun D ρ W hK hC => ?_) ?_
  rotate_left
  · exact gives_load_blk 25 (.tmp 4) rfl rfl (HBX.out W (HB11.out.trans (hC.mono HB11.out.size))).1 [.slice AP ps.length cp, .slice AT ts.length ct] at0 rowSheetP ⟨rfl, hC⟩
  simp only [Act.put, List.setIfInBounds_toArray, List.set_cons_succ, List.set_cons_zero]
  refine' R6.WalkR.det (fun _ => rfl) (fun D ρ W hK hC => ?_) ?_
  rotate_left
  · exact gives_load_blk 28 (.tmp 5) rfl rfl (HBX.out W (HB11.out.trans (hC.mono HB11.out.size))).2.1 [.slice AG gs.length cg, .int .i64 vary] at0 rowGradingP ⟨rfl, hC⟩
  simp only [Act.put, List.setIfInBounds_toArray, List.set_cons_succ, List.set_cons_zero]
  refine' R6.WalkR.det (fun _ => rfl) (fun D ρ W hK hC => ?_) ?_
  rotate_left
  · have HC := Lib.hid hC
    clear hC hK
    go_simp
    go_at_call 14
    refine (HH.out W (HB11.out.trans (HC.out.mono HB11.out.size))).2.mono ?_
    rintro e W1 ⟨rfl, hB1⟩
    exact ⟨_, rfl, rfl, HC.out.trans (hB1.mono HC.out.size)⟩
  simp only [Act.put, List.setIfInBounds_toArray, List.set_cons_succ, List.set_cons_zero]
  repeat (first
    | (refine' R6.WalkR.det (fun _ => rfl) (fun D ρ W hK hC => ?_) ?_
       rotate_left
       · skip
         have HC := Lib.hid hC
         clear hC hK
         go_simp
         with_reducible exact ⟨rfl, HC.out⟩
       simp only [Act.put, List.setIfInBounds_toArray, List.set_cons_succ, List.set_cons_zero]))
  refine' R6.WalkR.det (fun _ => rfl) (fun D ρ W hK hC => ?_) ?_
  rotate_left
  · exact gives_load_blk 38 (.tmp 15) rfl rfl ((hC.block _ (lt_of_heap HK.out.1)).trans HK.out.1) (sp2 z) at0 rowSpan5 ⟨rfl, hC⟩
  simp only [Act.put, List.setIfInBounds_toArray, List.set_cons_succ, List.set_cons_zero]
  refine' R6.WalkR.det (fun _ => rfl) (fun D ρ W hK hC => ?_) ?_
  rotate_left
  · exact gives_load_blk 38 (.tmp 17) rfl rfl ((hC.block _ (lt_of_heap HK.out.2.1)).trans HK.out.2.1) (sp2 z) at0 rowSpan5 ⟨rfl, hC⟩
  simp only [Act.put, List.setIfInBounds_toArray, List.set_cons_succ, List.set_cons_zero]
  refine' R6.WalkR.det (fun _ => rfl) (fun D ρ W hK hC => ?_) ?_
  rotate_left
  · exact gives_eql 38 38 (.tmp 90) (.tmp 91) rfl rfl rfl (guard_structE guardSpan5) (eqlSpan5 W z) ⟨rfl, hC⟩
  simp only [Act.put, List.setIfInBounds_toArray, List.set_cons_succ, List.set_cons_zero]
  repeat (first
    | (refine' R6.WalkR.det (fun _ => rfl) (fun D ρ W hK hC => ?_) ?_
       rotate_left
       · skip
         have HC := Lib.hid hC
         clear hC hK
         go_simp
         with_reducible exact ⟨rfl, HC.out⟩
       simp only [Act.put, List.setIfInBounds_toArray, List.set_cons_succ, List.set_cons_zero]))
  refine' R6.WalkR.det (fun _ => rfl) (fun D ρ W hK hC => ?_) ?_
  rotate_left
  · have HC := Lib.hid hC
    clear hC hK
    go_simp
    go_at_call 15
    refine (HK.out.2.2 W HC.out).mono ?_
    rintro e W1 ⟨rfl, hB1⟩
    exact ⟨_, rfl, rfl, HC.out.trans (hB1.mono HC.out.size)⟩
  simp only [Act.put, List.setIfInBounds_toArray, List.set_cons_succ, List.set_cons_zero]
  repeat (first
    | (refine' R6.WalkR.det (fun _ => rfl) (fun D ρ W hK hC => ?_) ?_
       rotate_left
       · skip
         have HC := Lib.hid hC
         clear hC hK
         go_simp
         with_reducible exact ⟨rfl, HC.out⟩
       simp only [Act.put, List.setIfInBounds_toArray, List.set_cons_succ, List.set_cons_zero]))
  refine' R6.WalkR.det (fun _ => rfl) (fun D ρ W hK hC => ?_) ?_
  rotate_left
  · exact gives_load_blk 25 (.tmp 9) rfl rfl (HBX.out W (HB11.out.trans (hC.mono HB11.out.size))).2.2.1 [.slice A1 ps.length c1, .slice A2 ts.length c2] at0 rowSheetP ⟨rfl, hC⟩
  simp only [Act.put, List.setIfInBounds_toArray, List.set_cons_succ, List.set_cons_zero]
  refine' R6.WalkR.det (fun _ => rfl) (fun D ρ W hK hC => ?_) ?_
  rotate_left
  · exact gives_load_blk 25 (.tmp 4) rfl rfl (HBX.out W (HB11.out.trans (hC.mono HB11.out.size))).1 [.slice AP ps.length cp, .slice AT ts.length ct] at0 rowSheetP ⟨rfl, hC⟩
  simp only [Act.put, List.setIfInBounds_toArray, List.set_cons_succ, List.set_cons_zero]
  refine' R6.WalkR.det (fun _ => rfl) (fun D ρ W hK hC => ?_) ?_
  rotate_left
  · have HC := Lib.hid hC
    clear hC hK
    go_simp
    go_at_call 16
    refine (HM.out W (HB11.out.trans (HC.out.mono HB11.out.size))).1.mono ?_
    rintro e W1 ⟨rfl, hB1⟩
    exact ⟨_, rfl, rfl, HC.out.trans (hB1.mono HC.out.size)⟩
  simp only [Act.put, List.setIfInBounds_toArray, List.set_cons_succ, List.set_cons_zero]
  repeat (first
    | (refine' R6.WalkR.det (fun _ => rfl) (fun D ρ W hK hC => ?_) ?_
       rotate_left
       · skip
         have HC := Lib.hid hC
         clear hC hK
         go_simp
         with_reducible exact ⟨rfl, HC.out⟩
       simp only [Act.put, List.setIfInBounds_toArray, List.set_cons_succ, List.set_cons_zero]))
  refine' R6.WalkR.det (fun _ => rfl) (fun D ρ W hK hC => ?_) ?_
  rotate_left
  · exact gives_load_blk 28 (.tmp 10) rfl rfl (HBX.out W (HB11.out.trans (hC.mono HB11.out.size))).2.2.2 [.slice A3 gs.length c3, .int .i64 vary] at0 rowGradingP ⟨rfl, hC⟩
  simp only [Act.put, List.setIfInBounds_toArray, List.set_cons_succ, List.set_cons_zero]
  refine' R6.WalkR.det (fun _ => rfl) (fun D ρ W hK hC => ?_) ?_
  rotate_left
  · exact gives_load_blk 28 (.tmp 5) rfl rfl (HBX.out W (HB11.out.trans (hC.mono HB11.out.size))).2.1 [.slice AG gs.length cg, .int .i64 vary] at0 rowGradingP ⟨rfl, hC⟩
  simp only [Act.put, List.setIfInBounds_toArray, List.set_cons_succ, List.set_cons_zero]
  refine' R6.WalkR.det (fun _ => rfl) (fun D ρ W hK hC => ?_) ?_
  rotate_left
  · have HC := Lib.hid hC
    clear hC hK
    go_simp
    go_at_call 17
    refine (HM.out W (HB11.out.trans (HC.out.mono HB11.out.size))).2.mono ?_
    rintro e W1 ⟨rfl, hB1⟩
    exact ⟨_, rfl, rfl, HC.out.trans (hB1.mono HC.out.size)⟩
  simp only [Act.put, List.setIfInBounds_toArray, List.set_cons_succ, List.set_cons_zero]
  repeat (first
    | (refine' R6.WalkR.det (fun _ => rfl) (fun D ρ W hK hC => ?_) ?_
       rotate_left
       · skip
         have HC := Lib.hid hC
         clear hC hK
         go_simp
         with_reducible exact ⟨rfl, HC.out⟩
       simp only [Act.put, List.setIfInBounds_toArray, List.set_cons_succ, List.set_cons_zero]))
  refine R6.WalkR.nil (fun D ρ W12 hD hC => ?_)
  have H12 := Lib.hid (HB3.out.trans ((HB11.out.trans (hC.mono HB11.out.size)).mono HB3.out.size))
  clear hC hD
  go_wp2
  go_ret
  exact ⟨rfl, H12.out⟩

end Go.Proofs.Ytboffligjgjgjaa
