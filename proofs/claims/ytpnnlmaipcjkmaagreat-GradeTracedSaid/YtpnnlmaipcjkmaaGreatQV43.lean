/-
  The statements' own example comes out (alive).
-/
import Derived.Test.YtpnnlmaipcjkmaaGreatQV41
import Derived.Test.YtpnnlmaipcjkmaaGreatQV27
set_option linter.all false
namespace Go.Proofs.YtpnnlmaipcjkmaaGreat
open Go.RowKit
open R6 (done done_ne done_me upd_ne upd_me)

attribute [local go_sem] gives

theorem ownS_sh {W : World} {b : Nat} {ps : List Pol} {ts : List Ts} {A1 A2 : Option Addr} {c1 c2 : Nat} (h : OwnS W b ps ts (.slice A1 ps.length c1) (.slice A2 ts.length c2)) (h1 : ps.length ≤ 1000000) (h2 : ts.length ≤ 1000000) : ShAt W W.heap.size ps ts A1 A2 := ⟨Vals.own h.1, Vals.own h.2, h1, h2⟩
theorem own_gd {W : World} {b : Nat} {gs : List Gd} {A : Option Addr} {c : Nat} (h : W.ownsRow b 53 8 (.slice A gs.length c) gs.length (gs.flatMap gcl)) (h1 : gs.length ≤ 1000000) : GdAt W W.heap.size gs A := ⟨Vals.own h, h1⟩
theorem gives_eql5 {P : Program} {op : Oper} {a : Act} {w : World} {R : Value → World → Prop} (ty ty2 : TypeId) (x y : Operand) (ho : op.op = .binOp .eql ty x y ty2) {u v : Value} (hx : a.eval x = u) (hy : a.eval y = v) {r : Value} (hg : (eqGuard .eql ty x y u v).run P w = .ok () w)
    (hr : (binOp .eql ty u v).run P w = .ok r w) (h : R r w) : gives P op a w R := by
  unfold gives execOp
  simp only [ho, hx, hy, Sem.run_bind, hg, hr, Result.andThen_ok]
  exact h
theorem guard_eql5 {P : Program} {ty : TypeId} {x y : Operand} {X Y : Array Value} {w : World} (hg : P.eqGuardType P.depth ty = false) : (eqGuard .eql ty x y (.agg X) (.agg Y)).run P w = .ok () w := by
  unfold eqGuard
  simp [hg, go_sem]
structure Gro (Φ : World → Prop) (W : World) : Prop where
  now : Φ W
  up : ∀ {W1 W2 : World}, Φ W1 → Grows W1 W2 → Φ W2
theorem Gro.grows {Φ : World → Prop} {W W' : World} (h : Gro Φ W) (hg : Grows W W') : Gro Φ W' := ⟨h.up h.now hg, h.up⟩
theorem gro_true (W : World) : Gro (fun _ => True) W := ⟨trivial, fun _ _ => trivial⟩

set_option maxRecDepth 100000 in
set_option maxHeartbeats 8000000 in
theorem exBears_any (pole lo hi : Int) (h : sStr exGs 5000 exPs exTs pole 0 = ((lo, hi), 0)) (w : World) : Calls Tryz.prog 21 #[.int .i64 pole, .int .i64 lo, .int .i64 hi] w fun e w' => e = .returned (.bool true) ∧ Below w.heap.size w w' := by
  have HST := Lib.hid h
  have HX := Lib.hid (gro_true w)
  have HB := Lib.hid (Below.refl w.heap.size w)
  clear h
  go_enter Tryz.func21, Tryz.ntmps21
  go_wp2_with (first
    | (show wpList _ _ _ (Oper.mk none (Op.store _ (Operand.tmp 7) (Operand.tmp 14)) _ _ _ _ :: _) _ _
       have hm : (w4.alloc (.cells #[.int .i64 0, .int .i64 0] 50)).heap[w4.heap.size]? = some (.cells [Value.int .i64 0, .int .i64 0].toArray 50 (0, 0)) := alloc_at0 _ _
       refine wpList_store_blk 50 (.tmp 7) (.tmp 14) (cs := sp2 (lo, hi)) rfl rfl rfl rfl rfl hm (Nat.le_of_ble_eq_true rfl) (sp2_one _) rowSpan5 ?_
       intro w5 hP hM
       rw [splice_whole (by rfl)] at hM
       have hb := (grow1 w4 _).trans (hP.below (Nat.le_refl _))
       have H5 := Lib.hid (And.intro (HB.out.trans (hb.mono HB.out.size)) hM)
       clear hP hM hm hb)
    | (go_at_call 26
       refine (grStrength_any exPs exTs exGs 5000 pole 0 A1 c1 A2 c2 A3 c3 _ _ (Nat.le_refl _) (ownS_sh HO.out (by decide) (by decide)) (own_gd HG.out (by decide))).mono ?_
       rintro e w4 ⟨rfl, hB⟩
       rw [HST.out]
       have HB := Lib.hid (HB.out.trans (hB.mono HB.out.size))
       clear hB)
    | (go_at_call 22
       refine (exGrading_any _).mono ?_
       rintro e w3 ⟨v3, rfl, hO, hB⟩
       obtain ⟨A3, c3, rfl⟩ := own_slice hO
       have HX := Lib.hid (HX.out.grows hB)
       have HB := Lib.hid (HB.out.trans (hB.mono HB.out.size))
       have HO := Lib.hid (HO.out.grows hB)
       have HG := Lib.hid hO
       clear hB hO)
    | (go_at_call 23
       refine (exSheet_any _).mono ?_
       rintro e w2 ⟨v1, v2, rfl, hO, hB⟩
       obtain ⟨A1, c1, rfl⟩ := own_slice hO.1
       obtain ⟨A2, c2, rfl⟩ := own_slice hO.2
       have HL := Lib.hid (And.intro hB.size HB.out.size)
       have HX := Lib.hid (HX.out.grows hB)
       have HB := Lib.hid (HB.out.trans (hB.mono HB.out.size))
       have HO := Lib.hid hO
       clear hB hO))
  refine R6.wp_walk (C := fun _ _ W => Below w5.heap.size w5 W) 25 (by kernel_rfl) (by kernel_rfl) rfl (Below.refl _ _).drew ?_
  simp only []
  repeat (first
    | (refine' R6.WalkR.det (fun _ => rfl) (fun D ρ W hK hC => ?_) ?_
       rotate_left
       · skip
         have HC := Lib.hid hC
         clear hC hK
         go_simp
         with_reducible exact ⟨rfl, HC.out⟩
       simp only [Act.put, List.setIfInBounds_toArray, List.set_cons_succ, List.set_cons_zero]))
  refine' R6.WalkR.det (fun _ => rfl) (fun D ρ W hK hC => ?_) ?_
  rotate_left
  · exact gives_load_blk 50 (.tmp 7) rfl rfl ((hC.block _ (lt_of_heap H5.out.2)).trans H5.out.2) (sp2 (lo, hi)) at0 rowSpan5 ⟨rfl, hC⟩
  simp only [Act.put, List.setIfInBounds_toArray, List.set_cons_succ, List.set_cons_zero]
  repeat (first
    | (refine' R6.WalkR.det (fun _ => rfl) (fun D ρ W hK hC => ?_) ?_
       rotate_left
       · skip
         have HC := Lib.hid hC
         clear hC hK
         go_simp
         with_reducible exact ⟨rfl, HC.out⟩
       simp only [Act.put, List.setIfInBounds_toArray, List.set_cons_succ, List.set_cons_zero]))
  refine' R6.WalkR.det (fun _ => rfl) (fun D ρ W hK hC => ?_) ?_
  rotate_left
  · have HC := Lib.hid hC
    clear hC hK
    go_simp
    go_at_call 24
    refine (exSpan_any lo hi W).mono ?_
    rintro e W1 ⟨rfl, hB1⟩
    exact ⟨_, rfl, rfl, HC.out.trans (hB1.mono HC.out.size)⟩
  simp only [Act.put, List.setIfInBounds_toArray, List.set_cons_succ, List.set_cons_zero]
  refine' R6.WalkR.det (fun _ => rfl) (fun D ρ W hK hC => ?_) ?_
  rotate_left
  · exact gives_eql5 50 50 (.tmp 19) (.tmp 22) rfl rfl rfl (guard_eql5 guardSpan5) (eqlSpan5 W (lo, hi)) ⟨rfl, hC⟩
  simp only [Act.put, List.setIfInBounds_toArray, List.set_cons_succ, List.set_cons_zero]
  repeat (first
    | (refine' R6.WalkR.det (fun _ => rfl) (fun D ρ W hK hC => ?_) ?_
       rotate_left
       · skip
         have HC := Lib.hid hC
         clear hC hK
         go_simp
         with_reducible exact ⟨rfl, HC.out⟩
       simp only [Act.put, List.setIfInBounds_toArray, List.set_cons_succ, List.set_cons_zero]))
  refine R6.WalkR.nil (fun D ρ W9 hD hC => ?_)
  have H9 := Lib.hid (H5.out.1.trans (hC.mono H5.out.1.size))
  clear hC hD
  go_wp2
  go_ret
  exact ⟨rfl, H9.out⟩

theorem exG1 : sGrade exGs 5000 exPs exTs 1 = (2, 0) := by decide +kernel
theorem exG3 : sGrade exGs 5000 exPs exTs 3 = (1, 0) := by decide +kernel
theorem exS1 : sStr exGs 5000 exPs exTs 1 0 = ((135000, 175497), 0) := by decide +kernel
theorem exS3 : sStr exGs 5000 exPs exTs 3 0 = ((54000, 162000), 0) := by decide +kernel
theorem exC : sClash exGs 5000 exPs (exTs ++ [exT6]) = ([4, 6], 0) := by decide +kernel
theorem exTr (A1 : Option Addr) (c1 : Nat) (A2 : Option Addr) (c2 : Nat) : sTrace exGs 5000 exPs exTs [⟨exGr, A1, c1, A2, c2⟩] = ([1, 1, 2], 0) := by kernel_rfl

end Go.Proofs.YtpnnlmaipcjkmaaGreat
