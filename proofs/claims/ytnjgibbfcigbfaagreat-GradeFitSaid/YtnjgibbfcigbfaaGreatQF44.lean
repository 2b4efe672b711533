import Derived.Test.YtnjgibbfcigbfaaGreatQF29
import Derived.Test.YtnjgibbfcigbfaaGreatQF40
set_option linter.all false
set_option maxRecDepth 100000
set_option maxHeartbeats 64000000
namespace Go.Proofs.YtnjgibbfcigbfaaGreat
open Go.RowKit
open R6 (done zAg zAj upd_ne upd_me)
attribute [local go_sem] gives
theorem idxT_0 (a b c d e f : Value) (W : World) : (Instr.index 128 (.agg #[a, b, c, d, e, f]) (.int .i64 0)).run Tryz.prog W = .ok (.agg #[a, b]) W := by kernel_rfl
theorem idxT_1 (a b c d e f : Value) (W : World) : (Instr.index 128 (.agg #[a, b, c, d, e, f]) (.int .i64 1)).run Tryz.prog W = .ok (.agg #[c, d]) W := by kernel_rfl
theorem idxT_2 (a b c d e f : Value) (W : World) : (Instr.index 128 (.agg #[a, b, c, d, e, f]) (.int .i64 2)).run Tryz.prog W = .ok (.agg #[e, f]) W := by kernel_rfl
theorem zU0 (f : Nat → Int × Int) {k : Nat} (hk : k < 3) (W : World) : (Instr.index 128 (.agg (st6 f).toArray) (.int .i64 (k : Int))).run Tryz.prog W = .ok (.agg (sp2 (f k)).toArray) W := by
 have h3 : k = 0 ∨ k = 1 ∨ k = 2 := by omega
 rcases h3 with rfl | rfl | rfl
 · exact idxT_0 _ _ _ _ _ _ W
 · exact idxT_1 _ _ _ _ _ _ W
 · exact idxT_2 _ _ _ _ _ _ W
theorem zSy {P : Program} {op : Oper} {a : Act} {w : World} {R : Value → World → Prop} (ty : TypeId) (x i : Operand) (ho : op.op = .index ty x i) {vx vi v : Value} (hx : a.eval x = vx) (hi : a.eval i = vi) (hr : (Instr.index ty vx vi).run P w = .ok v w) (h : R v w) : gives P op a w R := by
 unfold gives execOp; simp only [ho, hx, hi, hr, Sem.run_bind, Sem.run_pure, Result.andThen_ok]; exact h
theorem zNd (ps : List Pol) (ts : List Ts) (gs : List Gd) (vary : Int) (id : Int) (AP : Option Addr) (cp : Nat) (AT : Option Addr) (ct : Nat) (AG : Option Addr) (cg : Nat) (B : Nat) (w : World) (hB : B ≤ w.heap.size) (hz : ShAt w B ps ts AP AT) (hg : GdAt w B gs AG) :
 Calls Tryz.prog 25 #[.agg #[.slice AP ps.length cp, .slice AT ts.length ct], .agg #[.slice AG gs.length cg, .int .i64 vary], .int .i64 id] w fun e w' => e = .returned (.tuple #[.int .i64 (sGrade gs vary ps ts id).1, .int .i64 (sGrade gs vary ps ts id).2]) ∧ Grows w w' := by
 obtain ⟨w1, hw1⟩ : ∃ w1, ((w.alloc (.cells #[.slice AP ps.length cp, .slice AT ts.length ct] 25)).alloc (.cells #[.slice AG gs.length cg, .int .i64 vary] 28)) = w1 := ⟨_, rfl⟩; have hb1 : Grows w w1 := by rw [← hw1]; exact grow2 _ _ _
 have m1 : w1.heap[w.heap.size]? = some (.cells [.slice AP ps.length cp, .slice AT ts.length ct].toArray 25 (0, 0)) := by rw [← hw1]; exact zAp _ _ _
 have m2 : w1.heap[w.heap.size + 1]? = some (.cells [.slice AG gs.length cg, .int .i64 vary].toArray 28 (0, 0)) := by rw [← hw1]; exact zAo _ _ _
 have H1 := zz4 hb1 m1 m2 trivial; clear hb1 m1 m2; unfold sGrade
 by_cases hck : gChk gs vary ps ts = 0
 rotate_left
 · rw [if_neg hck]; have hwp := fun (W : World) (hW : Grows w W) => zEk ps ts gs vary id AP cp AT ct AG cg B W (Nat.le_trans hB hW.size) (hz.below (hW.mono hB)) (hg.below (hW.mono hB)) hck
   generalize gChk gs vary ps ts = ck at hwp hck ⊢; have HWP := zzh hwp; have hce : (ck == 0) = false := by simpa using hck
   have hcn : (ck != 0) = true := by simpa using hck
   clear hwp hz hg
   go_enter Tryz.func25, Tryz.ntmps25
   go_wp2_with (first
    | (refine zAb 56 (.tmp 9) (.tmp 17) rfl rfl rfl rfl rfl H3.out.2.2 (Nat.le_refl _) (fun v hv => zBd [pol0] v (by simpa using hv)) zAl ?_
       intro w4 hP4 hM4; rw [zAe (by rfl)] at hM4
       have hb4 : Grows w2 w4 := H3.out.1.trans (hP4.below (by omega))
       have hb4w : Grows w1 w4 := H2.out.trans (hb4.mono H2.out.size); have H4 := zz4 (H1.out.1.trans (hb4w.mono H1.out.1.size)) ((hP4.other _ (by omega)).trans H3.out.2.1) hM4 trivial
       have hz24 := zz2 (show w2.heap.size + 1 < w4.heap.size from zAa hM4) H2.out.size
       clear hP4 hM4 hb4 hb4w)
    | (show wpList _ _ _ (Oper.mk none (Op.store _ (Operand.tmp 8) (Operand.tmp 16)) _ _ _ _ :: _) _ _; have hm10 : ((w2.alloc (.cells #[.slice none 0 0, .slice none 0 0, .slice none 0 0, .int .i64 0] 119)).alloc (.cells #[.int .i64 0, .int .i64 0, .int .i64 0, .int .i64 0, .int .i64 0, .int .i64 0, .int .i64 0, .int .i64 0, .int .i64 0, .int .i64 0, .int .i64 0, .int .i64 0] 56)).heap[w2.heap.size]? = some (.cells z4.toArray 119 (0, 0)) := zAp _ _ _; have hm11 : ((w2.alloc (.cells #[.slice none 0 0, .slice none 0 0, .slice none 0 0, .int .i64 0] 119)).alloc (.cells #[.int .i64 0, .int .i64 0, .int .i64 0, .int .i64 0, .int .i64 0, .int .i64 0, .int .i64 0, .int .i64 0, .int .i64 0, .int .i64 0, .int .i64 0, .int .i64 0] 56)).heap[w2.heap.size + 1]? = some (.cells (pcl pol0).toArray 56 (0, 0)) := zAo _ _ _; refine zAb 119 (.tmp 8) (.tmp 16) rfl rfl rfl rfl rfl hm10 (Nat.le_refl _) zJk zA4 ?_; intro w3 hP3 hM3; rw [zAe (by rfl)] at hM3
       have hm11' := (hP3.other _ (by omega)).trans hm11
       have hb3 : Grows w2 w3 := (grow2 w2 _ _).trans (hP3.below (Nat.le_refl _)); have H3 := zz3 hb3 hM3 hm11'; clear hP3 hM3 hm10 hm11 hm11' hb3)
    | (go_at_call 54; refine (HWP.out w1 H1.out.1).mono ?_; rintro e w2 ⟨rfl, hB2⟩; have H2 := zzh hB2; clear hB2)
    | (refine zAc 28 (.tmp 4) rfl rfl rfl H1.out.2.2.1 [.slice AG gs.length cg, .int .i64 vary] at0 zAm ?_)
    | (refine zAc 25 (.tmp 3) rfl rfl rfl H1.out.2.1 [.slice AP ps.length cp, .slice AT ts.length ct] at0 zAs ?_))
   go_ret2
   exact ⟨rfl, H4.out.1⟩
 rw [if_pos hck]; cases hh : hasPol ps id
 · rw [if_neg (by decide)]
   have hwp := fun (W : World) (hW : Grows w W) => zD8 ps ts gs vary id AP cp AT ct AG cg B W (Nat.le_trans hB hW.size) (hz.below (hW.mono hB)) (hg.below (hW.mono hB)) hck hh
   have HWP := zzh hwp; clear hwp hz hg hck hh
   go_enter Tryz.func25, Tryz.ntmps25
   go_wp2_with (first
    | (refine zAb 56 (.tmp 9) (.tmp 17) rfl rfl rfl rfl rfl H3.out.2.2 (Nat.le_refl _) (fun v hv => zBd [pol0] v (by simpa using hv)) zAl ?_
       intro w4 hP4 hM4; rw [zAe (by rfl)] at hM4
       have hb4 : Grows w2 w4 := H3.out.1.trans (hP4.below (by omega))
       have hb4w : Grows w1 w4 := H2.out.trans (hb4.mono H2.out.size); have H4 := zz4 (H1.out.1.trans (hb4w.mono H1.out.1.size)) ((hP4.other _ (by omega)).trans H3.out.2.1) hM4 trivial
       have hz24 := zz2 (show w2.heap.size + 1 < w4.heap.size from zAa hM4) H2.out.size
       clear hP4 hM4 hb4 hb4w)
    | (show wpList _ _ _ (Oper.mk none (Op.store _ (Operand.tmp 8) (Operand.tmp 16)) _ _ _ _ :: _) _ _; have hm10 : ((w2.alloc (.cells #[.slice none 0 0, .slice none 0 0, .slice none 0 0, .int .i64 0] 119)).alloc (.cells #[.int .i64 0, .int .i64 0, .int .i64 0, .int .i64 0, .int .i64 0, .int .i64 0, .int .i64 0, .int .i64 0, .int .i64 0, .int .i64 0, .int .i64 0, .int .i64 0] 56)).heap[w2.heap.size]? = some (.cells z4.toArray 119 (0, 0)) := zAp _ _ _; have hm11 : ((w2.alloc (.cells #[.slice none 0 0, .slice none 0 0, .slice none 0 0, .int .i64 0] 119)).alloc (.cells #[.int .i64 0, .int .i64 0, .int .i64 0, .int .i64 0, .int .i64 0, .int .i64 0, .int .i64 0, .int .i64 0, .int .i64 0, .int .i64 0, .int .i64 0, .int .i64 0] 56)).heap[w2.heap.size + 1]? = some (.cells (pcl pol0).toArray 56 (0, 0)) := zAo _ _ _; refine zAb 119 (.tmp 8) (.tmp 16) rfl rfl rfl rfl rfl hm10 (Nat.le_refl _) zJk zA4 ?_; intro w3 hP3 hM3; rw [zAe (by rfl)] at hM3
       have hm11' := (hP3.other _ (by omega)).trans hm11
       have hb3 : Grows w2 w3 := (grow2 w2 _ _).trans (hP3.below (Nat.le_refl _)); have H3 := zz3 hb3 hM3 hm11'; clear hP3 hM3 hm10 hm11 hm11' hb3)
    | (go_at_call 54; refine (HWP.out w1 H1.out.1).mono ?_; rintro e w2 ⟨rfl, hB2⟩; have H2 := zzh hB2; clear hB2)
    | (refine zAc 28 (.tmp 4) rfl rfl rfl H1.out.2.2.1 [.slice AG gs.length cg, .int .i64 vary] at0 zAm ?_)
    | (refine zAc 25 (.tmp 3) rfl rfl rfl H1.out.2.1 [.slice AP ps.length cp, .slice AT ts.length ct] at0 zAs ?_))
   go_ret2
   exact ⟨rfl, H4.out.1⟩
 rw [if_pos rfl]; have hwp := fun (W : World) (hW : Grows w W) => zFw ps ts gs vary id AP cp AT ct AG cg B W (Nat.le_trans hB hW.size) (hz.below (hW.mono hB)) (hg.below (hW.mono hB)) hck hh
 have hyr : yrs (fndP ps id) := by
  obtain ⟨-, hosh⟩ := zMs hck; rcases zN1 ps id with ⟨a1, -⟩ | ⟨i, -, -, hi, a4⟩
  · rw [hh] at a1; cases a1
  · rw [← a4]; exact zJn ((zDq hosh).2.2.1 _ (List.getElem_mem hi)).2
 have hgo := fun (W : World) (hW : Grows w W) => zDn gs vary (fndP ps id) AP ps.length cp AT ts.length ct AG cg B W (Nat.le_trans hB hW.size) (hg.below (hW.mono hB)) hyr
 generalize fndP ps id = p at hwp hgo ⊢; generalize gOf gs p = np at hgo ⊢; have HWP := zzh hwp; have HGO := zzh hgo; clear hwp hz hg hck hh hgo hyr
 go_enter Tryz.func25, Tryz.ntmps25
 go_wp2_with (first
  | (refine zAc 119 (.tmp 8) rfl rfl rfl H4.out.2.1 [.slice AP ps.length cp, .slice AT ts.length ct, .slice AG gs.length cg, .int .i64 vary] at0 zA4 ?_)
  | (refine zAc 56 (.tmp 9) rfl rfl rfl H4.out.2.2.1 (pcl p) at0 zAl ?_)
  | (go_at_call 55; refine (HGO.out w4 H4.out.1).mono ?_; rintro e w5 ⟨rfl, hB5⟩; have H5 := zzh (H4.out.1.trans (hB5.mono H4.out.1.size)); clear hB5)
  | (refine zAb 56 (.tmp 9) (.tmp 17) rfl rfl rfl rfl rfl H3.out.2.2 (Nat.le_refl _) (fun v hv => zBd [p] v (by simpa using hv)) zAl ?_
     intro w4 hP4 hM4; rw [zAe (by rfl)] at hM4
     have hb4 : Grows w2 w4 := H3.out.1.trans (hP4.below (by omega))
     have hb4w : Grows w1 w4 := H2.out.trans (hb4.mono H2.out.size); have H4 := zz4 (H1.out.1.trans (hb4w.mono H1.out.1.size)) ((hP4.other _ (by omega)).trans H3.out.2.1) hM4 trivial
     have hz24 := zz2 (show w2.heap.size + 1 < w4.heap.size from zAa hM4) H2.out.size
     clear hP4 hM4 hb4 hb4w)
  | (show wpList _ _ _ (Oper.mk none (Op.store _ (Operand.tmp 8) (Operand.tmp 16)) _ _ _ _ :: _) _ _; have hm10 : ((w2.alloc (.cells #[.slice none 0 0, .slice none 0 0, .slice none 0 0, .int .i64 0] 119)).alloc (.cells #[.int .i64 0, .int .i64 0, .int .i64 0, .int .i64 0, .int .i64 0, .int .i64 0, .int .i64 0, .int .i64 0, .int .i64 0, .int .i64 0, .int .i64 0, .int .i64 0] 56)).heap[w2.heap.size]? = some (.cells z4.toArray 119 (0, 0)) := zAp _ _ _; have hm11 : ((w2.alloc (.cells #[.slice none 0 0, .slice none 0 0, .slice none 0 0, .int .i64 0] 119)).alloc (.cells #[.int .i64 0, .int .i64 0, .int .i64 0, .int .i64 0, .int .i64 0, .int .i64 0, .int .i64 0, .int .i64 0, .int .i64 0, .int .i64 0, .int .i64 0, .int .i64 0] 56)).heap[w2.heap.size + 1]? = some (.cells (pcl pol0).toArray 56 (0, 0)) := zAo _ _ _; refine zAb 119 (.tmp 8) (.tmp 16) rfl rfl rfl rfl rfl hm10 (Nat.le_refl _) (zGr _ _ _ _ _ _ _ _ _ _) zA4 ?_; intro w3 hP3 hM3; rw [zAe (by rfl)] at hM3
     have hm11' := (hP3.other _ (by omega)).trans hm11
     have hb3 : Grows w2 w3 := (grow2 w2 _ _).trans (hP3.below (Nat.le_refl _)); have H3 := zz3 hb3 hM3 hm11'; clear hP3 hM3 hm10 hm11 hm11' hb3)
  | (go_at_call 54; refine (HWP.out w1 H1.out.1).mono ?_; rintro e w2 ⟨rfl, hB2⟩; have H2 := zzh hB2; clear hB2)
  | (refine zAc 28 (.tmp 4) rfl rfl rfl H1.out.2.2.1 [.slice AG gs.length cg, .int .i64 vary] at0 zAm ?_)
  | (refine zAc 25 (.tmp 3) rfl rfl rfl H1.out.2.1 [.slice AP ps.length cp, .slice AT ts.length ct] at0 zAs ?_))
 go_ret2
 exact ⟨rfl, H5.out⟩
theorem zIz (ps : List Pol) (ts : List Ts) (gs : List Gd) (vary : Int) (id : Int) (sec : Int) (AP : Option Addr) (cp : Nat) (AT : Option Addr) (ct : Nat) (AG : Option Addr) (cg : Nat) (B : Nat) (w : World) (hB : B ≤ w.heap.size) (hz : ShAt w B ps ts AP AT) (hg : GdAt w B gs AG) :
 Calls Tryz.prog 26 #[.agg #[.slice AP ps.length cp, .slice AT ts.length ct], .agg #[.slice AG gs.length cg, .int .i64 vary], .int .i64 id, .int .i64 sec] w fun e w' => e = .returned (.tuple #[.agg (sp2 (sStr gs vary ps ts id sec).1).toArray, .int .i64 (sStr gs vary ps ts id sec).2]) ∧ Grows w w' := by
 obtain ⟨w1, hw1⟩ : ∃ w1, (((w.alloc (.cells #[.slice AP ps.length cp, .slice AT ts.length ct] 25)).alloc (.cells #[.slice AG gs.length cg, .int .i64 vary] 28)).alloc (.cells #[.int .i64 0, .int .i64 0] 50)) = w1 := ⟨_, rfl⟩; have hb1 : Grows w w1 := by rw [← hw1]; exact (grow2 _ _ _).alloc (by simp; omega) _
 have m1 : w1.heap[w.heap.size]? = some (.cells [.slice AP ps.length cp, .slice AT ts.length ct].toArray 25 (0, 0)) := by rw [← hw1]; exact zA7 _ _ _ _
 have m2 : w1.heap[w.heap.size + 1]? = some (.cells [.slice AG gs.length cg, .int .i64 vary].toArray 28 (0, 0)) := by rw [← hw1]; exact zA8 _ _ _ _
 have m3 : w1.heap[w.heap.size + 1 + 1]? = some (.cells [Value.int .i64 0, .int .i64 0].toArray 50 (0, 0)) := by rw [← hw1]; exact zA9 _ _ _ _
 have H1 := zz4 hb1 m1 m2 m3; clear hb1 m1 m2 m3; unfold sStr
 by_cases hck : gChk gs vary ps ts = 0
 rotate_left
 · rw [if_neg hck]; have hwp := fun (W : World) (hW : Grows w W) => zEk ps ts gs vary id AP cp AT ct AG cg B W (Nat.le_trans hB hW.size) (hz.below (hW.mono hB)) (hg.below (hW.mono hB)) hck
   generalize gChk gs vary ps ts = ck at hwp hck ⊢; have HWP := zzh hwp; have hce : (ck == 0) = false := by simpa using hck
   have hcn : (ck != 0) = true := by simpa using hck
   clear hwp hz hg
   go_enter Tryz.func26, Tryz.ntmps26
   go_wp2_with (first
    | (refine zAb 50 (.tmp 8) (.tmp 25) rfl rfl rfl rfl (cs := [.int .i64 0, .int .i64 0]) rfl H4.out.2.2.2 (Nat.le_of_ble_eq_true rfl) (zBy (0, 0)) zA3 ?_; intro w9 hP9 hM9; rw [zAe (by rfl)] at hM9
       have H9 := zz2 (H4.out.1.trans (hP9.below (by omega))) hM9
       clear hP9 hM9)
    | (refine zAb 56 (.tmp 11) (.tmp 21) rfl rfl rfl rfl rfl H3.out.2.2 (Nat.le_refl _) (fun v hv => zBd [pol0] v (by simpa using hv)) zAl ?_
       intro w4 hP4 hM4; rw [zAe (by rfl)] at hM4
       have hb4 : Grows w2 w4 := H3.out.1.trans (hP4.below (by omega))
       have hb4w : Grows w1 w4 := H2.out.trans (hb4.mono H2.out.size); have H4 := zz4 (H1.out.1.trans (hb4w.mono H1.out.1.size)) ((hP4.other _ (by omega)).trans H3.out.2.1) hM4 ((hb4w.block _ (zAa H1.out.2.2.2)).trans H1.out.2.2.2)
       have hz24 := zz2 (show w2.heap.size + 1 < w4.heap.size from zAa hM4) H2.out.size
       clear hP4 hM4 hb4 hb4w)
    | (show wpList _ _ _ (Oper.mk none (Op.store _ (Operand.tmp 10) (Operand.tmp 20)) _ _ _ _ :: _) _ _; have hm10 : ((w2.alloc (.cells #[.slice none 0 0, .slice none 0 0, .slice none 0 0, .int .i64 0] 119)).alloc (.cells #[.int .i64 0, .int .i64 0, .int .i64 0, .int .i64 0, .int .i64 0, .int .i64 0, .int .i64 0, .int .i64 0, .int .i64 0, .int .i64 0, .int .i64 0, .int .i64 0] 56)).heap[w2.heap.size]? = some (.cells z4.toArray 119 (0, 0)) := zAp _ _ _; have hm11 : ((w2.alloc (.cells #[.slice none 0 0, .slice none 0 0, .slice none 0 0, .int .i64 0] 119)).alloc (.cells #[.int .i64 0, .int .i64 0, .int .i64 0, .int .i64 0, .int .i64 0, .int .i64 0, .int .i64 0, .int .i64 0, .int .i64 0, .int .i64 0, .int .i64 0, .int .i64 0] 56)).heap[w2.heap.size + 1]? = some (.cells (pcl pol0).toArray 56 (0, 0)) := zAo _ _ _; refine zAb 119 (.tmp 10) (.tmp 20) rfl rfl rfl rfl rfl hm10 (Nat.le_refl _) zJk zA4 ?_; intro w3 hP3 hM3; rw [zAe (by rfl)] at hM3
       have hm11' := (hP3.other _ (by omega)).trans hm11
       have hb3 : Grows w2 w3 := (grow2 w2 _ _).trans (hP3.below (Nat.le_refl _)); have H3 := zz3 hb3 hM3 hm11'; clear hP3 hM3 hm10 hm11 hm11' hb3)
    | (go_at_call 54; refine (HWP.out w1 H1.out.1).mono ?_; rintro e w2 ⟨rfl, hB2⟩; have H2 := zzh hB2; clear hB2)
    | (refine zAc 28 (.tmp 5) rfl rfl rfl H1.out.2.2.1 [.slice AG gs.length cg, .int .i64 vary] at0 zAm ?_)
    | (refine zAc 25 (.tmp 4) rfl rfl rfl H1.out.2.1 [.slice AP ps.length cp, .slice AT ts.length ct] at0 zAs ?_))
   refine bodyPost_ret (v := .tuple #[.agg [Value.int .i64 0, .int .i64 0].toArray, .int .i64 ck]) (zAx (cs := [.int .i64 0, .int .i64 0]) Tryz.results26 rfl H9.out.2 zA3 rfl) rfl ⟨rfl, H9.out.1⟩
 rw [if_pos hck]; cases hh : hasPol ps id
 · rw [if_neg (by decide)]
   have hwp := fun (W : World) (hW : Grows w W) => zD8 ps ts gs vary id AP cp AT ct AG cg B W (Nat.le_trans hB hW.size) (hz.below (hW.mono hB)) (hg.below (hW.mono hB)) hck hh
   have HWP := zzh hwp; clear hwp hz hg hck hh
   go_enter Tryz.func26, Tryz.ntmps26
   go_wp2_with (first
    | (refine zAb 50 (.tmp 8) (.tmp 25) rfl rfl rfl rfl (cs := [.int .i64 0, .int .i64 0]) rfl H4.out.2.2.2 (Nat.le_of_ble_eq_true rfl) (zBy (0, 0)) zA3 ?_; intro w9 hP9 hM9; rw [zAe (by rfl)] at hM9
       have H9 := zz2 (H4.out.1.trans (hP9.below (by omega))) hM9
       clear hP9 hM9)
    | (refine zAb 56 (.tmp 11) (.tmp 21) rfl rfl rfl rfl rfl H3.out.2.2 (Nat.le_refl _) (fun v hv => zBd [pol0] v (by simpa using hv)) zAl ?_
       intro w4 hP4 hM4; rw [zAe (by rfl)] at hM4
       have hb4 : Grows w2 w4 := H3.out.1.trans (hP4.below (by omega))
       have hb4w : Grows w1 w4 := H2.out.trans (hb4.mono H2.out.size); have H4 := zz4 (H1.out.1.trans (hb4w.mono H1.out.1.size)) ((hP4.other _ (by omega)).trans H3.out.2.1) hM4 ((hb4w.block _ (zAa H1.out.2.2.2)).trans H1.out.2.2.2)
       have hz24 := zz2 (show w2.heap.size + 1 < w4.heap.size from zAa hM4) H2.out.size
       clear hP4 hM4 hb4 hb4w)
    | (show wpList _ _ _ (Oper.mk none (Op.store _ (Operand.tmp 10) (Operand.tmp 20)) _ _ _ _ :: _) _ _; have hm10 : ((w2.alloc (.cells #[.slice none 0 0, .slice none 0 0, .slice none 0 0, .int .i64 0] 119)).alloc (.cells #[.int .i64 0, .int .i64 0, .int .i64 0, .int .i64 0, .int .i64 0, .int .i64 0, .int .i64 0, .int .i64 0, .int .i64 0, .int .i64 0, .int .i64 0, .int .i64 0] 56)).heap[w2.heap.size]? = some (.cells z4.toArray 119 (0, 0)) := zAp _ _ _; have hm11 : ((w2.alloc (.cells #[.slice none 0 0, .slice none 0 0, .slice none 0 0, .int .i64 0] 119)).alloc (.cells #[.int .i64 0, .int .i64 0, .int .i64 0, .int .i64 0, .int .i64 0, .int .i64 0, .int .i64 0, .int .i64 0, .int .i64 0, .int .i64 0, .int .i64 0, .int .i64 0] 56)).heap[w2.heap.size + 1]? = some (.cells (pcl pol0).toArray 56 (0, 0)) := zAo _ _ _; refine zAb 119 (.tmp 10) (.tmp 20) rfl rfl rfl rfl rfl hm10 (Nat.le_refl _) zJk zA4 ?_; intro w3 hP3 hM3; rw [zAe (by rfl)] at hM3
       have hm11' := (hP3.other _ (by omega)).trans hm11
       have hb3 : Grows w2 w3 := (grow2 w2 _ _).trans (hP3.below (Nat.le_refl _)); have H3 := zz3 hb3 hM3 hm11'; clear hP3 hM3 hm10 hm11 hm11' hb3)
    | (go_at_call 54; refine (HWP.out w1 H1.out.1).mono ?_; rintro e w2 ⟨rfl, hB2⟩; have H2 := zzh hB2; clear hB2)
    | (refine zAc 28 (.tmp 5) rfl rfl rfl H1.out.2.2.1 [.slice AG gs.length cg, .int .i64 vary] at0 zAm ?_)
    | (refine zAc 25 (.tmp 4) rfl rfl rfl H1.out.2.1 [.slice AP ps.length cp, .slice AT ts.length ct] at0 zAs ?_))
   refine bodyPost_ret (v := .tuple #[.agg [Value.int .i64 0, .int .i64 0].toArray, .int .i64 6]) (zAx (cs := [.int .i64 0, .int .i64 0]) Tryz.results26 rfl H9.out.2 zA3 rfl) rfl ⟨rfl, H9.out.1⟩
 rw [if_pos rfl]; have hwp := fun (W : World) (hW : Grows w W) => zFw ps ts gs vary id AP cp AT ct AG cg B W (Nat.le_trans hB hW.size) (hz.below (hW.mono hB)) (hg.below (hW.mono hB)) hck hh
 obtain ⟨hogr, hosh⟩ := zMs hck; obtain ⟨⟨hl12, hl20⟩, hup, hpo, htt⟩ := zDq hosh; obtain ⟨hg3, hvv, hok⟩ := zD4 hogr
 have hmp : fndP ps id ∈ ps := by
  rcases zN1 ps id with ⟨a1, -⟩ | ⟨i, -, -, hi, a4⟩
  · rw [hh] at a1; cases a1
  · rw [← a4]; exact List.getElem_mem hi
 have hpp := hpo _ hmp; have hgo := fun (W : World) (hW : Grows w W) => zDn gs vary (fndP ps id) AP ps.length cp AT ts.length ct AG cg B W (Nat.le_trans hB hW.size) (hg.below (hW.mono hB)) (zJn hpp.2)
 have hstr := fun (W : World) (hW : Grows w W) => zEj gs vary ps ts AP cp AT ts.length ct AG cg AT ct B W (Nat.le_trans hB hW.size) (hz.p.below (hW.mono hB)) (hg.below (hW.mono hB)) (hz.t.below (hW.mono hB)) (by omega) hvv hg3 hl12 hup hpo htt hok
 have hsm := fun (k : Nat) (h : truth gs vary ps ts = true) (hk : k < 3) (hg1 : 1 ≤ gOf gs (fndP ps id)) => zO9 hvv.1 h hmp hk hpp.2 hg1 htt hok
 have hsec := zIf hpp.2; have hidk : idOk (fndP ps id).id := by have := hpp.1; unfold idOk; omega
 have hgle := zRk gs (fndP ps id); generalize fndP ps id = p at hwp hgo hsm hsec hidk hmp hgle ⊢; have HWP := zzh hwp; clear hwp hz hg hck hh hogr hosh hl12 hl20 hup hpo htt hg3 hvv hok hpp; cases hsc : inR sec 0 2
 · rw [if_neg (by decide)]
   have hab : allB 0 2 [sec] = false := by rw [← hsc]; simp [allB]
   clear hsc hgo hstr hsm hsec hidk hmp hgle
   go_enter Tryz.func26, Tryz.ntmps26
   go_wp2_with (first
    | (refine zAb 50 (.tmp 8) (.tmp 30) rfl rfl rfl rfl (cs := [.int .i64 0, .int .i64 0]) rfl H5.out.2.2.2 (Nat.le_of_ble_eq_true rfl) (zBy (0, 0)) zA3 ?_; intro w9 hP9 hM9; rw [zAe (by rfl)] at hM9
       have H9 := zz2 (H5.out.1.trans (hP9.below (by omega))) hM9
       clear hP9 hM9)
    | (go_at_call 56; refine (zBj _ _).mono ?_; rintro e w5 ⟨rfl, hB5⟩; rw [hab]; have H5 := zz4 (H4.out.1.trans (hB5.mono H4.out.1.size)) ((hB5.block _ (zAa H4.out.2.1)).trans H4.out.2.1) ((hB5.block _ (zAa H4.out.2.2.1)).trans H4.out.2.2.1) ((hB5.block _ (zAa H4.out.2.2.2)).trans H4.out.2.2.2); have hz5 := zzh hB5.size; clear hB5)
    | (refine zAb 56 (.tmp 11) (.tmp 21) rfl rfl rfl rfl rfl H3.out.2.2 (Nat.le_refl _) (fun v hv => zBd [p] v (by simpa using hv)) zAl ?_
       intro w4 hP4 hM4; rw [zAe (by rfl)] at hM4
       have hb4 : Grows w2 w4 := H3.out.1.trans (hP4.below (by omega))
       have hb4w : Grows w1 w4 := H2.out.trans (hb4.mono H2.out.size); have H4 := zz4 (H1.out.1.trans (hb4w.mono H1.out.1.size)) ((hP4.other _ (by omega)).trans H3.out.2.1) hM4 ((hb4w.block _ (zAa H1.out.2.2.2)).trans H1.out.2.2.2)
       have hz24 := zz2 (show w2.heap.size + 1 < w4.heap.size from zAa hM4) H2.out.size
       clear hP4 hM4 hb4 hb4w)
    | (show wpList _ _ _ (Oper.mk none (Op.store _ (Operand.tmp 10) (Operand.tmp 20)) _ _ _ _ :: _) _ _; have hm10 : ((w2.alloc (.cells #[.slice none 0 0, .slice none 0 0, .slice none 0 0, .int .i64 0] 119)).alloc (.cells #[.int .i64 0, .int .i64 0, .int .i64 0, .int .i64 0, .int .i64 0, .int .i64 0, .int .i64 0, .int .i64 0, .int .i64 0, .int .i64 0, .int .i64 0, .int .i64 0] 56)).heap[w2.heap.size]? = some (.cells z4.toArray 119 (0, 0)) := zAp _ _ _; have hm11 : ((w2.alloc (.cells #[.slice none 0 0, .slice none 0 0, .slice none 0 0, .int .i64 0] 119)).alloc (.cells #[.int .i64 0, .int .i64 0, .int .i64 0, .int .i64 0, .int .i64 0, .int .i64 0, .int .i64 0, .int .i64 0, .int .i64 0, .int .i64 0, .int .i64 0, .int .i64 0] 56)).heap[w2.heap.size + 1]? = some (.cells (pcl pol0).toArray 56 (0, 0)) := zAo _ _ _; refine zAb 119 (.tmp 10) (.tmp 20) rfl rfl rfl rfl rfl hm10 (Nat.le_refl _) (zGr _ _ _ _ _ _ _ _ _ _) zA4 ?_; intro w3 hP3 hM3; rw [zAe (by rfl)] at hM3
       have hm11' := (hP3.other _ (by omega)).trans hm11
       have hb3 : Grows w2 w3 := (grow2 w2 _ _).trans (hP3.below (Nat.le_refl _)); have H3 := zz3 hb3 hM3 hm11'; clear hP3 hM3 hm10 hm11 hm11' hb3)
    | (go_at_call 54; refine (HWP.out w1 H1.out.1).mono ?_; rintro e w2 ⟨rfl, hB2⟩; have H2 := zzh hB2; clear hB2)
    | (refine zAc 28 (.tmp 5) rfl rfl rfl H1.out.2.2.1 [.slice AG gs.length cg, .int .i64 vary] at0 zAm ?_)
    | (refine zAc 25 (.tmp 4) rfl rfl rfl H1.out.2.1 [.slice AP ps.length cp, .slice AT ts.length ct] at0 zAs ?_))
   refine bodyPost_ret (v := .tuple #[.agg [Value.int .i64 0, .int .i64 0].toArray, .int .i64 2]) (zAx (cs := [.int .i64 0, .int .i64 0]) Tryz.results26 rfl H9.out.2 zA3 rfl) rfl ⟨rfl, H9.out.1⟩
 rw [if_pos rfl]; have hs2 := inR_iff.1 hsc; obtain ⟨k, rfl⟩ : ∃ k : Nat, sec = k := ⟨sec.toNat, by omega⟩
 have hk : k < 3 := by omega
 have hkz : (k : Int) < 3 := by omega
 rw [Int.toNat_natCast]; have hab : allB 0 2 [(k : Int)] = true := by rw [← hsc]; simp [allB]
 clear hsc hs2; have har := zN3 hsec k; have hare := fun W => zI5 p k hk hsec W
 have hbe : ∀ s, bears p k s = min (s * ar p k / 1000) 1000000 := fun _ => rfl
 have hsm := hsm k
 by_cases h0 : gOf gs p = 0
 · rw [if_pos h0]; rw [h0] at hgo; have HP := zz2 hgo hstr; clear h0 hgo hstr hsm hsec hidk hmp hgle har hare hbe
   go_enter Tryz.func26, Tryz.ntmps26
   go_wp2_with (first
    | (refine zAb 50 (.tmp 8) (.tmp 35) rfl rfl rfl rfl (cs := [.int .i64 0, .int .i64 0]) rfl H6.out.2.2.2 (Nat.le_of_ble_eq_true rfl) (zBy (0, 0)) zA3 ?_; intro w9 hP9 hM9; rw [zAe (by rfl)] at hM9
       have H9 := zz2 (H6.out.1.trans (hP9.below (by omega))) hM9
       clear hP9 hM9)
    | (refine zAc 119 (.tmp 10) rfl rfl rfl H5.out.2.1 [.slice AP ps.length cp, .slice AT ts.length ct, .slice AG gs.length cg, .int .i64 vary] at0 zA4 ?_)
    | (refine zAc 56 (.tmp 11) rfl rfl rfl H5.out.2.2.1 (pcl p) at0 zAl ?_)
    | (go_at_call 55; refine (HP.out.1 w5 H5.out.1).mono ?_; rintro e w6 ⟨rfl, hB6⟩; have H6 := zz4 (H5.out.1.trans (hB6.mono H5.out.1.size)) ((hB6.block _ (zAa H5.out.2.1)).trans H5.out.2.1) ((hB6.block _ (zAa H5.out.2.2.1)).trans H5.out.2.2.1) ((hB6.block _ (zAa H5.out.2.2.2)).trans H5.out.2.2.2); have hz6 := zzh hB6.size; have f2 : w6.cell? ⟨w2.heap.size, 1, none⟩ = some (.slice AT ts.length ct) := cell_of_row w6 _ 1 _ _ _ H6.out.2.1; clear hB6)
    | (go_at_call 56; refine (zBj _ _).mono ?_; rintro e w5 ⟨rfl, hB5⟩; rw [hab]; have H5 := zz4 (H4.out.1.trans (hB5.mono H4.out.1.size)) ((hB5.block _ (zAa H4.out.2.1)).trans H4.out.2.1) ((hB5.block _ (zAa H4.out.2.2.1)).trans H4.out.2.2.1) ((hB5.block _ (zAa H4.out.2.2.2)).trans H4.out.2.2.2); have hz5 := zzh hB5.size; clear hB5)
    | (refine zAb 56 (.tmp 11) (.tmp 21) rfl rfl rfl rfl rfl H3.out.2.2 (Nat.le_refl _) (fun v hv => zBd [p] v (by simpa using hv)) zAl ?_
       intro w4 hP4 hM4; rw [zAe (by rfl)] at hM4
       have hb4 : Grows w2 w4 := H3.out.1.trans (hP4.below (by omega))
       have hb4w : Grows w1 w4 := H2.out.trans (hb4.mono H2.out.size); have H4 := zz4 (H1.out.1.trans (hb4w.mono H1.out.1.size)) ((hP4.other _ (by omega)).trans H3.out.2.1) hM4 ((hb4w.block _ (zAa H1.out.2.2.2)).trans H1.out.2.2.2)
       have hz24 := zz2 (show w2.heap.size + 1 < w4.heap.size from zAa hM4) H2.out.size
       clear hP4 hM4 hb4 hb4w)
    | (show wpList _ _ _ (Oper.mk none (Op.store _ (Operand.tmp 10) (Operand.tmp 20)) _ _ _ _ :: _) _ _; have hm10 : ((w2.alloc (.cells #[.slice none 0 0, .slice none 0 0, .slice none 0 0, .int .i64 0] 119)).alloc (.cells #[.int .i64 0, .int .i64 0, .int .i64 0, .int .i64 0, .int .i64 0, .int .i64 0, .int .i64 0, .int .i64 0, .int .i64 0, .int .i64 0, .int .i64 0, .int .i64 0] 56)).heap[w2.heap.size]? = some (.cells z4.toArray 119 (0, 0)) := zAp _ _ _; have hm11 : ((w2.alloc (.cells #[.slice none 0 0, .slice none 0 0, .slice none 0 0, .int .i64 0] 119)).alloc (.cells #[.int .i64 0, .int .i64 0, .int .i64 0, .int .i64 0, .int .i64 0, .int .i64 0, .int .i64 0, .int .i64 0, .int .i64 0, .int .i64 0, .int .i64 0, .int .i64 0] 56)).heap[w2.heap.size + 1]? = some (.cells (pcl pol0).toArray 56 (0, 0)) := zAo _ _ _; refine zAb 119 (.tmp 10) (.tmp 20) rfl rfl rfl rfl rfl hm10 (Nat.le_refl _) (zGr _ _ _ _ _ _ _ _ _ _) zA4 ?_; intro w3 hP3 hM3; rw [zAe (by rfl)] at hM3
       have hm11' := (hP3.other _ (by omega)).trans hm11
       have hb3 : Grows w2 w3 := (grow2 w2 _ _).trans (hP3.below (Nat.le_refl _)); have H3 := zz3 hb3 hM3 hm11'; clear hP3 hM3 hm10 hm11 hm11' hb3)
    | (go_at_call 54; refine (HWP.out w1 H1.out.1).mono ?_; rintro e w2 ⟨rfl, hB2⟩; have H2 := zzh hB2; clear hB2)
    | (refine zAc 28 (.tmp 5) rfl rfl rfl H1.out.2.2.1 [.slice AG gs.length cg, .int .i64 vary] at0 zAm ?_)
    | (refine zAc 25 (.tmp 4) rfl rfl rfl H1.out.2.1 [.slice AP ps.length cp, .slice AT ts.length ct] at0 zAs ?_))
   refine bodyPost_ret (v := .tuple #[.agg [Value.int .i64 0, .int .i64 0].toArray, .int .i64 8]) (zAx (cs := [.int .i64 0, .int .i64 0]) Tryz.results26 rfl H9.out.2 zA3 rfl) rfl ⟨rfl, H9.out.1⟩
 rw [if_neg h0]; have hsm := fun h => hsm h hk (by omega)
 have hF : ∀ F, StrF gs vary ps ts gs.length F → F p.id = fun k => spanT gs vary ps ts p k := fun F h => h p hmp h0 hgle
 generalize hnp : gOf gs p = np at hgo h0; have HNP := zz2 (show ((np : Int) == 0) = false by simp; omega) (show ¬ (np : Int) = 0 by omega)
 obtain ⟨n1, n2⟩ := HNP.out; clear hnp; cases htv : truth gs vary ps ts
 · rw [if_neg (by decide)]
   unfold StrPost at hstr; rw [htv] at hstr; have HP := zz2 hgo hstr; clear h0 hgo hstr hsm hsec hidk hmp hgle har hare hbe hF htv
   go_enter Tryz.func26, Tryz.ntmps26
   go_wp2_with (first
    | (refine zAb 50 (.tmp 8) (.tmp 46) rfl rfl rfl rfl (cs := [.int .i64 0, .int .i64 0]) rfl H7.out.1.2.2.2 (Nat.le_of_ble_eq_true rfl) (zBy (0, 0)) zA3 ?_; intro w9 hP9 hM9; rw [zAe (by rfl)] at hM9
       have H9 := zz2 (H7.out.1.1.trans (hP9.below (by omega))) hM9
       clear hP9 hM9)
    | (refine zAc 119 (.tmp 10) rfl rfl rfl H6.out.2.1 [.slice AP ps.length cp, .slice AT ts.length ct, .slice AG gs.length cg, .int .i64 vary] at0 zA4 ?_)
    | (go_at_call 57; refine (HP.out.2 w6 H6.out.1).mono ?_; rintro e w7 ⟨mb, nb, F, rfl, hmb, hOF, hSF, hB7⟩; have H7 := zz4 (And.intro (H6.out.1.trans (hB7.mono H6.out.1.size)) (And.intro ((hB7.block _ (zAa H6.out.2.1)).trans H6.out.2.1) (And.intro ((hB7.block _ (zAa H6.out.2.2.1)).trans H6.out.2.2.1) ((hB7.block _ (zAa H6.out.2.2.2)).trans H6.out.2.2.2)))) hmb hOF hSF; clear hB7 hmb hOF hSF)
    | (refine zAc 119 (.tmp 10) rfl rfl rfl H5.out.2.1 [.slice AP ps.length cp, .slice AT ts.length ct, .slice AG gs.length cg, .int .i64 vary] at0 zA4 ?_)
    | (refine zAc 56 (.tmp 11) rfl rfl rfl H5.out.2.2.1 (pcl p) at0 zAl ?_)
    | (go_at_call 55; refine (HP.out.1 w5 H5.out.1).mono ?_; rintro e w6 ⟨rfl, hB6⟩; have H6 := zz4 (H5.out.1.trans (hB6.mono H5.out.1.size)) ((hB6.block _ (zAa H5.out.2.1)).trans H5.out.2.1) ((hB6.block _ (zAa H5.out.2.2.1)).trans H5.out.2.2.1) ((hB6.block _ (zAa H5.out.2.2.2)).trans H5.out.2.2.2); have hz6 := zzh hB6.size; have f2 : w6.cell? ⟨w2.heap.size, 1, none⟩ = some (.slice AT ts.length ct) := cell_of_row w6 _ 1 _ _ _ H6.out.2.1; clear hB6)
    | (go_at_call 56; refine (zBj _ _).mono ?_; rintro e w5 ⟨rfl, hB5⟩; rw [hab]; have H5 := zz4 (H4.out.1.trans (hB5.mono H4.out.1.size)) ((hB5.block _ (zAa H4.out.2.1)).trans H4.out.2.1) ((hB5.block _ (zAa H4.out.2.2.1)).trans H4.out.2.2.1) ((hB5.block _ (zAa H4.out.2.2.2)).trans H4.out.2.2.2); have hz5 := zzh hB5.size; clear hB5)
    | (refine zAb 56 (.tmp 11) (.tmp 21) rfl rfl rfl rfl rfl H3.out.2.2 (Nat.le_refl _) (fun v hv => zBd [p] v (by simpa using hv)) zAl ?_
       intro w4 hP4 hM4; rw [zAe (by rfl)] at hM4
       have hb4 : Grows w2 w4 := H3.out.1.trans (hP4.below (by omega))
       have hb4w : Grows w1 w4 := H2.out.trans (hb4.mono H2.out.size); have H4 := zz4 (H1.out.1.trans (hb4w.mono H1.out.1.size)) ((hP4.other _ (by omega)).trans H3.out.2.1) hM4 ((hb4w.block _ (zAa H1.out.2.2.2)).trans H1.out.2.2.2)
       have hz24 := zz2 (show w2.heap.size + 1 < w4.heap.size from zAa hM4) H2.out.size
       clear hP4 hM4 hb4 hb4w)
    | (show wpList _ _ _ (Oper.mk none (Op.store _ (Operand.tmp 10) (Operand.tmp 20)) _ _ _ _ :: _) _ _; have hm10 : ((w2.alloc (.cells #[.slice none 0 0, .slice none 0 0, .slice none 0 0, .int .i64 0] 119)).alloc (.cells #[.int .i64 0, .int .i64 0, .int .i64 0, .int .i64 0, .int .i64 0, .int .i64 0, .int .i64 0, .int .i64 0, .int .i64 0, .int .i64 0, .int .i64 0, .int .i64 0] 56)).heap[w2.heap.size]? = some (.cells z4.toArray 119 (0, 0)) := zAp _ _ _; have hm11 : ((w2.alloc (.cells #[.slice none 0 0, .slice none 0 0, .slice none 0 0, .int .i64 0] 119)).alloc (.cells #[.int .i64 0, .int .i64 0, .int .i64 0, .int .i64 0, .int .i64 0, .int .i64 0, .int .i64 0, .int .i64 0, .int .i64 0, .int .i64 0, .int .i64 0, .int .i64 0] 56)).heap[w2.heap.size + 1]? = some (.cells (pcl pol0).toArray 56 (0, 0)) := zAo _ _ _; refine zAb 119 (.tmp 10) (.tmp 20) rfl rfl rfl rfl rfl hm10 (Nat.le_refl _) (zGr _ _ _ _ _ _ _ _ _ _) zA4 ?_; intro w3 hP3 hM3; rw [zAe (by rfl)] at hM3
       have hm11' := (hP3.other _ (by omega)).trans hm11
       have hb3 : Grows w2 w3 := (grow2 w2 _ _).trans (hP3.below (Nat.le_refl _)); have H3 := zz3 hb3 hM3 hm11'; clear hP3 hM3 hm10 hm11 hm11' hb3)
    | (go_at_call 54; refine (HWP.out w1 H1.out.1).mono ?_; rintro e w2 ⟨rfl, hB2⟩; have H2 := zzh hB2; clear hB2)
    | (refine zAc 28 (.tmp 5) rfl rfl rfl H1.out.2.2.1 [.slice AG gs.length cg, .int .i64 vary] at0 zAm ?_)
    | (refine zAc 25 (.tmp 4) rfl rfl rfl H1.out.2.1 [.slice AP ps.length cp, .slice AT ts.length ct] at0 zAs ?_))
   refine bodyPost_ret (v := .tuple #[.agg [Value.int .i64 0, .int .i64 0].toArray, .int .i64 52]) (zAx (cs := [.int .i64 0, .int .i64 0]) Tryz.results26 rfl H9.out.2 zA3 rfl) rfl ⟨rfl, H9.out.1⟩
 rw [if_pos rfl]; have hsm := hsm htv; unfold StrPost at hstr; rw [htv] at hstr; have HP := zz2 hgo hstr; obtain ⟨f, hf⟩ : ∃ f : Nat → Int × Int, (fun k => spanT gs vary ps ts p k) = f := ⟨_, rfl⟩
 have hfk : spanT gs vary ps ts p k = f k := by rw [← hf]
 rw [hf] at hF; rw [hfk] at hsm ⊢; have hsn := fun W => zId (f k) (ar p k) (by omega) (by omega) har.1 har.2 W
 rw [← hbe, ← hbe] at hsn; generalize (bears p k (f k).1, bears p k (f k).2) = z at hsn ⊢; generalize ar p k = a at hare hsn; have HS := zz4 hF hidk hare hsn; clear h0 hgo hstr hsm hsec hidk hmp hgle har hare hbe hF htv hf hfk hsn
 go_enter Tryz.func26, Tryz.ntmps26
 go_wp2_with (first
  | (refine zAc 119 (.tmp 10) rfl rfl rfl H6.out.2.1 [.slice AP ps.length cp, .slice AT ts.length ct, .slice AG gs.length cg, .int .i64 vary] at0 zA4 ?_)
  | (go_at_call 57; refine (HP.out.2 w6 H6.out.1).mono ?_; rintro e w7 ⟨mb, nb, F, rfl, hmb, hOF, hSF, hB7⟩; have H7 := zz4 (And.intro (H6.out.1.trans (hB7.mono H6.out.1.size)) (And.intro ((hB7.block _ (zAa H6.out.2.1)).trans H6.out.2.1) (And.intro ((hB7.block _ (zAa H6.out.2.2.1)).trans H6.out.2.2.1) ((hB7.block _ (zAa H6.out.2.2.2)).trans H6.out.2.2.2)))) hmb hOF hSF; clear hB7 hmb hOF hSF)
  | (refine zAc 119 (.tmp 10) rfl rfl rfl H5.out.2.1 [.slice AP ps.length cp, .slice AT ts.length ct, .slice AG gs.length cg, .int .i64 vary] at0 zA4 ?_)
  | (refine zAc 56 (.tmp 11) rfl rfl rfl H5.out.2.2.1 (pcl p) at0 zAl ?_)
  | (go_at_call 55; refine (HP.out.1 w5 H5.out.1).mono ?_; rintro e w6 ⟨rfl, hB6⟩; have H6 := zz4 (H5.out.1.trans (hB6.mono H5.out.1.size)) ((hB6.block _ (zAa H5.out.2.1)).trans H5.out.2.1) ((hB6.block _ (zAa H5.out.2.2.1)).trans H5.out.2.2.1) ((hB6.block _ (zAa H5.out.2.2.2)).trans H5.out.2.2.2); have hz6 := zzh hB6.size; have f2 : w6.cell? ⟨w2.heap.size, 1, none⟩ = some (.slice AT ts.length ct) := cell_of_row w6 _ 1 _ _ _ H6.out.2.1; clear hB6)
  | (go_at_call 56; refine (zBj _ _).mono ?_; rintro e w5 ⟨rfl, hB5⟩; rw [hab]; have H5 := zz4 (H4.out.1.trans (hB5.mono H4.out.1.size)) ((hB5.block _ (zAa H4.out.2.1)).trans H4.out.2.1) ((hB5.block _ (zAa H4.out.2.2.1)).trans H4.out.2.2.1) ((hB5.block _ (zAa H4.out.2.2.2)).trans H4.out.2.2.2); have hz5 := zzh hB5.size; clear hB5)
  | (refine zAb 56 (.tmp 11) (.tmp 21) rfl rfl rfl rfl rfl H3.out.2.2 (Nat.le_refl _) (fun v hv => zBd [p] v (by simpa using hv)) zAl ?_
     intro w4 hP4 hM4; rw [zAe (by rfl)] at hM4
     have hb4 : Grows w2 w4 := H3.out.1.trans (hP4.below (by omega))
     have hb4w : Grows w1 w4 := H2.out.trans (hb4.mono H2.out.size); have H4 := zz4 (H1.out.1.trans (hb4w.mono H1.out.1.size)) ((hP4.other _ (by omega)).trans H3.out.2.1) hM4 ((hb4w.block _ (zAa H1.out.2.2.2)).trans H1.out.2.2.2)
     have hz24 := zz2 (show w2.heap.size + 1 < w4.heap.size from zAa hM4) H2.out.size
     clear hP4 hM4 hb4 hb4w)
  | (show wpList _ _ _ (Oper.mk none (Op.store _ (Operand.tmp 10) (Operand.tmp 20)) _ _ _ _ :: _) _ _; have hm10 : ((w2.alloc (.cells #[.slice none 0 0, .slice none 0 0, .slice none 0 0, .int .i64 0] 119)).alloc (.cells #[.int .i64 0, .int .i64 0, .int .i64 0, .int .i64 0, .int .i64 0, .int .i64 0, .int .i64 0, .int .i64 0, .int .i64 0, .int .i64 0, .int .i64 0, .int .i64 0] 56)).heap[w2.heap.size]? = some (.cells z4.toArray 119 (0, 0)) := zAp _ _ _; have hm11 : ((w2.alloc (.cells #[.slice none 0 0, .slice none 0 0, .slice none 0 0, .int .i64 0] 119)).alloc (.cells #[.int .i64 0, .int .i64 0, .int .i64 0, .int .i64 0, .int .i64 0, .int .i64 0, .int .i64 0, .int .i64 0, .int .i64 0, .int .i64 0, .int .i64 0, .int .i64 0] 56)).heap[w2.heap.size + 1]? = some (.cells (pcl pol0).toArray 56 (0, 0)) := zAo _ _ _; refine zAb 119 (.tmp 10) (.tmp 20) rfl rfl rfl rfl rfl hm10 (Nat.le_refl _) (zGr _ _ _ _ _ _ _ _ _ _) zA4 ?_; intro w3 hP3 hM3; rw [zAe (by rfl)] at hM3
     have hm11' := (hP3.other _ (by omega)).trans hm11
     have hb3 : Grows w2 w3 := (grow2 w2 _ _).trans (hP3.below (Nat.le_refl _)); have H3 := zz3 hb3 hM3 hm11'; clear hP3 hM3 hm10 hm11 hm11' hb3)
  | (go_at_call 54; refine (HWP.out w1 H1.out.1).mono ?_; rintro e w2 ⟨rfl, hB2⟩; have H2 := zzh hB2; clear hB2)
  | (refine zAc 28 (.tmp 5) rfl rfl rfl H1.out.2.2.1 [.slice AG gs.length cg, .int .i64 vary] at0 zAm ?_)
  | (refine zAc 25 (.tmp 4) rfl rfl rfl H1.out.2.1 [.slice AP ps.length cp, .slice AT ts.length ct] at0 zAs ?_))
 clear n1 n2; have hl1 := zAa H1.out.2.2.2; have hl2 := hz24.out; have hl5 := hz5.out; have hl6 := hz6.out; have HL := zz5 hl1 hl2 hl5 hl6 H7.out.2.1; clear hl1 hl2 hl5 hl6
 refine R6.wp_walk (C := fun D σ W => StM w (w.heap.size + 1 + 1) 50 [.int .i64 0, .int .i64 0] (sp2 z) [(w2.heap.size + 1, .cells (pcl p).toArray 56)] 10 D σ W ∧ OwnF W mb nb F) 57 (by kernel_rfl) (by kernel_rfl) rfl
  ⟨⟨H7.out.1.1.drew, fun _ => H7.out.1.2.2.2, (fun e => by cases e), zAa H7.out.1.2.2.2, ⟨H7.out.1.2.2.1, trivial⟩⟩, H7.out.2.2.1.block rfl⟩ ?_
 simp only []
 repeat (first
  | (refine' R6.WalkR.det (fun _ => rfl) (fun D ρ W hK hC => ?_) ?_
     rotate_left
     · have f1 : W.cell? ⟨w2.heap.size + 1, 0, none⟩ = some (.int .i64 p.id) := cell_of_row W _ 0 _ _ _ hC.1.box.1; have HC := zzh hC; clear hC hK; go_simp; with_reducible exact ⟨rfl, ⟨HC.out.1.move (by decide), HC.out.2⟩⟩
     simp only [Act.put, zza, zzb, zzc]))
 refine' R6.WalkR.det (c := .agg (st6 f).toArray) (fun _ => rfl) (fun D ρ W hK hC => ?_) ?_
 · exact zEh (.tmp 47) (.tmp 49) rfl rfl hC.2 HS.out.2.1 rfl ⟨by rw [HS.out.1 F H7.out.2.2.2]; rfl, hC.1.move (by decide), hC.2⟩
 simp only [Act.put, zza, zzb, zzc]
 repeat (first
  | (refine' R6.WalkR.det (fun _ => rfl) (fun D ρ W hK hC => ?_) ?_
     rotate_left
     · have f1 : W.cell? ⟨w2.heap.size + 1, 0, none⟩ = some (.int .i64 p.id) := cell_of_row W _ 0 _ _ _ hC.1.box.1; have HC := zzh hC; clear hC hK; go_simp; with_reducible exact ⟨rfl, ⟨HC.out.1.move (by decide), HC.out.2⟩⟩
     simp only [Act.put, zza, zzb, zzc]))
 refine' R6.WalkR.det (fun _ => rfl) (fun D ρ W hK hC => ?_) ?_
 rotate_left
 · exact zSy 128 (.tmp 50) (.tmp 51) rfl rfl rfl (zU0 f hk W) ⟨rfl, hC.1.move (by decide), hC.2⟩
 simp only [Act.put, zza, zzb, zzc]; refine' R6.WalkR.det (fun _ => rfl) (fun D ρ W hK hC => ?_) ?_
 rotate_left
 · exact zAk 56 (.tmp 11) rfl rfl hC.1.box.1 (pcl p) at0 zAl ⟨rfl, hC.1.move (by decide), hC.2⟩
 simp only [Act.put, zza, zzb, zzc]
 repeat (first
  | (refine' R6.WalkR.det (fun _ => rfl) (fun D ρ W hK hC => ?_) ?_
     rotate_left
     · skip
       have HC := zzh hC; clear hC hK; go_simp; with_reducible exact ⟨rfl, ⟨HC.out.1.move (by decide), HC.out.2⟩⟩
     simp only [Act.put, zza, zzb, zzc]))
 refine' R6.WalkR.det (fun _ => rfl) (fun D ρ W hK hC => ?_) ?_
 rotate_left
 · have HC := zzh hC; clear hC hK; go_simp; go_at_call 59; refine (HS.out.2.2.1 W).mono ?_; rintro e W1 ⟨rfl, hB1⟩; exact ⟨_, rfl, rfl, (HC.out.1.next hB1).move (by decide), HC.out.2.block (hB1.block _ HC.out.2.lt)⟩
 simp only [Act.put, zza, zzb, zzc]; refine' R6.WalkR.det (fun _ => rfl) (fun D ρ W hK hC => ?_) ?_
 rotate_left
 · have HC := zzh hC; clear hC hK; go_simp; go_at_call 58; refine (HS.out.2.2.2 W).mono ?_; rintro e W1 ⟨rfl, hB1⟩; exact ⟨_, rfl, rfl, (HC.out.1.next hB1).move (by decide), HC.out.2.block (hB1.block _ HC.out.2.lt)⟩
 simp only [Act.put, zza, zzb, zzc]; refine' R6.WalkR.det (c := undef) (fun _ => rfl) (fun D ρ W hK hC => ?_) ?_
 · refine zBs 50 (.tmp 8) (.tmp 56) (cs := sp2 z) rfl rfl rfl (hC.1.hX hK.me) (Nat.le_of_ble_eq_true rfl) (zBy _) zA3 ?_; intro W' hP hM'; rw [zAe (by rfl)] at hM'
   have hl := HL.out; exact ⟨rfl, hC.1.put hP hM' (by omega) (fun e he => by simp only [List.mem_cons, List.not_mem_nil, or_false] at he; rcases he with rfl; dsimp only; omega), hC.2.block (hP.other _ (by omega))⟩
 simp only [Act.put, zza, zzb, zzc]
 repeat (first
  | (refine' R6.WalkR.det (fun _ => rfl) (fun D ρ W hK hC => ?_) ?_
     rotate_left
     · skip
       have HC := zzh hC; clear hC hK; go_simp; with_reducible exact ⟨rfl, ⟨HC.out.1.move (by decide), HC.out.2⟩⟩
     simp only [Act.put, zza, zzb, zzc]))
 refine R6.WalkR.nil (fun D ρ W9 hD hC => ?_)
 have H9 := zz2 hC.1.bel (hC.1.hY (hD 10 (by omega)))
 clear hC hD; go_wp2; refine bodyPost_ret (v := .tuple #[.agg (sp2 z).toArray, .int .i64 0]) (zAx (cs := sp2 z) Tryz.results26 rfl H9.out.2 zA3 rfl) rfl ⟨rfl, H9.out.1⟩
end Go.Proofs.YtnjgibbfcigbfaaGreat
