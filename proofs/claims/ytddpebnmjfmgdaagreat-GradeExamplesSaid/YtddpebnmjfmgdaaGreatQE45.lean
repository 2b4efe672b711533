/-
  A pole's grade, a section's strength (the program's).
-/
import Derived.Test.YtddpebnmjfmgdaaGreatQE18
import Derived.Test.YtddpebnmjfmgdaaGreatQE42
set_option linter.all false
namespace Go.Proofs.YtddpebnmjfmgdaaGreat
open Go.RowKit
open R6 (done done_ne done_me upd_ne upd_me)

attribute [local go_sem] gives

theorem idxT_0 (a b c d e f : Value) (W : World) : (Instr.index 128 (.agg #[a, b, c, d, e, f]) (.int .i64 0)).run Tryz.prog W = .ok (.agg #[a, b]) W := by kernel_rfl
theorem idxT_1 (a b c d e f : Value) (W : World) : (Instr.index 128 (.agg #[a, b, c, d, e, f]) (.int .i64 1)).run Tryz.prog W = .ok (.agg #[c, d]) W := by kernel_rfl
theorem idxT_2 (a b c d e f : Value) (W : World) : (Instr.index 128 (.agg #[a, b, c, d, e, f]) (.int .i64 2)).run Tryz.prog W = .ok (.agg #[e, f]) W := by kernel_rfl
theorem idxT_any (f : Nat → Int × Int) {k : Nat} (hk : k < 3) (W : World) : (Instr.index 128 (.agg (st6 f).toArray) (.int .i64 (k : Int))).run Tryz.prog W = .ok (.agg (sp2 (f k)).toArray) W := by
  have h3 : k = 0 ∨ k = 1 ∨ k = 2 := by omega
  rcases h3 with rfl | rfl | rfl
  · exact idxT_0 _ _ _ _ _ _ W
  · exact idxT_1 _ _ _ _ _ _ W
  · exact idxT_2 _ _ _ _ _ _ W
theorem gives_idx {P : Program} {op : Oper} {a : Act} {w : World} {R : Value → World → Prop} (ty : TypeId) (x i : Operand) (ho : op.op = .index ty x i) {vx vi v : Value} (hx : a.eval x = vx) (hi : a.eval i = vi) (hr : (Instr.index ty vx vi).run P w = .ok v w) (h : R v w) : gives P op a w R := by
  unfold gives execOp
  simp only [ho, hx, hi, hr, Sem.run_bind, Sem.run_pure, Result.andThen_ok]
  exact h

set_option maxRecDepth 100000 in
set_option maxHeartbeats 8000000 in
theorem grGrade_any (ps : List Pol) (ts : List Ts) (gs : List Gd) (vary : Int) (id : Int) (AP : Option Addr) (cp : Nat) (AT : Option Addr) (ct : Nat) (AG : Option Addr) (cg : Nat) (B : Nat) (w : World) (hB : B ≤ w.heap.size) (hz : ShAt w B ps ts AP AT) (hg : GdAt w B gs AG) :
    Calls Tryz.prog 25 #[.agg #[.slice AP ps.length cp, .slice AT ts.length ct], .agg #[.slice AG gs.length cg, .int .i64 vary], .int .i64 id] w fun e w' => e = .returned (.tuple #[.int .i64 (sGrade gs vary ps ts id).1, .int .i64 (sGrade gs vary ps ts id).2]) ∧ Below w.heap.size w w' := by
  obtain ⟨w1, hw1⟩ : ∃ w1, ((w.alloc (.cells #[.slice AP ps.length cp, .slice AT ts.length ct] 25)).alloc (.cells #[.slice AG gs.length cg, .int .i64 vary] 28)) = w1 := ⟨_, rfl⟩
  have hb1 : Below w.heap.size w w1 := by rw [← hw1]; exact grow2 _ _ _
  have m1 : w1.heap[w.heap.size]? = some (.cells [.slice AP ps.length cp, .slice AT ts.length ct].toArray 25 (0, 0)) := by rw [← hw1]; exact alloc2_at0 _ _ _
  have m2 : w1.heap[w.heap.size + 1]? = some (.cells [.slice AG gs.length cg, .int .i64 vary].toArray 28 (0, 0)) := by rw [← hw1]; exact alloc2_at1 _ _ _
  have H1 := Lib.hid (And.intro hb1 (And.intro m1 (And.intro m2 trivial)))
  clear hb1 m1 m2
  unfold sGrade
  by_cases hck : gChk gs vary ps ts = 0
  rotate_left
  · rw [if_neg hck]
    have hwp := fun (W : World) (hW : Below w.heap.size w W) => grWithPole_bad ps ts gs vary id AP cp AT ct AG cg B W (Nat.le_trans hB hW.size) (hz.below (hW.mono hB)) (hg.below (hW.mono hB)) hck
    generalize gChk gs vary ps ts = ck at hwp hck ⊢
    have HWP := Lib.hid hwp
    have hce : (ck == 0) = false := by simpa using hck
    have hcn : (ck != 0) = true := by simpa using hck
    clear hwp hz hg
    go_enter Tryz.func25, Tryz.ntmps25
    go_wp2_with (first
      | (show wpList _ _ _ (Oper.mk none (Op.store _ (Operand.tmp 9) (Operand.tmp 17)) _ _ _ _ :: _) _ _
         refine wpList_store_blk 56 (.tmp 9) (.tmp 17) rfl rfl rfl rfl rfl H3.out.2.2 (Nat.le_refl _) (fun v hv => pcl_one [pol0] v (by simpa using hv)) rowPole ?_
         intro w4 hP4 hM4
         rw [splice_whole (by rfl)] at hM4
         have hb4 : Below w2.heap.size w2 w4 := H3.out.1.trans (hP4.below (by omega))
         have hb4w : Below w1.heap.size w1 w4 := H2.out.trans (hb4.mono H2.out.size)
         have H4 := Lib.hid (And.intro (H1.out.1.trans (hb4w.mono H1.out.1.size)) (And.intro ((hP4.other _ (by omega)).trans H3.out.2.1) (And.intro hM4 trivial)))
         have hz24 := Lib.hid (And.intro (show w2.heap.size + 1 < w4.heap.size from lt_of_heap hM4) H2.out.size)
         clear hP4 hM4 hb4 hb4w)
      | (show wpList _ _ _ (Oper.mk none (Op.store _ (Operand.tmp 8) (Operand.tmp 16)) _ _ _ _ :: _) _ _
         have hm10 : ((w2.alloc (.cells #[.slice none 0 0, .slice none 0 0, .slice none 0 0, .int .i64 0] 119)).alloc (.cells #[.int .i64 0, .int .i64 0, .int .i64 0, .int .i64 0, .int .i64 0, .int .i64 0, .int .i64 0, .int .i64 0, .int .i64 0, .int .i64 0, .int .i64 0, .int .i64 0] 56)).heap[w2.heap.size]? = some (.cells z4.toArray 119 (0, 0)) := alloc2_at0 _ _ _
         have hm11 : ((w2.alloc (.cells #[.slice none 0 0, .slice none 0 0, .slice none 0 0, .int .i64 0] 119)).alloc (.cells #[.int .i64 0, .int .i64 0, .int .i64 0, .int .i64 0, .int .i64 0, .int .i64 0, .int .i64 0, .int .i64 0, .int .i64 0, .int .i64 0, .int .i64 0, .int .i64 0] 56)).heap[w2.heap.size + 1]? = some (.cells (pcl pol0).toArray 56 (0, 0)) := alloc2_at1 _ _ _
         refine wpList_store_blk 119 (.tmp 8) (.tmp 16) rfl rfl rfl rfl rfl hm10 (Nat.le_refl _) z4_one rowSheetW ?_
         intro w3 hP3 hM3
         rw [splice_whole (by rfl)] at hM3
         have hm11' := (hP3.other _ (by omega)).trans hm11
         have hb3 : Below w2.heap.size w2 w3 := (grow2 w2 _ _).trans (hP3.below (Nat.le_refl _))
         have H3 := Lib.hid (And.intro hb3 (And.intro hM3 hm11'))
         clear hP3 hM3 hm10 hm11 hm11' hb3)
      | (go_at_call 54
         refine (HWP.out w1 H1.out.1).mono ?_
         rintro e w2 ⟨rfl, hB2⟩
         have H2 := Lib.hid hB2
         clear hB2)
      | (show wpList _ _ _ (Oper.mk (some 13) _ _ _ _ _ :: _) _ _
         refine wpList_load_blk 28 (.tmp 4) rfl rfl rfl H1.out.2.2.1 [.slice AG gs.length cg, .int .i64 vary] at0 rowGradingP ?_)
      | (show wpList _ _ _ (Oper.mk (some 12) _ _ _ _ _ :: _) _ _
         refine wpList_load_blk 25 (.tmp 3) rfl rfl rfl H1.out.2.1 [.slice AP ps.length cp, .slice AT ts.length ct] at0 rowSheetP ?_))
    go_ret2
    exact ⟨rfl, H4.out.1⟩
  rw [if_pos hck]
  cases hh : hasPol ps id
  · rw [if_neg (by decide)]
    have hwp := fun (W : World) (hW : Below w.heap.size w W) => grWithPole_none ps ts gs vary id AP cp AT ct AG cg B W (Nat.le_trans hB hW.size) (hz.below (hW.mono hB)) (hg.below (hW.mono hB)) hck hh
    have HWP := Lib.hid hwp
    clear hwp hz hg hck hh
    go_enter Tryz.func25, Tryz.ntmps25
    go_wp2_with (first
      | (show wpList _ _ _ (Oper.mk none (Op.store _ (Operand.tmp 9) (Operand.tmp 17)) _ _ _ _ :: _) _ _
         refine wpList_store_blk 56 (.tmp 9) (.tmp 17) rfl rfl rfl rfl rfl H3.out.2.2 (Nat.le_refl _) (fun v hv => pcl_one [pol0] v (by simpa using hv)) rowPole ?_
         intro w4 hP4 hM4
         rw [splice_whole (by rfl)] at hM4
         have hb4 : Below w2.heap.size w2 w4 := H3.out.1.trans (hP4.below (by omega))
         have hb4w : Below w1.heap.size w1 w4 := H2.out.trans (hb4.mono H2.out.size)
         have H4 := Lib.hid (And.intro (H1.out.1.trans (hb4w.mono H1.out.1.size)) (And.intro ((hP4.other _ (by omega)).trans H3.out.2.1) (And.intro hM4 trivial)))
         have hz24 := Lib.hid (And.intro (show w2.heap.size + 1 < w4.heap.size from lt_of_heap hM4) H2.out.size)
         clear hP4 hM4 hb4 hb4w)
      | (show wpList _ _ _ (Oper.mk none (Op.store _ (Operand.tmp 8) (Operand.tmp 16)) _ _ _ _ :: _) _ _
         have hm10 : ((w2.alloc (.cells #[.slice none 0 0, .slice none 0 0, .slice none 0 0, .int .i64 0] 119)).alloc (.cells #[.int .i64 0, .int .i64 0, .int .i64 0, .int .i64 0, .int .i64 0, .int .i64 0, .int .i64 0, .int .i64 0, .int .i64 0, .int .i64 0, .int .i64 0, .int .i64 0] 56)).heap[w2.heap.size]? = some (.cells z4.toArray 119 (0, 0)) := alloc2_at0 _ _ _
         have hm11 : ((w2.alloc (.cells #[.slice none 0 0, .slice none 0 0, .slice none 0 0, .int .i64 0] 119)).alloc (.cells #[.int .i64 0, .int .i64 0, .int .i64 0, .int .i64 0, .int .i64 0, .int .i64 0, .int .i64 0, .int .i64 0, .int .i64 0, .int .i64 0, .int .i64 0, .int .i64 0] 56)).heap[w2.heap.size + 1]? = some (.cells (pcl pol0).toArray 56 (0, 0)) := alloc2_at1 _ _ _
         refine wpList_store_blk 119 (.tmp 8) (.tmp 16) rfl rfl rfl rfl rfl hm10 (Nat.le_refl _) z4_one rowSheetW ?_
         intro w3 hP3 hM3
         rw [splice_whole (by rfl)] at hM3
         have hm11' := (hP3.other _ (by omega)).trans hm11
         have hb3 : Below w2.heap.size w2 w3 := (grow2 w2 _ _).trans (hP3.below (Nat.le_refl _))
         have H3 := Lib.hid (And.intro hb3 (And.intro hM3 hm11'))
         clear hP3 hM3 hm10 hm11 hm11' hb3)
      | (go_at_call 54
         refine (HWP.out w1 H1.out.1).mono ?_
         rintro e w2 ⟨rfl, hB2⟩
         have H2 := Lib.hid hB2
         clear hB2)
      | (show wpList _ _ _ (Oper.mk (some 13) _ _ _ _ _ :: _) _ _
         refine wpList_load_blk 28 (.tmp 4) rfl rfl rfl H1.out.2.2.1 [.slice AG gs.length cg, .int .i64 vary] at0 rowGradingP ?_)
      | (show wpList _ _ _ (Oper.mk (some 12) _ _ _ _ _ :: _) _ _
         refine wpList_load_blk 25 (.tmp 3) rfl rfl rfl H1.out.2.1 [.slice AP ps.length cp, .slice AT ts.length ct] at0 rowSheetP ?_))
    go_ret2
    exact ⟨rfl, H4.out.1⟩
  rw [if_pos rfl]
  have hwp := fun (W : World) (hW : Below w.heap.size w W) => grWithPole_ok ps ts gs vary id AP cp AT ct AG cg B W (Nat.le_trans hB hW.size) (hz.below (hW.mono hB)) (hg.below (hW.mono hB)) hck hh
  have hyr : yrs (fndP ps id) := by
    obtain ⟨-, hosh⟩ := gChk_ok hck
    rcases at_cases ps id with ⟨a1, -⟩ | ⟨i, -, -, hi, a4⟩
    · rw [hh] at a1; cases a1
    · rw [← a4]; exact okPol_yrs5 ((okSheet_parts hosh).2.2.1 _ (List.getElem_mem hi)).2
  have hgo := fun (W : World) (hW : Below w.heap.size w W) => grGradeOf_any gs vary (fndP ps id) AP ps.length cp AT ts.length ct AG cg B W (Nat.le_trans hB hW.size) (hg.below (hW.mono hB)) hyr
  generalize fndP ps id = p at hwp hgo ⊢
  generalize gOf gs p = np at hgo ⊢
  have HWP := Lib.hid hwp
  have HGO := Lib.hid hgo
  clear hwp hz hg hck hh hgo hyr
  go_enter Tryz.func25, Tryz.ntmps25
  go_wp2_with (first
    | (show wpList _ _ _ (Oper.mk (some 22) _ _ _ _ _ :: _) _ _
       refine wpList_load_blk 119 (.tmp 8) rfl rfl rfl H4.out.2.1 [.slice AP ps.length cp, .slice AT ts.length ct, .slice AG gs.length cg, .int .i64 vary] at0 rowSheetW ?_)
    | (show wpList _ _ _ (Oper.mk (some 23) _ _ _ _ _ :: _) _ _
       refine wpList_load_blk 56 (.tmp 9) rfl rfl rfl H4.out.2.2.1 (pcl p) at0 rowPole ?_)
    | (go_at_call 55
       refine (HGO.out w4 H4.out.1).mono ?_
       rintro e w5 ⟨rfl, hB5⟩
       have H5 := Lib.hid (H4.out.1.trans (hB5.mono H4.out.1.size))
       clear hB5)
    | (show wpList _ _ _ (Oper.mk none (Op.store _ (Operand.tmp 9) (Operand.tmp 17)) _ _ _ _ :: _) _ _
       refine wpList_store_blk 56 (.tmp 9) (.tmp 17) rfl rfl rfl rfl rfl H3.out.2.2 (Nat.le_refl _) (fun v hv => pcl_one [p] v (by simpa using hv)) rowPole ?_
       intro w4 hP4 hM4
       rw [splice_whole (by rfl)] at hM4
       have hb4 : Below w2.heap.size w2 w4 := H3.out.1.trans (hP4.below (by omega))
       have hb4w : Below w1.heap.size w1 w4 := H2.out.trans (hb4.mono H2.out.size)
       have H4 := Lib.hid (And.intro (H1.out.1.trans (hb4w.mono H1.out.1.size)) (And.intro ((hP4.other _ (by omega)).trans H3.out.2.1) (And.intro hM4 trivial)))
       have hz24 := Lib.hid (And.intro (show w2.heap.size + 1 < w4.heap.size from lt_of_heap hM4) H2.out.size)
       clear hP4 hM4 hb4 hb4w)
    | (show wpList _ _ _ (Oper.mk none (Op.store _ (Operand.tmp 8) (Operand.tmp 16)) _ _ _ _ :: _) _ _
       have hm10 : ((w2.alloc (.cells #[.slice none 0 0, .slice none 0 0, .slice none 0 0, .int .i64 0] 119)).alloc (.cells #[.int .i64 0, .int .i64 0, .int .i64 0, .int .i64 0, .int .i64 0, .int .i64 0, .int .i64 0, .int .i64 0, .int .i64 0, .int .i64 0, .int .i64 0, .int .i64 0] 56)).heap[w2.heap.size]? = some (.cells z4.toArray 119 (0, 0)) := alloc2_at0 _ _ _
       have hm11 : ((w2.alloc (.cells #[.slice none 0 0, .slice none 0 0, .slice none 0 0, .int .i64 0] 119)).alloc (.cells #[.int .i64 0, .int .i64 0, .int .i64 0, .int .i64 0, .int .i64 0, .int .i64 0, .int .i64 0, .int .i64 0, .int .i64 0, .int .i64 0, .int .i64 0, .int .i64 0] 56)).heap[w2.heap.size + 1]? = some (.cells (pcl pol0).toArray 56 (0, 0)) := alloc2_at1 _ _ _
       refine wpList_store_blk 119 (.tmp 8) (.tmp 16) rfl rfl rfl rfl rfl hm10 (Nat.le_refl _) (w4l_one _ _ _ _ _ _ _ _ _ _) rowSheetW ?_
       intro w3 hP3 hM3
       rw [splice_whole (by rfl)] at hM3
       have hm11' := (hP3.other _ (by omega)).trans hm11
       have hb3 : Below w2.heap.size w2 w3 := (grow2 w2 _ _).trans (hP3.below (Nat.le_refl _))
       have H3 := Lib.hid (And.intro hb3 (And.intro hM3 hm11'))
       clear hP3 hM3 hm10 hm11 hm11' hb3)
    | (go_at_call 54
       refine (HWP.out w1 H1.out.1).mono ?_
       rintro e w2 ⟨rfl, hB2⟩
       have H2 := Lib.hid hB2
       clear hB2)
    | (show wpList _ _ _ (Oper.mk (some 13) _ _ _ _ _ :: _) _ _
       refine wpList_load_blk 28 (.tmp 4) rfl rfl rfl H1.out.2.2.1 [.slice AG gs.length cg, .int .i64 vary] at0 rowGradingP ?_)
    | (show wpList _ _ _ (Oper.mk (some 12) _ _ _ _ _ :: _) _ _
       refine wpList_load_blk 25 (.tmp 3) rfl rfl rfl H1.out.2.1 [.slice AP ps.length cp, .slice AT ts.length ct] at0 rowSheetP ?_))
  go_ret2
  exact ⟨rfl, H5.out⟩

set_option maxRecDepth 100000 in
set_option maxHeartbeats 16000000 in
theorem grStrength_any (ps : List Pol) (ts : List Ts) (gs : List Gd) (vary : Int) (id : Int) (sec : Int) (AP : Option Addr) (cp : Nat) (AT : Option Addr) (ct : Nat) (AG : Option Addr) (cg : Nat) (B : Nat) (w : World) (hB : B ≤ w.heap.size) (hz : ShAt w B ps ts AP AT) (hg : GdAt w B gs AG) :
    Calls Tryz.prog 26 #[.agg #[.slice AP ps.length cp, .slice AT ts.length ct], .agg #[.slice AG gs.length cg, .int .i64 vary], .int .i64 id, .int .i64 sec] w fun e w' => e = .returned (.tuple #[.agg (sp2 (sStr gs vary ps ts id sec).1).toArray, .int .i64 (sStr gs vary ps ts id sec).2]) ∧ Below w.heap.size w w' := by
  obtain ⟨w1, hw1⟩ : ∃ w1, (((w.alloc (.cells #[.slice AP ps.length cp, .slice AT ts.length ct] 25)).alloc (.cells #[.slice AG gs.length cg, .int .i64 vary] 28)).alloc (.cells #[.int .i64 0, .int .i64 0] 50)) = w1 := ⟨_, rfl⟩
  have hb1 : Below w.heap.size w w1 := by rw [← hw1]; exact (grow2 _ _ _).alloc (by simp; omega) _
  have m1 : w1.heap[w.heap.size]? = some (.cells [.slice AP ps.length cp, .slice AT ts.length ct].toArray 25 (0, 0)) := by rw [← hw1]; exact alloc3_at0 _ _ _ _
  have m2 : w1.heap[w.heap.size + 1]? = some (.cells [.slice AG gs.length cg, .int .i64 vary].toArray 28 (0, 0)) := by rw [← hw1]; exact alloc3_at1 _ _ _ _
  have m3 : w1.heap[w.heap.size + 1 + 1]? = some (.cells [Value.int .i64 0, .int .i64 0].toArray 50 (0, 0)) := by rw [← hw1]; exact alloc3_at2 _ _ _ _
  have H1 := Lib.hid (And.intro hb1 (And.intro m1 (And.intro m2 m3)))
  clear hb1 m1 m2 m3
  unfold sStr
  by_cases hck : gChk gs vary ps ts = 0
  rotate_left
  · rw [if_neg hck]
    have hwp := fun (W : World) (hW : Below w.heap.size w W) => grWithPole_bad ps ts gs vary id AP cp AT ct AG cg B W (Nat.le_trans hB hW.size) (hz.below (hW.mono hB)) (hg.below (hW.mono hB)) hck
    generalize gChk gs vary ps ts = ck at hwp hck ⊢
    have HWP := Lib.hid hwp
    have hce : (ck == 0) = false := by simpa using hck
    have hcn : (ck != 0) = true := by simpa using hck
    clear hwp hz hg
    go_enter Tryz.func26, Tryz.ntmps26
    go_wp2_with (first
      | (show wpList _ _ _ (Oper.mk none (Op.store _ (Operand.tmp 8) (Operand.tmp 25)) _ _ _ _ :: _) _ _
         refine wpList_store_blk 50 (.tmp 8) (.tmp 25) rfl rfl rfl rfl (cs := [.int .i64 0, .int .i64 0]) rfl H4.out.2.2.2 (Nat.le_of_ble_eq_true rfl) (sp2_one (0, 0)) rowSpan5 ?_
         intro w9 hP9 hM9
         rw [splice_whole (by rfl)] at hM9
         have H9 := Lib.hid (And.intro (H4.out.1.trans (hP9.below (by omega))) hM9)
         clear hP9 hM9)
      | (show wpList _ _ _ (Oper.mk none (Op.store _ (Operand.tmp 11) (Operand.tmp 21)) _ _ _ _ :: _) _ _
         refine wpList_store_blk 56 (.tmp 11) (.tmp 21) rfl rfl rfl rfl rfl H3.out.2.2 (Nat.le_refl _) (fun v hv => pcl_one [pol0] v (by simpa using hv)) rowPole ?_
         intro w4 hP4 hM4
         rw [splice_whole (by rfl)] at hM4
         have hb4 : Below w2.heap.size w2 w4 := H3.out.1.trans (hP4.below (by omega))
         have hb4w : Below w1.heap.size w1 w4 := H2.out.trans (hb4.mono H2.out.size)
         have H4 := Lib.hid (And.intro (H1.out.1.trans (hb4w.mono H1.out.1.size)) (And.intro ((hP4.other _ (by omega)).trans H3.out.2.1) (And.intro hM4 ((hb4w.block _ (lt_of_heap H1.out.2.2.2)).trans H1.out.2.2.2))))
         have hz24 := Lib.hid (And.intro (show w2.heap.size + 1 < w4.heap.size from lt_of_heap hM4) H2.out.size)
         clear hP4 hM4 hb4 hb4w)
      | (show wpList _ _ _ (Oper.mk none (Op.store _ (Operand.tmp 10) (Operand.tmp 20)) _ _ _ _ :: _) _ _
         have hm10 : ((w2.alloc (.cells #[.slice none 0 0, .slice none 0 0, .slice none 0 0, .int .i64 0] 119)).alloc (.cells #[.int .i64 0, .int .i64 0, .int .i64 0, .int .i64 0, .int .i64 0, .int .i64 0, .int .i64 0, .int .i64 0, .int .i64 0, .int .i64 0, .int .i64 0, .int .i64 0] 56)).heap[w2.heap.size]? = some (.cells z4.toArray 119 (0, 0)) := alloc2_at0 _ _ _
         have hm11 : ((w2.alloc (.cells #[.slice none 0 0, .slice none 0 0, .slice none 0 0, .int .i64 0] 119)).alloc (.cells #[.int .i64 0, .int .i64 0, .int .i64 0, .int .i64 0, .int .i64 0, .int .i64 0, .int .i64 0, .int .i64 0, .int .i64 0, .int .i64 0, .int .i64 0, .int .i64 0] 56)).heap[w2.heap.size + 1]? = some (.cells (pcl pol0).toArray 56 (0, 0)) := alloc2_at1 _ _ _
         refine wpList_store_blk 119 (.tmp 10) (.tmp 20) rfl rfl rfl rfl rfl hm10 (Nat.le_refl _) z4_one rowSheetW ?_
         intro w3 hP3 hM3
         rw [splice_whole (by rfl)] at hM3
         have hm11' := (hP3.other _ (by omega)).trans hm11
         have hb3 : Below w2.heap.size w2 w3 := (grow2 w2 _ _).trans (hP3.below (Nat.le_refl _))
         have H3 := Lib.hid (And.intro hb3 (And.intro hM3 hm11'))
         clear hP3 hM3 hm10 hm11 hm11' hb3)
      | (go_at_call 54
         refine (HWP.out w1 H1.out.1).mono ?_
         rintro e w2 ⟨rfl, hB2⟩
         have H2 := Lib.hid hB2
         clear hB2)
      | (show wpList _ _ _ (Oper.mk (some 17) _ _ _ _ _ :: _) _ _
         refine wpList_load_blk 28 (.tmp 5) rfl rfl rfl H1.out.2.2.1 [.slice AG gs.length cg, .int .i64 vary] at0 rowGradingP ?_)
      | (show wpList _ _ _ (Oper.mk (some 16) _ _ _ _ _ :: _) _ _
         refine wpList_load_blk 25 (.tmp 4) rfl rfl rfl H1.out.2.1 [.slice AP ps.length cp, .slice AT ts.length ct] at0 rowSheetP ?_))
    refine bodyPost_ret (v := .tuple #[.agg [Value.int .i64 0, .int .i64 0].toArray, .int .i64 ck]) (results_cell_tmp (cs := [.int .i64 0, .int .i64 0]) Tryz.results26 rfl H9.out.2 rowSpan5 rfl) rfl ⟨rfl, H9.out.1⟩
  rw [if_pos hck]
  cases hh : hasPol ps id
  · rw [if_neg (by decide)]
    have hwp := fun (W : World) (hW : Below w.heap.size w W) => grWithPole_none ps ts gs vary id AP cp AT ct AG cg B W (Nat.le_trans hB hW.size) (hz.below (hW.mono hB)) (hg.below (hW.mono hB)) hck hh
    have HWP := Lib.hid hwp
    clear hwp hz hg hck hh
    go_enter Tryz.func26, Tryz.ntmps26
    go_wp2_with (first
      | (show wpList _ _ _ (Oper.mk none (Op.store _ (Operand.tmp 8) (Operand.tmp 25)) _ _ _ _ :: _) _ _
         refine wpList_store_blk 50 (.tmp 8) (.tmp 25) rfl rfl rfl rfl (cs := [.int .i64 0, .int .i64 0]) rfl H4.out.2.2.2 (Nat.le_of_ble_eq_true rfl) (sp2_one (0, 0)) rowSpan5 ?_
         intro w9 hP9 hM9
         rw [splice_whole (by rfl)] at hM9
         have H9 := Lib.hid (And.intro (H4.out.1.trans (hP9.below (by omega))) hM9)
         clear hP9 hM9)
      | (show wpList _ _ _ (Oper.mk none (Op.store _ (Operand.tmp 11) (Operand.tmp 21)) _ _ _ _ :: _) _ _
         refine wpList_store_blk 56 (.tmp 11) (.tmp 21) rfl rfl rfl rfl rfl H3.out.2.2 (Nat.le_refl _) (fun v hv => pcl_one [pol0] v (by simpa using hv)) rowPole ?_
         intro w4 hP4 hM4
         rw [splice_whole (by rfl)] at hM4
         have hb4 : Below w2.heap.size w2 w4 := H3.out.1.trans (hP4.below (by omega))
         have hb4w : Below w1.heap.size w1 w4 := H2.out.trans (hb4.mono H2.out.size)
         have H4 := Lib.hid (And.intro (H1.out.1.trans (hb4w.mono H1.out.1.size)) (And.intro ((hP4.other _ (by omega)).trans H3.out.2.1) (And.intro hM4 ((hb4w.block _ (lt_of_heap H1.out.2.2.2)).trans H1.out.2.2.2))))
         have hz24 := Lib.hid (And.intro (show w2.heap.size + 1 < w4.heap.size from lt_of_heap hM4) H2.out.size)
         clear hP4 hM4 hb4 hb4w)
      | (show wpList _ _ _ (Oper.mk none (Op.store _ (Operand.tmp 10) (Operand.tmp 20)) _ _ _ _ :: _) _ _
         have hm10 : ((w2.alloc (.cells #[.slice none 0 0, .slice none 0 0, .slice none 0 0, .int .i64 0] 119)).alloc (.cells #[.int .i64 0, .int .i64 0, .int .i64 0, .int .i64 0, .int .i64 0, .int .i64 0, .int .i64 0, .int .i64 0, .int .i64 0, .int .i64 0, .int .i64 0, .int .i64 0] 56)).heap[w2.heap.size]? = some (.cells z4.toArray 119 (0, 0)) := alloc2_at0 _ _ _
         have hm11 : ((w2.alloc (.cells #[.slice none 0 0, .slice none 0 0, .slice none 0 0, .int .i64 0] 119)).alloc (.cells #[.int .i64 0, .int .i64 0, .int .i64 0, .int .i64 0, .int .i64 0, .int .i64 0, .int .i64 0, .int .i64 0, .int .i64 0, .int .i64 0, .int .i64 0, .int .i64 0] 56)).heap[w2.heap.size + 1]? = some (.cells (pcl pol0).toArray 56 (0, 0)) := alloc2_at1 _ _ _
         refine wpList_store_blk 119 (.tmp 10) (.tmp 20) rfl rfl rfl rfl rfl hm10 (Nat.le_refl _) z4_one rowSheetW ?_
         intro w3 hP3 hM3
         rw [splice_whole (by rfl)] at hM3
         have hm11' := (hP3.other _ (by omega)).trans hm11
         have hb3 : Below w2.heap.size w2 w3 := (grow2 w2 _ _).trans (hP3.below (Nat.le_refl _))
         have H3 := Lib.hid (And.intro hb3 (And.intro hM3 hm11'))
         clear hP3 hM3 hm10 hm11 hm11' hb3)
      | (go_at_call 54
         refine (HWP.out w1 H1.out.1).mono ?_
         rintro e w2 ⟨rfl, hB2⟩
         have H2 := Lib.hid hB2
         clear hB2)
      | (show wpList _ _ _ (Oper.mk (some 17) _ _ _ _ _ :: _) _ _
         refine wpList_load_blk 28 (.tmp 5) rfl rfl rfl H1.out.2.2.1 [.slice AG gs.length cg, .int .i64 vary] at0 rowGradingP ?_)
      | (show wpList _ _ _ (Oper.mk (some 16) _ _ _ _ _ :: _) _ _
         refine wpList_load_blk 25 (.tmp 4) rfl rfl rfl H1.out.2.1 [.slice AP ps.length cp, .slice AT ts.length ct] at0 rowSheetP ?_))
    refine bodyPost_ret (v := .tuple #[.agg [Value.int .i64 0, .int .i64 0].toArray, .int .i64 6]) (results_cell_tmp (cs := [.int .i64 0, .int .i64 0]) Tryz.results26 rfl H9.out.2 rowSpan5 rfl) rfl ⟨rfl, H9.out.1⟩
  rw [if_pos rfl]
  have hwp := fun (W : World) (hW : Below w.heap.size w W) => grWithPole_ok ps ts gs vary id AP cp AT ct AG cg B W (Nat.le_trans hB hW.size) (hz.below (hW.mono hB)) (hg.below (hW.mono hB)) hck hh
  obtain ⟨hogr, hosh⟩ := gChk_ok hck
  obtain ⟨⟨hl12, hl20⟩, hup, hpo, htt⟩ := okSheet_parts hosh
  obtain ⟨hg3, hvv, hok⟩ := okGrading_parts hogr
  have hmp : fndP ps id ∈ ps := by
    rcases at_cases ps id with ⟨a1, -⟩ | ⟨i, -, -, hi, a4⟩
    · rw [hh] at a1; cases a1
    · rw [← a4]; exact List.getElem_mem hi
  have hpp := hpo _ hmp
  have hgo := fun (W : World) (hW : Below w.heap.size w W) => grGradeOf_any gs vary (fndP ps id) AP ps.length cp AT ts.length ct AG cg B W (Nat.le_trans hB hW.size) (hg.below (hW.mono hB)) (okPol_yrs5 hpp.2)
  have hstr := fun (W : World) (hW : Below w.heap.size w W) => grStresses_any gs vary ps ts AP cp AT ts.length ct AG cg AT ct B W (Nat.le_trans hB hW.size) (hz.p.below (hW.mono hB)) (hg.below (hW.mono hB)) (hz.t.below (hW.mono hB)) (by omega) hvv hg3 hl12 hup hpo htt hok
  have hsm := fun (k : Nat) (h : truth gs vary ps ts = true) (hk : k < 3) (hg1 : 1 ≤ gOf gs (fndP ps id)) => span_small hvv.1 h hmp hk hpp.2 hg1 htt hok
  have hsec := okPol_secs5 hpp.2
  have hidk : idOk (fndP ps id).id := by have := hpp.1; unfold idOk; omega
  have hgle := gOf_le gs (fndP ps id)
  generalize fndP ps id = p at hwp hgo hsm hsec hidk hmp hgle ⊢
  have HWP := Lib.hid hwp
  clear hwp hz hg hck hh hogr hosh hl12 hl20 hup hpo htt hg3 hvv hok hpp
  cases hsc : inR sec 0 2
  · rw [if_neg (by decide)]
    have hab : allB 0 2 [sec] = false := by rw [← hsc]; simp [allB]
    clear hsc hgo hstr hsm hsec hidk hmp hgle
    go_enter Tryz.func26, Tryz.ntmps26
    go_wp2_with (first
      | (show wpList _ _ _ (Oper.mk none (Op.store _ (Operand.tmp 8) (Operand.tmp 30)) _ _ _ _ :: _) _ _
         refine wpList_store_blk 50 (.tmp 8) (.tmp 30) rfl rfl rfl rfl (cs := [.int .i64 0, .int .i64 0]) rfl H5.out.2.2.2 (Nat.le_of_ble_eq_true rfl) (sp2_one (0, 0)) rowSpan5 ?_
         intro w9 hP9 hM9
         rw [splice_whole (by rfl)] at hM9
         have H9 := Lib.hid (And.intro (H5.out.1.trans (hP9.below (by omega))) hM9)
         clear hP9 hM9)
      | (go_at_call 56; refine (grValidSection_any _ _).mono ?_; rintro e w5 ⟨rfl, hB5⟩; rw [hab]; have H5 := Lib.hid (And.intro (H4.out.1.trans (hB5.mono H4.out.1.size)) (And.intro ((hB5.block _ (lt_of_heap H4.out.2.1)).trans H4.out.2.1) (And.intro ((hB5.block _ (lt_of_heap H4.out.2.2.1)).trans H4.out.2.2.1) ((hB5.block _ (lt_of_heap H4.out.2.2.2)).trans H4.out.2.2.2)))); have hz5 := Lib.hid hB5.size; clear hB5)
      | (show wpList _ _ _ (Oper.mk none (Op.store _ (Operand.tmp 11) (Operand.tmp 21)) _ _ _ _ :: _) _ _
         refine wpList_store_blk 56 (.tmp 11) (.tmp 21) rfl rfl rfl rfl rfl H3.out.2.2 (Nat.le_refl _) (fun v hv => pcl_one [p] v (by simpa using hv)) rowPole ?_
         intro w4 hP4 hM4
         rw [splice_whole (by rfl)] at hM4
         have hb4 : Below w2.heap.size w2 w4 := H3.out.1.trans (hP4.below (by omega))
         have hb4w : Below w1.heap.size w1 w4 := H2.out.trans (hb4.mono H2.out.size)
         have H4 := Lib.hid (And.intro (H1.out.1.trans (hb4w.mono H1.out.1.size)) (And.intro ((hP4.other _ (by omega)).trans H3.out.2.1) (And.intro hM4 ((hb4w.block _ (lt_of_heap H1.out.2.2.2)).trans H1.out.2.2.2))))
         have hz24 := Lib.hid (And.intro (show w2.heap.size + 1 < w4.heap.size from lt_of_heap hM4) H2.out.size)
         clear hP4 hM4 hb4 hb4w)
      | (show wpList _ _ _ (Oper.mk none (Op.store _ (Operand.tmp 10) (Operand.tmp 20)) _ _ _ _ :: _) _ _
         have hm10 : ((w2.alloc (.cells #[.slice none 0 0, .slice none 0 0, .slice none 0 0, .int .i64 0] 119)).alloc (.cells #[.int .i64 0, .int .i64 0, .int .i64 0, .int .i64 0, .int .i64 0, .int .i64 0, .int .i64 0, .int .i64 0, .int .i64 0, .int .i64 0, .int .i64 0, .int .i64 0] 56)).heap[w2.heap.size]? = some (.cells z4.toArray 119 (0, 0)) := alloc2_at0 _ _ _
         have hm11 : ((w2.alloc (.cells #[.slice none 0 0, .slice none 0 0, .slice none 0 0, .int .i64 0] 119)).alloc (.cells #[.int .i64 0, .int .i64 0, .int .i64 0, .int .i64 0, .int .i64 0, .int .i64 0, .int .i64 0, .int .i64 0, .int .i64 0, .int .i64 0, .int .i64 0, .int .i64 0] 56)).heap[w2.heap.size + 1]? = some (.cells (pcl pol0).toArray 56 (0, 0)) := alloc2_at1 _ _ _
         refine wpList_store_blk 119 (.tmp 10) (.tmp 20) rfl rfl rfl rfl rfl hm10 (Nat.le_refl _) (w4l_one _ _ _ _ _ _ _ _ _ _) rowSheetW ?_
         intro w3 hP3 hM3
         rw [splice_whole (by rfl)] at hM3
         have hm11' := (hP3.other _ (by omega)).trans hm11
         have hb3 : Below w2.heap.size w2 w3 := (grow2 w2 _ _).trans (hP3.below (Nat.le_refl _))
         have H3 := Lib.hid (And.intro hb3 (And.intro hM3 hm11'))
         clear hP3 hM3 hm10 hm11 hm11' hb3)
      | (go_at_call 54
         refine (HWP.out w1 H1.out.1).mono ?_
         rintro e w2 ⟨rfl, hB2⟩
         have H2 := Lib.hid hB2
         clear hB2)
      | (show wpList _ _ _ (Oper.mk (some 17) _ _ _ _ _ :: _) _ _
         refine wpList_load_blk 28 (.tmp 5) rfl rfl rfl H1.out.2.2.1 [.slice AG gs.length cg, .int .i64 vary] at0 rowGradingP ?_)
      | (show wpList _ _ _ (Oper.mk (some 16) _ _ _ _ _ :: _) _ _
         refine wpList_load_blk 25 (.tmp 4) rfl rfl rfl H1.out.2.1 [.slice AP ps.length cp, .slice AT ts.length ct] at0 rowSheetP ?_))
    refine bodyPost_ret (v := .tuple #[.agg [Value.int .i64 0, .int .i64 0].toArray, .int .i64 2]) (results_cell_tmp (cs := [.int .i64 0, .int .i64 0]) Tryz.results26 rfl H9.out.2 rowSpan5 rfl) rfl ⟨rfl, H9.out.1⟩
  rw [if_pos rfl]
  have hs2 := inR_iff.1 hsc
  obtain ⟨k, rfl⟩ : ∃ k : Nat, sec = k := ⟨sec.toNat, by omega⟩
  have hk : k < 3 := by omega
  have hkz : (k : Int) < 3 := by omega
  rw [Int.toNat_natCast]
  have hab : allB 0 2 [(k : Int)] = true := by rw [← hsc]; simp [allB]
  clear hsc hs2
  have har := ar_pos hsec k
  have hare := fun W => grArea_any p k hk hsec W
  have hbe : ∀ s, bears p k s = min (s * ar p k / 1000) 1000000 := fun _ => rfl
  have hsm := hsm k
  by_cases h0 : gOf gs p = 0
  · rw [if_pos h0]
    rw [h0] at hgo
    have HP := Lib.hid (And.intro hgo hstr)
    clear h0 hgo hstr hsm hsec hidk hmp hgle har hare hbe
    go_enter Tryz.func26, Tryz.ntmps26
    go_wp2_with (first
      | (show wpList _ _ _ (Oper.mk none (Op.store _ (Operand.tmp 8) (Operand.tmp 35)) _ _ _ _ :: _) _ _
         refine wpList_store_blk 50 (.tmp 8) (.tmp 35) rfl rfl rfl rfl (cs := [.int .i64 0, .int .i64 0]) rfl H6.out.2.2.2 (Nat.le_of_ble_eq_true rfl) (sp2_one (0, 0)) rowSpan5 ?_
         intro w9 hP9 hM9
         rw [splice_whole (by rfl)] at hM9
         have H9 := Lib.hid (And.intro (H6.out.1.trans (hP9.below (by omega))) hM9)
         clear hP9 hM9)
      | (show wpList _ _ _ (Oper.mk (some 31) _ _ _ _ _ :: _) _ _
         refine wpList_load_blk 119 (.tmp 10) rfl rfl rfl H5.out.2.1 [.slice AP ps.length cp, .slice AT ts.length ct, .slice AG gs.length cg, .int .i64 vary] at0 rowSheetW ?_)
      | (show wpList _ _ _ (Oper.mk (some 32) _ _ _ _ _ :: _) _ _
         refine wpList_load_blk 56 (.tmp 11) rfl rfl rfl H5.out.2.2.1 (pcl p) at0 rowPole ?_)
      | (go_at_call 55
         refine (HP.out.1 w5 H5.out.1).mono ?_
         rintro e w6 ⟨rfl, hB6⟩
         have H6 := Lib.hid (And.intro (H5.out.1.trans (hB6.mono H5.out.1.size)) (And.intro ((hB6.block _ (lt_of_heap H5.out.2.1)).trans H5.out.2.1) (And.intro ((hB6.block _ (lt_of_heap H5.out.2.2.1)).trans H5.out.2.2.1) ((hB6.block _ (lt_of_heap H5.out.2.2.2)).trans H5.out.2.2.2))))
         have hz6 := Lib.hid hB6.size
         have f2 : w6.cell? ⟨w2.heap.size, 1, none⟩ = some (.slice AT ts.length ct) := cell_of_row w6 _ 1 _ _ _ H6.out.2.1
         clear hB6)
      | (go_at_call 56; refine (grValidSection_any _ _).mono ?_; rintro e w5 ⟨rfl, hB5⟩; rw [hab]; have H5 := Lib.hid (And.intro (H4.out.1.trans (hB5.mono H4.out.1.size)) (And.intro ((hB5.block _ (lt_of_heap H4.out.2.1)).trans H4.out.2.1) (And.intro ((hB5.block _ (lt_of_heap H4.out.2.2.1)).trans H4.out.2.2.1) ((hB5.block _ (lt_of_heap H4.out.2.2.2)).trans H4.out.2.2.2)))); have hz5 := Lib.hid hB5.size; clear hB5)
      | (show wpList _ _ _ (Oper.mk none (Op.store _ (Operand.tmp 11) (Operand.tmp 21)) _ _ _ _ :: _) _ _
         refine wpList_store_blk 56 (.tmp 11) (.tmp 21) rfl rfl rfl rfl rfl H3.out.2.2 (Nat.le_refl _) (fun v hv => pcl_one [p] v (by simpa using hv)) rowPole ?_
         intro w4 hP4 hM4
         rw [splice_whole (by rfl)] at hM4
         have hb4 : Below w2.heap.size w2 w4 := H3.out.1.trans (hP4.below (by omega))
         have hb4w : Below w1.heap.size w1 w4 := H2.out.trans (hb4.mono H2.out.size)
         have H4 := Lib.hid (And.intro (H1.out.1.trans (hb4w.mono H1.out.1.size)) (And.intro ((hP4.other _ (by omega)).trans H3.out.2.1) (And.intro hM4 ((hb4w.block _ (lt_of_heap H1.out.2.2.2)).trans H1.out.2.2.2))))
         have hz24 := Lib.hid (And.intro (show w2.heap.size + 1 < w4.heap.size from lt_of_heap hM4) H2.out.size)
         clear hP4 hM4 hb4 hb4w)
      | (show wpList _ _ _ (Oper.mk none (Op.store _ (Operand.tmp 10) (Operand.tmp 20)) _ _ _ _ :: _) _ _
         have hm10 : ((w2.alloc (.cells #[.slice none 0 0, .slice none 0 0, .slice none 0 0, .int .i64 0] 119)).alloc (.cells #[.int .i64 0, .int .i64 0, .int .i64 0, .int .i64 0, .int .i64 0, .int .i64 0, .int .i64 0, .int .i64 0, .int .i64 0, .int .i64 0, .int .i64 0, .int .i64 0] 56)).heap[w2.heap.size]? = some (.cells z4.toArray 119 (0, 0)) := alloc2_at0 _ _ _
         have hm11 : ((w2.alloc (.cells #[.slice none 0 0, .slice none 0 0, .slice none 0 0, .int .i64 0] 119)).alloc (.cells #[.int .i64 0, .int .i64 0, .int .i64 0, .int .i64 0, .int .i64 0, .int .i64 0, .int .i64 0, .int .i64 0, .int .i64 0, .int .i64 0, .int .i64 0, .int .i64 0] 56)).heap[w2.heap.size + 1]? = some (.cells (pcl pol0).toArray 56 (0, 0)) := alloc2_at1 _ _ _
         refine wpList_store_blk 119 (.tmp 10) (.tmp 20) rfl rfl rfl rfl rfl hm10 (Nat.le_refl _) (w4l_one _ _ _ _ _ _ _ _ _ _) rowSheetW ?_
         intro w3 hP3 hM3
         rw [splice_whole (by rfl)] at hM3
         have hm11' := (hP3.other _ (by omega)).trans hm11
         have hb3 : Below w2.heap.size w2 w3 := (grow2 w2 _ _).trans (hP3.below (Nat.le_refl _))
         have H3 := Lib.hid (And.intro hb3 (And.intro hM3 hm11'))
         clear hP3 hM3 hm10 hm11 hm11' hb3)
      | (go_at_call 54
         refine (HWP.out w1 H1.out.1).mono ?_
         rintro e w2 ⟨rfl, hB2⟩
         have H2 := Lib.hid hB2
         clear hB2)
      | (show wpList _ _ _ (Oper.mk (some 17) _ _ _ _ _ :: _) _ _
         refine wpList_load_blk 28 (.tmp 5) rfl rfl rfl H1.out.2.2.1 [.slice AG gs.length cg, .int .i64 vary] at0 rowGradingP ?_)
      | (show wpList _ _ _ (Oper.mk (some 16) _ _ _ _ _ :: _) _ _
         refine wpList_load_blk 25 (.tmp 4) rfl rfl rfl H1.out.2.1 [.slice AP ps.length cp, .slice AT ts.length ct] at0 rowSheetP ?_))
    refine bodyPost_ret (v := .tuple #[.agg [Value.int .i64 0, .int .i64 0].toArray, .int .i64 8]) (results_cell_tmp (cs := [.int .i64 0, .int .i64 0]) Tryz.results26 rfl H9.out.2 rowSpan5 rfl) rfl ⟨rfl, H9.out.1⟩
  rw [if_neg h0]
  have hsm := fun h => hsm h hk (by omega)
  have hF : ∀ F, StrF gs vary ps ts gs.length F → F p.id = fun k => spanT gs vary ps ts p k := fun F h => h p hmp h0 hgle
  generalize hnp : gOf gs p = np at hgo h0
  have HNP := Lib.hid (And.intro (show ((np : Int) == 0) = false by simp; omega) (show ¬ (np : Int) = 0 by omega))
  obtain ⟨n1, n2⟩ := HNP.out
  clear hnp
  cases htv : truth gs vary ps ts
  · rw [if_neg (by decide)]
    unfold StrPost at hstr
    rw [htv] at hstr
    have HP := Lib.hid (And.intro hgo hstr)
    clear h0 hgo hstr hsm hsec hidk hmp hgle har hare hbe hF htv
    go_enter Tryz.func26, Tryz.ntmps26
    go_wp2_with (first
      | (show wpList _ _ _ (Oper.mk none (Op.store _ (Operand.tmp 8) (Operand.tmp 46)) _ _ _ _ :: _) _ _
         refine wpList_store_blk 50 (.tmp 8) (.tmp 46) rfl rfl rfl rfl (cs := [.int .i64 0, .int .i64 0]) rfl H7.out.1.2.2.2 (Nat.le_of_ble_eq_true rfl) (sp2_one (0, 0)) rowSpan5 ?_
         intro w9 hP9 hM9
         rw [splice_whole (by rfl)] at hM9
         have H9 := Lib.hid (And.intro (H7.out.1.1.trans (hP9.below (by omega))) hM9)
         clear hP9 hM9)
      | (show wpList _ _ _ (Oper.mk (some 37) _ _ _ _ _ :: _) _ _
         refine wpList_load_blk 119 (.tmp 10) rfl rfl rfl H6.out.2.1 [.slice AP ps.length cp, .slice AT ts.length ct, .slice AG gs.length cg, .int .i64 vary] at0 rowSheetW ?_)
      | (go_at_call 57
         refine (HP.out.2 w6 H6.out.1).mono ?_
         rintro e w7 ⟨mb, nb, F, rfl, hmb, hOF, hSF, hB7⟩
         have H7 := Lib.hid (And.intro (And.intro (H6.out.1.trans (hB7.mono H6.out.1.size)) (And.intro ((hB7.block _ (lt_of_heap H6.out.2.1)).trans H6.out.2.1) (And.intro ((hB7.block _ (lt_of_heap H6.out.2.2.1)).trans H6.out.2.2.1) ((hB7.block _ (lt_of_heap H6.out.2.2.2)).trans H6.out.2.2.2)))) (And.intro hmb (And.intro hOF hSF)))
         clear hB7 hmb hOF hSF)
      | (show wpList _ _ _ (Oper.mk (some 31) _ _ _ _ _ :: _) _ _
         refine wpList_load_blk 119 (.tmp 10) rfl rfl rfl H5.out.2.1 [.slice AP ps.length cp, .slice AT ts.length ct, .slice AG gs.length cg, .int .i64 vary] at0 rowSheetW ?_)
      | (show wpList _ _ _ (Oper.mk (some 32) _ _ _ _ _ :: _) _ _
         refine wpList_load_blk 56 (.tmp 11) rfl rfl rfl H5.out.2.2.1 (pcl p) at0 rowPole ?_)
      | (go_at_call 55
         refine (HP.out.1 w5 H5.out.1).mono ?_
         rintro e w6 ⟨rfl, hB6⟩
         have H6 := Lib.hid (And.intro (H5.out.1.trans (hB6.mono H5.out.1.size)) (And.intro ((hB6.block _ (lt_of_heap H5.out.2.1)).trans H5.out.2.1) (And.intro ((hB6.block _ (lt_of_heap H5.out.2.2.1)).trans H5.out.2.2.1) ((hB6.block _ (lt_of_heap H5.out.2.2.2)).trans H5.out.2.2.2))))
         have hz6 := Lib.hid hB6.size
         have f2 : w6.cell? ⟨w2.heap.size, 1, none⟩ = some (.slice AT ts.length ct) := cell_of_row w6 _ 1 _ _ _ H6.out.2.1
         clear hB6)
      | (go_at_call 56; refine (grValidSection_any _ _).mono ?_; rintro e w5 ⟨rfl, hB5⟩; rw [hab]; have H5 := Lib.hid (And.intro (H4.out.1.trans (hB5.mono H4.out.1.size)) (And.intro ((hB5.block _ (lt_of_heap H4.out.2.1)).trans H4.out.2.1) (And.intro ((hB5.block _ (lt_of_heap H4.out.2.2.1)).trans H4.out.2.2.1) ((hB5.block _ (lt_of_heap H4.out.2.2.2)).trans H4.out.2.2.2)))); have hz5 := Lib.hid hB5.size; clear hB5)
      | (show wpList _ _ _ (Oper.mk none (Op.store _ (Operand.tmp 11) (Operand.tmp 21)) _ _ _ _ :: _) _ _
         refine wpList_store_blk 56 (.tmp 11) (.tmp 21) rfl rfl rfl rfl rfl H3.out.2.2 (Nat.le_refl _) (fun v hv => pcl_one [p] v (by simpa using hv)) rowPole ?_
         intro w4 hP4 hM4
         rw [splice_whole (by rfl)] at hM4
         have hb4 : Below w2.heap.size w2 w4 := H3.out.1.trans (hP4.below (by omega))
         have hb4w : Below w1.heap.size w1 w4 := H2.out.trans (hb4.mono H2.out.size)
         have H4 := Lib.hid (And.intro (H1.out.1.trans (hb4w.mono H1.out.1.size)) (And.intro ((hP4.other _ (by omega)).trans H3.out.2.1) (And.intro hM4 ((hb4w.block _ (lt_of_heap H1.out.2.2.2)).trans H1.out.2.2.2))))
         have hz24 := Lib.hid (And.intro (show w2.heap.size + 1 < w4.heap.size from lt_of_heap hM4) H2.out.size)
         clear hP4 hM4 hb4 hb4w)
      | (show wpList _ _ _ (Oper.mk none (Op.store _ (Operand.tmp 10) (Operand.tmp 20)) _ _ _ _ :: _) _ _
         have hm10 : ((w2.alloc (.cells #[.slice none 0 0, .slice none 0 0, .slice none 0 0, .int .i64 0] 119)).alloc (.cells #[.int .i64 0, .int .i64 0, .int .i64 0, .int .i64 0, .int .i64 0, .int .i64 0, .int .i64 0, .int .i64 0, .int .i64 0, .int .i64 0, .int .i64 0, .int .i64 0] 56)).heap[w2.heap.size]? = some (.cells z4.toArray 119 (0, 0)) := alloc2_at0 _ _ _
         have hm11 : ((w2.alloc (.cells #[.slice none 0 0, .slice none 0 0, .slice none 0 0, .int .i64 0] 119)).alloc (.cells #[.int .i64 0, .int .i64 0, .int .i64 0, .int .i64 0, .int .i64 0, .int .i64 0, .int .i64 0, .int .i64 0, .int .i64 0, .int .i64 0, .int .i64 0, .int .i64 0] 56)).heap[w2.heap.size + 1]? = some (.cells (pcl pol0).toArray 56 (0, 0)) := alloc2_at1 _ _ _
         refine wpList_store_blk 119 (.tmp 10) (.tmp 20) rfl rfl rfl rfl rfl hm10 (Nat.le_refl _) (w4l_one _ _ _ _ _ _ _ _ _ _) rowSheetW ?_
         intro w3 hP3 hM3
         rw [splice_whole (by rfl)] at hM3
         have hm11' := (hP3.other _ (by omega)).trans hm11
         have hb3 : Below w2.heap.size w2 w3 := (grow2 w2 _ _).trans (hP3.below (Nat.le_refl _))
         have H3 := Lib.hid (And.intro hb3 (And.intro hM3 hm11'))
         clear hP3 hM3 hm10 hm11 hm11' hb3)
      | (go_at_call 54
         refine (HWP.out w1 H1.out.1).mono ?_
         rintro e w2 ⟨rfl, hB2⟩
         have H2 := Lib.hid hB2
         clear hB2)
      | (show wpList _ _ _ (Oper.mk (some 17) _ _ _ _ _ :: _) _ _
         refine wpList_load_blk 28 (.tmp 5) rfl rfl rfl H1.out.2.2.1 [.slice AG gs.length cg, .int .i64 vary] at0 rowGradingP ?_)
      | (show wpList _ _ _ (Oper.mk (some 16) _ _ _ _ _ :: _) _ _
         refine wpList_load_blk 25 (.tmp 4) rfl rfl rfl H1.out.2.1 [.slice AP ps.length cp, .slice AT ts.length ct] at0 rowSheetP ?_))
    refine bodyPost_ret (v := .tuple #[.agg [Value.int .i64 0, .int .i64 0].toArray, .int .i64 52]) (results_cell_tmp (cs := [.int .i64 0, .int .i64 0]) Tryz.results26 rfl H9.out.2 rowSpan5 rfl) rfl ⟨rfl, H9.out.1⟩
  rw [if_pos rfl]
  have hsm := hsm htv
  unfold StrPost at hstr
  rw [htv] at hstr
  have HP := Lib.hid (And.intro hgo hstr)
  obtain ⟨f, hf⟩ : ∃ f : Nat → Int × Int, (fun k => spanT gs vary ps ts p k) = f := ⟨_, rfl⟩
  have hfk : spanT gs vary ps ts p k = f k := by rw [← hf]
  rw [hf] at hF
  rw [hfk] at hsm ⊢
  have hsn := fun W => grStrengths_any (f k) (ar p k) (by omega) (by omega) har.1 har.2 W
  rw [← hbe, ← hbe] at hsn
  generalize (bears p k (f k).1, bears p k (f k).2) = z at hsn ⊢
  generalize ar p k = a at hare hsn
  have HS := Lib.hid (And.intro hF (And.intro hidk (And.intro hare hsn)))
  clear h0 hgo hstr hsm hsec hidk hmp hgle har hare hbe hF htv hf hfk hsn
  go_enter Tryz.func26, Tryz.ntmps26
  go_wp2_with (first
    | (show wpList _ _ _ (Oper.mk (some 37) _ _ _ _ _ :: _) _ _
       refine wpList_load_blk 119 (.tmp 10) rfl rfl rfl H6.out.2.1 [.slice AP ps.length cp, .slice AT ts.length ct, .slice AG gs.length cg, .int .i64 vary] at0 rowSheetW ?_)
    | (go_at_call 57
       refine (HP.out.2 w6 H6.out.1).mono ?_
       rintro e w7 ⟨mb, nb, F, rfl, hmb, hOF, hSF, hB7⟩
       have H7 := Lib.hid (And.intro (And.intro (H6.out.1.trans (hB7.mono H6.out.1.size)) (And.intro ((hB7.block _ (lt_of_heap H6.out.2.1)).trans H6.out.2.1) (And.intro ((hB7.block _ (lt_of_heap H6.out.2.2.1)).trans H6.out.2.2.1) ((hB7.block _ (lt_of_heap H6.out.2.2.2)).trans H6.out.2.2.2)))) (And.intro hmb (And.intro hOF hSF)))
       clear hB7 hmb hOF hSF)
    | (show wpList _ _ _ (Oper.mk (some 31) _ _ _ _ _ :: _) _ _
       refine wpList_load_blk 119 (.tmp 10) rfl rfl rfl H5.out.2.1 [.slice AP ps.length cp, .slice AT ts.length ct, .slice AG gs.length cg, .int .i64 vary] at0 rowSheetW ?_)
    | (show wpList _ _ _ (Oper.mk (some 32) _ _ _ _ _ :: _) _ _
       refine wpList_load_blk 56 (.tmp 11) rfl rfl rfl H5.out.2.2.1 (pcl p) at0 rowPole ?_)
    | (go_at_call 55
       refine (HP.out.1 w5 H5.out.1).mono ?_
       rintro e w6 ⟨rfl, hB6⟩
       have H6 := Lib.hid (And.intro (H5.out.1.trans (hB6.mono H5.out.1.size)) (And.intro ((hB6.block _ (lt_of_heap H5.out.2.1)).trans H5.out.2.1) (And.intro ((hB6.block _ (lt_of_heap H5.out.2.2.1)).trans H5.out.2.2.1) ((hB6.block _ (lt_of_heap H5.out.2.2.2)).trans H5.out.2.2.2))))
       have hz6 := Lib.hid hB6.size
       have f2 : w6.cell? ⟨w2.heap.size, 1, none⟩ = some (.slice AT ts.length ct) := cell_of_row w6 _ 1 _ _ _ H6.out.2.1
       clear hB6)
    | (go_at_call 56; refine (grValidSection_any _ _).mono ?_; rintro e w5 ⟨rfl, hB5⟩; rw [hab]; have H5 := Lib.hid (And.intro (H4.out.1.trans (hB5.mono H4.out.1.size)) (And.intro ((hB5.block _ (lt_of_heap H4.out.2.1)).trans H4.out.2.1) (And.intro ((hB5.block _ (lt_of_heap H4.out.2.2.1)).trans H4.out.2.2.1) ((hB5.block _ (lt_of_heap H4.out.2.2.2)).trans H4.out.2.2.2)))); have hz5 := Lib.hid hB5.size; clear hB5)
    | (show wpList _ _ _ (Oper.mk none (Op.store _ (Operand.tmp 11) (Operand.tmp 21)) _ _ _ _ :: _) _ _
       refine wpList_store_blk 56 (.tmp 11) (.tmp 21) rfl rfl rfl rfl rfl H3.out.2.2 (Nat.le_refl _) (fun v hv => pcl_one [p] v (by simpa using hv)) rowPole ?_
       intro w4 hP4 hM4
       rw [splice_whole (by rfl)] at hM4
       have hb4 : Below w2.heap.size w2 w4 := H3.out.1.trans (hP4.below (by omega))
       have hb4w : Below w1.heap.size w1 w4 := H2.out.trans (hb4.mono H2.out.size)
       have H4 := Lib.hid (And.intro (H1.out.1.trans (hb4w.mono H1.out.1.size)) (And.intro ((hP4.other _ (by omega)).trans H3.out.2.1) (And.intro hM4 ((hb4w.block _ (lt_of_heap H1.out.2.2.2)).trans H1.out.2.2.2))))
       have hz24 := Lib.hid (And.intro (show w2.heap.size + 1 < w4.heap.size from lt_of_heap hM4) H2.out.size)
       clear hP4 hM4 hb4 hb4w)
    | (show wpList _ _ _ (Oper.mk none (Op.store _ (Operand.tmp 10) (Operand.tmp 20)) _ _ _ _ :: _) _ _
       have hm10 : ((w2.alloc (.cells #[.slice none 0 0, .slice none 0 0, .slice none 0 0, .int .i64 0] 119)).alloc (.cells #[.int .i64 0, .int .i64 0, .int .i64 0, .int .i64 0, .int .i64 0, .int .i64 0, .int .i64 0, .int .i64 0, .int .i64 0, .int .i64 0, .int .i64 0, .int .i64 0] 56)).heap[w2.heap.size]? = some (.cells z4.toArray 119 (0, 0)) := alloc2_at0 _ _ _
       have hm11 : ((w2.alloc (.cells #[.slice none 0 0, .slice none 0 0, .slice none 0 0, .int .i64 0] 119)).alloc (.cells #[.int .i64 0, .int .i64 0, .int .i64 0, .int .i64 0, .int .i64 0, .int .i64 0, .int .i64 0, .int .i64 0, .int .i64 0, .int .i64 0, .int .i64 0, .int .i64 0] 56)).heap[w2.heap.size + 1]? = some (.cells (pcl pol0).toArray 56 (0, 0)) := alloc2_at1 _ _ _
       refine wpList_store_blk 119 (.tmp 10) (.tmp 20) rfl rfl rfl rfl rfl hm10 (Nat.le_refl _) (w4l_one _ _ _ _ _ _ _ _ _ _) rowSheetW ?_
       intro w3 hP3 hM3
       rw [splice_whole (by rfl)] at hM3
       have hm11' := (hP3.other _ (by omega)).trans hm11
       have hb3 : Below w2.heap.size w2 w3 := (grow2 w2 _ _).trans (hP3.below (Nat.le_refl _))
       have H3 := Lib.hid (And.intro hb3 (And.intro hM3 hm11'))
       clear hP3 hM3 hm10 hm11 hm11' hb3)
    | (go_at_call 54
       refine (HWP.out w1 H1.out.1).mono ?_
       rintro e w2 ⟨rfl, hB2⟩
       have H2 := Lib.hid hB2
       clear hB2)
    | (show wpList _ _ _ (Oper.mk (some 17) _ _ _ _ _ :: _) _ _
       refine wpList_load_blk 28 (.tmp 5) rfl rfl rfl H1.out.2.2.1 [.slice AG gs.length cg, .int .i64 vary] at0 rowGradingP ?_)
    | (show wpList _ _ _ (Oper.mk (some 16) _ _ _ _ _ :: _) _ _
       refine wpList_load_blk 25 (.tmp 4) rfl rfl rfl H1.out.2.1 [.slice AP ps.length cp, .slice AT ts.length ct] at0 rowSheetP ?_))
  clear n1 n2
  have hl1 := lt_of_heap H1.out.2.2.2
  have hl2 := hz24.out
  have hl5 := hz5.out
  have hl6 := hz6.out
  have HL := Lib.hid (And.intro hl1 (And.intro hl2 (And.intro hl5 (And.intro hl6 H7.out.2.1))))
  clear hl1 hl2 hl5 hl6
  refine R6.wp_walk (C := fun D σ W => StM w (w.heap.size + 1 + 1) 50 [.int .i64 0, .int .i64 0] (sp2 z) [(w2.heap.size + 1, .cells (pcl p).toArray 56)] 10 D σ W ∧ OwnF W mb nb F) 57 (by kernel_rfl) (by kernel_rfl) rfl
    ⟨⟨H7.out.1.1.drew, fun _ => H7.out.1.2.2.2, (fun e => by cases e), lt_of_heap H7.out.1.2.2.2, ⟨H7.out.1.2.2.1, trivial⟩⟩, H7.out.2.2.1.block rfl⟩ ?_
  simp only []
  repeat (first
    | (refine' R6.WalkR.det (fun _ => rfl) (fun D ρ W hK hC => ?_) ?_
       rotate_left
       · have f1 : W.cell? ⟨w2.heap.size + 1, 0, none⟩ = some (.int .i64 p.id) := cell_of_row W _ 0 _ _ _ hC.1.box.1
         have HC := Lib.hid hC
         clear hC hK
         go_simp
         with_reducible exact ⟨rfl, ⟨HC.out.1.move (by decide), HC.out.2⟩⟩
       simp only [Act.put, List.setIfInBounds_toArray, List.set_cons_succ, List.set_cons_zero]))
  refine' R6.WalkR.det (c := .agg (st6 f).toArray) (fun _ => rfl) (fun D ρ W hK hC => ?_) ?_
  · exact gives_look (.tmp 47) (.tmp 49) rfl rfl hC.2 HS.out.2.1 rfl ⟨by rw [HS.out.1 F H7.out.2.2.2]; rfl, hC.1.move (by decide), hC.2⟩
  simp only [Act.put, List.setIfInBounds_toArray, List.set_cons_succ, List.set_cons_zero]
  repeat (first
    | (refine' R6.WalkR.det (fun _ => rfl) (fun D ρ W hK hC => ?_) ?_
       rotate_left
       · have f1 : W.cell? ⟨w2.heap.size + 1, 0, none⟩ = some (.int .i64 p.id) := cell_of_row W _ 0 _ _ _ hC.1.box.1
         have HC := Lib.hid hC
         clear hC hK
         go_simp
         with_reducible exact ⟨rfl, ⟨HC.out.1.move (by decide), HC.out.2⟩⟩
       simp only [Act.put, List.setIfInBounds_toArray, List.set_cons_succ, List.set_cons_zero]))
  refine' R6.WalkR.det (fun _ => rfl) (fun D ρ W hK hC => ?_) ?_
  rotate_left
  · exact gives_idx 128 (.tmp 50) (.tmp 51) rfl rfl rfl (idxT_any f hk W) ⟨rfl, hC.1.move (by decide), hC.2⟩
  simp only [Act.put, List.setIfInBounds_toArray, List.set_cons_succ, List.set_cons_zero]
  refine' R6.WalkR.det (fun _ => rfl) (fun D ρ W hK hC => ?_) ?_
  rotate_left
  · exact gives_load_blk 56 (.tmp 11) rfl rfl hC.1.box.1 (pcl p) at0 rowPole ⟨rfl, hC.1.move (by decide), hC.2⟩
  simp only [Act.put, List.setIfInBounds_toArray, List.set_cons_succ, List.set_cons_zero]
  repeat (first
    | (refine' R6.WalkR.det (fun _ => rfl) (fun D ρ W hK hC => ?_) ?_
       rotate_left
       · skip
         have HC := Lib.hid hC
         clear hC hK
         go_simp
         with_reducible exact ⟨rfl, ⟨HC.out.1.move (by decide), HC.out.2⟩⟩
       simp only [Act.put, List.setIfInBounds_toArray, List.set_cons_succ, List.set_cons_zero]))
  refine' R6.WalkR.det (fun _ => rfl) (fun D ρ W hK hC => ?_) ?_
  rotate_left
  · have HC := Lib.hid hC
    clear hC hK
    go_simp
    go_at_call 59
    refine (HS.out.2.2.1 W).mono ?_
    rintro e W1 ⟨rfl, hB1⟩
    exact ⟨_, rfl, rfl, (HC.out.1.next hB1).move (by decide), HC.out.2.block (hB1.block _ HC.out.2.lt)⟩
  simp only [Act.put, List.setIfInBounds_toArray, List.set_cons_succ, List.set_cons_zero]
  refine' R6.WalkR.det (fun _ => rfl) (fun D ρ W hK hC => ?_) ?_
  rotate_left
  · have HC := Lib.hid hC
    clear hC hK
    go_simp
    go_at_call 58
    refine (HS.out.2.2.2 W).mono ?_
    rintro e W1 ⟨rfl, hB1⟩
    exact ⟨_, rfl, rfl, (HC.out.1.next hB1).move (by decide), HC.out.2.block (hB1.block _ HC.out.2.lt)⟩
  simp only [Act.put, List.setIfInBounds_toArray, List.set_cons_succ, List.set_cons_zero]
  refine' R6.WalkR.det (c := undef) (fun _ => rfl) (fun D ρ W hK hC => ?_) ?_
  · refine gives_store_blk 50 (.tmp 8) (.tmp 56) (cs := sp2 z) rfl rfl rfl (hC.1.hX hK.me) (Nat.le_of_ble_eq_true rfl) (sp2_one _) rowSpan5 ?_
    intro W' hP hM'
    rw [splice_whole (by rfl)] at hM'
    have hl := HL.out
    exact ⟨rfl, hC.1.put hP hM' (by omega) (fun e he => by simp only [List.mem_cons, List.not_mem_nil, or_false] at he; rcases he with rfl; dsimp only; omega), hC.2.block (hP.other _ (by omega))⟩
  simp only [Act.put, List.setIfInBounds_toArray, List.set_cons_succ, List.set_cons_zero]
  repeat (first
    | (refine' R6.WalkR.det (fun _ => rfl) (fun D ρ W hK hC => ?_) ?_
       rotate_left
       · skip
         have HC := Lib.hid hC
         clear hC hK
         go_simp
         with_reducible exact ⟨rfl, ⟨HC.out.1.move (by decide), HC.out.2⟩⟩
       simp only [Act.put, List.setIfInBounds_toArray, List.set_cons_succ, List.set_cons_zero]))
  refine R6.WalkR.nil (fun D ρ W9 hD hC => ?_)
  have H9 := Lib.hid (And.intro hC.1.bel (hC.1.hY (hD 10 (by omega))))
  clear hC hD
  go_wp2
  refine bodyPost_ret (v := .tuple #[.agg (sp2 z).toArray, .int .i64 0]) (results_cell_tmp (cs := sp2 z) Tryz.results26 rfl H9.out.2 rowSpan5 rfl) rfl ⟨rfl, H9.out.1⟩

end Go.Proofs.YtddpebnmjfmgdaaGreat
