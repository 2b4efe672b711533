/-
  A sheet at work, and a pole of it (the program's).
-/
import Derived.Test.YtpnnlmaipcjkmaaGreatQV16
set_option linter.all false
namespace Go.Proofs.YtpnnlmaipcjkmaaGreat
open Go.RowKit
open R6 (done done_ne done_me upd_ne upd_me)

attribute [local go_sem] gives

structure St2 (w0 : World) (b6 b7 : Nat) (t6 t7 : TypeId) (X6 Y6 X7 Y7 : List Value) (K : List (Nat × Obj)) (k6 k7 : Nat) (D : Nat → Bool) (σ : Nat → Value) (W : World) : Prop where
  bel : Below w0.heap.size w0 W
  h6 : W.heap[b6]? = some (.cells (if D k6 = true then Y6 else X6).toArray t6 (0, 0))
  h7 : W.heap[b7]? = some (.cells (if D k7 = true then Y7 else X7).toArray t7 (0, 0))
  box : keptK K W
def st2K (k6 k7 k : Nat) : Bool := !(k == k6 || k == k7)
section
variable {w0 W W' : World} {b6 b7 : Nat} {t6 t7 : TypeId} {X6 Y6 X7 Y7 : List Value} {K : List (Nat × Obj)} {k6 k7 : Nat} {D : Nat → Bool} {σ σ' : Nat → Value}
theorem St2.move {k : Nat} (h : St2 w0 b6 b7 t6 t7 X6 Y6 X7 Y7 K k6 k7 D σ W) (hk : st2K k6 k7 k = true) : St2 w0 b6 b7 t6 t7 X6 Y6 X7 Y7 K k6 k7 (done D k) σ' W := by
  simp only [st2K, Bool.not_eq_true', Bool.or_eq_false_iff, beq_eq_false_iff_ne, ne_eq] at hk
  have e1 := done_ne (D := D) (k := k) (j := k6) (by omega)
  have e2 := done_ne (D := D) (k := k) (j := k7) (by omega)
  exact ⟨h.bel, by rw [e1]; exact h.h6, by rw [e2]; exact h.h7, h.box⟩
theorem St2.put6 (h : St2 w0 b6 b7 t6 t7 X6 Y6 X7 Y7 K k6 k7 D σ W) (hk : (k6 == k7) = false) (hn : w0.heap.size ≤ b6) (hb : b7 ≠ b6) (hK : ∀ e ∈ K, e.1 ≠ b6) (hP : Put W W' b6) (hM : W'.heap[b6]? = some (.cells Y6.toArray t6 (0, 0))) : St2 w0 b6 b7 t6 t7 X6 Y6 X7 Y7 K k6 k7 (done D k6) σ' W' := by
  have e2 := done_ne (D := D) (k := k6) (j := k7) (by simp at hk; omega)
  exact ⟨h.bel.trans (hP.below hn), by rw [done_me, if_pos rfl]; exact hM, by rw [e2]; exact (hP.other _ hb).trans h.h7, h.box.put hP hK⟩
theorem St2.put7 (h : St2 w0 b6 b7 t6 t7 X6 Y6 X7 Y7 K k6 k7 D σ W) (hk : (k6 == k7) = false) (hn : w0.heap.size ≤ b7) (hb : b6 ≠ b7) (hK : ∀ e ∈ K, e.1 ≠ b7) (hP : Put W W' b7) (hM : W'.heap[b7]? = some (.cells Y7.toArray t7 (0, 0))) : St2 w0 b6 b7 t6 t7 X6 Y6 X7 Y7 K k6 k7 (done D k7) σ' W' := by
  have e2 := done_ne (D := D) (k := k7) (j := k6) (by simp at hk; omega)
  exact ⟨h.bel.trans (hP.below hn), by rw [e2]; exact (hP.other _ hb).trans h.h6, by rw [done_me, if_pos rfl]; exact hM, h.box.put hP hK⟩
end
def z4 : List Value := [.slice none 0 0, .slice none 0 0, .slice none 0 0, .int .i64 0]
def w4l (ps : List Pol) (ts : List Ts) (gs : List Gd) (vary : Int) (AP : Option Addr) (cp : Nat) (AT : Option Addr) (ct : Nat) (AG : Option Addr) (cg : Nat) : List Value := [.slice AP ps.length cp, .slice AT ts.length ct, .slice AG gs.length cg, .int .i64 vary]
theorem w4l_one (ps : List Pol) (ts : List Ts) (gs : List Gd) (vary : Int) (AP : Option Addr) (cp : Nat) (AT : Option Addr) (ct : Nat) (AG : Option Addr) (cg : Nat) : ∀ v ∈ w4l ps ts gs vary AP cp AT ct AG cg, v.oneCell' = true := by
  intro v hv
  simp only [w4l, List.mem_cons, List.not_mem_nil, or_false] at hv
  rcases hv with rfl | rfl | rfl | rfl <;> rfl
theorem z4_one : ∀ v ∈ z4, v.oneCell' = true := by
  intro v hv
  simp only [z4, List.mem_cons, List.not_mem_nil, or_false] at hv
  rcases hv with rfl | rfl | rfl | rfl <;> rfl
theorem rowGradingP : RowTy Tryz.prog 28 2 := ⟨⟨_, Tryz.underlying28, rfl⟩, by kernel_rfl⟩
theorem rowSheetP : RowTy Tryz.prog 25 2 := ⟨⟨_, Tryz.underlying25, rfl⟩, by kernel_rfl⟩

set_option maxRecDepth 100000 in
set_option maxHeartbeats 8000000 in
theorem grWithPole_bad (ps : List Pol) (ts : List Ts) (gs : List Gd) (vary : Int) (id : Int) (AP : Option Addr) (cp : Nat) (AT : Option Addr) (ct : Nat) (AG : Option Addr) (cg : Nat) (B : Nat) (w : World) (hB : B ≤ w.heap.size) (hz : ShAt w B ps ts AP AT) (hg : GdAt w B gs AG) (hck : gChk gs vary ps ts ≠ 0) :
    Calls Tryz.prog 54 #[.agg #[.slice AP ps.length cp, .slice AT ts.length ct], .agg #[.slice AG gs.length cg, .int .i64 vary], .int .i64 id] w fun e w' => e = .returned (.tuple #[.agg z4.toArray, .agg (pcl pol0).toArray, .int .i64 (gChk gs vary ps ts)]) ∧ Below w.heap.size w w' := by
  have hchk := fun (W : World) (hW : Below w.heap.size w W) => grCheck_any ps ts gs vary AP cp AT ct AG cg B W (Nat.le_trans hB hW.size) (hz.below (hW.mono hB)) (hg.below (hW.mono hB))
  unfold shl gdl at hchk
  have hpw := fun (W : World) (hW : Below w.heap.size w W) => grPoleWith_any id AP cp ps B W (Nat.le_trans hB hW.size) (hz.p.below (hW.mono hB)) hz.lp
  obtain ⟨w1, hw1⟩ : ∃ w1, (((w.alloc (.cells #[.slice AP ps.length cp, .slice AT ts.length ct] 25)).alloc (.cells #[.slice AG gs.length cg, .int .i64 vary] 28)).alloc (.cells z4.toArray 119)).alloc (.cells (pcl pol0).toArray 56) = w1 := ⟨_, rfl⟩
  have hb1 : Below w.heap.size w w1 := by rw [← hw1]; exact ((grow2 _ _ _).alloc (by simp; omega) _).alloc (by simp; omega) _
  have m1 : w1.heap[w.heap.size]? = some (.cells [.slice AP ps.length cp, .slice AT ts.length ct].toArray 25 (0, 0)) := by rw [← hw1]; exact (Below.heap_alloc _ _ _ (by simp only [World.size_alloc]; omega)).trans (alloc3_at0 _ _ _ _)
  have m2 : w1.heap[w.heap.size + 1]? = some (.cells [.slice AG gs.length cg, .int .i64 vary].toArray 28 (0, 0)) := by rw [← hw1]; exact (Below.heap_alloc _ _ _ (by simp only [World.size_alloc]; omega)).trans (alloc3_at1 _ _ _ _)
  have m3 : w1.heap[w.heap.size + 1 + 1]? = some (.cells z4.toArray 119 (0, 0)) := by rw [← hw1]; exact (Below.heap_alloc _ _ _ (by simp only [World.size_alloc]; omega)).trans (alloc3_at2 _ _ _ _)
  have m4 : w1.heap[w.heap.size + 1 + 1 + 1]? = some (.cells (pcl pol0).toArray 56 (0, 0)) := by
    rw [← hw1]
    have := alloc_at0 (((w.alloc (.cells #[.slice AP ps.length cp, .slice AT ts.length ct] 25)).alloc (.cells #[.slice AG gs.length cg, .int .i64 vary] 28)).alloc (.cells z4.toArray 119)) (.cells (pcl pol0).toArray 56)
    simp only [World.size_alloc] at this
    exact this
  have H1 := Lib.hid (And.intro hb1 (And.intro m1 (And.intro m2 (And.intro m3 m4))))
  clear hb1 m1 m2 m3 m4 hz hg
  unfold z4 pcl pol0 at hw1
  clear hpw
  generalize gChk gs vary ps ts = ck at hchk hck ⊢
  have HC1 := Lib.hid hchk
  have hce : (ck == 0) = false := by simpa using hck
  have hcn : (ck != 0) = true := by simpa using hck
  clear hchk
  go_enter Tryz.func54, Tryz.ntmps54
  go_wp2_with (first
    | (show wpList _ _ _ (Oper.mk none (Op.store _ (Operand.tmp 6) (Operand.tmp 17)) _ _ _ _ :: _) _ _
       refine wpList_store_blk 119 (.tmp 6) (.tmp 17) rfl rfl rfl rfl (cs := z4) rfl H2.out.2.2.2.1 (Nat.le_refl _) z4_one rowSheetW ?_
       intro w8 hP8 hM8
       rw [splice_whole (by rfl)] at hM8
       have H8 := Lib.hid (And.intro (H2.out.1.trans (hP8.below (by omega))) (And.intro hM8 ((hP8.other _ (by omega)).trans H2.out.2.2.2.2)))
       clear hP8 hM8)
    | (show wpList _ _ _ (Oper.mk none (Op.store _ (Operand.tmp 7) (Operand.tmp 18)) _ _ _ _ :: _) _ _
       refine wpList_store_blk 56 (.tmp 7) (.tmp 18) rfl rfl rfl rfl (cs := pcl pol0) rfl H8.out.2.2 (Nat.le_refl _) (fun v hv => pcl_one [pol0] v (by simpa using hv)) rowPole ?_
       intro w9 hP9 hM9
       rw [splice_whole (by rfl)] at hM9
       have H9 := Lib.hid (And.intro (H8.out.1.trans (hP9.below (by omega))) (And.intro ((hP9.other _ (by omega)).trans H8.out.2.1) hM9))
       clear hP9 hM9)
    | (show wpList _ _ _ (Oper.mk (some 12) _ _ _ _ _ :: _) _ _
       refine wpList_load_blk 25 (.tmp 3) rfl rfl rfl H1.out.2.1 [.slice AP ps.length cp, .slice AT ts.length ct] at0 rowSheetP ?_)
    | (show wpList _ _ _ (Oper.mk (some 13) _ _ _ _ _ :: _) _ _
       refine wpList_load_blk 28 (.tmp 4) rfl rfl rfl H1.out.2.2.1 [.slice AG gs.length cg, .int .i64 vary] at0 rowGradingP ?_)
    | (go_at_call 28
       refine (HC1.out w1 H1.out.1).mono ?_
       rintro e w2 ⟨rfl, hB2⟩
       have H2 := Lib.hid (And.intro (H1.out.1.trans (hB2.mono H1.out.1.size)) (And.intro ((hB2.block _ (lt_of_heap H1.out.2.1)).trans H1.out.2.1) (And.intro ((hB2.block _ (lt_of_heap H1.out.2.2.1)).trans H1.out.2.2.1) (And.intro ((hB2.block _ (lt_of_heap H1.out.2.2.2.1)).trans H1.out.2.2.2.1) ((hB2.block _ (lt_of_heap H1.out.2.2.2.2)).trans H1.out.2.2.2.2)))))
       have f1 : w2.cell? ⟨w.heap.size, 0, none⟩ = some (.slice AP ps.length cp) := cell_of_row w2 _ 0 _ _ _ H2.out.2.1
       clear hB2))
  refine bodyPost_ret (v := .tuple #[.agg z4.toArray, .agg (pcl pol0).toArray, .int .i64 ck]) (results_cell2_tmp Tryz.results54 rfl H9.out.2.1 rowSheetW rfl H9.out.2.2 rowPole rfl) rfl ⟨rfl, H9.out.1⟩

set_option maxRecDepth 100000 in
set_option maxHeartbeats 8000000 in
theorem grWithPole_none (ps : List Pol) (ts : List Ts) (gs : List Gd) (vary : Int) (id : Int) (AP : Option Addr) (cp : Nat) (AT : Option Addr) (ct : Nat) (AG : Option Addr) (cg : Nat) (B : Nat) (w : World) (hB : B ≤ w.heap.size) (hz : ShAt w B ps ts AP AT) (hg : GdAt w B gs AG) (hck : gChk gs vary ps ts = 0) (hh : hasPol ps id = false) :
    Calls Tryz.prog 54 #[.agg #[.slice AP ps.length cp, .slice AT ts.length ct], .agg #[.slice AG gs.length cg, .int .i64 vary], .int .i64 id] w fun e w' => e = .returned (.tuple #[.agg z4.toArray, .agg (pcl pol0).toArray, .int .i64 6]) ∧ Below w.heap.size w w' := by
  have hchk := fun (W : World) (hW : Below w.heap.size w W) => grCheck_any ps ts gs vary AP cp AT ct AG cg B W (Nat.le_trans hB hW.size) (hz.below (hW.mono hB)) (hg.below (hW.mono hB))
  unfold shl gdl at hchk
  have hpw := fun (W : World) (hW : Below w.heap.size w W) => grPoleWith_any id AP cp ps B W (Nat.le_trans hB hW.size) (hz.p.below (hW.mono hB)) hz.lp
  obtain ⟨w1, hw1⟩ : ∃ w1, (((w.alloc (.cells #[.slice AP ps.length cp, .slice AT ts.length ct] 25)).alloc (.cells #[.slice AG gs.length cg, .int .i64 vary] 28)).alloc (.cells z4.toArray 119)).alloc (.cells (pcl pol0).toArray 56) = w1 := ⟨_, rfl⟩
  have hb1 : Below w.heap.size w w1 := by rw [← hw1]; exact ((grow2 _ _ _).alloc (by simp; omega) _).alloc (by simp; omega) _
  have m1 : w1.heap[w.heap.size]? = some (.cells [.slice AP ps.length cp, .slice AT ts.length ct].toArray 25 (0, 0)) := by rw [← hw1]; exact (Below.heap_alloc _ _ _ (by simp only [World.size_alloc]; omega)).trans (alloc3_at0 _ _ _ _)
  have m2 : w1.heap[w.heap.size + 1]? = some (.cells [.slice AG gs.length cg, .int .i64 vary].toArray 28 (0, 0)) := by rw [← hw1]; exact (Below.heap_alloc _ _ _ (by simp only [World.size_alloc]; omega)).trans (alloc3_at1 _ _ _ _)
  have m3 : w1.heap[w.heap.size + 1 + 1]? = some (.cells z4.toArray 119 (0, 0)) := by rw [← hw1]; exact (Below.heap_alloc _ _ _ (by simp only [World.size_alloc]; omega)).trans (alloc3_at2 _ _ _ _)
  have m4 : w1.heap[w.heap.size + 1 + 1 + 1]? = some (.cells (pcl pol0).toArray 56 (0, 0)) := by
    rw [← hw1]
    have := alloc_at0 (((w.alloc (.cells #[.slice AP ps.length cp, .slice AT ts.length ct] 25)).alloc (.cells #[.slice AG gs.length cg, .int .i64 vary] 28)).alloc (.cells z4.toArray 119)) (.cells (pcl pol0).toArray 56)
    simp only [World.size_alloc] at this
    exact this
  have H1 := Lib.hid (And.intro hb1 (And.intro m1 (And.intro m2 (And.intro m3 m4))))
  clear hb1 m1 m2 m3 m4 hz hg
  unfold z4 pcl pol0 at hw1
  rw [hck] at hchk
  rw [hh] at hpw
  have HC1 := Lib.hid hchk
  have HPW := Lib.hid hpw
  clear hchk hpw hck hh
  go_enter Tryz.func54, Tryz.ntmps54
  go_wp2_with (first
    | (show wpList _ _ _ (Oper.mk none (Op.store _ (Operand.tmp 6) (Operand.tmp 29)) _ _ _ _ :: _) _ _
       refine wpList_store_blk 119 (.tmp 6) (.tmp 29) rfl rfl rfl rfl (cs := z4) rfl H4.out.2.2.2.1 (Nat.le_refl _) z4_one rowSheetW ?_
       intro w8 hP8 hM8
       rw [splice_whole (by rfl)] at hM8
       have H8 := Lib.hid (And.intro (H4.out.1.trans (hP8.below (by omega))) (And.intro hM8 ((hP8.other _ (by omega)).trans H4.out.2.2.2.2)))
       clear hP8 hM8)
    | (show wpList _ _ _ (Oper.mk none (Op.store _ (Operand.tmp 7) (Operand.tmp 30)) _ _ _ _ :: _) _ _
       refine wpList_store_blk 56 (.tmp 7) (.tmp 30) rfl rfl rfl rfl (cs := pcl pol0) rfl H8.out.2.2 (Nat.le_refl _) (fun v hv => pcl_one [pol0] v (by simpa using hv)) rowPole ?_
       intro w9 hP9 hM9
       rw [splice_whole (by rfl)] at hM9
       have H9 := Lib.hid (And.intro (H8.out.1.trans (hP9.below (by omega))) (And.intro ((hP9.other _ (by omega)).trans H8.out.2.1) hM9))
       clear hP9 hM9)
    | (show wpList _ _ _ (Oper.mk none (Op.store _ (Operand.tmp 10) (Operand.tmp 25)) _ _ _ _ :: _) _ _
       have hm10 : (w3.alloc (.cells #[.int .i64 0, .int .i64 0, .int .i64 0, .int .i64 0, .int .i64 0, .int .i64 0, .int .i64 0, .int .i64 0, .int .i64 0, .int .i64 0, .int .i64 0, .int .i64 0] 56)).heap[w3.heap.size]? = some (.cells (pcl pol0).toArray 56 (0, 0)) := alloc_at0 _ _
       refine wpList_store_blk 56 (.tmp 10) (.tmp 25) rfl rfl rfl rfl rfl hm10 (Nat.le_refl _) (fun v hv => pcl_one [fndP ps id] v (by simpa using hv)) rowPole ?_
       intro w4 hP4 hM4
       clear hm10
       rw [splice_whole (by rfl)] at hM4
       have hb4 : Below w3.heap.size w3 w4 := (grow1 w3 _).trans (hP4.below (Nat.le_refl _))
       have H4 := Lib.hid (And.intro (H3.out.1.trans (hb4.mono H3.out.1.size)) (And.intro ((hb4.block _ (lt_of_heap H3.out.2.1)).trans H3.out.2.1) (And.intro ((hb4.block _ (lt_of_heap H3.out.2.2.1)).trans H3.out.2.2.1) (And.intro ((hb4.block _ (lt_of_heap H3.out.2.2.2.1)).trans H3.out.2.2.2.1) ((hb4.block _ (lt_of_heap H3.out.2.2.2.2)).trans H3.out.2.2.2.2)))))
       have H4n := Lib.hid hM4
       have hz34 := Lib.hid (show w3.heap.size < w4.heap.size from lt_of_heap hM4)
       clear hP4 hM4 hb4)
    | (go_at_call 91
       refine (HPW.out w2 H2.out.1).mono ?_
       rintro e w3 ⟨rfl, hB3⟩
       have H3 := Lib.hid (And.intro (H2.out.1.trans (hB3.mono H2.out.1.size)) (And.intro ((hB3.block _ (lt_of_heap H2.out.2.1)).trans H2.out.2.1) (And.intro ((hB3.block _ (lt_of_heap H2.out.2.2.1)).trans H2.out.2.2.1) (And.intro ((hB3.block _ (lt_of_heap H2.out.2.2.2.1)).trans H2.out.2.2.2.1) ((hB3.block _ (lt_of_heap H2.out.2.2.2.2)).trans H2.out.2.2.2.2)))))
       clear hB3)
    | (show wpList _ _ _ (Oper.mk (some 12) _ _ _ _ _ :: _) _ _
       refine wpList_load_blk 25 (.tmp 3) rfl rfl rfl H1.out.2.1 [.slice AP ps.length cp, .slice AT ts.length ct] at0 rowSheetP ?_)
    | (show wpList _ _ _ (Oper.mk (some 13) _ _ _ _ _ :: _) _ _
       refine wpList_load_blk 28 (.tmp 4) rfl rfl rfl H1.out.2.2.1 [.slice AG gs.length cg, .int .i64 vary] at0 rowGradingP ?_)
    | (go_at_call 28
       refine (HC1.out w1 H1.out.1).mono ?_
       rintro e w2 ⟨rfl, hB2⟩
       have H2 := Lib.hid (And.intro (H1.out.1.trans (hB2.mono H1.out.1.size)) (And.intro ((hB2.block _ (lt_of_heap H1.out.2.1)).trans H1.out.2.1) (And.intro ((hB2.block _ (lt_of_heap H1.out.2.2.1)).trans H1.out.2.2.1) (And.intro ((hB2.block _ (lt_of_heap H1.out.2.2.2.1)).trans H1.out.2.2.2.1) ((hB2.block _ (lt_of_heap H1.out.2.2.2.2)).trans H1.out.2.2.2.2)))))
       have f1 : w2.cell? ⟨w.heap.size, 0, none⟩ = some (.slice AP ps.length cp) := cell_of_row w2 _ 0 _ _ _ H2.out.2.1
       clear hB2))
  refine bodyPost_ret (v := .tuple #[.agg z4.toArray, .agg (pcl pol0).toArray, .int .i64 6]) (results_cell2_tmp Tryz.results54 rfl H9.out.2.1 rowSheetW rfl H9.out.2.2 rowPole rfl) rfl ⟨rfl, H9.out.1⟩

set_option maxRecDepth 100000 in
set_option maxHeartbeats 8000000 in
theorem grWithPole_ok (ps : List Pol) (ts : List Ts) (gs : List Gd) (vary : Int) (id : Int) (AP : Option Addr) (cp : Nat) (AT : Option Addr) (ct : Nat) (AG : Option Addr) (cg : Nat) (B : Nat) (w : World) (hB : B ≤ w.heap.size) (hz : ShAt w B ps ts AP AT) (hg : GdAt w B gs AG) (hck : gChk gs vary ps ts = 0) (hh : hasPol ps id = true) :
    Calls Tryz.prog 54 #[.agg #[.slice AP ps.length cp, .slice AT ts.length ct], .agg #[.slice AG gs.length cg, .int .i64 vary], .int .i64 id] w fun e w' => e = .returned (.tuple #[.agg (w4l ps ts gs vary AP cp AT ct AG cg).toArray, .agg (pcl (fndP ps id)).toArray, .int .i64 0]) ∧ Below w.heap.size w w' := by
  have hchk := fun (W : World) (hW : Below w.heap.size w W) => grCheck_any ps ts gs vary AP cp AT ct AG cg B W (Nat.le_trans hB hW.size) (hz.below (hW.mono hB)) (hg.below (hW.mono hB))
  unfold shl gdl at hchk
  have hpw := fun (W : World) (hW : Below w.heap.size w W) => grPoleWith_any id AP cp ps B W (Nat.le_trans hB hW.size) (hz.p.below (hW.mono hB)) hz.lp
  obtain ⟨w1, hw1⟩ : ∃ w1, (((w.alloc (.cells #[.slice AP ps.length cp, .slice AT ts.length ct] 25)).alloc (.cells #[.slice AG gs.length cg, .int .i64 vary] 28)).alloc (.cells z4.toArray 119)).alloc (.cells (pcl pol0).toArray 56) = w1 := ⟨_, rfl⟩
  have hb1 : Below w.heap.size w w1 := by rw [← hw1]; exact ((grow2 _ _ _).alloc (by simp; omega) _).alloc (by simp; omega) _
  have m1 : w1.heap[w.heap.size]? = some (.cells [.slice AP ps.length cp, .slice AT ts.length ct].toArray 25 (0, 0)) := by rw [← hw1]; exact (Below.heap_alloc _ _ _ (by simp only [World.size_alloc]; omega)).trans (alloc3_at0 _ _ _ _)
  have m2 : w1.heap[w.heap.size + 1]? = some (.cells [.slice AG gs.length cg, .int .i64 vary].toArray 28 (0, 0)) := by rw [← hw1]; exact (Below.heap_alloc _ _ _ (by simp only [World.size_alloc]; omega)).trans (alloc3_at1 _ _ _ _)
  have m3 : w1.heap[w.heap.size + 1 + 1]? = some (.cells z4.toArray 119 (0, 0)) := by rw [← hw1]; exact (Below.heap_alloc _ _ _ (by simp only [World.size_alloc]; omega)).trans (alloc3_at2 _ _ _ _)
  have m4 : w1.heap[w.heap.size + 1 + 1 + 1]? = some (.cells (pcl pol0).toArray 56 (0, 0)) := by
    rw [← hw1]
    have := alloc_at0 (((w.alloc (.cells #[.slice AP ps.length cp, .slice AT ts.length ct] 25)).alloc (.cells #[.slice AG gs.length cg, .int .i64 vary] 28)).alloc (.cells z4.toArray 119)) (.cells (pcl pol0).toArray 56)
    simp only [World.size_alloc] at this
    exact this
  have H1 := Lib.hid (And.intro hb1 (And.intro m1 (And.intro m2 (And.intro m3 m4))))
  clear hb1 m1 m2 m3 m4 hz hg
  unfold z4 pcl pol0 at hw1
  rw [hck] at hchk
  rw [hh] at hpw
  have HC1 := Lib.hid hchk
  have HPW := Lib.hid hpw
  clear hchk hpw hck hh
  go_enter Tryz.func54, Tryz.ntmps54
  go_wp2_with (first
    | (show wpList _ _ _ (Oper.mk none (Op.store _ (Operand.tmp 10) (Operand.tmp 25)) _ _ _ _ :: _) _ _
       have hm10 : (w3.alloc (.cells #[.int .i64 0, .int .i64 0, .int .i64 0, .int .i64 0, .int .i64 0, .int .i64 0, .int .i64 0, .int .i64 0, .int .i64 0, .int .i64 0, .int .i64 0, .int .i64 0] 56)).heap[w3.heap.size]? = some (.cells (pcl pol0).toArray 56 (0, 0)) := alloc_at0 _ _
       refine wpList_store_blk 56 (.tmp 10) (.tmp 25) rfl rfl rfl rfl rfl hm10 (Nat.le_refl _) (fun v hv => pcl_one [fndP ps id] v (by simpa using hv)) rowPole ?_
       intro w4 hP4 hM4
       clear hm10
       rw [splice_whole (by rfl)] at hM4
       have hb4 : Below w3.heap.size w3 w4 := (grow1 w3 _).trans (hP4.below (Nat.le_refl _))
       have H4 := Lib.hid (And.intro (H3.out.1.trans (hb4.mono H3.out.1.size)) (And.intro ((hb4.block _ (lt_of_heap H3.out.2.1)).trans H3.out.2.1) (And.intro ((hb4.block _ (lt_of_heap H3.out.2.2.1)).trans H3.out.2.2.1) (And.intro ((hb4.block _ (lt_of_heap H3.out.2.2.2.1)).trans H3.out.2.2.2.1) ((hb4.block _ (lt_of_heap H3.out.2.2.2.2)).trans H3.out.2.2.2.2)))))
       have H4n := Lib.hid hM4
       have hz34 := Lib.hid (show w3.heap.size < w4.heap.size from lt_of_heap hM4)
       clear hP4 hM4 hb4)
    | (go_at_call 91
       refine (HPW.out w2 H2.out.1).mono ?_
       rintro e w3 ⟨rfl, hB3⟩
       have H3 := Lib.hid (And.intro (H2.out.1.trans (hB3.mono H2.out.1.size)) (And.intro ((hB3.block _ (lt_of_heap H2.out.2.1)).trans H2.out.2.1) (And.intro ((hB3.block _ (lt_of_heap H2.out.2.2.1)).trans H2.out.2.2.1) (And.intro ((hB3.block _ (lt_of_heap H2.out.2.2.2.1)).trans H2.out.2.2.2.1) ((hB3.block _ (lt_of_heap H2.out.2.2.2.2)).trans H2.out.2.2.2.2)))))
       clear hB3)
    | (show wpList _ _ _ (Oper.mk (some 12) _ _ _ _ _ :: _) _ _
       refine wpList_load_blk 25 (.tmp 3) rfl rfl rfl H1.out.2.1 [.slice AP ps.length cp, .slice AT ts.length ct] at0 rowSheetP ?_)
    | (show wpList _ _ _ (Oper.mk (some 13) _ _ _ _ _ :: _) _ _
       refine wpList_load_blk 28 (.tmp 4) rfl rfl rfl H1.out.2.2.1 [.slice AG gs.length cg, .int .i64 vary] at0 rowGradingP ?_)
    | (go_at_call 28
       refine (HC1.out w1 H1.out.1).mono ?_
       rintro e w2 ⟨rfl, hB2⟩
       have H2 := Lib.hid (And.intro (H1.out.1.trans (hB2.mono H1.out.1.size)) (And.intro ((hB2.block _ (lt_of_heap H1.out.2.1)).trans H1.out.2.1) (And.intro ((hB2.block _ (lt_of_heap H1.out.2.2.1)).trans H1.out.2.2.1) (And.intro ((hB2.block _ (lt_of_heap H1.out.2.2.2.1)).trans H1.out.2.2.2.1) ((hB2.block _ (lt_of_heap H1.out.2.2.2.2)).trans H1.out.2.2.2.2)))))
       have f1 : w2.cell? ⟨w.heap.size, 0, none⟩ = some (.slice AP ps.length cp) := cell_of_row w2 _ 0 _ _ _ H2.out.2.1
       clear hB2))
  have hl34 := hz34.out
  have hl3 := H3.out.1.size
  have hl3b := lt_of_heap H3.out.2.2.2.2
  have HL := Lib.hid (And.intro hl34 (And.intro hl3 hl3b))
  clear hl34 hl3 hl3b
  refine R6.wp_walk (C := St2 w (w.heap.size + 1 + 1) (w.heap.size + 1 + 1 + 1) 119 56 z4 (w4l ps ts gs vary AP cp AT ct AG cg) (pcl pol0) (pcl (fndP ps id)) [(w.heap.size, .cells #[.slice AP ps.length cp, .slice AT ts.length ct] 25), (w.heap.size + 1, .cells #[.slice AG gs.length cg, .int .i64 vary] 28), (w3.heap.size, .cells (pcl (fndP ps id)).toArray 56)] 4 5) 35 (by kernel_rfl) (by kernel_rfl) rfl
    ⟨H4.out.1.drew, H4.out.2.2.2.1, H4.out.2.2.2.2, ⟨H4.out.2.1, H4.out.2.2.1, H4n.out, trivial⟩⟩ ?_
  simp only []
  refine' R6.WalkR.det (fun _ => rfl) (fun D ρ W hK hC => ?_) ?_
  rotate_left
  · exact gives_load_blk 25 (.tmp 3) rfl rfl hC.box.1 [.slice AP ps.length cp, .slice AT ts.length ct] at0 rowSheetP ⟨rfl, hC.move (by decide)⟩
  simp only [Act.put, List.setIfInBounds_toArray, List.set_cons_succ, List.set_cons_zero]
  refine' R6.WalkR.det (fun _ => rfl) (fun D ρ W hK hC => ?_) ?_
  rotate_left
  · exact gives_load_blk 28 (.tmp 4) rfl rfl hC.box.2.1 [.slice AG gs.length cg, .int .i64 vary] at0 rowGradingP ⟨rfl, hC.move (by decide)⟩
  simp only [Act.put, List.setIfInBounds_toArray, List.set_cons_succ, List.set_cons_zero]
  repeat (first
    | (refine' R6.WalkR.det (fun _ => rfl) (fun D ρ W hK hC => ?_) ?_
       rotate_left
       · skip
         have HC := Lib.hid hC
         clear hC hK
         go_simp
         with_reducible exact ⟨rfl, HC.out.move (by decide)⟩
       simp only [Act.put, List.setIfInBounds_toArray, List.set_cons_succ, List.set_cons_zero]))
  refine' R6.WalkR.det (fun _ => rfl) (fun D ρ W hK hC => ?_) ?_
  rotate_left
  · exact gives_load_blk 56 (.tmp 10) rfl rfl hC.box.2.2.1 (pcl (fndP ps id)) at0 rowPole ⟨rfl, hC.move (by decide)⟩
  simp only [Act.put, List.setIfInBounds_toArray, List.set_cons_succ, List.set_cons_zero]
  refine' R6.WalkR.det (c := undef) (fun _ => rfl) (fun D ρ W hK hC => ?_) ?_
  · have h6 := hC.h6
    rw [hK.me, if_neg (by decide)] at h6
    refine gives_store_blk 119 (.tmp 6) (.tmp 33) (cs := w4l ps ts gs vary AP cp AT ct AG cg) rfl rfl rfl h6 (Nat.le_refl _) (w4l_one _ _ _ _ _ _ _ _ _ _) rowSheetW ?_
    intro W' hP hM'
    rw [splice_whole (by rfl)] at hM'
    have hl := HL.out
    exact ⟨rfl, hC.put6 (by decide) (by omega) (by omega) (fun e he => by simp only [List.mem_cons, List.not_mem_nil, or_false] at he; rcases he with rfl | rfl | rfl <;> (dsimp only; omega)) hP hM'⟩
  simp only [Act.put, List.setIfInBounds_toArray, List.set_cons_succ, List.set_cons_zero]
  refine' R6.WalkR.det (c := undef) (fun _ => rfl) (fun D ρ W hK hC => ?_) ?_
  · have h7 := hC.h7
    rw [hK.me, if_neg (by decide)] at h7
    refine gives_store_blk 56 (.tmp 7) (.tmp 34) (cs := pcl (fndP ps id)) rfl rfl rfl h7 (Nat.le_refl _) (fun v hv => pcl_one [fndP ps id] v (by simpa using hv)) rowPole ?_
    intro W' hP hM'
    rw [splice_whole (by rfl)] at hM'
    have hl := HL.out
    exact ⟨rfl, hC.put7 (by decide) (by omega) (by omega) (fun e he => by simp only [List.mem_cons, List.not_mem_nil, or_false] at he; rcases he with rfl | rfl | rfl <;> (dsimp only; omega)) hP hM'⟩
  simp only [Act.put, List.setIfInBounds_toArray, List.set_cons_succ, List.set_cons_zero]
  repeat (first
    | (refine' R6.WalkR.det (fun _ => rfl) (fun D ρ W hK hC => ?_) ?_
       rotate_left
       · skip
         have HC := Lib.hid hC
         clear hC hK
         go_simp
         with_reducible exact ⟨rfl, HC.out.move (by decide)⟩
       simp only [Act.put, List.setIfInBounds_toArray, List.set_cons_succ, List.set_cons_zero]))
  refine R6.WalkR.nil (fun D ρ W9 hD hC => ?_)
  have h6 := hC.h6
  have h7 := hC.h7
  rw [hD 4 (by omega), if_pos rfl] at h6
  rw [hD 5 (by omega), if_pos rfl] at h7
  have H9 := Lib.hid (And.intro hC.bel (And.intro h6 h7))
  clear hC hD h6 h7
  go_wp2
  refine bodyPost_ret (v := .tuple #[.agg (w4l ps ts gs vary AP cp AT ct AG cg).toArray, .agg (pcl (fndP ps id)).toArray, .int .i64 0]) (results_cell2_tmp Tryz.results54 rfl H9.out.2.1 rowSheetW rfl H9.out.2.2 rowPole rfl) rfl ⟨rfl, H9.out.1⟩

end Go.Proofs.YtpnnlmaipcjkmaaGreat
