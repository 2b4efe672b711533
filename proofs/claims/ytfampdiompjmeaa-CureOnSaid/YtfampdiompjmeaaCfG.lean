/-
  The law CureOn.
-/
import Derived.Test.YtfampdiompjmeaaCfC
namespace Go.Proofs.Ytfampdiompjmeaa
open Go.RowKit Go.Shelf

theorem runS_add (W sp : Int) (st : St) (x : Nat) : ∀ y, runS W sp (runS W sp st x) y = runS W sp st (x + y)
  | 0 => rfl
  | y + 1 => by
    show hourS W sp (runS W sp (runS W sp st x) y) = hourS W sp (runS W sp st (x + y))
    rw [runS_add W sp st x y]
theorem small_good {W : Int} {st : St} (h : GoodS W st) {ls : List Sl} (e : rws ls = st.2) : smallL ls := by
  have hn : ls.length = st.2.length := by rw [← e]; simp [rws]
  refine ⟨by have := h.n4; omega, fun s hs => ?_⟩
  have := (h.rows s.zs (by rw [← e]; simp only [rws, List.mem_map]; exact ⟨s, hs, rfl⟩)).l6
  omega

set_option maxRecDepth 100000 in
set_option maxHeartbeats 8000000 in
theorem cureOn_no (t : Bt) (A : Option Addr) (cap : Nat) (l : List Sl) (s a b : Int) (w : World) (hz : Rows w w.heap.size A l) (hll : l.length ≤ 9223372036854775807) (hl : ∀ s ∈ l, s.zs.length ≤ 9223372036854775807) (hno : okBatch t (rws l) = false) :
    Calls Try.prog 8 #[.agg (btcells t (.slice A l.length cap)), .int .u8 s, .int .u8 a, .int .u8 b] w fun e w' => e = .returned (.bool true) ∧ Below w.heap.size w w' := by
  have hrd := fun W (hW : Below w.heap.size w W) => ready4_any t A cap l w.heap.size W hW.size (hz.below hW) hll hl
  rw [hno] at hrd
  have h0 := BoxW.start w (btcells t (.slice A l.length cap))
  have HRD := Lib.hid hrd
  have H0 := Lib.hid h0
  clear hrd hz hll hl hno h0
  unfold btcells at H0 HRD ⊢
  go_enter Try.func8, Try.ntmps8
  go_wp2_with (first
    | (go_at_call 14; refine (alive_any _).mono ?_; rintro e w2 ⟨rfl, hB2⟩
       have h2 := H0.out.next hB2
       have hc2 := fun i => cell_of_row w2 w.heap.size i _ _ _ h2.b0
       have H2 := Lib.hid h2; clear hB2 h2)
    | (go_at_call 36; refine (HRD.out w2 H2.out.bel).mono ?_; rintro e w3 ⟨rfl, hB3⟩; have H3 := Lib.hid (H2.out.next hB3); clear hB3))
  go_ret
  exact ⟨rfl, H3.out.bel⟩

set_option maxRecDepth 100000 in
set_option maxHeartbeats 8000000 in
theorem cureOn_main (t : Bt) (A : Option Addr) (cap : Nat) (l : List Sl) (s a b : Int) (w : World) (hz : Rows w w.heap.size A l) (hok : okBatch t (rws l) = true) (s0 : 0 ≤ s) (s1 : s < 256) (a0 : 0 ≤ a) (a1 : a < 256) (b0 : 0 ≤ b) (b1 : b < 256) :
    Calls Try.prog 8 #[.agg (btcells t (.slice A l.length cap)), .int .u8 s, .int .u8 a, .int .u8 b] w fun e w' => e = .returned (.bool true) ∧ Below w.heap.size w w' := by
  have hsh := okBatch_shortL hok
  obtain ⟨hgd, g1, g2, g3, g4, -⟩ := okBatch_good hok
  have hrd := fun W (hW : Below w.heap.size w W) => ready4_any t A cap l w.heap.size W hW.size (hz.below hW) (by have := hsh.1; omega) (fun x hx => by have := hsh.2 x hx; omega)
  rw [hok] at hrd
  have hpk := pickL_bnd (n := s) g2
  have hpi := fun W => pick_any t.lo t.hi s (by omega) g2 (by omega) s0 (by omega) W
  obtain ⟨x, hx⟩ : ∃ x : Nat, a % 150 = (x : Int) := ⟨(a % 150).toNat, by omega⟩
  obtain ⟨y, hy⟩ : ∃ y : Nat, b % 150 = (y : Int) := ⟨(b % 150).toNat, by omega⟩
  have hx150 : (x : Int) < 150 := by omega
  have hy150 : (y : Int) < 150 := by omega
  have hRx := runIs_of (ws := rws l) (sp := pickL t.lo t.hi s) (n := x) hok hpk.1 hpk.2 (by omega)
  have hRxy := runIs_of (ws := rws l) (sp := pickL t.lo t.hi s) (n := x + y) hok hpk.1 hpk.2 (by omega)
  have hr1 := fun W (hW : Below w.heap.size w W) => run_any t A cap l (pickL t.lo t.hi s) x w.heap.size W hW.size (hz.below hW) hsh
  have hr2 := fun W (hW : Below w.heap.size w W) => run_any t A cap l (pickL t.lo t.hi s) ((x + y : Nat) : Int) w.heap.size W hW.size (hz.below hW) hsh
  obtain ⟨t2, ht2⟩ : ∃ t2 : Bt, t2 = ⟨t.water, (runS t.water (pickL t.lo t.hi s) (t.borax, rws l) x).1, t.lo, t.hi, t.need⟩ := ⟨_, rfl⟩
  have hadd := runS_add t.water (pickL t.lo t.hi s) (t.borax, rws l) x y
  have h3 : okBatch t2 (runS t.water (pickL t.lo t.hi s) (t.borax, rws l) x).2 = true → RunIs t2 (runS t.water (pickL t.lo t.hi s) (t.borax, rws l) x).2 (pickL t.lo t.hi s) y := fun h => runIs_of h (by rw [ht2]; exact hpk.1) (by rw [ht2]; exact hpk.2) (by omega)
  have h3s : (runS t2.water (pickL t.lo t.hi s) (t2.borax, (runS t.water (pickL t.lo t.hi s) (t.borax, rws l) x).2) y) = runS t.water (pickL t.lo t.hi s) (t.borax, rws l) (x + y) := by rw [← hadd, ht2]
  have hE1 := hRx.e
  have hB1 := hRx.b
  have hRR1 := hRx.r
  have hG1 := hRx.good
  have hE2 := hRxy.e
  have hB2 := hRxy.b
  have hRR2 := hRxy.r
  have hG2 := hRxy.good
  unfold RunPost at hr1 hr2
  rw [hE1, hB1, hRR1] at hr1
  rw [hE2, hB2, hRR2] at hr2
  generalize pickL t.lo t.hi s = sp at *
  generalize runS t.water sp (t.borax, rws l) (x + y) = st2 at *
  generalize runS t.water sp (t.borax, rws l) x = st1 at *
  have hx1 : IntKind.u32.wrap s = s := IntWalk.u32_in _ (by omega)
  have hx2 : IntKind.i64.wrap a = a := IntWalk.i64_in _ (by omega)
  have hx3 : IntKind.i64.wrap b = b := IntWalk.i64_in _ (by omega)
  have hx4 : a.tmod 150 = (x : Int) := by rw [Int.tmod_eq_emod_of_nonneg a0, hx]
  have hx5 : b.tmod 150 = (y : Int) := by rw [Int.tmod_eq_emod_of_nonneg b0, hy]
  have hx6 : IntKind.i64.wrap (x : Int) = x := IntWalk.i64_in _ (by omega)
  have hx7 : IntKind.i64.wrap (y : Int) = y := IntWalk.i64_in _ (by omega)
  have hx8 : IntKind.i64.wrap ((x : Int) + (y : Int)) = (x : Int) + (y : Int) := IntWalk.i64_in _ (by omega)
  have hr2' : ∀ W, Below w.heap.size w W → Calls Try.prog 17 #[.agg (btcells t (.slice A l.length cap)), .int .i64 sp, .int .i64 ((x : Int) + (y : Int))] W _ := fun W hW => hr2 W hW
  have hba := fun (A' : Option Addr) (c' : Nat) (ls : List Sl) W (hr : rws ls = st1.2) (hR : Rows W W.heap.size A' ls) => by
    have := refBatch_any t2 A' c' ls W.heap.size W (Nat.le_refl _) hR (fun q hq => by have := (small_good hG1 hr).2 q hq; omega)
    rw [hr] at this
    exact this
  have hr3 := fun (A' : Option Addr) (c' : Nat) (ls : List Sl) W (hr : rws ls = st1.2) (hR : Rows W W.heap.size A' ls) => by
    have := run_any t2 A' c' ls sp y W.heap.size W (Nat.le_refl _) hR (small_short (small_good hG1 hr))
    rw [hr] at this
    exact this
  unfold RunPost at hr3
  have hB1' : t2 = ⟨t.water, st1.1, t.lo, t.hi, t.need⟩ := ht2
  clear hr2 hRx hRxy hE1 hB1 hRR1 hE2 hB2 hRR2 hadd ht2
  have h0 := BoxW.start w (btcells t (.slice A l.length cap))
  cases hnb : okBatch t2 st1.2
  · rw [hnb] at hba
    clear h3s hr3
    have HF := Lib.hid (And.intro hrd (And.intro hpi (And.intro hr1 (And.intro hr2' hba))))
    have HG := Lib.hid (And.intro hG1 hG2)
    have H0 := Lib.hid h0
    subst hB1'
    clear hrd hpi hr1 hr2' hba hz hok hsh hgd g1 g2 g3 g4 hpk hx hy h0 hG1 hG2 hnb h3
    unfold btcells at H0 HF ⊢
    go_enter Try.func8, Try.ntmps8
    go_wp2_with (first
      | (go_at_call 40; refine (HF.out.2.2.2.2 A8 c8 l8 w10 H10.out.2.2.1 H10.out.2.2.2.1.rows).mono ?_; rintro e w11 ⟨rfl, hB11⟩
         have H11 := Lib.hid (And.intro (H10.out.1.trans (hB11.mono H10.out.1.size)) (And.intro ((hB11.block _ (lt_of_heap H10.out.2.2.2.2)).trans H10.out.2.2.2.2) (H10.out.2.2.2.1.grows hB11)))
         have hc11 := fun i => cell_of_row w11 w6.heap.size i _ _ _ H11.out.2.1
         unfold btl at hc11
         clear hB11)
      | (show wpList _ _ _ (Oper.mk none (Op.store _ (Operand.tmp 70) (Operand.tmp 68)) _ _ _ _ :: _) _ _
         refine wpList_store_val 24 (.tmp 70) (.tmp 68) rfl rfl rfl rfl rfl rfl rfl (L := btl ⟨t.water, st1.1, t.lo, t.hi, t.need⟩ (.slice A l.length cap)) H9.out.2.2.2.2 (by simp [btl]) sizeSl1 ?_
         intro w10 hP10 hM10
         have hm10 : w10.heap[w6.heap.size]? = some (.cells (btl ⟨t.water, st1.1, t.lo, t.hi, t.need⟩ (.slice A8 l8.length c8)).toArray 28 (0, 0)) := hM10
         have hc10 := fun i => cell_of_row w10 w6.heap.size i _ _ _ hm10
         unfold btl at hc10
         have H10 := Lib.hid (And.intro (H9.out.1.trans (hP10.below (Nat.le_refl _))) (And.intro trivial (And.intro H9.out.2.2.1 (And.intro (H9.out.2.2.2.1.low hP10 (by have := H7.out.2.2; omega)) hm10))))
         clear hP10 hM10 hm10)
      | (show wpList _ _ _ (Oper.mk none (Op.store _ (Operand.tmp 69) (Operand.tmp 66)) _ _ _ _ :: _) _ _
         refine wpList_store_val 3 (.tmp 69) (.tmp 66) rfl rfl rfl rfl rfl rfl rfl (L := btl t (.slice A l.length cap)) H8.out.2.2.2.2 (by simp [btl]) sizeInt1 ?_
         intro w9 hP9 hM9
         have hm9 : w9.heap[w6.heap.size]? = some (.cells (btl ⟨t.water, st1.1, t.lo, t.hi, t.need⟩ (.slice A l.length cap)).toArray 28 (0, 0)) := hM9
         have H9 := Lib.hid (And.intro (H8.out.1.trans (hP9.below (Nat.le_refl _))) (And.intro trivial (And.intro H8.out.2.2.1 (And.intro (H8.out.2.2.2.1.low hP9 (by have := H7.out.2.2; omega)) hm9))))
         clear hP9 hM9 hm9)
      | (go_at_call 39; refine (twinCells_any A5 c5 l5 w6.heap.size w7 (by have := H7.out.2.2; omega) (H6.out.2.2.2.2.below H7.out.1) (small_good HG.out.1 H5.out.2.1)).mono ?_
         rintro e w8 ⟨A8, c8, l8, rfl, hr8, hO8, hB8⟩
         rw [H5.out.2.1] at hr8
         have H8 := Lib.hid (And.intro (H7.out.1.trans (hB8.mono (by have := H7.out.2.2; omega))) (And.intro trivial (And.intro hr8 (And.intro hO8 ((hB8.block _ (by have := H7.out.2.2; omega)).trans H7.out.2.1)))))
         clear hr8 hO8 hB8)
      | (show wpList _ _ _ (Oper.mk none (Op.store _ (Operand.tmp 19) (Operand.tmp 65)) _ _ _ _ :: _) _ _
         refine wpList_store_blk 28 (.tmp 19) (.tmp 65) (cs := btl t (.slice A l.length cap)) (L := [.int .i64 0, .int .i64 0, .slice none 0 0, .int .i64 0, .int .i64 0, .int .i64 0]) rfl rfl rfl rfl rfl (alloc_at0 _ _) (by simp [btl]) (btl_one _ _ _ _) rowApiBatch ?_
         intro w7 hP7 hM7
         rw [splice_whole (by simp [btl])] at hM7
         have hs7 := hP7.size
         simp only [World.size_alloc] at hs7
         have H7 := Lib.hid (And.intro ((grow1 w6 _).trans (hP7.below (Nat.le_refl _))) (And.intro hM7 (show w7.heap.size = w6.heap.size + 1 from hs7)))
         clear hP7 hM7 hs7 hc6)
      | (go_at_call 17; refine (HF.out.2.2.2.1 w5 H5.out.1.bel).mono ?_; rintro e w6 ⟨A6, c6, l6, rfl, hr6, hO6, hB6⟩
         have h6 := H5.out.1.next hB6
         have hc6 := fun i => cell_of_row w6 w.heap.size i _ _ _ h6.b0
         have H6 := Lib.hid (And.intro h6 (And.intro hr6 (And.intro hO6.rows (And.intro h6.bel (H5.out.2.2.grows hB6).rows))))
         clear hr6 hO6 hB6 h6 hc5)
      | (go_at_call 17; refine (HF.out.2.2.1 w4 H4.out.bel).mono ?_; rintro e w5 ⟨A5, c5, l5, rfl, hr5, hO5, hB5⟩
         have h5 := H4.out.next hB5
         have hc5 := fun i => cell_of_row w5 w.heap.size i _ _ _ h5.b0
         have H5 := Lib.hid (And.intro h5 (And.intro hr5 hO5))
         clear hr5 hO5 hB5 h5 hc4)
      | (go_at_call 37; refine (HF.out.2.1 w3).mono ?_; rintro e w4 ⟨rfl, hB4⟩
         have h4 := H3.out.next hB4
         have hc4 := fun i => cell_of_row w4 w.heap.size i _ _ _ h4.b0
         have H4 := Lib.hid h4; clear hB4 h4 hc3)
      | (go_at_call 36; refine (HF.out.1 w2 H2.out.bel).mono ?_; rintro e w3 ⟨rfl, hB3⟩
         have h3 := H2.out.next hB3
         have hc3 := fun i => cell_of_row w3 w.heap.size i _ _ _ h3.b0
         have H3 := Lib.hid h3; clear hB3 h3 hc2)
      | (go_at_call 14; refine (alive_any _).mono ?_; rintro e w2 ⟨rfl, hB2⟩
         have h2 := H0.out.next hB2
         have hc2 := fun i => cell_of_row w2 w.heap.size i _ _ _ h2.b0
         have H2 := Lib.hid h2; clear hB2 h2))
    go_ret
    exact ⟨rfl, H6.out.2.2.2.1.trans (H11.out.1.mono H6.out.2.2.2.1.size)⟩
  · have hI3 := h3 hnb
    have e1 := hI3.e
    have e2 := hI3.b
    have e3 := hI3.r
    rw [h3s] at e2 e3
    rw [e1, e2, e3] at hr3
    rw [hnb] at hba
    rw [hB1'] at hr3
    have HR3 := Lib.hid hr3
    clear h3s hr3 hI3 e1 e2 e3
    have HF := Lib.hid (And.intro hrd (And.intro hpi (And.intro hr1 (And.intro hr2' hba))))
    have HG := Lib.hid (And.intro hG1 hG2)
    have H0 := Lib.hid h0
    subst hB1'
    clear hrd hpi hr1 hr2' hba hz hok hsh hgd g1 g2 g3 g4 hpk hx hy h0 hG1 hG2 hnb h3
    unfold btcells at H0 HF HR3 ⊢
    go_enter Try.func8, Try.ntmps8
    go_wp2_with (first
      | (go_at_call 28; refine (sameCells_any A12 A6 c12 c6 l12 l6 _ w12 (Nat.le_refl _) H12.out.2.2.rows ((H6.out.2.2.1.below H12.out.1).mono H12.out.1.size) (H12.out.2.1.trans H6.out.2.1.symm) (small_good HG.out.2 H12.out.2.1)).mono ?_; rintro e w13 ⟨rfl, hB13⟩
         have H13 := Lib.hid (H12.out.1.trans (hB13.mono H12.out.1.size)); clear hB13)
      | (go_at_call 17; refine (HR3.out A8 c8 l8 w11 H10.out.2.2.1 H11.out.2.2.rows).mono ?_; rintro e w12 ⟨A12, c12, l12, rfl, hr12, hO12, hB12⟩
         have H12 := Lib.hid (And.intro (H11.out.1.trans (hB12.mono H11.out.1.size)) (And.intro hr12 hO12))
         clear hr12 hO12 hB12 hc11)
      | (go_at_call 40; refine (HF.out.2.2.2.2 A8 c8 l8 w10 H10.out.2.2.1 H10.out.2.2.2.1.rows).mono ?_; rintro e w11 ⟨rfl, hB11⟩
         have H11 := Lib.hid (And.intro (H10.out.1.trans (hB11.mono H10.out.1.size)) (And.intro ((hB11.block _ (lt_of_heap H10.out.2.2.2.2)).trans H10.out.2.2.2.2) (H10.out.2.2.2.1.grows hB11)))
         have hc11 := fun i => cell_of_row w11 w6.heap.size i _ _ _ H11.out.2.1
         unfold btl at hc11
         clear hB11)
      | (show wpList _ _ _ (Oper.mk none (Op.store _ (Operand.tmp 70) (Operand.tmp 68)) _ _ _ _ :: _) _ _
         refine wpList_store_val 24 (.tmp 70) (.tmp 68) rfl rfl rfl rfl rfl rfl rfl (L := btl ⟨t.water, st1.1, t.lo, t.hi, t.need⟩ (.slice A l.length cap)) H9.out.2.2.2.2 (by simp [btl]) sizeSl1 ?_
         intro w10 hP10 hM10
         have hm10 : w10.heap[w6.heap.size]? = some (.cells (btl ⟨t.water, st1.1, t.lo, t.hi, t.need⟩ (.slice A8 l8.length c8)).toArray 28 (0, 0)) := hM10
         have hc10 := fun i => cell_of_row w10 w6.heap.size i _ _ _ hm10
         unfold btl at hc10
         have H10 := Lib.hid (And.intro (H9.out.1.trans (hP10.below (Nat.le_refl _))) (And.intro trivial (And.intro H9.out.2.2.1 (And.intro (H9.out.2.2.2.1.low hP10 (by have := H7.out.2.2; omega)) hm10))))
         clear hP10 hM10 hm10)
      | (show wpList _ _ _ (Oper.mk none (Op.store _ (Operand.tmp 69) (Operand.tmp 66)) _ _ _ _ :: _) _ _
         refine wpList_store_val 3 (.tmp 69) (.tmp 66) rfl rfl rfl rfl rfl rfl rfl (L := btl t (.slice A l.length cap)) H8.out.2.2.2.2 (by simp [btl]) sizeInt1 ?_
         intro w9 hP9 hM9
         have hm9 : w9.heap[w6.heap.size]? = some (.cells (btl ⟨t.water, st1.1, t.lo, t.hi, t.need⟩ (.slice A l.length cap)).toArray 28 (0, 0)) := hM9
         have H9 := Lib.hid (And.intro (H8.out.1.trans (hP9.below (Nat.le_refl _))) (And.intro trivial (And.intro H8.out.2.2.1 (And.intro (H8.out.2.2.2.1.low hP9 (by have := H7.out.2.2; omega)) hm9))))
         clear hP9 hM9 hm9)
      | (go_at_call 39; refine (twinCells_any A5 c5 l5 w6.heap.size w7 (by have := H7.out.2.2; omega) (H6.out.2.2.2.2.below H7.out.1) (small_good HG.out.1 H5.out.2.1)).mono ?_
         rintro e w8 ⟨A8, c8, l8, rfl, hr8, hO8, hB8⟩
         rw [H5.out.2.1] at hr8
         have H8 := Lib.hid (And.intro (H7.out.1.trans (hB8.mono (by have := H7.out.2.2; omega))) (And.intro trivial (And.intro hr8 (And.intro hO8 ((hB8.block _ (by have := H7.out.2.2; omega)).trans H7.out.2.1)))))
         clear hr8 hO8 hB8)
      | (show wpList _ _ _ (Oper.mk none (Op.store _ (Operand.tmp 19) (Operand.tmp 65)) _ _ _ _ :: _) _ _
         refine wpList_store_blk 28 (.tmp 19) (.tmp 65) (cs := btl t (.slice A l.length cap)) (L := [.int .i64 0, .int .i64 0, .slice none 0 0, .int .i64 0, .int .i64 0, .int .i64 0]) rfl rfl rfl rfl rfl (alloc_at0 _ _) (by simp [btl]) (btl_one _ _ _ _) rowApiBatch ?_
         intro w7 hP7 hM7
         rw [splice_whole (by simp [btl])] at hM7
         have hs7 := hP7.size
         simp only [World.size_alloc] at hs7
         have H7 := Lib.hid (And.intro ((grow1 w6 _).trans (hP7.below (Nat.le_refl _))) (And.intro hM7 (show w7.heap.size = w6.heap.size + 1 from hs7)))
         clear hP7 hM7 hs7 hc6)
      | (go_at_call 17; refine (HF.out.2.2.2.1 w5 H5.out.1.bel).mono ?_; rintro e w6 ⟨A6, c6, l6, rfl, hr6, hO6, hB6⟩
         have h6 := H5.out.1.next hB6
         have hc6 := fun i => cell_of_row w6 w.heap.size i _ _ _ h6.b0
         have H6 := Lib.hid (And.intro h6 (And.intro hr6 (And.intro hO6.rows (And.intro h6.bel (H5.out.2.2.grows hB6).rows))))
         clear hr6 hO6 hB6 h6 hc5)
      | (go_at_call 17; refine (HF.out.2.2.1 w4 H4.out.bel).mono ?_; rintro e w5 ⟨A5, c5, l5, rfl, hr5, hO5, hB5⟩
         have h5 := H4.out.next hB5
         have hc5 := fun i => cell_of_row w5 w.heap.size i _ _ _ h5.b0
         have H5 := Lib.hid (And.intro h5 (And.intro hr5 hO5))
         clear hr5 hO5 hB5 h5 hc4)
      | (go_at_call 37; refine (HF.out.2.1 w3).mono ?_; rintro e w4 ⟨rfl, hB4⟩
         have h4 := H3.out.next hB4
         have hc4 := fun i => cell_of_row w4 w.heap.size i _ _ _ h4.b0
         have H4 := Lib.hid h4; clear hB4 h4 hc3)
      | (go_at_call 36; refine (HF.out.1 w2 H2.out.bel).mono ?_; rintro e w3 ⟨rfl, hB3⟩
         have h3 := H2.out.next hB3
         have hc3 := fun i => cell_of_row w3 w.heap.size i _ _ _ h3.b0
         have H3 := Lib.hid h3; clear hB3 h3 hc2)
      | (go_at_call 14; refine (alive_any _).mono ?_; rintro e w2 ⟨rfl, hB2⟩
         have h2 := H0.out.next hB2
         have hc2 := fun i => cell_of_row w2 w.heap.size i _ _ _ h2.b0
         have H2 := Lib.hid h2; clear hB2 h2))
    go_ret
    exact ⟨rfl, H6.out.2.2.2.1.trans (H13.out.mono H6.out.2.2.2.1.size)⟩

theorem cureOn_law (t : Bt) (A : Option Addr) (cap : Nat) (l : List Sl) (s a b : Int) (w : World) (hz : Rows w w.heap.size A l) (hll : l.length ≤ 9223372036854775807) (hl : ∀ s ∈ l, s.zs.length ≤ 9223372036854775807) (s0 : 0 ≤ s) (s1 : s < 256) (a0 : 0 ≤ a) (a1 : a < 256) (b0 : 0 ≤ b) (b1 : b < 256) :
    Calls Try.prog 8 #[.agg (btcells t (.slice A l.length cap)), .int .u8 s, .int .u8 a, .int .u8 b] w fun e w' => e = .returned (.bool true) ∧ Below w.heap.size w w' := by
  cases hb : okBatch t (rws l) with
  | false => exact cureOn_no t A cap l s a b w hz hll hl hb
  | true => exact cureOn_main t A cap l s a b w hz hb s0 s1 a0 a1 b0 b1

end Go.Proofs.Ytfampdiompjmeaa
