/-
  The law CureExamples.
-/
import Derived.Test.YtfampdiompjmeaaCeY
import Derived.Test.YtfampdiompjmeaaCeQ
namespace Go.Proofs.Ytfampdiompjmeaa
open Go.RowKit Go.Shelf

/-- The batch of the examples with little borax in it. -/
def btW : Bt := ⟨10, 10, 200, 200, 20⟩
theorem weak_core (k : Nat) : hitB 10 200 20 (10, [[0, 0]]) 0 k = false := by
  have hg : GoodS 10 ((10, [[0, 0]]) : St) := (okBatch_good (t := btW) (ws := [[0, 0]]) (by decide +kernel)).1
  have h1 := runS_good (W := 10) (sp := 200) (by decide) (by decide) hg k
  have h2 := mass_run 10 200 ((10, [[0, 0]]) : St) k
  have h3 := lens_run 10 200 ((10, [[0, 0]]) : St) k
  unfold hitB coreOf
  generalize runS 10 200 ((10, [[0, 0]]) : St) k = st at h1 h2 h3
  obtain ⟨b, ws⟩ := st
  match ws, h3 with
  | [[x, y]], _ =>
    have hr := h1.rows [x, y] (by simp)
    have hx := hr.b0 0
    have hy := hr.b0 1
    have hb := h1.b0
    simp [atR, massL, rowAt] at hx hy h2 hb ⊢
    omega
theorem weak_none : whenS btW [[0, 0]] 200 0 = none := firstB_none.2 fun j _ => weak_core j
theorem ex_weak : readyE btW [[0, 0]] = 6 ∧ readyV btW [[0, 0]] = 0 := by
  have h0 : allS btW [[0, 0]] 200 = false := by
    cases e : allS btW [[0, 0]] 200 with
    | false => rfl
    | true =>
      have := allS_iff.1 e 0 (by decide)
      rw [weak_none] at this
      cases this
  have h1 : allN btW [[0, 0]] (spN btW) = false := allN_false (k := 0) (by rw [show btW.lo + ((0 : Nat) : Int) = 200 from rfl]; exact h0) (by decide)
  have h2 : okBatch btW [[0, 0]] = true := by decide +kernel
  have hE : readyE btW [[0, 0]] = 6 := by simp [readyE, h1, h2]
  exact ⟨hE, by simp [readyV, hE]⟩

theorem ex_run0 : runE (bt0 200 200) [[0, 0]] 200 0 = 0 ∧ runB (bt0 200 200) [[0, 0]] 200 0 = 1000 ∧ runR (bt0 200 200) [[0, 0]] 200 0 = [[0, 0]] := by decide +kernel
theorem ex_run1 : runE (bt0 200 200) [[0, 0]] 200 1 = 0 ∧ runB (bt0 200 200) [[0, 0]] 200 1 = 980 ∧ runR (bt0 200 200) [[0, 0]] 200 1 = [[20, 0]] := by decide +kernel
theorem ex_run3 : runE (bt0 200 200) [[0, 0]] 200 3 = 0 ∧ runB (bt0 200 200) [[0, 0]] 200 3 = 952 ∧ runR (bt0 200 200) [[0, 0]] 200 3 = [[39, 9]] := by decide +kernel
theorem ex_run4 : runE (bt0 200 200) [[0, 0]] 200 4 = 0 ∧ runB (bt0 200 200) [[0, 0]] 200 4 = 941 ∧ runR (bt0 200 200) [[0, 0]] 200 4 = [[44, 15]] := by decide +kernel
theorem ex_runbad : runE (bt0 200 210) [[0, 0]] 211 5 = 2 ∧ runB (bt0 200 210) [[0, 0]] 211 5 = 0 ∧ runR (bt0 200 210) [[0, 0]] 211 5 = [] := by decide +kernel
theorem ex_trebad : treatE (bt0 200 210) [[0, 0]] 301 = 2 ∧ treatL (bt0 200 210) [[0, 0]] 301 = [] := by decide +kernel
theorem ex_dry41 : dryV ⟨800, 700, 0, 0, 0⟩ = 0 ∧ dryE ⟨800, 700, 0, 0, 0⟩ = 41 := by decide +kernel
theorem ex_dry6 : dryV ⟨9, 9, 0, 0, 8⟩ = 0 ∧ dryE ⟨9, 9, 0, 0, 8⟩ = 6 := by decide +kernel
theorem ex_levbad : levsV ⟨0, 0, 0⟩ [-1] = [] ∧ levsF ⟨0, 0, 0⟩ [-1] = 0 ∧ levsE ⟨0, 0, 0⟩ [-1] = 42 := by decide +kernel
theorem ex_wrong : checkE (bt0 200 200) [] = 40 := by decide +kernel

set_option maxRecDepth 100000 in
set_option maxHeartbeats 8000000 in
theorem cureExamples_law (w : World) : Calls Try.prog 3 #[] w fun e w' => e = .returned (.bool true) ∧ Below w.heap.size w w' := by
  have hrn : ∀ a b W (_ : Rows W W.heap.size (some ⟨b, 0, none⟩) (sl0 a)), Calls Try.prog 17 #[.agg #[.int .i64 10, .int .i64 1000, .slice (some ⟨b, 0, none⟩) 1 1, .int .i64 200, .int .i64 210, .int .i64 20], .int .i64 211, .int .i64 5] W fun e w' => ∃ A c n, e = .returned (.tuple #[.int .i64 0, .slice A n c, .int .i64 2]) ∧ Below W.heap.size W w' := fun a b W hz => by
    have := run_any (bt0 200 210) (some ⟨b, 0, none⟩) 1 (sl0 a) 211 5 W.heap.size W (Nat.le_refl _) hz (short0 a)
    unfold RunPost at this
    rw [show rws (sl0 a) = [[0, 0]] from rfl, ex_runbad.1, ex_runbad.2.1] at this
    exact this.mono fun e w' ⟨A, c, ls, h1, _, _, h4⟩ => ⟨A, c, ls.length, h1, h4⟩
  have htr : ∀ a b W (_ : Rows W W.heap.size (some ⟨b, 0, none⟩) (sl0 a)), Calls Try.prog 18 #[.agg #[.int .i64 10, .int .i64 1000, .slice (some ⟨b, 0, none⟩) 1 1, .int .i64 200, .int .i64 210, .int .i64 20], .int .i64 301] W fun e w' => ∃ A c, e = .returned (.tuple #[.slice A 0 c, .int .i64 2]) ∧ Below W.heap.size W w' := fun a b W hz => by
    have := cureTreated_any (bt0 200 210) (some ⟨b, 0, none⟩) 1 (sl0 a) 301 W.heap.size W (Nat.le_refl _) hz (short0 a)
    unfold TrePost at this
    rw [show rws (sl0 a) = [[0, 0]] from rfl, ex_trebad.1, ex_trebad.2] at this
    exact this.mono fun e w' ⟨A, c, h1, _, h3⟩ => ⟨A, c, h1, h3⟩
  have hrd : ∀ a b W (_ : Rows W W.heap.size (some ⟨b, 0, none⟩) (sl0 a)), Calls Try.prog 19 #[.agg #[.int .i64 10, .int .i64 10, .slice (some ⟨b, 0, none⟩) 1 1, .int .i64 200, .int .i64 200, .int .i64 20]] W fun e w' => e = .returned (.tuple #[.int .i64 0, .int .i64 6]) ∧ Below W.heap.size W w' := fun a b W hz => by
    have := cureReady_any btW (some ⟨b, 0, none⟩) 1 (sl0 a) W.heap.size W (Nat.le_refl _) hz (short0 a)
    unfold RedPost at this
    rw [show rws (sl0 a) = [[0, 0]] from rfl, ex_weak.1, ex_weak.2] at this
    exact this
  have hd1 : ∀ W, Calls Try.prog 20 #[.agg #[.int .i64 800, .int .i64 700, .int .i64 0, .int .i64 0, .int .i64 0]] W fun e w' => e = .returned (.tuple #[.int .i64 0, .int .i64 41]) ∧ Below W.heap.size W w' := fun W => by
    have := dry_any ⟨800, 700, 0, 0, 0⟩ W
    rw [ex_dry41.1, ex_dry41.2] at this
    exact this
  have hd2 : ∀ W, Calls Try.prog 20 #[.agg #[.int .i64 9, .int .i64 9, .int .i64 0, .int .i64 0, .int .i64 8]] W fun e w' => e = .returned (.tuple #[.int .i64 0, .int .i64 6]) ∧ Below W.heap.size W w' := fun W => by
    have := dry_any ⟨9, 9, 0, 0, 8⟩ W
    rw [ex_dry6.1, ex_dry6.2] at this
    exact this
  have hlv : ∀ g W, Ints W W.heap.size (some ⟨g, 0, none⟩) [-1] → Calls Try.prog 22 #[.agg #[.int .i64 0, .int .i64 0, .int .i64 0], .slice (some ⟨g, 0, none⟩) 1 1] W fun e w' =>
      ∃ A c, e = .returned (.tuple #[.slice A 0 c, .int .i64 0, .int .i64 42]) ∧ Below W.heap.size W w' := fun g W hI => by
    have := levels_any ⟨0, 0, 0⟩ [-1] (some ⟨g, 0, none⟩) 1 W.heap.size W (Nat.le_refl _) hI (by decide)
    unfold LevsPost at this
    rw [ex_levbad.1, ex_levbad.2.1, ex_levbad.2.2] at this
    exact this.mono fun e w' ⟨A, c, h1, _, h3⟩ => ⟨A, c, h1, h3⟩
  have hck : ∀ W, Calls Try.prog 23 #[.agg #[.int .i64 10, .int .i64 1000, .slice none 0 0, .int .i64 200, .int .i64 200, .int .i64 20]] W fun e w' => e = .returned (.int .i64 40) ∧ Below W.heap.size W w' := fun W => by
    have := check_any (bt0 200 200) none 0 [] W.heap.size W (Nat.le_refl _) ⟨fun h => by simp [slvs] at h, fun s hs => by cases hs⟩ ⟨by simp, fun s hs => by cases hs⟩
    rw [show rws ([] : List Sl) = [] from rfl, ex_wrong] at this
    exact this
  have HC := Lib.hid (And.intro hrn (And.intro htr (And.intro hrd (And.intro hd1 (And.intro hd2 (And.intro hlv hck))))))
  clear hrn htr hrd hd1 hd2 hlv hck
  go_enter Try.func3, Try.ntmps3
  go_wp2_with (first
    | (go_at_call 23; refine (HC.out.2.2.2.2.2.2 w22).mono ?_; rintro e w23 ⟨rfl, hB23⟩; have G23 := Lib.hid (G22.out.trans (hB23.mono G22.out.size)); clear hB23)
    | (go_at_call 22; refine (HC.out.2.2.2.2.2.1 w21.heap.size (w21.alloc (.cells #[.int .i64 (-1)] 3)) (vals_in (L := ints [-1]) (alloc_at0 w21 _) (lt_of_heap (alloc_at0 w21 _)) at0).ints).mono ?_; rintro e w22 ⟨L22, c22, rfl, hB22⟩
       have G22 := Lib.hid (G21.out.trans (((grow1 w21 _).trans (hB22.mono (by simp))).mono G21.out.size))
       have hc22 := fun i => cell_of_row w22 wB.heap.size i _ _ _ ((G22.out.block _ (lt_of_heap W4.out.2.1)).trans W4.out.2.1)
       unfold btl bt0 at hc22
       clear hB22)
    | (go_at_call 20; refine (HC.out.2.2.2.2.1 w20).mono ?_; rintro e w21 ⟨rfl, hB21⟩; have G21 := Lib.hid (G20.out.trans (hB21.mono G20.out.size)); clear hB21)
    | (go_at_call 21; refine (span4_any _ _ w19).mono ?_; rintro e w20 ⟨rfl, hB20⟩; have G20 := Lib.hid (G19.out.trans (hB20.mono G19.out.size)); clear hB20)
    | (go_at_call 20; refine (HC.out.2.2.2.1 w18).mono ?_; rintro e w19 ⟨rfl, hB19⟩; have G19 := Lib.hid (G18.out.trans (hB19.mono G18.out.size)); clear hB19)
    | (go_at_call 21; refine (span4_any _ _ w17).mono ?_; rintro e w18 ⟨rfl, hB18⟩; have G18 := Lib.hid (G17.out.trans (hB18.mono G17.out.size)); clear hB18)
    | (go_at_call 19; refine (HC.out.2.2.1 aB bB w16 ((W4.out.2.2.2.below G16.out).mono G16.out.size)).mono ?_; rintro e w17 ⟨rfl, hB17⟩; have G17 := Lib.hid (G16.out.trans (hB17.mono G16.out.size)); clear hB17 hc16)
    | (go_at_call 18; refine (HC.out.2.1 a15 b15 w15 R15.out).mono ?_; rintro e w16 ⟨L16, c16, rfl, hB16⟩
       have G16 := Lib.hid (G15.out.trans (hB16.mono G15.out.size))
       have hc16 := fun i => cell_of_row w16 (wB.heap.size + 1) i _ _ _ ((G16.out.block _ (lt_of_heap W4.out.2.2.1)).trans W4.out.2.2.1)
       unfold btl btW at hc16
       clear hB16)
    | (go_at_call 16; refine (batch0_any _ _ w14).mono ?_; rintro e w15 ⟨a15, b15, rfl, hR15, hB15⟩; unfold btcells bt0; have G15 := Lib.hid (G14.out.trans (hB15.mono G14.out.size)); have R15 := Lib.hid hR15; clear hB15 hR15)
    | (go_at_call 17; refine (HC.out.1 a13 b13 w13 R13.out).mono ?_; rintro e w14 ⟨L14, c14, n14, rfl, hB14⟩; have G14 := Lib.hid (G13.out.trans (hB14.mono G13.out.size)); clear hB14)
    | (go_at_call 16; refine (batch0_any _ _ w12).mono ?_; rintro e w13 ⟨a13, b13, rfl, hR13, hB13⟩; unfold btcells bt0; have G13 := Lib.hid hB13; have R13 := Lib.hid hR13; clear hB13 hR13)
    | (show wpList _ _ _ (Oper.mk none (Op.store _ (Operand.tmp 40) _) _ _ _ _ :: _) _ _
       refine wpList_store_val 3 (.tmp 40) (.const (.int .i64 10)) rfl rfl rfl rfl rfl rfl rfl (L := btl (bt0 200 200) (.slice (some ⟨bB, 0, none⟩) 1 1)) W3.out.2.2.1 (by simp [btl]) sizeInt1 ?_
       intro w12 hP12 hM12
       have hm12 : w12.heap[wB.heap.size + 1]? = some (.cells (btl btW (.slice (some ⟨bB, 0, none⟩) 1 1)).toArray 28 (0, 0)) := hM12
       have hr12 : Rows w12 w12.heap.size (some ⟨bB, 0, none⟩) (sl0 aB) := (W3.out.2.2.2.1.below (hP12.below (by omega))).mono (by rw [hP12.size]; exact W3.out.2.2.2.2)
       have W4 := Lib.hid (And.intro (W3.out.1.trans (hP12.below (B := w.heap.size) (by have := AB.out.1.size; omega))) (And.intro ((hP12.other _ (by omega)).trans W3.out.2.1) (And.intro hm12 hr12)))
       clear hP12 hM12 hm12 hr12)
    | (show wpList _ _ _ (Oper.mk none (Op.store _ (Operand.tmp 39) _) _ _ _ _ :: _) _ _
       refine wpList_store_val 24 (.tmp 39) (.const (.slice none 0 0)) rfl rfl rfl rfl rfl rfl rfl (L := btl (bt0 200 200) (.slice (some ⟨bA, 0, none⟩) 1 1)) W2.out.2.1 (by simp [btl]) sizeSl1 ?_
       intro w11 hP11 hM11
       have hm11 : w11.heap[wB.heap.size]? = some (.cells (btl (bt0 200 200) (.slice none 0 0)).toArray 28 (0, 0)) := hM11
       have W3 := Lib.hid (And.intro (W2.out.1.trans (hP11.below (B := w.heap.size) (by have := AB.out.1.size; omega))) (And.intro hm11 (And.intro ((hP11.other _ (by omega)).trans W2.out.2.2.1) (And.intro (W2.out.2.2.2.1.below (hP11.below (Nat.le_refl _))) (show wB.heap.size ≤ w11.heap.size by rw [hP11.size]; exact W2.out.2.2.2.2)))))
       clear hP11 hM11 hm11)
    | (show wpList _ _ _ (Oper.mk none (Op.store _ (Operand.tmp 2) (Operand.tmp 38)) _ _ _ _ :: _) _ _
       refine wpList_store_blk 28 (.tmp 2) (.tmp 38) (cs := btl (bt0 200 200) (.slice (some ⟨bB, 0, none⟩) 1 1)) (L := [.int .i64 0, .int .i64 0, .slice none 0 0, .int .i64 0, .int .i64 0, .int .i64 0]) rfl rfl rfl rfl rfl W1.out.2.2.1 (by simp [btl]) (btl_one _ _ _ _) rowApiBatch ?_
       intro w10 hP10 hM10
       rw [splice_whole (by simp [btl])] at hM10
       have W2 := Lib.hid (And.intro (W1.out.1.trans (hP10.below (B := w.heap.size) (by have := AB.out.1.size; omega))) (And.intro ((hP10.other _ (by omega)).trans W1.out.2.1) (And.intro hM10 (And.intro (W1.out.2.2.2.1.below (hP10.below (by omega))) (show wB.heap.size ≤ w10.heap.size by rw [hP10.size]; exact W1.out.2.2.2.2)))))
       clear hP10 hM10)
    | (show wpList _ _ _ (Oper.mk none (Op.store _ (Operand.tmp 1) (Operand.tmp 37)) _ _ _ _ :: _) _ _
       refine wpList_store_blk 28 (.tmp 1) (.tmp 37) (cs := btl (bt0 200 200) (.slice (some ⟨bA, 0, none⟩) 1 1)) (L := [.int .i64 0, .int .i64 0, .slice none 0 0, .int .i64 0, .int .i64 0, .int .i64 0]) rfl rfl rfl rfl rfl (alloc2_at0 wB _ _) (by simp [btl]) (btl_one _ _ _ _) rowApiBatch ?_
       intro w9 hP9 hM9
       rw [splice_whole (by simp [btl])] at hM9
       have hs9 := hP9.size
       simp only [World.size_alloc] at hs9
       have W1 := Lib.hid (And.intro (AB.out.1.trans (((grow2 wB _ _).trans (hP9.below (Nat.le_refl _))).mono AB.out.1.size)) (And.intro hM9 (And.intro ((hP9.other _ (by omega)).trans (alloc2_at1 wB _ _)) (And.intro (AB.out.2.below ((grow2 wB _ _).trans (hP9.below (Nat.le_refl _)))) (show wB.heap.size ≤ w9.heap.size by omega)))))
       clear hP9 hM9 hs9)
    | (go_at_call 16; refine (batch0_any _ _ wA).mono ?_; rintro e wB ⟨aB, bB, rfl, hRB, hBB⟩; unfold btcells bt0; have AB := Lib.hid (And.intro (AA.out.trans (hBB.mono AA.out.size)) hRB); clear hBB hRB)
    | (go_at_call 16; refine (batch0_any _ _ w5).mono ?_; rintro e wA ⟨aA, bA, rfl, hRA, hBA⟩; unfold btcells bt0; have AA := Lib.hid (A5.out.trans (hBA.mono A5.out.size)); clear hBA hRA)
    | (go_at_call 15; refine (holds_any 4 941 44 15 ex_run4.1 ex_run4.2.1 ex_run4.2.2 w4).mono ?_; rintro e w5 ⟨rfl, hB5⟩; have A5 := Lib.hid (A4.out.trans (hB5.mono A4.out.size)); clear hB5)
    | (go_at_call 15; refine (holds_any 3 952 39 9 ex_run3.1 ex_run3.2.1 ex_run3.2.2 w3).mono ?_; rintro e w4 ⟨rfl, hB4⟩; have A4 := Lib.hid (A3.out.trans (hB4.mono A3.out.size)); clear hB4)
    | (go_at_call 15; refine (holds_any 1 980 20 0 ex_run1.1 ex_run1.2.1 ex_run1.2.2 w2).mono ?_; rintro e w3 ⟨rfl, hB3⟩; have A3 := Lib.hid (A2.out.trans (hB3.mono A2.out.size)); clear hB3)
    | (go_at_call 15; refine (holds_any 0 1000 0 0 ex_run0.1 ex_run0.2.1 ex_run0.2.2 w1).mono ?_; rintro e w2 ⟨rfl, hB2⟩; have A2 := Lib.hid (A1.out.trans (hB2.mono A1.out.size)); clear hB2)
    | (go_at_call 14; refine (alive_any w).mono ?_; rintro e w1 ⟨rfl, hB1⟩; have A1 := Lib.hid hB1; clear hB1))
  go_ret
  exact ⟨rfl, W4.out.1.trans (G23.out.mono W4.out.1.size)⟩

end Go.Proofs.Ytfampdiompjmeaa
