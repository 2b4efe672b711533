/-
  Which poles are fit by the books of vats (the program's Fit).
-/
import Derived.Test.YtddpebnmjfmgdaaGreatQE51
import Derived.Test.YtddpebnmjfmgdaaGreatQE46
set_option linter.all false
namespace Go.Proofs.YtddpebnmjfmgdaaGreat
open Go.RowKit

def sFit (gs : List Gd) (vary : Int) (ps : List Pol) (ts : List Ts) (l : List Sk) : List Int × Int := if gChk gs vary ps ts = 0 then (if okSks l = true then (fitL l ps, 0) else ([], 54)) else ([], gChk gs vary ps ts)
theorem okPol_sk {p : Pol} (h : okPol p = true) : (0 ≤ p.soak ∧ p.soak ≤ 5) ∧ (0 ≤ p.place ∧ p.place ≤ 3) := by
  simp only [okPol, Bool.and_eq_true, inR_iff, decide_eq_true_eq] at h
  obtain ⟨_, _, _, _, h1, h2⟩ := h
  exact ⟨h1, h2⟩

set_option maxRecDepth 100000 in
set_option maxHeartbeats 4000000 in
theorem ftFit_any (ps : List Pol) (ts : List Ts) (gs : List Gd) (vary : Int) (l : List Sk) (AP : Option Addr) (cp : Nat) (AT : Option Addr) (ct : Nat) (AG : Option Addr) (cg : Nat) (AL : Option Addr) (cl : Nat) (B : Nat) (w : World) (hB : B ≤ w.heap.size) (hz : ShAt w B ps ts AP AT) (hg : GdAt w B gs AG) (hv : SksAt w B l AL) (hl : l.length ≤ 1000000) :
    Calls Tryz.prog 16 #[.agg #[.slice AP ps.length cp, .slice AT ts.length ct], .agg #[.slice AG gs.length cg, .int .i64 vary], .slice AL l.length cl] w (KnownPost w (sFit gs vary ps ts l)) := by
  have hchk := fun (W : World) (hW : Below w.heap.size w W) => grCheck_any ps ts gs vary AP cp AT ct AG cg B W (Nat.le_trans hB hW.size) (hz.below (hW.mono hB)) (hg.below (hW.mono hB))
  unfold shl gdl at hchk
  have hvg := fun (W : World) (hW : Below w.heap.size w W) => ftValidSoaks_any l AL cl B W (Nat.le_trans hB hW.size) (hv.below (hW.mono hB)) hl
  obtain ⟨w1, hw1⟩ : ∃ w1, (w.alloc (.cells #[.slice AP ps.length cp, .slice AT ts.length ct] 25)).alloc (.cells #[.slice AG gs.length cg, .int .i64 vary] 28) = w1 := ⟨_, rfl⟩
  have hb1 : Below w.heap.size w w1 := by rw [← hw1]; exact grow2 _ _ _
  have m1 : w1.heap[w.heap.size]? = some (.cells [.slice AP ps.length cp, .slice AT ts.length ct].toArray 25 (0, 0)) := by rw [← hw1]; exact alloc2_at0 _ _ _
  have m2 : w1.heap[w.heap.size + 1]? = some (.cells [.slice AG gs.length cg, .int .i64 vary].toArray 28 (0, 0)) := by rw [← hw1]; exact alloc2_at1 _ _ _
  have H1 := Lib.hid (And.intro hb1 (And.intro m1 m2))
  clear hb1 m1 m2
  unfold sFit
  by_cases hck : gChk gs vary ps ts = 0
  rotate_left
  · rw [if_neg hck]
    generalize gChk gs vary ps ts = ck at hchk hck ⊢
    have HC1 := Lib.hid hchk
    have hce : (ck == 0) = false := by simpa using hck
    have hcn : (ck != 0) = true := by simpa using hck
    clear hchk hz hg hv hvg hck
    go_enter Tryz.func16, Tryz.ntmps16
    go_wp2_with (first
      | (go_at_call 28
         refine (HC1.out w1 H1.out.1).mono ?_
         rintro e w2 ⟨rfl, hB2⟩
         have H2 := Lib.hid (And.intro (H1.out.1.trans (hB2.mono H1.out.1.size)) (And.intro ((hB2.block _ (lt_of_heap H1.out.2.1)).trans H1.out.2.1) ((hB2.block _ (lt_of_heap H1.out.2.2)).trans H1.out.2.2)))
         have f2 : w2.cell? ⟨w.heap.size, 0, none⟩ = some (.slice AP ps.length cp) := cell_of_row w2 _ 0 _ _ _ H2.out.2.1
         clear hB2)
      | (show wpList _ _ _ (Oper.mk (some 9) _ _ _ _ _ :: _) _ _
         refine wpList_load_blk 25 (.tmp 3) rfl rfl rfl H1.out.2.1 [.slice AP ps.length cp, .slice AT ts.length ct] at0 rowSheetP ?_)
      | (show wpList _ _ _ (Oper.mk (some 10) _ _ _ _ _ :: _) _ _
         refine wpList_load_blk 28 (.tmp 4) rfl rfl rfl H1.out.2.2 [.slice AG gs.length cg, .int .i64 vary] at0 rowGradingP ?_))
    go_ret2
    exact ⟨none, 0, rfl, ownU_nil _ _, H2.out.1⟩
  rw [if_pos hck]
  rw [hck] at hchk
  have hk := grOk_of hck
  have HC1 := Lib.hid hchk
  clear hchk
  cases hok : okSks l
  · rw [hok] at hvg
    rw [if_neg (by decide)]
    have HVG := Lib.hid hvg
    clear hvg hok hk hz hg hv hck
    go_enter Tryz.func16, Tryz.ntmps16
    go_wp2_with (first
      | (go_at_call 48
         refine (HVG.out w2 H2.out.1).mono ?_
         rintro e w3 ⟨rfl, hB3⟩
         have H3 := Lib.hid (H2.out.1.trans (hB3.mono H2.out.1.size))
         have f3 : w3.cell? ⟨w.heap.size, 0, none⟩ = some (.slice AP ps.length cp) := cell_of_row w3 _ 0 _ _ _ ((hB3.block _ (lt_of_heap H2.out.2.1)).trans H2.out.2.1)
         clear hB3)
      | (go_at_call 28
         refine (HC1.out w1 H1.out.1).mono ?_
         rintro e w2 ⟨rfl, hB2⟩
         have H2 := Lib.hid (And.intro (H1.out.1.trans (hB2.mono H1.out.1.size)) (And.intro ((hB2.block _ (lt_of_heap H1.out.2.1)).trans H1.out.2.1) ((hB2.block _ (lt_of_heap H1.out.2.2)).trans H1.out.2.2)))
         have f2 : w2.cell? ⟨w.heap.size, 0, none⟩ = some (.slice AP ps.length cp) := cell_of_row w2 _ 0 _ _ _ H2.out.2.1
         clear hB2)
      | (show wpList _ _ _ (Oper.mk (some 9) _ _ _ _ _ :: _) _ _
         refine wpList_load_blk 25 (.tmp 3) rfl rfl rfl H1.out.2.1 [.slice AP ps.length cp, .slice AT ts.length ct] at0 rowSheetP ?_)
      | (show wpList _ _ _ (Oper.mk (some 10) _ _ _ _ _ :: _) _ _
         refine wpList_load_blk 28 (.tmp 4) rfl rfl rfl H1.out.2.2 [.slice AG gs.length cg, .int .i64 vary] at0 rowGradingP ?_))
    go_ret2
    exact ⟨none, 0, rfl, ownU_nil _ _, H3.out⟩
  · rw [hok] at hvg
    rw [if_pos rfl]
    have HVG := Lib.hid hvg
    have htr := fun (W : World) (hW : Below w.heap.size w W) => ftSoaked_any l ps AP cp AL cl B W (Nat.le_trans hB hW.size) (hz.p.below (hW.mono hB)) (hv.below (hW.mono hB)) hl (by have := hk.p12; omega) (fun p hp => okPol_sk (hk.po p hp).2)
    unfold FitPost at htr
    generalize fitL l ps = L at htr ⊢
    have HTR := Lib.hid htr
    clear hvg hok hk hz hg hv hck htr
    go_enter Tryz.func16, Tryz.ntmps16
    go_wp2_with (first
      | (go_at_call 49
         refine (HTR.out w3 H3.out).mono ?_
         rintro e w4 ⟨A4, c4, rfl, hO4, hB4⟩
         have H4 := Lib.hid (And.intro hO4 (H3.out.trans (hB4.mono H3.out.size)))
         have HS4 := Lib.hid H3.out.size
         clear hB4 hO4)
      | (go_at_call 48
         refine (HVG.out w2 H2.out.1).mono ?_
         rintro e w3 ⟨rfl, hB3⟩
         have H3 := Lib.hid (H2.out.1.trans (hB3.mono H2.out.1.size))
         have f3 : w3.cell? ⟨w.heap.size, 0, none⟩ = some (.slice AP ps.length cp) := cell_of_row w3 _ 0 _ _ _ ((hB3.block _ (lt_of_heap H2.out.2.1)).trans H2.out.2.1)
         clear hB3)
      | (go_at_call 28
         refine (HC1.out w1 H1.out.1).mono ?_
         rintro e w2 ⟨rfl, hB2⟩
         have H2 := Lib.hid (And.intro (H1.out.1.trans (hB2.mono H1.out.1.size)) (And.intro ((hB2.block _ (lt_of_heap H1.out.2.1)).trans H1.out.2.1) ((hB2.block _ (lt_of_heap H1.out.2.2)).trans H1.out.2.2)))
         have f2 : w2.cell? ⟨w.heap.size, 0, none⟩ = some (.slice AP ps.length cp) := cell_of_row w2 _ 0 _ _ _ H2.out.2.1
         clear hB2)
      | (show wpList _ _ _ (Oper.mk (some 9) _ _ _ _ _ :: _) _ _
         refine wpList_load_blk 25 (.tmp 3) rfl rfl rfl H1.out.2.1 [.slice AP ps.length cp, .slice AT ts.length ct] at0 rowSheetP ?_)
      | (show wpList _ _ _ (Oper.mk (some 10) _ _ _ _ _ :: _) _ _
         refine wpList_load_blk 28 (.tmp 4) rfl rfl rfl H1.out.2.2 [.slice AG gs.length cg, .int .i64 vary] at0 rowGradingP ?_))
    go_ret2
    exact ⟨A4, c4, rfl, ownU_weak H4.out.1 HS4.out, H4.out.2⟩


end Go.Proofs.YtddpebnmjfmgdaaGreat
