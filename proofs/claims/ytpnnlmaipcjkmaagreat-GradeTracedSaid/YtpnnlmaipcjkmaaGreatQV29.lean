/-
  The reference's Check, Grade, Great, Bears.
-/
import Derived.BigGuardPart
import Derived.Test.YtpnnlmaipcjkmaaGreatQV28
import Derived.Test.YtpnnlmaipcjkmaaGreatQV23
set_option linter.all false
namespace Go.Proofs.YtpnnlmaipcjkmaaGreat
open Go.RowKit Go.BigFrame
open R6 (done done_ne done_me upd_ne upd_me)

attribute [local go_sem] gives

set_option maxRecDepth 100000 in
set_option maxHeartbeats 4000000 in
theorem rfCheck_any (ps : List Pol) (ts : List Ts) (gs : List Gd) (vary : Int) (AP : Option Addr) (cp : Nat) (AT : Option Addr) (ct : Nat) (AG : Option Addr) (cg : Nat) (B : Nat) (w : World) (hB : B ≤ w.heap.size) (hz : ShAt w B ps ts AP AT) (hg : GdAt w B gs AG) :
    Calls Tryz.prog 46 #[.agg (shl ps ts AP cp AT ct).toArray, .agg (gdl gs vary AG cg).toArray] w fun e w' => e = .returned (.int .i64 (gChk gs vary ps ts)) ∧ Below w.heap.size w w' := by
  unfold shl gdl gChk
  have h1 := fun (W : World) (hW : Below w.heap.size w W) => rfGrading_any gs vary AG cg B W (Nat.le_trans hB hW.size) (hg.below (hW.mono hB))
  have h2 := fun (W : World) (hW : Below w.heap.size w W) => rfSheet_any ps ts AP cp AT ct B W (Nat.le_trans hB hW.size) (hz.below (hW.mono hB))
  obtain ⟨w1, hw1⟩ : ∃ w1, (w.alloc (.cells #[.slice AP ps.length cp, .slice AT ts.length ct] 25)).alloc (.cells #[.slice AG gs.length cg, .int .i64 vary] 28) = w1 := ⟨_, rfl⟩
  have hb1 : Below w.heap.size w w1 := by rw [← hw1]; exact grow2 _ _ _
  have hm1 : w1.heap[w.heap.size]? = some (.cells #[.slice AP ps.length cp, .slice AT ts.length ct] 25 (0, 0)) := by rw [← hw1]; exact alloc2_at0 _ _ _
  have hm2 : w1.heap[w.heap.size + 1]? = some (.cells #[.slice AG gs.length cg, .int .i64 vary] 28 (0, 0)) := by rw [← hw1]; exact alloc2_at1 _ _ _
  have hc1 := fun i => cell_of_row w1 w.heap.size i _ _ _ hm1
  have hc2 := fun i => cell_of_row w1 (w.heap.size + 1) i _ _ _ hm2
  have hbk := fun (W : World) (hW : Below w1.heap.size w1 W) i => (hW.cell (p := ⟨w.heap.size, i, none⟩) (lt_of_heap hm1)).trans (hc1 i)
  have HK := Lib.hid (And.intro hbk hb1)
  clear hbk hb1 hm1 hm2 hz hg
  cases ha : okGrading gs vary
  · rw [if_neg (by simp)]
    rw [ha] at h1
    have H1 := Lib.hid h1
    clear h1 h2 ha
    go_enter Tryz.func46, Tryz.ntmps46
    go_wp2_with (go_at_call 81; refine (H1.out w1 HK.out.2).mono ?_; rintro e w2 ⟨rfl, hB2⟩; have HB2 := Lib.hid hB2; clear hB2)
    go_ret
    exact ⟨rfl, HK.out.2.trans (HB2.out.mono HK.out.2.size)⟩
  · rw [if_pos rfl]
    rw [ha] at h1
    have H1 := Lib.hid h1
    clear h1 ha
    cases hb : okSheet ps ts
    all_goals
      rw [hb] at h2
      have H2 := Lib.hid h2
      clear h2 hb
      go_enter Tryz.func46, Tryz.ntmps46
      go_wp2_with (first
        | (go_at_call 82; refine (H2.out w2 (HK.out.2.trans (HB2.out.mono HK.out.2.size))).mono ?_; rintro e w3 ⟨rfl, hB3⟩; have HB3 := Lib.hid (HB2.out.trans (hB3.mono HB2.out.size)); clear hB3)
        | (go_at_call 81; refine (H1.out w1 HK.out.2).mono ?_; rintro e w2 ⟨rfl, hB2⟩; have HB2 := Lib.hid hB2; have hc3 := HK.out.1 w2 hB2; clear hB2))
      go_ret
      exact ⟨rfl, HK.out.2.trans (HB3.out.mono HK.out.2.size)⟩

theorem rfGreat_any (a b c : Nat) (AP : Option Addr) (cp : Nat) (AT : Option Addr) (ct : Nat) (AG : Option Addr) (cg : Nat) (vary : Int) (w : World) :
    Calls Tryz.prog 11 #[.agg #[.slice AP a cp, .slice AT b ct], .agg #[.slice AG c cg, .int .i64 vary]] w fun e w' => e = .returned (.bool (decide (16 < a) || (decide (26 < b) || decide (6 < c)))) ∧ Below w.heap.size w w' := by
  obtain ⟨w1, hw1⟩ : ∃ w1, (w.alloc (.cells #[.slice AP a cp, .slice AT b ct] 25)).alloc (.cells #[.slice AG c cg, .int .i64 vary] 28) = w1 := ⟨_, rfl⟩
  have hb1 : Below w.heap.size w w1 := by rw [← hw1]; exact grow2 _ _ _
  have m1 : w1.heap[w.heap.size]? = some (.cells #[.slice AP a cp, .slice AT b ct] 25 (0, 0)) := by rw [← hw1]; exact alloc2_at0 _ _ _
  have m2 : w1.heap[w.heap.size + 1]? = some (.cells #[.slice AG c cg, .int .i64 vary] 28 (0, 0)) := by rw [← hw1]; exact alloc2_at1 _ _ _
  have f1 : w1.cell? ⟨w.heap.size, 0, none⟩ = some (.slice AP a cp) := cell_of_row w1 _ 0 _ _ _ m1
  have f2 : w1.cell? ⟨w.heap.size, 1, none⟩ = some (.slice AT b ct) := cell_of_row w1 _ 1 _ _ _ m1
  have f3 : w1.cell? ⟨w.heap.size + 1, 0, none⟩ = some (.slice AG c cg) := cell_of_row w1 _ 0 _ _ _ m2
  have HM := Lib.hid hb1
  clear hb1 m1 m2
  by_cases h1 : 16 < a
  · rw [decide_eq_true h1, Bool.true_or]
    have z1 : (16 : Int) < a := by omega
    go_enter Tryz.func11, Tryz.ntmps11
    go_wp2_with go_big_skip
    go_ret
    exact ⟨rfl, HM.out⟩
  rw [decide_eq_false h1, Bool.false_or]
  have z1 : ¬ (16 : Int) < a := by omega
  by_cases h2 : 26 < b
  · rw [decide_eq_true h2, Bool.true_or]
    have z2 : (26 : Int) < b := by omega
    go_enter Tryz.func11, Tryz.ntmps11
    go_wp2_with go_big_skip
    go_ret
    exact ⟨rfl, HM.out⟩
  rw [decide_eq_false h2, Bool.false_or]
  have z2 : ¬ (26 : Int) < b := by omega
  by_cases h3 : 6 < c
  · rw [decide_eq_true h3]
    have z3 : (6 : Int) < c := by omega
    go_enter Tryz.func11, Tryz.ntmps11
    go_wp2_with go_big_skip
    go_ret
    exact ⟨rfl, HM.out⟩
  rw [decide_eq_false h3]
  have z3 : ¬ (6 : Int) < c := by omega
  go_enter Tryz.func11, Tryz.ntmps11
  go_wp2_with go_big_skip
  go_ret
  exact ⟨rfl, HM.out⟩

end Go.Proofs.YtpnnlmaipcjkmaaGreat
