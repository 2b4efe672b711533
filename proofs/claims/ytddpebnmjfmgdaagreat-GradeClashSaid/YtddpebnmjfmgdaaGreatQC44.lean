/-
  The law GradeClash: its cases put together.
-/
import Derived.Test.YtddpebnmjfmgdaaGreatQC41
import Derived.Test.YtddpebnmjfmgdaaGreatQC42
import Derived.Test.YtddpebnmjfmgdaaGreatQC43
set_option linter.all false
namespace Go.Proofs.YtddpebnmjfmgdaaGreat
open Go.RowKit Go.BigFrame

attribute [local go_sem] gives

set_option maxRecDepth 100000 in
set_option maxHeartbeats 8000000 in
theorem gradeClash_law (ps : List Pol) (ts : List Ts) (gs : List Gd) (vary one two : Int) (AP : Option Addr) (cp : Nat) (AT : Option Addr) (ct : Nat) (AG : Option Addr) (cg : Nat) (B : Nat) (w : World) (hB : B ≤ w.heap.size)
    (hz1 : Vals w B AP (ps.flatMap pcl)) (hz2 : Vals w B AT (ts.flatMap tcl)) (hz3 : Vals w B AG (gs.flatMap gcl)) (r1 : 0 ≤ one ∧ one ≤ 255) (r2 : 0 ≤ two ∧ two ≤ 255) :
    Calls Tryz.prog 8 #[.agg #[.slice AP ps.length cp, .slice AT ts.length ct], .agg #[.slice AG gs.length cg, .int .i64 vary], .int .u8 one, .int .u8 two] w fun e w' => e = .returned (.bool true) ∧ Below w.heap.size w w' := by
  cases hrv : rdyS gs vary ps ts
  · have hrd := fun (W : World) (hW : Below w.heap.size w W) => grReady_any ps ts gs vary AP cp AT ct AG cg B W (Nat.le_trans hB hW.size) (hz1.below (hW.mono hB)) (hz2.below (hW.mono hB)) (hz3.below (hW.mono hB))
    rw [hrv] at hrd
    have HRD := Lib.hid hrd
    obtain ⟨w1, hw1⟩ : ∃ w1, (w.alloc (.cells #[.slice AP ps.length cp, .slice AT ts.length ct] 25)).alloc (.cells #[.slice AG gs.length cg, .int .i64 vary] 28) = w1 := ⟨_, rfl⟩
    have hb1 : Below w.heap.size w w1 := by rw [← hw1]; exact grow2 _ _ _
    have m1 : w1.heap[w.heap.size]? = some (.cells [.slice AP ps.length cp, .slice AT ts.length ct].toArray 25 (0, 0)) := by rw [← hw1]; exact alloc2_at0 _ _ _
    have m2 : w1.heap[w.heap.size + 1]? = some (.cells [.slice AG gs.length cg, .int .i64 vary].toArray 28 (0, 0)) := by rw [← hw1]; exact alloc2_at1 _ _ _
    have H1 := Lib.hid (And.intro hb1 (And.intro m1 m2))
    clear hb1 m1 m2 hrd hrv hz1 hz2 hz3 hB
    go_enter Tryz.func8, Tryz.ntmps8
    go_wp2_with (first
      | (go_at_call 29
         refine (HRD.out w2 H2.out.1).mono ?_
         rintro e w3 ⟨rfl, hB3⟩
         have H3 := Lib.hid (And.intro (H2.out.1.trans (hB3.mono H2.out.1.size)) (And.intro ((hB3.block _ (lt_of_heap H2.out.2.1)).trans H2.out.2.1) ((hB3.block _ (lt_of_heap H2.out.2.2)).trans H2.out.2.2)))
         clear hB3)
      | (show wpList _ _ _ (Oper.mk (some 31) _ _ _ _ _ :: _) _ _
         refine wpList_load_blkG 25 (.tmp 4) rfl rfl rfl H2.out.2.1 [.slice AP ps.length cp, .slice AT ts.length ct] at0 rowSheetP ?_)
      | (show wpList _ _ _ (Oper.mk (some 32) _ _ _ _ _ :: _) _ _
         refine wpList_load_blkG 28 (.tmp 5) rfl rfl rfl H2.out.2.2 [.slice AG gs.length cg, .int .i64 vary] at0 rowGradingP ?_)
      | (go_at_call 20
         refine (grAlive_any w1).mono ?_
         rintro e w2 ⟨rfl, hB2⟩
         have H2 := Lib.hid (And.intro (H1.out.1.trans (hB2.mono H1.out.1.size)) (And.intro ((hB2.block _ (lt_of_heap H1.out.2.1)).trans H1.out.2.1) ((hB2.block _ (lt_of_heap H1.out.2.2)).trans H1.out.2.2)))
         clear hB2))
    go_ret
    exact ⟨rfl, H3.out.1⟩
  · obtain ⟨hl, hck⟩ := rdyS_parts hrv
    rcases clash_cases (truth_nil (ps := ps) (gChk_ok hck).1) (vary := vary) (ts := ts) with ⟨ht, hc⟩ | ⟨ht, i, hi, hc, hb, hmin⟩ | ⟨ht, i, k, hk, hik, hc, hb, hall, hmin⟩
    · exact gradeClash_law0 ps ts gs vary one two AP cp AT ct AG cg B w hB hz1 hz2 hz3 r1 r2 hrv ht _ hc rfl
    · exact gradeClash_law1 ps ts gs vary one two AP cp AT ct AG cg B w hB hz1 hz2 hz3 r1 r2 hrv ht _ hc rfl i hi rfl ⟨hb, hmin⟩
    · exact gradeClash_law2 ps ts gs vary one two AP cp AT ct AG cg B w hB hz1 hz2 hz3 r1 r2 hrv ht _ hc rfl i k ⟨hk, hik⟩ rfl ⟨hb, hall, hmin⟩

end Go.Proofs.YtddpebnmjfmgdaaGreat
