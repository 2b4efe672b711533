/-
  Tests that contradict each other (the program's Clash).
-/
import Derived.Test.YtboffligjgjgjaaGreatQM37
set_option linter.all false
namespace Go.Proofs.YtboffligjgjgjaaGreat
open Go.RowKit

set_option maxRecDepth 100000 in
set_option maxHeartbeats 4000000 in
theorem grClashP_any (ps : List Pol) (ts : List Ts) (gs : List Gd) (vary : Int) (AP : Option Addr) (cp : Nat) (AT : Option Addr) (ct : Nat) (AG : Option Addr) (cg : Nat) (B : Nat) (w : World) (hB : B ≤ w.heap.size) (hz : ShAt w B ps ts AP AT) (hg : GdAt w B gs AG) :
    Calls Tryz.prog 33 #[.agg #[.slice AP ps.length cp, .slice AT ts.length ct], .agg #[.slice AG gs.length cg, .int .i64 vary]] w (ClashPost w (sClash gs vary ps ts)) := by
  have hchk := fun (W : World) (hW : Below w.heap.size w W) => grCheck_any ps ts gs vary AP cp AT ct AG cg B W (Nat.le_trans hB hW.size) (hz.below (hW.mono hB)) (hg.below (hW.mono hB))
  unfold shl gdl at hchk
  obtain ⟨w1, hw1⟩ : ∃ w1, (w.alloc (.cells #[.slice AP ps.length cp, .slice AT ts.length ct] 25)).alloc (.cells #[.slice AG gs.length cg, .int .i64 vary] 28) = w1 := ⟨_, rfl⟩
  have hb1 : Below w.heap.size w w1 := by rw [← hw1]; exact grow2 _ _ _
  have m1 : w1.heap[w.heap.size]? = some (.cells [.slice AP ps.length cp, .slice AT ts.length ct].toArray 25 (0, 0)) := by rw [← hw1]; exact alloc2_at0 _ _ _
  have m2 : w1.heap[w.heap.size + 1]? = some (.cells [.slice AG gs.length cg, .int .i64 vary].toArray 28 (0, 0)) := by rw [← hw1]; exact alloc2_at1 _ _ _
  have H1 := Lib.hid (And.intro hb1 (And.intro m1 m2))
  clear hb1 m1 m2
  unfold sClash
  by_cases hck : gChk gs vary ps ts = 0
  rotate_left
  · rw [if_neg hck]
    generalize gChk gs vary ps ts = ck at hchk hck ⊢
    have HC1 := Lib.hid hchk
    have hce : (ck == 0) = false := by simpa using hck
    have hcn : (ck != 0) = true := by simpa using hck
    clear hchk hz hg hck
    go_enter Tryz.func33, Tryz.ntmps33
    go_wp2_with (first
      | (go_at_call 28
         refine (HC1.out w1 H1.out.1).mono ?_
         rintro e w2 ⟨rfl, hB2⟩
         have H2 := Lib.hid (And.intro (H1.out.1.trans (hB2.mono H1.out.1.size)) (And.intro ((hB2.block _ (lt_of_heap H1.out.2.1)).trans H1.out.2.1) ((hB2.block _ (lt_of_heap H1.out.2.2)).trans H1.out.2.2)))
         clear hB2)
      | (show wpList _ _ _ (Oper.mk (some 7) _ _ _ _ _ :: _) _ _
         refine wpList_load_blk 25 (.tmp 2) rfl rfl rfl H1.out.2.1 [.slice AP ps.length cp, .slice AT ts.length ct] at0 rowSheetP ?_)
      | (show wpList _ _ _ (Oper.mk (some 8) _ _ _ _ _ :: _) _ _
         refine wpList_load_blk 28 (.tmp 3) rfl rfl rfl H1.out.2.2 [.slice AG gs.length cg, .int .i64 vary] at0 rowGradingP ?_))
    go_ret2
    exact ⟨none, 0, rfl, fun h => by simp at h, H2.out.1⟩
  have hk := grOk_of hck
  rw [if_pos hck]
  rw [hck] at hchk
  have hcl := fun (W : World) (hW : Below w.heap.size w W) => grClash_any gs vary ps ts AP cp AT ct AG cg B W (Nat.le_trans hB hW.size) (hz.p.below (hW.mono hB)) (hz.t.below (hW.mono hB)) (hg.below (hW.mono hB)) hk
  unfold LsPost at hcl
  generalize clashL gs vary ps ts = L at hcl ⊢
  have HC1 := Lib.hid hchk
  have HCL := Lib.hid hcl
  clear hchk hcl hck hk hz hg
  go_enter Tryz.func33, Tryz.ntmps33
  go_wp2_with (first
    | (go_at_call 62
       refine (HCL.out w2 H2.out.1).mono ?_
       rintro e w3 ⟨A3, c3, rfl, hi3, hB3⟩
       have H3 := Lib.hid (And.intro hi3 (H2.out.1.trans (hB3.mono H2.out.1.size)))
       clear hB3 hi3)
    | (show wpList _ _ _ (Oper.mk (some 13) _ _ _ _ _ :: _) _ _
       refine wpList_load_blk 25 (.tmp 2) rfl rfl rfl H2.out.2.1 [.slice AP ps.length cp, .slice AT ts.length ct] at0 rowSheetP ?_)
    | (show wpList _ _ _ (Oper.mk (some 14) _ _ _ _ _ :: _) _ _
       refine wpList_load_blk 28 (.tmp 3) rfl rfl rfl H2.out.2.2 [.slice AG gs.length cg, .int .i64 vary] at0 rowGradingP ?_)
    | (go_at_call 28
       refine (HC1.out w1 H1.out.1).mono ?_
       rintro e w2 ⟨rfl, hB2⟩
       have H2 := Lib.hid (And.intro (H1.out.1.trans (hB2.mono H1.out.1.size)) (And.intro ((hB2.block _ (lt_of_heap H1.out.2.1)).trans H1.out.2.1) ((hB2.block _ (lt_of_heap H1.out.2.2)).trans H1.out.2.2)))
       clear hB2)
    | (show wpList _ _ _ (Oper.mk (some 7) _ _ _ _ _ :: _) _ _
       refine wpList_load_blk 25 (.tmp 2) rfl rfl rfl H1.out.2.1 [.slice AP ps.length cp, .slice AT ts.length ct] at0 rowSheetP ?_)
    | (show wpList _ _ _ (Oper.mk (some 8) _ _ _ _ _ :: _) _ _
       refine wpList_load_blk 28 (.tmp 3) rfl rfl rfl H1.out.2.2 [.slice AG gs.length cg, .int .i64 vary] at0 rowGradingP ?_))
  go_ret2
  exact ⟨A3, c3, rfl, H3.out.1, H3.out.2⟩

end Go.Proofs.YtboffligjgjgjaaGreat
