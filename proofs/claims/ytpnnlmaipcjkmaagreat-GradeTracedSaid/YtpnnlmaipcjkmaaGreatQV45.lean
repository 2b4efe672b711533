/-
  Whether a sheet and a grading are ready for a statement; two twins of a sheet that a region makes.
-/
import Derived.Test.YtpnnlmaipcjkmaaGreatQV24
import Derived.Test.YtpnnlmaipcjkmaaGreatQV44
import Derived.Test.YtpnnlmaipcjkmaaGreatQV29
set_option linter.all false
namespace Go.Proofs.YtpnnlmaipcjkmaaGreat
open Go.RowKit
open R6 (done done_ne done_me upd_ne upd_me)

attribute [local go_sem] gives

def bigS (gs : List Gd) (ps : List Pol) (ts : List Ts) : Bool := decide (16 < ps.length) || (decide (26 < ts.length) || decide (6 < gs.length))
def rdyS (gs : List Gd) (vary : Int) (ps : List Pol) (ts : List Ts) : Bool := !bigS gs ps ts && decide (gChk gs vary ps ts = 0)
set_option maxRecDepth 100000 in
set_option maxHeartbeats 8000000 in
theorem grReady_any (ps : List Pol) (ts : List Ts) (gs : List Gd) (vary : Int) (AP : Option Addr) (cp : Nat) (AT : Option Addr) (ct : Nat) (AG : Option Addr) (cg : Nat) (B : Nat) (w : World) (hB : B ≤ w.heap.size) (hz1 : Vals w B AP (ps.flatMap pcl)) (hz2 : Vals w B AT (ts.flatMap tcl)) (hz3 : Vals w B AG (gs.flatMap gcl)) :
    Calls Tryz.prog 29 #[.agg #[.slice AP ps.length cp, .slice AT ts.length ct], .agg #[.slice AG gs.length cg, .int .i64 vary]] w fun e w' => e = .returned (.bool (rdyS gs vary ps ts)) ∧ Below w.heap.size w w' := by
  have hgt := fun (W : World) => rfGreat_any ps.length ts.length gs.length AP cp AT ct AG cg vary W
  obtain ⟨w1, hw1⟩ : ∃ w1, (w.alloc (.cells #[.slice AP ps.length cp, .slice AT ts.length ct] 25)).alloc (.cells #[.slice AG gs.length cg, .int .i64 vary] 28) = w1 := ⟨_, rfl⟩
  have hb1 : Below w.heap.size w w1 := by rw [← hw1]; exact grow2 _ _ _
  have m1 : w1.heap[w.heap.size]? = some (.cells [.slice AP ps.length cp, .slice AT ts.length ct].toArray 25 (0, 0)) := by rw [← hw1]; exact alloc2_at0 _ _ _
  have m2 : w1.heap[w.heap.size + 1]? = some (.cells [.slice AG gs.length cg, .int .i64 vary].toArray 28 (0, 0)) := by rw [← hw1]; exact alloc2_at1 _ _ _
  have H1 := Lib.hid (And.intro hb1 (And.intro m1 m2))
  clear hb1 m1 m2
  unfold rdyS
  obtain ⟨vg, hvg⟩ : ∃ vg, bigS gs ps ts = vg := ⟨_, rfl⟩
  have hvg' : (decide (16 < ps.length) || (decide (26 < ts.length) || decide (6 < gs.length))) = vg := hvg
  rw [hvg'] at hgt
  rw [hvg]
  have HGT := Lib.hid hgt
  clear hgt hvg
  cases vg
  rotate_left
  · clear hvg' hz1 hz2 hz3
    go_enter Tryz.func29, Tryz.ntmps29
    go_wp2_with (first
      | (go_at_call 11
         refine (HGT.out w1).mono ?_
         rintro e w2 ⟨rfl, hB2⟩
         have H2 := Lib.hid (And.intro (H1.out.1.trans (hB2.mono H1.out.1.size)) (And.intro ((hB2.block _ (lt_of_heap H1.out.2.1)).trans H1.out.2.1) ((hB2.block _ (lt_of_heap H1.out.2.2)).trans H1.out.2.2)))
         clear hB2)
      | (show wpList _ _ _ (Oper.mk (some 5) _ _ _ _ _ :: _) _ _
         refine wpList_load_blkG 25 (.tmp 2) rfl rfl rfl H1.out.2.1 [.slice AP ps.length cp, .slice AT ts.length ct] at0 rowSheetP ?_)
      | (show wpList _ _ _ (Oper.mk (some 6) _ _ _ _ _ :: _) _ _
         refine wpList_load_blkG 28 (.tmp 3) rfl rfl rfl H1.out.2.2 [.slice AG gs.length cg, .int .i64 vary] at0 rowGradingP ?_))
    go_ret
    exact ⟨rfl, H2.out.1⟩
  have hl : ps.length ≤ 16 ∧ ts.length ≤ 26 ∧ gs.length ≤ 6 := by simp at hvg'; omega
  have hck := fun (W : World) (hW : Below w.heap.size w W) => rfCheck_any ps ts gs vary AP cp AT ct AG cg B W (Nat.le_trans hB hW.size) ⟨hz1.below (hW.mono hB), hz2.below (hW.mono hB), by omega, by omega⟩ ⟨hz3.below (hW.mono hB), by omega⟩
  unfold shl gdl at hck
  generalize gChk gs vary ps ts = ck at hck ⊢
  have HCK := Lib.hid hck
  clear hck hvg' hz1 hz2 hz3 hl
  by_cases h0 : ck = 0
  · subst h0
    go_enter Tryz.func29, Tryz.ntmps29
    go_wp2_with (first
      | (go_at_call 46
         refine (HCK.out w2 H2.out.1).mono ?_
         rintro e w3 ⟨rfl, hB3⟩
         have H3 := Lib.hid (H2.out.1.trans (hB3.mono H2.out.1.size))
         clear hB3)
      | (go_at_call 11
         refine (HGT.out w1).mono ?_
         rintro e w2 ⟨rfl, hB2⟩
         have H2 := Lib.hid (And.intro (H1.out.1.trans (hB2.mono H1.out.1.size)) (And.intro ((hB2.block _ (lt_of_heap H1.out.2.1)).trans H1.out.2.1) ((hB2.block _ (lt_of_heap H1.out.2.2)).trans H1.out.2.2)))
         clear hB2)
      | (show wpList _ _ _ (Oper.mk (some 5) _ _ _ _ _ :: _) _ _
         refine wpList_load_blkG 25 (.tmp 2) rfl rfl rfl H1.out.2.1 [.slice AP ps.length cp, .slice AT ts.length ct] at0 rowSheetP ?_)
      | (show wpList _ _ _ (Oper.mk (some 6) _ _ _ _ _ :: _) _ _
         refine wpList_load_blkG 28 (.tmp 3) rfl rfl rfl H1.out.2.2 [.slice AG gs.length cg, .int .i64 vary] at0 rowGradingP ?_)
      | (show wpList _ _ _ (Oper.mk (some 10) _ _ _ _ _ :: _) _ _
         refine wpList_load_blkG 25 (.tmp 2) rfl rfl rfl H2.out.2.1 [.slice AP ps.length cp, .slice AT ts.length ct] at0 rowSheetP ?_)
      | (show wpList _ _ _ (Oper.mk (some 11) _ _ _ _ _ :: _) _ _
         refine wpList_load_blkG 28 (.tmp 3) rfl rfl rfl H2.out.2.2 [.slice AG gs.length cg, .int .i64 vary] at0 rowGradingP ?_))
    go_ret
    exact ⟨rfl, H3.out⟩
  · have hd : decide (ck = 0) = false := by simpa using h0
    have hce : (ck == 0) = false := by simpa using h0
    rw [hd]
    clear h0 hd
    go_enter Tryz.func29, Tryz.ntmps29
    go_wp2_with (first
      | (go_at_call 46
         refine (HCK.out w2 H2.out.1).mono ?_
         rintro e w3 ⟨rfl, hB3⟩
         have H3 := Lib.hid (H2.out.1.trans (hB3.mono H2.out.1.size))
         clear hB3)
      | (go_at_call 11
         refine (HGT.out w1).mono ?_
         rintro e w2 ⟨rfl, hB2⟩
         have H2 := Lib.hid (And.intro (H1.out.1.trans (hB2.mono H1.out.1.size)) (And.intro ((hB2.block _ (lt_of_heap H1.out.2.1)).trans H1.out.2.1) ((hB2.block _ (lt_of_heap H1.out.2.2)).trans H1.out.2.2)))
         clear hB2)
      | (show wpList _ _ _ (Oper.mk (some 5) _ _ _ _ _ :: _) _ _
         refine wpList_load_blkG 25 (.tmp 2) rfl rfl rfl H1.out.2.1 [.slice AP ps.length cp, .slice AT ts.length ct] at0 rowSheetP ?_)
      | (show wpList _ _ _ (Oper.mk (some 6) _ _ _ _ _ :: _) _ _
         refine wpList_load_blkG 28 (.tmp 3) rfl rfl rfl H1.out.2.2 [.slice AG gs.length cg, .int .i64 vary] at0 rowGradingP ?_)
      | (show wpList _ _ _ (Oper.mk (some 10) _ _ _ _ _ :: _) _ _
         refine wpList_load_blkG 25 (.tmp 2) rfl rfl rfl H2.out.2.1 [.slice AP ps.length cp, .slice AT ts.length ct] at0 rowSheetP ?_)
      | (show wpList _ _ _ (Oper.mk (some 11) _ _ _ _ _ :: _) _ _
         refine wpList_load_blkG 28 (.tmp 3) rfl rfl rfl H2.out.2.2 [.slice AG gs.length cg, .int .i64 vary] at0 rowGradingP ?_))
    go_ret
    exact ⟨rfl, H3.out⟩
structure TsC (w0 : World) (ps : List Pol) (ts : List Ts) (K : List (Nat × Obj)) (a b p q : Nat) (D : Nat → Bool) (σ : Nat → Value) (W : World) : Prop where
  bel : Below w0.heap.size w0 W
  box : keptK K W
  sa : D 1 = true → ∃ v1 v2, σ a = .agg #[v1, v2] ∧ OwnS W w0.heap.size ps ts v1 v2
  sb : D 3 = true → ∃ v1 v2, σ b = .agg #[v1, v2] ∧ OwnS W w0.heap.size ps ts v1 v2
  sp : D 4 = true → ∃ g, σ p = .pointer (some ⟨g, 0, none⟩) ∧ w0.heap.size ≤ g ∧ (∃ X : List Value, X.length = 2 ∧ W.heap[g]? = some (.cells X.toArray 25 (0, 0)) ∧ (D 6 = true → σ a = .agg X.toArray)) ∧ (D 5 = true → σ q ≠ .pointer (some ⟨g, 0, none⟩))
  sq : D 5 = true → ∃ g, σ q = .pointer (some ⟨g, 0, none⟩) ∧ w0.heap.size ≤ g ∧ ∃ X : List Value, X.length = 2 ∧ W.heap[g]? = some (.cells X.toArray 25 (0, 0)) ∧ (D 7 = true → σ b = .agg X.toArray)
section
variable {w0 W W' : World} {ps : List Pol} {ts : List Ts} {K : List (Nat × Obj)} {a b p q : Nat} {D : Nat → Bool} {σ : Nat → Value}
theorem TsC.grows (h : TsC w0 ps ts K a b p q D σ W) (hg : Grows W W') : TsC w0 ps ts K a b p q D σ W' :=
  ⟨h.bel.trans (hg.mono h.bel.size), h.box.next hg, fun x => let ⟨v1, v2, e, o⟩ := h.sa x; ⟨v1, v2, e, o.grows hg⟩, fun x => let ⟨v1, v2, e, o⟩ := h.sb x; ⟨v1, v2, e, o.grows hg⟩,
   fun x => let ⟨g, e, hb, ⟨X, hX, hh, hd⟩, hn⟩ := h.sp x; ⟨g, e, hb, ⟨X, hX, (hg.block _ (lt_of_heap hh)).trans hh, hd⟩, hn⟩, fun x => let ⟨g, e, hb, X, hX, hh, hd⟩ := h.sq x; ⟨g, e, hb, X, hX, (hg.block _ (lt_of_heap hh)).trans hh, hd⟩⟩
end
end Go.Proofs.YtpnnlmaipcjkmaaGreat
