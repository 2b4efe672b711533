/-
  Whether a sheet and a grading are ready for a statement; two twins of a sheet that a region makes.
-/
import Derived.Test.YtboffligjgjgjaaGreatQM43
import Derived.Test.YtboffligjgjgjaaGreatQM44
import Derived.Test.YtboffligjgjgjaaGreatQM46
set_option linter.all false
namespace Go.Proofs.YtboffligjgjgjaaGreat
open Go.RowKit
open R6 (done done_ne done_me upd_ne upd_me)

attribute [local go_sem] gives

def bigS (gs : List Gd) (ps : List Pol) (ts : List Ts) : Bool := decide (16 < ps.length) || (decide (26 < ts.length) || decide (6 < gs.length))
def rdyS (gs : List Gd) (vary : Int) (ps : List Pol) (ts : List Ts) : Bool := !bigS gs ps ts && decide (gChk gs vary ps ts = 0)
set_option maxRecDepth 100000 in
set_option maxHeartbeats 8000000 in
theorem grReady_any (ps : List Pol) (ts : List Ts) (gs : List Gd) (vary : Int) (AP : Option Addr) (cp : Nat) (AT : Option Addr) (ct : Nat) (AG : Option Addr) (cg : Nat) (B : Nat) (w : World) (hB : B ≤ w.heap.size) (hz1 : Vals w B AP (ps.flatMap pcl)) (hz2 : Vals w B AT (ts.flatMap tcl)) (hz3 : Vals w B AG (gs.flatMap gcl)) :
    Calls Tryz.prog 29 #[.agg #[.slice AP ps.length cp, .slice AT ts.length ct], .agg #[.slice AG gs.length cg, .int .i64 vary]] w fun e w' => e = .returned (.bool (rdyS gs vary ps ts)) ∧ Below w.heap.size w w' := by
  have hgt := fun (W : World) => rfGreat_any ps.length ts.length gs.length AP cp AT ct AG cg vary W
  obtain ⟨w1, hw1⟩ : ∃ w1, (w.alloc (.cells #[.slice AP ps.length cp, .slice AT ts.length ct] 25)).alloc (.cells #[.slice AG gs.length cg, .int .i64 vary] 28) = w1 := ⟨_, rfl⟩
  have hb1 : Below w.heap.size w w1 := by rw [← hw1]; exact grow2 _ _ _
  have m1 : w1.heap[w.heap.size]? = some (.cells [.slice AP ps.length cp, .slice AT ts.length ct].toArray 25 (0, 0)) := by rw [← hw1]; exact alloc2_at0 _ _ _
  have m2 : w1.heap[w.heap.size + 1]? = some (.cells [.slice AG gs.length cg, .int .i64 vary].toArray 28 (0, 0)) := by rw [← hw1]; exact alloc2_at1 _ _ _
  have H1 := Lib.hid (And.intro hb1 (And.intro m1 m2))
  clear hb1 m1 m2
  unfold rdyS
  obtain ⟨vg, hvg⟩ : ∃ vg, bigS gs ps ts = vg := ⟨_, rfl⟩
  have hvg' : (decide (16 < ps.length) || (decide (26 < ts.length) || decide (6 < gs.length))) = vg := hvg
  rw [hvg'] at hgt
  rw [hvg]
  have HGT := Lib.hid hgt
  clear hgt hvg
  cases vg
  rotate_left
  · clear hvg' hz1 hz2 hz3
    go_enter Tryz.func29, Tryz.ntmps29
    go_wp2_with (first
      | (go_at_call 11
         refine (HGT.out w1).mono ?_
         rintro e w2 ⟨rfl, hB2⟩
         have H2 := Lib.hid (And.intro (H1.out.1.trans (hB2.mono H1.out.1.size)) (And.intro ((hB2.block _ (lt_of_heap H1.out.2.1)).trans H1.out.2.1) ((hB2.block _ (lt_of_heap H1.out.2.2)).trans H1.out.2.2)))
         clear hB2)
      | (show wpList _ _ _ (Oper.mk (some 5) _ _ _ _ _ :: _) _ _
         refine wpList_load_blkG 25 (.tmp 2) rfl rfl rfl H1.out.2.1 [.slice AP ps.length cp, .slice AT ts.length ct] at0 rowSheetP ?_)
      | (show wpList _ _ _ (Oper.mk (some 6) _ _ _ _ _ :: _) _ _
         refine wpList_load_blkG 28 (.tmp 3) rfl rfl rfl H1.out.2.2 [.slice AG gs.length cg, .int .i64 vary] at0 rowGradingP ?_))
    go_ret
    exact ⟨rfl, H2.out.1⟩
  have hl : ps.length ≤ 16 ∧ ts.length ≤ 26 ∧ gs.length ≤ 6 := by simp at hvg'; omega
  have hck := fun (W : World) (hW : Below w.heap.size w W) => rfCheck_any ps ts gs vary AP cp AT ct AG cg B W (Nat.le_trans hB hW.size) ⟨hz1.below (hW.mono hB), hz2.below (hW.mono hB), by omega, by omega⟩ ⟨hz3.below (hW.mono hB), by omega⟩
  unfold shl gdl at hck
  generalize gChk gs vary ps ts = ck at hck ⊢
  have HCK := Lib.hid hck
  clear hck hvg' hz1 hz2 hz3 hl
  by_cases h0 : ck = 0
  · subst h0
    go_enter Tryz.func29, Tryz.ntmps29
    go_wp2_with (first
      | (go_at_call 46
         refine (HCK.out w2 H2.out.1).mono ?_
         rintro e w3 ⟨rfl, hB3⟩
         have H3 := Lib.hid (H2.out.1.trans (hB3.mono H2.out.1.size))
         clear hB3)
      | (go_at_call 11
         refine (HGT.out w1).mono ?_
         rintro e w2 ⟨rfl, hB2⟩
         have H2 := Lib.hid (And.intro (H1.out.1.trans (hB2.mono H1.out.1.size)) (And.intro ((hB2.block _ (lt_of_heap H1.out.2.1)).trans H1.out.2.1) ((hB2.block _ (lt_of_heap H1.out.2.2)).trans H1.out.2.2)))
         clear hB2)
      | (show wpList _ _ _ (Oper.mk (some 5) _ _ _ _ _ :: _) _ _
         refine wpList_load_blkG 25 (.tmp 2) rfl rfl rfl H1.out.2.1 [.slice AP ps.length cp, .slice AT ts.length ct] at0 rowSheetP ?_)
      | (show wpList _ _ _ (Oper.mk (some 6) _ _ _ _ _ :: _) _ _
         refine wpList_load_blkG 28 (.tmp 3) rfl rfl rfl H1.out.2.2 [.slice AG gs.length cg, .int .i64 vary] at0 rowGradingP ?_)
      | (show wpList _ _ _ (Oper.mk (some 10) _ _ _ _ _ :: _) _ _
         refine wpList_load_blkG 25 (.tmp 2) rfl rfl rfl H2.out.2.1 [.slice AP ps.length cp, .slice AT ts.length ct] at0 rowSheetP ?_)
      | (show wpList _ _ _ (Oper.mk (some 11) _ _ _ _ _ :: _) _ _
         refine wpList_load_blkG 28 (.tmp 3) rfl rfl rfl H2.out.2.2 [.slice AG gs.length cg, .int .i64 vary] at0 rowGradingP ?_))
    go_ret
    exact ⟨rfl, H3.out⟩
  · have hd : decide (ck = 0) = false := by simpa using h0
    have hce : (ck == 0) = false := by simpa using h0
    rw [hd]
    clear h0 hd
    go_enter Tryz.func29, Tryz.ntmps29
    go_wp2_with (first
      | (go_at_call 46
         refine (HCK.out w2 H2.out.1).mono ?_
         rintro e w3 ⟨rfl, hB3⟩
         have H3 := Lib.hid (H2.out.1.trans (hB3.mono H2.out.1.size))
         clear hB3)
      | (go_at_call 11
         refine (HGT.out w1).mono ?_
         rintro e w2 ⟨rfl, hB2⟩
         have H2 := Lib.hid (And.intro (H1.out.1.trans (hB2.mono H1.out.1.size)) (And.intro ((hB2.block _ (lt_of_heap H1.out.2.1)).trans H1.out.2.1) ((hB2.block _ (lt_of_heap H1.out.2.2)).trans H1.out.2.2)))
         clear hB2)
      | (show wpList _ _ _ (Oper.mk (some 5) _ _ _ _ _ :: _) _ _
         refine wpList_load_blkG 25 (.tmp 2) rfl rfl rfl H1.out.2.1 [.slice AP ps.length cp, .slice AT ts.length ct] at0 rowSheetP ?_)
      | (show wpList _ _ _ (Oper.mk (some 6) _ _ _ _ _ :: _) _ _
         refine wpList_load_blkG 28 (.tmp 3) rfl rfl rfl H1.out.2.2 [.slice AG gs.length cg, .int .i64 vary] at0 rowGradingP ?_)
      | (show wpList _ _ _ (Oper.mk (some 10) _ _ _ _ _ :: _) _ _
         refine wpList_load_blkG 25 (.tmp 2) rfl rfl rfl H2.out.2.1 [.slice AP ps.length cp, .slice AT ts.length ct] at0 rowSheetP ?_)
      | (show wpList _ _ _ (Oper.mk (some 11) _ _ _ _ _ :: _) _ _
         refine wpList_load_blkG 28 (.tmp 3) rfl rfl rfl H2.out.2.2 [.slice AG gs.length cg, .int .i64 vary] at0 rowGradingP ?_))
    go_ret
    exact ⟨rfl, H3.out⟩
theorem rdyS_parts {gs : List Gd} {vary : Int} {ps : List Pol} {ts : List Ts} (h : rdyS gs vary ps ts = true) : (ps.length ≤ 16 ∧ ts.length ≤ 26 ∧ gs.length ≤ 6) ∧ gChk gs vary ps ts = 0 := by
  unfold rdyS at h
  simp only [Bool.and_eq_true, Bool.not_eq_true', decide_eq_true_eq] at h
  refine ⟨?_, h.2⟩
  have := h.1
  unfold bigS at this
  simp at this
  omega

/-- Two twins of a sheet, and the boxes that they come into (operations 1, 3; 4, 5; 6, 7; slots a, b; p, q). -/
structure TsC (w0 : World) (ps : List Pol) (ts : List Ts) (K : List (Nat × Obj)) (a b p q : Nat) (D : Nat → Bool) (σ : Nat → Value) (W : World) : Prop where
  bel : Below w0.heap.size w0 W
  box : keptK K W
  sa : D 1 = true → ∃ v1 v2, σ a = .agg #[v1, v2] ∧ OwnS W w0.heap.size ps ts v1 v2
  sb : D 3 = true → ∃ v1 v2, σ b = .agg #[v1, v2] ∧ OwnS W w0.heap.size ps ts v1 v2
  sp : D 4 = true → ∃ g, σ p = .pointer (some ⟨g, 0, none⟩) ∧ w0.heap.size ≤ g ∧ (∃ X : List Value, X.length = 2 ∧ W.heap[g]? = some (.cells X.toArray 25 (0, 0)) ∧ (D 6 = true → σ a = .agg X.toArray)) ∧ (D 5 = true → σ q ≠ .pointer (some ⟨g, 0, none⟩))
  sq : D 5 = true → ∃ g, σ q = .pointer (some ⟨g, 0, none⟩) ∧ w0.heap.size ≤ g ∧ ∃ X : List Value, X.length = 2 ∧ W.heap[g]? = some (.cells X.toArray 25 (0, 0)) ∧ (D 7 = true → σ b = .agg X.toArray)
def tsK (a b p q k : Nat) (d : Option Nat) : Bool := !(k == 1 || k == 3 || k == 4 || k == 5 || k == 6 || k == 7 || d == some a || d == some b || d == some p || d == some q)
section
variable {w0 W W' : World} {ps : List Pol} {ts : List Ts} {K : List (Nat × Obj)} {a b p q : Nat} {D : Nat → Bool} {σ : Nat → Value}
theorem TsC.move {k : Nat} {d : Option Nat} {v : Value} (h : TsC w0 ps ts K a b p q D σ W) (hk : tsK a b p q k d = true) : TsC w0 ps ts K a b p q (done D k) (R4.upd σ d v) W := by
  simp only [tsK, Bool.not_eq_true', Bool.or_eq_false_iff, beq_eq_false_iff_ne, ne_eq] at hk
  obtain ⟨⟨⟨⟨⟨⟨⟨⟨⟨a1, a3⟩, a4⟩, a5⟩, a6⟩, a7⟩, da⟩, db⟩, dp⟩, dq⟩ := hk
  have f := fun j (hj : j ≠ k) => done_ne (D := D) (k := k) (j := j) hj
  exact ⟨h.bel, h.box, by rw [f 1 (by omega), upd_ne (ρ := σ) (v := v) da]; exact h.sa, by rw [f 3 (by omega), upd_ne (ρ := σ) (v := v) db]; exact h.sb,
    by rw [f 4 (by omega), f 5 (by omega), f 6 (by omega), upd_ne (ρ := σ) (v := v) da, upd_ne (ρ := σ) (v := v) dp, upd_ne (ρ := σ) (v := v) dq]; exact h.sp, by rw [f 5 (by omega), f 7 (by omega), upd_ne (ρ := σ) (v := v) db, upd_ne (ρ := σ) (v := v) dq]; exact h.sq⟩
theorem TsC.grows (h : TsC w0 ps ts K a b p q D σ W) (hg : Grows W W') : TsC w0 ps ts K a b p q D σ W' :=
  ⟨h.bel.trans (hg.mono h.bel.size), h.box.next hg, fun x => let ⟨v1, v2, e, o⟩ := h.sa x; ⟨v1, v2, e, o.grows hg⟩, fun x => let ⟨v1, v2, e, o⟩ := h.sb x; ⟨v1, v2, e, o.grows hg⟩,
   fun x => let ⟨g, e, hb, ⟨X, hX, hh, hd⟩, hn⟩ := h.sp x; ⟨g, e, hb, ⟨X, hX, (hg.block _ (lt_of_heap hh)).trans hh, hd⟩, hn⟩, fun x => let ⟨g, e, hb, X, hX, hh, hd⟩ := h.sq x; ⟨g, e, hb, X, hX, (hg.block _ (lt_of_heap hh)).trans hh, hd⟩⟩
theorem TsC.twa {v1 v2 : Value} (h : TsC w0 ps ts K a b p q D σ W) (h6 : D 6 = false) (n1 : (b == a) = false) (n2 : (p == a) = false) (n3 : (q == a) = false) (hg : Grows W W') (ho : OwnS W' W.heap.size ps ts v1 v2) : TsC w0 ps ts K a b p q (done D 1) (R4.upd σ (some a) (.agg #[v1, v2])) W' := by
  have h' := h.grows hg
  simp only [beq_eq_false_iff_ne, ne_eq] at n1 n2 n3
  have f := fun j (hj : j ≠ 1) => done_ne (D := D) (k := 1) (j := j) hj
  have u := fun (t : Nat) (ht : ¬ t = a) => upd_ne (ρ := σ) (d := some a) (v := .agg #[v1, v2]) (t := t) (fun e => ht (by injection e with e; exact e.symm))
  refine ⟨h'.bel, h'.box, fun _ => ⟨v1, v2, upd_me, own_weak ho.1 h.bel.size, own_weak ho.2 h.bel.size⟩, by rw [f 3 (by decide), u b n1]; exact h'.sb, ?_, by rw [f 5 (by decide), f 7 (by decide), u q n3, u b n1]; exact h'.sq⟩
  rw [f 4 (by decide), f 5 (by decide), f 6 (by decide), u p n2, u q n3]
  exact fun x => let ⟨g, e, hb, ⟨X, hX, hh, _⟩, hn⟩ := h'.sp x; ⟨g, e, hb, ⟨X, hX, hh, fun e6 => by rw [h6] at e6; cases e6⟩, hn⟩
theorem TsC.twb {v1 v2 : Value} (h : TsC w0 ps ts K a b p q D σ W) (h7 : D 7 = false) (n1 : (a == b) = false) (n2 : (p == b) = false) (n3 : (q == b) = false) (hg : Grows W W') (ho : OwnS W' W.heap.size ps ts v1 v2) : TsC w0 ps ts K a b p q (done D 3) (R4.upd σ (some b) (.agg #[v1, v2])) W' := by
  have h' := h.grows hg
  simp only [beq_eq_false_iff_ne, ne_eq] at n1 n2 n3
  have f := fun j (hj : j ≠ 3) => done_ne (D := D) (k := 3) (j := j) hj
  have u := fun (t : Nat) (ht : ¬ t = b) => upd_ne (ρ := σ) (d := some b) (v := .agg #[v1, v2]) (t := t) (fun e => ht (by injection e with e; exact e.symm))
  refine ⟨h'.bel, h'.box, by rw [f 1 (by decide), u a n1]; exact h'.sa, fun _ => ⟨v1, v2, upd_me, own_weak ho.1 h.bel.size, own_weak ho.2 h.bel.size⟩, by rw [f 4 (by decide), f 5 (by decide), f 6 (by decide), u p n2, u q n3, u a n1]; exact h'.sp, ?_⟩
  rw [f 5 (by decide), f 7 (by decide), u q n3]
  exact fun x => let ⟨g, e, hb, X, hX, hh, _⟩ := h'.sq x; ⟨g, e, hb, X, hX, hh, fun e7 => by rw [h7] at e7; cases e7⟩
theorem TsC.alp {X : List Value} (hX : X.length = 2) (h : TsC w0 ps ts K a b p q D σ W) (h6 : D 6 = false) (n1 : (a == p) = false) (n2 : (b == p) = false) (n3 : (q == p) = false) : TsC w0 ps ts K a b p q (done D 4) (R4.upd σ (some p) (.pointer (some ⟨W.heap.size, 0, none⟩))) (W.alloc (.cells X.toArray 25)) := by
  have h' := h.grows (grow1 W (.cells X.toArray 25))
  simp only [beq_eq_false_iff_ne, ne_eq] at n1 n2 n3
  have f := fun j (hj : j ≠ 4) => done_ne (D := D) (k := 4) (j := j) hj
  have u := fun (t : Nat) (ht : ¬ t = p) => upd_ne (ρ := σ) (d := some p) (v := .pointer (some ⟨W.heap.size, 0, none⟩)) (t := t) (fun e => ht (by injection e with e; exact e.symm))
  refine ⟨h'.bel, h'.box, by rw [f 1 (by decide), u a n1]; exact h'.sa, by rw [f 3 (by decide), u b n2]; exact h'.sb, fun _ => ⟨_, upd_me, h.bel.size, ⟨X, hX, alloc_at0 _ _, (by rw [f 6 (by decide), h6]; intro e; cases e)⟩, ?_⟩, by rw [f 5 (by decide), f 7 (by decide), u q n3, u b n2]; exact h'.sq⟩
  rw [f 5 (by decide), u q n3]
  intro h5 e
  obtain ⟨g, e2, _, X', _, hh, _⟩ := h.sq h5
  rw [e2] at e
  simp only [Value.pointer.injEq, Option.some.injEq, Addr.mk.injEq, and_true] at e
  have := lt_of_heap hh
  omega
theorem TsC.alq {X : List Value} (hX : X.length = 2) (h : TsC w0 ps ts K a b p q D σ W) (h7 : D 7 = false) (n1 : (a == q) = false) (n2 : (b == q) = false) (n3 : (p == q) = false) : TsC w0 ps ts K a b p q (done D 5) (R4.upd σ (some q) (.pointer (some ⟨W.heap.size, 0, none⟩))) (W.alloc (.cells X.toArray 25)) := by
  have h' := h.grows (grow1 W (.cells X.toArray 25))
  simp only [beq_eq_false_iff_ne, ne_eq] at n1 n2 n3
  have f := fun j (hj : j ≠ 5) => done_ne (D := D) (k := 5) (j := j) hj
  have u := fun (t : Nat) (ht : ¬ t = q) => upd_ne (ρ := σ) (d := some q) (v := .pointer (some ⟨W.heap.size, 0, none⟩)) (t := t) (fun e => ht (by injection e with e; exact e.symm))
  refine ⟨h'.bel, h'.box, by rw [f 1 (by decide), u a n1]; exact h'.sa, by rw [f 3 (by decide), u b n2]; exact h'.sb, ?_, fun _ => ⟨_, upd_me, h.bel.size, X, hX, alloc_at0 _ _, (by rw [f 7 (by decide), h7]; intro e; cases e)⟩⟩
  rw [f 4 (by decide), f 6 (by decide), u a n1, u p n3]
  exact fun x => let ⟨g, e, hb, ⟨Y, hY, hh, hd⟩, _⟩ := h'.sp x; ⟨g, e, hb, ⟨Y, hY, hh, hd⟩, fun _ e2 => by
    rw [upd_me] at e2
    simp only [Value.pointer.injEq, Option.some.injEq, Addr.mk.injEq, and_true] at e2
    obtain ⟨g2, e3, _, ⟨Y2, _, hh2, _⟩, _⟩ := h.sp x
    rw [e3] at e
    simp only [Value.pointer.injEq, Option.some.injEq, Addr.mk.injEq, and_true] at e
    have := lt_of_heap hh2
    omega⟩
theorem TsC.putp {g : Nat} {X Y : List Value} (h : TsC w0 ps ts K a b p q D σ W) (hP : Put W W' g) (hb : w0.heap.size ≤ g) (hK : ∀ e ∈ K, e.1 ≠ g) (hX : W.heap[g]? = some (.cells X.toArray 25 (0, 0))) (hv : σ p = .pointer (some ⟨g, 0, none⟩)) (hl : Y.length = 2) (hY : W'.heap[g]? = some (.cells Y.toArray 25 (0, 0))) (ha : σ a = .agg Y.toArray) (hn : D 5 = true → σ q ≠ .pointer (some ⟨g, 0, none⟩)) :
    TsC w0 ps ts K a b p q (done D 6) σ W' := by
  have f := fun j (hj : j ≠ 6) => done_ne (D := D) (k := 6) (j := j) hj
  refine ⟨h.bel.trans (hP.below hb), h.box.put hP hK, ?_, ?_, fun _ => ⟨g, hv, hb, ⟨Y, hl, hY, fun _ => ha⟩, by rw [f 5 (by decide)]; exact hn⟩, ?_⟩
  · rw [f 1 (by decide)]; exact fun x => let ⟨v1, v2, e, o⟩ := h.sa x; ⟨v1, v2, e, own_put o.1 hP hX (by decide), own_put o.2 hP hX (by decide)⟩
  · rw [f 3 (by decide)]; exact fun x => let ⟨v1, v2, e, o⟩ := h.sb x; ⟨v1, v2, e, own_put o.1 hP hX (by decide), own_put o.2 hP hX (by decide)⟩
  · rw [f 5 (by decide), f 7 (by decide)]
    exact fun x => let ⟨g', e, hb', X', hX', hh, hd⟩ := h.sq x; ⟨g', e, hb', X', hX', (hP.other _ (fun e2 => by subst e2; exact hn x e)).trans hh, hd⟩
theorem TsC.putq {g : Nat} {X Y : List Value} (h : TsC w0 ps ts K a b p q D σ W) (hP : Put W W' g) (hb : w0.heap.size ≤ g) (hK : ∀ e ∈ K, e.1 ≠ g) (hX : W.heap[g]? = some (.cells X.toArray 25 (0, 0))) (h5 : D 5 = true) (hv : σ q = .pointer (some ⟨g, 0, none⟩)) (hl : Y.length = 2) (hY : W'.heap[g]? = some (.cells Y.toArray 25 (0, 0))) (hbb : σ b = .agg Y.toArray) :
    TsC w0 ps ts K a b p q (done D 7) σ W' := by
  have f := fun j (hj : j ≠ 7) => done_ne (D := D) (k := 7) (j := j) hj
  refine ⟨h.bel.trans (hP.below hb), h.box.put hP hK, ?_, ?_, ?_, fun _ => ⟨g, hv, hb, Y, hl, hY, fun _ => hbb⟩⟩
  · rw [f 1 (by decide)]; exact fun x => let ⟨v1, v2, e, o⟩ := h.sa x; ⟨v1, v2, e, own_put o.1 hP hX (by decide), own_put o.2 hP hX (by decide)⟩
  · rw [f 3 (by decide)]; exact fun x => let ⟨v1, v2, e, o⟩ := h.sb x; ⟨v1, v2, e, own_put o.1 hP hX (by decide), own_put o.2 hP hX (by decide)⟩
  · rw [f 4 (by decide), f 5 (by decide), f 6 (by decide)]
    exact fun x => let ⟨g', e, hb', ⟨X', hX', hh, hd⟩, hn⟩ := h.sp x; ⟨g', e, hb', ⟨X', hX', (hP.other _ (fun e2 => by subst e2; exact hn h5 hv)).trans hh, hd⟩, hn⟩
end
theorem vals_take5 {α : Type} {f : α → List Value} {w : World} {B : Nat} {A : Option Addr} {l : List α} (h : Vals w B A (l.flatMap f)) (m : Nat) : Vals w B A ((l.take m).flatMap f) := by
  have e : l.flatMap f = (l.take m).flatMap f ++ (l.drop m).flatMap f := by rw [← List.flatMap_append, List.take_append_drop]
  intro h0
  obtain ⟨b, off, hA, hb, hc⟩ := h (by rw [e, List.length_append]; omega)
  exact ⟨b, off, hA, hb, fun k v hk => hc k v (by rw [e, List.getElem?_append_left (List.getElem?_eq_some_iff.1 hk).1]; exact hk)⟩

end Go.Proofs.YtboffligjgjgjaaGreat
