/-
  Which dryings and ponds are valid; what is left.
-/
import Derived.Test.YtfampdiompjmeaaCdA
namespace Go.Proofs.Ytfampdiompjmeaa
open Go.RowKit
open R6 (done done_ne done_me upd_ne upd_me)

attribute [local go_sem] gives

theorem ints_lit {w : World} {g : Nat} {cs : Array Value} (zs : List Int) (h : w.heap[g]? = some (.cells cs 3 (0, 0))) (he : cs = (ints zs).toArray) : Ints w w.heap.size (some ⟨g, 0, none⟩) zs := fun _ =>
  ⟨g, 0, rfl, (Array.getElem?_eq_some_iff.1 h).1, fun k hk => by subst he; rw [Nat.zero_add]; exact (cell_of_row w g k _ _ _ h).trans (ints_at zs k hk)⟩

/-- A span is one, and lies in another one. -/
def okS (lo hi a b : Int) : Bool := decide (lo ≤ hi) && allB a b [lo, hi]

theorem validSpan_any (lo hi a b : Int) (w : World) :
    Calls Try.prog 71 #[.agg #[.int .i64 lo, .int .i64 hi], .agg #[.int .i64 a, .int .i64 b]] w fun e w' => e = .returned (.bool (okS lo hi a b)) ∧ Below w.heap.size w w' := by
  by_cases h : lo ≤ hi
  · have e : okS lo hi a b = allB a b [lo, hi] := by simp [okS, h]
    rw [e]
    clear e
    have H := within_any a b (some ⟨w.heap.size + 1 + 1, 0, none⟩) 2 [lo, hi] _ (((w.alloc (.cells #[.int .i64 lo, .int .i64 hi] 26)).alloc (.cells #[.int .i64 a, .int .i64 b] 26)).alloc (.cells #[.int .i64 lo, .int .i64 hi] 3)) (Nat.le_refl _) (ints_lit [lo, hi] (alloc3_at2 _ _ _ _) rfl) (by simp)
    have hg : Below w.heap.size w (((w.alloc (.cells #[.int .i64 lo, .int .i64 hi] 26)).alloc (.cells #[.int .i64 a, .int .i64 b] 26)).alloc (.cells #[.int .i64 lo, .int .i64 hi] 3)) := (((Below.refl _ _).alloc (Nat.le_refl _) _).alloc (by simp) _).alloc (by simp; omega) _
    generalize allB a b [lo, hi] = v at H
    have HH := Lib.hid H
    have HG := Lib.hid hg
    clear H hg
    go_enter Try.func71, Try.ntmps71
    go_wp2_with (go_at_call 45; refine HH.out.mono ?_; rintro e w' ⟨rfl, hB⟩; have HB := Lib.hid hB; clear hB)
    go_ret
    exact ⟨rfl, HG.out.trans (HB.out.mono HG.out.size)⟩
  · have e : okS lo hi a b = false := by simp [okS, h]
    rw [e]
    clear e
    go_enter Try.func71, Try.ntmps71
    go_wp2
    go_ret
    exact ⟨rfl, ((Below.refl _ _).alloc (Nat.le_refl _) _).alloc (by simp) _⟩

/-- A box, and, where it is wanted, a list of one number that a region makes. -/
structure BoxC (w0 : World) (x : Nat) (cs : Array Value) (ty : TypeId) (on : Bool) (kb tb : Nat) (n : Int) (D : Nat → Bool) (σ : Nat → Value) (W : World) : Prop where
  bel : Below w0.heap.size w0 W
  box : W.heap[x]? = some (.cells cs ty (0, 0))
  new : on = true → D kb = true → ∃ b, σ tb = .slice (some ⟨b, 0, none⟩) 1 1 ∧ W.heap[b]? = some (.cells #[.int .i64 n] 3 (0, 0))
def boxK (kb tb k : Nat) (d : Option Nat) : Bool := !(k == kb || d == some tb)
section
variable {w0 W W' : World} {x : Nat} {cs : Array Value} {ty : TypeId} {on : Bool} {kb tb : Nat} {n : Int} {D : Nat → Bool} {σ : Nat → Value}
theorem BoxC.move {k : Nat} {d : Option Nat} {v : Value} (h : BoxC w0 x cs ty on kb tb n D σ W) (hk : boxK kb tb k d = true) : BoxC w0 x cs ty on kb tb n (done D k) (R4.upd σ d v) W := by
  simp only [boxK, Bool.not_eq_true', Bool.or_eq_false_iff, beq_eq_false_iff_ne, ne_eq] at hk
  have e1 := done_ne (D := D) (k := k) (j := kb) (by omega)
  have u1 := upd_ne (ρ := σ) (v := v) hk.2
  exact ⟨h.bel, h.box, by rw [e1, u1]; exact h.new⟩
theorem BoxC.skip {D' : Nat → Bool} {σ' : Nat → Value} (h : BoxC w0 x cs ty false kb tb n D σ W) : BoxC w0 x cs ty false kb tb n D' σ' W := ⟨h.bel, h.box, fun e => by cases e⟩
theorem BoxC.next (h : BoxC w0 x cs ty on kb tb n D σ W) (hg : Grows W W') : BoxC w0 x cs ty on kb tb n D σ W' :=
  ⟨h.bel.trans (hg.mono h.bel.size), (hg.block _ (lt_of_heap h.box)).trans h.box, fun e f => let ⟨b, h1, h2⟩ := h.new e f; ⟨b, h1, (hg.block _ (lt_of_heap h2)).trans h2⟩⟩
theorem BoxC.made (h : BoxC w0 x cs ty on kb tb n D σ W) : BoxC w0 x cs ty on kb tb n (done D kb) (R4.upd σ (some tb) (.slice (some ⟨W.heap.size, 0, none⟩) 1 1)) (W.alloc (.cells #[.int .i64 n] 3)) :=
  ⟨(h.next (grow1 _ _)).bel, (h.next (grow1 _ _)).box, fun _ _ => ⟨_, upd_me, alloc_at0 _ _⟩⟩
theorem BoxC.start (hb : W = w0.alloc (.cells cs ty)) (hD : D kb = false) : BoxC w0 w0.heap.size cs ty on kb tb n D σ W.drew := by
  subst hb
  exact ⟨((Below.refl _ _).alloc (Nat.le_refl _) _).drew, alloc_at0 _ _, fun _ e => by rw [hD] at e; cases e⟩
end

/-- A drying: between which numbers it is wet, what part is lost each day, and how wet it may be. -/
structure Dr where
  wl : Int
  wh : Int
  ll : Int
  lh : Int
  most : Int
def dcells (d : Dr) : Array Value := #[.int .i64 d.wl, .int .i64 d.wh, .int .i64 d.ll, .int .i64 d.lh, .int .i64 d.most]
def okDr (d : Dr) : Bool := okS d.wl d.wh 0 1000 && okS d.ll d.lh 0 1000 && allB 0 1000 [d.most]
/-- A pond: what part flows out each day, and its limit. -/
structure Po where
  ol : Int
  oh : Int
  lim : Int
def pcells (p : Po) : Array Value := #[.int .i64 p.ol, .int .i64 p.oh, .int .i64 p.lim]
def okPo (p : Po) : Bool := okS p.ol p.oh 0 1000 && allB 0 1000000 [p.lim]
def okDrains (zs : List Int) : Bool := decide (zs.length ≤ 40) && allB 0 100000 zs

set_option maxRecDepth 100000 in
set_option maxHeartbeats 4000000 in
theorem validPond_any (p : Po) (w : World) :
    Calls Try.prog 56 #[.agg (pcells p)] w fun e w' => e = .returned (.bool (okPo p)) ∧ Below w.heap.size w w' := by
  unfold pcells
  cases h1 : okS p.ol p.oh 0 1000 with
  | false =>
    have e : okPo p = false := by simp [okPo, h1]
    rw [e]
    have H1 := Lib.hid h1
    clear e h1
    go_enter Try.func56, Try.ntmps56
    go_wp2
    refine R6.wp_walk (C := BoxC w w.heap.size #[.int .i64 p.ol, .int .i64 p.oh, .int .i64 p.lim] 46 false 8 11 p.lim) 14 (by kernel_rfl) (by kernel_rfl) rfl (BoxC.start rfl rfl) ?_
    simp only []
    repeat (first
      | (refine R6.WalkR.un (fun _ => rfl) (fun D ρ W hK hC => hC.skip) ?_
         simp only [Act.put, List.setIfInBounds_toArray, List.set_cons_succ, List.set_cons_zero])
      | (refine' R6.WalkR.det (fun _ => rfl) (fun D ρ W hK hC => ?_) ?_
         rotate_left
         · have hcb := fun i => cell_of_row W w.heap.size i _ _ _ hC.box
           have HC := Lib.hid hC
           clear hC hK
           go_simp
           first
             | with_reducible exact ⟨rfl, HC.out.skip⟩
             | (go_at_call 67; refine (upTo_any _ W).mono ?_; rintro e W1 ⟨rfl, hB1⟩; exact ⟨_, rfl, rfl, (HC.out.next hB1).skip⟩)
             | (go_at_call 71; refine (validSpan_any _ _ _ _ W).mono ?_; rintro e W1 ⟨rfl, hB1⟩; rw [H1.out]; exact ⟨_, rfl, rfl, (HC.out.next hB1).skip⟩)
         simp only [Act.put, List.setIfInBounds_toArray, List.set_cons_succ, List.set_cons_zero]))
    refine R6.WalkR.nil (fun D ρ W hD hC => ?_)
    have HB := Lib.hid hC.bel
    clear hC hD
    go_wp2
    go_ret
    exact ⟨rfl, HB.out⟩
  | true =>
    have e : okPo p = allB 0 1000000 [p.lim] := by simp [okPo, h1]
    rw [e]
    have H1 := Lib.hid h1
    have H2 := fun b W (hm : W.heap[b]? = some (.cells #[.int .i64 p.lim] 3 (0, 0))) => within_any 0 1000000 (some ⟨b, 0, none⟩) 1 [p.lim] _ W (Nat.le_refl _) (ints_lit [p.lim] hm rfl) (by simp)
    generalize allB 0 1000000 [p.lim] = v at H2
    have HW := Lib.hid H2
    clear e h1 H2
    go_enter Try.func56, Try.ntmps56
    go_wp2
    refine R6.wp_walk (C := BoxC w w.heap.size #[.int .i64 p.ol, .int .i64 p.oh, .int .i64 p.lim] 46 true 8 11 p.lim) 14 (by kernel_rfl) (by kernel_rfl) rfl (BoxC.start rfl rfl) ?_
    simp only []
    repeat (first
      | (refine' R6.WalkR.det (fun _ => rfl) (fun D ρ W hK hC => ?_) ?_
         rotate_left
         · have hcb := fun i => cell_of_row W w.heap.size i _ _ _ hC.box
           have HC := Lib.hid hC
           clear hC hK
           go_simp
           first
             | with_reducible exact ⟨rfl, HC.out.move (by decide)⟩
             | (go_at_call 67; refine (upTo_any _ W).mono ?_; rintro e W1 ⟨rfl, hB1⟩; exact ⟨_, rfl, rfl, (HC.out.next hB1).move (by decide)⟩)
             | (go_at_call 71; refine (validSpan_any _ _ _ _ W).mono ?_; rintro e W1 ⟨rfl, hB1⟩; rw [H1.out]; exact ⟨_, rfl, rfl, (HC.out.next hB1).move (by decide)⟩)
         simp only [Act.put, List.setIfInBounds_toArray, List.set_cons_succ, List.set_cons_zero]))
    refine' R6.WalkR.nd (fun _ => rfl) rfl (fun D ρ W hK hC => ?_) ?_
    · have hcb := fun i => cell_of_row W w.heap.size i _ _ _ hC.box
      have HC := Lib.hid hC
      clear hC hK
      go_simp
      exact HC.out.made
    simp only [Act.put, List.setIfInBounds_toArray, List.set_cons_succ, List.set_cons_zero]
    refine' R6.WalkR.det (fun _ => rfl) (fun D ρ W hK hC => ?_) ?_
    rotate_left
    · obtain ⟨b, hv, hm⟩ := hC.new rfl (hK.pre 8 (by first | decide +kernel | (dsimp only; decide +kernel)))
      have HC := Lib.hid hC
      have HM := Lib.hid hm
      clear hC hK hm
      go_simp
      go_at_call 45
      refine (HW.out b W HM.out).mono ?_
      rintro e W1 ⟨rfl, hB1⟩
      exact ⟨_, rfl, rfl, (HC.out.next hB1).move (by decide)⟩
    simp only [Act.put, List.setIfInBounds_toArray, List.set_cons_succ, List.set_cons_zero]
    repeat (first
      | (refine' R6.WalkR.det (fun _ => rfl) (fun D ρ W hK hC => ?_) ?_
         rotate_left
         · have hcb := fun i => cell_of_row W w.heap.size i _ _ _ hC.box
           have HC := Lib.hid hC
           clear hC hK
           go_simp
           first
             | with_reducible exact ⟨rfl, HC.out.move (by decide)⟩
             | fail
         simp only [Act.put, List.setIfInBounds_toArray, List.set_cons_succ, List.set_cons_zero]))
    refine R6.WalkR.nil (fun D ρ W hD hC => ?_)
    have HB := Lib.hid hC.bel
    clear hC hD
    go_wp2
    go_ret
    exact ⟨rfl, HB.out⟩

set_option maxRecDepth 100000 in
set_option maxHeartbeats 4000000 in
theorem validDrying_any (d : Dr) (w : World) :
    Calls Try.prog 52 #[.agg (dcells d)] w fun e w' => e = .returned (.bool (okDr d)) ∧ Below w.heap.size w w' := by
  unfold dcells
  rcases (by cases okS d.wl d.wh 0 1000 <;> cases okS d.ll d.lh 0 1000 <;> simp : okS d.wl d.wh 0 1000 = false ∨ (okS d.wl d.wh 0 1000 = true ∧ okS d.ll d.lh 0 1000 = false) ∨ (okS d.wl d.wh 0 1000 = true ∧ okS d.ll d.lh 0 1000 = true)) with h1 | ⟨h1, h2⟩ | ⟨h1, h2⟩
  · have e : okDr d = false := by simp [okDr, h1]
    rw [e]
    have H1 := Lib.hid h1
    clear e h1
    go_enter Try.func52, Try.ntmps52
    go_wp2
    refine R6.wp_walk (C := BoxC w w.heap.size #[.int .i64 d.wl, .int .i64 d.wh, .int .i64 d.ll, .int .i64 d.lh, .int .i64 d.most] 41 false 14 17 d.most) 20 (by kernel_rfl) (by kernel_rfl) rfl (BoxC.start rfl rfl) ?_
    simp only []
    repeat (first
      | (refine R6.WalkR.un (fun _ => rfl) (fun D ρ W hK hC => hC.skip) ?_
         simp only [Act.put, List.setIfInBounds_toArray, List.set_cons_succ, List.set_cons_zero])
      | (refine' R6.WalkR.det (fun _ => rfl) (fun D ρ W hK hC => ?_) ?_
         rotate_left
         · have hcb := fun i => cell_of_row W w.heap.size i _ _ _ hC.box
           have HC := Lib.hid hC
           clear hC hK
           go_simp
           first
             | with_reducible exact ⟨rfl, HC.out.skip⟩
             | (go_at_call 67; refine (upTo_any _ W).mono ?_; rintro e W1 ⟨rfl, hB1⟩; exact ⟨_, rfl, rfl, (HC.out.next hB1).skip⟩)
             | (go_at_call 71; (with_reducible show Calls _ _ #[.agg #[.int _ d.wl, _], _] _ _); refine (validSpan_any _ _ _ _ W).mono ?_; rintro e W1 ⟨rfl, hB1⟩; rw [H1.out]; exact ⟨_, rfl, rfl, (HC.out.next hB1).skip⟩)
         simp only [Act.put, List.setIfInBounds_toArray, List.set_cons_succ, List.set_cons_zero]))
    refine R6.WalkR.nil (fun D ρ W hD hC => ?_)
    have HB := Lib.hid hC.bel
    clear hC hD
    go_wp2
    go_ret
    exact ⟨rfl, HB.out⟩
  · have e : okDr d = false := by simp [okDr, h1, h2]
    rw [e]
    have H1 := Lib.hid h1
    have H2 := Lib.hid h2
    clear e h1 h2
    go_enter Try.func52, Try.ntmps52
    go_wp2
    refine R6.wp_walk (C := BoxC w w.heap.size #[.int .i64 d.wl, .int .i64 d.wh, .int .i64 d.ll, .int .i64 d.lh, .int .i64 d.most] 41 false 14 17 d.most) 20 (by kernel_rfl) (by kernel_rfl) rfl (BoxC.start rfl rfl) ?_
    simp only []
    repeat (first
      | (refine R6.WalkR.un (fun _ => rfl) (fun D ρ W hK hC => hC.skip) ?_
         simp only [Act.put, List.setIfInBounds_toArray, List.set_cons_succ, List.set_cons_zero])
      | (refine' R6.WalkR.det (fun _ => rfl) (fun D ρ W hK hC => ?_) ?_
         rotate_left
         · have hcb := fun i => cell_of_row W w.heap.size i _ _ _ hC.box
           have HC := Lib.hid hC
           clear hC hK
           go_simp
           first
             | with_reducible exact ⟨rfl, HC.out.skip⟩
             | (go_at_call 67; refine (upTo_any _ W).mono ?_; rintro e W1 ⟨rfl, hB1⟩; exact ⟨_, rfl, rfl, (HC.out.next hB1).skip⟩)
             | (go_at_call 71; (with_reducible show Calls _ _ #[.agg #[.int _ d.wl, _], _] _ _); refine (validSpan_any _ _ _ _ W).mono ?_; rintro e W1 ⟨rfl, hB1⟩; rw [H1.out]; exact ⟨_, rfl, rfl, (HC.out.next hB1).skip⟩)
             | (go_at_call 71; (with_reducible show Calls _ _ #[.agg #[.int _ d.ll, _], _] _ _); refine (validSpan_any _ _ _ _ W).mono ?_; rintro e W1 ⟨rfl, hB1⟩; rw [H2.out]; exact ⟨_, rfl, rfl, (HC.out.next hB1).skip⟩)
         simp only [Act.put, List.setIfInBounds_toArray, List.set_cons_succ, List.set_cons_zero]))
    refine R6.WalkR.nil (fun D ρ W hD hC => ?_)
    have HB := Lib.hid hC.bel
    clear hC hD
    go_wp2
    go_ret
    exact ⟨rfl, HB.out⟩
  · have e : okDr d = allB 0 1000 [d.most] := by simp [okDr, h1, h2]
    rw [e]
    have H1 := Lib.hid h1
    have H2 := Lib.hid h2
    have H3 := fun b W (hm : W.heap[b]? = some (.cells #[.int .i64 d.most] 3 (0, 0))) => within_any 0 1000 (some ⟨b, 0, none⟩) 1 [d.most] _ W (Nat.le_refl _) (ints_lit [d.most] hm rfl) (by simp)
    generalize allB 0 1000 [d.most] = v at H3
    have HW := Lib.hid H3
    clear e h1 h2 H3
    go_enter Try.func52, Try.ntmps52
    go_wp2
    refine R6.wp_walk (C := BoxC w w.heap.size #[.int .i64 d.wl, .int .i64 d.wh, .int .i64 d.ll, .int .i64 d.lh, .int .i64 d.most] 41 true 14 17 d.most) 20 (by kernel_rfl) (by kernel_rfl) rfl (BoxC.start rfl rfl) ?_
    simp only []
    repeat (first
      | (refine' R6.WalkR.det (fun _ => rfl) (fun D ρ W hK hC => ?_) ?_
         rotate_left
         · have hcb := fun i => cell_of_row W w.heap.size i _ _ _ hC.box
           have HC := Lib.hid hC
           clear hC hK
           go_simp
           first
             | with_reducible exact ⟨rfl, HC.out.move (by decide)⟩
             | (go_at_call 67; refine (upTo_any _ W).mono ?_; rintro e W1 ⟨rfl, hB1⟩; exact ⟨_, rfl, rfl, (HC.out.next hB1).move (by decide)⟩)
             | (go_at_call 71; (with_reducible show Calls _ _ #[.agg #[.int _ d.wl, _], _] _ _); refine (validSpan_any _ _ _ _ W).mono ?_; rintro e W1 ⟨rfl, hB1⟩; rw [H1.out]; exact ⟨_, rfl, rfl, (HC.out.next hB1).move (by decide)⟩)
             | (go_at_call 71; (with_reducible show Calls _ _ #[.agg #[.int _ d.ll, _], _] _ _); refine (validSpan_any _ _ _ _ W).mono ?_; rintro e W1 ⟨rfl, hB1⟩; rw [H2.out]; exact ⟨_, rfl, rfl, (HC.out.next hB1).move (by decide)⟩)
         simp only [Act.put, List.setIfInBounds_toArray, List.set_cons_succ, List.set_cons_zero]))
    refine' R6.WalkR.nd (fun _ => rfl) rfl (fun D ρ W hK hC => ?_) ?_
    · have hcb := fun i => cell_of_row W w.heap.size i _ _ _ hC.box
      have HC := Lib.hid hC
      clear hC hK
      go_simp
      exact HC.out.made
    simp only [Act.put, List.setIfInBounds_toArray, List.set_cons_succ, List.set_cons_zero]
    refine' R6.WalkR.det (fun _ => rfl) (fun D ρ W hK hC => ?_) ?_
    rotate_left
    · obtain ⟨b, hv, hm⟩ := hC.new rfl (hK.pre 14 (by first | decide +kernel | (dsimp only; decide +kernel)))
      have HC := Lib.hid hC
      have HM := Lib.hid hm
      clear hC hK hm
      go_simp
      go_at_call 45
      refine (HW.out b W HM.out).mono ?_
      rintro e W1 ⟨rfl, hB1⟩
      exact ⟨_, rfl, rfl, (HC.out.next hB1).move (by decide)⟩
    simp only [Act.put, List.setIfInBounds_toArray, List.set_cons_succ, List.set_cons_zero]
    repeat (first
      | (refine' R6.WalkR.det (fun _ => rfl) (fun D ρ W hK hC => ?_) ?_
         rotate_left
         · have hcb := fun i => cell_of_row W w.heap.size i _ _ _ hC.box
           have HC := Lib.hid hC
           clear hC hK
           go_simp
           first
             | with_reducible exact ⟨rfl, HC.out.move (by decide)⟩
             | fail
         simp only [Act.put, List.setIfInBounds_toArray, List.set_cons_succ, List.set_cons_zero]))
    refine R6.WalkR.nil (fun D ρ W hD hC => ?_)
    have HB := Lib.hid hC.bel
    clear hC hD
    go_wp2
    go_ret
    exact ⟨rfl, HB.out⟩

theorem validDrains_any (A : Option Addr) (cap : Nat) (zs : List Int) (B : Nat) (w : World) (hB : B ≤ w.heap.size) (hz : Ints w B A zs) (hl : zs.length ≤ 1000000) :
    Calls Try.prog 57 #[.slice A zs.length cap] w fun e w' => e = .returned (.bool (okDrains zs)) ∧ Below w.heap.size w w' := by
  have HZ := Lib.hid hz
  clear hz
  by_cases h : zs.length ≤ 40
  · have e : okDrains zs = allB 0 100000 zs := by simp [okDrains, h]
    rw [e]
    clear e
    have hk : (zs.length : Int) ≤ 40 := by omega
    go_enter Try.func57, Try.ntmps57
    go_wp2_with (first
      | (go_at_call 45; refine (within_any 0 100000 A cap zs B _ (Nat.le_trans hB H1.out.size) (HZ.out.below (H1.out.mono hB)) hl).mono ?_; rintro e w2 ⟨rfl, hB2⟩; have H2 := Lib.hid hB2; clear hB2)
      | (go_at_call 67; refine (upTo_any _ _).mono ?_; rintro e w1 ⟨rfl, hB1⟩; have H1 := Lib.hid hB1; clear hB1))
    go_ret
    exact ⟨rfl, H1.out.trans (H2.out.mono H1.out.size)⟩
  · have e : okDrains zs = false := by simp [okDrains, h]
    rw [e]
    clear e
    have hk : ¬ (zs.length : Int) ≤ 40 := by omega
    go_enter Try.func57, Try.ntmps57
    go_wp2
    go_ret
    exact ⟨rfl, Below.refl _ _⟩

/-- What is left of an amount when a part of it is taken. -/
def leftZ (x p : Int) : Int := x - x * p / 1000
theorem leftZ_bnd {x p : Int} (hx : 0 ≤ x) (hp : 0 ≤ p) (hp1 : p ≤ 1000) : 0 ≤ leftZ x p ∧ leftZ x p ≤ x := by
  have h1 : 0 ≤ x * p := Int.mul_nonneg hx hp
  have h2 : x * p ≤ x * 1000 := Int.mul_le_mul_of_nonneg_left hp1 hx
  unfold leftZ
  omega

theorem left_any (x p : Int) (hx : 0 ≤ x) (hx1 : x ≤ 10000000) (hp : 0 ≤ p) (hp1 : p ≤ 1000) (w : World) :
    Calls Try.prog 75 #[.int .i64 x, .int .i64 p] w fun e w' => e = .returned (.int .i64 (leftZ x p)) ∧ w = w' := by
  have h1 : 0 ≤ x * p := Int.mul_nonneg hx hp
  have h2 : x * p ≤ x * 1000 := Int.mul_le_mul_of_nonneg_left hp1 hx
  have hq : (x * p).tdiv 1000 = x * p / 1000 := Int.tdiv_eq_ediv_of_nonneg h1
  unfold leftZ
  go_enter Try.func75, Try.ntmps75
  go_wp2
  go_ret
  exact ⟨by rw [← hq]; rfl, rfl⟩

/-- What a day makes of what is wet. -/
theorem wet1_any (x lo hi : Int) (hx : 0 ≤ x) (hx1 : x ≤ 10000000) (hp : 0 ≤ hi) (hp1 : hi ≤ 1000) (w : World) :
    Calls Try.prog 74 #[.int .i64 x, .agg #[.int .i64 lo, .int .i64 hi]] w fun e w' => e = .returned (.int .i64 (leftZ x hi)) ∧ Below w.heap.size w w' := by
  have HL := Lib.hid (fun W => left_any x hi hx hx1 hp hp1 W)
  generalize leftZ x hi = v at HL
  go_enter Try.func74, Try.ntmps74
  go_wp2_with (go_at_call 75; refine (HL.out _).mono ?_; rintro e w1 ⟨rfl, rfl⟩)
  go_ret
  exact ⟨rfl, (Below.refl _ _).alloc (Nat.le_refl _) _⟩
theorem wet2_any (x lo hi : Int) (hx : 0 ≤ x) (hx1 : x ≤ 10000000) (hp : 0 ≤ lo) (hp1 : lo ≤ 1000) (w : World) :
    Calls Try.prog 76 #[.int .i64 x, .agg #[.int .i64 lo, .int .i64 hi]] w fun e w' => e = .returned (.int .i64 (leftZ x lo)) ∧ Below w.heap.size w w' := by
  have HL := Lib.hid (fun W => left_any x lo hx hx1 hp hp1 W)
  generalize leftZ x lo = v at HL
  go_enter Try.func76, Try.ntmps76
  go_wp2_with (go_at_call 75; refine (HL.out _).mono ?_; rintro e w1 ⟨rfl, rfl⟩)
  go_ret
  exact ⟨rfl, (Below.refl _ _).alloc (Nat.le_refl _) _⟩

/-- What a day makes of a level. -/
theorem lev1_any (x z : Int) (p : Po) (b : Nat) (hx : 0 ≤ x) (hx1 : x ≤ 10000000) (hp : 0 ≤ p.oh) (hp1 : p.oh ≤ 1000) (hz : 0 ≤ z) (hz1 : z ≤ 1000000) (w : World) (hb : w.heap[b]? = some (.cells (pcells p) 46 (0, 0))) :
    Calls Try.prog 78 #[.int .i64 x, .int .i64 z, .pointer (some ⟨b, 0, none⟩)] w fun e w' => e = .returned (.int .i64 (leftZ x p.oh + z)) ∧ w = w' := by
  have hc := fun i => cell_of_row w b i _ _ _ hb
  have HL := Lib.hid (fun W => left_any x p.oh hx hx1 hp hp1 W)
  have hB := leftZ_bnd hx hp hp1
  generalize leftZ x p.oh = v at HL hB
  obtain ⟨hB0, hB1⟩ := hB
  unfold pcells at hc
  go_enter Try.func78, Try.ntmps78
  go_wp2_with (go_at_call 75; refine (HL.out _).mono ?_; rintro e w1 ⟨rfl, rfl⟩)
  go_ret
  exact ⟨rfl, rfl⟩
theorem lev2_any (x z : Int) (p : Po) (b : Nat) (hx : 0 ≤ x) (hx1 : x ≤ 10000000) (hp : 0 ≤ p.ol) (hp1 : p.ol ≤ 1000) (hz : 0 ≤ z) (hz1 : z ≤ 1000000) (w : World) (hb : w.heap[b]? = some (.cells (pcells p) 46 (0, 0))) :
    Calls Try.prog 79 #[.int .i64 x, .int .i64 z, .pointer (some ⟨b, 0, none⟩)] w fun e w' => e = .returned (.int .i64 (leftZ x p.ol + z)) ∧ w = w' := by
  have hc := fun i => cell_of_row w b i _ _ _ hb
  have HL := Lib.hid (fun W => left_any x p.ol hx hx1 hp hp1 W)
  have hB := leftZ_bnd hx hp hp1
  generalize leftZ x p.ol = v at HL hB
  obtain ⟨hB0, hB1⟩ := hB
  unfold pcells at hc
  go_enter Try.func79, Try.ntmps79
  go_wp2_with (go_at_call 75; refine (HL.out _).mono ?_; rintro e w1 ⟨rfl, rfl⟩)
  go_ret
  exact ⟨rfl, rfl⟩

/-- What is looked for among the days. -/
theorem dry1_any (lo hi : Int) (d : Dr) (b : Nat) (w : World) (hb : w.heap[b]? = some (.cells (dcells d) 41 (0, 0))) :
    Calls Try.prog 55 #[.agg #[.int .i64 lo, .int .i64 hi], .pointer (some ⟨b, 0, none⟩)] w fun e w' => e = .returned (.bool (decide (hi ≤ d.most))) ∧ Below w.heap.size w w' := by
  have hl := lt_of_heap hb
  have hc := fun i => cell_of_row w b i _ _ _ hb
  unfold dcells at hc
  go_enter Try.func55, Try.ntmps55
  go_wp2
  go_ret
  exact ⟨rfl, (Below.refl _ _).alloc (Nat.le_refl _) _⟩
theorem levels1_any (lo hi : Int) (p : Po) (b : Nat) (w : World) (hb : w.heap[b]? = some (.cells (pcells p) 46 (0, 0))) :
    Calls Try.prog 59 #[.agg #[.int .i64 lo, .int .i64 hi], .pointer (some ⟨b, 0, none⟩)] w fun e w' => e = .returned (.bool (decide (p.lim < hi))) ∧ Below w.heap.size w w' := by
  have hl := lt_of_heap hb
  have hc := fun i => cell_of_row w b i _ _ _ hb
  unfold pcells at hc
  go_enter Try.func59, Try.ntmps59
  go_wp2
  go_ret
  exact ⟨rfl, (Below.refl _ _).alloc (Nat.le_refl _) _⟩

end Go.Proofs.Ytfampdiompjmeaa
