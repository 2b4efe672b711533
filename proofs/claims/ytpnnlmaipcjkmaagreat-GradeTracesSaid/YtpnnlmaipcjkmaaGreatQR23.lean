/-
  A pole's grade, a section's strength (the program's).
-/
import Derived.Test.YtpnnlmaipcjkmaaGreatQR16
import Derived.Test.YtpnnlmaipcjkmaaGreatQR22
import Derived.Test.YtpnnlmaipcjkmaaGreatQR21
import Derived.Test.YtpnnlmaipcjkmaaGreatQR17
import Derived.Deep.DeepMust
import Derived.Outline
import Derived.Test.YtpnnlmaipcjkmaaGreatQR2
set_option linter.all false
namespace Go.Proofs.YtpnnlmaipcjkmaaGreat
open Go.RowKit

theorem gChk_ok {gs : List Gd} {vary : Int} {ps : List Pol} {ts : List Ts} (h : gChk gs vary ps ts = 0) : okGrading gs vary = true ∧ okSheet ps ts = true := by
  unfold gChk at h
  by_cases h1 : okGrading gs vary = true
  · by_cases h2 : okSheet ps ts = true
    · exact ⟨h1, h2⟩
    · rw [if_pos h1, if_neg h2] at h; exact absurd h (by decide)
  · rw [if_neg h1] at h; exact absurd h (by decide)
theorem okSheet_parts {ps : List Pol} {ts : List Ts} (h : okSheet ps ts = true) : (ps.length ≤ 12 ∧ ts.length ≤ 20) ∧ Up ps ∧ (∀ p ∈ ps, (0 ≤ p.id ∧ p.id ≤ 9999) ∧ okPol p = true) ∧ (∀ t ∈ ts, okT t) := by
  simp only [okSheet, okPols, okTsL, Bool.and_eq_true, decide_eq_true_eq] at h
  obtain ⟨⟨h1, h2⟩, h3, h4⟩ := h
  have hu := byIdL_up okPol ps 0 h2
  refine ⟨⟨h1, h3⟩, hu.1, fun p hp => ⟨⟨(hu.2 p hp).1, (hu.2 p hp).2.1⟩, (hu.2 p hp).2.2⟩, ?_⟩
  have key : ∀ (l : List Ts) (n : Int), byIdL Ts.id (okTs ps) l n = true → ∀ t ∈ l, okT t := by
    intro l
    induction l with
    | nil => intro n _ t ht; cases ht
    | cons y l ih =>
      intro n h t ht
      simp only [byIdL, okTs, Bool.and_eq_true, inR_iff] at h
      rcases List.mem_cons.1 ht with rfl | ht
      · exact ⟨h.2.1.2.1, h.2.1.2.2⟩
      · exact ih _ h.2.2 t ht
  exact key ts 0 h4
theorem okGds_mem : ∀ (l : List Gd) (a v : Int), okGds l a v = true → ∀ g ∈ l, okG2 g
  | [], _, _, _, g, hg => by cases hg
  | y :: l, a, v, h, g, hg => by
    simp only [okGds, okGd, okSt, Bool.and_eq_true, inR_iff, decide_eq_true_eq] at h
    rcases List.mem_cons.1 hg with rfl | hg
    · intro k hk
      obtain ⟨⟨_, _, h0, h1, h2⟩, _⟩ := h
      have h3 : k = 0 ∨ k = 1 ∨ k = 2 := by omega
      rcases h3 with rfl | rfl | rfl
      · exact ⟨h0.2.1, h0.2.2⟩
      · exact ⟨h1.2.1, h1.2.2⟩
      · exact ⟨h2.2.1, h2.2.2⟩
    · exact okGds_mem l _ _ h.2 g hg
theorem okGrading_parts {gs : List Gd} {vary : Int} (h : okGrading gs vary = true) : gs.length ≤ 3 ∧ (0 ≤ vary ∧ vary ≤ 200000) ∧ ∀ g ∈ gs, okG2 g := by
  simp only [okGrading, Bool.and_eq_true, inR_iff] at h
  exact ⟨by omega, h.2.1, okGds_mem gs _ _ h.2.2⟩
end Go.Proofs.YtpnnlmaipcjkmaaGreat

namespace Go.Proofs.YtpnnlmaipcjkmaaGreat
open Go.RowKit
open R6 (done done_ne done_me upd_ne upd_me)

attribute [local go_sem] gives

theorem own_bt {W : World} {base : Nat} {e : TypeId} {size n : Nat} {v : Value} {xs : List Value} (h : W.ownsRow base e size v n xs) {b : Nat} (hb : v.ownBlock = some b) : ∃ cur, W.heap[b]? = some (.cells cur e (0, 0)) ∧ base ≤ b := by
  rcases h.2 with ⟨rfl, _⟩ | ⟨g, cap, cur, rfl, h2, h3, _⟩
  · cases hb
  · simp only [Value.ownBlock, Option.some.injEq] at hb
    subst hb
    exact ⟨cur, h3, h2⟩
structure LsC (W : World) (base : Nat) (e : TypeId) (size m : Nat) (xs : List Value) (d0 d1 : Bool) (v0 v1 : Value) : Prop where
  e0 : d0 = true → d1 = false → W.ownsRow base e size v0 0 []
  e1 : d1 = true → W.ownsRow base e size v1 m xs
section
variable {W W' : World} {base : Nat} {e e' : TypeId} {size size' m m' : Nat} {xs xs' : List Value} {d0 d1 : Bool} {v0 v1 v' : Value}
theorem LsC.grows (h : LsC W base e size m xs d0 d1 v0 v1) (hg : Grows W W') : LsC W' base e size m xs d0 d1 v0 v1 := ⟨fun a b => own_grows (h.e0 a b) hg, fun a => own_grows (h.e1 a) hg⟩
theorem LsC.besides (h : LsC W base e size m xs d0 d1 v0 v1) {v : Value} {n : Nat} {ys : List Value} {b' : Nat} (hv : W.ownsRow b' e' size' v n ys) (hne : e ≠ e') (hg : W.grownBy W' v.ownBlock) : LsC W' base e size m xs d0 d1 v0 v1 := by
  have key : ∀ {u : Value} {k : Nat} {zs : List Value}, W.ownsRow base e size u k zs → W'.ownsRow base e size u k zs := by
    intro u k zs hu
    refine hu.kept hg ?_
    cases hb : u.ownBlock with
    | none => exact .inl rfl
    | some g =>
      refine .inr ?_
      intro e2
      obtain ⟨c1, h1, _⟩ := own_bt hu hb
      obtain ⟨c2, h2, _⟩ := own_bt hv e2.symm
      rw [h1] at h2
      simp only [Option.some.injEq, Obj.cells.injEq] at h2
      exact hne h2.2.1
  exact ⟨fun a b => key (h.e0 a b), fun a => key (h.e1 a)⟩
theorem LsC.put (h : LsC W base e size m xs d0 d1 v0 v1) {b : Nat} (hP : Put W W' b) (hb : b < base) : LsC W' base e size m xs d0 d1 v0 v1 := by
  have key : ∀ {u : Value} {k : Nat} {zs : List Value}, W.ownsRow base e size u k zs → W'.ownsRow base e size u k zs := by
    intro u k zs hu
    refine hu.kept hP.grown ?_
    cases hb' : u.ownBlock with
    | none => exact .inl rfl
    | some g =>
      refine .inr ?_
      intro e2
      obtain ⟨c1, _, h2⟩ := own_bt hu hb'
      simp only [Option.some.injEq] at e2
      omega
  exact ⟨fun a b => key (h.e0 a b), fun a => key (h.e1 a)⟩
end

structure TwC (w0 : World) (base nb no : Nat) (bx : Obj) (to : TypeId) (X : List Value) (e1 e2 : TypeId) (s1 s2 m1 m2 : Nat) (xs1 xs2 : List Value) (D : Nat → Bool) (σ : Nat → Value) (W : World) : Prop where
  bel : Below w0.heap.size w0 W
  lb : base ≤ W.heap.size
  ln : w0.heap.size ≤ no ∧ no < base ∧ nb < base ∧ nb ≠ no ∧ w0.heap.size ≤ base
  l1 : LsC W base e1 s1 m1 xs1 (D 0) (D 3) (σ 3) (σ 6)
  l2 : LsC W base e2 s2 m2 xs2 (D 4) (D 7) (σ 7) (σ 10)
  box : W.heap[nb]? = some bx
  x0 : D 9 = false → W.heap[no]? = some (.cells X.toArray to (0, 0))
  x1 : D 9 = true → W.heap[no]? = some (.cells [σ 6, σ 10].toArray to (0, 0))
  bu : D 8 = true → σ 11 = .agg #[σ 6, σ 10]
def twK (k : Nat) (d : Option Nat) : Bool := !(k == 0 || k == 3 || k == 4 || k == 7 || k == 8 || k == 9 || d == some 3 || d == some 6 || d == some 7 || d == some 10 || d == some 11)
section
variable {w0 W W' : World} {base nb no : Nat} {bx : Obj} {to : TypeId} {X : List Value} {e1 e2 : TypeId} {s1 s2 m1 m2 : Nat} {xs1 xs2 : List Value} {D : Nat → Bool} {σ : Nat → Value}
theorem TwC.move {k : Nat} {d : Option Nat} {v : Value} (h : TwC w0 base nb no bx to X e1 e2 s1 s2 m1 m2 xs1 xs2 D σ W) (hk : twK k d = true) : TwC w0 base nb no bx to X e1 e2 s1 s2 m1 m2 xs1 xs2 (done D k) (R4.upd σ d v) W := by
  simp only [twK, Bool.not_eq_true', Bool.or_eq_false_iff, beq_eq_false_iff_ne, ne_eq] at hk
  obtain ⟨⟨⟨⟨⟨⟨⟨⟨⟨⟨a0, a3⟩, a4⟩, a7⟩, a8⟩, a9⟩, d3⟩, d6⟩, d7⟩, d10⟩, d11⟩ := hk
  have f0 := done_ne (D := D) (k := k) (j := 0) (by omega)
  have f3 := done_ne (D := D) (k := k) (j := 3) (by omega)
  have f4 := done_ne (D := D) (k := k) (j := 4) (by omega)
  have f7 := done_ne (D := D) (k := k) (j := 7) (by omega)
  have f8 := done_ne (D := D) (k := k) (j := 8) (by omega)
  have f9 := done_ne (D := D) (k := k) (j := 9) (by omega)
  have u11 := upd_ne (ρ := σ) (v := v) d11
  have u3 := upd_ne (ρ := σ) (v := v) d3
  have u6 := upd_ne (ρ := σ) (v := v) d6
  have u7 := upd_ne (ρ := σ) (v := v) d7
  have u10 := upd_ne (ρ := σ) (v := v) d10
  exact ⟨h.bel, h.lb, h.ln, by rw [f0, f3, u3, u6]; exact h.l1, by rw [f4, f7, u7, u10]; exact h.l2, h.box, by rw [f9]; exact h.x0, by rw [f9, u6, u10]; exact h.x1, by rw [f8, u11, u6, u10]; exact h.bu⟩
theorem TwC.grows (h : TwC w0 base nb no bx to X e1 e2 s1 s2 m1 m2 xs1 xs2 D σ W) (hg : Grows W W') : TwC w0 base nb no bx to X e1 e2 s1 s2 m1 m2 xs1 xs2 D σ W' :=
  ⟨h.bel.trans (hg.mono h.bel.size), Nat.le_trans h.lb hg.size, h.ln, h.l1.grows hg, h.l2.grows hg, (hg.block _ (lt_of_heap h.box)).trans h.box, fun a => (hg.block _ (lt_of_heap (h.x0 a))).trans (h.x0 a), fun a => (hg.block _ (lt_of_heap (h.x1 a))).trans (h.x1 a), h.bu⟩
theorem TwC.mk1 (h : TwC w0 base nb no bx to X e1 e2 s1 s2 m1 m2 xs1 xs2 D σ W) (h3 : D 3 = false) (h8 : D 8 = false) (h9 : D 9 = false) : TwC w0 base nb no bx to X e1 e2 s1 s2 m1 m2 xs1 xs2 (done D 0) (R4.upd σ (some 3) (.slice (some ⟨W.heap.size, 0, none⟩) 0 0)) (W.alloc (.cells #[] e1)) := by
  have h' := h.grows (grow1 W (.cells #[] e1))
  have f3 := done_ne (D := D) (k := 0) (j := 3) (by decide)
  have f4 := done_ne (D := D) (k := 0) (j := 4) (by decide)
  have f7 := done_ne (D := D) (k := 0) (j := 7) (by decide)
  have f9 := done_ne (D := D) (k := 0) (j := 9) (by decide)
  have f8 := done_ne (D := D) (k := 0) (j := 8) (by decide)
  have u := fun (t : Nat) (ht : (some 3 : Option Nat) ≠ some t) => upd_ne (ρ := σ) (d := some 3) (v := .slice (some ⟨W.heap.size, 0, none⟩) 0 0) (t := t) ht
  refine ⟨h'.bel, h'.lb, h.ln, ⟨fun _ _ => by rw [upd_me]; exact own_empty (alloc_at0 _ _) h.lb, by rw [f3, h3]; intro e; cases e⟩, by rw [f4, f7, u 7 (by decide), u 10 (by decide)]; exact h'.l2, h'.box, by rw [f9]; exact h'.x0, (by rw [f9, h9]; intro e; cases e), (by rw [f8, h8]; intro e; cases e)⟩
theorem TwC.mk2 (h : TwC w0 base nb no bx to X e1 e2 s1 s2 m1 m2 xs1 xs2 D σ W) (h7 : D 7 = false) (h8 : D 8 = false) (h9 : D 9 = false) : TwC w0 base nb no bx to X e1 e2 s1 s2 m1 m2 xs1 xs2 (done D 4) (R4.upd σ (some 7) (.slice (some ⟨W.heap.size, 0, none⟩) 0 0)) (W.alloc (.cells #[] e2)) := by
  have h' := h.grows (grow1 W (.cells #[] e2))
  have f0 := done_ne (D := D) (k := 4) (j := 0) (by decide)
  have f3 := done_ne (D := D) (k := 4) (j := 3) (by decide)
  have f7 := done_ne (D := D) (k := 4) (j := 7) (by decide)
  have f9 := done_ne (D := D) (k := 4) (j := 9) (by decide)
  have f8 := done_ne (D := D) (k := 4) (j := 8) (by decide)
  have u := fun (t : Nat) (ht : (some 7 : Option Nat) ≠ some t) => upd_ne (ρ := σ) (d := some 7) (v := .slice (some ⟨W.heap.size, 0, none⟩) 0 0) (t := t) ht
  refine ⟨h'.bel, h'.lb, h.ln, by rw [f0, f3, u 3 (by decide), u 6 (by decide)]; exact h'.l1, ⟨fun _ _ => by rw [upd_me]; exact own_empty (alloc_at0 _ _) h.lb, by rw [f7, h7]; intro e; cases e⟩, h'.box, by rw [f9]; exact h'.x0, (by rw [f9, h9]; intro e; cases e), (by rw [f8, h8]; intro e; cases e)⟩
theorem TwC.ap1 (h : TwC w0 base nb no bx to X e1 e2 s1 s2 m1 m2 xs1 xs2 D σ W) (h0 : D 0 = true) (h3 : D 3 = false) (h8 : D 8 = false) (h9 : D 9 = false) (hne : e1 ≠ e2) {v' : Value} (ho : W'.ownsRow base e1 s1 v' m1 xs1) (hg : W.grownBy W' (σ 3).ownBlock) :
    TwC w0 base nb no bx to X e1 e2 s1 s2 m1 m2 xs1 xs2 (done D 3) (R4.upd σ (some 6) v') W' := by
  have ho0 := h.l1.e0 h0 h3
  have hob := fun q e => (own_bt ho0 (b := q) e).choose_spec.2
  have f4 := done_ne (D := D) (k := 3) (j := 4) (by decide)
  have f7 := done_ne (D := D) (k := 3) (j := 7) (by decide)
  have f9 := done_ne (D := D) (k := 3) (j := 9) (by decide)
  have f8 := done_ne (D := D) (k := 3) (j := 8) (by decide)
  have u := fun (t : Nat) (ht : (some 6 : Option Nat) ≠ some t) => upd_ne (ρ := σ) (d := some 6) (v := v') (t := t) ht
  refine ⟨h.bel.grown hg h.bel.size (fun q e => by have := hob q e; have := h.ln; omega), Nat.le_trans h.lb hg.size, h.ln, ⟨(fun _ e => by rw [done_me] at e; cases e), (fun _ => by rw [upd_me]; exact ho)⟩, by rw [f4, f7, u 7 (by decide), u 10 (by decide)]; exact h.l2.besides ho0 (Ne.symm hne) hg, ?_, ?_, (by rw [f9, h9]; intro e; cases e), (by rw [f8, h8]; intro e; cases e)⟩
  · exact (hg.block _ (by have := h.ln; have := h.lb; omega) (fun e => by have := hob nb e.symm; have := h.ln; omega)).trans h.box
  · rw [f9]
    exact fun a => (hg.block _ (by have := h.ln; have := h.lb; omega) (fun e => by have := hob no e.symm; have := h.ln; omega)).trans (h.x0 a)
theorem TwC.ap2 (h : TwC w0 base nb no bx to X e1 e2 s1 s2 m1 m2 xs1 xs2 D σ W) (h4 : D 4 = true) (h7 : D 7 = false) (h8 : D 8 = false) (h9 : D 9 = false) (hne : e1 ≠ e2) {v' : Value} (ho : W'.ownsRow base e2 s2 v' m2 xs2) (hg : W.grownBy W' (σ 7).ownBlock) :
    TwC w0 base nb no bx to X e1 e2 s1 s2 m1 m2 xs1 xs2 (done D 7) (R4.upd σ (some 10) v') W' := by
  have ho0 := h.l2.e0 h4 h7
  have hob := fun q e => (own_bt ho0 (b := q) e).choose_spec.2
  have f0 := done_ne (D := D) (k := 7) (j := 0) (by decide)
  have f3 := done_ne (D := D) (k := 7) (j := 3) (by decide)
  have f9 := done_ne (D := D) (k := 7) (j := 9) (by decide)
  have f8 := done_ne (D := D) (k := 7) (j := 8) (by decide)
  have u := fun (t : Nat) (ht : (some 10 : Option Nat) ≠ some t) => upd_ne (ρ := σ) (d := some 10) (v := v') (t := t) ht
  refine ⟨h.bel.grown hg h.bel.size (fun q e => by have := hob q e; have := h.ln; omega), Nat.le_trans h.lb hg.size, h.ln, by rw [f0, f3, u 3 (by decide), u 6 (by decide)]; exact h.l1.besides ho0 hne hg, ⟨(fun _ e => by rw [done_me] at e; cases e), (fun _ => by rw [upd_me]; exact ho)⟩, ?_, ?_, (by rw [f9, h9]; intro e; cases e), (by rw [f8, h8]; intro e; cases e)⟩
  · exact (hg.block _ (by have := h.ln; have := h.lb; omega) (fun e => by have := hob nb e.symm; have := h.ln; omega)).trans h.box
  · rw [f9]
    exact fun a => (hg.block _ (by have := h.ln; have := h.lb; omega) (fun e => by have := hob no e.symm; have := h.ln; omega)).trans (h.x0 a)
theorem TwC.mkb (h : TwC w0 base nb no bx to X e1 e2 s1 s2 m1 m2 xs1 xs2 D σ W) : TwC w0 base nb no bx to X e1 e2 s1 s2 m1 m2 xs1 xs2 (done D 8) (R4.upd σ (some 11) (.agg #[σ 6, σ 10])) W := by
  have f0 := done_ne (D := D) (k := 8) (j := 0) (by decide)
  have f3 := done_ne (D := D) (k := 8) (j := 3) (by decide)
  have f4 := done_ne (D := D) (k := 8) (j := 4) (by decide)
  have f7 := done_ne (D := D) (k := 8) (j := 7) (by decide)
  have f9 := done_ne (D := D) (k := 8) (j := 9) (by decide)
  have u := fun (t : Nat) (ht : (some 11 : Option Nat) ≠ some t) => upd_ne (ρ := σ) (d := some 11) (v := .agg #[σ 6, σ 10]) (t := t) ht
  exact ⟨h.bel, h.lb, h.ln, by rw [f0, f3, u 3 (by decide), u 6 (by decide)]; exact h.l1, by rw [f4, f7, u 7 (by decide), u 10 (by decide)]; exact h.l2, h.box, by rw [f9]; exact h.x0, by rw [f9, u 6 (by decide), u 10 (by decide)]; exact h.x1, fun _ => by rw [upd_me, u 6 (by decide), u 10 (by decide)]⟩
theorem TwC.put (h : TwC w0 base nb no bx to X e1 e2 s1 s2 m1 m2 xs1 xs2 D σ W) (hP : Put W W' no) (hM : W'.heap[no]? = some (.cells [σ 6, σ 10].toArray to (0, 0))) :
    TwC w0 base nb no bx to X e1 e2 s1 s2 m1 m2 xs1 xs2 (done D 9) σ W' := by
  have f0 := done_ne (D := D) (k := 9) (j := 0) (by decide)
  have f3 := done_ne (D := D) (k := 9) (j := 3) (by decide)
  have f4 := done_ne (D := D) (k := 9) (j := 4) (by decide)
  have f7 := done_ne (D := D) (k := 9) (j := 7) (by decide)
  have f8 := done_ne (D := D) (k := 9) (j := 8) (by decide)
  refine ⟨h.bel.trans (hP.below h.ln.1), by rw [hP.size]; exact h.lb, h.ln, by rw [f0, f3]; exact h.l1.put hP h.ln.2.1, by rw [f4, f7]; exact h.l2.put hP h.ln.2.1, (hP.other _ h.ln.2.2.2.1).trans h.box, (fun e => by rw [done_me] at e; cases e), fun _ => hM, by rw [f8]; exact h.bu⟩
end

theorem infoPole5 : (Tryz.prog.info? 56).map (fun i => (i.zero, i.size, i.bytes)) = some (some (.agg (pcl pol0).toArray), 12, 96) := by kernel_rfl
theorem infoTest5 : (Tryz.prog.info? 58).map (fun i => (i.zero, i.size, i.bytes)) = some (some (.agg (tcl ⟨0, 0, 0, 0, false⟩).toArray), 5, 40) := by kernel_rfl
theorem flat_mul {α : Type} {f : α → List Value} {n : Nat} (hf : ∀ x, (f x).length = n) (l : List α) : (l.flatMap f).length = l.length * n := by
  induction l with
  | nil => simp
  | cons x l ih => rw [List.flatMap_cons, List.length_append, ih, hf, List.length_cons, Nat.add_mul, Nat.one_mul, Nat.add_comm]

theorem own_weak {w : World} {base base' : Nat} {e : TypeId} {size n : Nat} {v : Value} {xs : List Value} (h : w.ownsRow base e size v n xs) (hb : base' ≤ base) : w.ownsRow base' e size v n xs :=
  ⟨h.1, h.2.imp_right fun ⟨g, cap, cur, a, b, r⟩ => ⟨g, cap, cur, a, Nat.le_trans hb b, r⟩⟩
def OwnS (W : World) (base : Nat) (ps : List Pol) (ts : List Ts) (v1 v2 : Value) : Prop := W.ownsRow base 56 12 v1 ps.length (ps.flatMap pcl) ∧ W.ownsRow base 58 5 v2 ts.length (ts.flatMap tcl)
def TwinPost (w : World) (ps : List Pol) (ts : List Ts) (e : Ending) (w' : World) : Prop :=
  ∃ v1 v2, e = .returned (.agg #[v1, v2]) ∧ OwnS w' w.heap.size ps ts v1 v2 ∧ Below w.heap.size w w'

set_option maxRecDepth 100000 in
set_option maxHeartbeats 8000000 in
theorem rfTwin_any (ps : List Pol) (ts : List Ts) (AP : Option Addr) (cp : Nat) (AT : Option Addr) (ct : Nat) (B : Nat) (w : World) (hB : B ≤ w.heap.size) (hz : ShAt w B ps ts AP AT) (hl1 : ps.length ≤ 1000) (hl2 : ts.length ≤ 1000) :
    Calls Tryz.prog 13 #[.agg #[.slice AP ps.length cp, .slice AT ts.length ct]] w (TwinPost w ps ts) := by
  obtain ⟨i1, hi1, hz1, hsz1, hby1⟩ := info_parts infoPole5
  obtain ⟨i2, hi2, hz2, hsz2, hby2⟩ := info_parts infoTest5
  have HI := Lib.hid (And.intro (And.intro hi1 (And.intro hz1 (And.intro hsz1 hby1))) (And.intro hi2 (And.intro hz2 (And.intro hsz2 hby2))))
  clear hi1 hz1 hsz1 hby1 hi2 hz2 hsz2 hby2
  obtain ⟨w1, hw1⟩ : ∃ w1, (w.alloc (.cells #[.slice AP ps.length cp, .slice AT ts.length ct] 25)).alloc (.cells #[.slice none 0 0, .slice none 0 0] 25) = w1 := ⟨_, rfl⟩
  have hb1 : Below w.heap.size w w1 := by rw [← hw1]; exact grow2 _ _ _
  have hs1 : w1.heap.size = w.heap.size + 2 := by rw [← hw1]; simp
  have m1 : w1.heap[w.heap.size]? = some (.cells #[.slice AP ps.length cp, .slice AT ts.length ct] 25 (0, 0)) := by rw [← hw1]; exact alloc2_at0 _ _ _
  have m2 : w1.heap[w.heap.size + 1]? = some (.cells [Value.slice none 0 0, .slice none 0 0].toArray 25 (0, 0)) := by rw [← hw1]; exact alloc2_at1 _ _ _
  have H1 := Lib.hid (And.intro hb1 (And.intro m1 (And.intro m2 hs1)))
  have HZ := Lib.hid (And.intro hz (And.intro hl1 hl2))
  clear hb1 hs1 m1 m2 hz hl1 hl2
  unfold TwinPost
  go_enter Tryz.func13, Tryz.ntmps13
  go_wp2
  refine R6.wp_walk (C := TwC w (w.heap.size + 2) w.heap.size (w.heap.size + 1) (.cells #[.slice AP ps.length cp, .slice AT ts.length ct] 25 (0, 0)) 25 [.slice none 0 0, .slice none 0 0] 56 58 12 5 ps.length ts.length (ps.flatMap pcl) (ts.flatMap tcl)) 12 (by kernel_rfl) (by kernel_rfl) rfl
    ⟨H1.out.1.drew, by have := H1.out.2.2.2; show _ ≤ w1.heap.size; omega, by omega, ⟨(fun e => by cases e), (fun e => by cases e)⟩, ⟨(fun e => by cases e), (fun e => by cases e)⟩, H1.out.2.1, fun _ => H1.out.2.2.1, (fun e => by cases e), (fun e => by cases e)⟩ ?_
  simp only []
  refine' R6.WalkR.nd (fun _ => rfl) rfl (fun D ρ W hK hC => ?_) ?_
  · have h3 := hK.post 3 (by decide +kernel)
    have h9 := hK.post 9 (by decide +kernel)
    have h8 := hK.post 8 (by decide +kernel)
    have HC := Lib.hid (And.intro hC (And.intro h3 (And.intro h8 h9)))
    clear hC hK h3 h8 h9
    go_simp
    exact HC.out.1.mk1 HC.out.2.1 HC.out.2.2.1 HC.out.2.2.2
  simp only [Act.put, List.setIfInBounds_toArray, List.set_cons_succ, List.set_cons_zero]
  repeat (first
    | (refine' R6.WalkR.det (fun _ => rfl) (fun D ρ W hK hC => ?_) ?_
       rotate_left
       · have f1 : W.cell? ⟨w.heap.size, 0, none⟩ = some (.slice AP ps.length cp) := cell_of_row W _ 0 _ _ _ hC.box
         have HC := Lib.hid hC
         clear hC hK
         go_simp
         with_reducible exact ⟨rfl, HC.out.move (by decide)⟩
       simp only [Act.put, List.setIfInBounds_toArray, List.set_cons_succ, List.set_cons_zero]))
  refine' R6.WalkR.nd (fun _ => rfl) rfl (fun D ρ W hK hC => ?_) ?_
  · have h3 := hK.me
    have h9 := hK.post 9 (by decide +kernel)
    have h0 := hK.pre 0 (by decide +kernel)
    have hzl := HZ.out
    refine gives_app2 (.tmp 3) (.tmp 5) 22 rfl (w.heap.size + 2) 56 i1 _ 12 96 Tryz.underlying22 HI.out.1.1 HI.out.1.2.1 HI.out.1.2.2.1 HI.out.1.2.2.2 rfl (by decide) rfl (hC.l1.e0 h0 h3) rfl ((HZ.out.1.p.mono hB).below hC.bel) (flat_mul pcl_len ps) (pcl_one ps) (by simp only [maxLen]; omega) (by omega) hC.lb ?_
    intro v' W' ho hgr hx
    rw [Nat.zero_add, List.nil_append] at ho
    exact hC.ap1 h0 h3 (hK.post 8 (by decide +kernel)) h9 (by decide) ho hgr
  simp only [Act.put, List.setIfInBounds_toArray, List.set_cons_succ, List.set_cons_zero]
  refine' R6.WalkR.nd (fun _ => rfl) rfl (fun D ρ W hK hC => ?_) ?_
  · have h7 := hK.post 7 (by decide +kernel)
    have h9 := hK.post 9 (by decide +kernel)
    have h8 := hK.post 8 (by decide +kernel)
    have HC := Lib.hid (And.intro hC (And.intro h7 (And.intro h8 h9)))
    clear hC hK h7 h8 h9
    go_simp
    exact HC.out.1.mk2 HC.out.2.1 HC.out.2.2.1 HC.out.2.2.2
  simp only [Act.put, List.setIfInBounds_toArray, List.set_cons_succ, List.set_cons_zero]
  repeat (first
    | (refine' R6.WalkR.det (fun _ => rfl) (fun D ρ W hK hC => ?_) ?_
       rotate_left
       · have f1 : W.cell? ⟨w.heap.size, 1, none⟩ = some (.slice AT ts.length ct) := cell_of_row W _ 1 _ _ _ hC.box
         have HC := Lib.hid hC
         clear hC hK
         go_simp
         with_reducible exact ⟨rfl, HC.out.move (by decide)⟩
       simp only [Act.put, List.setIfInBounds_toArray, List.set_cons_succ, List.set_cons_zero]))
  refine' R6.WalkR.nd (fun _ => rfl) rfl (fun D ρ W hK hC => ?_) ?_
  · have h7 := hK.me
    have h9 := hK.post 9 (by decide +kernel)
    have h4 := hK.pre 4 (by decide +kernel)
    have hzl := HZ.out
    refine gives_app2 (.tmp 7) (.tmp 9) 23 rfl (w.heap.size + 2) 58 i2 _ 5 40 Tryz.underlying23 HI.out.2.1 HI.out.2.2.1 HI.out.2.2.2.1 HI.out.2.2.2.2 rfl (by decide) rfl (hC.l2.e0 h4 h7) rfl ((HZ.out.1.t.mono hB).below hC.bel) (flat_mul tcl_len ts) (tcl_one ts) (by simp only [maxLen]; omega) (by omega) hC.lb ?_
    intro v' W' ho hgr hx
    rw [Nat.zero_add, List.nil_append] at ho
    exact hC.ap2 h4 h7 (hK.post 8 (by decide +kernel)) h9 (by decide) ho hgr
  simp only [Act.put, List.setIfInBounds_toArray, List.set_cons_succ, List.set_cons_zero]
  refine' R6.WalkR.nd (fun _ => rfl) rfl (fun D ρ W hK hC => ?_) ?_
  · obtain ⟨A1, c1, hv1'⟩ := own_slice (hC.l1.e1 (hK.pre 3 (by decide +kernel)))
    obtain ⟨A2, c2, hv2'⟩ := own_slice (hC.l2.e1 (hK.pre 7 (by decide +kernel)))
    have hv1 : _ = Value.slice A1 ps.length c1 := hv1'
    have hv2 : _ = Value.slice A2 ts.length c2 := hv2'
    have hh := hC.mkb
    rw [hv1', hv2'] at hh
    have HC := Lib.hid hh
    clear hv1' hv2' hC hK hh
    go_simp
    exact HC.out
  simp only [Act.put, List.setIfInBounds_toArray, List.set_cons_succ, List.set_cons_zero]
  refine' R6.WalkR.det (c := undef) (fun _ => rfl) (fun D ρ W hK hC => ?_) ?_
  · have hb := hC.bu (hK.pre 8 (by decide +kernel))
    obtain ⟨A1, c1, hv1⟩ := own_slice (hC.l1.e1 (hK.pre 3 (by decide +kernel)))
    obtain ⟨A2, c2, hv2⟩ := own_slice (hC.l2.e1 (hK.pre 7 (by decide +kernel)))
    refine gives_store_blk 25 (.tmp 2) (.tmp 11) (cs := [ρ 6, ρ 10]) rfl rfl hb (hC.x0 hK.me) (Nat.le_of_ble_eq_true rfl) (by rw [hv1, hv2]; intro v hv; simp only [List.mem_cons, List.not_mem_nil, or_false] at hv; rcases hv with rfl | rfl <;> rfl) rowSheetP ?_
    intro W' hP hM'
    rw [splice_whole (by rfl)] at hM'
    exact ⟨rfl, hC.put hP hM'⟩
  simp only [Act.put, List.setIfInBounds_toArray, List.set_cons_succ, List.set_cons_zero]
  refine R6.WalkR.nil (fun D ρ W2 hD hC => ?_)
  have ho1 := hC.l1.e1 (hD 3 (by omega))
  have ho2 := hC.l2.e1 (hD 7 (by omega))
  have hx := hC.x1 (hD 9 (by omega))
  obtain ⟨A1, c1, hv1⟩ := own_slice ho1
  obtain ⟨A2, c2, hv2⟩ := own_slice ho2
  rw [hv1] at ho1 hx
  rw [hv2] at ho2 hx
  have H2 := Lib.hid (And.intro ho1 (And.intro ho2 (And.intro hx hC.bel)))
  clear hC hD ho1 ho2 hx hv1 hv2
  go_wp2
  refine bodyPost_ret (v := .agg #[.slice A1 ps.length c1, .slice A2 ts.length c2]) (results_cell1 (cs := [.slice A1 ps.length c1, .slice A2 ts.length c2]) Tryz.results13 rfl H2.out.2.2.1 rowSheetP) rfl ⟨_, _, rfl, ⟨own_weak H2.out.1 (by omega), own_weak H2.out.2.1 (by omega)⟩, H2.out.2.2.2⟩

end Go.Proofs.YtpnnlmaipcjkmaaGreat

namespace Go.Proofs.YtpnnlmaipcjkmaaGreat
open Go.RowKit
open R6 (done done_ne done_me upd_ne upd_me)

attribute [local go_sem] gives

section
variable {P : Program} {ops : Array Oper} {rest : List Oper} {o : Oper} {a : Act} {w : World} {Q : Exit → Act → World → Prop}
theorem wpList_store_v5 (ty : TypeId) (x y : Operand) (hgd : o.guard = none) (ho : o.op = .store ty x y) (hd : o.dst = none) {b f : Nat} (hx : a.eval x = .pointer (some ⟨b, f, none⟩)) {v : Value} (hy : a.eval y = v) (hv : v.cells = #[v]) (h1 : v.oneCell' = true)
    {L : List Value} {t : TypeId} (hb : w.heap[b]? = some (.cells L.toArray t (0, 0))) (hfit : f < L.length) (hty : (P.info? ty).map (·.size) = some 1)
    (h : ∀ w', Put w w' b → w'.heap[b]? = some (.cells (L.set f v).toArray t (0, 0)) → wpList P ops Q rest a w') : wpList P ops Q (o :: rest) a w := by
  refine wpList_plain hgd fun K hK => ?_
  have hrun := run_store_one (P := P) (v := v) hb hfit hv h1 hty
  unfold Oper.wp execOp
  simp only [ho, hx, hy, Sem.run_bind, Sem.run_pure, hrun, Result.andThen_ok]
  refine hK _ _ ?_
  rw [hd]
  refine h _ (put_setCells b [v] f w) ?_
  have := heap_setCell_same w b f _ _ v hb
  rwa [List.setIfInBounds_toArray] at this
end
end Go.Proofs.YtpnnlmaipcjkmaaGreat

namespace Go.Proofs.YtpnnlmaipcjkmaaGreat
open Go.RowKit

structure GrOk (gs : List Gd) (vary : Int) (ps : List Pol) (ts : List Ts) : Prop where
  v : 0 ≤ vary ∧ vary ≤ 200000
  g3 : gs.length ≤ 3
  p12 : ps.length ≤ 12
  t20 : ts.length ≤ 20
  up : Up ps
  po : ∀ p ∈ ps, (0 ≤ p.id ∧ p.id ≤ 9999) ∧ okPol p = true
  ht : ∀ t ∈ ts, okT t
  ok : ∀ g ∈ gs, okG2 g
end Go.Proofs.YtpnnlmaipcjkmaaGreat

namespace Go.Proofs.YtpnnlmaipcjkmaaGreat
open Go.RowKit
open R6 (done done_ne done_me upd_ne upd_me)

structure MadeC (w1 : World) (ka sl n : Nat) (ty : TypeId) (X : List Value) (D : Nat → Bool) (σ : Nat → Value) (W : World) : Prop where
  bel : Below w1.heap.size w1 W
  mkd : D ka = true → ∃ b, σ sl = .slice (some ⟨b, 0, none⟩) n n ∧ w1.heap.size ≤ b ∧ W.heap[b]? = some (.cells X.toArray ty (0, 0))
def madeK (ka sl k : Nat) (d : Option Nat) : Bool := !(k == ka || d == some sl)
section
variable {w1 W W' : World} {ka sl n : Nat} {ty : TypeId} {X : List Value} {D : Nat → Bool} {σ : Nat → Value}
theorem MadeC.start (hD : ∀ k, D k = false) (h : Below w1.heap.size w1 W) : MadeC w1 ka sl n ty X D σ W := ⟨h, fun h => by rw [hD] at h; cases h⟩
theorem MadeC.move {k : Nat} {d : Option Nat} {v : Value} (h : MadeC w1 ka sl n ty X D σ W) (hk : madeK ka sl k d = true) : MadeC w1 ka sl n ty X (done D k) (R4.upd σ d v) W := by
  simp only [madeK, Bool.not_eq_true', Bool.or_eq_false_iff, beq_eq_false_iff_ne, ne_eq] at hk
  have e := done_ne (D := D) (k := k) (j := ka) (by omega)
  have u := upd_ne (ρ := σ) (v := v) hk.2
  exact ⟨h.bel, by rw [e, u]; exact h.mkd⟩
theorem MadeC.next (h : MadeC w1 ka sl n ty X D σ W) (hg : Grows W W') : MadeC w1 ka sl n ty X D σ W' :=
  ⟨h.bel.trans (hg.mono h.bel.size), fun e => let ⟨b, h1, h2, h3⟩ := h.mkd e; ⟨b, h1, h2, (hg.block _ (lt_of_heap h3)).trans h3⟩⟩
theorem MadeC.made {cs : Array Value} (h : MadeC w1 ka sl n ty X D σ W) (hc : cs = X.toArray) : MadeC w1 ka sl n ty X (done D ka) (R4.upd σ (some sl) (.slice (some ⟨W.heap.size, 0, none⟩) n n)) (W.alloc (.cells cs ty)) := by
  subst hc
  exact ⟨h.bel.trans ((grow1 W _).mono h.bel.size), fun _ => ⟨_, upd_me, h.bel.size, alloc_at0 _ _⟩⟩
end
theorem grOk_of {gs : List Gd} {vary : Int} {ps : List Pol} {ts : List Ts} (h : gChk gs vary ps ts = 0) : GrOk gs vary ps ts := by
  obtain ⟨h1, h2⟩ := gChk_ok h
  obtain ⟨⟨a, b⟩, c, d, e⟩ := okSheet_parts h2
  obtain ⟨f, g, k⟩ := okGrading_parts h1
  exact ⟨g, f, a, b, c, d, e, k⟩
end Go.Proofs.YtpnnlmaipcjkmaaGreat
