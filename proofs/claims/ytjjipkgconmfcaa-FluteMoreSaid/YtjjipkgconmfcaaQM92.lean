/-
  Texts laid together: FvM, FvG, FvH, FvP0.
-/
import Derived.Test.YtjjipkgconmfcaaQM91
import Derived.Test.YtjjipkgconmfcaaB919
import Derived.Test.YtjjipkgconmfcaaB918
set_option linter.all false
namespace Go.Proofs.Ytjjipkgconmfcaa
open Go.RowKit Go.Maps
open R6 (done done_ne done_me upd_ne upd_me)

attribute [local go_sem] gives

def twb (v : Value) : Nat := match v with
  | .agg cs => (cs.getD 7 undef).ownBlock.getD 0
  | _ => 0
def ptb (v : Value) : Nat := match v with
  | .pointer (some a) => a.block
  | _ => 0
def TwK (w0 : World) (f : Fu) (v : Value) (W : World) : Prop := ∃ c tl, v = .agg (fuc (fuAt' f (some ⟨twb v, 0, none⟩) c)).toArray ∧ w0.heap.size ≤ twb v ∧ OwnHo W (twb v) f.hs tl
def BxK (w0 : World) (v : Value) (W : World) (x : Value) : Prop := v = .pointer (some ⟨ptb v, 0, none⟩) ∧ w0.heap.size ≤ ptb v ∧ ∃ cs : List Value, cs.length = 8 ∧ (∀ v ∈ cs, v.oneCell' = true) ∧ x = .agg cs.toArray ∧ W.heap[ptb v]? = some (.cells cs.toArray 28 (0, 0))
def zeF : List Value := [.int .i64 0, .int .i64 0, .int .i64 0, .int .i64 0, .int .i64 0, .int .i64 0, .int .i64 0, .slice none 0 0]
theorem TwK.keep {w0 : World} {f : Fu} {v : Value} {W W' : World} (h : TwK w0 f v W) (hk : ∀ (b : Nat) (cur : Array Value), W.heap[b]? = some (.cells cur 38 (0, 0)) → W'.heap[b]? = W.heap[b]?) : TwK w0 f v W' :=
  let ⟨c, tl, e, hb, ho⟩ := h
  ⟨c, tl, e, hb, (hk _ _ ho).trans ho⟩
theorem TwK.grows {w0 : World} {f : Fu} {v : Value} {W W' : World} (h : TwK w0 f v W) (hg : Grows W W') : TwK w0 f v W' := h.keep (fun b _ hb => hg.block b (lt_of_heap hb))
theorem TwK.lt {w0 : World} {f : Fu} {v : Value} {W : World} (h : TwK w0 f v W) : twb v < W.heap.size := let ⟨_, _, _, _, ho⟩ := h; lt_of_heap ho
theorem BxK.keep {w0 : World} {v x : Value} {W W' : World} (h : BxK w0 v W x) (hk : W'.heap[ptb v]? = W.heap[ptb v]?) : BxK w0 v W' x :=
  let ⟨e, hb, cs, hl, h1, hx, ho⟩ := h
  ⟨e, hb, cs, hl, h1, hx, hk.trans ho⟩
theorem BxK.lt {w0 : World} {v x : Value} {W : World} (h : BxK w0 v W x) : ptb v < W.heap.size := let ⟨_, _, _, _, _, _, ho⟩ := h; lt_of_heap ho
theorem BxK.grows {w0 : World} {v x : Value} {W W' : World} (h : BxK w0 v W x) (hg : Grows W W') : BxK w0 v W' x := h.keep (hg.block _ h.lt)

structure TwC (w0 : World) (f : Fu) (D : Nat → Bool) (σ : Nat → Value) (W : World) : Prop where
  bel : Below w0.heap.size w0 W
  t1 : D 1 = true → TwK w0 f (σ 97) W
  t3 : D 3 = true → TwK w0 f (σ 99) W
  n1 : D 1 = true → D 3 = true → twb (σ 97) ≠ twb (σ 99)
  a4 : D 4 = true → BxK w0 (σ 16) W (if D 6 = true then σ 97 else .agg zeF.toArray)
  a5 : D 5 = true → BxK w0 (σ 17) W (if D 7 = true then σ 99 else .agg zeF.toArray)
  n2 : D 4 = true → D 5 = true → ptb (σ 16) ≠ ptb (σ 17)
section
variable {w0 W W' : World} {f : Fu} {D : Nat → Bool} {σ : Nat → Value}
theorem TwC.move {k : Nat} {d : Nat} {v : Value} (h : TwC w0 f D σ W) (hk : (k == 1 || k == 3 || k == 4 || k == 5 || k == 6 || k == 7) = false) (hd : (d == 97 || d == 99 || d == 16 || d == 17) = false) : TwC w0 f (done D k) (R4.upd σ (some d) v) W := by
  simp only [Bool.or_eq_false_iff, beq_eq_false_iff_ne, ne_eq] at hk hd
  obtain ⟨⟨⟨⟨⟨k1, k3⟩, k4⟩, k5⟩, k6⟩, k7⟩ := hk
  obtain ⟨⟨⟨d1, d3⟩, d4⟩, d5⟩ := hd
  have e : ∀ x, d ≠ x → R4.upd σ (some d) v x = σ x := fun x hx => upd_ne (fun e => hx (Option.some.inj e))
  have c : ∀ x, k ≠ x → done D k x = D x := fun x hx => done_ne (Ne.symm hx)
  have q1 := c 1 k1
  have q3 := c 3 k3
  have q4 := c 4 k4
  have q5 := c 5 k5
  have q6 := c 6 k6
  have q7 := c 7 k7
  refine ⟨h.bel, ?_, ?_, ?_, ?_, ?_, ?_⟩
  · rw [q1, e 97 d1]; exact h.t1
  · rw [q3, e 99 d3]; exact h.t3
  · rw [q1, q3, e 97 d1, e 99 d3]; exact h.n1
  · rw [q4, q6, e 97 d1, e 16 d4]; exact h.a4
  · rw [q5, q7, e 99 d3, e 17 d5]; exact h.a5
  · rw [q4, q5, e 16 d4, e 17 d5]; exact h.n2
theorem TwC.next (h : TwC w0 f D σ W) (hg : Grows W W') : TwC w0 f D σ W' :=
  ⟨h.bel.trans (hg.mono h.bel.size), fun hd => (h.t1 hd).grows hg, fun hd => (h.t3 hd).grows hg, h.n1, fun hd => (h.a4 hd).grows hg, fun hd => (h.a5 hd).grows hg, h.n2⟩
theorem dn (k j : Nat) (h : (j == k) = false := by rfl) : done D k j = D j := done_ne (fun e => by rw [e] at h; simp at h)
theorem un (d j : Nat) (v : Value) (h : (d == j) = false := by rfl) : R4.upd σ (some d) v j = σ j := upd_ne (fun e => by rw [Option.some.inj e] at h; simp at h)
theorem TwC.call1 {v : Value} (h : TwC w0 f D σ W) (hg : Grows W W') (hv : TwK w0 f v W') (hn : W.heap.size ≤ twb v) (h6 : D 6 = false) : TwC w0 f (done D 1) (R4.upd σ (some 97) v) W' := by
  have h2 := h.next hg
  refine ⟨h2.bel, fun _ => by rw [upd_me]; exact hv, ?_, fun _ hd => ?_, ?_, ?_, ?_⟩
  · rw [dn 1 3, un 97 99]; exact h2.t3
  · rw [dn 1 3] at hd; rw [upd_me, un 97 99]; have := (h.t3 hd).lt; omega
  · rw [dn 1 4, dn 1 6, h6, un 97 16]; intro hd; have := h2.a4 hd; rw [h6] at this; exact this
  · rw [dn 1 5, dn 1 7, un 97 17, un 97 99]; exact h2.a5
  · rw [dn 1 4, dn 1 5, un 97 16, un 97 17]; exact h2.n2
theorem TwC.call3 {v : Value} (h : TwC w0 f D σ W) (hg : Grows W W') (hv : TwK w0 f v W') (hn : W.heap.size ≤ twb v) (h7 : D 7 = false) : TwC w0 f (done D 3) (R4.upd σ (some 99) v) W' := by
  have h2 := h.next hg
  refine ⟨h2.bel, ?_, fun _ => by rw [upd_me]; exact hv, fun hd _ => ?_, ?_, ?_, ?_⟩
  · rw [dn 3 1, un 99 97]; exact h2.t1
  · rw [dn 3 1] at hd; rw [upd_me, un 99 97]; have := (h.t1 hd).lt; omega
  · rw [dn 3 4, dn 3 6, un 99 16, un 99 97]; exact h2.a4
  · rw [dn 3 5, dn 3 7, h7, un 99 17]; intro hd; have := h2.a5 hd; rw [h7] at this; exact this
  · rw [dn 3 4, dn 3 5, un 99 16, un 99 17]; exact h2.n2
theorem bx_new (hb : Below w0.heap.size w0 W) : BxK w0 (.pointer (some ⟨W.heap.size, 0, none⟩)) (W.alloc (.cells zeF.toArray 28)) (.agg zeF.toArray) :=
  ⟨rfl, hb.size, zeF, rfl, by decide, rfl, alloc_at0 W _⟩
theorem TwC.box4 (h : TwC w0 f D σ W) (h6 : D 6 = false) : TwC w0 f (done D 4) (R4.upd σ (some 16) (.pointer (some ⟨W.heap.size, 0, none⟩))) (W.alloc (.cells zeF.toArray 28)) := by
  have h2 := h.next (grow1 W (.cells zeF.toArray 28))
  refine ⟨h2.bel, ?_, ?_, ?_, ?_, ?_, ?_⟩
  · rw [dn 4 1, un 16 97]; exact h2.t1
  · rw [dn 4 3, un 16 99]; exact h2.t3
  · rw [dn 4 1, dn 4 3, un 16 97, un 16 99]; exact h2.n1
  · rw [dn 4 6, h6, upd_me]; exact fun _ => bx_new h.bel
  · rw [dn 4 5, dn 4 7, un 16 17, un 16 99]; exact h2.a5
  · rw [dn 4 5, upd_me, un 16 17]; intro _ hd; have := (h.a5 hd).lt; unfold ptb at this ⊢; dsimp only; omega
theorem TwC.box5 (h : TwC w0 f D σ W) (h7 : D 7 = false) : TwC w0 f (done D 5) (R4.upd σ (some 17) (.pointer (some ⟨W.heap.size, 0, none⟩))) (W.alloc (.cells zeF.toArray 28)) := by
  have h2 := h.next (grow1 W (.cells zeF.toArray 28))
  refine ⟨h2.bel, ?_, ?_, ?_, ?_, ?_, ?_⟩
  · rw [dn 5 1, un 17 97]; exact h2.t1
  · rw [dn 5 3, un 17 99]; exact h2.t3
  · rw [dn 5 1, dn 5 3, un 17 97, un 17 99]; exact h2.n1
  · rw [dn 5 4, dn 5 6, un 17 16, un 17 97]; exact h2.a4
  · rw [dn 5 7, h7, upd_me]; exact fun _ => bx_new h.bel
  · rw [dn 5 4, upd_me, un 17 16]; intro hd _; have := (h.a4 hd).lt; unfold ptb at this ⊢; dsimp only; omega
theorem put_hole {b : Nat} {cs : List Value} (hP : Put W W' b) (hb : W.heap[b]? = some (.cells cs.toArray 28 (0, 0))) (k : Nat) (cur : Array Value) (hk : W.heap[k]? = some (.cells cur 38 (0, 0))) : W'.heap[k]? = W.heap[k]? :=
  hP.other k (fun e => by rw [e, hb] at hk; simp only [Option.some.injEq, Obj.cells.injEq] at hk; exact absurd hk.2.1 (by decide))
theorem TwC.put6 (h : TwC w0 f D σ W) {L : List Value} (h4 : D 4 = true) (h7 : D 7 = false) (hP : Put W W' (ptb (σ 16))) (hL : L.length = 8) (h1 : ∀ v ∈ L, v.oneCell' = true) (hv : σ 97 = .agg L.toArray) (hM : W'.heap[ptb (σ 16)]? = some (.cells L.toArray 28 (0, 0))) : TwC w0 f (done D 6) (R4.upd σ none undef) W' := by
  have e : R4.upd σ none undef = σ := by funext t; rfl
  rw [e]
  obtain ⟨e4, b4, cs, hl, -, hx, ho⟩ := h.a4 h4
  have hh := fun k cur hk => put_hole hP ho k cur hk
  refine ⟨h.bel.trans (hP.below b4), ?_, ?_, ?_, ?_, ?_, ?_⟩
  · rw [dn 6 1]; exact fun hd => (h.t1 hd).keep hh
  · rw [dn 6 3]; exact fun hd => (h.t3 hd).keep hh
  · rw [dn 6 1, dn 6 3]; exact h.n1
  · rw [dn 6 4, done_me, if_pos rfl]; exact fun _ => ⟨e4, b4, L, hL, h1, hv, hM⟩
  · rw [dn 6 5, dn 6 7]; exact fun hd => (h.a5 hd).keep (hP.other _ (Ne.symm (h.n2 h4 hd)))
  · rw [dn 6 4, dn 6 5]; exact h.n2
theorem TwC.put7 (h : TwC w0 f D σ W) {L : List Value} (h5 : D 5 = true) (hP : Put W W' (ptb (σ 17))) (hL : L.length = 8) (h1 : ∀ v ∈ L, v.oneCell' = true) (hv : σ 99 = .agg L.toArray) (hM : W'.heap[ptb (σ 17)]? = some (.cells L.toArray 28 (0, 0))) : TwC w0 f (done D 7) (R4.upd σ none undef) W' := by
  have e : R4.upd σ none undef = σ := by funext t; rfl
  rw [e]
  obtain ⟨e5, b5, cs, hl, -, hx, ho⟩ := h.a5 h5
  have hh := fun k cur hk => put_hole hP ho k cur hk
  refine ⟨h.bel.trans (hP.below b5), ?_, ?_, ?_, ?_, ?_, ?_⟩
  · rw [dn 7 1]; exact fun hd => (h.t1 hd).keep hh
  · rw [dn 7 3]; exact fun hd => (h.t3 hd).keep hh
  · rw [dn 7 1, dn 7 3]; exact h.n1
  · rw [dn 7 4, dn 7 6]; exact fun hd => (h.a4 hd).keep (hP.other _ (h.n2 hd h5))
  · rw [dn 7 5, done_me, if_pos rfl]; exact fun _ => ⟨e5, b5, L, hL, h1, hv, hM⟩
  · rw [dn 7 4, dn 7 5]; exact h.n2
theorem TwC.start (hD : ∀ k, D k = false) : TwC w0 f D σ w0.drew :=
  have no : ∀ {p : Prop} (k : Nat), D k = true → p := fun k h => by rw [hD] at h; cases h
  ⟨(Below.refl _ _).drew, no 1, no 3, no 1, no 4, no 5, no 4⟩
end

/-- The two boxes and the holes of both. -/
structure Tw2 (w0 : World) (b6 b7 g1 g3 : Nat) (x6 x7 : List Value) (h1 : List Ho) (tl1 : List Value) (h3 : List Ho) (tl3 : List Value) (W : World) : Prop where
  bel : Below w0.heap.size w0 W
  m6 : W.heap[b6]? = some (.cells x6.toArray 28 (0, 0))
  m7 : W.heap[b7]? = some (.cells x7.toArray 28 (0, 0))
  o1 : OwnHo W g1 h1 tl1
  o3 : OwnHo W g3 h3 tl3
structure NeB (w0 : World) (b6 b7 g1 g3 : Nat) : Prop where
  a6 : w0.heap.size ≤ b6
  a7 : w0.heap.size ≤ b7
  a1 : w0.heap.size ≤ g1
  a3 : w0.heap.size ≤ g3
  n67 : b6 ≠ b7
  n13 : g1 ≠ g3
  n61 : b6 ≠ g1
  n63 : b6 ≠ g3
  n71 : b7 ≠ g1
  n73 : b7 ≠ g3
theorem ne_types {W : World} {b g : Nat} {cs : List Value} {hs : List Ho} {tl : List Value} (hb : W.heap[b]? = some (.cells cs.toArray 28 (0, 0))) (ho : OwnHo W g hs tl) : b ≠ g := fun e => by
  unfold OwnHo at ho
  rw [← e, hb] at ho
  simp only [Option.some.injEq, Obj.cells.injEq] at ho
  exact absurd ho.2.1 (by decide)
section
variable {w0 W W' : World} {b6 b7 g1 g3 : Nat} {x6 x7 y : List Value} {h1 h3 h : List Ho} {tl1 tl3 : List Value}
theorem Tw2.put6 (hT : Tw2 w0 b6 b7 g1 g3 x6 x7 h1 tl1 h3 tl3 W) (hN : NeB w0 b6 b7 g1 g3) (hb : Below b6 W W') (ho : ∀ k, k ≠ b6 → W'.heap[k]? = W.heap[k]?) (hM : W'.heap[b6]? = some (.cells y.toArray 28 (0, 0))) : Tw2 w0 b6 b7 g1 g3 y x7 h1 tl1 h3 tl3 W' :=
  ⟨hT.bel.trans (hb.mono hN.a6), hM, (ho _ (Ne.symm hN.n67)).trans hT.m7, (ho _ (Ne.symm hN.n61)).trans hT.o1, (ho _ (Ne.symm hN.n63)).trans hT.o3⟩
theorem Tw2.put7 (hT : Tw2 w0 b6 b7 g1 g3 x6 x7 h1 tl1 h3 tl3 W) (hN : NeB w0 b6 b7 g1 g3) (hb : Below b7 W W') (ho : ∀ k, k ≠ b7 → W'.heap[k]? = W.heap[k]?) (hM : W'.heap[b7]? = some (.cells y.toArray 28 (0, 0))) : Tw2 w0 b6 b7 g1 g3 x6 y h1 tl1 h3 tl3 W' :=
  ⟨hT.bel.trans (hb.mono hN.a7), (ho _ hN.n67).trans hT.m6, hM, (ho _ (Ne.symm hN.n71)).trans hT.o1, (ho _ (Ne.symm hN.n73)).trans hT.o3⟩
theorem Tw2.put1 (hT : Tw2 w0 b6 b7 g1 g3 x6 x7 h1 tl1 h3 tl3 W) (hN : NeB w0 b6 b7 g1 g3) (hb : Below g1 W W') (ho : ∀ k, k ≠ g1 → W'.heap[k]? = W.heap[k]?) (hM : OwnHo W' g1 h tl1) : Tw2 w0 b6 b7 g1 g3 x6 x7 h tl1 h3 tl3 W' :=
  ⟨hT.bel.trans (hb.mono hN.a1), (ho _ hN.n61).trans hT.m6, (ho _ hN.n71).trans hT.m7, hM, (ho _ (Ne.symm hN.n13)).trans hT.o3⟩
theorem Tw2.put3 (hT : Tw2 w0 b6 b7 g1 g3 x6 x7 h1 tl1 h3 tl3 W) (hN : NeB w0 b6 b7 g1 g3) (hb : Below g3 W W') (ho : ∀ k, k ≠ g3 → W'.heap[k]? = W.heap[k]?) (hM : OwnHo W' g3 h tl3) : Tw2 w0 b6 b7 g1 g3 x6 x7 h1 tl1 h tl3 W' :=
  ⟨hT.bel.trans (hb.mono hN.a3), (ho _ hN.n63).trans hT.m6, (ho _ hN.n73).trans hT.m7, (ho _ hN.n13).trans hT.o1, hM⟩
theorem Tw2.grows (hT : Tw2 w0 b6 b7 g1 g3 x6 x7 h1 tl1 h3 tl3 W) (hg : Grows W W') : Tw2 w0 b6 b7 g1 g3 x6 x7 h1 tl1 h3 tl3 W' :=
  ⟨hT.bel.trans (hg.mono hT.bel.size), (hg.block _ (lt_of_heap hT.m6)).trans hT.m6, (hg.block _ (lt_of_heap hT.m7)).trans hT.m7, (hg.block _ (lt_of_heap hT.o1)).trans hT.o1, (hg.block _ (lt_of_heap hT.o3)).trans hT.o3⟩
end
/-- The fields of the low one and of the high one, as they are written. -/
def lowB (f : Fu) (g c : Nat) (D : Nat → Bool) : List Value := [.int .i64 f.len, .int .i64 (if D 11 = true then f.e1 else f.e0), .int .i64 f.e1, .int .i64 (if D 14 = true then f.c1 else f.c0), .int .i64 f.c1, .int .i64 f.s0, .int .i64 (if D 17 = true then f.s0 else f.s1), .slice (some ⟨g, 0, none⟩) f.hs.length c]
def highB (f : Fu) (g c : Nat) (D : Nat → Bool) : List Value := [.int .i64 f.len, .int .i64 f.e0, .int .i64 (if D 11 = true then f.e0 else f.e1), .int .i64 f.c0, .int .i64 (if D 14 = true then f.c0 else f.c1), .int .i64 (if D 17 = true then f.s1 else f.s0), .int .i64 f.s1, .slice (some ⟨g, 0, none⟩) f.hs.length c]
theorem infoI9 : (Try.prog.info? 3).map (·.size) = some 1 := by kernel_rfl
/-- A cell of the next hole, written at the region's end. -/
def nxB (g : Nat → Ho → Ho) (k : Nat) (hs : List Ho) (tl : List Value) (D : Nat → Bool) : List Value := if D 13 = true then (mapK g (k + 1) hs).flatMap hoc ++ tl else (mapK g k hs).flatMap hoc ++ tl

end Go.Proofs.Ytjjipkgconmfcaa

namespace Go.Proofs.Ytjjipkgconmfcaa
open Go.RowKit Go.Maps
open R6 (done done_ne done_me upd_ne upd_me)

attribute [local go_sem] gives

/-- Which are the first two open holes. -/
def TwoOpen (n i j : Nat) : Prop := i < j ∧ n.testBit i = true ∧ n.testBit j = true ∧ (∀ k, k < i → n.testBit k = false) ∧ ∀ k, i < k → k < j → n.testBit k = false
theorem airF_two (f : Fu) {n i j : Nat} (hn : n < 256) (hl : f.hs.length ≤ 8) (hj : j < f.hs.length) (h : TwoOpen n i j) : airF f n = ((f.hs[i]?.getD ⟨0, 0, 0⟩).a + (f.hs[i]?.getD ⟨0, 0, 0⟩).lo + ((j - i - 1 : Nat) : Int) * f.c0, (f.hs[i]?.getD ⟨0, 0, 0⟩).a + (f.hs[i]?.getD ⟨0, 0, 0⟩).hi + ((j - i - 1 : Nat) : Int) * f.c1) := by
  obtain ⟨hij, hi, hjb, hb, hm⟩ := h
  have h0 : n ≠ 0 := fun e => by rw [e, Nat.zero_testBit] at hi; cases hi
  have ht := tz8_at hn hi hb
  have hc : cloF n i (f.hs.length - i - 1) = j - i - 1 := cloF_at hn (by omega) (fun k h1 h2 => hm k h1 (by omega)) (.inr (by rw [show i + 1 + (j - i - 1) = j by omega]; exact hjb)) (by omega)
  unfold airF
  rw [if_neg h0]
  dsimp only
  rw [ht, hc]
theorem airF_after (f : Fu) {n m i j : Nat} (hn : n < 256) (hm : m < 256) (hl : f.hs.length ≤ 8) (hj : j < f.hs.length) (h : TwoOpen n i j) (hb : ∀ k, k ≤ j → m.testBit k = n.testBit k) : airF f m = airF f n := by
  have h2 : TwoOpen m i j := by
    obtain ⟨hij, h1, h2, h3, h4⟩ := h
    exact ⟨hij, by rw [hb i (by omega)]; exact h1, by rw [hb j (Nat.le_refl _)]; exact h2, fun k hk => by rw [hb k (by omega)]; exact h3 k hk, fun k hk hk2 => by rw [hb k (by omega)]; exact h4 k hk hk2⟩
  rw [airF_two f hn hl hj h, airF_two f hm hl hj h2]
theorem tonF_after (f : Fu) {n m i j : Nat} (hn : n < 256) (hm : m < 256) (hl : f.hs.length ≤ 8) (hj : j < f.hs.length) (h : TwoOpen n i j) (hb : ∀ k, k ≤ j → m.testBit k = n.testBit k) : tonF f m = tonF f n := by
  unfold tonF; rw [airF_after f hn hm hl hj h hb]

set_option maxRecDepth 100000 in
set_option maxHeartbeats 4000000 in
theorem fingered_any (f : Fu) (hl : f.hs.length ≤ 8) (n : Nat) (hn : n < 256) (w : World) :
    Calls Try.prog 34 #[.agg (fuc f).toArray, .int .u8 (n : Int)] w fun e w' => e = .returned (.int .u8 ((n % 2 ^ f.hs.length : Nat) : Int)) ∧ Below w.heap.size w w' := by
  have hN8 : 2 ^ f.hs.length ≤ 256 := Nat.pow_le_pow_right (n := 2) (by omega) hl
  have hN0 : 0 < 2 ^ f.hs.length := Nat.pow_pos (by omega)
  obtain ⟨N, hN⟩ : ∃ N, N = 2 ^ f.hs.length := ⟨_, rfl⟩
  have hNz : ((2 : Int) ^ f.hs.length) = (N : Int) := by rw [hN]; simp
  have hNw : wrap64 ((2 : Int) ^ f.hs.length) = (N : Int) := by rw [hNz]; unfold wrap64; omega
  rw [← hN] at hN8 hN0 ⊢
  have hlz : (f.hs.length : Int) ≤ 8 := by omega
  have hr : ((n % N : Nat) : Int) = (n : Int).tmod (N : Int) := by rw [Int.tmod_eq_emod_of_nonneg (by omega)]; simp
  have hr2 : n % N < 256 := Nat.lt_of_lt_of_le (Nat.mod_lt _ hN0) hN8
  have HNW := Lib.hid (And.intro hNw (And.intro hr hr2))
  have hnz : (n : Int) ≤ 255 := by omega
  have hN0z : (N : Int) ≠ 0 := by omega
  have hNnz : ((N : Int) == 0) = false := by simpa using (show N ≠ 0 by omega)
  clear hN hNz hr hr2
  unfold fuc
  go_enter Try.func34, Try.ntmps34
  go_wp2
  go_ret
  refine ⟨?_, (Below.refl _ _).alloc (Nat.le_refl _) _⟩
  have h1 := HNW.out.2.2
  have h2 : (n : Int) % (N : Int) % 256 = ((n % N : Nat) : Int) := by rw [← Int.natCast_emod]; omega
  rw [h2]
  rfl

/-- How many holes are open, and which is the second one. -/
def opn (n L : Nat) : Nat → Nat × Nat
  | 0 => (0, L)
  | k + 1 => if n.testBit k = true then ((opn n L k).1 + 1, if (opn n L k).1 + 1 = 2 then k else (opn n L k).2) else opn n L k
theorem opn_le (n L : Nat) : ∀ k, (opn n L k).1 ≤ k
  | 0 => Nat.le_refl 0
  | k + 1 => by
    have := opn_le n L k
    unfold opn
    split
    · dsimp only; omega
    · omega
theorem opn_spec (n L : Nat) : ∀ k, ((opn n L k).1 = 0 → ∀ m, m < k → n.testBit m = false) ∧ ((opn n L k).1 = 1 → ∃ i, i < k ∧ n.testBit i = true ∧ (∀ m, m < i → n.testBit m = false) ∧ ∀ m, i < m → m < k → n.testBit m = false) ∧ (2 ≤ (opn n L k).1 → ∃ i, TwoOpen n i (opn n L k).2 ∧ (opn n L k).2 < k)
  | 0 => ⟨fun _ m hm => absurd hm (Nat.not_lt_zero m), ⟨fun h => absurd h (by simp [opn]), fun h => absurd h (by simp [opn])⟩⟩
  | k + 1 => by
    obtain ⟨h0, h1, h2⟩ := opn_spec n L k
    cases hb : n.testBit k
    · have e : opn n L (k + 1) = opn n L k := by simp [opn, hb]
      rw [e]
      refine ⟨fun h m hm => ?_, fun h => ?_, fun h => ?_⟩
      · rcases Nat.lt_or_ge m k with hk | hk
        · exact h0 h m hk
        · rw [show m = k by omega]; exact hb
      · obtain ⟨i, hi, hbi, hlo, hmid⟩ := h1 h
        refine ⟨i, by omega, hbi, hlo, fun m h3 h4 => ?_⟩
        rcases Nat.lt_or_ge m k with hk | hk
        · exact hmid m h3 hk
        · rw [show m = k by omega]; exact hb
      · obtain ⟨i, ht, hlt⟩ := h2 h
        exact ⟨i, ht, by omega⟩
    · have e : opn n L (k + 1) = ((opn n L k).1 + 1, if (opn n L k).1 + 1 = 2 then k else (opn n L k).2) := by simp [opn, hb]
      rw [e]
      dsimp only
      refine ⟨fun h => by omega, fun h => ?_, fun h => ?_⟩
      · have := h0 (by omega)
        exact ⟨k, by omega, hb, this, fun m h3 h4 => by omega⟩
      · by_cases h3 : (opn n L k).1 + 1 = 2
        · rw [if_pos h3]
          obtain ⟨i, hi, hbi, hlo, hmid⟩ := h1 (by omega)
          exact ⟨i, ⟨hi, hbi, hb, hlo, hmid⟩, by omega⟩
        · rw [if_neg h3]
          obtain ⟨i, ht, hlt⟩ := h2 (by omega)
          exact ⟨i, ht, by omega⟩

end Go.Proofs.Ytjjipkgconmfcaa

namespace Go.Proofs.Ytjjipkgconmfcaa
open Go.RowKit Go.Maps
open R6 (done done_ne done_me upd_ne upd_me)

attribute [local go_sem] gives

theorem bit_and {n k : Nat} (hn : n < 256) (hk : k < 8) : bits .and .u8 ((n : Int) / 2 ^ k) 1 = if n.testBit k = true then 1 else 0 := by
  obtain ⟨m, rfl⟩ : ∃ m : Fin 256, m.val = n := ⟨⟨n, hn⟩, rfl⟩
  obtain ⟨j, rfl⟩ : ∃ j : Fin 8, j.val = k := ⟨⟨k, hk⟩, rfl⟩
  clear hn hk
  revert m j
  decide +kernel

theorem ofInt_nat (a : Nat) (ha : a < 256) : (BitVec.ofInt 8 (a : Int)).toNat = a := by
  rw [BitVec.ofInt_natCast, BitVec.toNat_ofNat]; exact Nat.mod_eq_of_lt (by omega)
theorem bits_and8 (a b : Nat) (ha : a < 256) (hb : b < 256) : bits .and .u8 (a : Int) (b : Int) = ((a &&& b : Nat) : Int) := by
  have hx : a &&& b < 2 ^ 8 := Nat.and_lt_two_pow _ (by omega)
  show IntKind.u8.wrap ((BitVec.ofInt 8 (a : Int) &&& BitVec.ofInt 8 (b : Int)).toNat : Int) = _
  rw [BitVec.toNat_and, ofInt_nat a ha, ofInt_nat b hb, IntKind.wrap_u8]
  omega
theorem bits_or8 (a b : Nat) (ha : a < 256) (hb : b < 256) : bits .or .u8 (a : Int) (b : Int) = ((a ||| b : Nat) : Int) := by
  have hx : a ||| b < 2 ^ 8 := Nat.or_lt_two_pow (by omega) (by omega)
  show IntKind.u8.wrap ((BitVec.ofInt 8 (a : Int) ||| BitVec.ofInt 8 (b : Int)).toNat : Int) = _
  rw [BitVec.toNat_or, ofInt_nat a ha, ofInt_nat b hb, IntKind.wrap_u8]
  omega
theorem bits_not8 (a b : Nat) (ha : a < 256) (hb : b < 256) : ∃ c : Nat, bits .andNot .u8 (a : Int) (b : Int) = (c : Int) ∧ c ≤ a ∧ ∀ k, c.testBit k = (a.testBit k && !b.testBit k) := by
  refine ⟨(BitVec.ofInt 8 (a : Int) &&& ~~~ BitVec.ofInt 8 (b : Int)).toNat, ?_, ?_, fun k => ?_⟩
  · show IntKind.u8.wrap ((BitVec.ofInt 8 (a : Int) &&& ~~~ BitVec.ofInt 8 (b : Int)).toNat : Int) = _
    have h : (BitVec.ofInt 8 (a : Int) &&& ~~~ BitVec.ofInt 8 (b : Int)).toNat ≤ a := by
      rw [BitVec.toNat_and, ofInt_nat a ha]; exact Nat.and_le_left
    rw [IntKind.wrap_u8]
    omega
  · rw [BitVec.toNat_and, ofInt_nat a ha]; exact Nat.and_le_left
  · have hbk : b.testBit k = (BitVec.ofInt 8 (b : Int)).getLsbD k := by rw [← BitVec.testBit_toNat, ofInt_nat b hb]
    have hak : a.testBit k = (BitVec.ofInt 8 (a : Int)).getLsbD k := by rw [← BitVec.testBit_toNat, ofInt_nat a ha]
    rw [BitVec.testBit_toNat, BitVec.getLsbD_and, BitVec.getLsbD_not, hbk, hak]
    by_cases h64 : k < 8
    · simp [h64]
    · simp [h64, BitVec.getLsbD_of_ge _ _ (show 8 ≤ k by omega)]
theorem kept_val {j : Nat} (hj : j ≤ 7) : wrap64 (wrap64 (2 * 2 ^ j) - 1) % 256 = ((2 ^ (j + 1) - 1 : Nat) : Int) := by
  obtain ⟨m, rfl⟩ : ∃ m : Fin 8, m.val = j := ⟨⟨j, by omega⟩, rfl⟩
  clear hj
  revert m
  decide +kernel
/-- The fingering that is like another one up to its second open hole. -/
theorem mix_val {n q j N : Nat} (hn : n < 256) (hq : q < 256) (hj : j ≤ 7) {L : Nat} (hnl : n < 2 ^ L) (hql : q < 2 ^ L) :
    ∃ m : Nat, bits .or .u8 (bits .and .u8 (n : Int) ((2 ^ (j + 1) - 1 : Nat) : Int)) (bits .andNot .u8 (q : Int) ((2 ^ (j + 1) - 1 : Nat) : Int)) = (m : Int) ∧ m < 256 ∧ m < 2 ^ L ∧ ∀ k, k ≤ j → m.testBit k = n.testBit k := by
  have hk : 2 ^ (j + 1) - 1 < 256 := by have : 2 ^ (j + 1) ≤ 2 ^ 8 := Nat.pow_le_pow_right (by omega) (by omega); omega
  obtain ⟨c, hc, hcq, hcb⟩ := bits_not8 q (2 ^ (j + 1) - 1) hq hk
  have ha : n &&& (2 ^ (j + 1) - 1) ≤ n := Nat.and_le_left
  rw [hc, bits_and8 n _ hn hk, bits_or8 _ c (by omega) (by omega)]
  refine ⟨_, rfl, Nat.or_lt_two_pow (n := 8) (by omega) (by omega), Nat.or_lt_two_pow (by omega) (by omega), fun k hkj => ?_⟩
  rw [Nat.testBit_or, Nat.testBit_and, hcb k, Nat.testBit_two_pow_sub_one]
  have h1 : decide (k < j + 1) = true := decide_eq_true (by omega)
  rw [h1]; simp

set_option maxRecDepth 100000 in
set_option maxHeartbeats 16000000 in
theorem fluteAfter_some (f : Fu) (hl : f.hs.length ≤ 1000000) (n0 q0 : Nat) (hn0 : n0 < 256) (hq0 : q0 < 256) (B : Nat) (w : World) (hB : B ≤ w.heap.size) (hz : FuAt w B f) :
    Calls Try.prog 11 #[.agg (fuc f).toArray, .int .u8 (n0 : Int), .int .u8 (q0 : Int)] w fun e w' => e = .returned (.bool true) ∧ Below w.heap.size w w' := by
  obtain ⟨w1, hw1⟩ : ∃ w1, w.alloc (.cells (fuc f).toArray 28) = w1 := ⟨_, rfl⟩
  have hb1 : Below w.heap.size w w1 := by rw [← hw1]; exact grow1 _ _
  have m0 : w1.heap[w.heap.size]? = some (.cells (fuc f).toArray 28 (0, 0)) := by rw [← hw1]; exact alloc_at0 _ _
  have hz1 := hz.below (hb1.mono hB)
  have hB1 := Nat.le_trans hB hb1.size
  have HAL := Lib.hid (fun W => alive_any W)
  have hrd := fun W (hW : Below w1.heap.size w1 W) => ready9_any f hl B W (Nat.le_trans hB1 hW.size) (hz1.below (hW.mono hB1))
  have htn := fun n (h256 : n < 256) W (hW : Below w1.heap.size w1 W) => tone_any9 f hl n h256 B W (Nat.le_trans hB1 hW.size) (hz1.below (hW.mono hB1))
  unfold TonePost at htn
  have hte : okFu f = true → ∀ n, n < 2 ^ f.hs.length → tonE f n = 0 ∧ tonV f n = tonF f n := fun h1 n h3 => ⟨by simp [tonE, h1, h3], by simp [tonV, h1, h3]⟩
  have hcf := fun (W : World) (hW : Below w1.heap.size w1 W) i => cell_of_row W w.heap.size i _ _ _ ((hW.block _ (lt_of_heap m0)).trans m0)
  have hfg := fun (h8 : f.hs.length ≤ 8) n (hn : n < 256) W => fingered_any f h8 n hn W
  have H1 := Lib.hid hb1
  have HLT := Lib.hid (lt_of_heap m0)
  clear hz hb1 m0 hz1
  unfold fuc at hw1 hcf hrd htn hfg ⊢
  have HCF := Lib.hid hcf
  clear hcf
  have hrk := fun (h : rdyF f = true) => rdy_ok h
  generalize rdyF f = v1 at hrd hrk
  have HRD := Lib.hid hrd
  clear hrd
  cases v1
  · clear hrk htn hte hfg
    go_enter Try.func11, Try.ntmps11
    go_wp2_with (first
      | (go_at_call 13; refine (HAL.out _).mono ?_; rintro e w2 ⟨rfl, hB2⟩; have hc2 := HCF.out w2 hB2; have H2 := Lib.hid hB2; clear hB2)
      | (go_at_call 32; refine (HRD.out w2 H2.out).mono ?_; rintro e w3 ⟨rfl, hB3⟩; have H3 := Lib.hid (H2.out.trans (hB3.mono H2.out.size)); clear hB3))
    go_ret
    exact ⟨rfl, H1.out.trans (H3.out.mono H1.out.size)⟩
  have hok := hrk rfl
  have hlen8 := (okFu_bnd hok).2.2.2.2.1
  have HFG := Lib.hid (hfg hlen8)
  have HTE := Lib.hid (And.intro (hte hok) htn)
  have hN8 : 2 ^ f.hs.length ≤ 256 := Nat.pow_le_pow_right (n := 2) (by omega) hlen8
  have hnlt : n0 % 2 ^ f.hs.length < 2 ^ f.hs.length := Nat.mod_lt _ (Nat.pow_pos (by omega))
  have hqlt : q0 % 2 ^ f.hs.length < 2 ^ f.hs.length := Nat.mod_lt _ (Nat.pow_pos (by omega))
  obtain ⟨n, hn⟩ : ∃ n, n = n0 % 2 ^ f.hs.length := ⟨_, rfl⟩
  obtain ⟨q, hq⟩ : ∃ q, q = q0 % 2 ^ f.hs.length := ⟨_, rfl⟩
  have hfgn := HFG.out n0 hn0
  have hfgq := HFG.out q0 hq0
  rw [← hn] at hfgn hnlt
  rw [← hq] at hfgq hqlt
  have HFN := Lib.hid hfgn
  have HFQ := Lib.hid hfgq
  have hn256 : n < 256 := by omega
  have hq256 : q < 256 := by omega
  have HOK := Lib.hid (And.intro hok (And.intro hlen8 (And.intro hnlt (And.intro hqlt (And.intro hn256 hq256)))))
  have hlz : (f.hs.length : Int) ≤ 8 := by omega
  clear hrk htn hte hfg hfgn hfgq hn hq hok hlen8 hnlt hqlt hn256 hq256 hN8 HFG
  go_enter Try.func11, Try.ntmps11
  go_wp2_with (first
    | (go_at_call 13; refine (HAL.out _).mono ?_; rintro e w2 ⟨rfl, hB2⟩; have hc2 := HCF.out w2 hB2; have H2 := Lib.hid hB2; clear hB2)
    | (go_at_call 32; refine (HRD.out w2 H2.out).mono ?_; rintro e w3 ⟨rfl, hB3⟩; have hc3 := HCF.out w3 (H2.out.trans (hB3.mono H2.out.size)); have H3 := Lib.hid (H2.out.trans (hB3.mono H2.out.size)); clear hB3 hc2))
  refine R6.wp_walk (C := fun _ _ W => Below w1.heap.size w1 W) 88 (by kernel_rfl) (by kernel_rfl) rfl H3.out.drew ?_
  simp only []
  repeat
    (refine' R6.WalkR.det (fun _ => rfl) (fun D ρ W hK hC => ?_) ?_
     rotate_left
     · have f0 := HCF.out W hC
       have HC := Lib.hid hC
       clear hC hK
       go_simp
       first
         | with_reducible exact ⟨rfl, HC.out⟩
         | (go_at_call 34; (with_reducible refine (HFN.out W).mono ?_); rintro e W1 ⟨rfl, hB1⟩; exact ⟨_, rfl, rfl, HC.out.trans (hB1.mono HC.out.size)⟩)
         | (go_at_call 34; (with_reducible refine (HFQ.out W).mono ?_); rintro e W1 ⟨rfl, hB1⟩; exact ⟨_, rfl, rfl, HC.out.trans (hB1.mono HC.out.size)⟩)
     simp only [Act.put, List.setIfInBounds_toArray, List.set_cons_succ, List.set_cons_zero])
  refine R6.WalkR.nil (fun D ρ W hD hC => ?_)
  obtain ⟨w4, hw4⟩ : ∃ w4, W = w4 := ⟨_, rfl⟩
  rw [hw4] at hC ⊢
  have H4 := Lib.hid hC
  clear hC hD hw4 hc3
  clear D ρ W
  have hc4 := HCF.out w4 H4.out
  go_wp2
  refine R6.wp_walk (C := fun _ _ W => Below w1.heap.size w1 W) 88 (by kernel_rfl) (by kernel_rfl) rfl H4.out.drew ?_
  simp only []
  repeat
    (refine' R6.WalkR.det (fun _ => rfl) (fun D ρ W hK hC => ?_) ?_
     rotate_left
     · have f0 := HCF.out W hC
       have HC := Lib.hid hC
       clear hC hK
       go_simp
       with_reducible exact ⟨rfl, HC.out⟩
     simp only [Act.put, List.setIfInBounds_toArray, List.set_cons_succ, List.set_cons_zero])
  refine R6.WalkR.nil (fun D ρ W hD hC => ?_)
  obtain ⟨w5, hw5⟩ : ∃ w5, W = w5 := ⟨_, rfl⟩
  rw [hw5] at hC ⊢
  have H5 := Lib.hid hC
  clear hC hD hw5 hc4
  clear D ρ W
  have hc5 := HCF.out w5 H5.out
  go_wp2
  go_loopg [8, 9, 35] f.hs.length (fun gg s8 s9 s35 wx => ∃ k : Nat, k + gg = f.hs.length ∧ s8 = .int .i64 ((opn n f.hs.length k).1 : Int) ∧ s9 = .int .i64 ((opn n f.hs.length k).2 : Int) ∧ s35 = .int .i64 k ∧ wx = w5)
  case atStart => exact ⟨0, by omega, by go_num, rfl, by go_num, rfl⟩
  case round =>
    obtain ⟨k, hkg, rfl, rfl, rfl, rfl⟩ := hrel
    cases gk with
    | zero =>
      obtain rfl : k = f.hs.length := by omega
      have hsp := (opn_spec n f.hs.length f.hs.length).2.2
      have hle := opn_le n f.hs.length f.hs.length
      generalize opn n f.hs.length f.hs.length = st at hsp hle ⊢
      obtain ⟨op, nx⟩ := st
      dsimp only at hsp hle ⊢
      by_cases h2 : op < 2
      · have hd : decide ((op : Int) < 2) = true := decide_eq_true (by omega)
        go_wp2
        go_ret
        exact ⟨rfl, H1.out.trans (H5.out.mono H1.out.size)⟩
      · have hd : decide ((op : Int) < 2) = false := decide_eq_false (by omega)
        have HSP := Lib.hid (hsp (by omega))
        have hnx : (nx : Int) ≤ 7 := by obtain ⟨i, _, h⟩ := HSP.out; omega
        clear hsp
        obtain ⟨ht1, ht2⟩ := HTE.out.1 n HOK.out.2.2.1
        have htn := HTE.out.2 n HOK.out.2.2.2.2.1
        rw [ht1, ht2] at htn
        have HT1 := Lib.hid htn
        clear htn ht1 ht2
        obtain ⟨i, htw, hnxl⟩ := HSP.out
        obtain ⟨m, hm, hm256, hml, hmb⟩ := mix_val (N := 0) HOK.out.2.2.2.2.1 HOK.out.2.2.2.2.2 (show nx ≤ 7 by omega) HOK.out.2.2.1 HOK.out.2.2.2.1
        have htf := tonF_after f HOK.out.2.2.2.2.1 hm256 HOK.out.2.1 hnxl htw hmb
        obtain ⟨hu1, hu2⟩ := HTE.out.1 m hml
        have htm := HTE.out.2 m hm256
        rw [hu1, hu2, htf] at htm
        have HT2 := Lib.hid htm
        have HMX := Lib.hid (And.intro hm (kept_val (show nx ≤ 7 by omega)))
        clear htm hu1 hu2 htf hm hm256 hml hmb htw hnxl
        generalize (tonF f n).1 = t0 at HT1 HT2
        generalize (tonF f n).2 = t1 at HT1 HT2
        go_wp2_with (first
          | (go_at_call 21; (with_reducible refine (HT1.out wr H5.out).mono ?_); rintro e w6 ⟨rfl, hB6⟩; have hc6 := HCF.out w6 (H5.out.trans (hB6.mono H5.out.size)); have hl6 : w.heap.size < w6.heap.size := Nat.lt_of_lt_of_le HLT.out (H5.out.trans (hB6.mono H5.out.size)).size; have H6 := Lib.hid (H5.out.trans (hB6.mono H5.out.size)); clear hB6 hc5)
          | (go_at_call 21
             rw [HMX.out.2, HMX.out.1]
             refine (HT2.out _ (H6.out.alloc H6.out.size (.cells #[.int .i64 t0, .int .i64 t1] 25))).mono ?_
             rintro e w7 ⟨rfl, hB7⟩
             have hc7 : ∀ i, w7.cell? ⟨w6.heap.size, i, none⟩ = _ := fun i => cell_of_row w7 w6.heap.size i _ _ _ ((hB7.block _ (by simp)).trans (alloc_at0 w6 (.cells #[.int .i64 t0, .int .i64 t1] 25)))
             have hl7 : w6.heap.size < w7.heap.size := by have := hB7.size; simp at this; omega
             have H7 := Lib.hid ((H6.out.alloc H6.out.size (.cells #[.int .i64 t0, .int .i64 t1] 25)).trans (hB7.mono (by have := H6.out.size; simp; omega)))
             clear hB7 hc6))
        go_ret
        exact ⟨rfl, H1.out.trans ((H7.out.alloc H7.out.size _).mono H1.out.size)⟩
    | succ gg =>
      have hk : k < f.hs.length := by omega
      have hkz : (k : Int) ≤ 7 := by omega
      have hop := opn_le n f.hs.length k
      have hopz : ((opn n f.hs.length k).1 : Int) ≤ 7 := by omega
      have hba := bit_and HOK.out.2.2.2.2.1 (show k < 8 by omega)
      cases hb : n.testBit k
      · have e : opn n f.hs.length (k + 1) = opn n f.hs.length k := by simp [opn, hb]
        rw [hb] at hba
        simp only [Bool.false_eq_true, if_false] at hba
        have HE := Lib.hid e
        clear e hb
        go_wp2
        go_roundg gg
        case measure => omega
        case rel => exact ⟨k + 1, by omega, by rw [HE.out], by rw [HE.out], by go_num, rfl⟩
      · have e : opn n f.hs.length (k + 1) = ((opn n f.hs.length k).1 + 1, if (opn n f.hs.length k).1 + 1 = 2 then k else (opn n f.hs.length k).2) := by simp [opn, hb]
        rw [hb] at hba
        simp only [if_true] at hba
        by_cases h2 : (opn n f.hs.length k).1 + 1 = 2
        · rw [if_pos h2] at e
          have HE := Lib.hid e
          have h2z : (((opn n f.hs.length k).1 : Int) + 1 == 2) = true := by simp; omega
          clear e hb h2
          go_wp2
          go_roundg gg
          case measure => omega
          case rel => exact ⟨k + 1, by omega, by rw [HE.out]; go_num, by rw [HE.out], by go_num, rfl⟩
        · rw [if_neg h2] at e
          have HE := Lib.hid e
          have h2z : (((opn n f.hs.length k).1 : Int) + 1 == 2) = false := by simp; omega
          clear e hb h2
          go_wp2
          go_roundg gg
          case measure => omega
          case rel => exact ⟨k + 1, by omega, by rw [HE.out]; go_num, by rw [HE.out], by go_num, rfl⟩

set_option maxRecDepth 100000 in
set_option maxHeartbeats 4000000 in
theorem fluteAfter_law (f : Fu) (n q : Nat) (hn : n < 256) (hq : q < 256) (B : Nat) (w : World) (hB : B ≤ w.heap.size) (hz : FuAt w B f) :
    Calls Try.prog 11 #[.agg (fuc f).toArray, .int .u8 (n : Int), .int .u8 (q : Int)] w fun e w' => e = .returned (.bool true) ∧ Below w.heap.size w w' := by
  by_cases h12 : f.hs.length ≤ 12
  · exact fluteAfter_some f (by omega) n q hn hq B w hB hz
  clear hz hB
  obtain ⟨w1, hw1⟩ : ∃ w1, w.alloc (.cells (fuc f).toArray 28) = w1 := ⟨_, rfl⟩
  have hb1 : Below w.heap.size w w1 := by rw [← hw1]; exact grow1 _ _
  have m0 : w1.heap[w.heap.size]? = some (.cells (fuc f).toArray 28 (0, 0)) := by rw [← hw1]; exact alloc_at0 _ _
  have HAL := Lib.hid (fun W => alive_any W)
  have HRD := Lib.hid (fun W => ready9_big f h12 W)
  have hcf := fun (W : World) (hW : Below w1.heap.size w1 W) i => cell_of_row W w.heap.size i _ _ _ ((hW.block _ (lt_of_heap m0)).trans m0)
  have H1 := Lib.hid hb1
  clear hb1 m0 h12
  unfold fuc at hw1 hcf HRD ⊢
  have HCF := Lib.hid hcf
  clear hcf
  go_enter Try.func11, Try.ntmps11
  go_wp2_with (first
    | (go_at_call 13; refine (HAL.out _).mono ?_; rintro e w2 ⟨rfl, hB2⟩; have hc2 := HCF.out w2 hB2; have H2 := Lib.hid hB2; clear hB2)
    | (go_at_call 32; refine (HRD.out w2).mono ?_; rintro e w3 ⟨rfl, hB3⟩; have H3 := Lib.hid (H2.out.trans (hB3.mono H2.out.size)); clear hB3))
  go_ret
  exact ⟨rfl, H1.out.trans (H3.out.mono H1.out.size)⟩

end Go.Proofs.Ytjjipkgconmfcaa

namespace Go.Proofs.Ytjjipkgconmfcaa
open Go.RowKit Go.Maps
open R6 (done done_ne done_me upd_ne upd_me)

attribute [local go_sem] gives

def oneB (k : Nat) (L L' : List Value) (D : Nat → Bool) : List Value := if D k = true then L' else L
theorem oneB_off {k : Nat} {L L' : List Value} {D : Nat → Bool} (h : D k = false) : oneB k L L' D = L := by simp [oneB, h]
theorem oneB_on {k : Nat} {L L' : List Value} {D : Nat → Bool} (h : D k = true) : oneB k L L' D = L' := by simp [oneB, h]
theorem oneB_move {k j : Nat} {L L' : List Value} {D : Nat → Bool} (h : (j == k) = false) : oneB k L L' (done D j) = oneB k L L' D := by
  unfold oneB
  rw [done_ne (fun e => by rw [e] at h; simp at h)]
theorem oneB_me {k : Nat} {L L' : List Value} {D : Nat → Bool} : oneB k L L' (done D k) = L' := by simp [oneB, done]
/-- A box and holes of its own. -/
structure WdS (w0 : World) (b g : Nat) (x : List Value) (h : List Ho) (tl : List Value) (W : World) : Prop where
  bel : Below w0.heap.size w0 W
  m : W.heap[b]? = some (.cells x.toArray 28 (0, 0))
  o : OwnHo W g h tl
section
variable {w0 W W' : World} {b g : Nat} {x y : List Value} {h h' : List Ho} {tl : List Value}
theorem WdS.putB (hT : WdS w0 b g x h tl W) (hb0 : w0.heap.size ≤ b) (hn : b ≠ g) (hb : Below b W W') (ho : ∀ k, k ≠ b → W'.heap[k]? = W.heap[k]?) (hM : W'.heap[b]? = some (.cells y.toArray 28 (0, 0))) : WdS w0 b g y h tl W' :=
  ⟨hT.bel.trans (hb.mono hb0), hM, (ho _ (Ne.symm hn)).trans hT.o⟩
theorem WdS.putG (hT : WdS w0 b g x h tl W) (hg0 : w0.heap.size ≤ g) (hn : b ≠ g) (hb : Below g W W') (ho : ∀ k, k ≠ g → W'.heap[k]? = W.heap[k]?) (hM : OwnHo W' g h' tl) : WdS w0 b g x h' tl W' :=
  ⟨hT.bel.trans (hb.mono hg0), (ho _ hn).trans hT.m, hM⟩
theorem WdS.grows (hT : WdS w0 b g x h tl W) (hg : Grows W W') : WdS w0 b g x h tl W' :=
  ⟨hT.bel.trans (hg.mono hT.bel.size), (hg.block _ (lt_of_heap hT.m)).trans hT.m, (hg.block _ (lt_of_heap hT.o)).trans hT.o⟩
end
/-- A box that is made and then written, at a place that is not told. -/
structure BxC (w0 : World) (t : TypeId) (z y : List Value) (ka d ks : Nat) (D : Nat → Bool) (σ : Nat → Value) (W : World) : Prop where
  bel : Below w0.heap.size w0 W
  box : D ka = true → ∃ b, σ d = .pointer (some ⟨b, 0, none⟩) ∧ w0.heap.size ≤ b ∧ W.heap[b]? = some (.cells (oneB ks z y D).toArray t (0, 0))
section
variable {w0 W W' : World} {t : TypeId} {z y : List Value} {ka d ks : Nat} {D : Nat → Bool} {σ : Nat → Value}
theorem BxC.start (hD : ∀ k, D k = false) : BxC w0 t z y ka d ks D σ w0.drew := ⟨(Below.refl _ _).drew, fun h => by rw [hD] at h; cases h⟩
theorem BxC.next (h : BxC w0 t z y ka d ks D σ W) (hg : Grows W W') : BxC w0 t z y ka d ks D σ W' :=
  ⟨h.bel.trans (hg.mono h.bel.size), fun hd => let ⟨b, e, hb, hm⟩ := h.box hd; ⟨b, e, hb, (hg.block _ (lt_of_heap hm)).trans hm⟩⟩
theorem BxC.move (h : BxC w0 t z y ka d ks D σ W) {k d' : Nat} {v : Value} (hk : (k == ka || k == ks) = false) (hd : (d' == d) = false) : BxC w0 t z y ka d ks (done D k) (R4.upd σ (some d') v) W := by
  simp only [Bool.or_eq_false_iff, beq_eq_false_iff_ne, ne_eq] at hk hd
  refine ⟨h.bel, ?_⟩
  rw [done_ne (Ne.symm hk.1), oneB_move (by simpa using hk.2), upd_ne (fun e => hd (Option.some.inj e))]
  exact h.box
theorem BxC.alloc (h : BxC w0 t z y ka d ks D σ W) (hn : (ka == ks) = false) (h2 : D ks = false) : BxC w0 t z y ka d ks (done D ka) (R4.upd σ (some d) (.pointer (some ⟨W.heap.size, 0, none⟩))) (W.alloc (.cells z.toArray t)) :=
  ⟨h.bel.alloc h.bel.size _, fun _ => ⟨W.heap.size, upd_me, h.bel.size, by rw [oneB_move hn, oneB_off h2]; exact alloc_at0 W _⟩⟩
theorem BxC.store (h : BxC w0 t z y ka d ks D σ W) (h1 : D ka = true) {b : Nat} (hb0 : w0.heap.size ≤ b) (hb : σ d = .pointer (some ⟨b, 0, none⟩)) (hP : Put W W' b) (hM : W'.heap[b]? = some (.cells y.toArray t (0, 0))) : BxC w0 t z y ka d ks (done D ks) (R4.upd σ none undef) W' :=
  ⟨h.bel.trans (hP.below hb0), fun _ => ⟨b, hb, hb0, by rw [oneB_me]; exact hM⟩⟩
end

theorem mapK_cell {g : Nat → Ho → Ho} {k j : Nat} {hs : List Ho} {tl : List Value} (hk : k < hs.length) (hj : j < 3) : ((mapK g k hs).flatMap hoc ++ tl)[k * 3 + j]? = (hoc hs[k])[j]? := by
  have hl : (((hs.take k).mapIdx g).flatMap hoc).length = k * 3 := by rw [flat_len hoc_len]; simp; omega
  rw [mapK_at hk]
  simp only [List.flatMap_append, List.flatMap_cons, List.append_assoc]
  rw [List.getElem?_append_right (by omega), hl, show k * 3 + j - k * 3 = j by omega, List.getElem?_append_left (by rw [hoc_len]; exact hj)]
theorem mapK_first {h0 : Ho} {k : Nat} {hs : List Ho} {tl : List Value} (h : 0 < hs.length) (he : h0 = hs[0]) : ∀ j v, ([.int .i64 h0.lo, .int .i64 h0.hi] : List Value)[j]? = some v → ((mapK (samH h0) k hs).flatMap hoc ++ tl)[1 + j]? = some v := by
  obtain ⟨x, l, rfl⟩ : ∃ x l, hs = x :: l := by cases hs with
    | nil => exact absurd h (Nat.lt_irrefl _)
    | cons x l => exact ⟨x, l, rfl⟩
  have he : h0 = x := he
  subst he
  have e : ∃ l', mapK (samH h0) k (h0 :: l) = ⟨h0.a, h0.lo, h0.hi⟩ :: l' := by
    cases k with
    | zero => exact ⟨l, by simp [mapK]⟩
    | succ k => exact ⟨_, by simp [mapK, List.mapIdx_cons, samH]; rfl⟩
  obtain ⟨l', e⟩ := e
  rw [e]
  intro j v hj
  match j with
  | 0 => simpa [hoc] using hj
  | 1 => simpa [hoc] using hj
  | j + 2 => simp at hj
theorem mapK_splice {g : Nat → Ho → Ho} {k : Nat} {hs : List Ho} {tl : List Value} (hk : k < hs.length) (a b : Value) (h : hoc (g k hs[k]) = [.int .i64 hs[k].a, a, b]) :
    splice ((mapK g k hs).flatMap hoc ++ tl) (k * 3 + 1) [a, b] = (mapK g (k + 1) hs).flatMap hoc ++ tl := by
  have hl : (((hs.take k).mapIdx g).flatMap hoc).length = k * 3 := by rw [flat_len hoc_len]; simp; omega
  rw [mapK_at hk, mapK_next hk]
  simp only [List.flatMap_append, List.flatMap_cons, List.append_assoc, h]
  generalize ((hs.take k).mapIdx g).flatMap hoc = P at hl
  unfold splice
  have e1 : (P ++ (hoc hs[k] ++ ((hs.drop (k + 1)).flatMap hoc ++ tl))).take (k * 3 + 1) = P ++ [.int .i64 hs[k].a] := by
    rw [List.take_append, hl, List.take_of_length_le (by omega), show k * 3 + 1 - k * 3 = 1 by omega]
    simp [hoc]
  have e2 : (P ++ (hoc hs[k] ++ ((hs.drop (k + 1)).flatMap hoc ++ tl))).drop (k * 3 + 1 + [a, b].length) = (hs.drop (k + 1)).flatMap hoc ++ tl := by
    rw [List.drop_append, hl, List.drop_eq_nil_of_le (by simp; omega), show k * 3 + 1 + [a, b].length - k * 3 = 3 by simp; omega]
    simp [hoc]
  rw [e1, e2]
  simp
/-- Which hole is the first open one, as far as it is known. -/
def fstK (fi k : Nat) : Int := if k ≤ fi then -1 else fi
theorem fstK_le {fi k : Nat} (h : k ≤ fi) : fstK fi k = -1 := if_pos h
theorem fstK_gt {fi k : Nat} (h : fi < k) : fstK fi k = fi := if_neg (by omega)
theorem pow_u8 {j : Nat} (hj : j < 8) : IntKind.u8.wrap ((2 : Int) ^ j) = ((2 ^ j : Nat) : Int) := by
  obtain ⟨m, rfl⟩ : ∃ m : Fin 8, m.val = j := ⟨⟨j, hj⟩, rfl⟩
  clear hj
  revert m
  decide +kernel
/-- What a remainder needs. -/
theorem rem_facts {a m : Int} (ha : 0 ≤ a ∧ a < 4294967296) (hm : 0 ≤ m ∧ m ≤ 1000000) : IntKind.i64.wrap a = a ∧ IntKind.i64.wrap m = m ∧ IntKind.i64.wrap (m + 1) = m + 1 ∧ ¬ m + 1 = 0 ∧ a.tmod (m + 1) = remL a m ∧ IntKind.i64.wrap (remL a m) = remL a m ∧ 0 ≤ remL a m ∧ remL a m ≤ m := by
  have hr := remL_bnd (a := a) hm.1
  exact ⟨IntWalk.i64_in _ (by omega), IntWalk.i64_in _ (by omega), IntWalk.i64_in _ (by omega), by omega, Int.tmod_eq_emod_of_nonneg ha.1, IntWalk.i64_in _ (by omega), hr.1, hr.2⟩

end Go.Proofs.Ytjjipkgconmfcaa
