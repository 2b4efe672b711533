/-
  What its own tests leave a pole (the program's).
-/
import Derived.Test.YtboffligjgjgjaaGrO
namespace Go.Proofs.Ytboffligjgjgjaa
open Go.RowKit
open R6 (done done_ne done_me upd_ne upd_me)

attribute [local go_sem] gives

section
variable {P : Program} {ops : Array Oper} {rest : List Oper} {o : Oper} {a : Act} {w : World} {Q : Exit → Act → World → Prop} {R : Value → World → Prop}
theorem gives_app2 (s x : Operand) (t : TypeId)
    (ho : o.op = .call { callee := .builtin .append, args := #[s, x], argTypes := #[t, t] })
    (base : Nat) (e : TypeId) (i : TypeInfo) (z : Value) (size bytes : Nat) (ht : P.underlying t = some (.slice e)) (hi : P.info? e = some i) (hz : i.zero = some z)
    (hsize : i.size = size) (hby : i.bytes = bytes) (hzs : z.cells.size = size) (hsz : 0 < size)
    {v : Value} {n : Nat} {xs : List Value} (hs : a.eval s = v) (hown : w.ownsRow base e size v n xs)
    {B : Nat} {A : Option Addr} {m c : Nat} {vs : List Value} (hx : a.eval x = .slice A m c) (hr : Vals w B A vs) (hl : vs.length = m * size) (h1 : ∀ u ∈ vs, u.oneCell' = true)
    (h63 : n + m ≤ maxLen) (hbytes : (n + m) * bytes ≤ 140737488355328) (hbase : base ≤ w.heap.size)
    (h : ∀ v' w', w'.ownsRow base e size v' (n + m) (xs ++ vs) → w.grownBy w' v.ownBlock → (v'.ownBlock = v.ownBlock ∨ v'.ownBlock = some w.heap.size) → R v' w') : gives P o a w R := by
  obtain ⟨v', w', hrun, h2, h3, h4⟩ := run_app (P := P) w base t o.type e i z size bytes ht hi hz hsize hby hzs hsz v n xs hown B A m c vs hr hl h1 h63 hbytes hbase
  unfold gives execOp
  simp only [ho, resolve, invoke, builtin, Sem.run_bind, Sem.run_pure, Result.andThen_ok, List.map_toArray, List.map_cons, List.map_nil, hs, hx, hrun]
  exact h v' w' h2 h3 h4
theorem own_block {base : Nat} {e : TypeId} {size n : Nat} {v : Value} {xs : List Value} (h : w.ownsRow base e size v n xs) {g : Nat} (hg : v.ownBlock = some g) : base ≤ g ∧ g < w.heap.size := by
  rcases h.2 with ⟨h0, _⟩ | ⟨g', cap', cur, hv, hb, hh, _⟩
  · subst h0; simp [Value.ownBlock] at hg
  · subst hv
    simp only [Value.ownBlock, Option.some.injEq] at hg
    subst hg
    exact ⟨hb, lt_of_heap hh⟩
end

/-- Three lists of spans of their own, in blocks that differ. -/
structure Rw3 (W : World) (base : Nat) (v : Nat → Value) (xs : Nat → List (Int × Int)) : Prop where
  own : ∀ i, i < 3 → W.ownsRow base 38 2 (v i) (xs i).length ((xs i).flatMap sp2)
  ne : ∀ i j, i < 3 → j < 3 → i ≠ j → ∀ g, (v i).ownBlock = some g → (v j).ownBlock ≠ some g
theorem Rw3.grows {W W' : World} {base : Nat} {v : Nat → Value} {xs : Nat → List (Int × Int)} (h : Rw3 W base v xs) (hg : Grows W W') : Rw3 W' base v xs := ⟨fun i hi => own_grows (h.own i hi) hg, h.ne⟩
theorem Rw3.same {W W' : World} {base b : Nat} {v : Nat → Value} {xs : Nat → List (Int × Int)} (h : Rw3 W base v xs) (hP : Put W W' b) {cs : Array Value} {t : TypeId} {fr : Nat × Nat} (hb : W.heap[b]? = some (.cells cs t fr)) (ht : t ≠ 38) : Rw3 W' base v xs :=
  ⟨fun i hi => own_same (h.own i hi) fun k cur' fr' hk => hP.other k fun e' => by
    subst e'
    rw [hb] at hk
    simp only [Option.some.injEq, Obj.cells.injEq] at hk
    exact ht hk.2.1, h.ne⟩
def updV (v : Nat → Value) (k : Nat) (x : Value) : Nat → Value := fun i => if i = k then x else v i
def updX (xs : Nat → List (Int × Int)) (k : Nat) (z : Int × Int) : Nat → List (Int × Int) := fun i => if i = k then xs k ++ [z] else xs i
theorem Rw3.app {W W' : World} {base : Nat} {v : Nat → Value} {xs : Nat → List (Int × Int)} (h : Rw3 W base v xs) {k : Nat} (hk : k < 3) {z : Int × Int} {x : Value} (ho : W'.ownsRow base 38 2 x ((xs k).length + 1) ((xs k).flatMap sp2 ++ sp2 z)) (hg : W.grownBy W' (v k).ownBlock)
    (hx : x.ownBlock = (v k).ownBlock ∨ x.ownBlock = some W.heap.size) : Rw3 W' base (updV v k x) (updX xs k z) := by
  have hfar : ∀ j, j < 3 → j ≠ k → ∀ g, (v j).ownBlock = some g → x.ownBlock ≠ some g := fun j hj hjk g hgj e => by
    rcases hx with h1 | h1
    · rw [h1] at e
      exact h.ne j k hj hk hjk g hgj e
    · rw [h1] at e
      have := own_block (h.own j hj) hgj
      simp only [Option.some.injEq] at e
      omega
  refine ⟨fun i hi => ?_, fun i j hi hj hij g => ?_⟩
  · unfold updV updX
    by_cases e : i = k
    · subst e
      simp only [if_true, List.flatMap_append, flat1, List.length_append, List.length_cons, List.length_nil, Nat.zero_add]
      exact ho
    · simp only [if_neg e]
      exact (h.own i hi).kept hg (by
        cases hv : (v i).ownBlock with
        | none => exact .inl rfl
        | some g => exact .inr fun e' => h.ne i k hi hk e g hv e'.symm)
  · unfold updV
    by_cases e1 : i = k
    · subst e1
      simp only [if_true, if_neg (Ne.symm hij)]
      exact fun h1 h2 => hfar j hj (Ne.symm hij) g h2 h1
    · simp only [if_neg e1]
      by_cases e2 : j = k
      · subst e2
        simp only [if_true]
        exact fun h1 => hfar i hi e1 g h1
      · simp only [if_neg e2]
        exact h.ne i j hi hj hij g

def v3 (v : Nat → Value) : List Value := [v 0, v 1, v 2]
theorem v3_at (v : Nat → Value) {k : Nat} (hk : k < 3) : (v3 v).toArray[k]? = some (v k) := by
  have h3 : k = 0 ∨ k = 1 ∨ k = 2 := by omega
  rcases h3 with rfl | rfl | rfl <;> rfl
theorem v3_set (v : Nat → Value) {k : Nat} (hk : k < 3) (x : Value) : (v3 v).set k x = v3 (updV v k x) := by
  have h3 : k = 0 ∨ k = 1 ∨ k = 2 := by omega
  rcases h3 with rfl | rfl | rfl <;> rfl

/-- Where a test is told: boxes that stay, three lists, the new span. -/
structure TeC (w0 : World) (base b7 b9 : Nat) (v : Nat → Value) (xs : Nat → List (Int × Int)) (k : Nat) (z : Int × Int) (K : List (Nat × Obj)) (D : Nat → Bool) (σ : Nat → Value) (W : World) : Prop where
  bel : Below w0.heap.size w0 W
  hb : w0.heap.size ≤ base
  sz : base ≤ W.heap.size
  l7 : b7 < base ∧ w0.heap.size ≤ b7
  lk : ∀ e ∈ K, e.1 ≠ b7 ∧ (e.1 < base ∨ e.1 = b9)
  f9 : ∀ i, i < 3 → (v i).ownBlock ≠ some b9
  box : keptK K W
  rows : D 14 = false → Rw3 W base v xs
  rown : D 14 = true → Rw3 W base (updV v k (σ 38)) (updX xs k z) ∧ ∃ A n c, σ 38 = .slice A n c
  new : D 13 = true → D 14 = false → ∃ b, σ 37 = .slice (some ⟨b, 0, none⟩) 1 1 ∧ W.heap[b]? = some (.cells (sp2 z).toArray 38 (0, 0))
  b7o : D 16 = false → W.heap[b7]? = some (.cells (v3 v).toArray 108 (0, 0))
  b7n : D 16 = true → W.heap[b7]? = some (.cells (v3 (updV v k (σ 38))).toArray 108 (0, 0))
def teK (k : Nat) (d : Option Nat) : Bool := !(k == 13 || k == 14 || k == 16 || d == some 37 || d == some 38)
theorem keptK.grown {W W' : World} {row : Option Nat} (hg : W.grownBy W' row) : ∀ {K : List (Nat × Obj)}, (∀ e ∈ K, some e.1 ≠ row) → keptK K W → keptK K W'
  | [], _, _ => trivial
  | _ :: _, hne, h => ⟨(hg.block _ (lt_of_heap h.1) (hne _ (List.mem_cons_self ..))).trans h.1, keptK.grown hg (fun e he => hne e (List.mem_cons_of_mem _ he)) h.2⟩
section
variable {w0 W W' : World} {base b7 b9 : Nat} {v : Nat → Value} {xs : Nat → List (Int × Int)} {k : Nat} {z : Int × Int} {K : List (Nat × Obj)} {D : Nat → Bool} {σ : Nat → Value}
theorem TeC.move {j : Nat} {d : Option Nat} {u : Value} (h : TeC w0 base b7 b9 v xs k z K D σ W) (hk : teK j d = true) : TeC w0 base b7 b9 v xs k z K (done D j) (R4.upd σ d u) W := by
  simp only [teK, Bool.not_eq_true', Bool.or_eq_false_iff, beq_eq_false_iff_ne, ne_eq] at hk
  obtain ⟨⟨⟨⟨h1, h2⟩, h3⟩, d1⟩, d2⟩ := hk
  have e13 := done_ne (D := D) (k := j) (j := 13) (by omega)
  have e14 := done_ne (D := D) (k := j) (j := 14) (by omega)
  have e16 := done_ne (D := D) (k := j) (j := 16) (by omega)
  have u1 := upd_ne (ρ := σ) (v := u) d1
  have u2 := upd_ne (ρ := σ) (v := u) d2
  exact ⟨h.bel, h.hb, h.sz, h.l7, h.lk, h.f9, h.box, by rw [e14]; exact h.rows, by rw [e14, u2]; exact h.rown, by rw [e13, e14, u1]; exact h.new, by rw [e16]; exact h.b7o, by rw [e16, u2]; exact h.b7n⟩
theorem TeC.next (h : TeC w0 base b7 b9 v xs k z K D σ W) (hg : Grows W W') : TeC w0 base b7 b9 v xs k z K D σ W' :=
  ⟨h.bel.trans (hg.mono h.bel.size), h.hb, Nat.le_trans h.sz hg.size, h.l7, h.lk, h.f9, h.box.next hg, fun e => (h.rows e).grows hg, fun e => ⟨(h.rown e).1.grows hg, (h.rown e).2⟩,
   fun e e' => let ⟨b, h1, h2⟩ := h.new e e'; ⟨b, h1, (hg.block _ (lt_of_heap h2)).trans h2⟩,
   fun e => (hg.block _ (by have := h.l7; have := h.sz; omega)).trans (h.b7o e), fun e => (hg.block _ (by have := h.l7; have := h.sz; omega)).trans (h.b7n e)⟩
theorem TeC.made {cs : Array Value} (h : TeC w0 base b7 b9 v xs k z K D σ W) (hc : cs = (sp2 z).toArray) (h14 : D 14 = false) : TeC w0 base b7 b9 v xs k z K (done D 13) (R4.upd σ (some 37) (.slice (some ⟨W.heap.size, 0, none⟩) 1 1)) (W.alloc (.cells cs 38)) := by
  subst hc
  have h' := h.next (grow1 W (.cells (sp2 z).toArray 38))
  have e14 := done_ne (D := D) (k := 13) (j := 14) (by decide)
  have e16 := done_ne (D := D) (k := 13) (j := 16) (by decide)
  have u2 := upd_ne (ρ := σ) (d := some 37) (v := .slice (some ⟨W.heap.size, 0, none⟩) 1 1) (t := 38) (by decide)
  exact ⟨h'.bel, h'.hb, h'.sz, h'.l7, h'.lk, h'.f9, h'.box, by rw [e14]; exact h'.rows, (by rw [e14, h14]; intro e; cases e), fun _ _ => ⟨_, upd_me, alloc_at0 _ _⟩, by rw [e16]; exact h'.b7o, by rw [e16, u2]; exact h'.b7n⟩
theorem TeC.app (h : TeC w0 base b7 b9 v xs k z K D σ W) (hk : k < 3) (h14 : D 14 = false) (h16 : D 16 = false) {x : Value} (ho : W'.ownsRow base 38 2 x ((xs k).length + 1) ((xs k).flatMap sp2 ++ sp2 z)) (hg : W.grownBy W' (v k).ownBlock)
    (hx : x.ownBlock = (v k).ownBlock ∨ x.ownBlock = some W.heap.size) : TeC w0 base b7 b9 v xs k z K (done D 14) (R4.upd σ (some 38) x) W' := by
  have e16 := done_ne (D := D) (k := 14) (j := 16) (by decide)
  have hr := h.rows h14
  have hge : ∀ g, (v k).ownBlock = some g → base ≤ g := fun g e => (own_block (hr.own k hk) e).1
  have hl7 := h.l7
  refine ⟨h.bel.grown hg h.bel.size (fun g e => by have := hge g e; have := h.hb; omega), h.hb, Nat.le_trans h.sz hg.size, hl7, h.lk, h.f9, h.box.grown hg (fun e he e' => ?_), (fun e => by rw [done_me] at e; cases e), fun _ => ?_, (fun _ e => by rw [done_me] at e; cases e), ?_, ?_⟩
  · rcases (h.lk e he).2 with h1 | h1
    · have := hge e.1 e'.symm; omega
    · exact h.f9 k hk (by rw [← e', h1])
  · rw [upd_me]
    obtain ⟨A, c, hs⟩ := own_slice ho
    exact ⟨hr.app hk ho hg hx, A, _, c, hs⟩
  · rw [e16]
    exact fun e => (hg.block _ (by have := h.sz; omega) (fun e' => by have := hge b7 e'.symm; omega)).trans (h.b7o e)
  · rw [e16, h16]; intro e; cases e
theorem TeC.put (h : TeC w0 base b7 b9 v xs k z K D σ W) (h14 : D 14 = true) (h16 : D 16 = false) (hP : Put W W' b7) (hM : W'.heap[b7]? = some (.cells (v3 (updV v k (σ 38))).toArray 108 (0, 0))) : TeC w0 base b7 b9 v xs k z K (done D 16) σ W' := by
  have e14 := done_ne (D := D) (k := 16) (j := 14) (by decide)
  refine ⟨h.bel.trans (hP.below h.l7.2), h.hb, by rw [hP.size]; exact h.sz, h.l7, h.lk, h.f9, h.box.put hP (fun e he => (h.lk e he).1), ?_, ?_, ?_, (fun e => by rw [done_me] at e; cases e), fun _ => hM⟩
  · rw [e14, h14]; intro e; cases e
  · rw [e14]
    exact fun e => ⟨(h.rown e).1.same hP (h.b7o h16) (by decide), (h.rown e).2⟩
  · rw [e14, h14]; intro _ e; cases e
end

end Go.Proofs.Ytboffligjgjgjaa
