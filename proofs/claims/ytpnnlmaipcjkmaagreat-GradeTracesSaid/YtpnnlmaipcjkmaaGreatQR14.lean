/-
  What its own tests leave a pole (the program's): the walk.
-/
import Derived.Test.YtpnnlmaipcjkmaaGreatQR7
set_option linter.all false
namespace Go.Proofs.YtpnnlmaipcjkmaaGreat
open Go.RowKit
open R6 (done done_ne done_me upd_ne upd_me)

attribute [local go_sem] gives

structure StM (w0 : World) (b2 : Nat) (ty : TypeId) (X Y : List Value) (K : List (Nat × Obj)) (ks : Nat) (D : Nat → Bool) (σ : Nat → Value) (W : World) : Prop where
  bel : Below w0.heap.size w0 W
  hX : D ks = false → W.heap[b2]? = some (.cells X.toArray ty (0, 0))
  hY : D ks = true → W.heap[b2]? = some (.cells Y.toArray ty (0, 0))
  lt : b2 < W.heap.size
  box : keptK K W
theorem keptK.put {W W' : World} {b : Nat} (hP : Put W W' b) : ∀ {K : List (Nat × Obj)}, (∀ e ∈ K, e.1 ≠ b) → keptK K W → keptK K W'
  | [], _, _ => trivial
  | _ :: _, hne, h => ⟨(hP.other _ (hne _ (List.mem_cons_self ..))).trans h.1, keptK.put hP (fun e he => hne e (List.mem_cons_of_mem _ he)) h.2⟩
section
variable {w0 W W' : World} {b2 : Nat} {ty : TypeId} {X Y : List Value} {K : List (Nat × Obj)} {ks : Nat} {D : Nat → Bool} {σ σ' : Nat → Value}
theorem StM.next (h : StM w0 b2 ty X Y K ks D σ W) (hg : Grows W W') : StM w0 b2 ty X Y K ks D σ W' :=
  ⟨h.bel.trans (hg.mono h.bel.size), fun e => (hg.block _ h.lt).trans (h.hX e), fun e => (hg.block _ h.lt).trans (h.hY e), Nat.lt_of_lt_of_le h.lt hg.size, h.box.next hg⟩
theorem StM.put (h : StM w0 b2 ty X Y K ks D σ W) (hP : Put W W' b2) (hM : W'.heap[b2]? = some (.cells Y.toArray ty (0, 0))) (hn : w0.heap.size ≤ b2) (hK : ∀ e ∈ K, e.1 ≠ b2) : StM w0 b2 ty X Y K ks (done D ks) σ' W' :=
  ⟨h.bel.trans (hP.below hn), (fun e => by rw [done_me] at e; cases e), fun _ => hM, by rw [hP.size]; exact h.lt, h.box.put hP hK⟩
end

end Go.Proofs.YtpnnlmaipcjkmaaGreat

namespace Go.Proofs.YtpnnlmaipcjkmaaGreat
open Go.RowKit
open R6 (done done_ne done_me upd_ne upd_me)

attribute [local go_sem] gives

section
variable {P : Program} {ops : Array Oper} {rest : List Oper} {o : Oper} {a : Act} {w : World} {Q : Exit → Act → World → Prop} {R : Value → World → Prop}
theorem gives_app2 (s x : Operand) (t : TypeId)
    (ho : o.op = .call { callee := .builtin .append, args := #[s, x], argTypes := #[t, t] })
    (base : Nat) (e : TypeId) (i : TypeInfo) (z : Value) (size bytes : Nat) (ht : P.underlying t = some (.slice e)) (hi : P.info? e = some i) (hz : i.zero = some z)
    (hsize : i.size = size) (hby : i.bytes = bytes) (hzs : z.cells.size = size) (hsz : 0 < size)
    {v : Value} {n : Nat} {xs : List Value} (hs : a.eval s = v) (hown : w.ownsRow base e size v n xs)
    {B : Nat} {A : Option Addr} {m c : Nat} {vs : List Value} (hx : a.eval x = .slice A m c) (hr : Vals w B A vs) (hl : vs.length = m * size) (h1 : ∀ u ∈ vs, u.oneCell' = true)
    (h63 : n + m ≤ maxLen) (hbytes : (n + m) * bytes ≤ 140737488355328) (hbase : base ≤ w.heap.size)
    (h : ∀ v' w', w'.ownsRow base e size v' (n + m) (xs ++ vs) → w.grownBy w' v.ownBlock → (v'.ownBlock = v.ownBlock ∨ v'.ownBlock = some w.heap.size) → R v' w') : gives P o a w R := by
  obtain ⟨v', w', hrun, h2, h3, h4⟩ := run_app (P := P) w base t o.type e i z size bytes ht hi hz hsize hby hzs hsz v n xs hown B A m c vs hr hl h1 h63 hbytes hbase
  unfold gives execOp
  simp only [ho, resolve, invoke, builtin, Sem.run_bind, Sem.run_pure, Result.andThen_ok, List.map_toArray, List.map_cons, List.map_nil, hs, hx, hrun]
  exact h v' w' h2 h3 h4
end

structure Rw3 (W : World) (base : Nat) (v : Nat → Value) (xs : Nat → List (Int × Int)) : Prop where
  own : ∀ i, i < 3 → W.ownsRow base 50 2 (v i) (xs i).length ((xs i).flatMap sp2)
  ne : ∀ i j, i < 3 → j < 3 → i ≠ j → ∀ g, (v i).ownBlock = some g → (v j).ownBlock ≠ some g
theorem Rw3.grows {W W' : World} {base : Nat} {v : Nat → Value} {xs : Nat → List (Int × Int)} (h : Rw3 W base v xs) (hg : Grows W W') : Rw3 W' base v xs := ⟨fun i hi => own_grows (h.own i hi) hg, h.ne⟩
theorem Rw3.same {W W' : World} {base b : Nat} {v : Nat → Value} {xs : Nat → List (Int × Int)} (h : Rw3 W base v xs) (hP : Put W W' b) {cs : Array Value} {t : TypeId} {fr : Nat × Nat} (hb : W.heap[b]? = some (.cells cs t fr)) (ht : t ≠ 50) : Rw3 W' base v xs :=
  ⟨fun i hi => own_same (h.own i hi) fun k cur' fr' hk => hP.other k fun e' => by
    subst e'
    rw [hb] at hk
    simp only [Option.some.injEq, Obj.cells.injEq] at hk
    exact ht hk.2.1, h.ne⟩
def updV (v : Nat → Value) (k : Nat) (x : Value) : Nat → Value := fun i => if i = k then x else v i
def updX (xs : Nat → List (Int × Int)) (k : Nat) (z : Int × Int) : Nat → List (Int × Int) := fun i => if i = k then xs k ++ [z] else xs i
def v3 (v : Nat → Value) : List Value := [v 0, v 1, v 2]
structure TeC (w0 : World) (base b7 b9 : Nat) (v : Nat → Value) (xs : Nat → List (Int × Int)) (k : Nat) (z : Int × Int) (K : List (Nat × Obj)) (D : Nat → Bool) (σ : Nat → Value) (W : World) : Prop where
  bel : Below w0.heap.size w0 W
  hb : w0.heap.size ≤ base
  sz : base ≤ W.heap.size
  l7 : b7 < base ∧ w0.heap.size ≤ b7
  lk : ∀ e ∈ K, e.1 ≠ b7 ∧ (e.1 < base ∨ e.1 = b9)
  f9 : ∀ i, i < 3 → (v i).ownBlock ≠ some b9
  box : keptK K W
  rows : D 14 = false → Rw3 W base v xs
  rown : D 14 = true → Rw3 W base (updV v k (σ 38)) (updX xs k z) ∧ ∃ A n c, σ 38 = .slice A n c
  new : D 13 = true → D 14 = false → ∃ b, σ 37 = .slice (some ⟨b, 0, none⟩) 1 1 ∧ W.heap[b]? = some (.cells (sp2 z).toArray 50 (0, 0))
  b7o : D 16 = false → W.heap[b7]? = some (.cells (v3 v).toArray 219 (0, 0))
  b7n : D 16 = true → W.heap[b7]? = some (.cells (v3 (updV v k (σ 38))).toArray 219 (0, 0))
theorem keptK.grown {W W' : World} {row : Option Nat} (hg : W.grownBy W' row) : ∀ {K : List (Nat × Obj)}, (∀ e ∈ K, some e.1 ≠ row) → keptK K W → keptK K W'
  | [], _, _ => trivial
  | _ :: _, hne, h => ⟨(hg.block _ (lt_of_heap h.1) (hne _ (List.mem_cons_self ..))).trans h.1, keptK.grown hg (fun e he => hne e (List.mem_cons_of_mem _ he)) h.2⟩
section
variable {w0 W W' : World} {base b7 b9 : Nat} {v : Nat → Value} {xs : Nat → List (Int × Int)} {k : Nat} {z : Int × Int} {K : List (Nat × Obj)} {D : Nat → Bool} {σ : Nat → Value}
theorem TeC.next (h : TeC w0 base b7 b9 v xs k z K D σ W) (hg : Grows W W') : TeC w0 base b7 b9 v xs k z K D σ W' :=
  ⟨h.bel.trans (hg.mono h.bel.size), h.hb, Nat.le_trans h.sz hg.size, h.l7, h.lk, h.f9, h.box.next hg, fun e => (h.rows e).grows hg, fun e => ⟨(h.rown e).1.grows hg, (h.rown e).2⟩,
   fun e e' => let ⟨b, h1, h2⟩ := h.new e e'; ⟨b, h1, (hg.block _ (lt_of_heap h2)).trans h2⟩,
   fun e => (hg.block _ (by have := h.l7; have := h.sz; omega)).trans (h.b7o e), fun e => (hg.block _ (by have := h.l7; have := h.sz; omega)).trans (h.b7n e)⟩
theorem TeC.made {cs : Array Value} (h : TeC w0 base b7 b9 v xs k z K D σ W) (hc : cs = (sp2 z).toArray) (h14 : D 14 = false) : TeC w0 base b7 b9 v xs k z K (done D 13) (R4.upd σ (some 37) (.slice (some ⟨W.heap.size, 0, none⟩) 1 1)) (W.alloc (.cells cs 50)) := by
  subst hc
  have h' := h.next (grow1 W (.cells (sp2 z).toArray 50))
  have e14 := done_ne (D := D) (k := 13) (j := 14) (by decide)
  have e16 := done_ne (D := D) (k := 13) (j := 16) (by decide)
  have u2 := upd_ne (ρ := σ) (d := some 37) (v := .slice (some ⟨W.heap.size, 0, none⟩) 1 1) (t := 38) (by decide)
  exact ⟨h'.bel, h'.hb, h'.sz, h'.l7, h'.lk, h'.f9, h'.box, by rw [e14]; exact h'.rows, (by rw [e14, h14]; intro e; cases e), fun _ _ => ⟨_, upd_me, alloc_at0 _ _⟩, by rw [e16]; exact h'.b7o, by rw [e16, u2]; exact h'.b7n⟩
theorem TeC.put (h : TeC w0 base b7 b9 v xs k z K D σ W) (h14 : D 14 = true) (h16 : D 16 = false) (hP : Put W W' b7) (hM : W'.heap[b7]? = some (.cells (v3 (updV v k (σ 38))).toArray 219 (0, 0))) : TeC w0 base b7 b9 v xs k z K (done D 16) σ W' := by
  have e14 := done_ne (D := D) (k := 16) (j := 14) (by decide)
  refine ⟨h.bel.trans (hP.below h.l7.2), h.hb, by rw [hP.size]; exact h.sz, h.l7, h.lk, h.f9, h.box.put hP (fun e he => (h.lk e he).1), ?_, ?_, ?_, (fun e => by rw [done_me] at e; cases e), fun _ => hM⟩
  · rw [e14, h14]; intro e; cases e
  · rw [e14]
    exact fun e => ⟨(h.rown e).1.same hP (h.b7o h16) (by decide), (h.rown e).2⟩
  · rw [e14, h14]; intro _ e; cases e
end

end Go.Proofs.YtpnnlmaipcjkmaaGreat

namespace Go.Proofs.YtpnnlmaipcjkmaaGreat
open Go.RowKit
open R6 (done done_ne done_me upd_ne upd_me)

attribute [local go_sem] gives

def okT (t : Ts) : Prop := (0 ≤ t.sec ∧ t.sec ≤ 2) ∧ (1 ≤ t.force ∧ t.force ≤ 1000000)
def okG (g : Gd) : Prop := ∀ k, k < 3 → 1 ≤ (st0 g k).1 ∧ (st0 g k).2 ≤ 200000
end Go.Proofs.YtpnnlmaipcjkmaaGreat
