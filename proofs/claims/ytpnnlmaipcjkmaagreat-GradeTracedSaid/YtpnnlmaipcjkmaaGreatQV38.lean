/-
  Which poles have their cores reached, and when (the program's map).
-/
import Derived.Test.YtpnnlmaipcjkmaaGreatQV37
import Derived.Test.YtpnnlmaipcjkmaaGreatQV34
set_option linter.all false
namespace Go.Proofs.YtpnnlmaipcjkmaaGreat
open Go.RowKit Go.Shelf
open R6 (done done_ne done_me upd_ne upd_me)

attribute [local go_sem] Oper.semAt_some
attribute [local go_sem] gives

section
variable {F : Fence} {n : Nat} {P : Program} {ops : Array Oper} {rest : List Oper} {op : Oper} {a : Act} {w : World} {Q : Exit → Act → World → Prop}
end

structure GroC (w0 : World) (D : Nat → Bool) (σ : Nat → Value) (W : World) : Prop where
  bel : Below w0.heap.size w0 W
theorem GroC.next {w0 W W' : World} {D D' : Nat → Bool} {σ σ' : Nat → Value} (h : GroC w0 D σ W) (hg : Grows W W') : GroC w0 D' σ' W' := ⟨h.bel.trans (hg.mono h.bel.size)⟩
theorem own_map_block {W W' : World} {b n : Nat} {D : DataW Value} (h : W.ownsMap Tryz.prog 3 (plainElem Tryz.prog 3) b n D) (e : W'.heap[b]? = W.heap[b]?) : W'.ownsMap Tryz.prog 3 (plainElem Tryz.prog 3) b n D := by
  unfold World.ownsMap at h ⊢
  rw [e]
  exact h
theorem own_map_lt {W : World} {b n : Nat} {D : DataW Value} (h : W.ownsMap Tryz.prog 3 (plainElem Tryz.prog 3) b n D) : b < W.heap.size := h.lt
def OwnM (W : World) (mb n : Nat) (f : Nat → Option Nat) : Prop := ∃ D : DataW Value, W.ownsMap Tryz.prog 3 (plainElem Tryz.prog 3) mb (Maps.size D) D ∧ MapIs D n f
theorem OwnM.block {W W' : World} {mb n : Nat} {f : Nat → Option Nat} (h : OwnM W mb n f) (e : W'.heap[mb]? = W.heap[mb]?) : OwnM W' mb n f := let ⟨D, a, b⟩ := h; ⟨D, own_map_block a e, b⟩
theorem OwnM.lt {W : World} {mb n : Nat} {f : Nat → Option Nat} (h : OwnM W mb n f) : mb < W.heap.size := let ⟨_, a, _⟩ := h; own_map_lt a
structure ReaC (w : World) (V : List Value) (n : Nat) (f : Nat → Option Nat) (W : World) : Prop where
  bel : Below w.heap.size w W
  b3 : W.heap[w.heap.size]? = some (.cells V.toArray 152 (0, 0))
  b7 : W.heap[w.heap.size + 1 + 1]? = some (.cells #[.map (some (w.heap.size + 1))] 79 (0, 0))
  map : OwnM W (w.heap.size + 1) n f
theorem ReaC.next {w W W' : World} {V : List Value} {n : Nat} {f : Nat → Option Nat} (h : ReaC w V n f W) {b : Nat} (hb : Below b W W') (hle : w.heap.size + 3 ≤ b) : ReaC w V n f W' :=
  ⟨h.bel.trans (below_low hb (by omega)), (hb.block _ (by omega)).trans h.b3, (hb.block _ (by omega)).trans h.b7, h.map.block (hb.block _ (by omega))⟩

end Go.Proofs.YtpnnlmaipcjkmaaGreat
