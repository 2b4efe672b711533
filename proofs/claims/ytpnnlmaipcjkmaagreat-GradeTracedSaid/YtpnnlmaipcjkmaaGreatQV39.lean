/-
  The program's Treated and Ready.
-/
import Derived.Test.YtpnnlmaipcjkmaaGreatQV36
import Derived.Test.YtpnnlmaipcjkmaaGreatQV30
import Derived.Test.YtpnnlmaipcjkmaaGreatQV37
import Derived.Maps.RangeWalk
import Derived.Test.YtpnnlmaipcjkmaaGreatQV38
import Derived.Test.YtpnnlmaipcjkmaaGreatQV19
set_option linter.all false
namespace Go.Proofs.YtpnnlmaipcjkmaaGreat
open Go.RowKit Go.Shelf

def mxF (f : Nat → Option Nat) : Nat → Nat → Nat
  | 0, m => m
  | n + 1, m => max (mxF f n m) ((f n).getD 0)
theorem mxF_up (f : Nat → Option Nat) : ∀ n m q k, q < n → f q = some k → k ≤ mxF f n m
  | 0, m, q, k, h, _ => by omega
  | n + 1, m, q, k, h, hk => by
    unfold mxF
    by_cases e : q = n
    · subst e; rw [hk]; simp only [Option.getD_some]; omega
    · have := mxF_up f n m q k (by omega) hk; omega
end Go.Proofs.YtpnnlmaipcjkmaaGreat

namespace Go.Proofs.YtpnnlmaipcjkmaaGreat
open Go.RowKit Go.Shelf

section
variable {P : Program} {ops : Array Oper} {rest : List Oper} {op : Oper} {a : Act} {w : World} {Q : Exit → Act → World → Prop}
end

structure TreC (w : World) (V : List Value) (T : List Int) (W : World) : Prop where
  bel : Below w.heap.size w W
  sz : w.heap.size + 1 + 1 ≤ W.heap.size
  b0 : W.heap[w.heap.size]? = some (.cells V.toArray 152 (0, 0))
  b1 : W.heap[w.heap.size + 1]? = some (.cells (ints T).toArray 245 (0, 0))
section
variable {w W W' : World} {V : List Value} {T T' : List Int}
theorem TreC.next (h : TreC w V T W) {b : Nat} (hb : Below b W W') (hle : w.heap.size + 1 + 1 ≤ b) : TreC w V T W' :=
  ⟨h.bel.trans (below_low hb (by omega)), Nat.le_trans h.sz hb.size, (hb.block _ (by omega)).trans h.b0, (hb.block _ (by omega)).trans h.b1⟩
theorem TreC.grown (h : TreC w V T W) {r : Nat} (hg : W.grownBy W' (some r)) (hr : w.heap.size + 1 + 1 ≤ r) : TreC w V T W' :=
  ⟨h.bel.grown hg h.bel.size (fun k e => by cases e; omega), Nat.le_trans h.sz hg.size, (hg.block _ (by have := h.sz; omega) (by simp; omega)).trans h.b0, (hg.block _ (by have := h.sz; omega) (by simp; omega)).trans h.b1⟩
theorem TreC.put (h : TreC w V T W) (hp : Put W W' (w.heap.size + 1)) (hm : W'.heap[w.heap.size + 1]? = some (.cells (ints T').toArray 245 (0, 0))) : TreC w V T' W' :=
  ⟨h.bel.trans (hp.below (by omega)), by rw [hp.size]; exact h.sz, (hp.other _ (by omega)).trans h.b0, hm⟩
end

end Go.Proofs.YtpnnlmaipcjkmaaGreat

namespace Go.Proofs.YtpnnlmaipcjkmaaGreat
open Go.RowKit Go.Shelf

structure MidM (f : Nat → Option Nat) (n m0 : Nat) (left : Lit → Bool) (m : Nat) : Prop where
  lo : m0 ≤ m
  up : ∀ q k : Nat, q < n → f q = some k → left (.int .i64 (q : Int)) = false → k ≤ m
  le : m ≤ mxF f n m0
theorem MidM.step {f : Nat → Option Nat} {n m0 m q c : Nat} {left : Lit → Bool} (h : MidM f n m0 left m) (hq : q < n) (hc : f q = some c) : MidM f n m0 (fun z => left z && !z.sameKey (.int .i64 (q : Int))) (max m c) := by
  refine ⟨by have := h.lo; omega, fun p k hp hk hl => ?_, by have := h.le; have := mxF_up f n m0 q c hq hc; omega⟩
  by_cases e : p = q
  · subst e
    rw [hc] at hk
    injection hk with hk
    omega
  · have hs : Lit.sameKey (.int .i64 (p : Int)) (.int .i64 (q : Int)) = false := Maps.sameKey_ne (fun h => e (by injection h with _ h; omega))
    simp only [hs, Bool.not_false, Bool.and_true] at hl
    have := h.up p k hp hk hl
    omega
structure RdyC (w : World) (V : List Value) (W : World) : Prop where
  bel : Below w.heap.size w W
  sz : w.heap.size + 1 ≤ W.heap.size
  b0 : W.heap[w.heap.size]? = some (.cells V.toArray 152 (0, 0))
theorem RdyC.next {w W W' : World} {V : List Value} (h : RdyC w V W) {b : Nat} (hb : Below b W W') (hle : w.heap.size + 1 ≤ b) : RdyC w V W' :=
  ⟨h.bel.trans (below_low hb (by omega)), Nat.le_trans h.sz hb.size, (hb.block _ (by omega)).trans h.b0⟩
theorem RdyC.grown {w W W' : World} {V : List Value} (h : RdyC w V W) {r : Nat} (hg : W.grownBy W' (some r)) (hr : w.heap.size + 1 ≤ r) : RdyC w V W' :=
  ⟨h.bel.grown hg h.bel.size (fun k e => by cases e; omega), Nat.le_trans h.sz hg.size, (hg.block _ (by have := h.sz; omega) (by simp; omega)).trans h.b0⟩

end Go.Proofs.YtpnnlmaipcjkmaaGreat

namespace Go.Proofs.YtpnnlmaipcjkmaaGreat
open Go.RowKit Go.Shelf

theorem OwnU.grows {W W' : World} {base : Nat} {v : Value} {zs : List Int} (h : OwnU W base v zs) (hg : Grows W W') : OwnU W' base v zs := own_grows h hg

end Go.Proofs.YtpnnlmaipcjkmaaGreat
