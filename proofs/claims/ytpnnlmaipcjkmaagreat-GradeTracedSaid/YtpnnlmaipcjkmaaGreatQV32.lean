/-
  Walls of two hours are compared.
-/
import Derived.Test.YtpnnlmaipcjkmaaGreatQV30
import Derived.Test.YtpnnlmaipcjkmaaGreatQV31
import Derived.ChangeKeysEq
set_option linter.all false
namespace Go.Proofs.YtpnnlmaipcjkmaaGreat
open Go.RowKit
open R6 (done done_ne done_me upd_ne upd_me)

attribute [local go_sem] gives

section
variable {P : Program} {ops : Array Oper} {rest : List Oper} {op : Oper} {a : Act} {w : World} {Q : Exit → Act → World → Prop}
end

structure FlC (w : World) (cs : Array Value) (L : List Value) (W : World) : Prop where
  bel : Below w.heap.size w W
  sz : w.heap.size + 3 ≤ W.heap.size
  b3 : W.heap[w.heap.size]? = some (.cells cs 152 (0, 0))
  b6 : W.heap[w.heap.size + 1]? = some (.cells #[.int .i64 0, .int .i64 0, .int .i64 0, .int .i64 0, .int .i64 0, .int .i64 0, .int .i64 0] 136 (0, 0))
  b7 : W.heap[w.heap.size + 1 + 1]? = some (.cells L.toArray 136 (0, 0))

theorem FlC.put {w W W' : World} {cs : Array Value} {L L' : List Value} (h : FlC w cs L W) (hp : Put W W' (w.heap.size + 1 + 1)) (hM : W'.heap[w.heap.size + 1 + 1]? = some (.cells L'.toArray 136 (0, 0))) : FlC w cs L' W' :=
  ⟨h.bel.trans (hp.below (by omega)), by rw [hp.size]; exact h.sz, (hp.other _ (by omega)).trans h.b3, (hp.other _ (by omega)).trans h.b6, hM⟩

end Go.Proofs.YtpnnlmaipcjkmaaGreat

namespace Go.Proofs.YtpnnlmaipcjkmaaGreat
open Go.RowKit
open R6 (done done_ne done_me upd_ne upd_me)

attribute [local go_sem] gives

structure LtC (w : World) (V : List Value) (sp : Int) (N : List Value) (W : World) : Prop where
  bel : Below w.heap.size w W
  sz : w.heap.size + 4 ≤ W.heap.size
  b2 : W.heap[w.heap.size]? = some (.cells V.toArray 152 (0, 0))
  b3 : W.heap[w.heap.size + 1]? = some (.cells #[.int .i64 sp] 3 (0, 0))
  b4 : ∃ Z : List Value, Z.length = 30 ∧ W.heap[w.heap.size + 1 + 1]? = some (.cells Z.toArray 152 (0, 0))
  b6 : W.heap[w.heap.size + 1 + 1 + 1]? = some (.cells N.toArray 152 (0, 0))
theorem LtC.next {w W W' : World} {V N : List Value} {sp : Int} (h : LtC w V sp N W) (hB : Below W.heap.size W W') : LtC w V sp N W' :=
  ⟨h.bel.trans (hB.mono h.bel.size), Nat.le_trans h.sz hB.size, (hB.block _ (lt_of_heap h.b2)).trans h.b2, (hB.block _ (lt_of_heap h.b3)).trans h.b3, h.b4.imp fun _ e => ⟨e.1, (hB.block _ (lt_of_heap e.2)).trans e.2⟩, (hB.block _ (lt_of_heap h.b6)).trans h.b6⟩
theorem LtC.put {w W W' : World} {V N N' : List Value} {sp : Int} (h : LtC w V sp N W) (hg : W.grownBy W' (some (w.heap.size + 1 + 1 + 1))) (hM : W'.heap[w.heap.size + 1 + 1 + 1]? = some (.cells N'.toArray 152 (0, 0))) : LtC w V sp N' W' :=
  ⟨h.bel.grown hg h.bel.size (fun k e => by cases e; omega), Nat.le_trans h.sz hg.size, (hg.block _ (lt_of_heap h.b2) (fun e => by injection e with e; omega)).trans h.b2, (hg.block _ (lt_of_heap h.b3) (fun e => by injection e with e; omega)).trans h.b3, h.b4.imp fun _ e => ⟨e.1, (hg.block _ (lt_of_heap e.2) (fun e => by injection e with e; omega)).trans e.2⟩, hM⟩
theorem LtC.far {w W W' : World} {V N : List Value} {sp : Int} (h : LtC w V sp N W) {b : Nat} (hb : w.heap.size + 4 ≤ b) (hp : Put W W' b) : LtC w V sp N W' :=
  ⟨h.bel.trans (hp.below (by omega)), by rw [hp.size]; exact h.sz, (hp.other _ (by omega)).trans h.b2, (hp.other _ (by omega)).trans h.b3, h.b4.imp fun _ e => ⟨e.1, (hp.other _ (by omega)).trans e.2⟩, (hp.other _ (by omega)).trans h.b6⟩

end Go.Proofs.YtpnnlmaipcjkmaaGreat
