/-
  What is in the cells of a batch, in lists of their own (the program's).
-/
import Derived.Test.YtpnnlmaipcjkmaaGreatQV33
import Derived.Laws.Cover3
set_option linter.all false
namespace Go.Proofs.YtpnnlmaipcjkmaaGreat
open Go.RowKit Go.Shelf
open R6 (done done_ne done_me upd_ne upd_me)

attribute [local go_sem] gives

structure AwC (w : World) (V : Array Value) (N : List Value) (W : World) : Prop where
  bel : Below w.heap.size w W
  sz : w.heap.size + 3 ≤ W.heap.size
  b1 : W.heap[w.heap.size]? = some (.cells V 63 (0, 0))
  b2 : ∃ Z : List Value, W.heap[w.heap.size + 1]? = some (.cells Z.toArray 152 (0, 0)) ∧ Z.length = 30
  b3 : W.heap[w.heap.size + 1 + 1]? = some (.cells N.toArray 152 (0, 0))
theorem AwC.put {w W W' : World} {V : Array Value} {N N' : List Value} (h : AwC w V N W) (hg : W.grownBy W' (some (w.heap.size + 1 + 1))) (hM : W'.heap[w.heap.size + 1 + 1]? = some (.cells N'.toArray 152 (0, 0))) : AwC w V N' W' :=
  ⟨h.bel.grown hg h.bel.size (fun k e => by cases e; omega), Nat.le_trans h.sz hg.size, (hg.block _ (lt_of_heap h.b1) (fun e => by injection e with e; omega)).trans h.b1, h.b2.imp fun _ e => ⟨(hg.block _ (lt_of_heap e.1) (fun e => by injection e with e; omega)).trans e.1, e.2⟩, hM⟩

end Go.Proofs.YtpnnlmaipcjkmaaGreat

namespace Go.Proofs.YtpnnlmaipcjkmaaGreat
open Go.RowKit Go.Shelf
open R6 (done done_ne done_me upd_ne upd_me)

attribute [local go_sem] gives

def OwnI (W : World) (base : Nat) (v : Value) (zs : List Int) : Prop := W.ownsRow base 3 1 v zs.length (ints zs)

theorem OwnI.ints {W : World} {base : Nat} {A : Option Addr} {c : Nat} {zs : List Int} (h : OwnI W base (.slice A zs.length c) zs) : Ints W W.heap.size A zs := (Vals.own h).ints
theorem OwnI.grows {W W' : World} {base : Nat} {v : Value} {zs : List Int} (h : OwnI W base v zs) (hg : Grows W W') : OwnI W' base v zs := own_grows h hg
structure OwnR (W : World) (base : Nat) (v : Value) (ls : List Sl) : Prop where
  row : W.ownsRow base 59 1 v ls.length (slvs ls)
  each : ∀ s ∈ ls, OwnI W base (slv s) s.zs
theorem OwnR.grows {W W' : World} {base : Nat} {v : Value} {ls : List Sl} (h : OwnR W base v ls) (hg : Grows W W') : OwnR W' base v ls := ⟨own_grows h.row hg, fun s hs => (h.each s hs).grows hg⟩
structure CelC (b0 : Nat) (w1 : World) (v : Value) (ls : List Sl) (z : List Int) (k1 t1 k2 t2 k3 t3 : Nat) (D : Nat → Bool) (σ : Nat → Value) (W : World) : Prop where
  lb : b0 ≤ W.heap.size
  bel : Below b0 w1 W
  own : D k3 = false → OwnR W b0 v ls
  one : D k1 = true → ∃ s : Sl, σ t1 = slv s ∧ s.zs = z ∧ OwnI W b0 (slv s) z
  two : D k2 = true → D k3 = false → ∃ b, σ t2 = .slice (some ⟨b, 0, none⟩) 1 1 ∧ W.heap[b]? = some (.cells #[σ t1] 59 (0, 0))
  fin : D k3 = true → ∃ s : Sl, s.zs = z ∧ OwnR W b0 (σ t3) (ls ++ [s])
section
variable {b0 : Nat} {w1 W W' : World} {v : Value} {ls : List Sl} {z : List Int} {k1 t1 k2 t2 k3 t3 : Nat} {D : Nat → Bool} {σ : Nat → Value}
def celN (k1 t1 k2 t2 k3 t3 : Nat) : Bool := !(k1 == k2 || k1 == k3 || k2 == k3 || t1 == t2 || t1 == t3 || t2 == t3)
theorem CelC.made (h : CelC b0 w1 v ls z k1 t1 k2 t2 k3 t3 D σ W) (hn : celN k1 t1 k2 t2 k3 t3 = true) (h2 : D k2 = false) (h3 : D k3 = false) {s : Sl} (hz : s.zs = z) (hg : Grows W W') (ho : OwnI W' b0 (slv s) z) :
    CelC b0 w1 v ls z k1 t1 k2 t2 k3 t3 (done D k1) (R4.upd σ (some t1) (slv s)) W' := by
  simp only [celN, Bool.not_eq_true', Bool.or_eq_false_iff, beq_eq_false_iff_ne, ne_eq] at hn
  have e2 := done_ne (D := D) (k := k1) (j := k2) (by omega)
  have e3 := done_ne (D := D) (k := k1) (j := k3) (by omega)
  refine ⟨Nat.le_trans h.lb hg.size, h.bel.trans (hg.mono h.lb), ?_, fun _ => ⟨s, upd_me, hz, ho⟩, ?_, ?_⟩
  · rw [e3]; exact fun e => (h.own e).grows hg
  · rw [e2, h2]; intro e; cases e
  · rw [e3, h3]; intro e; cases e
theorem CelC.start (hb : Below b0 w1 W) (hlb : b0 ≤ W.heap.size) (hO : OwnR W b0 v ls) (hD : ∀ k, D k = false) : CelC b0 w1 v ls z k1 t1 k2 t2 k3 t3 D σ W.drew :=
  ⟨hlb, hb.drew, fun _ => ⟨hO.row, hO.each⟩, fun e => absurd (hD k1) (by rw [e]; decide), fun e _ => absurd (hD k2) (by rw [e]; decide), fun e => absurd (hD k3) (by rw [e]; decide)⟩
end

theorem below_low {B B' : Nat} {a b : World} (h : Below B a b) (hB : B' ≤ B) : Below B' a b := ⟨h.os, h.tape, h.output, h.size, fun k hk => h.block k (by omega)⟩

end Go.Proofs.YtpnnlmaipcjkmaaGreat
