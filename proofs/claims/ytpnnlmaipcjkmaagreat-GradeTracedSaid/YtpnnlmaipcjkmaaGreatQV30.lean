/-
  Lists of spans, compared.
-/
import Derived.Laws.CopyRow
import Derived.Laws.IdiomCopy
import Derived.Test.YtpnnlmaipcjkmaaGreatQV2
import Derived.ProofKit
import Derived.ReadAgain
import Derived.Deep.SlicePairs
import Derived.Deep.QuietTactic
import Derived.BigQuiet
import Derived.Test.YtpnnlmaipcjkmaaGreatQV1
set_option linter.all false
namespace Go.Proofs.YtpnnlmaipcjkmaaGreat
open Go.RowKit
open R6 (done done_ne done_me upd_ne upd_me)

attribute [local go_sem] gives

structure OneW (W0 : World) (g : Nat) (X Y : Obj) (ks : Nat) (D : Nat → Bool) (σ : Nat → Value) (W : World) : Prop where
  gb : W0.grownBy W (some g)
  lt : g < W.heap.size
  no : D ks = false → W.heap[g]? = some X
  yes : D ks = true → W.heap[g]? = some Y
section
variable {W0 W W' : World} {g : Nat} {X Y : Obj} {ks : Nat} {D : Nat → Bool} {σ σ' : Nat → Value}
theorem OneW.next (h : OneW W0 g X Y ks D σ W) (hg : Grows W W') : OneW W0 g X Y ks D σ W' :=
  ⟨grown_trans h.gb (below_grown hg (Nat.le_refl _) _), Nat.lt_of_lt_of_le h.lt hg.size, fun e => (hg.block _ h.lt).trans (h.no e), fun e => (hg.block _ h.lt).trans (h.yes e)⟩
theorem OneW.put (h : OneW W0 g X Y ks D σ W) (hp : Put W W' g) (hM : W'.heap[g]? = some Y) : OneW W0 g X Y ks (done D ks) σ' W' :=
  ⟨grown_trans h.gb hp.grown, by rw [hp.size]; exact h.lt, fun e => (by rw [done_me] at e; cases e), fun _ => hM⟩
theorem OneW.start (hb : W0.heap[g]? = some X) (hD : D ks = false) : OneW W0 g X Y ks D σ W0.drew :=
  ⟨⟨rfl, rfl, rfl, Nat.le_refl _, fun _ _ _ => rfl⟩, lt_of_heap hb, fun _ => hb, fun e => by rw [hD] at e; cases e⟩
theorem OneW.other (h : OneW W0 g X Y ks D σ W) {k : Nat} (hk : k < W0.heap.size) (hne : k ≠ g) : W.heap[k]? = W0.heap[k]? := h.gb.block _ hk (by simpa using hne)
end

end Go.Proofs.YtpnnlmaipcjkmaaGreat

namespace Go.Proofs.YtpnnlmaipcjkmaaGreat
open Go.RowKit
open R6 (done done_ne done_me upd_ne upd_me)

attribute [local go_sem] gives

structure LevC (w : World) (fs : Array Value) (ty : TypeId) (lo hi : Int) (row : List Value) (W : World) : Prop where
  bel : Below w.heap.size w W
  sz : w.heap.size + 4 ≤ W.heap.size
  b5 : W.heap[w.heap.size + 1]? = some (.cells fs ty (0, 0))
  b7 : W.heap[w.heap.size + 1 + 1]? = some (.cells row.toArray 50 (0, 0))
  b8 : W.heap[w.heap.size + 1 + 1 + 1]? = some (.cells #[.int .i64 lo, .int .i64 hi] 50 (0, 0))

theorem LevC.step {w W W' : World} {fs : Array Value} {ty : TypeId} {lo hi lo' hi' : Int} {row : List Value} (h : LevC w fs ty lo hi row W) (hg : W.grownBy W' (some (w.heap.size + 1 + 1 + 1))) (hM : W'.heap[w.heap.size + 1 + 1 + 1]? = some (.cells #[.int .i64 lo', .int .i64 hi'] 50 (0, 0))) :
    LevC w fs ty lo' hi' row W' :=
  ⟨h.bel.grown hg h.bel.size (fun k e => by cases e; omega), Nat.le_trans h.sz hg.size, (hg.block _ (by have := h.sz; omega) (by simp)).trans h.b5, (hg.block _ (by have := h.sz; omega) (by simp)).trans h.b7, hM⟩
end Go.Proofs.YtpnnlmaipcjkmaaGreat

namespace Go.Proofs.YtpnnlmaipcjkmaaGreat
open Go.RowKit
open R6 (done done_ne done_me upd_ne upd_me)

attribute [local go_sem] gives

theorem LevC.box {w W W' : World} {fs : Array Value} {ty : TypeId} {lo hi : Int} {row : List Value} {o : Obj} (h : LevC w fs ty lo hi row W) (hp : Put (W.alloc o) W' W.heap.size) : LevC w fs ty lo hi row W' := by
  have hs := hp.size
  have hz := h.sz
  simp only [World.size_alloc] at hs
  have old : ∀ k, k < W.heap.size → W'.heap[k]? = W.heap[k]? := fun k hk => (hp.other _ (by omega)).trans (Below.heap_alloc _ _ _ hk)
  exact ⟨(h.bel.alloc (by omega) _).trans (hp.below (by omega)), by omega, (old _ (by omega)).trans h.b5, (old _ (by omega)).trans h.b7, (old _ (by omega)).trans h.b8⟩

end Go.Proofs.YtpnnlmaipcjkmaaGreat

namespace Go.Proofs.YtpnnlmaipcjkmaaGreat
open Go.ChangeShapes Go.WideShapes Go.ChangeAt Go.RowKit Go.Deep

section
variable {H : Type} {enc : TypeId × Value → H} {w : World} {base : Nat} {spare : Nat → Bool} {held : Bool}

theorem open_int_raw {fuel : Nat} {c : Value} {x : DataW H × List MemPlace} (h : DataW.trod enc Tryz.prog w base spare held fuel 3 [c] = some x) : ∃ n : Int, c = .int .i64 n := by
  obtain ⟨n, hc, _, _⟩ := DataW.trod_int Tryz.underlying3 h
  simp only [List.cons.injEq, and_true] at hc
  exact ⟨n, hc⟩

theorem lt_of_cell {w : World} {a : Addr} {v : Value} (h : w.cell? a = some v) : a.block < w.heap.size := by
  obtain ⟨o, ho, _⟩ := cells_of_cell h
  exact (Array.getElem?_eq_some_iff.1 ho).1

theorem open_ints_raw {fuel : Nat} {c : Value} {x : DataW H × List MemPlace} (h : DataW.trod enc Tryz.prog w base spare held fuel 59 [c] = some x) :
    ∃ (A : Option Addr) (zs : List Int) (cap : Nat), c = .slice A zs.length cap ∧ zs.length ≤ cap ∧ zs.length ≤ maxLen ∧ Ints w w.heap.size A zs := by
  rcases open_ints Tryz.underlying59 Tryz.underlying3 (by kernel_rfl) h with ⟨hc, _⟩ | ⟨a, len, cap, zs, hc, _, hl, hm, hz, _, hcell, _⟩
  · simp only [List.cons.injEq, and_true] at hc
    exact ⟨none, [], 0, hc, Nat.le_refl _, by simp, fun h => by simp at h⟩
  · simp only [List.cons.injEq, and_true] at hc
    have hle : len ≤ zs.length := by rw [hz]; split <;> omega
    have hl2 : (zs.take len).length = len := by simp; omega
    refine ⟨some a, zs.take len, cap, by rw [hl2]; exact hc, by rw [hl2]; exact hl, by rw [hl2]; omega, fun h0 => ?_⟩
    rw [hl2] at h0 ⊢
    have h1 := hcell 0 (by omega)
    obtain ⟨b, off, spot⟩ := a
    have hs1 : spot = none := by
      have e0 : (⟨b, off, spot⟩ : Addr).add 0 = ⟨b, off, spot⟩ := by simp [Addr.add]
      rw [e0] at h1
      exact World.cell?_spot h1
    subst hs1
    rw [Addr.add_mid] at h1
    refine ⟨b, off, rfl, lt_of_cell h1, fun k hk => ?_⟩
    have h2 := hcell k (by omega)
    rw [Addr.add_mid] at h2
    rw [h2]
    simp [hk, List.getD]

theorem cellsI : Tryz.prog.cellsOf 3 = 1 := by kernel_rfl

theorem cellsSp : Tryz.prog.cellsOf 50 = 2 := by kernel_rfl

theorem cellsSl : Tryz.prog.cellsOf 59 = 1 := by kernel_rfl

theorem open_span_raw {fuel : Nat} {c0 c1 : Value} {x : DataW H × List MemPlace} (h : DataW.trod enc Tryz.prog w base spare held fuel 50 [c0, c1] = some x) :
    ∃ lo hi : Int, c0 = .int .i64 lo ∧ c1 = .int .i64 hi := by
  obtain ⟨zs, n', _, _, _, hlen', hg'⟩ := DataW.trod_struct Tryz.underlying50 h
  have at2 : ∀ i, i < zs.length → ∃ y, zs[i]? = some y := fun i hi => ⟨_, List.getElem?_eq_getElem hi⟩
  have hlen2 : zs.length = 2 := hlen'
  obtain ⟨z0, hz0⟩ := at2 0 (by omega)
  obtain ⟨z1, hz1⟩ := at2 1 (by omega)
  have k0 : DataW.trod enc Tryz.prog w base spare held n' 3 ((List.drop 0 [c0, c1]).take (Tryz.prog.cellsOf 3)) = some z0 := (hg' 0 _ rfl).trans hz0
  have k1 : DataW.trod enc Tryz.prog w base spare held n' 3 ((List.drop 1 [c0, c1]).take (Tryz.prog.cellsOf 3)) = some z1 := (hg' 1 _ rfl).trans hz1
  simp only [cellsI, List.drop_zero, List.drop_succ_cons, List.take_succ_cons, List.take_zero] at k0 k1
  obtain ⟨lo, rfl⟩ := open_int_raw k0
  obtain ⟨hi, rfl⟩ := open_int_raw k1
  exact ⟨lo, hi, rfl, rfl⟩
end

end Go.Proofs.YtpnnlmaipcjkmaaGreat

namespace Go.Proofs.YtpnnlmaipcjkmaaGreat
open Go.RowKit

end Go.Proofs.YtpnnlmaipcjkmaaGreat

namespace Go.Proofs.YtpnnlmaipcjkmaaGreat
open Go.RowKit

theorem Tryz.st50 : Tryz.prog.underlying 50 = some (.struct (Tryz.prog.fieldsOf 50)) := by kernel_rfl
theorem Tryz.held50 : Tryz.prog.stoodInHeld 50 = false := by kernel_rfl
theorem Tryz.guard50 : Tryz.prog.eqGuardType Tryz.prog.depth 50 = false := by kernel_rfl

end Go.Proofs.YtpnnlmaipcjkmaaGreat
