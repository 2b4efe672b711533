/-
  Lists of spans, compared.
-/
import Derived.Laws.CopyRow
import Derived.Laws.IdiomCopy
import Derived.Test.YtpnnlmaipcjkmaaGreatQR2
import Derived.ProofKit
import Derived.ReadAgain
import Derived.Deep.SlicePairs
import Derived.Deep.QuietTactic
import Derived.BigQuiet
import Derived.Test.YtpnnlmaipcjkmaaGreatQR1
set_option linter.all false
namespace Go.Proofs.YtpnnlmaipcjkmaaGreat
open Go.RowKit

attribute [local go_sem] gives

theorem run_copy_structs {P : Program} (w : World) (dT sT ty elem : TypeId) (b o dLen dCap : Nat) (a : Addr) (sLen sCap size n : Nat) (cs : List Value)
    (hu : P.underlying dT = some (.slice elem)) (hs : (P.info? elem).map (·.size) = some size) (hn : n = Nat.min sLen dLen) (hl : cs.length = n * size)
    (hsrc : ∀ j v, cs[j]? = some v → w.cell? (a.add j) = some v) (hc : ∀ j, j < cs.length → (w.cell? ⟨b, o + j, none⟩).isSome = true) (hf : ∀ j, j < cs.length → w.frozen? ⟨b, o + j, none⟩ = false) (h1 : ∀ v ∈ cs, v.oneCell' = true) :
    (Builtin.copy_ #[dT, sT] ty #[.slice (some ⟨b, o, none⟩) dLen dCap, .slice (some a) sLen sCap]).run P w = .ok (goInt n) (w.setCells b o cs) := by
  have hl' := run_loadCells_list (P := P) w a cs hsrc
  have hst := run_storeCells_cells (P := P) b o cs 0 w (by simpa using hc) (by simpa using hf) h1
  cases hq : P.info? elem with
  | none => simp [hq] at hs
  | some i =>
    have hi : i.size = size := by simpa [hq] using hs
    rw [hl] at hl'
    simp [Builtin.copy_, run_underlying hu, Builtin.lenOf, Builtin.firstCells, sizeOf, typeInfo, hq, hi, ← hn, hl', hst]

section
variable {P : Program} {ops : Array Oper} {rest : List Oper} {op : Oper} {a : Act} {w : World} {Q : Exit → Act → World → Prop} {R : Value → World → Prop}
theorem gives_copy_blk (d s : Operand) (dT sT : TypeId) (ho : op.op = .call { callee := .builtin .copy, args := #[d, s], argTypes := #[dT, sT] }) (elem : TypeId) (hu : P.underlying dT = some (.slice elem)) (size n : Nat) (hs : (P.info? elem).map (·.size) = some size)
    (b o dLen dCap : Nat) (x : Addr) (sLen sCap : Nat) (hd : a.eval d = .slice (some ⟨b, o, none⟩) dLen dCap) (hx : a.eval s = .slice (some x) sLen sCap) (hn : n = Nat.min sLen dLen) {cs L : List Value} (hl : cs.length = n * size)
    (hsrc : ∀ j v, cs[j]? = some v → w.cell? (x.add j) = some v) {t : TypeId} (hb : w.heap[b]? = some (.cells L.toArray t (0, 0))) (hfit : o + cs.length ≤ L.length) (h1 : ∀ v ∈ cs, v.oneCell' = true)
    (h : ∀ w', Put w w' b → w'.heap[b]? = some (.cells (splice L o cs).toArray t (0, 0)) → R (goInt n) w') : gives P op a w R := by
  have hrun := run_copy_structs (P := P) w dT sT op.type elem b o dLen dCap x sLen sCap size n cs hu hs hn hl hsrc (fun j hj => by
    rw [cell_of_row w b _ _ _ _ hb]; simp [show o + j < L.length by omega]) (fun j hj => frozen_of_row w b _ _ _ hb) h1
  unfold gives execOp
  simp only [ho, resolve, invoke, builtin, Sem.run_bind, Sem.run_pure, Result.andThen_ok, List.map_toArray, List.map_cons, List.map_nil, hd, hx, hrun]
  exact h _ (put_setCells b cs o w) (setCells_block b cs o w L hb hfit)
end

end Go.Proofs.YtpnnlmaipcjkmaaGreat

namespace Go.Proofs.YtpnnlmaipcjkmaaGreat
open Go.RowKit
open R6 (done done_ne done_me upd_ne upd_me)

attribute [local go_sem] gives

theorem add_at (b o j : Nat) : (⟨b, o, none⟩ : Addr).add j = ⟨b, o + j, none⟩ := by
  unfold Addr.add
  split
  · subst_vars; rfl
  · rfl

structure OneW (W0 : World) (g : Nat) (X Y : Obj) (ks : Nat) (D : Nat → Bool) (σ : Nat → Value) (W : World) : Prop where
  gb : W0.grownBy W (some g)
  lt : g < W.heap.size
  no : D ks = false → W.heap[g]? = some X
  yes : D ks = true → W.heap[g]? = some Y
section
variable {W0 W W' : World} {g : Nat} {X Y : Obj} {ks : Nat} {D : Nat → Bool} {σ σ' : Nat → Value}
theorem OneW.move {k : Nat} (h : OneW W0 g X Y ks D σ W) (hk : (k == ks) = false) : OneW W0 g X Y ks (done D k) σ' W := by
  have e1 := done_ne (D := D) (k := k) (j := ks) (by simpa using fun e : ks = k => (by simpa using hk : k ≠ ks) e.symm)
  exact ⟨h.gb, h.lt, by rw [e1]; exact h.no, by rw [e1]; exact h.yes⟩
theorem OneW.next (h : OneW W0 g X Y ks D σ W) (hg : Grows W W') : OneW W0 g X Y ks D σ W' :=
  ⟨grown_trans h.gb (below_grown hg (Nat.le_refl _) _), Nat.lt_of_lt_of_le h.lt hg.size, fun e => (hg.block _ h.lt).trans (h.no e), fun e => (hg.block _ h.lt).trans (h.yes e)⟩
theorem OneW.put (h : OneW W0 g X Y ks D σ W) (hp : Put W W' g) (hM : W'.heap[g]? = some Y) : OneW W0 g X Y ks (done D ks) σ' W' :=
  ⟨grown_trans h.gb hp.grown, by rw [hp.size]; exact h.lt, fun e => (by rw [done_me] at e; cases e), fun _ => hM⟩
theorem OneW.start (hb : W0.heap[g]? = some X) (hD : D ks = false) : OneW W0 g X Y ks D σ W0.drew :=
  ⟨⟨rfl, rfl, rfl, Nat.le_refl _, fun _ _ _ => rfl⟩, lt_of_heap hb, fun _ => hb, fun e => by rw [hD] at e; cases e⟩
theorem OneW.other (h : OneW W0 g X Y ks D σ W) {k : Nat} (hk : k < W0.heap.size) (hne : k ≠ g) : W.heap[k]? = W0.heap[k]? := h.gb.block _ hk (by simpa using hne)
end

end Go.Proofs.YtpnnlmaipcjkmaaGreat

namespace Go.Proofs.YtpnnlmaipcjkmaaGreat
open Go.RowKit
open R6 (done done_ne done_me upd_ne upd_me)

attribute [local go_sem] gives

structure LevC (w : World) (fs : Array Value) (ty : TypeId) (lo hi : Int) (row : List Value) (W : World) : Prop where
  bel : Below w.heap.size w W
  sz : w.heap.size + 4 ≤ W.heap.size
  b5 : W.heap[w.heap.size + 1]? = some (.cells fs ty (0, 0))
  b7 : W.heap[w.heap.size + 1 + 1]? = some (.cells row.toArray 50 (0, 0))
  b8 : W.heap[w.heap.size + 1 + 1 + 1]? = some (.cells #[.int .i64 lo, .int .i64 hi] 50 (0, 0))

theorem LevC.step {w W W' : World} {fs : Array Value} {ty : TypeId} {lo hi lo' hi' : Int} {row : List Value} (h : LevC w fs ty lo hi row W) (hg : W.grownBy W' (some (w.heap.size + 1 + 1 + 1))) (hM : W'.heap[w.heap.size + 1 + 1 + 1]? = some (.cells #[.int .i64 lo', .int .i64 hi'] 50 (0, 0))) :
    LevC w fs ty lo' hi' row W' :=
  ⟨h.bel.grown hg h.bel.size (fun k e => by cases e; omega), Nat.le_trans h.sz hg.size, (hg.block _ (by have := h.sz; omega) (by simp)).trans h.b5, (hg.block _ (by have := h.sz; omega) (by simp)).trans h.b7, hM⟩
end Go.Proofs.YtpnnlmaipcjkmaaGreat

namespace Go.Proofs.YtpnnlmaipcjkmaaGreat
open Go.RowKit
open R6 (done done_ne done_me upd_ne upd_me)

attribute [local go_sem] gives

theorem LevC.box {w W W' : World} {fs : Array Value} {ty : TypeId} {lo hi : Int} {row : List Value} {o : Obj} (h : LevC w fs ty lo hi row W) (hp : Put (W.alloc o) W' W.heap.size) : LevC w fs ty lo hi row W' := by
  have hs := hp.size
  have hz := h.sz
  simp only [World.size_alloc] at hs
  have old : ∀ k, k < W.heap.size → W'.heap[k]? = W.heap[k]? := fun k hk => (hp.other _ (by omega)).trans (Below.heap_alloc _ _ _ hk)
  exact ⟨(h.bel.alloc (by omega) _).trans (hp.below (by omega)), by omega, (old _ (by omega)).trans h.b5, (old _ (by omega)).trans h.b7, (old _ (by omega)).trans h.b8⟩

end Go.Proofs.YtpnnlmaipcjkmaaGreat

namespace Go.Proofs.YtpnnlmaipcjkmaaGreat
open Go.RowKit

attribute [local go_sem] gives

theorem okS_iff {lo hi a b : Int} : okS lo hi a b = true ↔ lo ≤ hi ∧ a ≤ lo ∧ lo ≤ b ∧ a ≤ hi ∧ hi ≤ b := by
  simp only [okS, allB, List.all_cons, List.all_nil, Bool.and_true, Bool.and_eq_true, decide_eq_true_eq, inR_iff]
  omega
end Go.Proofs.YtpnnlmaipcjkmaaGreat

namespace Go.Proofs.YtpnnlmaipcjkmaaGreat
open Go.RowKit

attribute [local go_sem] gives

theorem refWithin_any (n lo hi : Int) (w : World) :
    Calls Tryz.prog 89 #[.int .i64 n, .int .i64 lo, .int .i64 hi] w fun e w' => e = .returned (.bool (inR n lo hi)) ∧ w = w' := by
  by_cases h1 : lo ≤ n
  · by_cases h2 : n ≤ hi
    · have e : inR n lo hi = true := inR_iff.2 (by omega)
      rw [e]
      clear e
      go_enter Tryz.func89, Tryz.ntmps89
      go_wp2
      go_ret
      exact ⟨rfl, rfl⟩
    · have e : inR n lo hi = false := by rw [← Bool.not_eq_true, inR_iff]; omega
      rw [e]
      clear e
      go_enter Tryz.func89, Tryz.ntmps89
      go_wp2
      go_ret
      exact ⟨rfl, rfl⟩
  · have e : inR n lo hi = false := by rw [← Bool.not_eq_true, inR_iff]; omega
    rw [e]
    clear e
    go_enter Tryz.func89, Tryz.ntmps89
    go_wp2
    go_ret
    exact ⟨rfl, rfl⟩

theorem refSpanned_any (x y lo hi : Int) (w : World) :
    Calls Tryz.prog 132 #[.agg #[.int .i64 x, .int .i64 y], .int .i64 lo, .int .i64 hi] w fun e w' => e = .returned (.bool (okS x y lo hi)) ∧ Below w.heap.size w w' := by
  by_cases h1 : lo ≤ x
  · by_cases h2 : x ≤ y
    · by_cases h3 : y ≤ hi
      · have e : okS x y lo hi = true := okS_iff.2 (by omega)
        rw [e]
        clear e
        go_enter Tryz.func132, Tryz.ntmps132
        go_wp2
        go_ret
        exact ⟨rfl, (Below.refl _ _).alloc (Nat.le_refl _) _⟩
      · have e : okS x y lo hi = false := by rw [← Bool.not_eq_true, okS_iff]; omega
        rw [e]
        clear e
        go_enter Tryz.func132, Tryz.ntmps132
        go_wp2
        go_ret
        exact ⟨rfl, (Below.refl _ _).alloc (Nat.le_refl _) _⟩
    · have e : okS x y lo hi = false := by rw [← Bool.not_eq_true, okS_iff]; omega
      rw [e]
      clear e
      go_enter Tryz.func132, Tryz.ntmps132
      go_wp2
      go_ret
      exact ⟨rfl, (Below.refl _ _).alloc (Nat.le_refl _) _⟩
  · have e : okS x y lo hi = false := by rw [← Bool.not_eq_true, okS_iff]; omega
    rw [e]
    clear e
    go_enter Tryz.func132, Tryz.ntmps132
    go_wp2
    go_ret
    exact ⟨rfl, (Below.refl _ _).alloc (Nat.le_refl _) _⟩

theorem allB_one (lo hi n : Int) : allB lo hi [n] = inR n lo hi := by simp [allB]

end Go.Proofs.YtpnnlmaipcjkmaaGreat

namespace Go.Proofs.YtpnnlmaipcjkmaaGreat
open Go.ChangeShapes Go.WideShapes Go.ChangeAt Go.RowKit Go.Deep

section
variable {H : Type} {enc : TypeId × Value → H} {w : World} {base : Nat} {spare : Nat → Bool} {held : Bool}

theorem open_int_raw {fuel : Nat} {c : Value} {x : DataW H × List MemPlace} (h : DataW.trod enc Tryz.prog w base spare held fuel 3 [c] = some x) : ∃ n : Int, c = .int .i64 n := by
  obtain ⟨n, hc, _, _⟩ := DataW.trod_int Tryz.underlying3 h
  simp only [List.cons.injEq, and_true] at hc
  exact ⟨n, hc⟩

theorem lt_of_cell {w : World} {a : Addr} {v : Value} (h : w.cell? a = some v) : a.block < w.heap.size := by
  obtain ⟨o, ho, _⟩ := cells_of_cell h
  exact (Array.getElem?_eq_some_iff.1 ho).1

theorem open_ints_raw {fuel : Nat} {c : Value} {x : DataW H × List MemPlace} (h : DataW.trod enc Tryz.prog w base spare held fuel 59 [c] = some x) :
    ∃ (A : Option Addr) (zs : List Int) (cap : Nat), c = .slice A zs.length cap ∧ zs.length ≤ cap ∧ zs.length ≤ maxLen ∧ Ints w w.heap.size A zs := by
  rcases open_ints Tryz.underlying59 Tryz.underlying3 (by kernel_rfl) h with ⟨hc, _⟩ | ⟨a, len, cap, zs, hc, _, hl, hm, hz, _, hcell, _⟩
  · simp only [List.cons.injEq, and_true] at hc
    exact ⟨none, [], 0, hc, Nat.le_refl _, by simp, fun h => by simp at h⟩
  · simp only [List.cons.injEq, and_true] at hc
    have hle : len ≤ zs.length := by rw [hz]; split <;> omega
    have hl2 : (zs.take len).length = len := by simp; omega
    refine ⟨some a, zs.take len, cap, by rw [hl2]; exact hc, by rw [hl2]; exact hl, by rw [hl2]; omega, fun h0 => ?_⟩
    rw [hl2] at h0 ⊢
    have h1 := hcell 0 (by omega)
    obtain ⟨b, off, spot⟩ := a
    have hs1 : spot = none := by
      have e0 : (⟨b, off, spot⟩ : Addr).add 0 = ⟨b, off, spot⟩ := by simp [Addr.add]
      rw [e0] at h1
      exact World.cell?_spot h1
    subst hs1
    rw [Addr.add_mid] at h1
    refine ⟨b, off, rfl, lt_of_cell h1, fun k hk => ?_⟩
    have h2 := hcell k (by omega)
    rw [Addr.add_mid] at h2
    rw [h2]
    simp [hk, List.getD]

theorem cellsI : Tryz.prog.cellsOf 3 = 1 := by kernel_rfl

theorem cellsSp : Tryz.prog.cellsOf 50 = 2 := by kernel_rfl

theorem cellsSl : Tryz.prog.cellsOf 59 = 1 := by kernel_rfl

theorem open_span_raw {fuel : Nat} {c0 c1 : Value} {x : DataW H × List MemPlace} (h : DataW.trod enc Tryz.prog w base spare held fuel 50 [c0, c1] = some x) :
    ∃ lo hi : Int, c0 = .int .i64 lo ∧ c1 = .int .i64 hi := by
  obtain ⟨zs, n', _, _, _, hlen', hg'⟩ := DataW.trod_struct Tryz.underlying50 h
  have at2 : ∀ i, i < zs.length → ∃ y, zs[i]? = some y := fun i hi => ⟨_, List.getElem?_eq_getElem hi⟩
  have hlen2 : zs.length = 2 := hlen'
  obtain ⟨z0, hz0⟩ := at2 0 (by omega)
  obtain ⟨z1, hz1⟩ := at2 1 (by omega)
  have k0 : DataW.trod enc Tryz.prog w base spare held n' 3 ((List.drop 0 [c0, c1]).take (Tryz.prog.cellsOf 3)) = some z0 := (hg' 0 _ rfl).trans hz0
  have k1 : DataW.trod enc Tryz.prog w base spare held n' 3 ((List.drop 1 [c0, c1]).take (Tryz.prog.cellsOf 3)) = some z1 := (hg' 1 _ rfl).trans hz1
  simp only [cellsI, List.drop_zero, List.drop_succ_cons, List.take_succ_cons, List.take_zero] at k0 k1
  obtain ⟨lo, rfl⟩ := open_int_raw k0
  obtain ⟨hi, rfl⟩ := open_int_raw k1
  exact ⟨lo, hi, rfl, rfl⟩
end

end Go.Proofs.YtpnnlmaipcjkmaaGreat

namespace Go.Proofs.YtpnnlmaipcjkmaaGreat
open Go.RowKit

end Go.Proofs.YtpnnlmaipcjkmaaGreat

namespace Go.Proofs.YtpnnlmaipcjkmaaGreat
open Go.RowKit

theorem Tryz.st50 : Tryz.prog.underlying 50 = some (.struct (Tryz.prog.fieldsOf 50)) := by kernel_rfl
theorem Tryz.held50 : Tryz.prog.stoodInHeld 50 = false := by kernel_rfl
theorem Tryz.guard50 : Tryz.prog.eqGuardType Tryz.prog.depth 50 = false := by kernel_rfl

end Go.Proofs.YtpnnlmaipcjkmaaGreat
