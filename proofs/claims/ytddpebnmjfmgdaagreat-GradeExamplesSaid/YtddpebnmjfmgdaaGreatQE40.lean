/-
  The chapter's examples of the statements: alive.
-/
import Derived.Test.YtddpebnmjfmgdaaGreatQE38
import Derived.Test.YtddpebnmjfmgdaaGreatQE39
set_option linter.all false
namespace Go.Proofs.YtddpebnmjfmgdaaGreat
open Go.RowKit Go.Shelf
open R6 (done done_ne done_me upd_ne upd_me)

attribute [local go_sem] gives

def AnyR (W : World) (base : Nat) (ls : List Sl) : Prop := ∀ s ∈ ls, ∃ zs : List Int, zs.length = s.zs.length ∧ OwnI W base (slv s) zs
theorem OwnR.any {W : World} {base : Nat} {v : Value} {ls : List Sl} (h : OwnR W base v ls) : AnyR W base ls := fun s hs => ⟨s.zs, rfl, h.each s hs⟩
theorem AnyR.put {W : World} {base : Nat} {ls : List Sl} (h : AnyR W base ls) {s : Sl} (hs : s ∈ ls) {k : Nat} (hk : k < s.zs.length) :
    ∃ (g : Nat) (L : List Value), s.A = some ⟨g, 0, none⟩ ∧ base ≤ g ∧ W.heap[g]? = some (.cells L.toArray 3 (0, 0)) ∧ k < L.length ∧
      ∀ W' z, Put W W' g → W'.heap[g]? = some (.cells (L.set k (.int .i64 z)).toArray 3 (0, 0)) → AnyR W' base ls := by
  obtain ⟨zs, hzl, ho⟩ := h s hs
  rcases ho.2 with ⟨_, hn⟩ | ⟨g, cap, cur, hv, hb, hh, hn, hc, hsz, hcs⟩
  · omega
  · unfold slv at hv
    simp only [Value.slice.injEq] at hv
    have hn' : cur.toList.length = cap * 1 := by simpa using hsz
    refine ⟨g, cur.toList, hv.1, hb, by simpa using hh, by omega, fun W' z hp hm x hx => ?_⟩
    obtain ⟨ys, hyl, hy⟩ := h x hx
    rcases hy.2 with ⟨e1, e2⟩ | ⟨g', cap', cur', hv', hb', hh', hn2, hc', hsz', hcs'⟩
    · exact ⟨ys, hyl, hy.1, .inl ⟨e1, e2⟩⟩
    · by_cases e : g' = g
      · subst e
        rw [hh] at hh'
        simp only [Option.some.injEq, Obj.cells.injEq, and_true] at hh'
        subst hh'
        refine ⟨ys.set k z, by simpa using hyl, by simp [ints], .inr ⟨g', cap', (cur.toList.set k (.int .i64 z)).toArray, by rw [List.length_set]; exact hv', hb', hm, by rw [List.length_set]; exact hn2, hc', by simpa using hsz', ?_⟩⟩
        rw [List.toList_toArray, List.length_set, List.take_set, hcs']
        exact List.toArray_inj (by rw [← ints_set, List.setIfInBounds_toArray])
      · exact ⟨ys, hyl, hy.1, .inr ⟨g', cap', cur', hv', hb', (hp.other _ e).trans hh', hn2, hc', hsz', hcs'⟩⟩

structure LawC (w : World) (t : Bt) (A : Option Addr) (cap : Nat) (l : List Sl) (Ao : Option Addr) (co : Nat) (lo : List Sl) (B7 n3 : Nat) (W : World) : Prop where
  bel : Below w.heap.size w W
  lb : n3 ≤ W.heap.size
  b3 : W.heap[w.heap.size]? = some (.cells (btcells t (.slice A l.length cap)) 63 (0, 0))
  b7 : W.heap[B7]? = some (.cells (btcells t (.slice Ao lo.length co)) 63 (0, 0))
  lt : w.heap.size < n3 ∧ B7 < n3
  own : Rows W n3 Ao lo
theorem LawC.next {w W W' : World} {t : Bt} {A : Option Addr} {cap : Nat} {l : List Sl} {Ao : Option Addr} {co : Nat} {lo : List Sl} {B7 n3 : Nat} (h : LawC w t A cap l Ao co lo B7 n3 W) (hB : Below n3 W W') : LawC w t A cap l Ao co lo B7 n3 W' :=
  ⟨h.bel.trans (below_low hB (by have := h.lt; omega)), Nat.le_trans h.lb hB.size, (hB.block _ h.lt.1).trans h.b3, (hB.block _ h.lt.2).trans h.b7, h.lt, h.own.below hB⟩
theorem LawC.grow {w W W' : World} {t : Bt} {A : Option Addr} {cap : Nat} {l : List Sl} {Ao : Option Addr} {co : Nat} {lo : List Sl} {B7 n3 : Nat} (h : LawC w t A cap l Ao co lo B7 n3 W) (hB : Grows W W') : LawC w t A cap l Ao co lo B7 n3 W' := h.next (below_low hB h.lb)

structure Law6 (w : World) (t : Bt) (A : Option Addr) (cap : Nat) (l : List Sl) (Ao : Option Addr) (co : Nat) (lo : List Sl) (B7 n3 n4 : Nat) (v1 : Value) (ls1 : List Sl) (v2 : Value) (ls2 : List Sl) (D : Nat → Bool) (σ : Nat → Value) (W : World) : Prop where
  law : LawC w t A cap l Ao co lo B7 n3 W
  p : OwnR W n3 v1 ls1
  q : OwnR W n4 v2 ls2
theorem Law6.next {w W W' : World} {t : Bt} {A : Option Addr} {cap : Nat} {l : List Sl} {Ao : Option Addr} {co : Nat} {lo : List Sl} {B7 n3 n4 : Nat} {v1 v2 : Value} {ls1 ls2 : List Sl} {D D' : Nat → Bool} {σ σ' : Nat → Value} (h : Law6 w t A cap l Ao co lo B7 n3 n4 v1 ls1 v2 ls2 D σ W) (hB : Grows W W') : Law6 w t A cap l Ao co lo B7 n3 n4 v1 ls1 v2 ls2 D' σ' W' := ⟨h.law.grow hB, h.p.grows hB, h.q.grows hB⟩

end Go.Proofs.YtddpebnmjfmgdaaGreat

namespace Go.Proofs.YtddpebnmjfmgdaaGreat
open Go.RowKit Go.Shelf

def bt0 (lo hi : Int) : Bt := ⟨10, 1000, lo, hi, 20⟩
def sl0 (a : Nat) : List Sl := [⟨some ⟨a, 0, none⟩, 2, [0, 0]⟩]
theorem short0 (a : Nat) : shortL (sl0 a) := ⟨by simp [sl0], fun s hs => by simp [sl0] at hs; subst hs; simp⟩

structure Al4 (w : World) (A : Option Addr) (ps : List (Int × Int)) (W : World) : Prop where
  bel : Below w.heap.size w W
  v : Vals W W.heap.size A (pairs ps)
theorem Al4.next {w W W' : World} {A : Option Addr} {ps : List (Int × Int)} (h : Al4 w A ps W) (hB : Grows W W') : Al4 w A ps W' := ⟨h.bel.trans (hB.mono h.bel.size), (h.v.below hB).mono hB.size⟩

end Go.Proofs.YtddpebnmjfmgdaaGreat
