/-
  Stresses by grades and tests (the program's): the walk.
-/
import Derived.TacticsInMore
import Derived.LoopNIn
import Derived.LoopIn
import Derived.Test.YtpnnlmaipcjkmaaGreatQR14
import Derived.Test.YtpnnlmaipcjkmaaGreatQR15
import Derived.Maps.OwnSet
import Derived.RangeFuncBound
import Derived.RangeFuncCalls
import Derived.Shelf.Abstract
set_option linter.all false
namespace Go.Proofs.YtpnnlmaipcjkmaaGreat
open Go.RowKit
open R6 (done done_ne done_me upd_ne upd_me)

attribute [local go_sem] Oper.semAt_some
attribute [local go_sem] gives

theorem vals_same {w w' : World} {B : Nat} {A : Option Addr} {vs : List Value} (h : Vals w B A vs) (hk : ∀ k, k < B → w'.heap[k]? = w.heap[k]?) : Vals w' B A vs :=
  fun hl => let ⟨b, off, e, hb, hc⟩ := h hl; ⟨b, off, e, hb, fun k v hv => (World.cell?_of_block (w := w) (hk b hb)).trans (hc k v hv)⟩
theorem GdAt.same {w w' : World} {B : Nat} {gs : List Gd} {AG : Option Addr} (h : GdAt w B gs AG) (hk : ∀ k, k < B → w'.heap[k]? = w.heap[k]?) : GdAt w' B gs AG := ⟨vals_same h.g hk, h.lg⟩

structure OgC (w5 : World) (J' Jx' : World → Prop) (Y : Nat → Prop) (D : Nat → Bool) (σ : Nat → Value) (W : World) : Prop where
  pre : D 8 = false → Below w5.heap.size w5 W
  post : D 8 = true → (σ 22 = .bool true ∧ J' W ∧ KeepsX Y w5 W) ∨ (σ 22 = .bool false ∧ Jx' W)
def ogK (k : Nat) (d : Option Nat) : Bool := !(k == 8 || d == some 22)
section
variable {w5 W W' : World} {J' Jx' : World → Prop} {Y : Nat → Prop} {D : Nat → Bool} {σ : Nat → Value}
theorem OgC.next {k : Nat} {d : Option Nat} {v : Value} (h : OgC w5 J' Jx' Y D σ W) (h8 : D 8 = false) (hg : Grows W W') (hk : ogK k d = true) : OgC w5 J' Jx' Y (done D k) (R4.upd σ d v) W' := by
  simp only [ogK, Bool.not_eq_true', Bool.or_eq_false_iff, beq_eq_false_iff_ne, ne_eq] at hk
  have e8 := done_ne (D := D) (k := k) (j := 8) (by omega)
  exact ⟨fun _ => (h.pre h8).trans (hg.mono (h.pre h8).size), fun e => by rw [e8, h8] at e; cases e⟩
end

end Go.Proofs.YtpnnlmaipcjkmaaGreat

namespace Go.Proofs.YtpnnlmaipcjkmaaGreat
open Go.RowKit Go.Maps
open R6 (done done_ne done_me upd_ne upd_me)

theorem keyI5 : Maps.Keyed Tryz.prog 3 := Maps.int_keyed Tryz.underlying3
def rdE (v : Value) : Option (DataW Value × List MemPlace) := some (.held v, [])
def zst : Value := .agg (st6 fun _ => (0, 0)).toArray
def stv6 (f : Nat → Int × Int) : Value := .agg (st6 f).toArray
def MapF (D : DataW Value) (F : Int → Nat → Int × Int) : Prop := ∀ id : Int, D.atKey (.int .i64 id) (.held zst) = .held (stv6 (F id))
def OwnF (W : World) (mb n : Nat) (F : Int → Nat → Int × Int) : Prop := ∃ D : DataW Value, W.ownsMap Tryz.prog 3 rdE mb n D ∧ MapF D F
theorem OwnF.made {W : World} {mb : Nat} (h : W.heap[mb]? = some (.map #[] 0)) : OwnF W mb 0 fun _ _ => (0, 0) := by
  refine ⟨.map [], ⟨#[], 0, h, ?_⟩, fun id => rfl⟩
  have := World.ownsMap_made (H := Value) W Tryz.prog 3 rdE
  obtain ⟨es, cl, hb, r⟩ := this
  rw [World.alloc_heap_new] at hb
  simp only [Option.some.injEq, Obj.map.injEq] at hb
  obtain ⟨rfl, rfl⟩ := hb
  exact r
theorem OwnF.block {W W' : World} {mb n : Nat} {F : Int → Nat → Int × Int} (h : OwnF W mb n F) (e : W'.heap[mb]? = W.heap[mb]?) : OwnF W' mb n F := by
  obtain ⟨D, h1, h2⟩ := h
  refine ⟨D, ?_, h2⟩
  unfold World.ownsMap at h1 ⊢
  rw [e]
  exact h1
theorem OwnF.lt {W : World} {mb n : Nat} {F : Int → Nat → Int × Int} (h : OwnF W mb n F) : mb < W.heap.size := let ⟨_, h1, _⟩ := h; h1.lt
theorem OwnF.mono {W : World} {mb n m : Nat} {F : Int → Nat → Int × Int} (h : OwnF W mb n F) (hn : n ≤ m) : OwnF W mb m F := let ⟨D, h1, h2⟩ := h; ⟨D, h1.mono hn, h2⟩
def idOk (i : Int) : Prop := -9223372036854775808 ≤ i ∧ i ≤ 9223372036854775807
section
variable {op : Oper} {a : Act} {w : World} {R : Value → World → Prop} {M n : Nat} {F : Int → Nat → Int × Int}
end

def Coll (lo hi : Nat) : List Deferred → World → Prop
  | [], _ => True
  | d :: ds, w => (∃ D, d = { target := .collected D, args := #[] } ∧ lo ≤ D ∧ D < hi ∧ w.heap[D]? = some (.deferred (some [])) ∧ ∀ d' ∈ ds, d'.target ≠ .collected D) ∧ Coll lo hi ds w
theorem Coll.hi {lo hi hi' : Nat} (hh : hi ≤ hi') : ∀ {ds : List Deferred} {w : World}, Coll lo hi ds w → Coll lo hi' ds w
  | [], _, _ => trivial
  | _ :: _, _, ⟨⟨D, h1, h2, h3, h4⟩, h5⟩ => ⟨⟨D, h1, h2, by omega, h4⟩, Coll.hi hh h5⟩
theorem Coll.same {lo hi : Nat} {w w' : World} (hk : ∀ k, lo ≤ k → k < hi → (∃ ds, w.heap[k]? = some (.deferred ds)) → w'.heap[k]? = w.heap[k]?) : ∀ {ds : List Deferred}, Coll lo hi ds w → Coll lo hi ds w'
  | [], _ => trivial
  | _ :: _, ⟨⟨D, h1, h2, h3, h4, h5⟩, h6⟩ => ⟨⟨D, h1, h2, h3, (hk D h2 h3 ⟨_, h4⟩).trans h4, h5⟩, Coll.same hk h6⟩
section
variable {F : Fence} {n : Nat} {P : Program}
end

def okG2 (g : Gd) : Prop := ∀ k, k < 3 → (1 ≤ (st0 g k).1 ∧ (st0 g k).1 ≤ 200000) ∧ (1 ≤ (st0 g k).2 ∧ (st0 g k).2 ≤ 200000)
theorem okG2.g {g : Gd} (h : okG2 g) : okG g := fun k hk => ⟨(h k hk).1.1, (h k hk).2.2⟩
def Up (ps : List Pol) : Prop := ps.Pairwise fun p q => p.id < q.id
theorem byIdL_up (ok : Pol → Bool) : ∀ (ps : List Pol) (n : Int), byIdL Pol.id ok ps n = true → Up ps ∧ ∀ p ∈ ps, n ≤ p.id ∧ p.id ≤ 9999 ∧ ok p = true
  | [], _, _ => ⟨.nil, fun _ h => by cases h⟩
  | p :: ps, n, h => by
    simp only [byIdL, Bool.and_eq_true, inR_iff] at h
    obtain ⟨⟨h1, h2⟩, h3, h4⟩ := h
    obtain ⟨i1, i2⟩ := byIdL_up ok ps _ h4
    refine ⟨.cons (fun q hq => ?_) i1, fun q hq => ?_⟩
    · have := (i2 q hq).1; omega
    · rcases List.mem_cons.1 hq with rfl | hq
      · exact ⟨h1, h2, h3⟩
      · have := i2 q hq; exact ⟨by omega, this.2.1, this.2.2⟩
theorem Up.ne {l : List Pol} (h : Up l) {i j : Nat} (hi : i < l.length) (hj : j < l.length) (hij : i ≠ j) : l[i].id ≠ l[j].id := by
  rcases Nat.lt_or_gt_of_ne hij with h1 | h1
  · have := List.pairwise_iff_getElem.1 h i j hi hj h1; omega
  · have := List.pairwise_iff_getElem.1 h j i hj hi h1; omega
theorem Up.inj {l : List Pol} (h : Up l) {p q : Pol} (hp : p ∈ l) (hq : q ∈ l) (e : p.id = q.id) : p = q := by
  obtain ⟨i, hi, rfl⟩ := List.mem_iff_getElem.1 hp
  obtain ⟨j, hj, rfl⟩ := List.mem_iff_getElem.1 hq
  by_cases hij : i = j
  · subst hij; rfl
  · exact absurd e (h.ne hi hj hij)

end Go.Proofs.YtpnnlmaipcjkmaaGreat

namespace Go.Proofs.YtpnnlmaipcjkmaaGreat
open Go.RowKit Go.Maps
open R6 (done done_ne done_me upd_ne upd_me)

attribute [local go_sem] gives

section
variable {F : Fence} {n : Nat} {P : Program} {ops : Array Oper} {rest : List Oper} {op : Oper} {a : Act} {w : World} {Q : Exit → Act → World → Prop}
end

theorem below_low5 {B B' : Nat} {a b : World} (h : Below B a b) (hB : B' ≤ B) : Below B' a b := ⟨h.os, h.tape, h.output, h.size, fun k hk => h.block k (by omega)⟩

structure OnceC (w1 : World) (kk : Nat) (PP : World → Prop) (D : Nat → Bool) (σ : Nat → Value) (W : World) : Prop where
  pre : D kk = false → Below w1.heap.size w1 W
  post : D kk = true → PP W
def onceK (kk k : Nat) : Bool := !(k == kk)
section
variable {w1 W W' : World} {kk : Nat} {PP : World → Prop} {D : Nat → Bool} {σ σ' : Nat → Value}
theorem OnceC.next {k : Nat} (h : OnceC w1 kk PP D σ W) (h0 : D kk = false) (hg : Grows W W') (hk : onceK kk k = true) : OnceC w1 kk PP (done D k) σ' W' := by
  simp only [onceK, Bool.not_eq_true', beq_eq_false_iff_ne, ne_eq] at hk
  have e := done_ne (D := D) (k := k) (j := kk) (by omega)
  exact ⟨fun _ => (h.pre h0).trans (hg.mono (h.pre h0).size), fun e' => by rw [e, h0] at e'; cases e'⟩
end

structure SsC (w : World) (V : Array Value) (A2 : Option Addr) (n2 c2 : Nat) (al : Bool) (ds : List Deferred) (hi n : Nat) (F : Int → Nat → Int × Int) (W : World) : Prop where
  bel : Below w.heap.size w W
  b2 : W.heap[w.heap.size]? = some (.cells V 119 (0, 0))
  b3 : W.heap[w.heap.size + 1]? = some (.cells #[.slice A2 n2 c2] 23 (0, 0))
  b4 : W.heap[w.heap.size + 1 + 1]? = some (.cells [Value.map (some (w.heap.size + 1 + 1 + 1 + 1))].toArray 124 (0, 0))
  b5 : W.heap[w.heap.size + 1 + 1 + 1]? = some (.cells [Value.bool al].toArray 4 (0, 0))
  map : OwnF W (w.heap.size + 1 + 1 + 1 + 1) n F
  coll : Coll (w.heap.size + 5) hi ds W
  hiw : w.heap.size + 5 ≤ hi ∧ hi ≤ W.heap.size
section
variable {w W W' : World} {V : Array Value} {A2 : Option Addr} {n2 c2 : Nat} {al al' : Bool} {ds : List Deferred} {hi n : Nat} {F F' : Int → Nat → Int × Int}
theorem SsC.below (h : SsC w V A2 n2 c2 al ds hi n F W) {b : Nat} (hb : Below b W W') (hh : hi ≤ b) : SsC w V A2 n2 c2 al ds hi n F W' := by
  have h1 := h.hiw
  exact ⟨h.bel.trans (below_low5 hb (by omega)), (hb.block _ (by omega)).trans h.b2, (hb.block _ (by omega)).trans h.b3, (hb.block _ (by omega)).trans h.b4, (hb.block _ (by omega)).trans h.b5, h.map.block (hb.block _ (by omega)), h.coll.same (fun k _ hk _ => hb.block k (by omega)), h1.1, Nat.le_trans h1.2 hb.size⟩
theorem SsC.grows (h : SsC w V A2 n2 c2 al ds hi n F W) (hb : Grows W W') : SsC w V A2 n2 c2 al ds hi n F W' := h.below hb h.hiw.2
theorem SsC.put (h : SsC w V A2 n2 c2 al ds hi n F W) {b : Nat} (hP : Put W W' b) (hb : w.heap.size + 5 ≤ b) {cs : Array Value} {t : TypeId} {fr : Nat × Nat} (hc : W.heap[b]? = some (.cells cs t fr)) : SsC w V A2 n2 c2 al ds hi n F W' := by
  have h1 := h.hiw
  refine ⟨h.bel.trans (hP.below (by omega)), (hP.other _ (by omega)).trans h.b2, (hP.other _ (by omega)).trans h.b3, (hP.other _ (by omega)).trans h.b4, (hP.other _ (by omega)).trans h.b5, h.map.block (hP.other _ (by omega)), h.coll.same (fun k _ _ hk => hP.other k (fun e => ?_)), h1.1, by rw [hP.size]; exact h1.2⟩
  obtain ⟨ds', hd⟩ := hk
  rw [e, hc] at hd
  cases hd
theorem SsC.keep (h : SsC w V A2 n2 c2 al ds hi n F W) {m : Nat} (hg : W.grownBy W' (some (w.heap.size + 1 + 1 + 1 + 1))) (hO : OwnF W' (w.heap.size + 1 + 1 + 1 + 1) m F') : SsC w V A2 n2 c2 al ds hi m F' W' := by
  have h1 := h.hiw
  exact ⟨h.bel.grown hg h.bel.size (fun g e => by cases e; omega), (hg.block _ (by omega) (by simp; try omega)).trans h.b2, (hg.block _ (by omega) (by simp; try omega)).trans h.b3, (hg.block _ (by omega) (by simp; try omega)).trans h.b4, (hg.block _ (by omega) (by simp)).trans h.b5, hO,
    h.coll.same (fun k hk hk2 _ => hg.block k (by omega) (by simp; omega)), h1.1, Nat.le_trans h1.2 hg.size⟩
theorem SsC.up (h : SsC w V A2 n2 c2 al ds hi n F W) {hi' m : Nat} (hh : hi ≤ hi') (hw : hi' ≤ W.heap.size) (hm : n ≤ m) : SsC w V A2 n2 c2 al ds hi' m F W :=
  ⟨h.bel, h.b2, h.b3, h.b4, h.b5, h.map.mono hm, h.coll.hi hh, by have := h.hiw; omega, hw⟩
end
end Go.Proofs.YtpnnlmaipcjkmaaGreat
