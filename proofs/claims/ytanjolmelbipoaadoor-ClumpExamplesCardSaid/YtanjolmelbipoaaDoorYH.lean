/-
  Ranges over iterators with cells of their own; the program's iterator over a book.
-/
import Derived.RangeFuncMany
import Derived.RangeFuncLeaves
import Derived.Test.YtanjolmelbipoaaDoorYC
import Derived.Deep.MidRow
import Derived.OwnWalkIn
import Derived.KernelRfl
import Derived.Test.YtanjolmelbipoaaDoorYA
import Derived.Test.YtanjolmelbipoaaDoorYG
import Derived.Test.YtanjolmelbipoaaDoorYF
import Derived.Laws.CopyOwn
import Derived.Deep.RegionLaw
import Derived.TacticsInMore
import Derived.LoopNIn
import Derived.LoopIn
import Derived.RangeFuncBound
import Derived.RangeFuncCalls
import Derived.Shelf.Abstract
namespace Go.Proofs.YtanjolmelbipoaaDoor
open Go.RowKit

/-- What a round keeps: all blocks but those of X. -/
structure KeepsX (X : Nat → Prop) (W W' : World) : Prop where
  size : W.heap.size ≤ W'.heap.size
  same : ∀ k, k < W.heap.size → ¬ X k → W'.heap[k]? = W.heap[k]?

theorem KeepsX.refl (X : Nat → Prop) (W : World) : KeepsX X W W := ⟨Nat.le_refl _, fun _ _ _ => rfl⟩
theorem KeepsX.trans {X : Nat → Prop} {A B C : World} (h : KeepsX X A B) (k : KeepsX X B C) : KeepsX X A C :=
  ⟨Nat.le_trans h.size k.size, fun i hi hx => (k.same i (Nat.lt_of_lt_of_le hi h.size) hx).trans (h.same i hi hx)⟩
theorem KeepsX.more {X Y : Nat → Prop} {A B : World} (h : KeepsX X A B) (hxy : ∀ k, X k → Y k) : KeepsX Y A B :=
  ⟨h.size, fun i hi hy => h.same i hi (fun hx => hy (hxy i hx))⟩
theorem KeepsX.alloc (X : Nat → Prop) {A B : World} (h : KeepsX X A B) (o : Obj) : KeepsX X A (B.alloc o) :=
  h.trans ⟨by simp, fun k hk _ => Below.heap_alloc _ _ _ hk⟩
theorem KeepsX.setCell {X : Nat → Prop} {A B : World} (h : KeepsX X A B) {p : Addr} (hp : X p.block ∨ A.heap.size ≤ p.block) (v : Value) : KeepsX X A (B.setCell p v) :=
  ⟨Nat.le_trans h.size (by simp [World.setCell]), fun k hk hx => by
    refine (Below.heap_setCell B p v k ?_).trans (h.same k hk hx)
    rintro rfl
    rcases hp with hp | hp
    · exact hx hp
    · omega⟩
theorem KeepsX.drew {X : Nat → Prop} {A B : World} (h : KeepsX X A B) : KeepsX X A B.drew := ⟨h.size, h.same⟩
theorem KeepsX.putObj {X : Nat → Prop} {A B : World} (h : KeepsX X A B) {r : Nat} (hr : X r) (o : Obj) : KeepsX X A (B.putObj r o) :=
  ⟨by simpa using h.size, fun k hk hx => (World.putObj_heap_other (fun e => hx (by rw [e]; exact hr))).trans (h.same k hk hx)⟩
theorem below_putObj {B : Nat} {a w : World} (h : Below B a w) {r : Nat} (hr : B ≤ r) (o : Obj) : Below B a (w.putObj r o) :=
  ⟨h.os, h.tape, h.output, by simpa using h.size, fun k hk => (World.putObj_heap_other (by omega)).trans (h.block k hk)⟩

/-- The contract of an iterator that yields the rows 'all', in order; Bg: the block that it has captured; below n₀: what lay when its maker was called. -/
def SeqX (F : Fence) (n : Nat) (P : Program) (gf : Nat) (lb : Array Value) (all : List (Array Value)) (n₀ Bg : Nat) (w : World) : Prop :=
  ∀ (l : Nat) (X : Nat → Prop) (J Jx : Nat → World → Prop) (W : World), Below w.heap.size w W → (∀ k, X k → n₀ ≤ k ∧ k ≠ Bg ∧ k < W.heap.size) →
    (∀ k A B, J k A → Below W.heap.size A B → J k B) → (∀ k A B, Jx k A → Below W.heap.size A B → Jx k B) →
    (∀ k r W1, all[k]? = some r → J k W1 → W.heap.size ≤ W1.heap.size → YieldAt F (n - 1) P l r W1 fun e W' =>
      (e = .returned (.bool true) ∧ J (k + 1) W' ∧ KeepsX X W1 W') ∨ (e = .returned (.bool false) ∧ Jx k W')) →
    J 0 W →
    CallsIn F n P gf (#[.func (.yield l) #[] #[]] ++ lb) W fun e W' => (∃ v, e = .returned v) ∧ (J all.length W' ∨ ∃ k, k < all.length ∧ Jx k W')

/-- How the body of a round may be left. -/
def postX (X : Nat → Prop) (I : World → Prop) (Ix : Code → World → Prop) (W : World) : Exit → Act → World → Prop
  | .normal, _, W' => KeepsX X W W' ∧ I W'
  | .ret, _, W' => KeepsX X W W' ∧ Ix .ret W'
  | .exit id, _, W' => KeepsX X W W' ∧ Ix (.exit id) W'
  | .goto t, _, W' => KeepsX X W W' ∧ Ix (.goto t) W'
  | .panic _, _, _ => False
  | .outgrown, _, _ => False

variable {F : Fence} {n : Nat} {P : Program}

theorem wpIn_rangeX {g : Operand} {ps : Array Tmp} {assign body : Code} {Q : Exit → Act → World → Prop} {a : Act} {w : World}
    (hro : F.round = none) (h1 : 1 ≤ n) {gf : Nat} {lb : Array Value} (hg : a.eval g = .func (.func gf) #[] lb) (hFg : F.fn gf) (eg : ∀ args w, (callFunc gf args).run P w = .ok (.enter gf args) w)
    {all : List (Array Value)} {n₀ Bg : Nat} {w0 : World} (hseq : SeqX F (n - 1) P gf lb all n₀ Bg w0) (hb0 : Below w0.heap.size w0 w) (hn₀ : n₀ ≤ w.heap.size) (hBg : Bg < w.heap.size) (hps : ∀ r ∈ all, r.size = ps.size)
    (X : Nat → Prop) (hX : ∀ k, X k → n₀ ≤ k ∧ k ≠ Bg ∧ k < w.heap.size)
    (I : Nat → World → Prop) (Ix : Code → Nat → World → Prop) (hI : ∀ k A B, I k A → Below w.heap.size A B → I k B) (hIx : ∀ c k A B, Ix c k A → Below w.heap.size A B → Ix c k B) (h0 : I 0 w)
    (Ax : Nat → Nat → Act → World → Prop) (hAx : ∀ k b a' A B, Ax k b a' A → (∀ j, b ≤ j → B.heap[j]? = A.heap[j]?) → Ax k b a' B)
    (hassign : ∀ (l k : Nat) (r : Array Value) (W : World) (K : Act → World → Prop), all[k]? = some r → I k W → (∀ a' W', Below W.heap.size W W' → Ax k W.heap.size a' W' → K a' W') →
      assign.wpIn (F.inRound l) (n - 1 - 1) P (Exit.then K (fun _ _ _ => False)) { tmps := (ps.zip r).foldl (fun t (p, v) => t.setIfInBounds p v) a.tmps, defers := [] } W)
    (hbody : ∀ (l k b : Nat) (r : Array Value) (a' : Act) (W : World), all[k]? = some r → w.heap.size ≤ b → b ≤ W.heap.size → I k W → Ax k b a' W → body.wpIn (F.inRound l) (n - 1 - 1) P (postX (fun j => X j ∨ b ≤ j) (I (k + 1)) (fun c => Ix c k) W) a' W)
    (hdone : ∀ (D : Nat) (W : World), D = w.heap.size → I all.length W → W.heap[D]? = some (.deferred (some [])) → Q .normal { a with defers := { target := .collected D, args := #[] } :: a.defers } W)
    (hstop : ∀ (D : Nat) (c : Code) (k : Nat) (W : World), D = w.heap.size → k < all.length → Ix c k W → W.heap[D]? = some (.deferred (some [])) → c.wpIn F n P Q { a with defers := { target := .collected D, args := #[] } :: a.defers } W) :
    (Code.rangeFunc g ps assign body).wpIn F n P Q a w := by
  refine wpIn_rangeFunc ?_
  intro fn hfn
  rw [hro]
  obtain ⟨rec, hrec⟩ : ∃ rec : LoopState → Option Code → Loop, rec = fun st pe => { state := st, pending := pe, fn, tmps := a.tmps, params := ps, assign, body, defers := w.heap.size } := ⟨_, rfl⟩
  obtain ⟨W1, hW1⟩ : ∃ W1, (w.alloc (.deferred (some []))).alloc (.loop (rec .ready none)) = W1 := ⟨_, rfl⟩
  have hL1 : W1.heap[w.heap.size + 1]? = some (.loop (rec .ready none)) := by
    rw [← hW1]; have := World.alloc_heap_new (w.alloc (.deferred (some []))) (.loop (rec .ready none)); rwa [World.size_alloc] at this
  have hK1 : W1.heap[w.heap.size]? = some (.deferred (some [])) := by
    rw [← hW1]; exact (Below.heap_alloc _ _ _ (by simp)).trans (World.alloc_heap_new w _)
  have hsz : W1.heap.size = w.heap.size + 2 := by rw [← hW1]; simp
  have hb01 : Below w.heap.size w W1 := by rw [← hW1]; exact ((Below.refl _ w).alloc (Nat.le_refl _) _).alloc (by simp) _
  have hI1 : I 0 W1 := hI _ _ _ h0 hb01
  have hb1 : Below w0.heap.size w0 W1 := hb0.trans (hb01.mono hb0.size)
  refine ⟨w.heap.size + 1, [{ target := .collected w.heap.size, args := #[] }], W1, { target := .fn (.func gf) lb, args := #[.func (.yield (w.heap.size + 1)) #[] #[]] }, W1, gf,
    #[.func (.yield (w.heap.size + 1)) #[] #[]] ++ lb, W1, ?_, ?_, ?_, ?_, fun _ => h1, ?_⟩
  · rw [← hW1, hrec]; exact run_enterLoop_outer _ _ _ _ _
  · simp only [resolve, hg]
    simp [go_sem]
  · intro f' hf'; simp [Target.leads] at hf'; subst hf'; exact hFg
  · simp [invoke, go_sem, eg]
  · have hlow : ∀ {A B : World} {r : Nat} {o : Obj}, Below W1.heap.size A B → r < W1.heap.size → A.heap[r]? = some o → B.heap[r]? = some o := fun hb hr ho => (hb.block _ hr).trans ho
    refine (hseq (w.heap.size + 1) (fun k => X k ∨ k = w.heap.size + 1)
      (fun k W => I k W ∧ W.heap[w.heap.size + 1]? = some (.loop (rec .ready none)) ∧ W.heap[w.heap.size]? = some (.deferred (some [])))
      (fun k W => ∃ c, Ix c k W ∧ W.heap[w.heap.size + 1]? = some (.loop (rec .done (some c))) ∧ W.heap[w.heap.size]? = some (.deferred (some [])))
      W1 hb1 ?_
      (fun k A B hs hb => ⟨hI k A B hs.1 (hb.mono (by omega)), hlow hb (by omega) hs.2.1, hlow hb (by omega) hs.2.2⟩)
      (fun k A B hs hb => by
        obtain ⟨c, hc, hl, hk⟩ := hs
        exact ⟨c, hIx c k A B hc (hb.mono (by omega)), hlow hb (by omega) hl, hlow hb (by omega) hk⟩)
      ?_ ⟨hI1, hL1, hK1⟩).mono ?_
    · rintro k (hk | rfl)
      · have := hX k hk; exact ⟨this.1, this.2.1, by omega⟩
      · exact ⟨by omega, by omega, by omega⟩
    · -- ONE ROUND
      rintro k r W hr ⟨hi, hl, hk⟩ hsW
      have hlt : w.heap.size + 1 < W.heap.size := (Array.getElem?_eq_some_iff.1 hl).1
      have hy := run_yield (P := P) (args := r) hl (by rw [hrec]; exact hps r (List.mem_of_getElem? hr))
      rw [hrec] at hy
      refine ⟨fn, _, assign, body, hy, roundIn_of_wpIn hfn (hassign _ k r W _ hr hi (fun a' Wa hba hax => ?_))⟩
      have hlA : Wa.heap[w.heap.size + 1]? = some (.loop (rec .ready none)) := (hba.block _ hlt).trans hl
      have hkA : Wa.heap[w.heap.size]? = some (.deferred (some [])) := (hba.block _ (by omega)).trans hk
      have hltA : w.heap.size + 1 < Wa.heap.size := Nat.lt_of_lt_of_le hlt hba.size
      refine ⟨_, run_beginRound hlA (by rw [hrec]), ?_⟩
      have hl2 : (Wa.putObj (w.heap.size + 1) (.loop { rec .ready none with state := .busy })).heap[w.heap.size + 1]? = some (.loop { rec .ready none with state := .busy }) := World.putObj_heap_same hltA
      have hk2 : (Wa.putObj (w.heap.size + 1) (.loop { rec .ready none with state := .busy })).heap[w.heap.size]? = some (.deferred (some [])) := (World.putObj_heap_other (by omega)).trans hkA
      have hi2 : I k (Wa.putObj (w.heap.size + 1) (.loop { rec .ready none with state := .busy })) :=
        hI k _ _ hi (below_putObj (hba.mono (by omega)) (by omega) _)
      have hx2 := hAx k W.heap.size a' Wa (Wa.putObj (w.heap.size + 1) (.loop { rec .ready none with state := .busy })) hax (fun j hj => World.putObj_heap_other (by omega))
      refine wpIn_mono (hbody _ k W.heap.size r a' _ hr (by omega) (by simpa using hba.size) hi2 hx2) ?_
      have fin : ∀ (jump : Option Code) (W3 : World), KeepsX (fun j => X j ∨ W.heap.size ≤ j) (Wa.putObj (w.heap.size + 1) (.loop { rec .ready none with state := .busy })) W3 →
          (Instr.endRound (w.heap.size + 1) jump).run P W3 = .ok (.bool jump.isNone) (W3.putObj (w.heap.size + 1) (.loop (rec (if jump.isNone then .ready else .done) jump))) ∧
          W3.heap[w.heap.size + 1]? = some (.loop { rec .ready none with state := .busy }) ∧
          (W3.putObj (w.heap.size + 1) (.loop (rec (if jump.isNone then .ready else .done) jump))).heap[w.heap.size + 1]? = some (.loop (rec (if jump.isNone then .ready else .done) jump)) ∧
          (W3.putObj (w.heap.size + 1) (.loop (rec (if jump.isNone then .ready else .done) jump))).heap[w.heap.size]? = some (.deferred (some [])) := fun jump W3 hk3 => by
        have hl3 := (hk3.same _ (by simpa using hltA) (by rintro (h | h); have := hX _ h; all_goals omega)).trans hl2
        have hk3' := (hk3.same (w.heap.size) (by simp; omega) (by rintro (h | h); have := hX _ h; all_goals omega)).trans hk2
        have := run_endRound (P := P) jump hl3
        rw [hrec] at this ⊢
        exact ⟨this, by rw [hrec] at hl3; exact hl3, World.putObj_heap_same (Array.getElem?_eq_some_iff.1 hl3).1, (World.putObj_heap_other (by omega)).trans hk3'⟩
      have keep : ∀ {W3 : World} (o : Obj), KeepsX (fun j => X j ∨ W.heap.size ≤ j) (Wa.putObj (w.heap.size + 1) (.loop { rec .ready none with state := .busy })) W3 → KeepsX (fun k => X k ∨ k = w.heap.size + 1) W (W3.putObj (w.heap.size + 1) o) := fun {W3} o hk3 =>
        ⟨by have := hk3.size; simp at this ⊢; exact Nat.le_trans hba.size this, fun j hj hx => by
          have hne : j ≠ w.heap.size + 1 := fun e => hx (.inr e)
          rw [World.putObj_heap_other hne]
          exact (hk3.same j (by simp; have := hba.size; omega) (by rintro (h | h); exact hx (.inl h); omega)).trans ((World.putObj_heap_other hne).trans (hba.block j hj))⟩
      have bel : ∀ {W3 : World} (o : Obj), Below w.heap.size W3 (W3.putObj (w.heap.size + 1) o) := fun o => below_putObj (Below.refl _ _) (by omega) o
      rintro e a3 W3 hp
      cases e with
      | normal =>
        obtain ⟨hk3, hi3⟩ := hp
        obtain ⟨hr, hl3, hl4, hk4⟩ := fin none W3 hk3
        exact ⟨_, _, hr, .inl ⟨rfl, ⟨hI _ _ _ hi3 (bel _), hl4, hk4⟩, keep _ hk3⟩⟩
      | ret =>
        obtain ⟨hk3, hi3⟩ := hp
        obtain ⟨hr, hl3, hl4, hk4⟩ := fin (some .ret) W3 hk3
        exact ⟨_, _, hr, .inr ⟨rfl, .ret, hIx _ _ _ _ hi3 (bel _), hl4, hk4⟩⟩
      | exit id =>
        obtain ⟨hk3, hi3⟩ := hp
        obtain ⟨hr, hl3, hl4, hk4⟩ := fin (some (.exit id)) W3 hk3
        exact ⟨_, _, hr, .inr ⟨rfl, .exit id, hIx _ _ _ _ hi3 (bel _), hl4, hk4⟩⟩
      | goto t =>
        obtain ⟨hk3, hi3⟩ := hp
        obtain ⟨hr, hl3, hl4, hk4⟩ := fin (some (.goto t)) W3 hk3
        exact ⟨_, _, hr, .inr ⟨rfl, .goto t, hIx _ _ _ _ hi3 (bel _), hl4, hk4⟩⟩
      | panic ch => exact hp.elim
      | outgrown => exact hp.elim
    · -- BEHIND THE ITERATOR
      have bel : ∀ {W3 : World} (o : Obj), Below w.heap.size W3 (W3.putObj (w.heap.size + 1) o) := fun o => below_putObj (Below.refl _ _) (by omega) o
      rintro e W2 ⟨⟨v, rfl⟩, (⟨hi, hl, hk⟩ | ⟨k, hkl, c, hi, hl, hk⟩)⟩
      · exact ⟨none, _, by have := run_endLoop (P := P) hl (by rw [hrec]; simp); rw [hrec] at this; exact this, hdone _ _ rfl (hI _ _ _ hi (bel _)) ((World.putObj_heap_other (by omega)).trans hk)⟩
      · exact ⟨some c, _, by have := run_endLoop (P := P) hl (by rw [hrec]; simp); rw [hrec] at this; exact this, hstop _ c k _ rfl hkl (hIx _ _ _ _ hi (bel _)) ((World.putObj_heap_other (by omega)).trans hk)⟩

end Go.Proofs.YtanjolmelbipoaaDoor

namespace Go.Proofs.YtanjolmelbipoaaDoor
open Go.RowKit

/-- All but block b is as it was. -/
structure Put (W W' : World) (b : Nat) : Prop where
  os : W'.os = W.os
  tape : W'.tape = W.tape
  output : W'.output = W.output
  size : W'.heap.size = W.heap.size
  other : ∀ k, k ≠ b → W'.heap[k]? = W.heap[k]?

theorem Put.below {W W' : World} {b B : Nat} (h : Put W W' b) (hb : B ≤ b) : Below B W W' := ⟨h.os, h.tape, h.output, Nat.le_of_eq h.size.symm, fun k hk => h.other k (by omega)⟩
theorem Put.keepsX {W W' : World} {b : Nat} (h : Put W W' b) (X : Nat → Prop) (hb : X b) : KeepsX X W W' := ⟨Nat.le_of_eq h.size.symm, fun k _ hx => h.other k (fun e => hx (by rw [e]; exact hb))⟩
theorem put_setRow (w : World) (b : Nat) (cs : Array Value) : Put w (w.setRow b cs) b := ⟨rfl, rfl, rfl, by simp, fun k hk => setRow_other w b k cs hk⟩

/-- A type of structs or arrays, of n cells. -/
def RowTy (P : Program) (ty : TypeId) (n : Nat) : Prop := (∃ d, P.underlying ty = some d ∧ d.isRow = true) ∧ (P.info? ty).map (·.size) = some n

section
variable {F : Fence} {n : Nat} {P : Program} {ops : Array Oper} {rest : List Oper} {op : Oper} {a : Act} {w : World} {Q : Exit → Act → World → Prop}

theorem run_load_blk {P : Program} {w : World} {ty : TypeId} {b o : Nat} {C : Array Value} {t : TypeId} {fr : Nat × Nat} (hb : w.heap[b]? = some (.cells C t fr))
    {cs : List Value} (hcs : ∀ j v, cs[j]? = some v → C[o + j]? = some v) (hty : RowTy P ty cs.length) :
    (Instr.loadAt ty (.pointer (some ⟨b, o, none⟩))).run P w = .ok (.agg cs.toArray) w := by
  obtain ⟨⟨d, hu, hd⟩, hi⟩ := hty
  exact run_loadAt_mid w b o ty cs d (fun j v hv => (cell_of_row w b (o + j) C t fr hb).trans (hcs j v hv)) hu hd hi

theorem wpListIn_load_blk (ty : TypeId) (x : Operand) (hgd : op.guard = none) (ho : op.op = .load ty x) {b o : Nat} (hx : a.eval x = .pointer (some ⟨b, o, none⟩))
    {C : Array Value} {t : TypeId} {fr : Nat × Nat} (hb : w.heap[b]? = some (.cells C t fr)) (cs : List Value) (hcs : ∀ j v, cs[j]? = some v → C[o + j]? = some v) (hty : RowTy P ty cs.length)
    (h : wpListIn F n P ops Q rest (a.put op.dst (.agg cs.toArray)) w) : wpListIn F n P ops Q (op :: rest) a w := by
  refine wpListIn_plain hgd fun K hK => ?_
  unfold Oper.wpIn
  refine ⟨by simp [Oper.about, ho], ?_⟩
  rw [Oper.semAt_plain F _ _ (by rw [ho]; intro c hc'; cases hc')]
  unfold execOp
  simp only [ho, hx, Sem.run_bind, run_load_blk hb hcs hty, Result.andThen_ok]
  exact hK _ _ h

theorem wpListIn_store_blk (ty : TypeId) (x y : Operand) (hgd : op.guard = none) (ho : op.op = .store ty x y) {b : Nat} (hx : a.eval x = .pointer (some ⟨b, 0, none⟩)) {cells : Array Value} (hy : a.eval y = .agg cells)
    {C : Array Value} {t : TypeId} (hb : w.heap[b]? = some (.cells C t (0, 0))) (hC : C.size = cells.size) (h1 : cells.all (·.oneCell') = true) (hty : RowTy P ty cells.size)
    (h : ∀ w', Put w w' b → w'.heap[b]? = some (.cells cells t (0, 0)) → wpListIn F n P ops Q rest (a.put op.dst undef) w') : wpListIn F n P ops Q (op :: rest) a w := by
  refine wpListIn_plain hgd fun K hK => ?_
  unfold Oper.wpIn
  refine ⟨by simp [Oper.about, ho], ?_⟩
  rw [Oper.semAt_plain F _ _ (by rw [ho]; intro c hc'; cases hc')]
  unfold execOp
  simp only [ho, hx, hy, Instr.storeAt, Instr.sureAddr, Sem.run_bind, Sem.run_pure, Result.andThen_ok, run_storeVar_row w b t ty C cells hb hty.2 hC h1]
  exact hK _ _ (h _ (put_setRow _ _ _) (setRow_heap _ _ _ _ _ _ hb))

theorem wpListIn_yield (f : Operand) (args : Array Operand) (ats : Array TypeId) (hgd : op.guard = none) (ho : op.op = .call { callee := .value f, args := args, argTypes := ats })
    (hF : ∀ f, F.fn f) (hn : 1 ≤ n) {l : Nat} (hf : a.eval f = .func (.yield l) #[] #[]) {vs : Array Value} (hvs : args.map a.eval = vs)
    {R : Ending → World → Prop} (hY : YieldAt F (n - 1) P l vs w R) (h : ∀ e w', R e w' → ∃ v, e = .returned v ∧ wpListIn F n P ops Q rest (a.put op.dst v) w') : wpListIn F n P ops Q (op :: rest) a w := by
  obtain ⟨fn, tmps, assign, body, hy, hR⟩ := hY
  refine wpListIn_plain hgd fun K hK => ?_
  unfold Oper.wpIn
  refine ⟨fun f _ => hF f, ?_⟩
  rw [Oper.semAt_plain F _ _ (by rw [ho]; intro c hc'; cases hc')]
  have hrun : (execOp a.eval op).run P w = .ok (.round l fn tmps assign body) w := by
    unfold execOp
    simp only [ho, resolve, hf, hvs, Deferred.ofValue, Sem.run_bind, Sem.run_pure, Result.andThen_ok]
    simp [invoke, hy]
  rw [hrun, Oper.uponIn_round]
  refine ⟨fun _ => hn, hR.mono ?_⟩
  intro e w' hr
  obtain ⟨v, rfl, hw⟩ := h e w' hr
  exact hK _ _ hw
end

theorem rowGrove : RowTy Tryd.prog 71 13 := ⟨⟨_, Tryd.underlying71, rfl⟩, by kernel_rfl⟩
theorem rowCulms : RowTy Tryd.prog 58 7 := ⟨⟨_, Tryd.underlying58, rfl⟩, by kernel_rfl⟩
theorem rowRecord : RowTy Tryd.prog 60 17 := ⟨⟨_, Tryd.underlying60, rfl⟩, by kernel_rfl⟩
theorem rowSeason : RowTy Tryd.prog 49 2 := ⟨⟨_, Tryd.underlying49, rfl⟩, by kernel_rfl⟩
theorem rowApiGrove : RowTy Tryd.prog 34 10 := ⟨⟨_, Tryd.underlying34, rfl⟩, by kernel_rfl⟩

end Go.Proofs.YtanjolmelbipoaaDoor

namespace Go.Proofs.YtanjolmelbipoaaDoor

theorem Bnd.iff_mem {lo hi : Int} {c : List Int} : Bnd lo hi c ↔ ∀ x ∈ c, lo ≤ x ∧ x ≤ hi := by
  constructor
  · intro h x hx
    obtain ⟨k, hk, rfl⟩ := List.mem_iff_getElem.1 hx
    simpa [hk] using h k hk
  · intro h k hk
    simpa [hk] using h c[k] (List.getElem_mem hk)

theorem laterP_bnd {d : Nat} {c : List Int} {s M : Int} (hb : Bnd 0 M c) (h0 : 0 ≤ s) (hs : s ≤ M) : Bnd 0 M (laterP d c s) := by
  rw [Bnd.iff_mem] at hb ⊢
  intro x hx
  simp only [laterP, List.mem_cons, List.mem_append, List.mem_replicate] at hx
  rcases hx with rfl | hx | ⟨_, rfl⟩
  · exact ⟨h0, hs⟩
  · exact hb x (List.mem_of_mem_take hx)
  · exact ⟨Int.le_refl _, by omega⟩

def stepP (d r : Nat) (c : List Int) (p : Int × Int) : List Int := (cutTo (laterP d c p.1) p.2 d (d - r + 1)).1
def goneP (d r : Nat) (c : List Int) (p : Int × Int) : List Int := (cutTo (laterP d c p.1) p.2 d (d - r + 1)).2.1
def ripeP (d r : Nat) (c : List Int) (p : Int × Int) : Int := ((laterP d c p.1).drop r).sum
def stateP (d r : Nat) (c : List Int) (ss : List (Int × Int)) (k : Nat) : List Int := (ss.take k).foldl (stepP d r) c

theorem stateP_succ {d r : Nat} {c : List Int} {ss : List (Int × Int)} {k : Nat} (hk : k < ss.length) : stateP d r c ss (k + 1) = stepP d r (stateP d r c ss k) (ss[k]?.getD (0, 0)) := by
  unfold stateP
  rw [List.take_succ_eq_append_getElem hk, List.foldl_append]
  simp only [List.foldl_cons, List.foldl_nil, List.getElem?_eq_getElem hk, Option.getD_some]

theorem stepP_len {d r : Nat} {c : List Int} {p : Int × Int} (hd : d ≤ 6) (hc : c.length = 7) : (stepP d r c p).length = 7 ∧ (goneP d r c p).length = 7 := by
  have h := cutTo_len (laterP d c p.1) p.2 d (d - r + 1)
  rw [laterP_len _ hd hc] at h
  exact h

theorem stateP_len {d r : Nat} {c : List Int} {ss : List (Int × Int)} (hd : d ≤ 6) (hc : c.length = 7) : ∀ k, k ≤ ss.length → (stateP d r c ss k).length = 7 := by
  intro k
  induction k with
  | zero => intro _; simpa [stateP] using hc
  | succ k ih => intro h; rw [stateP_succ (by omega)]; exact (stepP_len hd (ih (by omega))).1

theorem seasR_at {ss : List (Int × Int)} (h : seasR ss = true) {k : Nat} (hk : k < ss.length) : (0 ≤ (ss[k]?.getD (0, 0)).1 ∧ (ss[k]?.getD (0, 0)).1 ≤ 30) ∧ (0 ≤ (ss[k]?.getD (0, 0)).2 ∧ (ss[k]?.getD (0, 0)).2 ≤ 30) := by
  simp only [seasR, List.all_eq_true] at h
  have := h ss[k] (List.getElem_mem hk)
  simp only [hk, List.getElem?_eq_getElem, Option.getD_some]
  simp only [Bool.and_eq_true, inR_iff] at this
  exact this

theorem stepP_bnd {d r : Nat} {c : List Int} {p : Int × Int} (hr1 : 1 ≤ r) (hrd : r ≤ d) (hd : d ≤ 6) (hc : c.length = 7) (hb : Bnd 0 30 c) (h1 : 0 ≤ p.1 ∧ p.1 ≤ 30) (h2 : 0 ≤ p.2 ∧ p.2 ≤ 30) :
    Bnd 0 30 (stepP d r c p) ∧ Bnd 0 30 (goneP d r c p) := by
  have := cutTo_bnd (laterP_bnd (d := d) hb h1.1 h1.2) h2.1 h2.2 d (by rw [laterP_len _ hd hc]; omega) (d - r + 1) (by omega)
  exact ⟨this.1, this.2.1⟩

theorem stateP_bnd {d r : Nat} {c : List Int} {ss : List (Int × Int)} (hr1 : 1 ≤ r) (hrd : r ≤ d) (hd : d ≤ 6) (hc : c.length = 7) (hb : Bnd 0 30 c) (hs : seasR ss = true) : ∀ k, k ≤ ss.length → Bnd 0 30 (stateP d r c ss k) := by
  intro k
  induction k with
  | zero => intro _; simpa [stateP] using hb
  | succ k ih =>
    intro h
    rw [stateP_succ (by omega)]
    have := seasR_at hs (show k < ss.length by omega)
    exact (stepP_bnd hr1 hrd hd (stateP_len hd hc k (by omega)) (ih (by omega)) this.1 this.2).1

/-- A record's cells. -/
def recC (p : Int × Int) (ripe : Int) (gone left : List Int) : List Value := .int .i64 p.1 :: .int .i64 p.2 :: .int .i64 ripe :: (ints gone ++ ints left)
def recV (p : Int × Int) (ripe : Int) (gone left : List Int) : Value := .agg (recC p ripe gone left).toArray
def zero7 : List Int := [0, 0, 0, 0, 0, 0, 0]
def start7 (g : Gr) : List Int := g.start ++ List.replicate (7 - g.start.length) 0

/-- The record that comes as the k-th one. -/
def recK (g : Gr) (d r k : Nat) : Value :=
  match k with
  | 0 => recV (0, 0) 0 zero7 (start7 g)
  | k + 1 =>
    let s := g.seas[k]?.getD (0, 0)
    let c := stateP d r (start7 g) g.seas k
    recV s (ripeP d r c s) (goneP d r c s) (stateP d r (start7 g) g.seas (k + 1))
def rowP (g : Gr) (d r k : Nat) : Array Value := #[.int .i64 (g.first + k), recK g d r k]
def rowsP (g : Gr) (d r : Nat) : List (Array Value) := (List.range (g.seas.length + 1)).map (rowP g d r)
theorem rowsP_at {g : Gr} {d r k : Nat} (hk : k ≤ g.seas.length) : (rowsP g d r)[k]? = some (rowP g d r k) := by
  simp [rowsP, show k < g.seas.length + 1 by omega]
theorem rowsP_len (g : Gr) (d r : Nat) : (rowsP g d r).length = g.seas.length + 1 := by simp [rowsP]

/-- What a grove's numbers must be like for its book to be gone through. -/
structure Fine (g : Gr) (d r : Nat) : Prop where
  hd : g.hab.dies = d
  hr : g.hab.ripe = r
  r1 : 1 ≤ r
  rd : r ≤ d
  d6 : d ≤ 6
  st : g.start.length = d + 1
  sb : Bnd 0 9 g.start
  se : seasR g.seas = true
  sl : g.seas.length ≤ 60
  f0 : 0 ≤ g.first
  f1 : g.first ≤ 3000

theorem start7_len {g : Gr} (h : g.start.length ≤ 7) : (start7 g).length = 7 := by simp [start7]; omega
theorem start7_bnd {g : Gr} (h : Bnd 0 9 g.start) : Bnd 0 30 (start7 g) := by
  rw [Bnd.iff_mem] at h ⊢
  intro x hx
  simp only [start7, List.mem_append, List.mem_replicate] at hx
  rcases hx with hx | ⟨_, rfl⟩
  · have := h x hx; omega
  · omega

end Go.Proofs.YtanjolmelbipoaaDoor

namespace Go.Proofs.YtanjolmelbipoaaDoor
open Go.RowKit

attribute [local go_sem] Oper.semAt_some

theorem ints_append (a b : List Int) : ints (a ++ b) = ints a ++ ints b := by simp [ints]
theorem splice_start {g : Gr} (h : g.start.length ≤ 7) : splice (hcells g.hab ++ ints zero7) 6 (ints g.start) = hcells g.hab ++ ints (start7 g) := by
  have e : ints zero7 = List.replicate 7 (.int .i64 0) := rfl
  have e2 : (hcells g.hab).length = 6 := rfl
  have e3 : (ints g.start).length = g.start.length := by simp [ints]
  simp only [splice, start7, ints_append, e]
  rw [List.take_append_of_le_length (by omega), List.take_of_length_le (by omega), List.drop_append, List.drop_of_length_le (by omega), e3]
  simp [e2, ints, show 6 + g.start.length - 6 = g.start.length by omega]
  show List.drop g.start.length (List.replicate 7 (Value.int .i64 0)) = _
  rw [List.drop_replicate]

/-- Where a round of the iterator is: all that is the caller's lies as it lay in wr; block S holds the season, block M the grove. -/
structure RS (B : Nat) (wr : World) (S : Nat) (sc : Array Value) (M : Nat) (mc : Array Value) (w : World) : Prop where
  bel : Below B wr w
  lt : wr.heap.size < w.heap.size
  hS : w.heap[S]? = some (.cells sc 49 (0, 0))
  hM : w.heap[M]? = some (.cells mc 71 (0, 0))

theorem RS.next {B : Nat} {wr : World} {S M : Nat} {sc mc : Array Value} {w w' : World} (h : RS B wr S sc M mc w) (hB : B ≤ wr.heap.size) (hw : Below w.heap.size w w') : RS B wr S sc M mc w' :=
  ⟨h.bel.trans (hw.mono (Nat.le_trans hB (Nat.le_of_lt h.lt))), Nat.lt_of_lt_of_le h.lt hw.size, (hw.block _ (Array.getElem?_eq_some_iff.1 h.hS).1).trans h.hS, (hw.block _ (Array.getElem?_eq_some_iff.1 h.hM).1).trans h.hM⟩
theorem RS.put {B : Nat} {wr : World} {S M : Nat} {sc mc mc' : Array Value} {w w' : World} (h : RS B wr S sc M mc w) (hB : B ≤ M) (hne : S ≠ M) (hp : Put w w' M) (hm : w'.heap[M]? = some (.cells mc' 71 (0, 0))) : RS B wr S sc M mc' w' :=
  ⟨h.bel.trans (hp.below hB), by rw [hp.size]; exact h.lt, (hp.other _ hne).trans h.hS, hm⟩
theorem RS.far {B : Nat} {wr : World} {S M b : Nat} {sc mc : Array Value} {w w' : World} (h : RS B wr S sc M mc w) (hB : B ≤ b) (h1 : S ≠ b) (h2 : M ≠ b) (hp : Put w w' b) : RS B wr S sc M mc w' :=
  ⟨h.bel.trans (hp.below hB), by rw [hp.size]; exact h.lt, (hp.other _ h1).trans h.hS, (hp.other _ h2).trans h.hM⟩

/-- Of what a round may turn and the iterator does itself: neither what lay below n₀ nor the block it has captured. -/
def OwnY (n₀ Bg : Nat) : Nat → Prop := fun j => n₀ ≤ j ∧ j ≠ Bg

set_option maxRecDepth 100000 in
set_option maxHeartbeats 4000000 in
theorem records1 (g : Gr) (A1 : Option Addr) (c1 : Nat) (A2 : Option Addr) (c2 : Nat) (d r : Nat) (hf : Fine g d r) (n n₀ Bg : Nat) (hn : 1 ≤ n) (w : World) (hn₀ : n₀ ≤ w.heap.size) (hBg : Bg < w.heap.size) (hG : GrAt w n₀ g A1 c1 A2 c2)
    (hbox : w.heap[Bg]? = some (.cells #[.int .i64 g.id, .int .i64 g.hab.lo, .int .i64 g.hab.hi, .int .i64 g.hab.bears, .int .i64 g.hab.ripe, .int .i64 g.hab.dies, .int .i64 g.hab.keep, .int .i64 g.first, .slice A1 g.start.length c1, .slice A2 g.seas.length c2] 34 (0, 0))) :
    SeqX Fence.wide n Tryd.prog 44 #[.pointer (some ⟨Bg, 0, none⟩)] (rowsP g d r) n₀ Bg w := by
  intro l X J Jx W hW hX hJ hJx hY h0
  have hGW := hG.below (hW.mono hn₀)
  have hbW : W.heap[Bg]? = _ := (hW.block _ hBg).trans hbox
  have hBgW : Bg < W.heap.size := Nat.lt_of_lt_of_le hBg hW.size
  have hnW : n₀ ≤ W.heap.size := Nat.le_trans hn₀ hW.size
  have hst : g.start.length = d + 1 := hf.st
  have hd6 := hf.d6
  have hl1 := hG.len1
  have hsp := splice_start (g := g) (by omega)
  have HF := Lib.hid hf
  have HY := Lib.hid hY
  have HJ := Lib.hid (And.intro hJ (And.intro hJx h0))
  have HG := Lib.hid hGW
  have HX := Lib.hid hX
  have HSP := Lib.hid hsp
  clear hf hY hJ hJx h0 hGW hX hG hbox hsp hW
  refine callsIn_of_wp Tryd.func44 rfl trivial ?_ rfl
  simp only [Tryd.ntmps44, List.size_toArray, List.length_cons, List.length_nil, Nat.reduceAdd, Nat.reduceSub, Array.replicate_succ, Array.replicate_zero, List.push_toArray, List.append_toArray, List.nil_append, List.cons_append]
  have hcell := fun i => cell_of_row W Bg i _ _ _ hbW
  gi_wp2_with fail
  obtain ⟨W0, hW0⟩ : ∃ W0, W.alloc (.cells #[.int .i64 g.hab.lo, .int .i64 g.hab.hi, .int .i64 g.hab.bears, .int .i64 g.hab.ripe, .int .i64 g.hab.dies, .int .i64 g.hab.keep, .int .i64 0, .int .i64 0, .int .i64 0, .int .i64 0, .int .i64 0, .int .i64 0, .int .i64 0] 71) = W0 := ⟨_, rfl⟩
  rw [hW0]
  have hb0 : Below W.heap.size W W0 := by rw [← hW0]; exact (Below.refl _ _).alloc (Nat.le_refl _) _
  have hs0 : W0.heap.size = W.heap.size + 1 := by rw [← hW0]; simp
  have hM0 : W0.heap[W.heap.size]? = some (.cells (hcells g.hab ++ ints zero7).toArray 71 (0, 0)) := by rw [← hW0]; exact alloc_at0 W _
  have hcell0 : ∀ i, W0.cell? ⟨Bg, i, none⟩ = _ := fun i => cell_of_row W0 Bg i _ _ _ ((hb0.block Bg hBgW).trans hbW)
  have hI0 := Lib.hid (HG.out.st.below (hb0.mono hnW))
  have H0 := Lib.hid (And.intro hb0 (And.intro hM0 hW0))
  have HB := Lib.hid hbW
  clear hb0 hM0 hW0 hcell hbW
  refine wpIn_wide.2 ?_
  go_cut [12, 13, 14, 15, 16] (fun s12 s13 s14 s15 s16 wx => Hid (Below W.heap.size W0 wx) ∧ Hid (wx.heap[W.heap.size]? = some (.cells (gcells g.hab (start7 g)) 71 (0, 0))))
  case first =>
    go_region_law
      ((refine step_copy_splice rfl (.tmp 13) (.tmp 15) 25 25 rfl 3 Tryd.underlying25 (by kernel_rfl) _ _ _ _ _ _ rfl rfl W.heap.size 6 (hcells g.hab ++ ints zero7) 71 (H0.out.2.1) (ints g.start) ?hn ?hpos ?hfit (oneCells_ints _) W.heap.size W0 ?hbe (Nat.le_refl _) ?_
        case hn =>
          simp only [ints, List.length_map]
          change _ = min _ _
          omega
        case hpos =>
          intro hp
          refine ⟨rfl, ?_⟩
          obtain ⟨b, off, hA, hlt, hc⟩ := hI0.out (by simpa [ints] using hp)
          refine ⟨⟨b, off, none⟩, hA, fun j v hj => ?_⟩
          rw [Addr.add_mid]
          have hj' : j < g.start.length := by have := (List.getElem?_eq_some_iff.1 hj).1; simpa [ints] using this
          refine (hc j hj').trans ?_
          rw [← hj]
          simp [ints, hj']
        case hfit => simp [hcells, ints, zero7]; omega
        case hbe => repeat (first | exact Below.refl _ _ | refine Below.drew ?_)
        intro w4 hg4 hb4))
    all_goals
      go_wp2_with fail
      go_meet
      exact ⟨hb4, by have := hg4.out; rw [HSP.out] at this; exact this⟩
  obtain ⟨hbc, hMc⟩ := hcut
  have hlen := start7_len (g := g) (by omega)
  have hrow0 : rowP g d r 0 = #[.int .i64 g.first, recV (0, 0) 0 zero7 (start7 g)] := by simp [rowP, recK]
  have hy0 := HY.out 0 _ wc (rowsP_at (Nat.zero_le _)) (HJ.out.1 0 _ _ HJ.out.2.2 (H0.out.1.trans hbc.out)) (Nat.le_trans H0.out.1.size hbc.out.size)
  rw [hrow0] at hy0
  have hMc' := hMc.out
  obtain ⟨e0, e1, e2, e3, e4, e5, e6, he⟩ := len7 hlen
  rw [he] at hy0 hMc'
  have hcM := fun i => cell_of_row wc W.heap.size i _ _ _ hMc'
  simp only [gcells, hcells, ints, List.map_cons, List.map_nil, List.cons_append, List.nil_append] at hcM
  simp only [recV, recC, zero7, ints, List.map_cons, List.map_nil, List.cons_append, List.nil_append] at hy0
  have hbB := (hbc.out.block Bg (by omega)).trans ((H0.out.1.block Bg hBgW).trans HB.out)
  have hcellc : ∀ i, wc.cell? ⟨Bg, i, none⟩ = _ := fun i => cell_of_row wc Bg i _ _ _ hbB
  have hsc : W.heap.size < wc.heap.size := by have := hbc.out.size; omega
  have Hy0 := Lib.hid hy0
  have He := Lib.hid he
  have HbB := Lib.hid hbB
  clear hcell0 hy0 hrow0 hMc' he hlen hbB
  gi_wp2_with
    (show wpListIn _ _ _ _ _ (Oper.mk (some 23) _ _ _ _ _ :: _) _ _
     refine wpListIn_yield (.tmp 17) #[.tmp 19, .tmp 22] #[3, 60] ?hgd ?ho ?hF hn (l := l) ?hf ?hvs Hy0.out ?_
     case hgd => rfl
     case ho => rfl
     case hF => exact fun _ => trivial
     case hf => rfl
     case hvs => simp [Act.eval]
     rintro e w5 (⟨rfl, hJ5, hK5⟩ | ⟨rfl, hx5⟩)
     refine ⟨_, rfl, ?_⟩
     have hb5 := (hK5.same Bg (by omega) (fun h => (HX.out _ h).2.1 rfl)).trans HbB.out
     have hcell5 : ∀ i, w5.cell? ⟨Bg, i, none⟩ = _ := fun i => cell_of_row w5 Bg i _ _ _ hb5
     have H5 := Lib.hid (And.intro hJ5 hK5)
     clear hb5 hJ5 hK5 hcellc hcM
     rotate_left
     refine ⟨_, rfl, ?_⟩
     have H5 := Lib.hid hx5
     clear hx5 hcellc hcM
     rotate_right)
  rotate_left
  · refine bodyPost_ret (results_none rfl _ _ _) rfl ?_
    exact ⟨⟨_, rfl⟩, .inr ⟨0, by rw [rowsP_len]; omega, H5.out⟩⟩
  have H5K := Lib.hid ((⟨Nat.le_trans H0.out.1.size hbc.out.size, fun j hj hx => (hbc.out.block j (by omega)).trans (H0.out.1.block j hj)⟩ : KeepsX (OwnY n₀ Bg) W wc).trans (H5.out.2.more (fun j hj => ⟨(HX.out j hj).1, (HX.out j hj).2.1⟩)))
  have H5M := Lib.hid ((H5.out.2.same W.heap.size hsc (fun h => by have := (HX.out _ h).2.2; omega)).trans hMc.out)
  have H5J := Lib.hid H5.out.1
  clear H5 Hy0
  gi_loopw [28] (fun i wr => ∃ k : Nat, k ≤ g.seas.length ∧ i = .int .i64 k ∧ Hid (J (k + 1) wr) ∧ Hid (KeepsX (OwnY n₀ Bg) W wr) ∧ Hid (wr.heap[W.heap.size]? = some (.cells (gcells g.hab (stateP d r (start7 g) g.seas k)) 71 (0, 0))))
    (fun i _ => g.seas.length - (intOf i).toNat)
  case atStart => exact ⟨0, Nat.zero_le _, rfl, H5J.out, H5K.out, H5M.out⟩
  case round =>
    obtain ⟨k, hk, rfl, hJk, hKk, hMk⟩ := hrel
    by_cases hlt : k < g.seas.length
    · obtain ⟨b, off, hA, hbB, hcs⟩ := HG.out.se (by rw [pairs_len]; omega)
      subst hA
      have hpa := pairs_at g.seas k hlt
      have hblk : wr.heap[b]? = W.heap[b]? := hKk.out.same b (by omega) (fun h => by have := h.1; omega)
      have hc0 : wr.cell? ⟨b, off + k * 2, none⟩ = _ := (World.cell?_of_block (w := W) hblk).trans (hcs _ _ hpa.1)
      have hc1 : wr.cell? ⟨b, off + k * 2 + 1, none⟩ = _ := (World.cell?_of_block (w := W) hblk).trans (hcs _ _ hpa.2)
      have hsr := seasR_at HF.out.se hlt
      have hrow := rowsP_at (g := g) (d := d) (r := r) (show k + 1 ≤ g.seas.length by omega)
      have hrk : rowP g d r (k + 1) = #[.int .i64 (g.first + 1 + k), recV (g.seas[k]?.getD (0, 0)) (ripeP d r (stateP d r (start7 g) g.seas k) (g.seas[k]?.getD (0, 0))) (goneP d r (stateP d r (start7 g) g.seas k) (g.seas[k]?.getD (0, 0))) (stepP d r (stateP d r (start7 g) g.seas k) (g.seas[k]?.getD (0, 0)))] := by
        rw [← stateP_succ hlt]
        simp only [rowP, recK]
        congr 3
        omega
      have hnext := stateP_succ (d := d) (r := r) (c := start7 g) hlt
      have hlenc := stateP_len (d := d) (r := r) (c := start7 g) (ss := g.seas) hd6 (start7_len (by omega)) k hk
      have hbndc := stateP_bnd (d := d) (r := r) (c := start7 g) (ss := g.seas) HF.out.r1 HF.out.rd hd6 (start7_len (by omega)) (start7_bnd HF.out.sb) HF.out.se k hk
      generalize hx : g.seas[k]?.getD (0, 0) = x at hc0 hc1 hsr hrk hnext
      generalize hcE : stateP d r (start7 g) g.seas k = c at hrk hnext hlenc hbndc hMk
      obtain ⟨s, q⟩ := x
      simp only at hc0 hc1 hsr
      have hL := fun W' => later_any g.hab d HF.out.hd hd6 c hlenc s W'
      have hLl := laterP_len s hd6 hlenc
      have hLb := laterP_bnd (d := d) (M := 30) hbndc hsr.1.1 hsr.1.2
      have hR := fun W' => ripe_any g.hab r HF.out.hr (by have := HF.out.rd; omega) (laterP d c s) hLl (fun k hk => by have := hLb k hk; omega) W'
      have hC := fun W' => cut_any g.hab d r HF.out.hd HF.out.hr HF.out.r1 HF.out.rd hd6 (laterP d c s) hLl 30 (by omega) hLb q hsr.2.1 hsr.2.2 W'
      have hSl := stepP_len (d := d) (r := r) (c := c) (p := (s, q)) hd6 hlenc
      have e1 : (cutTo (laterP d c s) q d (d - r + 1)).1 = stepP d r c (s, q) := rfl
      have e2 : (cutTo (laterP d c s) q d (d - r + 1)).2.1 = goneP d r c (s, q) := rfl
      have e3 : ((laterP d c s).drop r).sum = ripeP d r c (s, q) := rfl
      rw [e1, e2] at hC
      rw [e3] at hR
      generalize stepP d r c (s, q) = f at hC hSl hrk hnext
      generalize goneP d r c (s, q) = gn at hC hSl hrk
      generalize ripeP d r c (s, q) = rp at hR hrk
      generalize laterP d c s = la at hL hLl hR hC
      obtain ⟨c0, c1', c2', c3, c4, c5, c6, rfl⟩ := len7 hlenc
      obtain ⟨l0, l1, l2, l3, l4, l5, l6, rfl⟩ := len7 hLl
      obtain ⟨f0, f1, f2, f3, f4, f5, f6, rfl⟩ := len7 hSl.1
      obtain ⟨t0, t1, t2, t3, t4, t5, t6, rfl⟩ := len7 hSl.2
      have hgv : ∀ x0 x1 x2 x3 x4 x5 x6 : Int, gv g.hab [x0, x1, x2, x3, x4, x5, x6] = .agg #[.int .i64 g.hab.lo, .int .i64 g.hab.hi, .int .i64 g.hab.bears, .int .i64 g.hab.ripe, .int .i64 g.hab.dies, .int .i64 g.hab.keep, .int .i64 x0, .int .i64 x1, .int .i64 x2, .int .i64 x3, .int .i64 x4, .int .i64 x5, .int .i64 x6] := fun _ _ _ _ _ _ _ => rfl
      have hin : ∀ x0 x1 x2 x3 x4 x5 x6 : Int, (ints [x0, x1, x2, x3, x4, x5, x6]).toArray = #[.int .i64 x0, .int .i64 x1, .int .i64 x2, .int .i64 x3, .int .i64 x4, .int .i64 x5, .int .i64 x6] := fun _ _ _ _ _ _ _ => rfl
      simp only [hgv, hin] at hL hR hC
      have hrv : recV (s, q) rp [t0, t1, t2, t3, t4, t5, t6] [f0, f1, f2, f3, f4, f5, f6] = .agg #[.int .i64 s, .int .i64 q, .int .i64 rp, .int .i64 t0, .int .i64 t1, .int .i64 t2, .int .i64 t3, .int .i64 t4, .int .i64 t5, .int .i64 t6, .int .i64 f0, .int .i64 f1, .int .i64 f2, .int .i64 f3, .int .i64 f4, .int .i64 f5, .int .i64 f6] := rfl
      rw [hrv] at hrk
      rw [hrk] at hrow
      have hyk := fun W1 => HY.out (k + 1) _ W1 hrow
      have hMr : wr.heap[W.heap.size]? = some (.cells #[.int .i64 g.hab.lo, .int .i64 g.hab.hi, .int .i64 g.hab.bears, .int .i64 g.hab.ripe, .int .i64 g.hab.dies, .int .i64 g.hab.keep, .int .i64 c0, .int .i64 c1', .int .i64 c2', .int .i64 c3, .int .i64 c4, .int .i64 c5, .int .i64 c6] 71 (0, 0)) := hMk.out
      have hsM : W.heap.size < wr.heap.size := (Array.getElem?_eq_some_iff.1 hMr).1
      have hRS : RS W.heap.size wr wr.heap.size #[.int .i64 s, .int .i64 q] W.heap.size _ (wr.alloc (.cells #[.int .i64 s, .int .i64 q] 49)) :=
        ⟨(Below.refl _ _).alloc (by omega) _, by simp, alloc_at0 _ _, (Below.heap_alloc _ _ _ hsM).trans hMr⟩
      have hcA := fun i => cell_of_row _ W.heap.size i _ _ _ hRS.hM
      have hcS := fun i => cell_of_row _ wr.heap.size i _ _ _ hRS.hS
      have HL := Lib.hid hL
      have HR := Lib.hid hR
      have HC := Lib.hid hC
      have HRS := Lib.hid hRS
      have HN := Lib.hid (And.intro hnext (And.intro hcE hx))
      have HYk := Lib.hid hyk
      have hf0 := HF.out.f0
      have hf1 := HF.out.f1
      have hsl := HF.out.sl
      have hbg : wr.heap[Bg]? = _ := (hKk.out.same Bg hBgW (fun h => h.2 rfl)).trans HB.out
      have HBG := Lib.hid hbg
      clear hcs hpa hblk hyk hrow hrk hnext hlenc hbndc hcE hx hL hLl hLb hR hC hSl e1 e2 e3 hgv hin hrv hMr hRS hbg hsr
      gi_wp2_with (first
        | (refine ⟨trivial, ?_⟩
           gi_at_call 34
           refine (callsIn_wide.2 (HL.out _)).mono ?_
           rintro e w1 ⟨rfl, hB1⟩
           have R1 := Lib.hid (HRS.out.next (by omega) hB1)
           clear hB1 hcA)
        | (show wpListIn _ _ _ _ _ (Oper.mk none (Op.store _ (Operand.tmp 3) (Operand.tmp 36)) _ _ _ _ :: _) _ _
           refine wpListIn_store_blk 71 (.tmp 3) (.tmp 36) rfl rfl rfl rfl R1.out.hM rfl ?h1 rowGrove ?_
           case h1 => simp [Value.oneCell']
           intro w2 hP2 hM2
           have hcA2 := fun i => cell_of_row _ W.heap.size i _ _ _ hM2
           have R2 := Lib.hid (R1.out.put (Nat.le_refl _) (by omega) hP2 hM2)
           have hs2 := R2.out.lt
           clear hP2 hM2)
        | (refine ⟨trivial, ?_⟩
           gi_at_call 45
           refine (callsIn_wide.2 (HR.out _)).mono ?_
           rintro e w3 ⟨rfl, hB3⟩
           have r3 := R2.out.next (by omega) hB3
           have hs3 := r3.lt
           have hcA3 := fun i => cell_of_row _ W.heap.size i _ _ _ r3.hM
           have hcS3 := fun i => cell_of_row _ wr.heap.size i _ _ _ r3.hS
           have R3 := Lib.hid r3
           clear hB3 r3 hcA2)
        | (refine ⟨trivial, ?_⟩
           gi_at_call 46
           refine (callsIn_wide.2 (HC.out _)).mono ?_
           rintro e w4 ⟨rfl, hB4⟩
           have R4 := Lib.hid (R3.out.next (by omega) hB4)
           have hs4 := R4.out.lt
           clear hB4 hcA3 hcS3)
        | (show wpListIn _ _ _ _ _ (Oper.mk none (Op.store _ (Operand.tmp 7) (Operand.tmp 44)) _ _ _ _ :: _) _ _
           refine wpListIn_store_blk 71 (.tmp 7) (.tmp 44) rfl rfl rfl rfl (alloc2_at0 w4 _ _) rfl ?h1 rowGrove ?_
           case h1 => simp [Value.oneCell']
           intro w5 hP5 hM5
           have R5 := Lib.hid ((R4.out.next (by omega) (((Below.refl _ w4).alloc (Nat.le_refl _) _).alloc (by simp) _)).far (by omega) (by omega) (by omega) hP5)
           have G5 := Lib.hid ((hP5.other (w4.heap.size + 1) (by omega)).trans (alloc2_at1 w4 _ _))
           have M5 := Lib.hid hM5
           clear hP5 hM5)
        | (show wpListIn _ _ _ _ _ (Oper.mk none (Op.store _ (Operand.tmp 8) (Operand.tmp 45)) _ _ _ _ :: _) _ _
           refine wpListIn_store_blk 58 (.tmp 8) (.tmp 45) rfl rfl rfl rfl G5.out rfl ?h1 rowCulms ?_
           case h1 => simp [Value.oneCell']
           intro w6 hP6 hM6
           have r6 := R5.out.far (by omega) (by omega) (by omega) hP6
           have hL6 := (hP6.other w4.heap.size (by omega)).trans M5.out
           have hcG := fun i => cell_of_row _ (w4.heap.size + 1) i _ _ _ hM6
           have hcL := fun i => cell_of_row _ w4.heap.size i _ _ _ hL6
           have hcS6 := fun i => cell_of_row _ wr.heap.size i _ _ _ r6.hS
           have hcB6 := fun i => cell_of_row _ Bg i _ _ _ ((r6.bel.block Bg (by omega)).trans HBG.out)
           have R6 := Lib.hid r6
           have L6 := Lib.hid hL6
           clear hP6 hM6 r6 hL6)
        | (show wpListIn _ _ _ _ _ (Oper.mk (some 58) _ _ _ _ _ :: _) _ _
           refine wpListIn_yield (.tmp 46) #[.tmp 51, .tmp 57] #[3, 60] ?hgd ?ho ?hF hn (l := l) ?hf ?hvs (HYk.out _ (HJ.out.1 (k + 1) wr _ hJk.out R6.out.bel) (by have := R6.out.lt; omega)) ?_
           case hgd => rfl
           case ho => rfl
           case hF => exact fun _ => trivial
           case hf => rfl
           case hvs => simp [Act.eval]
           rintro e w7 (⟨rfl, hJ7, hK7⟩ | ⟨rfl, hx7⟩)
           refine ⟨_, rfl, ?_⟩
           have hL7 := (hK7.same w4.heap.size (Array.getElem?_eq_some_iff.1 L6.out).1 (fun h => by have := (HX.out _ h).2.2; omega)).trans L6.out
           have hM7 := (hK7.same W.heap.size (by have := R6.out.lt; omega) (fun h => by have := (HX.out _ h).2.2; omega)).trans R6.out.hM
           have hcL7 := fun i => cell_of_row _ w4.heap.size i _ _ _ hL7
           have M7 := Lib.hid hM7
           have J7 := Lib.hid (And.intro hJ7 hK7)
           clear hL7 hM7 hJ7 hK7 hcG hcL hcS6 hcB6
           rotate_left
           refine ⟨_, rfl, ?_⟩
           have J7 := Lib.hid hx7
           clear hx7 hcG hcL hcS6 hcB6
           rotate_right)
        | (show wpListIn _ _ _ _ _ (Oper.mk none (Op.store _ (Operand.tmp 3) (Operand.tmp 60)) _ _ _ _ :: _) _ _
           refine wpListIn_store_blk 71 (.tmp 3) (.tmp 60) rfl rfl rfl rfl M7.out rfl ?h1 rowGrove ?_
           case h1 => simp [Value.oneCell']
           intro w8 hP8 hM8
           have P8 := Lib.hid (And.intro hP8 hM8)
           clear hP8 hM8))
      case roundEnd =>
        have hb68 := R6.out.bel
        have hK68 : KeepsX (OwnY n₀ Bg) wr w6 := ⟨hb68.size, fun j hj hx => hb68.block j (by
          by_cases hjW : j < W.heap.size
          · exact hjW
          · exact absurd ⟨by omega, by omega⟩ hx)⟩
        have hK8 := ((hKk.out.trans hK68).trans (J7.out.2.more (fun j hj => ⟨(HX.out j hj).1, (HX.out j hj).2.1⟩))).trans (P8.out.1.keepsX (OwnY n₀ Bg) ⟨hnW, by omega⟩)
        have hJ8 := HJ.out.1 (k + 1 + 1) w7 w8 J7.out.1 (P8.out.1.below (Nat.le_refl _))
        have hM8 : w8.heap[W.heap.size]? = some (.cells (gcells g.hab (stateP d r (start7 g) g.seas (k + 1))) 71 (0, 0)) := by rw [HN.out.1]; exact P8.out.2
        have E8 := Lib.hid (And.intro hJ8 (And.intro hK8 hM8))
        clear hb68 hK68 hK8 hJ8 hM8
        go_roundw
        case rel => exact ⟨k + 1, by omega, by go_num, E8.out.1, E8.out.2.1, E8.out.2.2⟩
        case measure => simp [intOf] <;> omega
      refine bodyPost_ret (results_none rfl _ _ _) rfl ?_
      exact ⟨⟨_, rfl⟩, .inr ⟨k + 1, by rw [rowsP_len]; omega, J7.out⟩⟩
    · obtain rfl : k = g.seas.length := by omega
      gi_wp2_with fail
      go_end0
      exact ⟨⟨_, rfl⟩, .inl (by rw [rowsP_len]; exact hJk.out)⟩

end Go.Proofs.YtanjolmelbipoaaDoor

namespace Go.Proofs.YtanjolmelbipoaaDoor
open Go.RowKit Go.Shelf

attribute [local go_sem] Oper.semAt_some

/-- A grove's cells. -/
abbrev gcs (g : Gr) (A1 : Option Addr) (c1 : Nat) (A2 : Option Addr) (c2 : Nat) : Array Value :=
  #[.int .i64 g.id, .int .i64 g.hab.lo, .int .i64 g.hab.hi, .int .i64 g.hab.bears, .int .i64 g.hab.ripe, .int .i64 g.hab.dies, .int .i64 g.hab.keep, .int .i64 g.first, .slice A1 g.start.length c1, .slice A2 g.seas.length c2]

theorem records_any (g : Gr) (A1 : Option Addr) (c1 : Nat) (A2 : Option Addr) (c2 : Nat) (w : World) :
    Calls Tryd.prog 28 #[.agg (gcs g A1 c1 A2 c2)] w fun e w' => e = .returned (.func (.func 44) #[] #[.pointer (some ⟨w.heap.size, 0, none⟩)]) ∧ w' = w.alloc (.cells (gcs g A1 c1 A2 c2) 34) := by
  unfold gcs
  go_enter Tryd.func28, Tryd.ntmps28
  go_wp2
  go_ret
  exact ⟨rfl, rfl⟩

/-- The cut and the ripe culms of the k-th record. -/
def cutK (g : Gr) (k : Nat) : Int := match k with | 0 => 0 | k + 1 => (g.seas[k]?.getD (0, 0)).2
def ripeK (g : Gr) (d r k : Nat) : Int := match k with | 0 => 0 | k + 1 => ripeP d r (stateP d r (start7 g) g.seas k) (g.seas[k]?.getD (0, 0))
def goneK (g : Gr) (d r k : Nat) : List Int := match k with | 0 => zero7 | k + 1 => goneP d r (stateP d r (start7 g) g.seas k) (g.seas[k]?.getD (0, 0))
def shotK (g : Gr) (k : Nat) : Int := match k with | 0 => 0 | k + 1 => (g.seas[k]?.getD (0, 0)).1
theorem recK_eq (g : Gr) (d r k : Nat) : recK g d r k = recV (shotK g k, cutK g k) (ripeK g d r k) (goneK g d r k) (stateP d r (start7 g) g.seas k) := by
  cases k with
  | zero => simp [recK, shotK, cutK, ripeK, goneK, stateP]
  | succ k => rfl
theorem goneK_len {g : Gr} {d r : Nat} (hf : Fine g d r) {k : Nat} (hk : k ≤ g.seas.length) : (goneK g d r k).length = 7 := by
  cases k with
  | zero => rfl
  | succ k => exact (stepP_len hf.d6 (stateP_len hf.d6 (start7_len (by have := hf.st; have := hf.d6; omega)) k (by omega))).2

/-- All cuts are of ripe culms. -/
def cutsP (g : Gr) (d r : Nat) : Bool := decide (∀ k, k < g.seas.length → cutK g (k + 1) ≤ ripeK g d r (k + 1))

set_option maxHeartbeats 4000000 in
theorem validCuts_any (g : Gr) (A1 : Option Addr) (c1 : Nat) (A2 : Option Addr) (c2 : Nat) (d r : Nat) (hf : Fine g d r) (B : Nat) (w : World) (hB : B ≤ w.heap.size) (hG : GrAt w B g A1 c1 A2 c2) :
    Calls Tryd.prog 26 #[grv g A1 c1 A2 c2] w fun e w' => e = .returned (.bool (cutsP g d r)) ∧ Below w.heap.size w w' := by
  have HG := Lib.hid hG
  have HF := Lib.hid hf
  clear hG hf
  unfold grv
  refine (callsIn_wide (n := 4)).1 ?_
  refine callsIn_of_wp_marks Tryd.func26 rfl trivial ?_ rfl
  simp only [Tryd.ntmps26, List.size_toArray, List.length_cons, List.length_nil, Nat.reduceAdd, Nat.reduceSub, Array.replicate_succ, Array.replicate_zero, List.push_toArray, List.append_toArray, List.nil_append, List.cons_append]
  gi_wp2_with
    (refine ⟨trivial, ?_⟩
     gi_at_call 28
     refine (callsIn_wide.2 (records_any g A1 c1 A2 c2 _)).mono ?_
     rintro e w1 ⟨rfl, rfl⟩)
  obtain ⟨W, hW⟩ : ∃ W, (((w.alloc (.cells (gcs g A1 c1 A2 c2) 34)).alloc (.cells #[.bool false] 4)).alloc (.cells (gcs g A1 c1 A2 c2) 34)) = W := ⟨_, rfl⟩
  have hWs : W.heap.size = w.heap.size + 3 := by rw [← hW]; simp
  have hbW : Below w.heap.size w W := by rw [← hW]; exact (((Below.refl _ _).alloc (Nat.le_refl _) _).alloc (by simp) _).alloc (by simp; omega) _
  have hW2 : W.heap[w.heap.size + 1 + 1]? = some (.cells (gcs g A1 c1 A2 c2) 34 (0, 0)) := by rw [← hW]; exact alloc3_at2 w _ _ _
  have hW1 : W.heap[w.heap.size + 1]? = some (.cells #[.bool false] 4 (0, 0)) := by rw [← hW]; exact alloc3_at1 w _ _ _
  have hGW : GrAt W w.heap.size g A1 c1 A2 c2 := (HG.out.mono hB).below hbW
  rw [show (((w.alloc (.cells #[.int .i64 g.id, .int .i64 g.hab.lo, .int .i64 g.hab.hi, .int .i64 g.hab.bears, .int .i64 g.hab.ripe, .int .i64 g.hab.dies, .int .i64 g.hab.keep, .int .i64 g.first, .slice A1 g.start.length c1, .slice A2 g.seas.length c2] 34)).alloc (.cells #[.bool false] 4)).alloc (.cells (gcs g A1 c1 A2 c2) 34)) = W from hW]
  clear hW
  refine wpIn_rangeX rfl (by omega) (gf := 44) (lb := #[.pointer (some ⟨w.heap.size + 1 + 1, 0, none⟩)]) rfl trivial (enters_of Tryd.func44 (by kernel_rfl) rfl)
    (records1 g A1 c1 A2 c2 d r HF.out (4 - 1) w.heap.size (w.heap.size + 1 + 1) (by omega) W (by omega) (by omega) hGW hW2) (Below.refl _ _) (by omega) (by omega)
    (fun r' hr' => by
      obtain ⟨k, hk, rfl⟩ := List.mem_map.1 hr'
      rfl)
    (fun k => k = w.heap.size + 1) (fun k hk => by omega)
    (fun k A => (∀ j, j < k → cutK g j ≤ ripeK g d r j) ∧ A.heap[w.heap.size + 1]? = some (.cells #[.bool false] 4 (0, 0)) ∧ Below w.heap.size w A)
    (fun c k A => c = .ret ∧ ripeK g d r k < cutK g k ∧ A.heap[w.heap.size + 1]? = some (.cells #[.bool false] 4 (0, 0)) ∧ Below w.heap.size w A)
    (fun k A B hi hb => ⟨hi.1, (hb.block _ (by omega)).trans hi.2.1, hi.2.2.trans (hb.mono (by omega))⟩)
    (fun c k A B hi hb => ⟨hi.1, hi.2.1, (hb.block _ (by omega)).trans hi.2.2.1, hi.2.2.2.trans (hb.mono (by omega))⟩)
    ⟨fun j hj => by omega, hW1, hbW⟩
    (fun k b a' A => ∃ b', b ≤ b' ∧ A.heap[b']? = some (.cells (recC (shotK g k, cutK g k) (ripeK g d r k) (goneK g d r k) (stateP d r (start7 g) g.seas k)).toArray 60 (0, 0)) ∧
      a' = { tmps := #[.agg #[.int .i64 g.id, .int .i64 g.hab.lo, .int .i64 g.hab.hi, .int .i64 g.hab.bears, .int .i64 g.hab.ripe, .int .i64 g.hab.dies, .int .i64 g.hab.keep, .int .i64 g.first, .slice A1 g.start.length c1, .slice A2 g.seas.length c2],
        .pointer (some ⟨w.heap.size, 0, none⟩), .pointer (some ⟨w.heap.size + 1, 0, none⟩), undef, .pointer (some ⟨b', 0, none⟩),
        .agg #[.int .i64 g.id, .int .i64 g.hab.lo, .int .i64 g.hab.hi, .int .i64 g.hab.bears, .int .i64 g.hab.ripe, .int .i64 g.hab.dies, .int .i64 g.hab.keep, .int .i64 g.first, .slice A1 g.start.length c1, .slice A2 g.seas.length c2],
        .func (.func 44) #[] #[.pointer (some ⟨w.heap.size + 1 + 1, 0, none⟩)], .int .i64 (g.first + k), recK g d r k, undef, undef, undef, undef, undef, undef], defers := [] })
    (fun k b a' A B hx hj => by
      obtain ⟨b', hb, hc, ha⟩ := hx
      exact ⟨b', hb, (hj b' hb).trans hc, ha⟩) ?assign ?body ?done ?stop
  case assign =>
    rintro l k r' W1 K hr' ⟨_, _, _⟩ hK
    have hk : k < (rowsP g d r).length := (List.getElem?_eq_some_iff.1 hr').1
    rw [rowsP_len] at hk
    rw [rowsP_at (by omega)] at hr'
    obtain rfl : rowP g d r k = r' := Option.some.inj hr'
    obtain ⟨t0, t1, t2, t3, t4, t5, t6, ht⟩ := len7 (goneK_len HF.out (show k ≤ g.seas.length by omega))
    obtain ⟨f0, f1, f2, f3, f4, f5, f6, hf⟩ := len7 (stateP_len (r := r) (ss := g.seas) HF.out.d6 (start7_len (g := g) (by have := HF.out.st; have := HF.out.d6; omega)) k (by omega))
    rw [show rowP g d r k = #[.int .i64 (g.first + k), recK g d r k] from rfl]
    rw [recK_eq, ht, hf] at hK ⊢
    simp only [recV, recC, ints, List.map_cons, List.map_nil, List.cons_append, List.nil_append] at hK ⊢
    have hKK := Lib.hid hK
    clear hK hr' ht hf
    gi_wp2_with
      (show wpListIn _ _ _ _ _ (Oper.mk none (Op.store _ (Operand.tmp 4) (Operand.tmp 8)) _ _ _ _ :: _) _ _
       refine wpListIn_store_blk 60 (.tmp 4) (.tmp 8) rfl rfl rfl rfl (alloc_at0 W1 _) rfl ?h1 rowRecord ?_
       case h1 => simp [Value.oneCell']
       intro w2 hP2 hM2
       have H2 := Lib.hid (And.intro hP2 hM2)
       clear hP2 hM2)
    exact hKK.out _ _ (((Below.refl _ W1).alloc (Nat.le_refl _) _).trans (H2.out.1.below (Nat.le_refl _))) ⟨_, Nat.le_refl _, H2.out.2, rfl⟩
  case body =>
    rintro l k b r' a' W1 hr' hwb hbW' ⟨hcut, hres, hbel⟩ ⟨b', hbb, hc, rfl⟩
    have hcc := fun i => cell_of_row _ b' i _ _ _ hc
    simp only [recC] at hcc
    have HH := Lib.hid (And.intro hcut (And.intro hres hbel))
    have hcr := cell_of_row _ (w.heap.size + 1) 0 _ _ _ hres
    have hfr := frozen_of_row W1 (w.heap.size + 1) 0 _ _ hres
    clear hcut hres hbel hc hr'
    by_cases hle : cutK g k ≤ ripeK g d r k
    · gi_wp2_with fail
      exact ⟨KeepsX.refl _ _, fun j hj => by
        rcases Nat.lt_succ_iff_lt_or_eq.1 hj with h | rfl
        · exact HH.out.1 j h
        · exact hle, HH.out.2.1, HH.out.2.2⟩
    · have hset := heap_setCell_same W1 (w.heap.size + 1) 0 _ _ (.bool false) HH.out.2.1
      have HS := Lib.hid (show _ = some (Obj.cells #[.bool false] 4 (0, 0)) from hset)
      clear hset
      gi_wp2_with fail
      exact ⟨(KeepsX.refl _ _).setCell (.inl (.inl rfl)) _, rfl, HS.out, HH.out.2.2.setCell (by simp) _⟩
  case done =>
    rintro D W3 rfl ⟨hcuts, hres, hbel⟩ hD
    have hcr := cell_of_row _ (w.heap.size + 1) 0 _ _ _ hres
    have hfr := frozen_of_row W3 (w.heap.size + 1) 0 _ _ hres
    have HH := Lib.hid (And.intro hcuts (And.intro hres (And.intro hbel hD)))
    clear hcuts hres hbel hD
    gi_wp2_with fail
    have hset := heap_setCell_same W3 (w.heap.size + 1) 0 _ _ (.bool true) HH.out.2.1
    have hset' : (W3.setCell ⟨w.heap.size + 1, 0, none⟩ (.bool true)).heap[w.heap.size + 1]? = some (.cells #[.bool true] 4 (0, 0)) := hset
    have hd2 := (heap_setCell_other W3 ⟨w.heap.size + 1, 0, none⟩ W.heap.size (.bool true) (by simp; omega)).trans HH.out.2.2.2
    have hc := cell_of_row _ (w.heap.size + 1) 0 _ _ _ ((World.putObj_heap_other (r := W.heap.size) (o := .deferred none) (show w.heap.size + 1 ≠ W.heap.size by omega)).trans hset')
    have e : cutsP g d r = true := by
      simp only [cutsP, decide_eq_true_eq]
      intro k hk
      exact HH.out.1 (k + 1) (by rw [rowsP_len]; omega)
    rw [e]
    refine ⟨by simp, .inl ⟨_, _, rfl, run_takeDeferred hd2, ?_⟩⟩
    refine ⟨.bool true, by simp [results, Tryd.results26, go_sem, hc], rfl, ?_⟩
    exact below_putObj (HH.out.2.2.1.setCell (by simp) _) (by omega) _
  case stop =>
    rintro D c k W3 rfl hk ⟨rfl, hlt, hres, hbel⟩ hD
    have hcr := cell_of_row _ (w.heap.size + 1) 0 _ _ _ hres
    have HH := Lib.hid (And.intro hlt (And.intro hres (And.intro hbel hD)))
    clear hlt hres hbel hD
    gi_wp2_with fail
    have hc := cell_of_row _ (w.heap.size + 1) 0 _ _ _ ((World.putObj_heap_other (r := W.heap.size) (o := .deferred none) (show w.heap.size + 1 ≠ W.heap.size by omega)).trans HH.out.2.1)
    rw [rowsP_len] at hk
    have e : cutsP g d r = false := by
      simp only [cutsP, decide_eq_false_iff_not]
      intro h
      have hlt := HH.out.1
      cases k with
      | zero => simp [cutK, ripeK] at hlt
      | succ k => have := h k (by omega); omega
    rw [e]
    refine ⟨by simp, .inl ⟨_, _, rfl, run_takeDeferred HH.out.2.2.2, ?_⟩⟩
    refine ⟨.bool false, by simp [results, Tryd.results26, go_sem, hc], rfl, ?_⟩
    exact below_putObj HH.out.2.2.1 (by omega) _

end Go.Proofs.YtanjolmelbipoaaDoor

