/-
  What lies in memory while stresses are told.
-/
import Derived.Test.YtboffligjgjgjaaGrT
namespace Go.Proofs.Ytboffligjgjgjaa
open Go.RowKit Go.Maps
open R6 (done done_ne done_me upd_ne upd_me)

attribute [local go_sem] gives

section
variable {F : Fence} {n : Nat} {P : Program} {ops : Array Oper} {rest : List Oper} {op : Oper} {a : Act} {w : World} {Q : Exit → Act → World → Prop}
theorem wpListIn_store_v5 (ty : TypeId) (x y : Operand) (hgd : op.guard = none) (ho : op.op = .store ty x y) (hd : op.dst = none) {b o : Nat} (hx : a.eval x = .pointer (some ⟨b, o, none⟩)) {v : Value} (hy : a.eval y = v) (hv : v.cells = #[v]) (h1 : v.oneCell' = true)
    {L : List Value} {t : TypeId} (hb : w.heap[b]? = some (.cells L.toArray t (0, 0))) (hfit : o < L.length) (hty : (P.info? ty).map (·.size) = some 1)
    (h : ∀ w', Put w w' b → w'.heap[b]? = some (.cells (L.set o v).toArray t (0, 0)) → wpListIn F n P ops Q rest a w') : wpListIn F n P ops Q (op :: rest) a w := by
  refine wpListIn_plain hgd fun K hK => ?_
  have hrun := run_store_one (P := P) (v := v) hb hfit hv h1 hty
  unfold Oper.wpIn
  refine ⟨by simp [Oper.about, ho], ?_⟩
  rw [Oper.semAt_plain F _ _ (by rw [ho]; intro c hc'; cases hc')]
  unfold execOp
  simp only [ho, hx, hy, Sem.run_bind, Sem.run_pure, hrun, Result.andThen_ok]
  refine hK _ _ ?_
  rw [hd]
  refine h _ (put_setCells b [v] o w) ?_
  have := heap_setCell_same w b o _ _ v hb
  rwa [List.setIfInBounds_toArray] at this
theorem wpListIn_gives {l m : Nat} (hw : Region.wanted op (yielded ops a.tmps) = true) (hnd : ∀ c, op.op ≠ .defer c) {R : Value → World → Prop} (h : gives P op a w R)
    (hK : ∀ v w', R v w' → wpListIn (Fence.wide.inRound l) m P ops Q rest (a.put op.dst v) w') : wpListIn (Fence.wide.inRound l) m P ops Q (op :: rest) a w :=
  wpListIn_step fun K hKK => by
    rw [if_pos hw]
    exact wpIn_of_wp (K := K) l m hnd (h.wp rfl (fun v w' hr => hKK _ _ (hK v w' hr))) (fun _ _ h => h)
end

theorem below_low5 {B B' : Nat} {a b : World} (h : Below B a b) (hB : B' ≤ B) : Below B' a b := ⟨h.os, h.tape, h.output, h.size, fun k hk => h.block k (by omega)⟩

theorem grOfGrade_any (v0 v1 v2 v3 : Value) (h0 : v0.oneCell' = true) (gr : Int) (w : World) : Calls Try.prog 39 #[.agg #[v0, v1, v2, v3], .int .i64 gr] w fun e w' =>
    e = .returned (.func (.func 62) #[] #[.pointer (some ⟨w.heap.size, 0, none⟩), .pointer (some ⟨w.heap.size + 1, 0, none⟩)]) ∧
      w' = (w.alloc (.cells #[v0, v1, v2, v3] 55)).alloc (.cells #[.int .i64 gr] 3) := by
  clear h0
  go_enter Try.func39, Try.ntmps39
  go_wp2
  go_ret
  exact ⟨rfl, rfl⟩

/-- One operation of a region turns memory. -/
structure OnceC (w1 : World) (kk : Nat) (PP : World → Prop) (D : Nat → Bool) (σ : Nat → Value) (W : World) : Prop where
  pre : D kk = false → Below w1.heap.size w1 W
  post : D kk = true → PP W
def onceK (kk k : Nat) : Bool := !(k == kk)
section
variable {w1 W W' : World} {kk : Nat} {PP : World → Prop} {D : Nat → Bool} {σ σ' : Nat → Value}
theorem OnceC.move {k : Nat} (h : OnceC w1 kk PP D σ W) (hk : onceK kk k = true) : OnceC w1 kk PP (done D k) σ' W := by
  simp only [onceK, Bool.not_eq_true', beq_eq_false_iff_ne, ne_eq] at hk
  have e := done_ne (D := D) (k := k) (j := kk) (by omega)
  exact ⟨by rw [e]; exact h.pre, by rw [e]; exact h.post⟩
theorem OnceC.next {k : Nat} (h : OnceC w1 kk PP D σ W) (h0 : D kk = false) (hg : Grows W W') (hk : onceK kk k = true) : OnceC w1 kk PP (done D k) σ' W' := by
  simp only [onceK, Bool.not_eq_true', beq_eq_false_iff_ne, ne_eq] at hk
  have e := done_ne (D := D) (k := k) (j := kk) (by omega)
  exact ⟨fun _ => (h.pre h0).trans (hg.mono (h.pre h0).size), fun e' => by rw [e, h0] at e'; cases e'⟩
theorem OnceC.fire (hp : PP W') : OnceC w1 kk PP (done D kk) σ' W' := ⟨(fun e => by rw [done_me] at e; cases e), fun _ => hp⟩
end

/-- What lies where stresses are told. -/
structure SsC (w : World) (V : Array Value) (A2 : Option Addr) (n2 c2 : Nat) (al : Bool) (ds : List Deferred) (hi n : Nat) (F : Int → Nat → Int × Int) (W : World) : Prop where
  bel : Below w.heap.size w W
  b2 : W.heap[w.heap.size]? = some (.cells V 55 (0, 0))
  b3 : W.heap[w.heap.size + 1]? = some (.cells #[.slice A2 n2 c2] 23 (0, 0))
  b4 : W.heap[w.heap.size + 1 + 1]? = some (.cells [Value.map (some (w.heap.size + 1 + 1 + 1 + 1))].toArray 65 (0, 0))
  b5 : W.heap[w.heap.size + 1 + 1 + 1]? = some (.cells [Value.bool al].toArray 4 (0, 0))
  map : OwnF W (w.heap.size + 1 + 1 + 1 + 1) n F
  coll : Coll (w.heap.size + 5) hi ds W
  hiw : w.heap.size + 5 ≤ hi ∧ hi ≤ W.heap.size
section
variable {w W W' : World} {V : Array Value} {A2 : Option Addr} {n2 c2 : Nat} {al al' : Bool} {ds : List Deferred} {hi n : Nat} {F F' : Int → Nat → Int × Int}
theorem SsC.below (h : SsC w V A2 n2 c2 al ds hi n F W) {b : Nat} (hb : Below b W W') (hh : hi ≤ b) : SsC w V A2 n2 c2 al ds hi n F W' := by
  have h1 := h.hiw
  exact ⟨h.bel.trans (below_low5 hb (by omega)), (hb.block _ (by omega)).trans h.b2, (hb.block _ (by omega)).trans h.b3, (hb.block _ (by omega)).trans h.b4, (hb.block _ (by omega)).trans h.b5, h.map.block (hb.block _ (by omega)), h.coll.same (fun k _ hk _ => hb.block k (by omega)), h1.1, Nat.le_trans h1.2 hb.size⟩
theorem SsC.grows (h : SsC w V A2 n2 c2 al ds hi n F W) (hb : Grows W W') : SsC w V A2 n2 c2 al ds hi n F W' := h.below hb h.hiw.2
theorem SsC.put (h : SsC w V A2 n2 c2 al ds hi n F W) {b : Nat} (hP : Put W W' b) (hb : w.heap.size + 5 ≤ b) {cs : Array Value} {t : TypeId} {fr : Nat × Nat} (hc : W.heap[b]? = some (.cells cs t fr)) : SsC w V A2 n2 c2 al ds hi n F W' := by
  have h1 := h.hiw
  refine ⟨h.bel.trans (hP.below (by omega)), (hP.other _ (by omega)).trans h.b2, (hP.other _ (by omega)).trans h.b3, (hP.other _ (by omega)).trans h.b4, (hP.other _ (by omega)).trans h.b5, h.map.block (hP.other _ (by omega)), h.coll.same (fun k _ _ hk => hP.other k (fun e => ?_)), h1.1, by rw [hP.size]; exact h1.2⟩
  obtain ⟨ds', hd⟩ := hk
  rw [e, hc] at hd
  cases hd
theorem SsC.put5 (h : SsC w V A2 n2 c2 al ds hi n F W) (hP : Put W W' (w.heap.size + 1 + 1 + 1)) (hc : W'.heap[w.heap.size + 1 + 1 + 1]? = some (.cells [Value.bool al'].toArray 4 (0, 0))) : SsC w V A2 n2 c2 al' ds hi n F W' := by
  have h1 := h.hiw
  exact ⟨h.bel.trans (hP.below (by omega)), (hP.other _ (by omega)).trans h.b2, (hP.other _ (by omega)).trans h.b3, (hP.other _ (by omega)).trans h.b4, hc, h.map.block (hP.other _ (by omega)), h.coll.same (fun k hk _ _ => hP.other k (by omega)), h1.1, by rw [hP.size]; exact h1.2⟩
theorem SsC.put4 (h : SsC w V A2 n2 c2 al ds hi n F W) (hP : Put W W' (w.heap.size + 1 + 1)) (hc : W'.heap[w.heap.size + 1 + 1]? = some (.cells [Value.map (some (w.heap.size + 1 + 1 + 1 + 1))].toArray 65 (0, 0))) : SsC w V A2 n2 c2 al ds hi n F W' := by
  have h1 := h.hiw
  exact ⟨h.bel.trans (hP.below (by omega)), (hP.other _ (by omega)).trans h.b2, (hP.other _ (by omega)).trans h.b3, hc, (hP.other _ (by omega)).trans h.b5, h.map.block (hP.other _ (by omega)), h.coll.same (fun k hk _ _ => hP.other k (by omega)), h1.1, by rw [hP.size]; exact h1.2⟩
theorem SsC.keep (h : SsC w V A2 n2 c2 al ds hi n F W) {m : Nat} (hg : W.grownBy W' (some (w.heap.size + 1 + 1 + 1 + 1))) (hO : OwnF W' (w.heap.size + 1 + 1 + 1 + 1) m F') : SsC w V A2 n2 c2 al ds hi m F' W' := by
  have h1 := h.hiw
  exact ⟨h.bel.grown hg h.bel.size (fun g e => by cases e; omega), (hg.block _ (by omega) (by simp; try omega)).trans h.b2, (hg.block _ (by omega) (by simp; try omega)).trans h.b3, (hg.block _ (by omega) (by simp; try omega)).trans h.b4, (hg.block _ (by omega) (by simp)).trans h.b5, hO,
    h.coll.same (fun k hk hk2 _ => hg.block k (by omega) (by simp; omega)), h1.1, Nat.le_trans h1.2 hg.size⟩
theorem SsC.push (h : SsC w V A2 n2 c2 al ds hi n F W) {D : Nat} (hD : hi ≤ D) (hw : W.heap[D]? = some (.deferred (some []))) : SsC w V A2 n2 c2 al ({ target := .collected D, args := #[] } :: ds) (D + 1) n F W :=
  ⟨h.bel, h.b2, h.b3, h.b4, h.b5, h.map, h.coll.push (by have := h.hiw; omega) hD hw, by have := h.hiw; omega, lt_of_heap hw⟩
theorem SsC.up (h : SsC w V A2 n2 c2 al ds hi n F W) {hi' m : Nat} (hh : hi ≤ hi') (hw : hi' ≤ W.heap.size) (hm : n ≤ m) : SsC w V A2 n2 c2 al ds hi' m F W :=
  ⟨h.bel, h.b2, h.b3, h.b4, h.b5, h.map.mono hm, h.coll.hi hh, by have := h.hiw; omega, hw⟩
end
theorem keepsX_grown {X : Nat → Prop} {W W' : World} {b : Nat} (hg : W.grownBy W' (some b)) (hb : X b) : KeepsX X W W' := ⟨hg.size, fun j hj hx => hg.block j hj (fun e => by simp only [Option.some.injEq] at e; subst e; exact hx hb)⟩
theorem keepsX_grows {X : Nat → Prop} {W W' : World} (hg : Grows W W') : KeepsX X W W' := ⟨hg.size, fun j hj _ => hg.block j hj⟩

end Go.Proofs.Ytboffligjgjgjaa
