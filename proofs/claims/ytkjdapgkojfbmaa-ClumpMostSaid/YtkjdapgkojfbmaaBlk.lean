/-
  Whole structs out of and into blocks, inside a fence; a call of yield: our own steps.
-/
import Derived.Test.YtkjdapgkojfbmaaIter
import Derived.Test.YtkjdapgkojfbmaaGroves
import Derived.Deep.MidRow
import Derived.OwnWalkIn
import Derived.KernelRfl
namespace Go.Proofs.Ytkjdapgkojfbmaa
open Go.RowKit

/-- All but block b is as it was. -/
structure Put (W W' : World) (b : Nat) : Prop where
  os : W'.os = W.os
  tape : W'.tape = W.tape
  output : W'.output = W.output
  size : W'.heap.size = W.heap.size
  other : ∀ k, k ≠ b → W'.heap[k]? = W.heap[k]?

theorem Put.below {W W' : World} {b B : Nat} (h : Put W W' b) (hb : B ≤ b) : Below B W W' := ⟨h.os, h.tape, h.output, Nat.le_of_eq h.size.symm, fun k hk => h.other k (by omega)⟩
theorem Put.keepsX {W W' : World} {b : Nat} (h : Put W W' b) (X : Nat → Prop) (hb : X b) : KeepsX X W W' := ⟨Nat.le_of_eq h.size.symm, fun k _ hx => h.other k (fun e => hx (by rw [e]; exact hb))⟩
theorem put_setRow (w : World) (b : Nat) (cs : Array Value) : Put w (w.setRow b cs) b := ⟨rfl, rfl, rfl, by simp, fun k hk => setRow_other w b k cs hk⟩

/-- A type of structs or arrays, of n cells. -/
def RowTy (P : Program) (ty : TypeId) (n : Nat) : Prop := (∃ d, P.underlying ty = some d ∧ d.isRow = true) ∧ (P.info? ty).map (·.size) = some n

section
variable {F : Fence} {n : Nat} {P : Program} {ops : Array Oper} {rest : List Oper} {op : Oper} {a : Act} {w : World} {Q : Exit → Act → World → Prop}

theorem run_load_blk {P : Program} {w : World} {ty : TypeId} {b o : Nat} {C : Array Value} {t : TypeId} {fr : Nat × Nat} (hb : w.heap[b]? = some (.cells C t fr))
    {cs : List Value} (hcs : ∀ j v, cs[j]? = some v → C[o + j]? = some v) (hty : RowTy P ty cs.length) :
    (Instr.loadAt ty (.pointer (some ⟨b, o, none⟩))).run P w = .ok (.agg cs.toArray) w := by
  obtain ⟨⟨d, hu, hd⟩, hi⟩ := hty
  exact run_loadAt_mid w b o ty cs d (fun j v hv => (cell_of_row w b (o + j) C t fr hb).trans (hcs j v hv)) hu hd hi

theorem wpListIn_load_blk (ty : TypeId) (x : Operand) (hgd : op.guard = none) (ho : op.op = .load ty x) {b o : Nat} (hx : a.eval x = .pointer (some ⟨b, o, none⟩))
    {C : Array Value} {t : TypeId} {fr : Nat × Nat} (hb : w.heap[b]? = some (.cells C t fr)) (cs : List Value) (hcs : ∀ j v, cs[j]? = some v → C[o + j]? = some v) (hty : RowTy P ty cs.length)
    (h : wpListIn F n P ops Q rest (a.put op.dst (.agg cs.toArray)) w) : wpListIn F n P ops Q (op :: rest) a w := by
  refine wpListIn_plain hgd fun K hK => ?_
  unfold Oper.wpIn
  refine ⟨by simp [Oper.about, ho], ?_⟩
  rw [Oper.semAt_plain F _ _ (by rw [ho]; intro c hc'; cases hc')]
  unfold execOp
  simp only [ho, hx, Sem.run_bind, run_load_blk hb hcs hty, Result.andThen_ok]
  exact hK _ _ h

theorem wpListIn_store_blk (ty : TypeId) (x y : Operand) (hgd : op.guard = none) (ho : op.op = .store ty x y) {b : Nat} (hx : a.eval x = .pointer (some ⟨b, 0, none⟩)) {cells : Array Value} (hy : a.eval y = .agg cells)
    {C : Array Value} {t : TypeId} (hb : w.heap[b]? = some (.cells C t (0, 0))) (hC : C.size = cells.size) (h1 : cells.all (·.oneCell') = true) (hty : RowTy P ty cells.size)
    (h : ∀ w', Put w w' b → w'.heap[b]? = some (.cells cells t (0, 0)) → wpListIn F n P ops Q rest (a.put op.dst undef) w') : wpListIn F n P ops Q (op :: rest) a w := by
  refine wpListIn_plain hgd fun K hK => ?_
  unfold Oper.wpIn
  refine ⟨by simp [Oper.about, ho], ?_⟩
  rw [Oper.semAt_plain F _ _ (by rw [ho]; intro c hc'; cases hc')]
  unfold execOp
  simp only [ho, hx, hy, Instr.storeAt, Instr.sureAddr, Sem.run_bind, Sem.run_pure, Result.andThen_ok, run_storeVar_row w b t ty C cells hb hty.2 hC h1]
  exact hK _ _ (h _ (put_setRow _ _ _) (setRow_heap _ _ _ _ _ _ hb))

theorem wpListIn_yield (f : Operand) (args : Array Operand) (ats : Array TypeId) (hgd : op.guard = none) (ho : op.op = .call { callee := .value f, args := args, argTypes := ats })
    (hF : ∀ f, F.fn f) (hn : 1 ≤ n) {l : Nat} (hf : a.eval f = .func (.yield l) #[] #[]) {vs : Array Value} (hvs : args.map a.eval = vs)
    {R : Ending → World → Prop} (hY : YieldAt F (n - 1) P l vs w R) (h : ∀ e w', R e w' → ∃ v, e = .returned v ∧ wpListIn F n P ops Q rest (a.put op.dst v) w') : wpListIn F n P ops Q (op :: rest) a w := by
  obtain ⟨fn, tmps, assign, body, hy, hR⟩ := hY
  refine wpListIn_plain hgd fun K hK => ?_
  unfold Oper.wpIn
  refine ⟨fun f _ => hF f, ?_⟩
  rw [Oper.semAt_plain F _ _ (by rw [ho]; intro c hc'; cases hc')]
  have hrun : (execOp a.eval op).run P w = .ok (.round l fn tmps assign body) w := by
    unfold execOp
    simp only [ho, resolve, hf, hvs, Deferred.ofValue, Sem.run_bind, Sem.run_pure, Result.andThen_ok]
    simp [invoke, hy]
  rw [hrun, Oper.uponIn_round]
  refine ⟨fun _ => hn, hR.mono ?_⟩
  intro e w' hr
  obtain ⟨v, rfl, hw⟩ := h e w' hr
  exact hK _ _ hw
end

theorem rowGrove : RowTy Try.prog 96 13 := ⟨⟨_, Try.underlying96, rfl⟩, by kernel_rfl⟩
theorem rowCulms : RowTy Try.prog 81 7 := ⟨⟨_, Try.underlying81, rfl⟩, by kernel_rfl⟩
theorem rowRecord : RowTy Try.prog 83 17 := ⟨⟨_, Try.underlying83, rfl⟩, by kernel_rfl⟩
theorem rowSeason : RowTy Try.prog 76 2 := ⟨⟨_, Try.underlying76, rfl⟩, by kernel_rfl⟩
theorem rowApiGrove : RowTy Try.prog 29 10 := ⟨⟨_, Try.underlying29, rfl⟩, by kernel_rfl⟩

end Go.Proofs.Ytkjdapgkojfbmaa
