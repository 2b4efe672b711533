/-
  What flows in an hour (the program's).
-/
import Derived.Test.YthjpgpelbagceaaCdE
import Derived.Test.YthjpgpelbagceaaCeB
set_option linter.all false
namespace Go.Proofs.Ythjpgpelbagceaa
open Go.RowKit
open R6 (done done_ne done_me upd_ne upd_me)

attribute [local go_sem] gives

section
variable {P : Program} {ops : Array Oper} {rest : List Oper} {op : Oper} {a : Act} {w : World} {Q : Exit → Act → World → Prop}
/-- One cell stored into a block. -/
theorem wpList_store_one (ty : TypeId) (x y : Operand) (hgd : op.guard = none) (ho : op.op = .store ty x y) (hd : op.dst = none) {b o : Nat} (hx : a.eval x = .pointer (some ⟨b, o, none⟩)) {z : Int} (hy : a.eval y = .int .i64 z)
    {L : List Value} {t : TypeId} (hb : w.heap[b]? = some (.cells L.toArray t (0, 0))) (hfit : o < L.length) (hty : (P.info? ty).map (·.size) = some 1)
    (h : ∀ w', Put w w' b → w'.heap[b]? = some (.cells (L.set o (.int .i64 z)).toArray t (0, 0)) → wpList P ops Q rest a w') : wpList P ops Q (op :: rest) a w := by
  refine wpList_plain hgd fun K hK => ?_
  have hrun := run_store_one (P := P) (v := .int .i64 z) hb hfit rfl rfl hty
  unfold Oper.wp execOp
  simp only [ho, hx, hy, Sem.run_bind, Sem.run_pure, hrun, Result.andThen_ok]
  refine hK _ _ ?_
  rw [hd]
  refine h _ (put_setCells b [.int .i64 z] o w) ?_
  have := heap_setCell_same w b o _ _ (.int .i64 z) hb
  rwa [List.setIfInBounds_toArray] at this
end

/-- A result that is handed back out of a block. -/
theorem results_cell {P : Program} {fn : Func} {tmps : Array Value} {w : World} {t b : Nat} {ty tt : TypeId} {cs : List Value} {fr : Nat × Nat} (hr : fn.results = #[.cell t ty]) (ht : tmps.getD t undef = .pointer (some ⟨b, 0, none⟩))
    (hb : w.heap[b]? = some (.cells cs.toArray tt fr)) (hty : RowTy P ty cs.length) : (results fn tmps).run P w = .ok (.agg cs.toArray) w := by
  obtain ⟨⟨d, hu, hd⟩, hi⟩ := hty
  have hl := run_loadVar_mid (P := P) w b 0 ty cs d (fun j v hv => by
    rw [Nat.zero_add, cell_of_row w b j _ _ _ hb, List.getElem?_toArray]; exact hv) hu hd hi
  rw [Array.getD_eq_getD_getElem?] at ht
  unfold results
  rw [hr]
  simp [ht, asAddr, hl]

/-- The cells of a batch at work. -/
def bv (t : Bt) (P : Value) (b : Int) (ws : List (List Int)) : List Value := [.int .i64 t.water, .int .i64 b, P, .int .i64 t.lo, .int .i64 t.hi, .int .i64 t.need] ++ ints (wallL ws)
theorem bv_len (t : Bt) (P : Value) (b : Int) (ws : List (List Int)) : (bv t P b ws).length = 30 := by simp [bv, ints, wallL_len]
theorem bv_at (t : Bt) (P : Value) (b : Int) (ws : List (List Int)) (p c : Nat) (hp : p < 4) (hc : c < 6) : (bv t P b ws)[6 + p * 6 + c]? = some (.int .i64 (atR (rowAt ws p) c)) := by
  unfold bv
  rw [List.getElem?_append_right (by simp; omega)]
  simp only [List.length_cons, List.length_nil, ints, List.getElem?_map]
  rw [show 6 + p * 6 + c - (0 + 1 + 1 + 1 + 1 + 1 + 1) = p * 6 + c by omega, wallL_at ws p c hp hc]
  rfl
theorem bv_one (t : Bt) (A : Option Addr) (n c : Nat) (b : Int) (ws : List (List Int)) : ∀ v ∈ bv t (.slice A n c) b ws, v.oneCell' = true := by
  intro v hv
  simp only [bv, List.mem_append, List.mem_cons, List.not_mem_nil, or_false] at hv
  rcases hv with (rfl | rfl | rfl | rfl | rfl | rfl) | hv
  all_goals first | rfl | exact oneCells_ints _ v hv
/-- What flows into each cell, as far as it is told. -/
def partL (s sp : Int) (r : List Int) (k : Nat) : List Int := (List.range 7).map fun i => if i < k then inFl s sp r i else 0
theorem partL_len (s sp : Int) (r : List Int) (k : Nat) : (partL s sp r k).length = 7 := by simp [partL]
theorem partL_set (s sp : Int) (r : List Int) (k : Nat) : (ints (partL s sp r k)).set k (.int .i64 (inFl s sp r k)) = ints (partL s sp r (k + 1)) := by
  unfold ints partL
  rw [List.map_map, List.map_map]
  apply List.ext_getElem (by simp)
  intro i h1 h2
  simp only [List.getElem_set, List.getElem_map, List.getElem_range, Function.comp_apply]
  by_cases e : k = i
  · subst e; simp
  · rw [if_neg e]
    by_cases h : i < k
    · rw [if_pos h, if_pos (by omega)]
    · rw [if_neg h, if_neg (by omega)]
theorem partL_end (s sp : Int) (r : List Int) (k : Nat) (h : r.length ≤ k) : partL s sp r k = (List.range 7).map (inFl s sp r) := by
  unfold partL
  apply List.map_congr_left
  intro i _
  by_cases hi : i < k
  · rw [if_pos hi]
  · rw [if_neg hi]; simp [inFl, show ¬ i < r.length by omega]

/-- What lies outside of a cell. -/
def outK (s : Int) (r : List Int) (k : Nat) : Int := if k = 0 then s else atR r (k - 1)

end Go.Proofs.Ythjpgpelbagceaa
