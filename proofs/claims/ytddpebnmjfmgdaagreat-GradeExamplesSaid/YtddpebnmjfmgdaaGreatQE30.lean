/-
  Walls of two hours are compared.
-/
import Derived.ChangeKeysEq
import Derived.Test.YtddpebnmjfmgdaaGreatQE29
set_option linter.all false
namespace Go.Proofs.YtddpebnmjfmgdaaGreat
open Go.RowKit

theorem part_int (w : World) (A : List Int) (i : Nat) (h : i < A.length) : (part 3 (ints A).toArray i).run Tryz.prog w = .ok (.int .i64 (A[i]?.getD 0)) w := by
  have e : (ints A).toArray[i]? = some (.int .i64 (A[i]?.getD 0)) := ints_at A i h
  unfold part
  simp only [isAgg, Sem.run_bind, run_underlying Tryz.underlying3, Result.andThen_ok, Sem.run_pure, e]
  rfl
theorem sizeWall : ∃ i, Tryz.prog.info? 149 = some i ∧ i.size = 6 := by
  have h : (Tryz.prog.info? 149).map (·.size) = some 6 := by kernel_rfl
  cases hq : Tryz.prog.info? 149 with
  | none => rw [hq] at h; cases h
  | some i => rw [hq] at h; exact ⟨i, rfl, by simpa using h⟩
theorem sizeInt : ∃ i, Tryz.prog.info? 3 = some i := by
  have h : (Tryz.prog.info? 3).map (·.size) = some 1 := by kernel_rfl
  cases hq : Tryz.prog.info? 3 with
  | none => rw [hq] at h; cases h
  | some i => exact ⟨i, rfl⟩
theorem cellsInt : Tryz.prog.cellsOf 3 = 1 := by kernel_rfl
theorem cellsWall : Tryz.prog.cellsOf 149 = 6 := by kernel_rfl
def blk6 (A : List Int) (i : Nat) : List Int := (A.drop (i * 6)).take 6
theorem part_wall (w : World) (A : List Int) (i : Nat) : (part 149 (ints A).toArray (i * 6)).run Tryz.prog w = .ok (.agg (ints (blk6 A i)).toArray) w := by
  have e : List.take 6 (List.drop (i * 6) (ints A)) = ints (blk6 A i) := by simp [blk6, ints, List.map_drop, List.map_take]
  unfold part
  simp [isAgg, run_underlying Tryz.underlying149, e]

theorem eqItems_ints (w : World) (d : Nat) (A B : List Int) : ∀ is : List Nat, (∀ i ∈ is, i < A.length ∧ i < B.length) →
    (Op.eqItems (d + 1) 3 1 (ints A).toArray (ints B).toArray is).run Tryz.prog w = .ok (is.all fun i => A[i]?.getD 0 == B[i]?.getD 0) w
  | [], _ => by simp [Op.eqItems]
  | i :: is, h => by
    obtain ⟨h1, h2⟩ := h i (List.mem_cons_self ..)
    have ih := eqItems_ints w d A B is (fun x hx => h x (List.mem_cons_of_mem _ hx))
    have p1 := part_int w A i h1
    have p2 := part_int w B i h2
    simp only [Op.eqItems, Nat.mul_one, Sem.run_bind, p1, p2, run_equalIn_int w d 3 .i64 .i64 _ _ Tryz.underlying3, Result.andThen_ok]
    cases hq : (A[i]?.getD 0 == B[i]?.getD 0)
    · simp [hq]
    · simp only [Bool.not_true, Bool.false_eq_true, if_false, List.all_cons, hq, Bool.true_and]
      exact ih
theorem equal_wall (w : World) (d : Nat) (A B : List Int) (ha : A.length = 6) (hb : B.length = 6) :
    (Op.equalIn (d + 2) 149 (.agg (ints A).toArray) (.agg (ints B).toArray)).run Tryz.prog w = .ok (A == B) w := by
  obtain ⟨j, hj⟩ := sizeInt
  rw [run_equalIn_array w (d + 1) _ _ Tryz.underlying149 hj, cellsInt, eqItems_ints w d A B _ (fun i hi => by have := List.mem_range.1 hi; omega)]
  refine congrArg (fun b => Result.ok b w) ?_
  rw [Bool.eq_iff_iff]
  simp only [List.all_eq_true, List.mem_range, beq_iff_eq]
  constructor
  · intro h
    apply List.ext_getElem (by omega)
    intro i h1 h2
    have := h i (by omega)
    simpa [h1, h2] using this
  · rintro rfl i _
    rfl
theorem blk6_len {A : List Int} (h : A.length = 24) {i : Nat} (hi : i < 4) : (blk6 A i).length = 6 := by simp [blk6]; omega
theorem eqItems_walls (w : World) (d : Nat) (A B : List Int) (ha : A.length = 24) (hb : B.length = 24) : ∀ is : List Nat, (∀ i ∈ is, i < 4) →
    (Op.eqItems (d + 2) 149 6 (ints A).toArray (ints B).toArray is).run Tryz.prog w = .ok (is.all fun i => blk6 A i == blk6 B i) w
  | [], _ => by simp [Op.eqItems]
  | i :: is, h => by
    have h1 := h i (List.mem_cons_self ..)
    have ih := eqItems_walls w d A B ha hb is (fun x hx => h x (List.mem_cons_of_mem _ hx))
    simp only [Op.eqItems, Sem.run_bind, part_wall, equal_wall w d _ _ (blk6_len ha h1) (blk6_len hb h1), Result.andThen_ok]
    cases hq : (blk6 A i == blk6 B i)
    · simp [hq]
    · simp only [Bool.not_true, Bool.false_eq_true, if_false, List.all_cons, hq, Bool.true_and]
      exact ih
theorem eql_walls (w : World) (A B : List Int) (ha : A.length = 24) (hb : B.length = 24) :
    (binOp .eql 150 (.agg (ints A).toArray) (.agg (ints B).toArray)).run Tryz.prog w = .ok (.bool (A == B)) w := by
  obtain ⟨j, hj, hs⟩ := sizeWall
  rw [run_eql_struct, run_equalIn_array w 9999 _ _ Tryz.underlying150 hj, cellsWall, eqItems_walls w 9997 A B ha hb _ (fun i hi => by have := List.mem_range.1 hi; omega)]
  simp only [Result.andThen_ok]
  refine congrArg (fun b => Result.ok (Value.bool b) w) ?_
  rw [Bool.eq_iff_iff]
  simp only [List.all_eq_true, List.mem_range, beq_iff_eq]
  constructor
  · intro h
    apply List.ext_getElem (by omega)
    intro i h1 h2
    have := congrArg (fun l : List Int => l[i % 6]?) (h (i / 6) (by omega))
    simp only [blk6, List.getElem?_take, List.getElem?_drop, Nat.mod_lt i (show 0 < 6 by omega), if_true] at this
    rw [show i / 6 * 6 + i % 6 = i by omega] at this
    simpa [h1, h2] using this
  · rintro rfl i _
    rfl

end Go.Proofs.YtddpebnmjfmgdaaGreat
