/-
  Poles, tests and grades that are compared with themselves.
-/
import Derived.Test.YtboffligjgjgjaaGrE
import Derived.ChangeKeysEq
namespace Go.Proofs.Ytboffligjgjgjaa
open Go.RowKit

theorem part_int5 (w : World) (A : List Int) (i : Nat) (h : i < A.length) : (part 3 (ints A).toArray i).run Try.prog w = .ok (.int .i64 (A[i]?.getD 0)) w := by
  have e : (ints A).toArray[i]? = some (.int .i64 (A[i]?.getD 0)) := ints_at A i h
  unfold part
  simp only [isAgg, Sem.run_bind, run_underlying Try.underlying3, Result.andThen_ok, Sem.run_pure, e]
  rfl
theorem eqItems_self5 (w : World) (d : Nat) (A : List Int) : ∀ is : List Nat, (∀ i ∈ is, i < A.length) → (Op.eqItems (d + 1) 3 1 (ints A).toArray (ints A).toArray is).run Try.prog w = .ok true w
  | [], _ => by simp [Op.eqItems]
  | i :: is, h => by
    have h1 := h i (List.mem_cons_self ..)
    have ih := eqItems_self5 w d A is (fun x hx => h x (List.mem_cons_of_mem _ hx))
    have p1 := part_int5 w A i h1
    simp only [Op.eqItems, Nat.mul_one, Sem.run_bind, p1, run_equalIn_int w d 3 .i64 .i64 _ _ Try.underlying3, Result.andThen_ok, beq_self_eq_true, Bool.not_true, Bool.false_eq_true, if_false]
    exact ih
theorem infoInt5 : ∃ i, Try.prog.info? 3 = some i := by
  have h : (Try.prog.info? 3).map (·.size) = some 1 := by kernel_rfl
  cases hq : Try.prog.info? 3 with
  | none => rw [hq] at h; cases h
  | some i => exact ⟨i, rfl⟩
theorem infoSpanX5 : ∃ i, Try.prog.info? 38 = some i := by
  have h : (Try.prog.info? 38).map (·.size) = some 2 := by kernel_rfl
  cases hq : Try.prog.info? 38 with
  | none => rw [hq] at h; cases h
  | some i => exact ⟨i, rfl⟩
theorem cellsSpan5 : Try.prog.cellsOf 38 = 2 := by kernel_rfl
theorem cellsInt5 : Try.prog.cellsOf 3 = 1 := by kernel_rfl
theorem equal_three (w : World) (d : Nat) (a b c : Int) : (Op.equalIn (d + 2) 56 (.agg #[.int .i64 a, .int .i64 b, .int .i64 c]) (.agg #[.int .i64 a, .int .i64 b, .int .i64 c])).run Try.prog w = .ok true w := by
  obtain ⟨j, hj⟩ := infoInt5
  have := eqItems_self5 w d [a, b, c] (List.range 3) (fun i hi => by have := List.mem_range.1 hi; simpa using this)
  rw [run_equalIn_array w (d + 1) _ _ Try.underlying56 hj, cellsInt5]
  exact this
theorem stPole5 : Try.prog.underlying 58 = some (.struct (Try.prog.fieldsOf 58)) := by kernel_rfl
theorem heldPole5 : Try.prog.stoodInHeld 58 = false := by kernel_rfl
theorem guardPole5 : Try.prog.eqGuardType Try.prog.depth 58 = false := by kernel_rfl
theorem stTest5 : Try.prog.underlying 78 = some (.struct (Try.prog.fieldsOf 78)) := by kernel_rfl
theorem heldTest5 : Try.prog.stoodInHeld 78 = false := by kernel_rfl
theorem guardTest5 : Try.prog.eqGuardType Try.prog.depth 78 = false := by kernel_rfl
theorem stGrade5 : Try.prog.underlying 82 = some (.struct (Try.prog.fieldsOf 82)) := by kernel_rfl
theorem heldGrade5 : Try.prog.stoodInHeld 82 = false := by kernel_rfl
theorem guardGrade5 : Try.prog.eqGuardType Try.prog.depth 82 = false := by kernel_rfl
theorem stSpan5 : Try.prog.underlying 38 = some (.struct (Try.prog.fieldsOf 38)) := by kernel_rfl
theorem heldSpan5 : Try.prog.stoodInHeld 38 = false := by kernel_rfl
theorem guardSpan5 : Try.prog.eqGuardType Try.prog.depth 38 = false := by kernel_rfl

theorem neqTest5 (w : World) (t : Ts) : (binOp .neq 78 (.agg (tcl t).toArray) (.agg (tcl t).toArray)).run Try.prog w = .ok (.bool false) w := by
  unfold tcl
  rw [run_neq_struct, run_equalIn_agg _ _ _ _ _ stTest5 heldTest5]
  simp [Program.fieldsOf, Try.underlying78, Op.eqFields, go_sem]
theorem neqPole5 (w : World) (p : Pol) : (binOp .neq 58 (.agg (pcl p).toArray) (.agg (pcl p).toArray)).run Try.prog w = .ok (.bool false) w := by
  unfold pcl
  rw [run_neq_struct, run_equalIn_agg _ _ _ _ _ stPole5 heldPole5]
  have h3 : ∀ W a b c, (Op.equalIn 9999 56 (.agg #[.int .i64 a, .int .i64 b, .int .i64 c]) (.agg #[.int .i64 a, .int .i64 b, .int .i64 c])).run Try.prog W = .ok true W := fun W a b c => equal_three W 9997 a b c
  simp [Program.fieldsOf, Try.underlying58, Try.underlying56, Op.eqFields, go_sem, h3]
theorem eqlSpan5 (w : World) (s : Int × Int) : (binOp .eql 38 (.agg (sp2 s).toArray) (.agg (sp2 s).toArray)).run Try.prog w = .ok (.bool true) w := by
  unfold sp2
  rw [run_eql_struct, run_equalIn_agg _ _ _ _ _ stSpan5 heldSpan5]
  simp [Program.fieldsOf, Try.underlying38, Op.eqFields, go_sem]
theorem equal_span5 (w : World) (d : Nat) (a b : Int) : (Op.equalIn (d + 2) 38 (.agg #[.int .i64 a, .int .i64 b]) (.agg #[.int .i64 a, .int .i64 b])).run Try.prog w = .ok true w := by
  rw [run_equalIn_agg _ _ _ _ _ stSpan5 heldSpan5]
  simp [Program.fieldsOf, Try.underlying38, Op.eqFields, go_sem]
theorem part_span5 (w : World) (a b c d e f : Value) (i : Nat) (h : i < 3) : ∃ x y, (part 38 #[a, b, c, d, e, f] (i * 2)).run Try.prog w = .ok (.agg #[x, y]) w ∧ x ∈ [a, b, c, d, e, f] ∧ y ∈ [a, b, c, d, e, f] := by
  unfold part
  rcases (by omega : i = 0 ∨ i = 1 ∨ i = 2) with rfl | rfl | rfl
  · exact ⟨a, b, by simp [isAgg, run_underlying Try.underlying38, cellsSpan5], by simp, by simp⟩
  · exact ⟨c, d, by simp [isAgg, run_underlying Try.underlying38, cellsSpan5], by simp, by simp⟩
  · exact ⟨e, f, by simp [isAgg, run_underlying Try.underlying38, cellsSpan5], by simp, by simp⟩
theorem eqItems_spans5 (w : World) (d : Nat) (a b c e f g : Int) : ∀ is : List Nat, (∀ i ∈ is, i < 3) →
    (Op.eqItems (d + 2) 38 2 #[.int .i64 a, .int .i64 b, .int .i64 c, .int .i64 e, .int .i64 f, .int .i64 g] #[.int .i64 a, .int .i64 b, .int .i64 c, .int .i64 e, .int .i64 f, .int .i64 g] is).run Try.prog w = .ok true w
  | [], _ => by simp [Op.eqItems]
  | i :: is, h => by
    have h1 := h i (List.mem_cons_self ..)
    have ih := eqItems_spans5 w d a b c e f g is (fun x hx => h x (List.mem_cons_of_mem _ hx))
    obtain ⟨x, y, hp, hx, hy⟩ := part_span5 w (.int .i64 a) (.int .i64 b) (.int .i64 c) (.int .i64 e) (.int .i64 f) (.int .i64 g) i h1
    have int : ∀ v ∈ [Value.int .i64 a, .int .i64 b, .int .i64 c, .int .i64 e, .int .i64 f, .int .i64 g], ∃ m, v = Value.int .i64 m := by
      intro v hv
      simp only [List.mem_cons, List.not_mem_nil, or_false] at hv
      rcases hv with rfl | rfl | rfl | rfl | rfl | rfl <;> exact ⟨_, rfl⟩
    obtain ⟨m, rfl⟩ := int x hx
    obtain ⟨k, rfl⟩ := int y hy
    simp only [Op.eqItems, Sem.run_bind, hp, equal_span5, Result.andThen_ok, Bool.not_true, Bool.false_eq_true, if_false]
    exact ih
theorem equal_spans5 (w : World) (d : Nat) (a b c e f g : Int) : (Op.equalIn (d + 3) 69 (.agg #[.int .i64 a, .int .i64 b, .int .i64 c, .int .i64 e, .int .i64 f, .int .i64 g]) (.agg #[.int .i64 a, .int .i64 b, .int .i64 c, .int .i64 e, .int .i64 f, .int .i64 g])).run Try.prog w = .ok true w := by
  obtain ⟨j, hj⟩ := infoSpanX5
  have := eqItems_spans5 w d a b c e f g (List.range 3) (fun i hi => by simpa using hi)
  rw [run_equalIn_array w (d + 2) _ _ Try.underlying69 hj, cellsSpan5]
  exact this
theorem neqGrade5 (w : World) (g : Gd) : (binOp .neq 82 (.agg (gcl g).toArray) (.agg (gcl g).toArray)).run Try.prog w = .ok (.bool false) w := by
  unfold gcl
  rw [run_neq_struct, run_equalIn_agg _ _ _ _ _ stGrade5 heldGrade5]
  have h3 : ∀ W a b c e f g, (Op.equalIn 9999 69 (.agg #[.int .i64 a, .int .i64 b, .int .i64 c, .int .i64 e, .int .i64 f, .int .i64 g]) (.agg #[.int .i64 a, .int .i64 b, .int .i64 c, .int .i64 e, .int .i64 f, .int .i64 g])).run Try.prog W = .ok true W := fun W a b c e f g => equal_spans5 W 9996 a b c e f g
  simp [Program.fieldsOf, Try.underlying82, Op.eqFields, go_sem, h3]

end Go.Proofs.Ytboffligjgjgjaa
