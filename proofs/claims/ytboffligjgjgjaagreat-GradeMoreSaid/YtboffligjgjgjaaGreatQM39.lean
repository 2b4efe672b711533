/-
  Poles, tests and grades that are compared with themselves.
-/
import Derived.ChangeKeysEq
import Derived.Test.YtboffligjgjgjaaGreatQM4
set_option linter.all false
namespace Go.Proofs.YtboffligjgjgjaaGreat
open Go.RowKit

theorem stSpan5 : Tryz.prog.underlying 50 = some (.struct (Tryz.prog.fieldsOf 50)) := by kernel_rfl
theorem heldSpan5 : Tryz.prog.stoodInHeld 50 = false := by kernel_rfl
theorem guardSpan5 : Tryz.prog.eqGuardType Tryz.prog.depth 50 = false := by kernel_rfl

theorem eqlSpan5 (w : World) (s : Int × Int) : (binOp .eql 50 (.agg (sp2 s).toArray) (.agg (sp2 s).toArray)).run Tryz.prog w = .ok (.bool true) w := by
  unfold sp2
  rw [run_eql_struct, run_equalIn_agg _ _ _ _ _ stSpan5 heldSpan5]
  simp [Program.fieldsOf, Tryz.underlying50, Op.eqFields, go_sem]
end Go.Proofs.YtboffligjgjgjaaGreat
