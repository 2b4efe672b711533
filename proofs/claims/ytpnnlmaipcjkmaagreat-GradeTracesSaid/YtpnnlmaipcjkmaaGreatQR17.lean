/-
  A sheet at work, and a pole of it (the program's).
-/
import Derived.Test.YtpnnlmaipcjkmaaGreatQR16
set_option linter.all false
namespace Go.Proofs.YtpnnlmaipcjkmaaGreat
open Go.RowKit
open R6 (done done_ne done_me upd_ne upd_me)

attribute [local go_sem] gives

section
variable {w0 W W' : World} {b6 b7 : Nat} {t6 t7 : TypeId} {X6 Y6 X7 Y7 : List Value} {K : List (Nat × Obj)} {k6 k7 : Nat} {D : Nat → Bool} {σ σ' : Nat → Value}
end
def z4 : List Value := [.slice none 0 0, .slice none 0 0, .slice none 0 0, .int .i64 0]
theorem rowGradingP : RowTy Tryz.prog 28 2 := ⟨⟨_, Tryz.underlying28, rfl⟩, by kernel_rfl⟩
theorem rowSheetP : RowTy Tryz.prog 25 2 := ⟨⟨_, Tryz.underlying25, rfl⟩, by kernel_rfl⟩

end Go.Proofs.YtpnnlmaipcjkmaaGreat
