/-
  bits.TrailingZeros8, bits.Mul, slices.Repeat.
-/
import Derived.Test.YthjpgpelbagceaaFuP
import Derived.Test.YthjpgpelbagceaaCdC
set_option linter.all false
namespace Go.Proofs.Ythjpgpelbagceaa
open Go.RowKit
open R6 (done done_ne done_me upd_ne upd_me)

attribute [local go_sem] gives

set_option maxRecDepth 100000 in
theorem tz8_run (n : Nat) (h : n < 256) (w : World) : Calls Try.prog 75 #[.int .u8 (n : Int)] w fun e w' => e = .returned (.int .i64 (tz8 n)) ∧ w = w' := by
  go_enter Try.func75, Try.ntmps75
  go_wp2
  go_ret
  refine ⟨congrArg (fun x => Ending.returned (Value.int .i64 x)) ?_, rfl⟩
  clear w
  obtain ⟨m, rfl⟩ : ∃ m : Fin 256, m.val = n := ⟨⟨n, h⟩, rfl⟩
  revert m
  decide +kernel

theorem mul64_small (n : Nat) (h : n ≤ 8) (w : World) : Calls Try.prog 96 #[.int .u64 1, .int .u64 (n : Int)] w fun e w' => e = .returned (.tuple #[.int .u64 0, .int .u64 (n : Int)]) ∧ w = w' := by
  have h9 : n = 0 ∨ n = 1 ∨ n = 2 ∨ n = 3 ∨ n = 4 ∨ n = 5 ∨ n = 6 ∨ n = 7 ∨ n = 8 := by omega
  rcases h9 with rfl | rfl | rfl | rfl | rfl | rfl | rfl | rfl | rfl
  all_goals
    go_enter Try.func96, Try.ntmps96
    go_wp2
    go_ret2
    exact ⟨rfl, rfl⟩
theorem mul_small (n : Nat) (h : n ≤ 8) (w : World) : Calls Try.prog 92 #[.int .u64 1, .int .u64 (n : Int)] w fun e w' => e = .returned (.tuple #[.int .u64 0, .int .u64 (n : Int)]) ∧ w = w' := by
  have HM := Lib.hid (mul64_small n h w)
  go_enter Try.func92, Try.ntmps92
  go_wp2_with (go_at_call 96; refine HM.out.mono ?_; rintro e w' ⟨rfl, rfl⟩)
  go_ret2
  exact ⟨rfl, rfl⟩

end Go.Proofs.Ythjpgpelbagceaa
