/-
  When a core is reached: plain, and the map that tells it.
-/
import Derived.Maps.OwnIn
import Derived.Test.YtpnnlmaipcjkmaaGreatQV33
import Derived.Test.YtpnnlmaipcjkmaaGreatQV15
import Derived.Test.YtpnnlmaipcjkmaaGreatQV36
set_option linter.all false
namespace Go.Proofs.YtpnnlmaipcjkmaaGreat
open Go.RowKit Go.Shelf
open R6 (done done_ne done_me upd_ne upd_me)

attribute [local go_sem] gives

def cntFC (f : Nat → Option Nat) : Nat → Nat
  | 0 => 0
  | n + 1 => cntFC f n + if (f n).isSome = true then 1 else 0
structure MapIs (D : DataW Value) (n : Nat) (f : Nat → Option Nat) : Prop where
  has : ∀ x : Int, Maps.has D (.int .i64 x) = true ↔ ∃ p : Nat, x = p ∧ p < n ∧ (f p).isSome = true
  at_ : ∀ p k : Nat, p < n → f p = some k → ∀ z, D.atKey (.int .i64 p) z = .lit (.int .i64 k)
  size : Maps.size D = cntFC f n
end Go.Proofs.YtpnnlmaipcjkmaaGreat
