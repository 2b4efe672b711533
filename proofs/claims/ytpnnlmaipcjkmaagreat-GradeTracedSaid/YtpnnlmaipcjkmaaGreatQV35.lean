/-
  Which batches are valid: all together.
-/
import Derived.Test.YtpnnlmaipcjkmaaGreatQV31
set_option linter.all false
