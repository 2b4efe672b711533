/-
  The reference's Run.
-/
import Derived.Test.YtddpebnmjfmgdaaGreatQE35
import Derived.Test.YtddpebnmjfmgdaaGreatQE25
set_option linter.all false
