/-
  Whether a grading is valid (the reference's).
-/
import Derived.BigGuardPart
import Derived.Outline
import Derived.Test.YtddpebnmjfmgdaaGreatQE21
import Derived.Test.YtddpebnmjfmgdaaGreatQE14
set_option linter.all false
