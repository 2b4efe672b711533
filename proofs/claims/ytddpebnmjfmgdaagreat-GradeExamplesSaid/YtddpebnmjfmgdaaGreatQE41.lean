/-
  Sheets and gradings that come in, opened.
-/
import Derived.Deep.Slices
import Derived.OpenShut
import Derived.Carry
import Derived.Test.YtddpebnmjfmgdaaGreatQE2
import Derived.Test.YtddpebnmjfmgdaaGreatQE25
set_option linter.all false
namespace Go.Proofs.YtddpebnmjfmgdaaGreat
open Go.ChangeShapes Go.WideShapes Go.ChangeAt Go.RowKit Go.Deep

theorem Tryz.own5 : ownKnob Tryz.prog.godebug = none := by kernel_rfl
section
variable {H : Type} {enc : TypeId × Value → H} {P : Program} {w : World} {base : Nat} {spare : Nat → Bool} {held : Bool}
end

section
variable {H : Type} {enc : TypeId × Value → H} {w : World} {base : Nat} {spare : Nat → Bool} {held : Bool}
instance : Inhabited Pol := ⟨⟨0, 0, 0, 0, 0, 0, 0, 0, 0, 0, 0, 0⟩⟩
instance : Inhabited Ts := ⟨⟨0, 0, 0, 0, false⟩⟩
instance : Inhabited Gd := ⟨⟨0, 0, 0, 0, 0, 0, 0, 0⟩⟩
end

end Go.Proofs.YtddpebnmjfmgdaaGreat
