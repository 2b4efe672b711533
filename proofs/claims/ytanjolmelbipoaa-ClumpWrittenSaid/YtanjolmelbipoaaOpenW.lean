/-
  A list of ints as it comes in, opened, with the room behind it.
-/
import Derived.Test.YtanjolmelbipoaaZK
namespace Go.Proofs.Ytanjolmelbipoaa
open Go.ChangeShapes Go.WideShapes Go.ChangeAt Go.RowKit Go.Deep

section
variable {H : Type} {enc : TypeId × Value → H} {w : World} {base : Nat} {spare : Nat → Bool} {held : Bool}
set_option maxRecDepth 100000 in
theorem open_ints_arg2 {r : Reach} {b0 : Nat} {v : Value} {d : DataW H} {p : List MemPlace} (hv : Value.okWide Try.prog w r b0 26 v) (h : DataW.Trod enc Try.prog w base spare held 26 v d p) :
    ∃ (A : Option Addr) (zs : List Int) (cap : Nat), v = .slice A zs.length cap ∧ zs.length ≤ maxLen ∧ zs.length ≤ cap ∧ Ints w w.heap.size A zs := by
  obtain ⟨a, len, cap, rfl⟩ := okWide_slice Try.underlying26 hv
  obtain ⟨fuel, hf⟩ := h
  obtain ⟨A, zs, q, h1, h0, h2, h3⟩ := open_ints_raw hf
  exact ⟨A, zs, q, h1, h2, h0, h3⟩
end

end Go.Proofs.Ytanjolmelbipoaa
