/-
  Which sticks and members are valid.
-/
import Derived.Test.YtepkkhdfobhhjaaStB
namespace Go.Proofs.Ytepkkhdfobhhjaa
open Go.RowKit

def okPc (n g : Int) : Bool := allB 100 20000 [n] && allB 0 3 [g]
theorem validPiece_any (n g : Int) (w : World) : Calls Try.prog 74 #[.int .i64 n, .int .i64 g] w fun e w' => e = .returned (.bool (okPc n g)) ∧ Below w.heap.size w w' := by
  unfold okPc
  have HW := Lib.hid (fun W b hb => within_new 0 3 [g] W b 1 1 rfl hb (by simp))
  have HU := Lib.hid (fun W b hb => within_new 100 20000 [n] W b 1 1 rfl hb (by simp))
  generalize allB 0 3 [g] = u at HW ⊢
  cases hv : allB 100 20000 [n]
  all_goals
    rw [hv] at HU
    clear hv
    go_enter Try.func74, Try.ntmps74
    go_wp2_with (first
      | (go_at_call 38; (with_reducible show Calls _ _ #[.agg #[.int .i64 0, _], _] _ _); refine (HW.out _ _ (alloc_at0 _ _)).mono ?_; rintro e W3 ⟨rfl, hB3⟩; have H3 := Lib.hid ((H2.out.alloc H2.out.size _).trans (hB3.mono (H2.out.alloc H2.out.size _).size)); clear hB3)
      | (go_at_call 39; refine (upTo_any 3 _).mono ?_; rintro e W2 ⟨rfl, hB2⟩; have H2 := Lib.hid (H1.out.trans (hB2.mono H1.out.size)); clear hB2)
      | (go_at_call 38; (with_reducible show Calls _ _ #[.agg #[.int .i64 100, _], _] _ _); refine (HU.out _ _ (alloc_at0 _ _)).mono ?_; rintro e W1 ⟨rfl, hB1⟩; have H1 := Lib.hid ((grow1 w _).trans (hB1.mono (grow1 w _).size)); clear hB1))
  · go_ret
    exact ⟨rfl, H1.out⟩
  · go_ret
    exact ⟨rfl, H3.out⟩

theorem price1_any (n : Int) (w : World) : Calls Try.prog 60 #[.int .i64 n] w fun e w' => e = .returned (.bool (allB 0 1000000 [n])) ∧ Below w.heap.size w w' := by
  have HW := Lib.hid (fun W b hb => within_new 0 1000000 [n] W b 1 1 rfl hb (by simp))
  generalize allB 0 1000000 [n] = u at HW ⊢
  go_enter Try.func60, Try.ntmps60
  go_wp2_with (first
    | (go_at_call 38; refine (HW.out _ _ (alloc_at0 _ _)).mono ?_; rintro e W3 ⟨rfl, hB3⟩; have H3 := Lib.hid ((H2.out.alloc H2.out.size _).trans (hB3.mono (H2.out.alloc H2.out.size _).size)); clear hB3)
    | (go_at_call 39; refine (upTo_any 1000000 _).mono ?_; rintro e W2 ⟨rfl, hB2⟩; have H2 := Lib.hid hB2; clear hB2))
  go_ret
  exact ⟨rfl, H3.out⟩

end Go.Proofs.Ytepkkhdfobhhjaa
