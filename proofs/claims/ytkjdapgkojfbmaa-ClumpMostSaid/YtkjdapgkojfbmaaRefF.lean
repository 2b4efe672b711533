/-
  The reference's Grove: the walk.
-/
import Derived.Test.YtkjdapgkojfbmaaRefE
import Derived.Deep.DeepCutAuto
namespace Go.Proofs.Ytkjdapgkojfbmaa
open Go.RowKit

theorem chainPre (g : Gr) : (inR g.id 0 9999 = false) ∨ (inR g.id 0 9999 = true ∧ okHab g.hab = false) ∨ (inR g.id 0 9999 = true ∧ okHab g.hab = true ∧ inR g.first 0 3000 = false) ∨
    (inR g.id 0 9999 = true ∧ okHab g.hab = true ∧ inR g.first 0 3000 = true ∧ (g.start.length : Int) < g.hab.dies + 1) ∨
    (inR g.id 0 9999 = true ∧ okHab g.hab = true ∧ inR g.first 0 3000 = true ∧ g.hab.dies + 1 < (g.start.length : Int)) ∨
    (inR g.id 0 9999 = true ∧ okHab g.hab = true ∧ inR g.first 0 3000 = true ∧ (g.start.length : Int) ≤ g.hab.dies + 1 ∧ g.hab.dies + 1 ≤ (g.start.length : Int) ∧ 60 < g.seas.length) ∨
    (inR g.id 0 9999 = true ∧ okHab g.hab = true ∧ inR g.first 0 3000 = true ∧ (g.start.length : Int) ≤ g.hab.dies + 1 ∧ g.hab.dies + 1 ≤ (g.start.length : Int) ∧ g.seas.length ≤ 60 ∧ 3000 < g.first + g.seas.length) ∨
    (inR g.id 0 9999 = true ∧ okHab g.hab = true ∧ inR g.first 0 3000 = true ∧ (g.start.length : Int) ≤ g.hab.dies + 1 ∧ g.hab.dies + 1 ≤ (g.start.length : Int) ∧ g.seas.length ≤ 60 ∧ g.first + g.seas.length ≤ 3000) := by
  cases inR g.id 0 9999 <;> cases okHab g.hab <;> cases inR g.first 0 3000 <;> simp
  omega

set_option maxHeartbeats 4000000 in
theorem refGrove_pre (g : Gr) (A1 : Option Addr) (c1 : Nat) (A2 : Option Addr) (c2 : Nat) (B : Nat) (w : World) (hG : GrAt w B g A1 c1 A2 c2) (hp : okPre g = false) :
    Calls Try.prog 39 #[grv g A1 c1 A2 c2] w fun e w' => e = .returned (.bool false) ∧ Below w.heap.size w w' := by
  have hl1 := hG.len1
  have hl2 := hG.len2
  clear hG
  have Hp := Lib.hid hp
  clear hp
  unfold grv
  rcases chainPre g with h1 | ⟨h1, h2⟩ | ⟨h1, h2, h3⟩ | ⟨h1, h2, h3, h4⟩ | ⟨h1, h2, h3, h4⟩ | ⟨h1, h2, h3, h4, h4', h5⟩ | ⟨h1, h2, h3, h4, h4', h5, h6⟩ | ⟨h1, h2, h3, h4, h4', h5, h6⟩
  case inr.inr.inr.inr.inr.inr.inr =>
    exfalso
    have := Hp.out
    simp [okPre, h1, h2, h3] at this
    omega
  all_goals
    try have k2 := (okHab_iff.1 h2).2.2.1
    try have k3 := inR_iff.1 h3
    go_enter Try.func39, Try.ntmps39
    go_wp2_with (first
      | (go_at_call 54; refine (refWithin_any _ _ _ _).mono ?_; rintro e w' ⟨rfl, rfl⟩)
      | (go_at_call 59; refine (refHabit_any g.hab _).mono ?_; rintro e w' ⟨rfl, hB⟩
         have cB := fun i => (hB.cell (p := ⟨w.heap.size, i, none⟩) (by simp)).trans (cell_of_row _ w.heap.size i _ _ _ (alloc_at0 w _))
         have HB := Lib.hid hB
         clear hB))
    go_ret
    first
      | exact ⟨rfl, (Below.refl _ _).alloc (Nat.le_refl _) _⟩
      | exact ⟨rfl, ((Below.refl _ _).alloc (Nat.le_refl _) _).trans (HB.out.mono (by simp))⟩

end Go.Proofs.Ytkjdapgkojfbmaa
