/-
  OUR OWN: a class of drawn regions: blocks known whole, and slots of which something is known that stays so while memory grows.
-/
import Derived.Test.YthjpgpelbagceaaR8
set_option linter.all false
namespace Go.Proofs.Ythjpgpelbagceaa
open Go.RowKit
open R6 (done done_ne done_me upd_ne upd_me)

/-- What is known of a value stays so while memory grows. -/
def Stab (kp : Nat → Value → World → Prop) : Prop := ∀ c v W W', Grows W W' → kp c v W → kp c v W'
/-- A region whose operations tell things by slots (operation, slot, kind). -/
structure ResF (w0 : World) (K : List (Nat × Obj)) (kp : Nat → Value → World → Prop) (I : List (Nat × Nat × Nat)) (D : Nat → Bool) (σ : Nat → Value) (W : World) : Prop where
  bel : Below w0.heap.size w0 W
  keep : kpt K W
  res : ∀ f ∈ I, D f.1 = true → kp f.2.2 (σ f.2.1) W
def resF (I : List (Nat × Nat × Nat)) (k : Nat) (d : Option Nat) : Bool := I.all fun f => f.1 != k && d != some f.2.1
def madeF (I : List (Nat × Nat × Nat)) (k d c : Nat) : Bool := I.all fun f => (f.1 == k && f.2.1 == d && f.2.2 == c) || (f.1 != k && f.2.1 != d)
section
variable {w0 W W' : World} {K : List (Nat × Obj)} {kp : Nat → Value → World → Prop} {I : List (Nat × Nat × Nat)} {D : Nat → Bool} {σ : Nat → Value}
theorem ResF.next {k : Nat} {d : Option Nat} {v : Value} (h : ResF w0 K kp I D σ W) (hS : Stab kp) (hg : Grows W W') (hk : resF I k d = true) : ResF w0 K kp I (done D k) (R4.upd σ d v) W' := by
  refine ⟨h.bel.trans (hg.mono h.bel.size), kpt.next hg h.keep, fun f hf hd => ?_⟩
  have hf2 := List.all_eq_true.1 hk f hf
  simp only [Bool.and_eq_true, bne_iff_ne, ne_eq] at hf2
  rw [done_ne hf2.1] at hd
  rw [upd_ne hf2.2]
  exact hS _ _ _ _ hg (h.res f hf hd)
theorem ResF.move {k : Nat} {d : Option Nat} {v : Value} (h : ResF w0 K kp I D σ W) (hk : resF I k d = true) : ResF w0 K kp I (done D k) (R4.upd σ d v) W := by
  refine ⟨h.bel, h.keep, fun f hf hd => ?_⟩
  have hf2 := List.all_eq_true.1 hk f hf
  simp only [Bool.and_eq_true, bne_iff_ne, ne_eq] at hf2
  rw [done_ne hf2.1] at hd
  rw [upd_ne hf2.2]
  exact h.res f hf hd
theorem ResF.made {k d c : Nat} {v : Value} (h : ResF w0 K kp I D σ W) (hS : Stab kp) (hg : Grows W W') (hk : madeF I k d c = true) (hv : kp c v W') : ResF w0 K kp I (done D k) (R4.upd σ (some d) v) W' := by
  refine ⟨h.bel.trans (hg.mono h.bel.size), kpt.next hg h.keep, fun f hf hd => ?_⟩
  have hf2 := List.all_eq_true.1 hk f hf
  simp only [Bool.or_eq_true, Bool.and_eq_true, beq_iff_eq, bne_iff_ne, ne_eq] at hf2
  rcases hf2 with ⟨⟨_, h2⟩, h3⟩ | ⟨h1, h2⟩
  · rw [h2, h3, upd_me]; exact hv
  · rw [done_ne h1] at hd
    rw [upd_ne (fun e => h2 (Option.some.inj e).symm)]
    exact hS _ _ _ _ hg (h.res f hf hd)
theorem ResF.get (h : ResF w0 K kp I D σ W) {k d c : Nat} (hm : (k, d, c) ∈ I) (hd : D k = true) : kp c (σ d) W := h.res (k, d, c) hm hd
theorem ResF.start (hb : Below w0.heap.size w0 W) (hK : kpt K W) (hD : ∀ k, D k = false) : ResF w0 K kp I D σ W.drew := ⟨hb.drew, kpt.drew hK, fun f _ h => by rw [hD] at h; cases h⟩
end

end Go.Proofs.Ythjpgpelbagceaa
