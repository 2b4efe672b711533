/-
  The reference's hour.
-/
import Derived.Test.YtddpebnmjfmgdaaGreatQE33
import Derived.Test.YtddpebnmjfmgdaaGreatQE34
import Derived.Test.YtddpebnmjfmgdaaGreatQE25
set_option linter.all false
namespace Go.Proofs.YtddpebnmjfmgdaaGreat
open Go.RowKit Go.Shelf
open R6 (done done_ne done_me upd_ne upd_me)

attribute [local go_sem] gives

theorem allB_iff {lo hi n : Int} : allB lo hi [n] = true ↔ lo ≤ n ∧ n ≤ hi := by simp [allB, inR_iff]
theorem okPole_row {zs : List Int} (h : okPole zs = true) : okRow zs := by
  simp only [okPole, Bool.and_eq_true, allB_iff] at h
  obtain ⟨⟨h1, h2⟩, h3⟩ := h
  have hb : ∀ k, 0 ≤ atR zs k ∧ atR zs k ≤ 1000 := fun k => by
    by_cases hk : k < zs.length
    · have : zs[k] ∈ zs := List.getElem_mem hk
      have := (List.all_eq_true.1 h3) _ this
      rw [inR_iff] at this
      simp only [atR, List.getElem?_eq_getElem hk, Option.getD_some]
      exact this
    · rw [atR_out hk]; omega
  exact ⟨by omega, by omega, fun k => (hb k).1, fun k => by have := (hb k).2; omega⟩
theorem okBatch_good {t : Bt} {ws : List (List Int)} (h : okBatch t ws = true) : GoodS t.water (t.borax, ws) ∧ 1 ≤ t.lo ∧ t.lo ≤ t.hi ∧ t.hi ≤ 250 ∧ 1 ≤ ws.length ∧ 1 ≤ t.need ∧ t.need ≤ 1000 := by
  simp only [okBatch, okHead, Bool.and_eq_true, allB_iff, okS, decide_eq_true_eq] at h
  obtain ⟨⟨⟨⟨⟨h1, h2⟩, h3⟩, h4⟩, h5, h6⟩, h7⟩ := h
  have h6' : 1 ≤ t.lo ∧ t.hi ≤ 250 := by
    simp only [allB, List.all_cons, List.all_nil, Bool.and_true, Bool.and_eq_true, inR_iff] at h6
    omega
  refine ⟨⟨h1.1, h1.2, h2.1, ?_, ?_, fun r hr => okPole_row ((List.all_eq_true.1 h4) r hr)⟩, h6'.1, h5, h6'.2, by omega, h7.1, h7.2⟩
  · simp only
    have : t.borax / t.water < 10001 := by
      refine Int.ediv_lt_of_lt_mul (by omega) ?_
      have : 10001 * 10 ≤ 10001 * t.water := Int.mul_le_mul_of_nonneg_left h1.1 (by omega)
      omega
    omega
  · simp only; omega

section
variable {w W W' : World} {x : Nat} {V : List Value} {ws : List (List Int)} {kc tc : Nat} {D : Nat → Bool} {σ : Nat → Value}
end

end Go.Proofs.YtddpebnmjfmgdaaGreat

namespace Go.Proofs.YtddpebnmjfmgdaaGreat
open Go.RowKit Go.Shelf
open R6 (done done_ne done_me upd_ne upd_me)

attribute [local go_sem] gives

section
variable {ops : Array Oper} {rest : List Oper} {op : Oper} {a : Act} {w : World} {Q : Exit → Act → World → Prop}
end

structure RdC (w0 : World) (D : Nat → Bool) (σ : Nat → Value) (W : World) : Prop where
  bel : Below w0.heap.size w0 W
  sz : W.heap.size = w0.heap.size
theorem RdC.move {w0 W : World} {D D' : Nat → Bool} {σ σ' : Nat → Value} (h : RdC w0 D σ W) : RdC w0 D' σ' W := ⟨h.bel, h.sz⟩

end Go.Proofs.YtddpebnmjfmgdaaGreat
