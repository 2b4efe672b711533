/-
  Between which stresses a section of a pole is by its grade and its own tests (the reference's): classes, words.
-/
import Derived.BigGuardPart
import Derived.Test.YtddpebnmjfmgdaaGreatQE7
set_option linter.all false
namespace Go.Proofs.YtddpebnmjfmgdaaGreat
open Go.RowKit
open R6 (done done_ne done_me upd_ne upd_me)

attribute [local go_sem] gives

structure MkS (w1 : World) (ka ks sl : Nat) (ty : TypeId) (X Y : List Value) (D : Nat → Bool) (σ : Nat → Value) (W : World) : Prop where
  bel : Below w1.heap.size w1 W
  new : D ka = true → ∃ b, w1.heap.size ≤ b ∧ σ sl = .pointer (some ⟨b, 0, none⟩) ∧ W.heap[b]? = some (.cells (if D ks = true then Y else X).toArray ty (0, 0))
section
variable {w1 W W' : World} {ka ks sl : Nat} {ty : TypeId} {X Y : List Value} {D : Nat → Bool} {σ σ' : Nat → Value}
theorem MkS.start (hD : ∀ k, D k = false) : MkS w1 ka ks sl ty X Y D σ w1.drew := ⟨(Below.refl _ _).drew, fun h => by rw [hD] at h; cases h⟩
theorem MkS.next (h : MkS w1 ka ks sl ty X Y D σ W) (hg : Grows W W') : MkS w1 ka ks sl ty X Y D σ W' :=
  ⟨h.bel.trans (hg.mono h.bel.size), fun e => let ⟨b, h0, h1, h2⟩ := h.new e; ⟨b, h0, h1, (hg.block _ (lt_of_heap h2)).trans h2⟩⟩
theorem MkS.made {cs : Array Value} (h : MkS w1 ka ks sl ty X Y D σ W) (hne : (ka == ks) = false) (hs : D ks = false) (hc : cs = X.toArray) :
    MkS w1 ka ks sl ty X Y (done D ka) (R4.upd σ (some sl) (.pointer (some ⟨W.heap.size, 0, none⟩))) (W.alloc (.cells cs ty)) := by
  subst hc
  have h' := h.next (grow1 W (.cells X.toArray ty))
  have e2 := done_ne (D := D) (k := ka) (j := ks) (by simp at hne; omega)
  exact ⟨h'.bel, fun _ => ⟨_, h.bel.size, upd_me, by rw [e2, hs, if_neg (by decide)]; exact alloc_at0 _ _⟩⟩
theorem MkS.put {b : Nat} (h : MkS w1 ka ks sl ty X Y D σ W) (hne : (ka == ks) = false) (hb : w1.heap.size ≤ b) (hv : σ sl = .pointer (some ⟨b, 0, none⟩)) (hP : Put W W' b) (hM : W'.heap[b]? = some (.cells Y.toArray ty (0, 0))) :
    MkS w1 ka ks sl ty X Y (done D ks) σ W' := by
  have e1 := done_ne (D := D) (k := ks) (j := ka) (by simp at hne; omega)
  exact ⟨h.bel.trans (hP.below hb), fun _ => ⟨b, hb, hv, by rw [done_me, if_pos rfl]; exact hM⟩⟩
end

end Go.Proofs.YtddpebnmjfmgdaaGreat
