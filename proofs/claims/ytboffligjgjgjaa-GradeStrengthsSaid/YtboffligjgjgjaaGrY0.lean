/-
  Between which stresses a section of a pole is by its grade and its own tests (the reference's): classes, words.
-/
import Derived.Test.YtboffligjgjgjaaGrX
namespace Go.Proofs.Ytboffligjgjgjaa
open Go.RowKit
open R6 (done done_ne done_me upd_ne upd_me)

attribute [local go_sem] gives

/-- A region that makes one block and writes it. -/
structure MkS (w1 : World) (ka ks sl : Nat) (ty : TypeId) (X Y : List Value) (D : Nat → Bool) (σ : Nat → Value) (W : World) : Prop where
  bel : Below w1.heap.size w1 W
  new : D ka = true → ∃ b, w1.heap.size ≤ b ∧ σ sl = .pointer (some ⟨b, 0, none⟩) ∧ W.heap[b]? = some (.cells (if D ks = true then Y else X).toArray ty (0, 0))
def mkSK (ka ks sl k : Nat) (d : Option Nat) : Bool := !(k == ka || k == ks || d == some sl)
section
variable {w1 W W' : World} {ka ks sl : Nat} {ty : TypeId} {X Y : List Value} {D : Nat → Bool} {σ σ' : Nat → Value}
theorem MkS.start (hD : ∀ k, D k = false) : MkS w1 ka ks sl ty X Y D σ w1.drew := ⟨(Below.refl _ _).drew, fun h => by rw [hD] at h; cases h⟩
theorem MkS.move {k : Nat} {d : Option Nat} {v : Value} (h : MkS w1 ka ks sl ty X Y D σ W) (hk : mkSK ka ks sl k d = true) : MkS w1 ka ks sl ty X Y (done D k) (R4.upd σ d v) W := by
  simp only [mkSK, Bool.not_eq_true', Bool.or_eq_false_iff, beq_eq_false_iff_ne, ne_eq] at hk
  obtain ⟨⟨h1, h2⟩, h3⟩ := hk
  have e1 := done_ne (D := D) (k := k) (j := ka) (by omega)
  have e2 := done_ne (D := D) (k := k) (j := ks) (by omega)
  exact ⟨h.bel, by rw [e1, e2, upd_ne h3]; exact h.new⟩
theorem MkS.next (h : MkS w1 ka ks sl ty X Y D σ W) (hg : Grows W W') : MkS w1 ka ks sl ty X Y D σ W' :=
  ⟨h.bel.trans (hg.mono h.bel.size), fun e => let ⟨b, h0, h1, h2⟩ := h.new e; ⟨b, h0, h1, (hg.block _ (lt_of_heap h2)).trans h2⟩⟩
theorem MkS.made {cs : Array Value} (h : MkS w1 ka ks sl ty X Y D σ W) (hne : (ka == ks) = false) (hs : D ks = false) (hc : cs = X.toArray) :
    MkS w1 ka ks sl ty X Y (done D ka) (R4.upd σ (some sl) (.pointer (some ⟨W.heap.size, 0, none⟩))) (W.alloc (.cells cs ty)) := by
  subst hc
  have h' := h.next (grow1 W (.cells X.toArray ty))
  have e2 := done_ne (D := D) (k := ka) (j := ks) (by simp at hne; omega)
  exact ⟨h'.bel, fun _ => ⟨_, h.bel.size, upd_me, by rw [e2, hs, if_neg (by decide)]; exact alloc_at0 _ _⟩⟩
theorem MkS.put {b : Nat} (h : MkS w1 ka ks sl ty X Y D σ W) (hne : (ka == ks) = false) (hb : w1.heap.size ≤ b) (hv : σ sl = .pointer (some ⟨b, 0, none⟩)) (hP : Put W W' b) (hM : W'.heap[b]? = some (.cells Y.toArray ty (0, 0))) :
    MkS w1 ka ks sl ty X Y (done D ks) σ W' := by
  have e1 := done_ne (D := D) (k := ks) (j := ka) (by simp at hne; omega)
  exact ⟨h.bel.trans (hP.below hb), fun _ => ⟨b, hb, hv, by rw [done_me, if_pos rfl]; exact hM⟩⟩
end

theorem gcl_st0 (g : Gd) {k : Nat} (hk : k < 3) : ∀ j v, (sp2 (st0 g k))[j]? = some v → (gcl g)[2 + k * 2 + j]? = some v := by
  intro j v hv
  have hj : j < 2 := (List.getElem?_eq_some_iff.1 hv).1
  have h3 : k = 0 ∨ k = 1 ∨ k = 2 := by omega
  have h2 : j = 0 ∨ j = 1 := by omega
  rcases h3 with rfl | rfl | rfl <;> rcases h2 with rfl | rfl <;> exact hv
theorem own_step (p : Pol) (g : Gd) (ts : List Ts) (k m : Nat) (hm : m < ts.length) : own p g (ts.take (m + 1)) k = own1 p k (own p g (ts.take m) k) ts[m] := by
  unfold own
  rw [List.take_add_one, List.getElem?_eq_getElem hm, List.foldl_append]
  rfl
theorem rowGrading5 : RowTy Try.prog 28 2 := ⟨⟨_, Try.underlying28, rfl⟩, by kernel_rfl⟩
theorem rowSheet5 : RowTy Try.prog 25 2 := ⟨⟨_, Try.underlying25, rfl⟩, by kernel_rfl⟩

end Go.Proofs.Ytboffligjgjgjaa
