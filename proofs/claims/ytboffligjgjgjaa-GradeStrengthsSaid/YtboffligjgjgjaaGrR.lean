/-
  Classes for regions that draw their order: boxes that stay, and lists of numbers that the region makes.
-/
import Derived.Test.YtboffligjgjgjaaGrB
namespace Go.Proofs.Ytboffligjgjgjaa
open Go.RowKit
open R6 (done done_ne done_me upd_ne upd_me)

/-- Blocks that hold what they hold. -/
def keptK : List (Nat × Obj) → World → Prop
  | [], _ => True
  | e :: l, W => W.heap[e.1]? = some e.2 ∧ keptK l W
theorem keptK.next {W W' : World} (hg : Grows W W') : ∀ {K : List (Nat × Obj)}, keptK K W → keptK K W'
  | [], _ => trivial
  | _ :: _, h => ⟨(hg.block _ (lt_of_heap h.1)).trans h.1, keptK.next hg h.2⟩
theorem keptK.drew {W : World} : ∀ {K : List (Nat × Obj)}, keptK K W → keptK K W.drew
  | [], _ => trivial
  | _ :: _, h => ⟨h.1, keptK.drew h.2⟩

/-- Boxes that stay, and the lists of numbers that a region makes: (operation, slot); f: which numbers. -/
structure BoxM (w0 : World) (K : List (Nat × Obj)) (L : List (Nat × Nat)) (f : Nat → List Int) (D : Nat → Bool) (σ : Nat → Value) (W : World) : Prop where
  bel : Below w0.heap.size w0 W
  box : keptK K W
  new : ∀ e ∈ L, D e.1 = true → ∃ b, σ e.2 = .slice (some ⟨b, 0, none⟩) (f e.1).length (f e.1).length ∧ W.heap[b]? = some (.cells (ints (f e.1)).toArray 3 (0, 0))
def boxMK (L : List (Nat × Nat)) (k : Nat) (d : Option Nat) : Bool := L.all fun e => !(k == e.1 || d == some e.2)
def boxMM (L : List (Nat × Nat)) (k t : Nat) : Bool := L.all fun e => e == (k, t) || !(k == e.1 || t == e.2)
section
variable {w0 W W' : World} {K : List (Nat × Obj)} {L : List (Nat × Nat)} {f : Nat → List Int} {D : Nat → Bool} {σ : Nat → Value}
theorem BoxM.move {k : Nat} {d : Option Nat} {v : Value} (h : BoxM w0 K L f D σ W) (hk : boxMK L k d = true) : BoxM w0 K L f (done D k) (R4.upd σ d v) W := by
  refine ⟨h.bel, h.box, fun e he hD => ?_⟩
  have hk' := List.all_eq_true.1 hk e he
  simp only [Bool.not_eq_true', Bool.or_eq_false_iff, beq_eq_false_iff_ne, ne_eq] at hk'
  rw [done_ne (by omega)] at hD
  rw [upd_ne hk'.2]
  exact h.new e he hD
theorem BoxM.next (h : BoxM w0 K L f D σ W) (hg : Grows W W') : BoxM w0 K L f D σ W' :=
  ⟨h.bel.trans (hg.mono h.bel.size), h.box.next hg, fun e he hD => let ⟨b, h1, h2⟩ := h.new e he hD; ⟨b, h1, (hg.block _ (lt_of_heap h2)).trans h2⟩⟩
theorem BoxM.made {k t n : Nat} {cs : Array Value} (h : BoxM w0 K L f D σ W) (hk : boxMM L k t = true) (hc : cs = (ints (f k)).toArray) (hn : n = (f k).length) :
    BoxM w0 K L f (done D k) (R4.upd σ (some t) (.slice (some ⟨W.heap.size, 0, none⟩) n n)) (W.alloc (.cells cs 3)) := by
  subst hc hn
  have h' := h.next (grow1 W (.cells (ints (f k)).toArray 3))
  refine ⟨h'.bel, h'.box, fun e he hD => ?_⟩
  have hk' := List.all_eq_true.1 hk e he
  by_cases he2 : e = (k, t)
  · subst he2
    exact ⟨_, upd_me, alloc_at0 _ _⟩
  · simp only [Bool.or_eq_true, Bool.not_eq_true', Bool.or_eq_false_iff, beq_eq_false_iff_ne, ne_eq, beq_iff_eq, he2, false_or] at hk'
    rw [done_ne (by omega)] at hD
    rw [upd_ne (by simpa using hk'.2)]
    exact h'.new e he hD
theorem BoxM.start (hb : Below w0.heap.size w0 W) (hK : keptK K W) (hD : ∀ k, D k = false) : BoxM w0 K L f D σ W.drew :=
  ⟨hb.drew, hK.drew, fun e _ h => by rw [hD] at h; cases h⟩
end

/-- One operation waits for another one at once. -/
def edgeM (ops : Array Oper) (i j : Nat) : Bool := match ops[i]? with
  | none => false
  | some o => o.after.any fun e => Region.binds .any e && e.on == j
theorem needs_edgeM {ops : Array Oper} {i j : Nat} (h : edgeM ops i j = true) : R6.needsI ops ops.size i j = true := by
  unfold edgeM at h
  cases ho : ops[i]? with
  | none => rw [ho] at h; cases h
  | some o =>
    rw [ho] at h
    have hs : ops.size ≠ 0 := fun e => by
      have := (Array.getElem?_eq_some_iff.1 ho).1
      omega
    obtain ⟨f, hf⟩ := Nat.exists_eq_succ_of_ne_zero hs
    rw [hf]
    unfold R6.needsI
    simp only [ho]
    simp only [Array.any_eq_true] at h ⊢
    obtain ⟨x, hx, hb⟩ := h
    refine ⟨x, hx, ?_⟩
    simp only [Bool.and_eq_true] at hb ⊢
    exact ⟨hb.1, by simp [hb.2]⟩

end Go.Proofs.Ytboffligjgjgjaa
