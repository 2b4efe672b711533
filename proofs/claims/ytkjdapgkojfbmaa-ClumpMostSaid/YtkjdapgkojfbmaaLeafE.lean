/-
  The program's validHabit.
-/
import Derived.Test.YtkjdapgkojfbmaaLeafD
import Derived.Test.YtkjdapgkojfbmaaRegs
namespace Go.Proofs.Ytkjdapgkojfbmaa
open Go.RowKit

attribute [local go_sem] gives

/-- The step of a walk through a region that only makes new memory. -/
abbrev Grows (W W' : World) : Prop := Below W.heap.size W W'
theorem Grows.refl (W : World) : Grows W W := Below.refl _ _

theorem below_next {B : Nat} {w W W' : World} (h : Below B w W) (hB : B ≤ w.heap.size) (hg : Grows W W') : Below B w W' := h.trans (hg.mono (Nat.le_trans hB h.size))

theorem chain5 (a b c d e : Bool) : a = false ∨ (a = true ∧ b = false) ∨ (a = true ∧ b = true ∧ c = false) ∨ (a = true ∧ b = true ∧ c = true ∧ d = false) ∨
    (a = true ∧ b = true ∧ c = true ∧ d = true ∧ e = false) ∨ (a = true ∧ b = true ∧ c = true ∧ d = true ∧ e = true) := by
  cases a <;> cases b <;> cases c <;> cases d <;> cases e <;> simp

def okHabP (h : Hab) : Bool := okSpan h.lo h.hi 1000 && allIn 1 6 [h.dies] && allIn 0 h.dies [h.bears] && allIn 1 h.dies [h.ripe] && allIn 0 200 [h.keep]
theorem okHabP_eq (h : Hab) : okHabP h = okHab h := by
  simp only [okHabP, okHab, okSpan, allIn, inR, List.all_cons, List.all_nil, Bool.and_true]
  rw [Bool.eq_iff_iff]
  simp only [Bool.and_eq_true, decide_eq_true_eq]
  omega

/-- A new slice of just these cells. -/
def NewSl (n : Nat) (cs : Array Value) (e : TypeId) : Fact := fun v W => ∃ g, v = .slice (some ⟨g, 0, none⟩) n n ∧ W.heap[g]? = some (.cells cs e (0, 0))
theorem NewSl.keep {n : Nat} {cs : Array Value} {e : TypeId} (v : Value) (W W' : World) (h : NewSl n cs e v W) (hg : Grows W W') : NewSl n cs e v W' := by
  obtain ⟨g, hv, hm⟩ := h
  exact ⟨g, hv, (hg.block g (Array.getElem?_eq_some_iff.1 hm).1).trans hm⟩

set_option maxRecDepth 100000 in
set_option maxHeartbeats 4000000 in
theorem validHabit_any (h : Hab) (w : World) :
    Calls Try.prog 61 #[hv h] w fun e w' => e = .returned (.bool (okHab h)) ∧ Below w.heap.size w w' := by
  rw [← okHabP_eq]
  unfold okHabP hv
  rcases chain5 (okSpan h.lo h.hi 1000) (allIn 1 6 [h.dies]) (allIn 0 h.dies [h.bears]) (allIn 1 h.dies [h.ripe]) (allIn 0 200 [h.keep]) with
    h1 | ⟨h1, h2⟩ | ⟨h1, h2, h3⟩ | ⟨h1, h2, h3, h4⟩ | ⟨h1, h2, h3, h4, h5⟩ | ⟨h1, h2, h3, h4, h5⟩
  all_goals
    go_enter Try.func61, Try.ntmps61
    go_wp2
    have hcell : ∀ W, Below (w.heap.size + 1) (w.alloc (.cells #[.int .i64 h.lo, .int .i64 h.hi, .int .i64 h.bears, .int .i64 h.ripe, .int .i64 h.dies, .int .i64 h.keep] 25)) W → ∀ i, W.cell? ⟨w.heap.size, i, none⟩ = _ :=
      fun W hW i => (hW.cell (p := ⟨w.heap.size, i, none⟩) (by simp)).trans (cell_of_row _ w.heap.size i _ _ _ (alloc_at0 w _))
    refine wp_walk (C := Below (w.heap.size + 1) (w.alloc (.cells #[.int .i64 h.lo, .int .i64 h.hi, .int .i64 h.bears, .int .i64 h.ripe, .int .i64 h.dies, .int .i64 h.keep] 25))) (S := Grows) 38 (by kernel_rfl) (by kernel_rfl) rfl Grows.refl (Below.refl _ _).drew ?_
    simp only []
    repeat (first
      | (refine WalkR.un (fun _ => rfl) ?_
         simp only [Act.put, List.setIfInBounds_toArray, List.set_cons_succ, List.set_cons_zero])
      | (refine' WalkR.det (fun _ => rfl) rfl (fun ρ W hW hH => ?_) ?_
         rotate_left
         · clear hH
           have hc := hcell W hW
           go_simp
           first
             | exact ⟨rfl, Grows.refl _⟩
             | exact ⟨rfl, Grows.refl _, hW⟩
             | (go_at_call 64; refine (validSpan_any _ _ _ _).mono ?_; rintro e W1 ⟨rfl, hB1⟩; rw [h1]; exact ⟨_, rfl, rfl, hB1, below_next hW (by simp) hB1⟩)
             | (go_at_call 63; refine (upTo_any _ _).mono ?_; rintro e W1 ⟨rfl, hB1⟩; exact ⟨_, rfl, rfl, hB1, below_next hW (by simp) hB1⟩)
         simp only [Act.put, List.setIfInBounds_toArray, List.set_cons_succ, List.set_cons_zero])
      | (refine' WalkR.det (fun _ => rfl) rfl (fun ρ W hW hH => ?_) ?_
         rotate_left
         · obtain ⟨g, hv, hgm⟩ := hH _ (.head _) (by dsimp only; decide +kernel)
           clear hH
           go_simp
           go_at_call 62
           first
             | (refine (within_any _ _ _ 1 [h.dies] _ _ (Nat.le_refl _) (ints_lit [h.dies] hgm rfl) (by simp)).mono ?_; rintro e W1 ⟨rfl, hB1⟩; rw [h2]; exact ⟨_, rfl, rfl, hB1, below_next hW (by simp) hB1⟩)
             | (refine (within_any _ _ _ 1 [h.bears] _ _ (Nat.le_refl _) (ints_lit [h.bears] hgm rfl) (by simp)).mono ?_; rintro e W1 ⟨rfl, hB1⟩; rw [h3]; exact ⟨_, rfl, rfl, hB1, below_next hW (by simp) hB1⟩)
             | (refine (within_any _ _ _ 1 [h.ripe] _ _ (Nat.le_refl _) (ints_lit [h.ripe] hgm rfl) (by simp)).mono ?_; rintro e W1 ⟨rfl, hB1⟩; rw [h4]; exact ⟨_, rfl, rfl, hB1, below_next hW (by simp) hB1⟩)
             | (refine (within_any _ _ _ 1 [h.keep] _ _ (Nat.le_refl _) (ints_lit [h.keep] hgm rfl) (by simp)).mono ?_; rintro e W1 ⟨rfl, hB1⟩; rw [h5]; exact ⟨_, rfl, rfl, hB1, below_next hW (by simp) hB1⟩)
         simp only [Act.put, List.setIfInBounds_toArray, List.set_cons_succ, List.set_cons_zero])
      | (refine' WalkR.nd (NewSl _ _ _) (fun _ => rfl) rfl rfl (fun v W W' hv hg _ => hv.keep v W W' hg) (fun ρ W hW hH => ?_) ?_
         rotate_left
         rotate_left
         rotate_left
         · clear hH
           go_simp
           exact ⟨⟨_, rfl, alloc_at0 _ _⟩, (Below.refl _ _).alloc (Nat.le_refl _) _, hW.alloc (by have := hW.size; simp at this; omega) _⟩
         simp only [Act.put, List.setIfInBounds_toArray, List.set_cons_succ, List.set_cons_zero]))
    refine WalkR.nil (fun ρ W hW hH => ?_)
    clear hH
    go_wp2
    go_ret
    exact ⟨by simp [*], ((Below.refl _ _).alloc (Nat.le_refl _) _).trans (hW.mono (by simp))⟩

end Go.Proofs.Ytkjdapgkojfbmaa
