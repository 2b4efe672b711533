/-
  The law ClumpKept: where nothing is asked; what is known of a year of the book.
-/
import Derived.Test.YtanjolmelbipoaaKepN
import Derived.Test.YtanjolmelbipoaaZF
import Derived.Test.YtanjolmelbipoaaZL
import Derived.Deep.LoopGhost
namespace Go.Proofs.Ytanjolmelbipoaa
open Go.RowKit Go.Shelf

attribute [local go_sem] gives

theorem kept_vals {g : Gr} (hok : okGrove g = true) {k : Nat} (hk : k < g.seas.length) :
    (standVal g (g.first + k) = runL g.start (g.seas.take k) ∧ standErr g (g.first + k) = 0) ∧
    (standVal g (g.first + ((k : Int) + 1)) = yearL (runL g.start (g.seas.take k)) (g.seas[k]?.getD (0, 0)).1 (g.seas[k]?.getD (0, 0)).2 ∧ standErr g (g.first + ((k : Int) + 1)) = 0) ∧
    takenVal g (g.first + ((k : Int) + 1)) = takesTo (g.first + ((k : Int) + 1)) (goneL (runL g.start (g.seas.take k)) (g.seas[k]?.getD (0, 0)).1 (g.seas[k]?.getD (0, 0)).2) g.start.length := by
  have hy : ∀ j : Nat, j ≤ g.seas.length → hasY g (g.first + j) = true := fun j hj => by
    unfold hasY
    rw [inR_iff]
    omega
  have ht : ∀ j : Nat, (g.first + (j : Int) - g.first).toNat = j := fun j => by omega
  have h1 := hy k (by omega)
  have h2 := hy (k + 1) (by omega)
  have h3 := ht (k + 1)
  push_cast at h2 h3
  refine ⟨?_, ?_, ?_⟩
  · simp only [standVal, standErr, hok, h1, and_self, if_true, ht]
  · simp only [standVal, standErr, hok, h2, and_self, if_true, h3, runL_succ _ _ _ hk]
  · simp only [takenVal, hok, h2, and_self, if_true, h3, goneAt]

/-- A list of a known length, and no error. -/
def LenPost (w : World) (n : Nat) (xs : List Int) (e : Ending) (w' : World) : Prop := ∃ D q, e = .returned (.tuple #[.slice D n q, .int .i64 0]) ∧ Ints w' w'.heap.size D xs ∧ Below w.heap.size w w'
theorem LenPost.of {w w' : World} {xs : List Int} {e : Ending} {n : Nat} (h : ListPost w xs 0 e w') (hn : xs.length = n) : LenPost w n xs e w' := by
  obtain ⟨D, q, he, -, hI, -, hB⟩ := h
  exact ⟨D, q, by rw [he, hn], hI, hB⟩

set_option maxRecDepth 100000 in
set_option maxHeartbeats 4000000 in
theorem clumpKept_idle (g : Gr) (y : Int) (A1 : Option Addr) (c1 : Nat) (A2 : Option Addr) (c2 : Nat) (w : World) (hG : GrAt w w.heap.size g A1 c1 A2 c2)
    (h : great g = true ∨ okGrove g = false ∨ y ≤ g.first ∨ g.first + g.seas.length < y) :
    Calls Try.prog 9 #[grv g A1 c1 A2 c2, .int .i64 y] w fun e w' => e = .returned (.bool true) ∧ Below w.heap.size w w' := by
  have HG := Lib.hid hG
  obtain ⟨w0, hw0⟩ : ∃ w0, w.alloc (.cells (gcs g A1 c1 A2 c2) 29) = w0 := ⟨_, rfl⟩
  have hb0 : Below w.heap.size w w0 := by rw [← hw0]; exact (Below.refl _ _).alloc (Nat.le_refl _) _
  have hs0 : w0.heap.size = w.heap.size + 1 := by rw [← hw0]; simp
  have hm0 : w0.heap[w.heap.size]? = some (.cells (gcs g A1 c1 A2 c2) 29 (0, 0)) := by rw [← hw0]; exact alloc_at0 w _
  have B0 := Lib.hid (And.intro hb0 (And.intro hm0 hs0))
  clear hG hb0 hm0 hs0
  simp only [gcs] at hw0
  unfold grv
  have hcase : great g = true ∨ (great g = false ∧ errG g = 10) ∨ (great g = false ∧ errG g = 0 ∧ okGrove g = true ∧ (y ≤ g.first ∨ (g.first < y ∧ g.first + g.seas.length < y))) := by
    cases h1 : great g with
    | true => exact .inl rfl
    | false =>
      cases h2 : okGrove g with
      | false => exact .inr (.inl ⟨rfl, by simp [errG, h2]⟩)
      | true =>
        rw [h1, h2] at h
        refine .inr (.inr ⟨rfl, by simp [errG, h2], rfl, ?_⟩)
        rcases h with h | h | h | h
        · cases h
        · cases h
        · exact .inl h
        · by_cases e : y ≤ g.first
          · exact .inl e
          · exact .inr ⟨by omega, h⟩
  rcases hcase with hg | ⟨hg, he⟩ | ⟨hg, he, hok, hy⟩
  · have HR := Lib.hid hg
    clear h hg
    go_enter Try.func9, Try.ntmps9
    go_wp2_with (first
      | (go_at_call 28; refine (alive_any w0).mono ?_; rintro e w1 ⟨rfl, hB1⟩
         have hc1 := fun i => cell_of_row w1 w.heap.size i _ _ _ ((hB1.block _ (by have := B0.out.2.2; omega)).trans B0.out.2.1)
         have H1 := Lib.hid (B0.out.1.trans (hB1.mono (by have := B0.out.2.2; omega))); clear hB1)
      | (go_at_call 12; refine (refGreat_any g A1 c1 A2 c2 w1).mono ?_; rintro e w2 ⟨rfl, hB2⟩; rw [HR.out]
         have H2 := Lib.hid (H1.out.trans (hB2.mono H1.out.size)); clear hB2))
    go_ret
    exact ⟨rfl, H2.out⟩
  · have HR := Lib.hid (And.intro hg he)
    clear h hg he
    go_enter Try.func9, Try.ntmps9
    go_wp2_with (first
      | (go_at_call 28; refine (alive_any w0).mono ?_; rintro e w1 ⟨rfl, hB1⟩
         have hs1 : w.heap.size < w1.heap.size := by have := B0.out.2.2; have := hB1.size; omega
         have hc1 := fun i => cell_of_row w1 w.heap.size i _ _ _ ((hB1.block _ (by have := B0.out.2.2; omega)).trans B0.out.2.1)
         have H1 := Lib.hid (And.intro (B0.out.1.trans (hB1.mono (by have := B0.out.2.2; omega))) ((hB1.block _ (by have := B0.out.2.2; omega)).trans B0.out.2.1)); clear hB1)
      | (go_at_call 12; refine (refGreat_any g A1 c1 A2 c2 w1).mono ?_; rintro e w2 ⟨rfl, hB2⟩; rw [HR.out.1]
         have hc2 := fun i => cell_of_row w2 w.heap.size i _ _ _ ((hB2.block _ hs1).trans H1.out.2)
         have H2 := Lib.hid (H1.out.1.trans (hB2.mono H1.out.1.size)); clear hB2 hc1)
      | (go_at_call 19; refine (refCheck_any g A1 c1 A2 c2 w.heap.size w2 H2.out.size (HG.out.below H2.out)).mono ?_; rintro e w3 ⟨rfl, hB3⟩; rw [HR.out.2]
         have H3 := Lib.hid (H2.out.trans (hB3.mono H2.out.size)); clear hB3))
    go_ret
    exact ⟨rfl, H3.out⟩
  · obtain ⟨d, r, R⟩ := okGrove_runs hok
    have f0 := R.pre.f0
    have f1 := R.pre.f1
    have l60 := R.pre.l60
    have HR := Lib.hid (And.intro hg he)
    clear h hg he R hok
    rcases hy with hy | ⟨hy0, hy⟩
    all_goals
      go_enter Try.func9, Try.ntmps9
      go_wp2_with (first
        | (go_at_call 28; refine (alive_any w0).mono ?_; rintro e w1 ⟨rfl, hB1⟩
           have hs1 : w.heap.size < w1.heap.size := by have := B0.out.2.2; have := hB1.size; omega
           have hc1 := fun i => cell_of_row w1 w.heap.size i _ _ _ ((hB1.block _ (by have := B0.out.2.2; omega)).trans B0.out.2.1)
           have H1 := Lib.hid (And.intro (B0.out.1.trans (hB1.mono (by have := B0.out.2.2; omega))) ((hB1.block _ (by have := B0.out.2.2; omega)).trans B0.out.2.1)); clear hB1)
        | (go_at_call 12; refine (refGreat_any g A1 c1 A2 c2 w1).mono ?_; rintro e w2 ⟨rfl, hB2⟩; rw [HR.out.1]
           have hs2 : w.heap.size < w2.heap.size := by have := hB2.size; omega
           have hc2 := fun i => cell_of_row w2 w.heap.size i _ _ _ ((hB2.block _ hs1).trans H1.out.2)
           have H2 := Lib.hid (And.intro (H1.out.1.trans (hB2.mono H1.out.1.size)) ((hB2.block _ hs1).trans H1.out.2)); clear hB2 hc1)
        | (go_at_call 19; refine (refCheck_any g A1 c1 A2 c2 w.heap.size w2 H2.out.1.size (HG.out.below H2.out.1)).mono ?_; rintro e w3 ⟨rfl, hB3⟩; rw [HR.out.2]
           have hc3 := fun i => cell_of_row w3 w.heap.size i _ _ _ ((hB3.block _ hs2).trans H2.out.2)
           have H3 := Lib.hid (H2.out.1.trans (hB3.mono H2.out.1.size)); clear hB3 hc2))
      go_ret
      exact ⟨rfl, H3.out⟩

end Go.Proofs.Ytanjolmelbipoaa
