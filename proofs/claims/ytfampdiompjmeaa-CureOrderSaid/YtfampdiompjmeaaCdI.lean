/-
  The reference's dryings and ponds.
-/
import Derived.Test.YtfampdiompjmeaaCdH
namespace Go.Proofs.Ytfampdiompjmeaa
open Go.RowKit

attribute [local go_sem] gives

theorem refWithin_any (n lo hi : Int) (w : World) :
    Calls Try.prog 61 #[.int .i64 n, .int .i64 lo, .int .i64 hi] w fun e w' => e = .returned (.bool (inR n lo hi)) ∧ w = w' := by
  by_cases h1 : lo ≤ n
  · by_cases h2 : n ≤ hi
    · have e : inR n lo hi = true := inR_iff.2 (by omega)
      rw [e]
      clear e
      go_enter Try.func61, Try.ntmps61
      go_wp2
      go_ret
      exact ⟨rfl, rfl⟩
    · have e : inR n lo hi = false := by rw [← Bool.not_eq_true, inR_iff]; omega
      rw [e]
      clear e
      go_enter Try.func61, Try.ntmps61
      go_wp2
      go_ret
      exact ⟨rfl, rfl⟩
  · have e : inR n lo hi = false := by rw [← Bool.not_eq_true, inR_iff]; omega
    rw [e]
    clear e
    go_enter Try.func61, Try.ntmps61
    go_wp2
    go_ret
    exact ⟨rfl, rfl⟩

theorem refSpanned_any (x y lo hi : Int) (w : World) :
    Calls Try.prog 64 #[.agg #[.int .i64 x, .int .i64 y], .int .i64 lo, .int .i64 hi] w fun e w' => e = .returned (.bool (okS x y lo hi)) ∧ Below w.heap.size w w' := by
  by_cases h1 : lo ≤ x
  · by_cases h2 : x ≤ y
    · by_cases h3 : y ≤ hi
      · have e : okS x y lo hi = true := okS_iff.2 (by omega)
        rw [e]
        clear e
        go_enter Try.func64, Try.ntmps64
        go_wp2
        go_ret
        exact ⟨rfl, (Below.refl _ _).alloc (Nat.le_refl _) _⟩
      · have e : okS x y lo hi = false := by rw [← Bool.not_eq_true, okS_iff]; omega
        rw [e]
        clear e
        go_enter Try.func64, Try.ntmps64
        go_wp2
        go_ret
        exact ⟨rfl, (Below.refl _ _).alloc (Nat.le_refl _) _⟩
    · have e : okS x y lo hi = false := by rw [← Bool.not_eq_true, okS_iff]; omega
      rw [e]
      clear e
      go_enter Try.func64, Try.ntmps64
      go_wp2
      go_ret
      exact ⟨rfl, (Below.refl _ _).alloc (Nat.le_refl _) _⟩
  · have e : okS x y lo hi = false := by rw [← Bool.not_eq_true, okS_iff]; omega
    rw [e]
    clear e
    go_enter Try.func64, Try.ntmps64
    go_wp2
    go_ret
    exact ⟨rfl, (Below.refl _ _).alloc (Nat.le_refl _) _⟩

theorem allB_one (lo hi n : Int) : allB lo hi [n] = inR n lo hi := by simp [allB]

theorem refDrying_any (d : Dr) (w : World) :
    Calls Try.prog 43 #[.agg (dcells d)] w fun e w' => e = .returned (.bool (okDr d)) ∧ Below w.heap.size w w' := by
  have h1 := fun W => refSpanned_any d.wl d.wh 0 1000 W
  have h2 := fun W => refSpanned_any d.ll d.lh 0 1000 W
  have h3 := fun W => refWithin_any d.most 0 1000 W
  unfold okDr dcells
  rw [allB_one]
  generalize inR d.most 0 1000 = v3 at h3
  generalize okS d.ll d.lh 0 1000 = v2 at h2
  generalize okS d.wl d.wh 0 1000 = v1 at h1
  have H := Lib.hid (And.intro h1 (And.intro h2 h3))
  clear h1 h2 h3
  cases v1 with
  | false =>
    go_enter Try.func43, Try.ntmps43
    go_wp2_with (go_at_call 64; refine (H.out.1 _).mono ?_; rintro e w1 ⟨rfl, hB1⟩; have H1 := Lib.hid hB1; clear hB1)
    go_ret
    exact ⟨rfl, ((Below.refl _ w).alloc (Nat.le_refl _) _).trans (H1.out.mono (by simp))⟩
  | true =>
    cases v2 with
    | false =>
      go_enter Try.func43, Try.ntmps43
      go_wp2_with (first
        | (go_at_call 64; refine (H.out.2.1 w1).mono ?_; rintro e w2 ⟨rfl, hB2⟩; have H2 := Lib.hid (H1.out.trans (hB2.mono H1.out.size)); clear hB2 hc1)
        | (go_at_call 64; refine (H.out.1 _).mono ?_; rintro e w1 ⟨rfl, hB1⟩
           have hc1 := box_cells rfl hB1
           have H1 := Lib.hid (((Below.refl _ w).alloc (Nat.le_refl _) _).trans (hB1.mono (by simp))); clear hB1))
      go_ret
      exact ⟨rfl, H2.out⟩
    | true =>
      go_enter Try.func43, Try.ntmps43
      go_wp2_with (first
        | (go_at_call 61; refine (H.out.2.2 w2).mono ?_; rintro e w3 ⟨rfl, rfl⟩)
        | (go_at_call 64; refine (H.out.2.1 w1).mono ?_; rintro e w2 ⟨rfl, hB2⟩
           have hc2 := fun i => (hB2.cell (p := ⟨w.heap.size, i, none⟩) hlt1).trans (hc1 i)
           have H2 := Lib.hid (H1.out.trans (hB2.mono H1.out.size)); clear hB2 hc1)
        | (go_at_call 64; refine (H.out.1 _).mono ?_; rintro e w1 ⟨rfl, hB1⟩
           have hs1 := hB1.size
           simp only [World.size_alloc] at hs1
           have hlt1 : w.heap.size < w1.heap.size := by omega
           have hc1 := box_cells rfl hB1
           have H1 := Lib.hid (((Below.refl _ w).alloc (Nat.le_refl _) _).trans (hB1.mono (by simp))); clear hB1))
      go_ret
      exact ⟨rfl, H2.out⟩

end Go.Proofs.Ytfampdiompjmeaa
