/-
  The reference's small functions of flutes.
-/
import Derived.Test.YthjpgpelbagceaaFuP
set_option linter.all false
namespace Go.Proofs.Ythjpgpelbagceaa
open Go.RowKit

theorem rfWithin_any (n lo hi : Int) (w : World) : Calls Try.prog 60 #[.int .i64 n, .int .i64 lo, .int .i64 hi] w fun e w' => e = .returned (.bool (inR n lo hi)) ∧ w = w' := by
  by_cases h1 : lo ≤ n
  · by_cases h2 : n ≤ hi
    · have e : inR n lo hi = true := inR_iff.2 ⟨h1, h2⟩
      rw [e]
      clear e
      go_enter Try.func60, Try.ntmps60
      go_wp2
      go_ret
      exact ⟨rfl, rfl⟩
    · have e : inR n lo hi = false := by simp [inR]; omega
      rw [e]
      clear e
      go_enter Try.func60, Try.ntmps60
      go_wp2
      go_ret
      exact ⟨rfl, rfl⟩
  · have e : inR n lo hi = false := by simp [inR]; omega
    rw [e]
    clear e
    go_enter Try.func60, Try.ntmps60
    go_wp2
    go_ret
    exact ⟨rfl, rfl⟩
theorem okS_false {a b lo hi : Int} (h : ¬ (lo ≤ a ∧ a ≤ b ∧ b ≤ hi)) : okS a b lo hi = false := by
  cases e : okS a b lo hi
  · rfl
  · exact absurd (okS_iff.1 e) h
theorem rfSpanned_any (a b lo hi : Int) (w : World) : Calls Try.prog 58 #[.agg #[.int .i64 a, .int .i64 b], .int .i64 lo, .int .i64 hi] w fun e w' => e = .returned (.bool (okS a b lo hi)) ∧ Below w.heap.size w w' := by
  by_cases h1 : lo ≤ a
  · by_cases h2 : a ≤ b
    · by_cases h3 : b ≤ hi
      · rw [okS_iff.2 ⟨h1, h2, h3⟩]
        go_enter Try.func58, Try.ntmps58
        go_wp2
        go_ret
        exact ⟨rfl, grow1 _ _⟩
      · rw [okS_false (by omega)]
        go_enter Try.func58, Try.ntmps58
        go_wp2
        go_ret
        exact ⟨rfl, grow1 _ _⟩
    · rw [okS_false (by omega)]
      go_enter Try.func58, Try.ntmps58
      go_wp2
      go_ret
      exact ⟨rfl, grow1 _ _⟩
  · rw [okS_false (by omega)]
    go_enter Try.func58, Try.ntmps58
    go_wp2
    go_ret
    exact ⟨rfl, grow1 _ _⟩
theorem rfNote_any (a b : Int) (w : World) : Calls Try.prog 33 #[.agg #[.int .i64 a, .int .i64 b]] w fun e w' => e = .returned (.bool (okS a b 1 10000000)) ∧ Below w.heap.size w w' := by
  have HW := Lib.hid (fun W => rfSpanned_any a b 1 10000000 W)
  generalize okS a b 1 10000000 = u at HW ⊢
  go_enter Try.func33, Try.ntmps33
  go_wp2_with (go_at_call 58; refine (HW.out _).mono ?_; rintro e W3 ⟨rfl, hB3⟩; have H3 := Lib.hid ((grow1 w _).trans (hB3.mono (grow1 w _).size)); clear hB3)
  go_ret
  exact ⟨rfl, H3.out⟩
/-- Whether a tone is a note. -/
def plaF (t o : Int × Int) : Int := if o.1 ≤ t.1 ∧ t.2 ≤ o.2 then 2 else if t.2 < o.1 ∨ o.2 < t.1 then 0 else 1
theorem plaF_two (t o : Int × Int) : (plaF t o == 2) = insB o t := by
  unfold plaF insB
  by_cases h : o.1 ≤ t.1 ∧ t.2 ≤ o.2
  · rw [if_pos h, decide_eq_true h.1, decide_eq_true h.2]; rfl
  · rw [if_neg h]
    have e : (decide (o.1 ≤ t.1) && decide (t.2 ≤ o.2)) = false := by
      cases e : (decide (o.1 ≤ t.1) && decide (t.2 ≤ o.2))
      · rfl
      · simp only [Bool.and_eq_true, decide_eq_true_eq] at e; exact absurd e h
    rw [e]
    split <;> rfl
theorem rfPlays_any (t0 t1 o0 o1 : Int) (w : World) : Calls Try.prog 53 #[.agg #[.int .i64 t0, .int .i64 t1], .agg #[.int .i64 o0, .int .i64 o1]] w fun e w' => e = .returned (.int .u8 (plaF (t0, t1) (o0, o1))) ∧ Below w.heap.size w w' := by
  have hp : plaF (t0, t1) (o0, o1) = if o0 ≤ t0 ∧ t1 ≤ o1 then 2 else if t1 < o0 ∨ o1 < t0 then 0 else 1 := rfl
  rw [hp]
  clear hp
  have hg : Below w.heap.size w ((w.alloc (.cells #[.int .i64 t0, .int .i64 t1] 25)).alloc (.cells #[.int .i64 o0, .int .i64 o1] 25)) := ((Below.refl _ _).alloc (Nat.le_refl _) _).alloc (by simp) _
  have HG := Lib.hid hg
  clear hg
  by_cases h : o0 ≤ t0 ∧ t1 ≤ o1
  · rw [if_pos h]
    obtain ⟨h1, h2⟩ := h
    go_enter Try.func53, Try.ntmps53
    go_wp2
    go_ret
    exact ⟨rfl, HG.out⟩
  rw [if_neg h]
  by_cases h3 : t1 < o0
  · rw [if_pos (.inl h3)]
    by_cases h1 : o0 ≤ t0
    · have h2 : ¬ t1 ≤ o1 := by omega
      clear h
      go_enter Try.func53, Try.ntmps53
      go_wp2
      go_ret
      exact ⟨rfl, HG.out⟩
    · clear h
      go_enter Try.func53, Try.ntmps53
      go_wp2
      go_ret
      exact ⟨rfl, HG.out⟩
  by_cases h4 : o1 < t0
  · rw [if_pos (.inr h4)]
    by_cases h1 : o0 ≤ t0
    · have h2 : ¬ t1 ≤ o1 := by omega
      clear h
      go_enter Try.func53, Try.ntmps53
      go_wp2
      go_ret
      exact ⟨rfl, HG.out⟩
    · clear h
      go_enter Try.func53, Try.ntmps53
      go_wp2
      go_ret
      exact ⟨rfl, HG.out⟩
  rw [if_neg (by omega)]
  by_cases h1 : o0 ≤ t0
  · have h2 : ¬ t1 ≤ o1 := by omega
    clear h
    go_enter Try.func53, Try.ntmps53
    go_wp2
    go_ret
    exact ⟨rfl, HG.out⟩
  · clear h
    go_enter Try.func53, Try.ntmps53
    go_wp2
    go_ret
    exact ⟨rfl, HG.out⟩

theorem rfOpen_any (n i : Nat) (hn : n < 256) (hi : i < 20) (w : World) : Calls Try.prog 93 #[.int .u8 (n : Int), .int .i64 (i : Int)] w fun e w' => e = .returned (.bool (n.testBit i)) ∧ w = w' := by
  go_enter Try.func93, Try.ntmps93
  go_wp2
  go_ret
  refine ⟨congrArg (fun x => Ending.returned (Value.bool x)) ?_, rfl⟩
  clear w
  obtain ⟨m, rfl⟩ : ∃ m : Fin 256, m.val = n := ⟨⟨n, hn⟩, rfl⟩
  obtain ⟨j, rfl⟩ : ∃ j : Fin 20, j.val = i := ⟨⟨i, hi⟩, rfl⟩
  clear hn hi
  revert m j
  decide +kernel

end Go.Proofs.Ythjpgpelbagceaa
