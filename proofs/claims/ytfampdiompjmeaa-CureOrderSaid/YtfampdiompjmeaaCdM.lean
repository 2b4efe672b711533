/-
  Lists of spans, compared.
-/
import Derived.Test.YtfampdiompjmeaaCdL
import Derived.Test.YtfampdiompjmeaaG2
namespace Go.Proofs.Ytfampdiompjmeaa
open Go.RowKit

theorem Try.st26 : Try.prog.underlying 26 = some (.struct (Try.prog.fieldsOf 26)) := by kernel_rfl
theorem Try.held26 : Try.prog.stoodInHeld 26 = false := by kernel_rfl
theorem Try.guard26 : Try.prog.eqGuardType Try.prog.depth 26 = false := by kernel_rfl

theorem neqSpan (w : World) (x x' y y' : Int) : (binOp .neq 26 (.agg #[.int .i64 x, .int .i64 x']) (.agg #[.int .i64 y, .int .i64 y'])).run Try.prog w = .ok (.bool (!(x == y && x' == y'))) w := by
  rw [run_neq_struct, run_equalIn_agg _ _ _ _ _ Try.st26 Try.held26]
  simp [Program.fieldsOf, Try.underlying26, Op.eqFields, go_sem]
  by_cases h1 : x = y <;> by_cases h2 : x' = y' <;> simp [h1, h2]

set_option maxHeartbeats 1000000 in
theorem sameSpans_any (A1 A2 : Option Addr) (c1 c2 : Nat) (xs ys : List (Int × Int)) (B : Nat) (w : World) (h1 : Vals w B A1 (pairs xs)) (h2 : Vals w B A2 (pairs ys)) (l1 : xs.length ≤ 1000000) (l2 : ys.length ≤ 9223372036854775807) :
    Calls Try.prog 34 #[.slice A1 xs.length c1, .slice A2 ys.length c2] w fun e w' => e = .returned (.bool (decide (xs = ys))) ∧ Below w.heap.size w w' := by
  have H1 := Lib.hid h1
  have H2 := Lib.hid h2
  clear h1 h2
  rcases Nat.lt_trichotomy xs.length ys.length with hl | hl | hl
  case inr.inl =>
    have HE := Lib.hid hl
    rw [← hl]
    clear hl
    go_enter Try.func34, Try.ntmps34
    go_wp2
    go_loopw [5] (fun i wr => ∃ k : Nat, k ≤ xs.length ∧ i = .int .i64 k ∧ Hid (xs.take k = ys.take k) ∧ Hid (Below w.heap.size w wr) ∧ Hid (∀ a : Addr, wr.cell? a = w.cell? a)) (fun i _ => xs.length - (intOf i).toNat)
    case atStart => exact ⟨0, Nat.zero_le _, rfl, by simp [Hid], Below.refl _ _, fun _ => rfl⟩
    case round =>
      obtain ⟨k, hk, rfl, ht, hB, hcw⟩ := hrel
      by_cases hlt : k < xs.length
      · obtain ⟨b, off, hA, _, hc⟩ := H1.out (by rw [pairs_len]; omega)
        obtain ⟨b', off', hA', _, hc'⟩ := H2.out (by rw [pairs_len, ← HE.out]; omega)
        subst hA hA'
        have hp := pairs_at xs k hlt
        have hq := pairs_at ys k (by rw [← HE.out]; omega)
        have cx0 : wr.cell? ⟨b, off + k * 2, none⟩ = _ := (hcw.out _).trans (hc _ _ hp.1)
        have cx1 : wr.cell? ⟨b, off + k * 2 + 1, none⟩ = _ := (hcw.out _).trans (hc _ _ hp.2)
        have cy0 : wr.cell? ⟨b', off' + k * 2, none⟩ = _ := (hcw.out _).trans (hc' _ _ hq.1)
        have cy1 : wr.cell? ⟨b', off' + k * 2 + 1, none⟩ = _ := (hcw.out _).trans (hc' _ _ hq.2)
        clear hc hc' hp hq
        have hstep := take_eq_succ (z := (0, 0)) ht.out hlt (by rw [← HE.out]; exact hlt)
        have hno : xs[k]?.getD (0, 0) ≠ ys[k]?.getD (0, 0) → decide (xs = ys) = false := fun h => by
          simp only [decide_eq_false_iff_not]; rintro rfl; exact h rfl
        generalize xs[k]?.getD (0, 0) = x at cx0 cx1 hstep hno
        generalize ys[k]?.getD (0, 0) = y at cy0 cy1 hstep hno
        obtain ⟨x, x'⟩ := x
        obtain ⟨y, y'⟩ := y
        have Hs := Lib.hid hstep
        have Hn := Lib.hid hno
        have b1 : (0 : Int) ≤ (k : Int) := by omega
        have b2 : (k : Int) < xs.length := by omega
        clear hstep hno
        by_cases hxy : x = y ∧ x' = y'
        · obtain ⟨rfl, rfl⟩ := hxy
          have hq := fun W => neqSpan W x x' x x'
          have hg := Try.guard26
          simp only [beq_self_eq_true, Bool.and_self, Bool.not_true] at hq
          go_wp2
          go_quiet (fail)
          go_wp2
          go_roundw
          case rel => exact ⟨k + 1, by omega, by go_num, Hs.out (by simp), below_drewN hB.out _, hcw.out⟩
          case measure => simp [intOf] <;> omega
        · have hq := fun W => neqSpan W x x' y y'
          have hg := Try.guard26
          have hb : (x == y && x' == y') = false := by simpa using hxy
          simp only [hb, Bool.not_false] at hq
          clear hb
          go_wp2
          go_quiet (fail)
          go_wp2
          go_ret
          exact ⟨by rw [Hn.out (by simpa using hxy)]; rfl, below_drewN hB.out _⟩
      · have hd : decide (xs = ys) = true := by
          have h := ht.out
          have e : k = xs.length := by omega
          rw [e, List.take_of_length_le (Nat.le_refl _), HE.out, List.take_of_length_le (Nat.le_refl _)] at h
          simp [h]
        have Hd := Lib.hid hd
        clear hd
        go_wp2
        go_ret
        exact ⟨by rw [Hd.out]; rfl, hB.out⟩
  all_goals
    have hd : decide (xs = ys) = false := by simp only [decide_eq_false_iff_not]; rintro rfl; omega
    have Hd := Lib.hid hd
    clear hd
    go_enter Try.func34, Try.ntmps34
    go_wp2
    go_ret
    exact ⟨by rw [Hd.out]; rfl, Below.refl _ _⟩

end Go.Proofs.Ytfampdiompjmeaa
