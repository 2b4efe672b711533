/-
  Comparisons of lists.
-/
import Derived.Test.YtanjolmelbipoaaYD
import Derived.Deep.QuietTactic
import Derived.BigQuiet
namespace Go.Proofs.Ytanjolmelbipoaa
open Go.RowKit

theorem take_eq_succ {α : Type} {xs ys : List α} {k : Nat} {z : α} (h : xs.take k = ys.take k) (h1 : k < xs.length) (h2 : k < ys.length) (he : xs[k]?.getD z = ys[k]?.getD z) : xs.take (k + 1) = ys.take (k + 1) := by
  rw [List.take_add_one, List.take_add_one, h]
  congr 1
  simp only [List.getElem?_eq_getElem h1, List.getElem?_eq_getElem h2, Option.getD_some] at he ⊢
  rw [he]

set_option maxHeartbeats 1000000 in
theorem sameInts_any (A1 A2 : Option Addr) (c1 c2 : Nat) (xs ys : List Int) (B : Nat) (w : World) (h1 : Ints w B A1 xs) (h2 : Ints w B A2 ys) (l1 : xs.length ≤ 1000000) (l2 : ys.length ≤ 9223372036854775807) :
    Calls Try.prog 20 #[.slice A1 xs.length c1, .slice A2 ys.length c2] w fun e w' => e = .returned (.bool (decide (xs = ys))) ∧ Below w.heap.size w w' := by
  have H1 := Lib.hid h1
  have H2 := Lib.hid h2
  clear h1 h2
  rcases Nat.lt_trichotomy xs.length ys.length with hl | hl | hl
  case inr.inl =>
    have HE := Lib.hid hl
    rw [← hl]
    clear hl
    go_enter Try.func20, Try.ntmps20
    go_wp2
    go_loopw [5] (fun i wr => ∃ k : Nat, k ≤ xs.length ∧ i = .int .i64 k ∧ Hid (xs.take k = ys.take k) ∧ Hid (Below w.heap.size w wr) ∧ Hid (∀ a : Addr, wr.cell? a = w.cell? a)) (fun i _ => xs.length - (intOf i).toNat)
    case atStart => exact ⟨0, Nat.zero_le _, rfl, by simp [Hid], Below.refl _ _, fun _ => rfl⟩
    case round =>
      obtain ⟨k, hk, rfl, ht, hB, hcw⟩ := hrel
      by_cases hlt : k < xs.length
      · obtain ⟨b, off, hA, _, hc⟩ := H1.out (by omega)
        obtain ⟨b', off', hA', _, hc'⟩ := H2.out (by rw [← HE.out]; omega)
        subst hA hA'
        have cx := (hcw.out _).trans (hc k hlt)
        have cy := (hcw.out _).trans (hc' k (by rw [← HE.out]; omega))
        clear hc hc'
        have hstep := take_eq_succ (z := 0) ht.out hlt (by rw [← HE.out]; exact hlt)
        have hno : xs[k]?.getD 0 ≠ ys[k]?.getD 0 → decide (xs = ys) = false := fun h => by
          simp only [decide_eq_false_iff_not]; rintro rfl; exact h rfl
        generalize xs[k]?.getD 0 = x at cx hstep hno
        generalize ys[k]?.getD 0 = y at cy hstep hno
        have Hs := Lib.hid hstep
        have Hn := Lib.hid hno
        have b1 : (0 : Int) ≤ (k : Int) := by omega
        have b2 : (k : Int) < xs.length := by omega
        clear hstep hno
        by_cases hxy : x = y
        · subst hxy
          go_wp2
          go_quiet (fail)
          go_wp2
          go_roundw
          case rel => exact ⟨k + 1, by omega, by go_num, Hs.out (by simp), below_drewN hB.out _, hcw.out⟩
          case measure => simp [intOf] <;> omega
        · go_wp2
          go_quiet (fail)
          go_wp2
          go_ret
          exact ⟨by rw [Hn.out hxy]; rfl, below_drewN hB.out _⟩
      · have hd : decide (xs = ys) = true := by
          have h := ht.out
          have e : k = xs.length := by omega
          rw [e, List.take_of_length_le (Nat.le_refl _), HE.out, List.take_of_length_le (Nat.le_refl _)] at h
          simp [h]
        have Hd := Lib.hid hd
        clear hd
        go_wp2
        go_ret
        exact ⟨by rw [Hd.out]; rfl, hB.out⟩
  all_goals
    have hd : decide (xs = ys) = false := by simp only [decide_eq_false_iff_not]; rintro rfl; omega
    have Hd := Lib.hid hd
    clear hd
    go_enter Try.func20, Try.ntmps20
    go_wp2
    go_ret
    exact ⟨by rw [Hd.out]; rfl, Below.refl _ _⟩

end Go.Proofs.Ytanjolmelbipoaa

namespace Go.Proofs.Ytanjolmelbipoaa
open Go.RowKit

theorem Try.st78 : Try.prog.underlying 78 = some (.struct (Try.prog.fieldsOf 78)) := by kernel_rfl
theorem Try.held78 : Try.prog.stoodInHeld 78 = false := by kernel_rfl
theorem Try.guard78 : Try.prog.eqGuardType Try.prog.depth 78 = false := by kernel_rfl

theorem neqTake (w : World) (x x' y y' : Int) : (binOp .neq 78 (.agg #[.int .i64 x, .int .i64 x']) (.agg #[.int .i64 y, .int .i64 y'])).run Try.prog w = .ok (.bool (!(x == y && x' == y'))) w := by
  rw [run_neq_struct, run_equalIn_agg _ _ _ _ _ Try.st78 Try.held78]
  simp [Program.fieldsOf, Try.underlying78, Op.eqFields, go_sem]
  by_cases h1 : x = y <;> by_cases h2 : x' = y' <;> simp [h1, h2]

set_option maxHeartbeats 1000000 in
theorem sameTakes_any (A1 A2 : Option Addr) (c1 c2 : Nat) (xs ys : List (Int × Int)) (B : Nat) (w : World) (h1 : Vals w B A1 (pairs xs)) (h2 : Vals w B A2 (pairs ys)) (l1 : xs.length ≤ 1000000) (l2 : ys.length ≤ 9223372036854775807) :
    Calls Try.prog 21 #[.slice A1 xs.length c1, .slice A2 ys.length c2] w fun e w' => e = .returned (.bool (decide (xs = ys))) ∧ Below w.heap.size w w' := by
  have H1 := Lib.hid h1
  have H2 := Lib.hid h2
  clear h1 h2
  rcases Nat.lt_trichotomy xs.length ys.length with hl | hl | hl
  case inr.inl =>
    have HE := Lib.hid hl
    rw [← hl]
    clear hl
    go_enter Try.func21, Try.ntmps21
    go_wp2
    go_loopw [5] (fun i wr => ∃ k : Nat, k ≤ xs.length ∧ i = .int .i64 k ∧ Hid (xs.take k = ys.take k) ∧ Hid (Below w.heap.size w wr) ∧ Hid (∀ a : Addr, wr.cell? a = w.cell? a)) (fun i _ => xs.length - (intOf i).toNat)
    case atStart => exact ⟨0, Nat.zero_le _, rfl, by simp [Hid], Below.refl _ _, fun _ => rfl⟩
    case round =>
      obtain ⟨k, hk, rfl, ht, hB, hcw⟩ := hrel
      by_cases hlt : k < xs.length
      · obtain ⟨b, off, hA, _, hc⟩ := H1.out (by rw [pairs_len]; omega)
        obtain ⟨b', off', hA', _, hc'⟩ := H2.out (by rw [pairs_len, ← HE.out]; omega)
        subst hA hA'
        have hp := pairs_at xs k hlt
        have hq := pairs_at ys k (by rw [← HE.out]; omega)
        have cx0 : wr.cell? ⟨b, off + k * 2, none⟩ = _ := (hcw.out _).trans (hc _ _ hp.1)
        have cx1 : wr.cell? ⟨b, off + k * 2 + 1, none⟩ = _ := (hcw.out _).trans (hc _ _ hp.2)
        have cy0 : wr.cell? ⟨b', off' + k * 2, none⟩ = _ := (hcw.out _).trans (hc' _ _ hq.1)
        have cy1 : wr.cell? ⟨b', off' + k * 2 + 1, none⟩ = _ := (hcw.out _).trans (hc' _ _ hq.2)
        clear hc hc' hp hq
        have hstep := take_eq_succ (z := (0, 0)) ht.out hlt (by rw [← HE.out]; exact hlt)
        have hno : xs[k]?.getD (0, 0) ≠ ys[k]?.getD (0, 0) → decide (xs = ys) = false := fun h => by
          simp only [decide_eq_false_iff_not]; rintro rfl; exact h rfl
        generalize xs[k]?.getD (0, 0) = x at cx0 cx1 hstep hno
        generalize ys[k]?.getD (0, 0) = y at cy0 cy1 hstep hno
        obtain ⟨x, x'⟩ := x
        obtain ⟨y, y'⟩ := y
        have Hs := Lib.hid hstep
        have Hn := Lib.hid hno
        have b1 : (0 : Int) ≤ (k : Int) := by omega
        have b2 : (k : Int) < xs.length := by omega
        clear hstep hno
        by_cases hxy : x = y ∧ x' = y'
        · obtain ⟨rfl, rfl⟩ := hxy
          have hq := fun W => neqTake W x x' x x'
          have hg := Try.guard78
          simp only [beq_self_eq_true, Bool.and_self, Bool.not_true] at hq
          go_wp2
          go_quiet (fail)
          go_wp2
          go_roundw
          case rel => exact ⟨k + 1, by omega, by go_num, Hs.out (by simp), below_drewN hB.out _, hcw.out⟩
          case measure => simp [intOf] <;> omega
        · have hq := fun W => neqTake W x x' y y'
          have hg := Try.guard78
          have hb : (x == y && x' == y') = false := by simpa using hxy
          simp only [hb, Bool.not_false] at hq
          clear hb
          go_wp2
          go_quiet (fail)
          go_wp2
          go_ret
          exact ⟨by rw [Hn.out (by simpa using hxy)]; rfl, below_drewN hB.out _⟩
      · have hd : decide (xs = ys) = true := by
          have h := ht.out
          have e : k = xs.length := by omega
          rw [e, List.take_of_length_le (Nat.le_refl _), HE.out, List.take_of_length_le (Nat.le_refl _)] at h
          simp [h]
        have Hd := Lib.hid hd
        clear hd
        go_wp2
        go_ret
        exact ⟨by rw [Hd.out]; rfl, hB.out⟩
  all_goals
    have hd : decide (xs = ys) = false := by simp only [decide_eq_false_iff_not]; rintro rfl; omega
    have Hd := Lib.hid hd
    clear hd
    go_enter Try.func21, Try.ntmps21
    go_wp2
    go_ret
    exact ⟨by rw [Hd.out]; rfl, Below.refl _ _⟩

end Go.Proofs.Ytanjolmelbipoaa

namespace Go.Proofs.Ytanjolmelbipoaa
open Go.RowKit

theorem Try.st76 : Try.prog.underlying 76 = some (.struct (Try.prog.fieldsOf 76)) := by kernel_rfl
theorem Try.held76 : Try.prog.stoodInHeld 76 = false := by kernel_rfl
theorem Try.guard76 : Try.prog.eqGuardType Try.prog.depth 76 = false := by kernel_rfl
theorem Try.st23 : Try.prog.underlying 23 = some (.struct (Try.prog.fieldsOf 23)) := by kernel_rfl
theorem Try.held23 : Try.prog.stoodInHeld 23 = false := by kernel_rfl
theorem Try.st25 : Try.prog.underlying 25 = some (.struct (Try.prog.fieldsOf 25)) := by kernel_rfl
theorem Try.held25 : Try.prog.stoodInHeld 25 = false := by kernel_rfl
theorem Try.guard25 : Try.prog.eqGuardType Try.prog.depth 25 = false := by kernel_rfl

theorem neqSeason (w : World) (x x' : Int) : (binOp .neq 76 (.agg #[.int .i64 x, .int .i64 x']) (.agg #[.int .i64 x, .int .i64 x'])).run Try.prog w = .ok (.bool false) w := by
  rw [run_neq_struct, run_equalIn_agg _ _ _ _ _ Try.st76 Try.held76]
  simp [Program.fieldsOf, Try.underlying76, Op.eqFields, go_sem]

theorem neqHabit (w : World) (a b c d e f : Int) : (binOp .neq 25 (.agg #[.int .i64 a, .int .i64 b, .int .i64 c, .int .i64 d, .int .i64 e, .int .i64 f]) (.agg #[.int .i64 a, .int .i64 b, .int .i64 c, .int .i64 d, .int .i64 e, .int .i64 f])).run Try.prog w = .ok (.bool false) w := by
  rw [run_neq_struct, run_equalIn_agg _ _ _ _ _ Try.st25 Try.held25]
  have h1 := fun W => run_equalIn_agg (P := Try.prog) W 9998 23 #[.int .i64 a, .int .i64 b] #[.int .i64 a, .int .i64 b] Try.st23 Try.held23
  simp [Program.fieldsOf, Try.underlying25, Try.underlying23, Op.eqFields, go_sem] at h1 ⊢
  try simp [h1]

set_option maxHeartbeats 2000000 in
theorem same_any (g : Gr) (A1 : Option Addr) (c1 : Nat) (A2 : Option Addr) (c2 : Nat) (D1 : Option Addr) (d1 : Nat) (D2 : Option Addr) (d2 : Nat) (B : Nat) (w : World) (hB : B ≤ w.heap.size) (h1 : GrAt w B g A1 c1 A2 c2) (h2 : GrAt w B g D1 d1 D2 d2)
    (hg : great g = false) :
    Calls Try.prog 22 #[grv g A1 c1 A2 c2, grv g D1 d1 D2 d2] w fun e w' => e = .returned (.bool true) ∧ Below w.heap.size w w' := by
  have hl : g.start.length ≤ 20 ∧ g.seas.length ≤ 80 := by simp [great] at hg; omega
  have H1 := Lib.hid h1
  have H2 := Lib.hid h2
  have hq := fun W x x' => neqSeason W x x'
  have hh := fun W => neqHabit W g.hab.lo g.hab.hi g.hab.bears g.hab.ripe g.hab.dies g.hab.keep
  have g1 := Try.guard76
  have g2 := Try.guard25
  clear h1 h2 hg
  unfold grv
  go_enter Try.func22, Try.ntmps22
  go_wp2_with (go_at_call 20; refine (sameInts_any A1 D1 c1 d1 g.start g.start B _ (H1.out.st.below (((Below.refl _ _).alloc hB _).alloc (by simp; omega) _)) (H2.out.st.below (((Below.refl _ _).alloc hB _).alloc (by simp; omega) _)) (by omega) (by omega)).mono ?_
               rintro e w1 ⟨rfl, hB1⟩
               rw [decide_eq_true rfl]
               have cB1 := fun i => (hB1.cell (p := ⟨w.heap.size, i, none⟩) (by simp; omega)).trans (cell_of_row _ w.heap.size i _ _ _ (alloc2_at0 w _ _))
               have cB2 := fun i => (hB1.cell (p := ⟨w.heap.size + 1, i, none⟩) (by simp)).trans (cell_of_row _ (w.heap.size + 1) i _ _ _ (alloc2_at1 w _ _))
               have HB1 := Lib.hid (((Below.refl _ _).alloc (Nat.le_refl w.heap.size) _).alloc (by simp) _ |>.trans (hB1.mono (by simp; omega)))
               have hws : w.heap.size + 1 < w1.heap.size := by have := hB1.size; simp at this; omega
               clear hB1)
  have HC := Lib.hid (And.intro cB1 cB2)
  clear cB1 cB2
  go_loopw [5] (fun i wr => ∃ k : Nat, k ≤ g.seas.length ∧ i = .int .i64 k ∧ Hid (Below w1.heap.size w1 wr) ∧ Hid (∀ a : Addr, wr.cell? a = w1.cell? a)) (fun i _ => g.seas.length - (intOf i).toNat)
  case atStart => exact ⟨0, Nat.zero_le _, rfl, Below.refl _ _, fun _ => rfl⟩
  case round =>
    obtain ⟨k, hk, rfl, hBr, hcw⟩ := hrel
    have k1 := fun i => (hcw.out ⟨w.heap.size, i, none⟩).trans (HC.out.1 i)
    have k2 := fun i => (hcw.out ⟨w.heap.size + 1, i, none⟩).trans (HC.out.2 i)
    by_cases hlt : k < g.seas.length
    · obtain ⟨b, off, hA, hb, hc⟩ := H1.out.se (by rw [pairs_len]; omega)
      obtain ⟨b', off', hA', hb', hc'⟩ := H2.out.se (by rw [pairs_len]; omega)
      subst hA hA'
      have hp := pairs_at g.seas k hlt
      have hbel : Below B w w1 := HB1.out.mono hB
      have cx0 : wr.cell? ⟨b, off + k * 2, none⟩ = _ := (hcw.out _).trans ((hbel.cell (p := ⟨b, off + k * 2, none⟩) hb).trans (hc _ _ hp.1))
      have cx1 : wr.cell? ⟨b, off + k * 2 + 1, none⟩ = _ := (hcw.out _).trans ((hbel.cell (p := ⟨b, off + k * 2 + 1, none⟩) hb).trans (hc _ _ hp.2))
      have cy0 : wr.cell? ⟨b', off' + k * 2, none⟩ = _ := (hcw.out _).trans ((hbel.cell (p := ⟨b', off' + k * 2, none⟩) hb').trans (hc' _ _ hp.1))
      have cy1 : wr.cell? ⟨b', off' + k * 2 + 1, none⟩ = _ := (hcw.out _).trans ((hbel.cell (p := ⟨b', off' + k * 2 + 1, none⟩) hb').trans (hc' _ _ hp.2))
      clear hc hc' hp hbel
      generalize g.seas[k]?.getD (0, 0) = x at cx0 cx1 cy0 cy1
      obtain ⟨x, x'⟩ := x
      have b1 : (0 : Int) ≤ (k : Int) := by omega
      have b2 : (k : Int) < g.seas.length := by omega
      go_wp2
      go_quiet (fail)
      go_wp2
      go_roundw
      case rel => exact ⟨k + 1, by omega, by go_num, below_drewN hBr.out _, hcw.out⟩
      case measure => simp [intOf] <;> omega
    · go_wp2
      go_ret
      exact ⟨rfl, HB1.out.trans (hBr.out.mono (by omega))⟩

end Go.Proofs.Ytanjolmelbipoaa

