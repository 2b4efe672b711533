/-
  The reference's comparison of groves: of one grove with itself, at two places.
-/
import Derived.Test.YtkjdapgkojfbmaaSame2
namespace Go.Proofs.Ytkjdapgkojfbmaa
open Go.RowKit

theorem Try.st76 : Try.prog.underlying 76 = some (.struct (Try.prog.fieldsOf 76)) := by kernel_rfl
theorem Try.held76 : Try.prog.stoodInHeld 76 = false := by kernel_rfl
theorem Try.guard76 : Try.prog.eqGuardType Try.prog.depth 76 = false := by kernel_rfl
theorem Try.st23 : Try.prog.underlying 23 = some (.struct (Try.prog.fieldsOf 23)) := by kernel_rfl
theorem Try.held23 : Try.prog.stoodInHeld 23 = false := by kernel_rfl
theorem Try.st25 : Try.prog.underlying 25 = some (.struct (Try.prog.fieldsOf 25)) := by kernel_rfl
theorem Try.held25 : Try.prog.stoodInHeld 25 = false := by kernel_rfl
theorem Try.guard25 : Try.prog.eqGuardType Try.prog.depth 25 = false := by kernel_rfl

theorem neqSeason (w : World) (x x' : Int) : (binOp .neq 76 (.agg #[.int .i64 x, .int .i64 x']) (.agg #[.int .i64 x, .int .i64 x'])).run Try.prog w = .ok (.bool false) w := by
  rw [run_neq_struct, run_equalIn_agg _ _ _ _ _ Try.st76 Try.held76]
  simp [Program.fieldsOf, Try.underlying76, Op.eqFields, go_sem]

theorem neqHabit (w : World) (a b c d e f : Int) : (binOp .neq 25 (.agg #[.int .i64 a, .int .i64 b, .int .i64 c, .int .i64 d, .int .i64 e, .int .i64 f]) (.agg #[.int .i64 a, .int .i64 b, .int .i64 c, .int .i64 d, .int .i64 e, .int .i64 f])).run Try.prog w = .ok (.bool false) w := by
  rw [run_neq_struct, run_equalIn_agg _ _ _ _ _ Try.st25 Try.held25]
  have h1 := fun W => run_equalIn_agg (P := Try.prog) W 9998 23 #[.int .i64 a, .int .i64 b] #[.int .i64 a, .int .i64 b] Try.st23 Try.held23
  simp [Program.fieldsOf, Try.underlying25, Try.underlying23, Op.eqFields, go_sem] at h1 ⊢
  try simp [h1]

set_option maxHeartbeats 2000000 in
theorem same_any (g : Gr) (A1 : Option Addr) (c1 : Nat) (A2 : Option Addr) (c2 : Nat) (D1 : Option Addr) (d1 : Nat) (D2 : Option Addr) (d2 : Nat) (B : Nat) (w : World) (hB : B ≤ w.heap.size) (h1 : GrAt w B g A1 c1 A2 c2) (h2 : GrAt w B g D1 d1 D2 d2)
    (hg : great g = false) :
    Calls Try.prog 22 #[grv g A1 c1 A2 c2, grv g D1 d1 D2 d2] w fun e w' => e = .returned (.bool true) ∧ Below w.heap.size w w' := by
  have hl : g.start.length ≤ 20 ∧ g.seas.length ≤ 80 := by simp [great] at hg; omega
  have H1 := Lib.hid h1
  have H2 := Lib.hid h2
  have hq := fun W x x' => neqSeason W x x'
  have hh := fun W => neqHabit W g.hab.lo g.hab.hi g.hab.bears g.hab.ripe g.hab.dies g.hab.keep
  have g1 := Try.guard76
  have g2 := Try.guard25
  clear h1 h2 hg
  unfold grv
  go_enter Try.func22, Try.ntmps22
  go_wp2_with (go_at_call 20; refine (sameInts_any A1 D1 c1 d1 g.start g.start B _ (H1.out.st.below (((Below.refl _ _).alloc hB _).alloc (by simp; omega) _)) (H2.out.st.below (((Below.refl _ _).alloc hB _).alloc (by simp; omega) _)) (by omega) (by omega)).mono ?_
               rintro e w1 ⟨rfl, hB1⟩
               rw [decide_eq_true rfl]
               have cB1 := fun i => (hB1.cell (p := ⟨w.heap.size, i, none⟩) (by simp; omega)).trans (cell_of_row _ w.heap.size i _ _ _ (alloc2_at0 w _ _))
               have cB2 := fun i => (hB1.cell (p := ⟨w.heap.size + 1, i, none⟩) (by simp)).trans (cell_of_row _ (w.heap.size + 1) i _ _ _ (alloc2_at1 w _ _))
               have HB1 := Lib.hid (((Below.refl _ _).alloc (Nat.le_refl w.heap.size) _).alloc (by simp) _ |>.trans (hB1.mono (by simp; omega)))
               have hws : w.heap.size + 1 < w1.heap.size := by have := hB1.size; simp at this; omega
               clear hB1)
  have HC := Lib.hid (And.intro cB1 cB2)
  clear cB1 cB2
  go_loopw [5] (fun i wr => ∃ k : Nat, k ≤ g.seas.length ∧ i = .int .i64 k ∧ Hid (Below w1.heap.size w1 wr) ∧ Hid (∀ a : Addr, wr.cell? a = w1.cell? a)) (fun i _ => g.seas.length - (intOf i).toNat)
  case atStart => exact ⟨0, Nat.zero_le _, rfl, Below.refl _ _, fun _ => rfl⟩
  case round =>
    obtain ⟨k, hk, rfl, hBr, hcw⟩ := hrel
    have k1 := fun i => (hcw.out ⟨w.heap.size, i, none⟩).trans (HC.out.1 i)
    have k2 := fun i => (hcw.out ⟨w.heap.size + 1, i, none⟩).trans (HC.out.2 i)
    by_cases hlt : k < g.seas.length
    · obtain ⟨b, off, hA, hb, hc⟩ := H1.out.se (by rw [pairs_len]; omega)
      obtain ⟨b', off', hA', hb', hc'⟩ := H2.out.se (by rw [pairs_len]; omega)
      subst hA hA'
      have hp := pairs_at g.seas k hlt
      have hbel : Below B w w1 := HB1.out.mono hB
      have cx0 : wr.cell? ⟨b, off + k * 2, none⟩ = _ := (hcw.out _).trans ((hbel.cell (p := ⟨b, off + k * 2, none⟩) hb).trans (hc _ _ hp.1))
      have cx1 : wr.cell? ⟨b, off + k * 2 + 1, none⟩ = _ := (hcw.out _).trans ((hbel.cell (p := ⟨b, off + k * 2 + 1, none⟩) hb).trans (hc _ _ hp.2))
      have cy0 : wr.cell? ⟨b', off' + k * 2, none⟩ = _ := (hcw.out _).trans ((hbel.cell (p := ⟨b', off' + k * 2, none⟩) hb').trans (hc' _ _ hp.1))
      have cy1 : wr.cell? ⟨b', off' + k * 2 + 1, none⟩ = _ := (hcw.out _).trans ((hbel.cell (p := ⟨b', off' + k * 2 + 1, none⟩) hb').trans (hc' _ _ hp.2))
      clear hc hc' hp hbel
      generalize g.seas[k]?.getD (0, 0) = x at cx0 cx1 cy0 cy1
      obtain ⟨x, x'⟩ := x
      have b1 : (0 : Int) ≤ (k : Int) := by omega
      have b2 : (k : Int) < g.seas.length := by omega
      go_wp2
      go_quiet (fail)
      go_wp2
      go_roundw
      case rel => exact ⟨k + 1, by omega, by go_num, below_drewN hBr.out _, hcw.out⟩
      case measure => simp [intOf] <;> omega
    · go_wp2
      go_ret
      exact ⟨rfl, HB1.out.trans (hBr.out.mono (by omega))⟩

end Go.Proofs.Ytkjdapgkojfbmaa
