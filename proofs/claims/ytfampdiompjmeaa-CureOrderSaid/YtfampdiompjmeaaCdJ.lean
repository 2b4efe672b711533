/-
  The reference's answer: after how many days poles are dry.
-/
import Derived.Test.YtfampdiompjmeaaCdI
namespace Go.Proofs.Ytfampdiompjmeaa
open Go.RowKit

attribute [local go_sem] gives

/-- This day, and those to come. -/
def wetR (d : Dr) (lo hi : Int) : Nat → List (Int × Int)
  | 0 => []
  | r + 1 => (lo, hi) :: wetL d lo hi r
theorem wetR_next (d : Dr) (lo hi : Int) : ∀ r, wetL d lo hi r = wetR d (leftZ lo d.lh) (leftZ hi d.ll) r
  | 0 => rfl
  | _ + 1 => rfl
theorem wetR_idx (d : Dr) (lo hi : Int) (r k : Nat) : idxL (fun p => decide (p.2 ≤ d.most)) (wetR d lo hi (r + 1)) k = if hi ≤ d.most then (k : Int) else idxL (fun p => decide (p.2 ≤ d.most)) (wetR d (leftZ lo d.lh) (leftZ hi d.ll) r) (k + 1) := by
  rw [← wetR_next]
  simp only [wetR, idxL, decide_eq_true_eq]
theorem dryI_start (d : Dr) : dryI d = idxL (fun p => decide (p.2 ≤ d.most)) (wetR d d.wl d.wh 366) 0 := rfl

set_option maxHeartbeats 2000000 in
theorem refDry_any (d : Dr) (w : World) :
    Calls Try.prog 32 #[.agg (dcells d)] w fun e w' => e = .returned (.tuple #[.int .i64 (dryV d), .int .i64 (dryE d)]) ∧ Below w.heap.size w w' := by
  have hv := fun W => refDrying_any d W
  cases hok : okDr d with
  | false =>
    have e1 : dryV d = 0 := by simp [dryV, hok]
    have e2 : dryE d = 41 := by simp [dryE, hok]
    rw [e1, e2]
    rw [hok] at hv
    unfold dcells at hv ⊢
    have HV := Lib.hid hv
    clear hv e1 e2 hok
    go_enter Try.func32, Try.ntmps32
    go_wp2_with (go_at_call 43; refine (HV.out _).mono ?_; rintro e w1 ⟨rfl, hB1⟩; have H1 := Lib.hid hB1; clear hB1)
    go_ret2
    exact ⟨rfl, ((Below.refl _ w).alloc (Nat.le_refl _) _).trans (H1.out.mono (by simp))⟩
  | true =>
    have hO := drOk_of hok
    have e1 : dryV d = if dryI d < 0 then 0 else dryI d := by simp [dryV, hok]
    have e2 : dryE d = if dryI d < 0 then 6 else 0 := by simp [dryE, hok]
    generalize dryV d = V at e1
    generalize dryE d = E at e2
    have hst := dryI_start d
    generalize dryI d = i at hst e1 e2
    have HVE := Lib.hid (And.intro e1 e2)
    rw [hok] at hv
    unfold dcells at hv ⊢
    have HV := Lib.hid hv
    have HS := Lib.hid hst
    have HO := Lib.hid hO
    clear hv e1 e2 hok hst hO
    go_enter Try.func32, Try.ntmps32
    go_wp2_with (go_at_call 43; refine (HV.out _).mono ?_; rintro e w1 ⟨rfl, hB1⟩
                 have hc1 := box_cells rfl hB1
                 have H1 := Lib.hid (((Below.refl _ w).alloc (Nat.le_refl _) _).trans (hB1.mono (by simp)))
                 clear hB1)
    go_loopg [4, 5] 366 (fun gg s4 s5 wx => ∃ (k : Nat) (lo hi : Int), k + gg = 366 ∧ s5 = .int .i64 k ∧ s4 = .int .i64 hi ∧ (0 ≤ hi ∧ hi ≤ 1000) ∧ Hid (i = idxL (fun p => decide (p.2 ≤ d.most)) (wetR d lo hi gg) k) ∧ wx = w1)
    case atStart => exact ⟨0, d.wl, d.wh, rfl, rfl, rfl, ⟨HO.out.v0, HO.out.v1⟩, HS.out, rfl⟩
    case round =>
      obtain ⟨k, lo, hi, hkg, rfl, rfl, ⟨h0, h1⟩, hI, rfl⟩ := hrel
      cases gk with
      | zero =>
        obtain rfl : k = 366 := by omega
        have hi1 : i = -1 := hI.out
        have HI1 := Lib.hid hi1
        clear hi1
        go_wp2
        go_ret2
        have h1 := HVE.out.1
        have h2 := HVE.out.2
        rw [HI1.out, if_pos (by omega)] at h1 h2
        rw [h1, h2]
        exact ⟨rfl, H1.out⟩
      | succ gg =>
        have hk : (k : Int) ≤ 365 := by omega
        have hst := hI.out
        rw [wetR_idx] at hst
        by_cases hle : hi ≤ d.most
        · rw [if_pos hle] at hst
          have HK := Lib.hid hst
          clear hst
          go_wp2
          go_ret2
          have h1 := HVE.out.1
          have h2 := HVE.out.2
          rw [HK.out, if_neg (by omega)] at h1 h2
          rw [h1, h2]
          exact ⟨rfl, H1.out⟩
        · rw [if_neg hle] at hst
          have HK := Lib.hid hst
          have b2 := leftZ_bnd h0 HO.out.l0 HO.out.l1
          have hq1 : 0 ≤ hi * d.ll := Int.mul_nonneg h0 HO.out.l0
          have hq2 : hi * d.ll ≤ hi * 1000 := Int.mul_le_mul_of_nonneg_left HO.out.l1 h0
          have hq : (hi * d.ll).tdiv 1000 = hi * d.ll / 1000 := Int.tdiv_eq_ediv_of_nonneg hq1
          have hll0 := HO.out.l0
          have hll1 := HO.out.l1
          have HB2 := Lib.hid (And.intro b2 hq)
          clear hst b2 hq
          go_wp2
          go_roundg gg
          case measure => omega
          case rel => exact ⟨k + 1, leftZ lo d.lh, leftZ hi d.ll, by omega, by go_num, by unfold leftZ; rw [← HB2.out.2], ⟨HB2.out.1.1, by have := HB2.out.1.2; omega⟩, HK.out, rfl⟩

end Go.Proofs.Ytfampdiompjmeaa
