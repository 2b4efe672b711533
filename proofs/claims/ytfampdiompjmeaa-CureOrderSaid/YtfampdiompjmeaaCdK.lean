/-
  The reference's answer: which ponds and drains are valid.
-/
import Derived.Test.YtfampdiompjmeaaCdJ
namespace Go.Proofs.Ytfampdiompjmeaa
open Go.RowKit

attribute [local go_sem] gives

theorem allB_drop {lo hi : Int} {zs : List Int} {k : Nat} (hk : k < zs.length) : allB lo hi (zs.drop k) = (inR zs[k] lo hi && allB lo hi (zs.drop (k + 1))) := by
  rw [List.drop_eq_getElem_cons hk]; rfl

set_option maxHeartbeats 2000000 in
theorem refPond_any (p : Po) (zs : List Int) (A : Option Addr) (cap : Nat) (B : Nat) (w : World) (hB : B ≤ w.heap.size) (hz : Ints w B A zs) (hl : zs.length ≤ 1000000) :
    Calls Try.prog 41 #[.agg (pcells p), .slice A zs.length cap] w fun e w' => e = .returned (.bool (okLev p zs)) ∧ Below w.heap.size w w' := by
  have h1 := fun W => refSpanned_any p.ol p.oh 0 1000 W
  have h2 := fun W => refWithin_any p.lim 0 1000000 W
  have e : okLev p zs = (okS p.ol p.oh 0 1000 && inR p.lim 0 1000000 && (decide (zs.length ≤ 40) && allB 0 100000 zs)) := by rw [okLev, okPo, okDrains, allB_one]
  rw [e]
  clear e
  unfold pcells
  generalize inR p.lim 0 1000000 = v2 at h2
  generalize okS p.ol p.oh 0 1000 = v1 at h1
  have H := Lib.hid (And.intro h1 h2)
  have HZ := Lib.hid hz
  clear h1 h2 hz
  cases v1 with
  | false =>
    go_enter Try.func41, Try.ntmps41
    go_wp2_with (go_at_call 64; refine (H.out.1 _).mono ?_; rintro e w1 ⟨rfl, hB1⟩; have H1 := Lib.hid hB1; clear hB1)
    go_ret
    exact ⟨rfl, ((Below.refl _ w).alloc (Nat.le_refl _) _).trans (H1.out.mono (by simp))⟩
  | true =>
    cases v2 with
    | false =>
      go_enter Try.func41, Try.ntmps41
      go_wp2_with (first
        | (go_at_call 61; refine (H.out.2 w1).mono ?_; rintro e w2 ⟨rfl, rfl⟩)
        | (go_at_call 64; refine (H.out.1 _).mono ?_; rintro e w1 ⟨rfl, hB1⟩
           have hc1 := box_cells rfl hB1
           have H1 := Lib.hid (((Below.refl _ w).alloc (Nat.le_refl _) _).trans (hB1.mono (by simp))); clear hB1))
      go_ret
      exact ⟨rfl, H1.out⟩
    | true =>
      by_cases h40 : zs.length ≤ 40
      · rw [decide_eq_true h40]
        simp only [Bool.true_and]
        have hk40 : (zs.length : Int) ≤ 40 := by omega
        go_enter Try.func41, Try.ntmps41
        go_wp2_with (first
          | (go_at_call 61; refine (H.out.2 w1).mono ?_; rintro e w2 ⟨rfl, rfl⟩)
          | (go_at_call 64; refine (H.out.1 _).mono ?_; rintro e w1 ⟨rfl, hB1⟩
             have hc1 := box_cells rfl hB1
             have H1 := Lib.hid (((Below.refl _ w).alloc (Nat.le_refl _) _).trans (hB1.mono (by simp))); clear hB1))
        go_loopg [5] zs.length (fun gg s5 wx => ∃ k : Nat, k + gg = zs.length ∧ s5 = .int .i64 k ∧ Hid (allB 0 100000 (zs.drop k) = allB 0 100000 zs) ∧ wx = w1)
        case atStart => exact ⟨0, by omega, rfl, rfl, rfl⟩
        case round =>
          obtain ⟨k, hkg, rfl, hI, rfl⟩ := hrel
          cases gk with
          | zero =>
            obtain rfl : k = zs.length := by omega
            go_wp2
            go_ret
            refine ⟨?_, H1.out⟩
            rw [← hI.out, List.drop_length]
            rfl
          | succ gg =>
            have hk : k < zs.length := by omega
            have hkz : (k : Int) < zs.length := by omega
            obtain ⟨c, off, hA, hcB, hc⟩ := HZ.out (by omega)
            subst hA
            have hx : wr.cell? ⟨c, off + k, none⟩ = _ := (H1.out.cell (p := ⟨c, off + k, none⟩) (by simp; omega)).trans (hc k hk)
            have hst := allB_drop (lo := 0) (hi := 100000) hk
            have hg : zs[k]?.getD 0 = zs[k] := by simp [hk]
            rw [hg] at hx
            rw [hI.out] at hst
            have hw := refWithin_any zs[k] 0 100000 wr
            generalize zs[k] = x at hx hst hw
            cases hin : inR x 0 100000 with
            | true =>
              rw [hin] at hst hw
              have HST := Lib.hid hst
              have HW := Lib.hid hw
              clear hst hw hc hg hin
              go_wp2_with (go_at_call 61; refine HW.out.mono ?_; rintro e w2 ⟨rfl, rfl⟩)
              go_roundg gg
              case measure => omega
              case rel => exact ⟨k + 1, by omega, by go_num, by rw [HST.out]; rfl, rfl⟩
            | false =>
              rw [hin] at hst hw
              have HST := Lib.hid hst
              have HW := Lib.hid hw
              clear hst hw hc hg hin
              go_wp2_with (go_at_call 61; refine HW.out.mono ?_; rintro e w2 ⟨rfl, rfl⟩)
              go_ret
              exact ⟨by rw [HST.out]; rfl, H1.out⟩
      · rw [decide_eq_false h40]
        have hk40 : ¬ (zs.length : Int) ≤ 40 := by omega
        go_enter Try.func41, Try.ntmps41
        go_wp2_with (first
          | (go_at_call 61; refine (H.out.2 w1).mono ?_; rintro e w2 ⟨rfl, rfl⟩)
          | (go_at_call 64; refine (H.out.1 _).mono ?_; rintro e w1 ⟨rfl, hB1⟩
             have hc1 := box_cells rfl hB1
             have H1 := Lib.hid (((Below.refl _ w).alloc (Nat.le_refl _) _).trans (hB1.mono (by simp))); clear hB1))
        go_ret
        exact ⟨rfl, H1.out⟩

end Go.Proofs.Ytfampdiompjmeaa
