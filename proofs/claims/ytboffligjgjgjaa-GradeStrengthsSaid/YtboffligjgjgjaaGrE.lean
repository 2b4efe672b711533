/-
  Lists of spans and poles searched; which grades are valid.
-/
import Derived.Test.YtboffligjgjgjaaGrC
namespace Go.Proofs.Ytboffligjgjgjaa
open Go.RowKit
open R6 (done done_ne done_me upd_ne upd_me)

attribute [local go_sem] gives

/-- A span's cells. -/
def sp2 (s : Int × Int) : List Value := [.int .i64 s.1, .int .i64 s.2]
theorem sp2_len (s : Int × Int) : (sp2 s).length = 2 := rfl
theorem sp2_pairs (l : List (Int × Int)) : l.flatMap sp2 = pairs l := rfl
theorem rowSpan5 : RowTy Try.prog 38 2 := ⟨⟨_, Try.underlying38, rfl⟩, by kernel_rfl⟩

set_option maxHeartbeats 2000000 in
theorem grVG_index (P : (Int × Int) → Bool) (A : Option Addr) (cap : Nat) (l : List (Int × Int)) (B : Nat) (w : World) (hB : B ≤ w.heap.size) (hz : Vals w B A (l.flatMap sp2)) (hl : l.length ≤ 1000000)
    (HF : ∀ (y : (Int × Int)) (W : World), y ∈ l → Below w.heap.size w W → Calls Try.prog 69 #[.agg (sp2 y).toArray] W fun e w' => e = .returned (.bool (P y)) ∧ Below W.heap.size W w') :
    Calls Try.prog 76 #[.slice A l.length cap, .func (.func 69) #[] #[]] w fun e w' => e = .returned (.int .i64 (idxL P l 0)) ∧ Below w.heap.size w w' := by
  have HZ := Lib.hid hz
  have HFF := Lib.hid HF
  clear hz HF
  go_enter Try.func76, Try.ntmps76
  go_wp2
  go_loopg [8] l.length (fun gg s8 wx => ∃ k : Nat, k + gg = l.length ∧ s8 = .int .i64 k ∧ Hid (idxL P (l.drop k) k = idxL P l 0) ∧ Hid (Below w.heap.size w wx))
  case atStart => exact ⟨0, by omega, rfl, rfl, Below.refl _ _⟩
  case round =>
    obtain ⟨k, hkg, rfl, hI, hBr⟩ := hrel
    cases gk with
    | zero =>
      obtain rfl : k = l.length := by omega
      go_wp2
      go_ret
      refine ⟨?_, hBr.out⟩
      rw [← hI.out, List.drop_length]
      rfl
    | succ gg =>
      have hk : k < l.length := by omega
      have hkz : (k : Int) < l.length := by omega
      obtain ⟨c, off, hA, hcB, hc⟩ := vals_elem sp2_len HZ.out (by decide) hk
      subst hA
      have hc' : ∀ j v, (sp2 l[k])[j]? = some v → wr.cell? ⟨c, off + k * 2 + j, none⟩ = some v := fun j v hv => (hBr.out.cell (p := ⟨c, off + k * 2 + j, none⟩) (by simp; omega)).trans (hc j v hv)
      have hst := idxL_step (P := P) hk
      rw [hI.out] at hst
      have hy := HFF.out l[k] wr (List.getElem_mem hk) hBr.out
      generalize l[k] = y at hc' hst hy
      have HY := Lib.hid hy
      have HST := Lib.hid hst
      have HCC := Lib.hid hc'
      clear hc hc' hst hy
      cases hp : P y
      all_goals
        rw [hp] at HY HST
        clear hp
        go_wp2_with (first
          | (show wpList _ _ _ (Oper.mk (some 15) _ _ _ _ _ :: _) _ _
             refine wpList_load_at 38 (.tmp 14) rfl rfl rfl (sp2 y) HCC.out rowSpan5 ?_)
          | (go_at_call 69; refine HY.out.mono ?_; rintro e w' ⟨rfl, hB1⟩; have HB1 := Lib.hid hB1; clear hB1))
      rotate_left
      · go_ret
        exact ⟨by rw [HST.out]; rfl, hBr.out.trans (HB1.out.mono hBr.out.size)⟩
      · go_roundg gg
        case measure => omega
        case rel => exact ⟨k + 1, by omega, by go_num, by rw [HST.out]; rfl, hBr.out.trans (HB1.out.mono hBr.out.size)⟩

theorem grVG_contains (P : (Int × Int) → Bool) (A : Option Addr) (cap : Nat) (l : List (Int × Int)) (B : Nat) (w : World) (hB : B ≤ w.heap.size) (hz : Vals w B A (l.flatMap sp2)) (hl : l.length ≤ 1000000)
    (HF : ∀ (y : (Int × Int)) (W : World), y ∈ l → Below w.heap.size w W → Calls Try.prog 69 #[.agg (sp2 y).toArray] W fun e w' => e = .returned (.bool (P y)) ∧ Below W.heap.size W w') :
    Calls Try.prog 66 #[.slice A l.length cap, .func (.func 69) #[] #[]] w fun e w' => e = .returned (.bool (l.any P)) ∧ Below w.heap.size w w' := by
  have H := grVG_index P A cap l B w hB hz hl HF
  have e := idxL_any (P := P) l 0
  rw [← e]
  generalize idxL P l 0 = i at H
  have HH := Lib.hid H
  clear H e hz hl HF
  go_enter Try.func66, Try.ntmps66
  go_wp2_with (go_at_call 76; refine HH.out.mono ?_; rintro e w' ⟨rfl, hB1⟩; have HB1 := Lib.hid hB1; clear hB1)
  go_ret
  exact ⟨rfl, HB1.out⟩

set_option maxHeartbeats 2000000 in
theorem grEm_index (P : (Int × Int) → Bool) (A : Option Addr) (cap : Nat) (l : List (Int × Int)) (B : Nat) (w : World) (hB : B ≤ w.heap.size) (hz : Vals w B A (l.flatMap sp2)) (hl : l.length ≤ 1000000)
    (HF : ∀ (y : (Int × Int)) (W : World), y ∈ l → Below w.heap.size w W → Calls Try.prog 67 #[.agg (sp2 y).toArray] W fun e w' => e = .returned (.bool (P y)) ∧ Below W.heap.size W w') :
    Calls Try.prog 76 #[.slice A l.length cap, .func (.func 67) #[] #[]] w fun e w' => e = .returned (.int .i64 (idxL P l 0)) ∧ Below w.heap.size w w' := by
  have HZ := Lib.hid hz
  have HFF := Lib.hid HF
  clear hz HF
  go_enter Try.func76, Try.ntmps76
  go_wp2
  go_loopg [8] l.length (fun gg s8 wx => ∃ k : Nat, k + gg = l.length ∧ s8 = .int .i64 k ∧ Hid (idxL P (l.drop k) k = idxL P l 0) ∧ Hid (Below w.heap.size w wx))
  case atStart => exact ⟨0, by omega, rfl, rfl, Below.refl _ _⟩
  case round =>
    obtain ⟨k, hkg, rfl, hI, hBr⟩ := hrel
    cases gk with
    | zero =>
      obtain rfl : k = l.length := by omega
      go_wp2
      go_ret
      refine ⟨?_, hBr.out⟩
      rw [← hI.out, List.drop_length]
      rfl
    | succ gg =>
      have hk : k < l.length := by omega
      have hkz : (k : Int) < l.length := by omega
      obtain ⟨c, off, hA, hcB, hc⟩ := vals_elem sp2_len HZ.out (by decide) hk
      subst hA
      have hc' : ∀ j v, (sp2 l[k])[j]? = some v → wr.cell? ⟨c, off + k * 2 + j, none⟩ = some v := fun j v hv => (hBr.out.cell (p := ⟨c, off + k * 2 + j, none⟩) (by simp; omega)).trans (hc j v hv)
      have hst := idxL_step (P := P) hk
      rw [hI.out] at hst
      have hy := HFF.out l[k] wr (List.getElem_mem hk) hBr.out
      generalize l[k] = y at hc' hst hy
      have HY := Lib.hid hy
      have HST := Lib.hid hst
      have HCC := Lib.hid hc'
      clear hc hc' hst hy
      cases hp : P y
      all_goals
        rw [hp] at HY HST
        clear hp
        go_wp2_with (first
          | (show wpList _ _ _ (Oper.mk (some 15) _ _ _ _ _ :: _) _ _
             refine wpList_load_at 38 (.tmp 14) rfl rfl rfl (sp2 y) HCC.out rowSpan5 ?_)
          | (go_at_call 67; refine HY.out.mono ?_; rintro e w' ⟨rfl, hB1⟩; have HB1 := Lib.hid hB1; clear hB1))
      rotate_left
      · go_ret
        exact ⟨by rw [HST.out]; rfl, hBr.out.trans (HB1.out.mono hBr.out.size)⟩
      · go_roundg gg
        case measure => omega
        case rel => exact ⟨k + 1, by omega, by go_num, by rw [HST.out]; rfl, hBr.out.trans (HB1.out.mono hBr.out.size)⟩

theorem grEm_contains (P : (Int × Int) → Bool) (A : Option Addr) (cap : Nat) (l : List (Int × Int)) (B : Nat) (w : World) (hB : B ≤ w.heap.size) (hz : Vals w B A (l.flatMap sp2)) (hl : l.length ≤ 1000000)
    (HF : ∀ (y : (Int × Int)) (W : World), y ∈ l → Below w.heap.size w W → Calls Try.prog 67 #[.agg (sp2 y).toArray] W fun e w' => e = .returned (.bool (P y)) ∧ Below W.heap.size W w') :
    Calls Try.prog 66 #[.slice A l.length cap, .func (.func 67) #[] #[]] w fun e w' => e = .returned (.bool (l.any P)) ∧ Below w.heap.size w w' := by
  have H := grEm_index P A cap l B w hB hz hl HF
  have e := idxL_any (P := P) l 0
  rw [← e]
  generalize idxL P l 0 = i at H
  have HH := Lib.hid H
  clear H e hz hl HF
  go_enter Try.func66, Try.ntmps66
  go_wp2_with (go_at_call 76; refine HH.out.mono ?_; rintro e w' ⟨rfl, hB1⟩; have HB1 := Lib.hid hB1; clear hB1)
  go_ret
  exact ⟨rfl, HB1.out⟩

set_option maxHeartbeats 2000000 in
theorem grPW_index (P : Pol → Bool) (b : Nat) (A : Option Addr) (cap : Nat) (l : List Pol) (B : Nat) (w : World) (hB : B ≤ w.heap.size) (hz : Vals w B A (l.flatMap pcl)) (hl : l.length ≤ 1000000)
    (HF : ∀ (y : Pol) (W : World), y ∈ l → Below w.heap.size w W → Calls Try.prog 59 #[.agg (pcl y).toArray, .pointer (some ⟨b, 0, none⟩)] W fun e w' => e = .returned (.bool (P y)) ∧ Below W.heap.size W w') :
    Calls Try.prog 72 #[.slice A l.length cap, .func (.func 59) #[] #[.pointer (some ⟨b, 0, none⟩)]] w fun e w' => e = .returned (.int .i64 (idxL P l 0)) ∧ Below w.heap.size w w' := by
  have HZ := Lib.hid hz
  have HFF := Lib.hid HF
  clear hz HF
  go_enter Try.func72, Try.ntmps72
  go_wp2
  go_loopg [8] l.length (fun gg s8 wx => ∃ k : Nat, k + gg = l.length ∧ s8 = .int .i64 k ∧ Hid (idxL P (l.drop k) k = idxL P l 0) ∧ Hid (Below w.heap.size w wx))
  case atStart => exact ⟨0, by omega, rfl, rfl, Below.refl _ _⟩
  case round =>
    obtain ⟨k, hkg, rfl, hI, hBr⟩ := hrel
    cases gk with
    | zero =>
      obtain rfl : k = l.length := by omega
      go_wp2
      go_ret
      refine ⟨?_, hBr.out⟩
      rw [← hI.out, List.drop_length]
      rfl
    | succ gg =>
      have hk : k < l.length := by omega
      have hkz : (k : Int) < l.length := by omega
      obtain ⟨c, off, hA, hcB, hc⟩ := vals_elem pcl_len HZ.out (by decide) hk
      subst hA
      have hc' : ∀ j v, (pcl l[k])[j]? = some v → wr.cell? ⟨c, off + k * 12 + j, none⟩ = some v := fun j v hv => (hBr.out.cell (p := ⟨c, off + k * 12 + j, none⟩) (by simp; omega)).trans (hc j v hv)
      have hst := idxL_step (P := P) hk
      rw [hI.out] at hst
      have hy := HFF.out l[k] wr (List.getElem_mem hk) hBr.out
      generalize l[k] = y at hc' hst hy
      have HY := Lib.hid hy
      have HST := Lib.hid hst
      have HCC := Lib.hid hc'
      clear hc hc' hst hy
      cases hp : P y
      all_goals
        rw [hp] at HY HST
        clear hp
        go_wp2_with (first
          | (show wpList _ _ _ (Oper.mk (some 15) _ _ _ _ _ :: _) _ _
             refine wpList_load_at 58 (.tmp 14) rfl rfl rfl (pcl y) HCC.out rowPole ?_)
          | (go_at_call 59; refine HY.out.mono ?_; rintro e w' ⟨rfl, hB1⟩; have HB1 := Lib.hid hB1; clear hB1))
      rotate_left
      · go_ret
        exact ⟨by rw [HST.out]; rfl, hBr.out.trans (HB1.out.mono hBr.out.size)⟩
      · go_roundg gg
        case measure => omega
        case rel => exact ⟨k + 1, by omega, by go_num, by rw [HST.out]; rfl, hBr.out.trans (HB1.out.mono hBr.out.size)⟩

end Go.Proofs.Ytboffligjgjgjaa
