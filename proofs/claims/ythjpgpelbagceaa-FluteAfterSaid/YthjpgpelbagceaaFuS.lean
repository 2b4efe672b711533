/-
  Whether something is so of any span of a list; valid notes.
-/
import Derived.Test.YthjpgpelbagceaaFuQ
import Derived.Test.YthjpgpelbagceaaCdD
set_option linter.all false
namespace Go.Proofs.Ythjpgpelbagceaa
open Go.RowKit
open R6 (done done_ne done_me upd_ne upd_me)

attribute [local go_sem] gives

def sp2 (p : Int × Int) : List Value := [.int .i64 p.1, .int .i64 p.2]
theorem sp2_len (p : Int × Int) : (sp2 p).length = 2 := rfl
theorem idxL_ge {α : Type} {P : α → Bool} (l : List α) : decide (0 ≤ idxL P l 0) = l.any P := idxL_any l 0

set_option maxRecDepth 100000 in
set_option maxHeartbeats 4000000 in
theorem idxNo_any (P : Int × Int → Bool) (A : Option Addr) (cap : Nat) (l : List (Int × Int)) (B : Nat) (w : World) (hB : B ≤ w.heap.size) (hz : Vals w B A (pairs l)) (hl : l.length ≤ 1000000)
    (hff : ∀ y W, y ∈ l → Below w.heap.size w W → Calls Try.prog 79 #[.agg (sp2 y).toArray] W fun e w' => e = .returned (.bool (P y)) ∧ Below W.heap.size W w') :
    Calls Try.prog 88 #[.slice A l.length cap, .func (.func 79) #[] #[]] w fun e w' => e = .returned (.int .i64 (idxL P l 0)) ∧ Below w.heap.size w w' := by
  have hz' : Vals w B A (l.flatMap sp2) := hz
  have HZ := Lib.hid hz'
  have HFF := Lib.hid hff
  have HBB := Lib.hid hB
  clear hz hz' hff hB
  go_enter Try.func88, Try.ntmps88
  go_wp2
  go_loopg [8] l.length (fun gg s8 wx => ∃ k : Nat, k + gg = l.length ∧ s8 = .int .i64 k ∧ Hid (idxL P (l.drop k) k = idxL P l 0) ∧ Hid (Below w.heap.size w wx))
  case atStart => exact ⟨0, by omega, rfl, rfl, Below.refl _ _⟩
  case round =>
    obtain ⟨k, hkg, rfl, hI, hBr⟩ := hrel
    cases gk with
    | zero =>
      obtain rfl : k = l.length := by omega
      go_wp2
      go_ret
      refine ⟨?_, hBr.out⟩
      rw [← hI.out, List.drop_length]
      rfl
    | succ gg =>
      have hk : k < l.length := by omega
      have hkz : (k : Int) < l.length := by omega
      obtain ⟨c, off, hA, hcB, hc⟩ := vals_elem sp2_len HZ.out (by decide) hk
      subst hA
      have hc' : ∀ j v, (sp2 l[k])[j]? = some v → wr.cell? ⟨c, off + k * 2 + j, none⟩ = some v := fun j v hv => (hBr.out.cell (p := ⟨c, off + k * 2 + j, none⟩) (by have := HBB.out; simp; omega)).trans (hc j v hv)
      have hst := idxL_step (P := P) hk
      rw [hI.out] at hst
      have hy := HFF.out _ wr (List.getElem_mem hk) hBr.out
      generalize l[k] = y at hc' hst hy
      have HY := Lib.hid hy
      have HST := Lib.hid hst
      have HCC := Lib.hid hc'
      clear hc hc' hst hy
      cases hp : P y
      all_goals
        rw [hp] at HY HST
        clear hp
        go_wp2_with (first
          | (show wpList _ _ _ (Oper.mk (some 15) _ _ _ _ _ :: _) _ _
             refine wpList_load_at 25 (.tmp 14) rfl rfl rfl (sp2 y) HCC.out rowSpan ?_)
          | (go_at_call 79; refine HY.out.mono ?_; rintro e w' ⟨rfl, hB1⟩; have HB1 := Lib.hid hB1; clear hB1))
      rotate_left
      · go_ret
        exact ⟨by rw [HST.out]; rfl, hBr.out.trans (HB1.out.mono hBr.out.size)⟩
      · go_roundg gg
        case measure => omega
        case rel => exact ⟨k + 1, by omega, by go_num, by rw [HST.out]; rfl, hBr.out.trans (HB1.out.mono hBr.out.size)⟩
theorem hasNo_any (P : Int × Int → Bool) (A : Option Addr) (cap : Nat) (l : List (Int × Int)) (B : Nat) (w : World) (hB : B ≤ w.heap.size) (hz : Vals w B A (pairs l)) (hl : l.length ≤ 1000000)
    (hff : ∀ y W, y ∈ l → Below w.heap.size w W → Calls Try.prog 79 #[.agg (sp2 y).toArray] W fun e w' => e = .returned (.bool (P y)) ∧ Below W.heap.size W w') :
    Calls Try.prog 68 #[.slice A l.length cap, .func (.func 79) #[] #[]] w fun e w' => e = .returned (.bool (l.any P)) ∧ Below w.heap.size w w' := by
  have H := idxNo_any P A cap l B w hB hz hl hff
  rw [← idxL_ge]
  generalize idxL P l 0 = i at H
  have HH := Lib.hid H
  clear H hz hff
  go_enter Try.func68, Try.ntmps68
  go_wp2_with (go_at_call 88; refine HH.out.mono ?_; rintro e w' ⟨rfl, hB1⟩; have HB1 := Lib.hid hB1; clear hB1)
  go_ret
  exact ⟨rfl, HB1.out⟩

set_option maxRecDepth 100000 in
set_option maxHeartbeats 4000000 in
theorem idxPl_any (P : Int × Int → Bool) (b : Nat) (A : Option Addr) (cap : Nat) (l : List (Int × Int)) (B : Nat) (w : World) (hB : B ≤ w.heap.size) (hz : Vals w B A (pairs l)) (hl : l.length ≤ 1000000)
    (hff : ∀ y W, y ∈ l → Below w.heap.size w W → Calls Try.prog 70 #[.agg (sp2 y).toArray, .pointer (some ⟨b, 0, none⟩)] W fun e w' => e = .returned (.bool (P y)) ∧ Below W.heap.size W w') :
    Calls Try.prog 88 #[.slice A l.length cap, .func (.func 70) #[] #[.pointer (some ⟨b, 0, none⟩)]] w fun e w' => e = .returned (.int .i64 (idxL P l 0)) ∧ Below w.heap.size w w' := by
  have hz' : Vals w B A (l.flatMap sp2) := hz
  have HZ := Lib.hid hz'
  have HFF := Lib.hid hff
  have HBB := Lib.hid hB
  clear hz hz' hff hB
  go_enter Try.func88, Try.ntmps88
  go_wp2
  go_loopg [8] l.length (fun gg s8 wx => ∃ k : Nat, k + gg = l.length ∧ s8 = .int .i64 k ∧ Hid (idxL P (l.drop k) k = idxL P l 0) ∧ Hid (Below w.heap.size w wx))
  case atStart => exact ⟨0, by omega, rfl, rfl, Below.refl _ _⟩
  case round =>
    obtain ⟨k, hkg, rfl, hI, hBr⟩ := hrel
    cases gk with
    | zero =>
      obtain rfl : k = l.length := by omega
      go_wp2
      go_ret
      refine ⟨?_, hBr.out⟩
      rw [← hI.out, List.drop_length]
      rfl
    | succ gg =>
      have hk : k < l.length := by omega
      have hkz : (k : Int) < l.length := by omega
      obtain ⟨c, off, hA, hcB, hc⟩ := vals_elem sp2_len HZ.out (by decide) hk
      subst hA
      have hc' : ∀ j v, (sp2 l[k])[j]? = some v → wr.cell? ⟨c, off + k * 2 + j, none⟩ = some v := fun j v hv => (hBr.out.cell (p := ⟨c, off + k * 2 + j, none⟩) (by have := HBB.out; simp; omega)).trans (hc j v hv)
      have hst := idxL_step (P := P) hk
      rw [hI.out] at hst
      have hy := HFF.out _ wr (List.getElem_mem hk) hBr.out
      generalize l[k] = y at hc' hst hy
      have HY := Lib.hid hy
      have HST := Lib.hid hst
      have HCC := Lib.hid hc'
      clear hc hc' hst hy
      cases hp : P y
      all_goals
        rw [hp] at HY HST
        clear hp
        go_wp2_with (first
          | (show wpList _ _ _ (Oper.mk (some 15) _ _ _ _ _ :: _) _ _
             refine wpList_load_at 25 (.tmp 14) rfl rfl rfl (sp2 y) HCC.out rowSpan ?_)
          | (go_at_call 70; refine HY.out.mono ?_; rintro e w' ⟨rfl, hB1⟩; have HB1 := Lib.hid hB1; clear hB1))
      rotate_left
      · go_ret
        exact ⟨by rw [HST.out]; rfl, hBr.out.trans (HB1.out.mono hBr.out.size)⟩
      · go_roundg gg
        case measure => omega
        case rel => exact ⟨k + 1, by omega, by go_num, by rw [HST.out]; rfl, hBr.out.trans (HB1.out.mono hBr.out.size)⟩
theorem hasPl_any (P : Int × Int → Bool) (b : Nat) (A : Option Addr) (cap : Nat) (l : List (Int × Int)) (B : Nat) (w : World) (hB : B ≤ w.heap.size) (hz : Vals w B A (pairs l)) (hl : l.length ≤ 1000000)
    (hff : ∀ y W, y ∈ l → Below w.heap.size w W → Calls Try.prog 70 #[.agg (sp2 y).toArray, .pointer (some ⟨b, 0, none⟩)] W fun e w' => e = .returned (.bool (P y)) ∧ Below W.heap.size W w') :
    Calls Try.prog 68 #[.slice A l.length cap, .func (.func 70) #[] #[.pointer (some ⟨b, 0, none⟩)]] w fun e w' => e = .returned (.bool (l.any P)) ∧ Below w.heap.size w w' := by
  have H := idxPl_any P b A cap l B w hB hz hl hff
  rw [← idxL_ge]
  generalize idxL P l 0 = i at H
  have HH := Lib.hid H
  clear H hz hff
  go_enter Try.func68, Try.ntmps68
  go_wp2_with (go_at_call 88; refine HH.out.mono ?_; rintro e w' ⟨rfl, hB1⟩; have HB1 := Lib.hid hB1; clear hB1)
  go_ret
  exact ⟨rfl, HB1.out⟩

theorem notValid_any (y : Int × Int) (w : World) :
    Calls Try.prog 79 #[.agg (sp2 y).toArray] w fun e w' => e = .returned (.bool (!okNo1 y)) ∧ Below w.heap.size w w' := by
  obtain ⟨y0, y1⟩ := y
  have hno : okNo1 (y0, y1) = okS y0 y1 1 10000000 := rfl
  rw [hno]
  have HNO := Lib.hid (fun W => validNote_any y0 y1 W)
  generalize okS y0 y1 1 10000000 = v at HNO ⊢
  unfold sp2
  cases v
  all_goals
    go_enter Try.func79, Try.ntmps79
    go_wp2_with (go_at_call 46; refine (HNO.out _).mono ?_; rintro e w3 ⟨rfl, hB3⟩; have H3 := Lib.hid hB3; clear hB3)
    go_ret
    exact ⟨rfl, (grow1 w _).trans (H3.out.mono (grow1 w _).size)⟩

theorem okNos_eq (l : List (Int × Int)) : okNos l = (allB 1 9 [(l.length : Int)] && !(l.any fun y => !okNo1 y)) := by
  have e1 : l.all okNo1 = !(l.any fun y => !okNo1 y) := by
    induction l with
    | nil => rfl
    | cons x l ih => simp only [List.all_cons, List.any_cons, ih]; cases okNo1 x <;> simp
  unfold okNos
  rw [e1, allB_one]
  congr 1
  rw [Bool.eq_iff_iff]
  simp only [Bool.and_eq_true, decide_eq_true_eq, inR_iff]
  omega

set_option maxRecDepth 100000 in
set_option maxHeartbeats 4000000 in
theorem validNotes_any (A : Option Addr) (cap : Nat) (l : List (Int × Int)) (hl : l.length ≤ 1000000) (B : Nat) (w : World) (hB : B ≤ w.heap.size) (hz : Vals w B A (pairs l)) :
    Calls Try.prog 49 #[.slice A l.length cap] w fun e w' => e = .returned (.bool (okNos l)) ∧ Below w.heap.size w w' := by
  rw [okNos_eq]
  have HW := Lib.hid (fun W g hg => within_new 1 9 [(l.length : Int)] W g 1 1 rfl hg (by simp))
  have hh := fun W (hW : Below w.heap.size w W) => hasNo_any (fun y => !okNo1 y) A cap l B W (Nat.le_trans hB hW.size) (Vals.below hz (hW.mono hB)) hl (fun y W1 _ _ => notValid_any y W1)
  have HH := Lib.hid hh
  clear hh hz
  generalize l.any (fun y => !okNo1 y) = v2 at HH ⊢
  generalize allB 1 9 [(l.length : Int)] = v1 at HW ⊢
  have hlz : (l.length : Int) ≤ 1000000 := by omega
  generalize l.length = n at HW HH hlz ⊢
  clear hl hB
  cases v1
  · go_enter Try.func49, Try.ntmps49
    go_wp2_with (first
      | (go_at_call 65; refine (fromOne_any _ _).mono ?_; rintro e w2 ⟨rfl, hB2⟩; have H2 := Lib.hid hB2; clear hB2)
      | (go_at_call 64; refine (HW.out _ _ (alloc_at0 _ _)).mono ?_; rintro e w3 ⟨rfl, hB3⟩; have H3 := Lib.hid (H2.out.trans (((grow1 w2 _).trans (hB3.mono (grow1 w2 _).size)).mono H2.out.size)); clear hB3))
    go_ret
    exact ⟨rfl, H3.out⟩
  · cases v2
    all_goals
      go_enter Try.func49, Try.ntmps49
      go_wp2_with (first
        | (go_at_call 65; refine (fromOne_any _ _).mono ?_; rintro e w2 ⟨rfl, hB2⟩; have H2 := Lib.hid hB2; clear hB2)
        | (go_at_call 64; refine (HW.out _ _ (alloc_at0 _ _)).mono ?_; rintro e w3 ⟨rfl, hB3⟩; have H3 := Lib.hid (H2.out.trans (((grow1 w2 _).trans (hB3.mono (grow1 w2 _).size)).mono H2.out.size)); clear hB3)
        | (go_at_call 68; refine (HH.out _ H3.out).mono ?_; rintro e w4 ⟨rfl, hB4⟩; have H4 := Lib.hid (H3.out.trans (hB4.mono H3.out.size)); clear hB4))
      go_ret
      exact ⟨rfl, H4.out⟩

end Go.Proofs.Ythjpgpelbagceaa
