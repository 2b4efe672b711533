/-
  Texts laid together: FuS, FuT, FuD, FuC, FuC2.
-/
import Derived.Test.YtjjipkgconmfcaaB97
import Derived.Test.YtjjipkgconmfcaaB95
import Derived.Test.YtjjipkgconmfcaaB96
set_option linter.all false
namespace Go.Proofs.Ytjjipkgconmfcaa
open Go.RowKit
open R6 (done done_ne done_me upd_ne upd_me)

attribute [local go_sem] gives

def sp2 (p : Int × Int) : List Value := [.int .i64 p.1, .int .i64 p.2]
theorem sp2_len (p : Int × Int) : (sp2 p).length = 2 := rfl
theorem idxL_ge {α : Type} {P : α → Bool} (l : List α) : decide (0 ≤ idxL P l 0) = l.any P := idxL_any l 0

set_option maxRecDepth 100000 in
set_option maxHeartbeats 4000000 in
theorem idxNo_any (P : Int × Int → Bool) (A : Option Addr) (cap : Nat) (l : List (Int × Int)) (B : Nat) (w : World) (hB : B ≤ w.heap.size) (hz : Vals w B A (pairs l)) (hl : l.length ≤ 1000000)
    (hff : ∀ y W, y ∈ l → Below w.heap.size w W → Calls Try.prog 79 #[.agg (sp2 y).toArray] W fun e w' => e = .returned (.bool (P y)) ∧ Below W.heap.size W w') :
    Calls Try.prog 88 #[.slice A l.length cap, .func (.func 79) #[] #[]] w fun e w' => e = .returned (.int .i64 (idxL P l 0)) ∧ Below w.heap.size w w' := by
  have hz' : Vals w B A (l.flatMap sp2) := hz
  have HZ := Lib.hid hz'
  have HFF := Lib.hid hff
  have HBB := Lib.hid hB
  clear hz hz' hff hB
  go_enter Try.func88, Try.ntmps88
  go_wp2
  go_loopg [8] l.length (fun gg s8 wx => ∃ k : Nat, k + gg = l.length ∧ s8 = .int .i64 k ∧ Hid (idxL P (l.drop k) k = idxL P l 0) ∧ Hid (Below w.heap.size w wx))
  case atStart => exact ⟨0, by omega, rfl, rfl, Below.refl _ _⟩
  case round =>
    obtain ⟨k, hkg, rfl, hI, hBr⟩ := hrel
    cases gk with
    | zero =>
      obtain rfl : k = l.length := by omega
      go_wp2
      go_ret
      refine ⟨?_, hBr.out⟩
      rw [← hI.out, List.drop_length]
      rfl
    | succ gg =>
      have hk : k < l.length := by omega
      have hkz : (k : Int) < l.length := by omega
      obtain ⟨c, off, hA, hcB, hc⟩ := vals_elem sp2_len HZ.out (by decide) hk
      subst hA
      have hc' : ∀ j v, (sp2 l[k])[j]? = some v → wr.cell? ⟨c, off + k * 2 + j, none⟩ = some v := fun j v hv => (hBr.out.cell (p := ⟨c, off + k * 2 + j, none⟩) (by have := HBB.out; simp; omega)).trans (hc j v hv)
      have hst := idxL_step (P := P) hk
      rw [hI.out] at hst
      have hy := HFF.out _ wr (List.getElem_mem hk) hBr.out
      generalize l[k] = y at hc' hst hy
      have HY := Lib.hid hy
      have HST := Lib.hid hst
      have HCC := Lib.hid hc'
      clear hc hc' hst hy
      cases hp : P y
      all_goals
        rw [hp] at HY HST
        clear hp
        go_wp2_with (first
          | (show wpList _ _ _ (Oper.mk (some 15) _ _ _ _ _ :: _) _ _
             refine wpList_load_at 25 (.tmp 14) rfl rfl rfl (sp2 y) HCC.out rowSpan ?_)
          | (go_at_call 79; refine HY.out.mono ?_; rintro e w' ⟨rfl, hB1⟩; have HB1 := Lib.hid hB1; clear hB1))
      rotate_left
      · go_ret
        exact ⟨by rw [HST.out]; rfl, hBr.out.trans (HB1.out.mono hBr.out.size)⟩
      · go_roundg gg
        case measure => omega
        case rel => exact ⟨k + 1, by omega, by go_num, by rw [HST.out]; rfl, hBr.out.trans (HB1.out.mono hBr.out.size)⟩
theorem hasNo_any (P : Int × Int → Bool) (A : Option Addr) (cap : Nat) (l : List (Int × Int)) (B : Nat) (w : World) (hB : B ≤ w.heap.size) (hz : Vals w B A (pairs l)) (hl : l.length ≤ 1000000)
    (hff : ∀ y W, y ∈ l → Below w.heap.size w W → Calls Try.prog 79 #[.agg (sp2 y).toArray] W fun e w' => e = .returned (.bool (P y)) ∧ Below W.heap.size W w') :
    Calls Try.prog 68 #[.slice A l.length cap, .func (.func 79) #[] #[]] w fun e w' => e = .returned (.bool (l.any P)) ∧ Below w.heap.size w w' := by
  have H := idxNo_any P A cap l B w hB hz hl hff
  rw [← idxL_ge]
  generalize idxL P l 0 = i at H
  have HH := Lib.hid H
  clear H hz hff
  go_enter Try.func68, Try.ntmps68
  go_wp2_with (go_at_call 88; refine HH.out.mono ?_; rintro e w' ⟨rfl, hB1⟩; have HB1 := Lib.hid hB1; clear hB1)
  go_ret
  exact ⟨rfl, HB1.out⟩

set_option maxRecDepth 100000 in
set_option maxHeartbeats 4000000 in
theorem idxPl_any (P : Int × Int → Bool) (b : Nat) (A : Option Addr) (cap : Nat) (l : List (Int × Int)) (B : Nat) (w : World) (hB : B ≤ w.heap.size) (hz : Vals w B A (pairs l)) (hl : l.length ≤ 1000000)
    (hff : ∀ y W, y ∈ l → Below w.heap.size w W → Calls Try.prog 70 #[.agg (sp2 y).toArray, .pointer (some ⟨b, 0, none⟩)] W fun e w' => e = .returned (.bool (P y)) ∧ Below W.heap.size W w') :
    Calls Try.prog 88 #[.slice A l.length cap, .func (.func 70) #[] #[.pointer (some ⟨b, 0, none⟩)]] w fun e w' => e = .returned (.int .i64 (idxL P l 0)) ∧ Below w.heap.size w w' := by
  have hz' : Vals w B A (l.flatMap sp2) := hz
  have HZ := Lib.hid hz'
  have HFF := Lib.hid hff
  have HBB := Lib.hid hB
  clear hz hz' hff hB
  go_enter Try.func88, Try.ntmps88
  go_wp2
  go_loopg [8] l.length (fun gg s8 wx => ∃ k : Nat, k + gg = l.length ∧ s8 = .int .i64 k ∧ Hid (idxL P (l.drop k) k = idxL P l 0) ∧ Hid (Below w.heap.size w wx))
  case atStart => exact ⟨0, by omega, rfl, rfl, Below.refl _ _⟩
  case round =>
    obtain ⟨k, hkg, rfl, hI, hBr⟩ := hrel
    cases gk with
    | zero =>
      obtain rfl : k = l.length := by omega
      go_wp2
      go_ret
      refine ⟨?_, hBr.out⟩
      rw [← hI.out, List.drop_length]
      rfl
    | succ gg =>
      have hk : k < l.length := by omega
      have hkz : (k : Int) < l.length := by omega
      obtain ⟨c, off, hA, hcB, hc⟩ := vals_elem sp2_len HZ.out (by decide) hk
      subst hA
      have hc' : ∀ j v, (sp2 l[k])[j]? = some v → wr.cell? ⟨c, off + k * 2 + j, none⟩ = some v := fun j v hv => (hBr.out.cell (p := ⟨c, off + k * 2 + j, none⟩) (by have := HBB.out; simp; omega)).trans (hc j v hv)
      have hst := idxL_step (P := P) hk
      rw [hI.out] at hst
      have hy := HFF.out _ wr (List.getElem_mem hk) hBr.out
      generalize l[k] = y at hc' hst hy
      have HY := Lib.hid hy
      have HST := Lib.hid hst
      have HCC := Lib.hid hc'
      clear hc hc' hst hy
      cases hp : P y
      all_goals
        rw [hp] at HY HST
        clear hp
        go_wp2_with (first
          | (show wpList _ _ _ (Oper.mk (some 15) _ _ _ _ _ :: _) _ _
             refine wpList_load_at 25 (.tmp 14) rfl rfl rfl (sp2 y) HCC.out rowSpan ?_)
          | (go_at_call 70; refine HY.out.mono ?_; rintro e w' ⟨rfl, hB1⟩; have HB1 := Lib.hid hB1; clear hB1))
      rotate_left
      · go_ret
        exact ⟨by rw [HST.out]; rfl, hBr.out.trans (HB1.out.mono hBr.out.size)⟩
      · go_roundg gg
        case measure => omega
        case rel => exact ⟨k + 1, by omega, by go_num, by rw [HST.out]; rfl, hBr.out.trans (HB1.out.mono hBr.out.size)⟩
theorem hasPl_any (P : Int × Int → Bool) (b : Nat) (A : Option Addr) (cap : Nat) (l : List (Int × Int)) (B : Nat) (w : World) (hB : B ≤ w.heap.size) (hz : Vals w B A (pairs l)) (hl : l.length ≤ 1000000)
    (hff : ∀ y W, y ∈ l → Below w.heap.size w W → Calls Try.prog 70 #[.agg (sp2 y).toArray, .pointer (some ⟨b, 0, none⟩)] W fun e w' => e = .returned (.bool (P y)) ∧ Below W.heap.size W w') :
    Calls Try.prog 68 #[.slice A l.length cap, .func (.func 70) #[] #[.pointer (some ⟨b, 0, none⟩)]] w fun e w' => e = .returned (.bool (l.any P)) ∧ Below w.heap.size w w' := by
  have H := idxPl_any P b A cap l B w hB hz hl hff
  rw [← idxL_ge]
  generalize idxL P l 0 = i at H
  have HH := Lib.hid H
  clear H hz hff
  go_enter Try.func68, Try.ntmps68
  go_wp2_with (go_at_call 88; refine HH.out.mono ?_; rintro e w' ⟨rfl, hB1⟩; have HB1 := Lib.hid hB1; clear hB1)
  go_ret
  exact ⟨rfl, HB1.out⟩

theorem notValid_any (y : Int × Int) (w : World) :
    Calls Try.prog 79 #[.agg (sp2 y).toArray] w fun e w' => e = .returned (.bool (!okNo1 y)) ∧ Below w.heap.size w w' := by
  obtain ⟨y0, y1⟩ := y
  have hno : okNo1 (y0, y1) = okS y0 y1 1 10000000 := rfl
  rw [hno]
  have HNO := Lib.hid (fun W => validNote_any y0 y1 W)
  generalize okS y0 y1 1 10000000 = v at HNO ⊢
  unfold sp2
  cases v
  all_goals
    go_enter Try.func79, Try.ntmps79
    go_wp2_with (go_at_call 46; refine (HNO.out _).mono ?_; rintro e w3 ⟨rfl, hB3⟩; have H3 := Lib.hid hB3; clear hB3)
    go_ret
    exact ⟨rfl, (grow1 w _).trans (H3.out.mono (grow1 w _).size)⟩

theorem okNos_eq (l : List (Int × Int)) : okNos l = (allB 1 9 [(l.length : Int)] && !(l.any fun y => !okNo1 y)) := by
  have e1 : l.all okNo1 = !(l.any fun y => !okNo1 y) := by
    induction l with
    | nil => rfl
    | cons x l ih => simp only [List.all_cons, List.any_cons, ih]; cases okNo1 x <;> simp
  unfold okNos
  rw [e1, allB_one]
  congr 1
  rw [Bool.eq_iff_iff]
  simp only [Bool.and_eq_true, decide_eq_true_eq, inR_iff]
  omega

set_option maxRecDepth 100000 in
set_option maxHeartbeats 4000000 in
theorem validNotes_any (A : Option Addr) (cap : Nat) (l : List (Int × Int)) (hl : l.length ≤ 1000000) (B : Nat) (w : World) (hB : B ≤ w.heap.size) (hz : Vals w B A (pairs l)) :
    Calls Try.prog 49 #[.slice A l.length cap] w fun e w' => e = .returned (.bool (okNos l)) ∧ Below w.heap.size w w' := by
  rw [okNos_eq]
  have HW := Lib.hid (fun W g hg => within_new 1 9 [(l.length : Int)] W g 1 1 rfl hg (by simp))
  have hh := fun W (hW : Below w.heap.size w W) => hasNo_any (fun y => !okNo1 y) A cap l B W (Nat.le_trans hB hW.size) (Vals.below hz (hW.mono hB)) hl (fun y W1 _ _ => notValid_any y W1)
  have HH := Lib.hid hh
  clear hh hz
  generalize l.any (fun y => !okNo1 y) = v2 at HH ⊢
  generalize allB 1 9 [(l.length : Int)] = v1 at HW ⊢
  have hlz : (l.length : Int) ≤ 1000000 := by omega
  generalize l.length = n at HW HH hlz ⊢
  clear hl hB
  cases v1
  · go_enter Try.func49, Try.ntmps49
    go_wp2_with (first
      | (go_at_call 65; refine (fromOne_any _ _).mono ?_; rintro e w2 ⟨rfl, hB2⟩; have H2 := Lib.hid hB2; clear hB2)
      | (go_at_call 64; refine (HW.out _ _ (alloc_at0 _ _)).mono ?_; rintro e w3 ⟨rfl, hB3⟩; have H3 := Lib.hid (H2.out.trans (((grow1 w2 _).trans (hB3.mono (grow1 w2 _).size)).mono H2.out.size)); clear hB3))
    go_ret
    exact ⟨rfl, H3.out⟩
  · cases v2
    all_goals
      go_enter Try.func49, Try.ntmps49
      go_wp2_with (first
        | (go_at_call 65; refine (fromOne_any _ _).mono ?_; rintro e w2 ⟨rfl, hB2⟩; have H2 := Lib.hid hB2; clear hB2)
        | (go_at_call 64; refine (HW.out _ _ (alloc_at0 _ _)).mono ?_; rintro e w3 ⟨rfl, hB3⟩; have H3 := Lib.hid (H2.out.trans (((grow1 w2 _).trans (hB3.mono (grow1 w2 _).size)).mono H2.out.size)); clear hB3)
        | (go_at_call 68; refine (HH.out _ H3.out).mono ?_; rintro e w4 ⟨rfl, hB4⟩; have H4 := Lib.hid (H3.out.trans (hB4.mono H3.out.size)); clear hB4))
      go_ret
      exact ⟨rfl, H4.out⟩

end Go.Proofs.Ytjjipkgconmfcaa

namespace Go.Proofs.Ytjjipkgconmfcaa
open Go.RowKit
open R6 (done done_ne done_me upd_ne upd_me)

attribute [local go_sem] gives

/-- What sounds up to a place, as a value. -/
def uptV (b : Bk) (first : Bool) (p : Int) : Value := if first = true then .iface 115 (.agg #[.int .i64 p, .int .i64 b.e0, .int .i64 b.e1]) else .iface 119 (.agg #[.int .i64 p, .int .i64 b.f0, .int .i64 b.f1, .slice none 0 0])

set_option maxRecDepth 100000 in
theorem upTo9_any (b : Bk) (A : Option Addr) (n cap : Nat) (hn : n ≤ 1000000) (p : Int) (w : World) :
    Calls Try.prog 81 #[.agg (bkc b).toArray, .slice A n cap, .int .i64 p] w fun e w' => e = .returned (uptV b (n == 0) p) ∧ Below w.heap.size w w' := by
  unfold bkc
  cases n with
  | zero =>
    go_enter Try.func81, Try.ntmps81
    go_wp2
    go_ret
    exact ⟨rfl, (Below.refl _ _).alloc (Nat.le_refl _) _⟩
  | succ k =>
    have hk : ((k + 1 : Nat) : Int) ≠ 0 := by omega
    have hu : uptV b (k + 1 == 0) p = .iface 119 (.agg #[.int .i64 p, .int .i64 b.f0, .int .i64 b.f1, .slice none 0 0]) := rfl
    rw [hu]
    have hkz : (((k + 1 : Nat) : Int) == 0) = false := by simpa using hk
    generalize k + 1 = m at hk hkz ⊢
    go_enter Try.func81, Try.ntmps81
    go_wp2
    go_ret
    exact ⟨rfl, (Below.refl _ _).alloc (Nat.le_refl _) _⟩

/-- What the search for the greatest number finds. -/
def IsGr (so : Int → Bool) (least most x : Int) : Prop := least - 1 ≤ x ∧ (x ≤ most ∨ x = least - 1) ∧ (least ≤ x → so x = true) ∧ ∀ m, x < m → m ≤ most → so m = false

set_option maxRecDepth 100000 in
set_option maxHeartbeats 4000000 in
theorem greatest_any (so : Int → Bool) (least most : Int) (h1 : -100000 ≤ least ∧ least ≤ 100000) (h2 : -100000 ≤ most ∧ most ≤ 100000) (hmo : ∀ a b, least ≤ a → a ≤ b → b ≤ most → so b = true → so a = true)
    (p q : Value) (w : World)
    (hso : ∀ m W, Below w.heap.size w W → least ≤ m → m ≤ most → Calls Try.prog 82 #[.int .i64 m, p, q] W fun e w' => e = .returned (.bool (so m)) ∧ Below W.heap.size W w') :
    Calls Try.prog 83 #[.int .i64 least, .int .i64 most, .func (.func 82) #[] #[p, q]] w fun e w' => (∃ x, e = .returned (.tuple #[.int .i64 x, .bool (decide (least ≤ x))]) ∧ IsGr so least most x) ∧ Below w.heap.size w w' := by
  have HSO := Lib.hid hso
  have HMO := Lib.hid hmo
  have h11 := h1.1
  have h12 := h1.2
  have h21 := h2.1
  have h22 := h2.2
  clear hso hmo h1 h2
  go_enter Try.func83, Try.ntmps83
  go_wp2
  go_loopg [6, 1] (most - (least - 1)).toNat (fun gg s6 s1 wx => ∃ n m : Int, s6 = .int .i64 n ∧ s1 = .int .i64 m ∧ Hid (gg = (m - n).toNat) ∧ Hid (least - 1 ≤ n ∧ (n ≤ most ∨ n = least - 1) ∧ m ≤ most ∧ (n ≤ m ∨ n = least - 1) ∧ -100001 ≤ m ∧ (least ≤ n → so n = true) ∧ ∀ x, m < x → x ≤ most → so x = false) ∧ Hid (Below w.heap.size w wx))
  case atStart => exact ⟨least - 1, most, by go_num, rfl, rfl, ⟨by omega, .inr rfl, by omega, .inr rfl, by omega, fun h => by omega, fun x h h' => by omega⟩, Below.refl _ _⟩
  case round =>
    obtain ⟨n, m, rfl, rfl, hgg, hI, hBr⟩ := hrel
    have hn1 := hI.out.1
    have hn2 : n ≤ 100000 := by have := hI.out.2.1; omega
    have hm1 := hI.out.2.2.1
    have hm2 := hI.out.2.2.2.2.1
    by_cases hlt : n < m
    · obtain ⟨d, hd⟩ : ∃ d, d = (m - n) / 2 := ⟨_, rfl⟩
      have hd0 : 0 ≤ d := by omega
      have hd1 : d < m - n := by omega
      have hd2 : m - n - 1 ≤ 2 * d := by omega
      have hmn : 0 ≤ m - n := by omega
      have hc1 := HSO.out (m - d) wr hBr.out (by omega) (by omega)
      have HD := Lib.hid hd
      have HC := Lib.hid hc1
      have HH := Lib.hid (And.intro hd0 (And.intro hd1 hlt))
      clear hc1
      cases hs : so (m - d) with
      | true =>
        have HS := Lib.hid hs
        clear hs
        go_wp2_with (go_at_call 82; rw [← hd]; refine HC.out.mono ?_; rintro e w' ⟨rfl, hB1⟩; rw [HS.out]; have HB1 := Lib.hid hB1; clear hB1)
        go_roundg (m - (m - d)).toNat
        case measure => have := hgg.out; omega
        case rel => exact ⟨m - d, m, by rw [HD.out], rfl, rfl, ⟨by omega, .inl (by omega), hm1, .inl (by omega), hm2, fun _ => HS.out, hI.out.2.2.2.2.2.2⟩, hBr.out.trans (HB1.out.mono hBr.out.size)⟩
      | false =>
        have HS := Lib.hid hs
        clear hs
        go_wp2_with (go_at_call 82; rw [← hd]; refine HC.out.mono ?_; rintro e w' ⟨rfl, hB1⟩; rw [HS.out]; have HB1 := Lib.hid hB1; clear hB1)
        go_roundg (m - d - 1 - n).toNat
        case measure => have := hgg.out; omega
        case rel =>
          refine ⟨n, m - d - 1, rfl, by rw [HD.out], rfl, ⟨hn1, hI.out.2.1, by omega, ?_, by omega, hI.out.2.2.2.2.2.1, fun x h h' => ?_⟩, hBr.out.trans (HB1.out.mono hBr.out.size)⟩
          · have := HH.out; omega
          · rcases Int.lt_or_le m x with h9 | h9
            · exact hI.out.2.2.2.2.2.2 x h9 h'
            · cases hx : so x
              · rfl
              · have := HMO.out (m - d) x (by have := HH.out; omega) (by omega) h' hx
                rw [HS.out] at this
                cases this
    · have HLT := Lib.hid hlt
      go_wp2
      go_ret2
      refine ⟨⟨n, ?_, hn1, hI.out.2.1, hI.out.2.2.2.2.2.1, fun x h h' => ?_⟩, hBr.out⟩
      · rfl
      · rcases hI.out.2.2.2.1 with h9 | h9
        · exact hI.out.2.2.2.2.2.2 x (by have := HLT.out; omega) h'
        · exact hI.out.2.2.2.2.2.2 x (by have := HLT.out; omega) h'

end Go.Proofs.Ytjjipkgconmfcaa

namespace Go.Proofs.Ytjjipkgconmfcaa
open Go.RowKit
open R6 (done done_ne done_me upd_ne upd_me)

attribute [local go_sem] gives

theorem tone_any (s l : Int) (h0 : 0 ≤ s) (h1 : s ≤ 500000) (h2 : 50 ≤ l) (h3 : l ≤ 30000) (w : World) :
    Calls Try.prog 91 #[.int .i64 s, .int .i64 l] w fun e w' => e = .returned (.int .i64 (500 * s / l)) ∧ w = w' := by
  go_enter Try.func91, Try.ntmps91
  go_wp2
  go_ret
  exact ⟨rfl, rfl⟩

theorem one_any (n : Int) (w : World) : Calls Try.prog 115 #[.int .i64 n] w fun e w' => e = .returned (.agg #[.int .i64 n, .int .i64 n]) ∧ Below w.heap.size w w' := by
  go_enter Try.func115, Try.ntmps115
  go_wp2
  refine bodyPost_ret (v := .agg #[.int .i64 n, .int .i64 n]) (by simp [results, Try.results115, go_sem]) rfl ⟨rfl, ?_⟩
  exact (Below.refl _ _).alloc (Nat.le_refl _) _

theorem inside_any (a b x y : Int) (w : World) : Calls Try.prog 78 #[.agg #[.int .i64 a, .int .i64 b], .agg #[.int .i64 x, .int .i64 y]] w fun e w' => e = .returned (.bool (insB (a, b) (x, y))) ∧ Below w.heap.size w w' := by
  obtain ⟨v, hv⟩ : ∃ v, insB (a, b) (x, y) = v := ⟨_, rfl⟩
  rw [hv]
  have HV := Lib.hid hv
  clear hv
  go_enter Try.func78, Try.ntmps78
  go_wp2
  all_goals
    go_ret
    refine ⟨?_, ((Below.refl _ _).alloc (Nat.le_refl _) _).alloc (by simp) _⟩
    rw [← HV.out]
    refine congrArg (fun v => Ending.returned (Value.bool v)) ?_
    simp only [insB]
    first
      | (rw [decide_eq_true (by omega), decide_eq_true (by omega)]; rfl)
      | (rw [decide_eq_false (p := a ≤ x) (by omega)]; rfl)
      | (rw [decide_eq_false (p := y ≤ b) (by omega), Bool.and_false])

def spAdd (a b : Int × Int) : Int × Int := (a.1 + b.1, a.2 + b.2)
def sumSp (l : List (Int × Int)) : Int × Int := l.foldl spAdd (0, 0)
theorem sumSp_snoc (l : List (Int × Int)) (x : Int × Int) : sumSp (l ++ [x]) = spAdd (sumSp l) x := by simp [sumSp]
theorem sumSp_take {l : List (Int × Int)} {k : Nat} (hk : k < l.length) : sumSp (l.take (k + 1)) = spAdd (sumSp (l.take k)) l[k] := by
  rw [List.take_succ_eq_append_getElem hk, sumSp_snoc]
/-- Spans that are not great. -/
def smSp (l : List (Int × Int)) : Prop := ∀ x ∈ l, 0 ≤ x.1 ∧ x.1 ≤ 100000 ∧ 0 ≤ x.2 ∧ x.2 ≤ 100000
theorem sumSp_bnd {l : List (Int × Int)} (h : smSp l) : ∀ k, k ≤ l.length → 0 ≤ (sumSp (l.take k)).1 ∧ (sumSp (l.take k)).1 ≤ 100000 * k ∧ 0 ≤ (sumSp (l.take k)).2 ∧ (sumSp (l.take k)).2 ≤ 100000 * k
  | 0, _ => by simp [sumSp]
  | k + 1, hk => by
    have ih := sumSp_bnd h k (by omega)
    have hx := h _ (List.getElem_mem (show k < l.length by omega))
    rw [sumSp_take (by omega)]
    simp only [spAdd]
    omega

theorem set_two {w : World} {b : Nat} {x y : Value} {t : TypeId} (h : w.heap[b]? = some (.cells #[x, y] t (0, 0))) (u v : Value) (o : Obj) :
    (((w.setCell ⟨b, 0, none⟩ u).setCell ⟨b, 1, none⟩ v).alloc o).heap[b]? = some (.cells #[u, v] t (0, 0)) :=
  (Below.heap_alloc _ _ _ (by have := lt_of_heap h; simp; omega)).trans (heap_setCell_same _ _ _ _ _ _ (heap_setCell_same _ _ _ _ _ _ h))

set_option maxRecDepth 100000 in
set_option maxHeartbeats 4000000 in
theorem sum_any (l : List (Int × Int)) (hs : smSp l) (hl : l.length ≤ 100) (A : Option Addr) (cap : Nat) (B : Nat) (w : World) (hB : B ≤ w.heap.size) (hz : Vals w B A (pairs l)) :
    Calls Try.prog 114 #[.slice A l.length cap] w fun e w' => e = .returned (.agg #[.int .i64 (sumSp l).1, .int .i64 (sumSp l).2]) ∧ Below w.heap.size w w' := by
  have HZ := Lib.hid hz
  have hbd := sumSp_bnd hs
  have HS := Lib.hid (And.intro hs hbd)
  have hts := fun k (hk : k < l.length) => sumSp_take hk
  have HT := Lib.hid hts
  obtain ⟨R, hR⟩ : ∃ R, R = sumSp l := ⟨_, rfl⟩
  rw [← hR]
  have hR0 : sumSp (l.take l.length) = R := by rw [List.take_length, hR]
  have HR := Lib.hid hR0
  clear hz hs hbd hts hR hR0
  go_enter Try.func114, Try.ntmps114
  go_wp2
  go_loopg [8] l.length (fun gg s8 wx => ∃ k : Nat, k + gg = l.length ∧ s8 = .int .i64 k ∧ Hid (wx.heap[w.heap.size]? = some (.cells #[.int .i64 0, .int .i64 0] 25 (0, 0))) ∧ Hid (wx.heap[w.heap.size + 1]? = some (.cells #[.int .i64 (sumSp (l.take k)).1, .int .i64 (sumSp (l.take k)).2] 25 (0, 0))) ∧ Hid (Below w.heap.size w wx))
  case atStart => exact ⟨0, by omega, rfl, alloc2_at0 _ _ _, alloc2_at1 _ _ _, ((Below.refl _ _).alloc (Nat.le_refl _) _).alloc (by simp) _⟩
  case round =>
    obtain ⟨k, hkg, rfl, h0, h1, hBr⟩ := hrel
    have hsz := lt_of_heap h1.out
    have hws := hBr.out.size
    cases gk with
    | zero =>
      obtain rfl : k = l.length := by omega
      have h1' := h1.out
      rw [HR.out] at h1'
      have hc1 := fun i => cell_of_row wr (w.heap.size + 1) i _ _ _ h1'
      have hc0 := fun i => cell_of_row wr w.heap.size i _ _ _ h0.out
      have hf0 := fun i => frozen_of_row wr w.heap.size i _ _ h0.out
      clear h1'
      go_wp2
      refine bodyPost_ret (v := .agg #[.int .i64 R.1, .int .i64 R.2]) (by simp [results, Try.results114, go_sem, hc0]) rfl ⟨rfl, ?_⟩
      exact (hBr.out.setCell (by simp) _).setCell (by simp) _
    | succ gg =>
      have hk : k < l.length := by omega
      have hkz : (k : Int) < l.length := by omega
      obtain ⟨c, off, hA, hcB, hc⟩ := vals_elem (f := fun p : Int × Int => [Value.int .i64 p.1, .int .i64 p.2]) (n := 2) (fun _ => rfl) (show Vals w B A (l.flatMap fun p : Int × Int => [Value.int .i64 p.1, .int .i64 p.2]) from HZ.out) (by decide) hk
      subst hA
      have hc' := fun j v hv => (hBr.out.cell (p := ⟨c, off + k * 2 + j, none⟩) (by simp; omega)).trans (hc j v hv)
      have hst := HT.out k hk
      have hb1 := HS.out.2 k (by omega)
      have hb2 := HS.out.1 _ (List.getElem_mem hk)
      have h1' := h1.out
      generalize sumSp (l.take k) = S at hst hb1 h1'
      generalize l[k] = x at hc' hst hb2
      obtain ⟨x0, x1⟩ := x
      obtain ⟨S0, S1⟩ := S
      simp only [spAdd] at hst hb1 hb2 hc'
      have HST := Lib.hid hst
      have HX := Lib.hid hc'
      have hc1 := fun i => cell_of_row wr (w.heap.size + 1) i _ _ _ h1'
      have hf1 := fun i => frozen_of_row wr (w.heap.size + 1) i _ _ h1'
      have h11 := hb1.1
      have h12 := hb1.2.1
      have h13 := hb1.2.2.1
      have h14 := hb1.2.2.2
      have h21 := hb2.1
      have h22 := hb2.2.1
      have h23 := hb2.2.2.1
      have h24 := hb2.2.2.2
      have h15 : S0 ≤ 10000000 := by omega
      have h16 : S1 ≤ 10000000 := by omega
      have H1 := Lib.hid h1'
      clear hst hb1 hb2 hc hc' h1'
      go_wp2_with (show wpList _ _ _ (Oper.mk (some 11) _ _ _ _ _ :: _) _ _
                   refine wpList_load_at 25 (.tmp 10) rfl rfl rfl [.int .i64 x0, .int .i64 x1] HX.out rowSpan ?_)
      go_roundg gg
      case measure => omega
      case rel =>
        refine ⟨k + 1, by omega, by go_num, ?_, ?_, ?_⟩
        · exact (Below.heap_alloc _ _ _ (by simp; omega)).trans ((heap_setCell_other _ _ _ _ (by simp)).trans ((heap_setCell_other _ _ _ _ (by simp)).trans h0.out))
        · rw [HST.out]
          exact set_two H1.out _ _ _
        · exact ((hBr.out.setCell (by simp) _).setCell (by simp) _).alloc (by simp; omega) _

end Go.Proofs.Ytjjipkgconmfcaa

namespace Go.Proofs.Ytjjipkgconmfcaa
open Go.RowKit
open R6 (done done_ne done_me upd_ne upd_me)

attribute [local go_sem] gives

set_option maxRecDepth 100000 in
theorem tz8_run (n : Nat) (h : n < 256) (w : World) : Calls Try.prog 75 #[.int .u8 (n : Int)] w fun e w' => e = .returned (.int .i64 (tz8 n)) ∧ w = w' := by
  go_enter Try.func75, Try.ntmps75
  go_wp2
  go_ret
  refine ⟨congrArg (fun x => Ending.returned (Value.int .i64 x)) ?_, rfl⟩
  clear w
  obtain ⟨m, rfl⟩ : ∃ m : Fin 256, m.val = n := ⟨⟨n, h⟩, rfl⟩
  revert m
  decide +kernel

theorem mul64_small (n : Nat) (h : n ≤ 8) (w : World) : Calls Try.prog 96 #[.int .u64 1, .int .u64 (n : Int)] w fun e w' => e = .returned (.tuple #[.int .u64 0, .int .u64 (n : Int)]) ∧ w = w' := by
  have h9 : n = 0 ∨ n = 1 ∨ n = 2 ∨ n = 3 ∨ n = 4 ∨ n = 5 ∨ n = 6 ∨ n = 7 ∨ n = 8 := by omega
  rcases h9 with rfl | rfl | rfl | rfl | rfl | rfl | rfl | rfl | rfl
  all_goals
    go_enter Try.func96, Try.ntmps96
    go_wp2
    go_ret2
    exact ⟨rfl, rfl⟩
theorem mul_small (n : Nat) (h : n ≤ 8) (w : World) : Calls Try.prog 92 #[.int .u64 1, .int .u64 (n : Int)] w fun e w' => e = .returned (.tuple #[.int .u64 0, .int .u64 (n : Int)]) ∧ w = w' := by
  have HM := Lib.hid (mul64_small n h w)
  go_enter Try.func92, Try.ntmps92
  go_wp2_with (go_at_call 96; refine HM.out.mono ?_; rintro e w' ⟨rfl, rfl⟩)
  go_ret2
  exact ⟨rfl, rfl⟩

end Go.Proofs.Ytjjipkgconmfcaa

namespace Go.Proofs.Ytjjipkgconmfcaa
open Go.RowKit
open R6 (done done_ne done_me upd_ne upd_me)

attribute [local go_sem] gives

/-- What Repeat makes. -/
def RepPostQ (w : World) (p : Int × Int) (q : Nat) (e : Ending) (w' : World) : Prop :=
  e = .returned (.slice (some ⟨w.heap.size, 0, none⟩) q q) ∧ w'.heap[w.heap.size]? = some (.cells (pairs (List.replicate q p)).toArray 25 (0, 0)) ∧ Below w.heap.size w w'

set_option maxRecDepth 100000 in
set_option maxHeartbeats 4000000 in
theorem repeat_some (lo hi : Int) (b : Nat) (c : Nat) (q : Nat) (hq1 : 1 ≤ q) (hq8 : q ≤ 8) (w : World) (hb : w.heap[b]? = some (.cells #[.int .i64 lo, .int .i64 hi] 25 (0, 0))) :
    Calls Try.prog 76 #[.slice (some ⟨b, 0, none⟩) 1 c, .int .i64 (q : Int)] w (RepPostQ w (lo, hi) q) := by
  obtain ⟨d, hd⟩ : ∃ d, 1 + d = q := ⟨q - 1, by omega⟩
  have HD := Lib.hid hd
  clear hd
  have hqz1 : (1 : Int) ≤ q := by omega
  have hqz8 : (q : Int) ≤ 8 := by omega
  have hqw : IntKind.u64.wrap (q : Int) = q := by rw [IntKind.wrap_u64]; omega
  have hqi : IntKind.i64.wrap (q : Int) = q := by rw [IntKind.wrap_i64]; omega
  have hq0 : decide ((q : Int) < 0) = false := decide_eq_false (by omega)
  have hqm : decide (9223372036854775807 < (q : Int)) = false := decide_eq_false (by omega)
  have HB := Lib.hid hb
  have hlt := lt_of_heap hb
  obtain ⟨Z, hZ⟩ : ∃ Z, Z = repL (lo, hi) 0 (1 + d) := ⟨_, rfl⟩
  have hmk : ∀ W, (Instr.makeSlice 41 (.int .i64 (q : Int)) (.int .i64 (q : Int))).run Try.prog W = .ok (.slice (some ⟨W.heap.size, 0, none⟩) q q) (W.alloc (.cells Z.toArray 25)) := fun W => by
    rw [hZ, repL, List.replicate_zero, List.nil_append, HD.out]
    exact run_make_pairs (P := Try.prog) 41 25 infoSpan Try.underlying41 q (by omega) W
  have hsp := repL_splice (lo, hi) 0 1 d
  rw [← hZ] at hsp
  simp only [Nat.zero_mul, Nat.zero_add] at hsp
  have hzl : Z.length = q * 2 := by rw [hZ, repL_len, Nat.zero_add, HD.out]
  obtain ⟨Y, hY⟩ : ∃ Y, Y = repL (lo, hi) 1 d := ⟨_, rfl⟩
  rw [← hY] at hsp
  have HS := Lib.hid (And.intro hsp (And.intro hzl hY))
  have hg0 : Below w.heap.size w (w.alloc (.cells Z.toArray 25)) := (Below.refl w.heap.size w).alloc (Nat.le_refl _) _
  have HG0 := Lib.hid hg0
  clear hb hZ hsp hzl hY hg0
  go_enter Try.func76, Try.ntmps76
  go_wp2_with (first
    | (go_at_call 92; refine (mul_small q hq8 _).mono ?_; rintro e w1 ⟨rfl, rfl⟩)
    | (show wpList _ _ _ (Oper.mk (some 33) _ _ _ _ _ :: _) _ _
       refine wpList_copy_blk rfl (.tmp 31) (.tmp 32) 41 41 rfl 25 Try.underlying41 2 1 sizeSpan w.heap.size 0 q q ⟨b, 0, none⟩ 1 c (by rfl) (by rfl) (Nat.min_eq_left hq1).symm (cs := pairs (List.replicate 1 (lo, hi))) (L := Z) rfl
         (fun j v hv => by rw [add_at]; exact (cell_of_row _ b (0 + j) _ _ _ ((Below.heap_alloc _ _ _ hlt).trans HB.out)).trans (at0 j v hv)) (alloc_at0 _ _) (by rw [HS.out.2.1]; simp [pairs_len]; omega) (pairs_one _) ?_
       intro w2 hP2 hM2
       rw [HS.out.1] at hM2
       have hs2 := hP2.size
       simp only [World.size_alloc] at hs2
       have H2 := Lib.hid (And.intro hM2 (HG0.out.trans (hP2.below (B := w.heap.size) (Nat.le_refl _))))
       clear hP2 hM2))
  go_loopg [8] d (fun gg s8 wx => ∃ m : Nat, m + gg = q ∧ 1 ≤ m ∧ s8 = .int .i64 m ∧ Hid (wx.heap[w.heap.size]? = some (.cells (repL (lo, hi) m gg).toArray 25 (0, 0))) ∧ Hid (Below w.heap.size w wx))
  case atStart => exact ⟨1, HD.out, Nat.le_refl _, rfl, by rw [← HS.out.2.2]; exact H2.out.1, H2.out.2⟩
  case round =>
    obtain ⟨m, hmg, hm1, rfl, hM, hBr⟩ := hrel
    cases gk with
    | zero =>
      obtain rfl : m = q := by omega
      go_wp2
      go_ret
      refine ⟨rfl, ?_, hBr.out⟩
      have := hM.out
      simpa only [repL, List.replicate_zero, List.append_nil] using this
    | succ gg =>
      have hml : (m : Int) < q := by omega
      obtain ⟨c2, r2, hcr, hc2, hcm, hmin⟩ : ∃ c2 r2 : Nat, gg + 1 = c2 + r2 ∧ 1 ≤ c2 ∧ c2 ≤ m ∧ c2 = Nat.min m (q - m) := by
        refine ⟨Nat.min m (q - m), gg + 1 - Nat.min m (q - m), ?_, ?_, ?_, rfl⟩
        all_goals
          have h1 : Nat.min m (q - m) ≤ m := Nat.min_le_left _ _
          have h2 : Nat.min m (q - m) ≤ q - m := Nat.min_le_right _ _
          have h3 : Nat.min m (q - m) = m ∨ Nat.min m (q - m) = q - m := by
            rcases Nat.le_total m (q - m) with h | h
            · exact .inl (Nat.min_eq_left h)
            · exact .inr (Nat.min_eq_right h)
          omega
      have hM0 := hM.out
      have hs0 := repL_splice (lo, hi) m c2 r2
      have hs1 := repL_at (lo, hi) m (c2 + r2) c2 hcm
      have hs2 := repL_len (lo, hi) m (c2 + r2)
      rw [hcr] at hM0
      generalize repL (lo, hi) m (c2 + r2) = L0 at hM0 hs0 hs1 hs2
      have hs3 := pairs_rep (lo, hi) c2
      have hs4 := pairs_one (List.replicate c2 (lo, hi))
      generalize pairs (List.replicate c2 (lo, hi)) = cs0 at hs0 hs1 hs3 hs4
      have hws := hBr.out.size
      have h0 : OneW wr w.heap.size (.cells L0.toArray 25 (0, 0)) (.cells (repL (lo, hi) (m + c2) r2).toArray 25 (0, 0)) 7 (fun _ => false) (fun _ => undef) wr.drew := OneW.start hM0 rfl
      obtain ⟨L1, hL1⟩ : ∃ L1, L1 = repL (lo, hi) (m + c2) r2 := ⟨_, rfl⟩
      rw [← hL1] at hs0 h0
      have HL1 := Lib.hid hL1
      clear hL1
      have H0 := Lib.hid h0
      have HL := Lib.hid (And.intro hs0 (And.intro hs1 (And.intro hs2 (And.intro hs3 (And.intro hs4 hmin)))))
      clear hM0 h0 hs0 hs1 hs2 hs3 hs4 hmin
      have hm0 : (0 : Int) ≤ m := by omega
      have hm2 : (m : Int) ≤ q := by omega
      have hm3 : ¬ q = m := by omega
      go_wp2
      refine R6.wp_walk (C := OneW wr w.heap.size (.cells L0.toArray 25 (0, 0)) (.cells L1.toArray 25 (0, 0)) 7) 48 (by kernel_rfl) (by kernel_rfl) rfl ⟨H0.out.gb, H0.out.lt, H0.out.no, H0.out.yes⟩ ?_
      simp only []
      repeat (first
        | (refine' R6.WalkR.det (fun _ => rfl) (fun D ρ W hK hC => ?_) ?_
           rotate_left
           · skip
             have HC := Lib.hid hC
             clear hC hK
             go_simp
             first
               | with_reducible exact ⟨rfl, HC.out.move rfl⟩
               | fail
           simp only [Act.put, List.setIfInBounds_toArray, List.set_cons_succ, List.set_cons_zero]))
      refine' R6.WalkR.det (fun _ => rfl) (fun D ρ W hK hC => ?_) ?_
      rotate_left
      · have h7 := hC.no hK.me
        have HC := Lib.hid hC
        clear hC hK
        refine gives_copy_blk (.tmp 41) (.tmp 44) 41 41 rfl 25 Try.underlying41 2 c2 sizeSpan w.heap.size (m * 2) (q - m) (q - m) ⟨w.heap.size, 0, none⟩ m q (by rfl) (by rfl) HL.out.2.2.2.2.2 HL.out.2.2.2.1
          (fun j v hv => by rw [add_at]; exact (cell_of_row W w.heap.size (0 + j) _ _ _ h7).trans (HL.out.2.1 j v hv)) h7 (by rw [HL.out.2.2.2.1, HL.out.2.2.1]; omega) HL.out.2.2.2.2.1 ?_
        intro W1 hP hM1
        rw [HL.out.1] at hM1
        exact ⟨rfl, HC.out.put hP hM1⟩
      simp only [Act.put, List.setIfInBounds_toArray, List.set_cons_succ, List.set_cons_zero]
      have hc2m : (c2 : Int) ≤ q := by omega
      have hc20 : (0 : Int) ≤ c2 := by omega
      have hwr : IntKind.i64.wrap ((m : Int) + c2) = (m : Int) + c2 := by rw [IntKind.wrap_i64]; omega
      simp only [goInt]
      repeat (first
        | (refine' R6.WalkR.det (fun _ => rfl) (fun D ρ W hK hC => ?_) ?_
           rotate_left
           · skip
             have HC := Lib.hid hC
             clear hC hK
             go_simp
             first
               | with_reducible exact ⟨rfl, HC.out.move rfl⟩
               | fail
           simp only [Act.put, List.setIfInBounds_toArray, List.set_cons_succ, List.set_cons_zero]))
      refine R6.WalkR.nil (fun D ρ W hD hC => ?_)
      have hM7 := hC.yes (hD 7 (by decide))
      have hB7 := hBr.out.grown hC.gb hws (fun k e => by cases e; exact Nat.le_refl _)
      have H7 := Lib.hid (And.intro hM7 hB7)
      clear hC hD hM7 hB7
      go_wp2
      go_roundg r2
      case measure => omega
      case rel => exact ⟨m + c2, by omega, by omega, by go_num, by rw [← HL1.out]; exact H7.out.1, H7.out.2⟩


set_option maxRecDepth 100000 in
/-- .. not once. -/
theorem repeat_none (lo hi : Int) (b : Nat) (c : Nat) (w : World) :
    Calls Try.prog 76 #[.slice (some ⟨b, 0, none⟩) 1 c, .int .i64 0] w (RepPostQ w (lo, hi) 0) := by
  have hmk : ∀ W, (Instr.makeSlice 41 (.int .i64 0) (.int .i64 0)).run Try.prog W = .ok (.slice (some ⟨W.heap.size, 0, none⟩) 0 0) (W.alloc (.cells #[] 25)) := fun W =>
    run_make_pairs (P := Try.prog) 41 25 infoSpan Try.underlying41 0 (by omega) W
  have HM := Lib.hid (mul_small 0 (by omega) w)
  go_enter Try.func76, Try.ntmps76
  go_wp2_with (first
    | (go_at_call 92; refine HM.out.mono ?_; rintro e w1 ⟨rfl, rfl⟩)
    | (show wpList _ _ _ (Oper.mk (some 33) _ _ _ _ _ :: _) _ _
       refine wpList_copy_blk rfl (.tmp 31) (.tmp 32) 41 41 rfl 25 Try.underlying41 2 0 sizeSpan w.heap.size 0 0 0 ⟨b, 0, none⟩ 1 c (by rfl) (by rfl) rfl (cs := []) (L := []) rfl (fun j v hv => by simp at hv) (alloc_at0 _ _) (by simp) (by simp) ?_
       intro w2 hP2 hM2
       have H2 := Lib.hid (And.intro hM2 ((grow1 w _).trans (hP2.below (B := w.heap.size) (Nat.le_refl _))))
       clear hP2 hM2))
  refine wp_loop_rounds 1 ?_
  rw [rounds_succ]
  go_wp2
  go_ret
  exact ⟨rfl, H2.out.1, H2.out.2⟩

theorem repeat_q (lo hi : Int) (b : Nat) (c : Nat) (q : Nat) (hq8 : q ≤ 8) (w : World) (hb : w.heap[b]? = some (.cells #[.int .i64 lo, .int .i64 hi] 25 (0, 0))) :
    Calls Try.prog 76 #[.slice (some ⟨b, 0, none⟩) 1 c, .int .i64 (q : Int)] w (RepPostQ w (lo, hi) q) := by
  cases q with
  | zero => exact repeat_none lo hi b c w
  | succ q => exact repeat_some lo hi b c (q + 1) (by omega) hq8 w hb

end Go.Proofs.Ytjjipkgconmfcaa
