/-
  What sounds up to a place; the greatest number of which something is so.
-/
import Derived.Test.YthjpgpelbagceaaFuS
set_option linter.all false
namespace Go.Proofs.Ythjpgpelbagceaa
open Go.RowKit
open R6 (done done_ne done_me upd_ne upd_me)

attribute [local go_sem] gives

/-- What sounds up to a place, as a value. -/
def uptV (b : Bk) (first : Bool) (p : Int) : Value := if first = true then .iface 115 (.agg #[.int .i64 p, .int .i64 b.e0, .int .i64 b.e1]) else .iface 119 (.agg #[.int .i64 p, .int .i64 b.f0, .int .i64 b.f1, .slice none 0 0])

set_option maxRecDepth 100000 in
theorem upTo9_any (b : Bk) (A : Option Addr) (n cap : Nat) (hn : n ≤ 1000000) (p : Int) (w : World) :
    Calls Try.prog 81 #[.agg (bkc b).toArray, .slice A n cap, .int .i64 p] w fun e w' => e = .returned (uptV b (n == 0) p) ∧ Below w.heap.size w w' := by
  unfold bkc
  cases n with
  | zero =>
    go_enter Try.func81, Try.ntmps81
    go_wp2
    go_ret
    exact ⟨rfl, (Below.refl _ _).alloc (Nat.le_refl _) _⟩
  | succ k =>
    have hk : ((k + 1 : Nat) : Int) ≠ 0 := by omega
    have hu : uptV b (k + 1 == 0) p = .iface 119 (.agg #[.int .i64 p, .int .i64 b.f0, .int .i64 b.f1, .slice none 0 0]) := rfl
    rw [hu]
    have hkz : (((k + 1 : Nat) : Int) == 0) = false := by simpa using hk
    generalize k + 1 = m at hk hkz ⊢
    go_enter Try.func81, Try.ntmps81
    go_wp2
    go_ret
    exact ⟨rfl, (Below.refl _ _).alloc (Nat.le_refl _) _⟩

/-- What the search for the greatest number finds. -/
def IsGr (so : Int → Bool) (least most x : Int) : Prop := least - 1 ≤ x ∧ (x ≤ most ∨ x = least - 1) ∧ (least ≤ x → so x = true) ∧ ∀ m, x < m → m ≤ most → so m = false

set_option maxRecDepth 100000 in
set_option maxHeartbeats 4000000 in
theorem greatest_any (so : Int → Bool) (least most : Int) (h1 : -100000 ≤ least ∧ least ≤ 100000) (h2 : -100000 ≤ most ∧ most ≤ 100000) (hmo : ∀ a b, least ≤ a → a ≤ b → b ≤ most → so b = true → so a = true)
    (p q : Value) (w : World)
    (hso : ∀ m W, Below w.heap.size w W → least ≤ m → m ≤ most → Calls Try.prog 82 #[.int .i64 m, p, q] W fun e w' => e = .returned (.bool (so m)) ∧ Below W.heap.size W w') :
    Calls Try.prog 83 #[.int .i64 least, .int .i64 most, .func (.func 82) #[] #[p, q]] w fun e w' => (∃ x, e = .returned (.tuple #[.int .i64 x, .bool (decide (least ≤ x))]) ∧ IsGr so least most x) ∧ Below w.heap.size w w' := by
  have HSO := Lib.hid hso
  have HMO := Lib.hid hmo
  have h11 := h1.1
  have h12 := h1.2
  have h21 := h2.1
  have h22 := h2.2
  clear hso hmo h1 h2
  go_enter Try.func83, Try.ntmps83
  go_wp2
  go_loopg [6, 1] (most - (least - 1)).toNat (fun gg s6 s1 wx => ∃ n m : Int, s6 = .int .i64 n ∧ s1 = .int .i64 m ∧ Hid (gg = (m - n).toNat) ∧ Hid (least - 1 ≤ n ∧ (n ≤ most ∨ n = least - 1) ∧ m ≤ most ∧ (n ≤ m ∨ n = least - 1) ∧ -100001 ≤ m ∧ (least ≤ n → so n = true) ∧ ∀ x, m < x → x ≤ most → so x = false) ∧ Hid (Below w.heap.size w wx))
  case atStart => exact ⟨least - 1, most, by go_num, rfl, rfl, ⟨by omega, .inr rfl, by omega, .inr rfl, by omega, fun h => by omega, fun x h h' => by omega⟩, Below.refl _ _⟩
  case round =>
    obtain ⟨n, m, rfl, rfl, hgg, hI, hBr⟩ := hrel
    have hn1 := hI.out.1
    have hn2 : n ≤ 100000 := by have := hI.out.2.1; omega
    have hm1 := hI.out.2.2.1
    have hm2 := hI.out.2.2.2.2.1
    by_cases hlt : n < m
    · obtain ⟨d, hd⟩ : ∃ d, d = (m - n) / 2 := ⟨_, rfl⟩
      have hd0 : 0 ≤ d := by omega
      have hd1 : d < m - n := by omega
      have hd2 : m - n - 1 ≤ 2 * d := by omega
      have hmn : 0 ≤ m - n := by omega
      have hc1 := HSO.out (m - d) wr hBr.out (by omega) (by omega)
      have HD := Lib.hid hd
      have HC := Lib.hid hc1
      have HH := Lib.hid (And.intro hd0 (And.intro hd1 hlt))
      clear hc1
      cases hs : so (m - d) with
      | true =>
        have HS := Lib.hid hs
        clear hs
        go_wp2_with (go_at_call 82; rw [← hd]; refine HC.out.mono ?_; rintro e w' ⟨rfl, hB1⟩; rw [HS.out]; have HB1 := Lib.hid hB1; clear hB1)
        go_roundg (m - (m - d)).toNat
        case measure => have := hgg.out; omega
        case rel => exact ⟨m - d, m, by rw [HD.out], rfl, rfl, ⟨by omega, .inl (by omega), hm1, .inl (by omega), hm2, fun _ => HS.out, hI.out.2.2.2.2.2.2⟩, hBr.out.trans (HB1.out.mono hBr.out.size)⟩
      | false =>
        have HS := Lib.hid hs
        clear hs
        go_wp2_with (go_at_call 82; rw [← hd]; refine HC.out.mono ?_; rintro e w' ⟨rfl, hB1⟩; rw [HS.out]; have HB1 := Lib.hid hB1; clear hB1)
        go_roundg (m - d - 1 - n).toNat
        case measure => have := hgg.out; omega
        case rel =>
          refine ⟨n, m - d - 1, rfl, by rw [HD.out], rfl, ⟨hn1, hI.out.2.1, by omega, ?_, by omega, hI.out.2.2.2.2.2.1, fun x h h' => ?_⟩, hBr.out.trans (HB1.out.mono hBr.out.size)⟩
          · have := HH.out; omega
          · rcases Int.lt_or_le m x with h9 | h9
            · exact hI.out.2.2.2.2.2.2 x h9 h'
            · cases hx : so x
              · rfl
              · have := HMO.out (m - d) x (by have := HH.out; omega) (by omega) h' hx
                rw [HS.out] at this
                cases this
    · have HLT := Lib.hid hlt
      go_wp2
      go_ret2
      refine ⟨⟨n, ?_, hn1, hI.out.2.1, hI.out.2.2.2.2.2.1, fun x h h' => ?_⟩, hBr.out⟩
      · rfl
      · rcases hI.out.2.2.2.1 with h9 | h9
        · exact hI.out.2.2.2.2.2.2 x (by have := HLT.out; omega) h'
        · exact hI.out.2.2.2.2.2.2 x (by have := HLT.out; omega) h'

end Go.Proofs.Ythjpgpelbagceaa
