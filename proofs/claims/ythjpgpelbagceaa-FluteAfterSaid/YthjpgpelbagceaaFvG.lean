/-
  Fingerings of a flute, and that holes behind the next open one change no tone.
-/
import Derived.Test.YthjpgpelbagceaaFvE
set_option linter.all false
namespace Go.Proofs.Ythjpgpelbagceaa
open Go.RowKit Go.Maps
open R6 (done done_ne done_me upd_ne upd_me)

attribute [local go_sem] gives

/-- Which are the first two open holes. -/
def TwoOpen (n i j : Nat) : Prop := i < j ∧ n.testBit i = true ∧ n.testBit j = true ∧ (∀ k, k < i → n.testBit k = false) ∧ ∀ k, i < k → k < j → n.testBit k = false
theorem airF_two (f : Fu) {n i j : Nat} (hn : n < 256) (hl : f.hs.length ≤ 8) (hj : j < f.hs.length) (h : TwoOpen n i j) : airF f n = ((f.hs[i]?.getD ⟨0, 0, 0⟩).a + (f.hs[i]?.getD ⟨0, 0, 0⟩).lo + ((j - i - 1 : Nat) : Int) * f.c0, (f.hs[i]?.getD ⟨0, 0, 0⟩).a + (f.hs[i]?.getD ⟨0, 0, 0⟩).hi + ((j - i - 1 : Nat) : Int) * f.c1) := by
  obtain ⟨hij, hi, hjb, hb, hm⟩ := h
  have h0 : n ≠ 0 := fun e => by rw [e, Nat.zero_testBit] at hi; cases hi
  have ht := tz8_at hn hi hb
  have hc : cloF n i (f.hs.length - i - 1) = j - i - 1 := cloF_at hn (by omega) (fun k h1 h2 => hm k h1 (by omega)) (.inr (by rw [show i + 1 + (j - i - 1) = j by omega]; exact hjb)) (by omega)
  unfold airF
  rw [if_neg h0]
  dsimp only
  rw [ht, hc]
theorem airF_after (f : Fu) {n m i j : Nat} (hn : n < 256) (hm : m < 256) (hl : f.hs.length ≤ 8) (hj : j < f.hs.length) (h : TwoOpen n i j) (hb : ∀ k, k ≤ j → m.testBit k = n.testBit k) : airF f m = airF f n := by
  have h2 : TwoOpen m i j := by
    obtain ⟨hij, h1, h2, h3, h4⟩ := h
    exact ⟨hij, by rw [hb i (by omega)]; exact h1, by rw [hb j (Nat.le_refl _)]; exact h2, fun k hk => by rw [hb k (by omega)]; exact h3 k hk, fun k hk hk2 => by rw [hb k (by omega)]; exact h4 k hk hk2⟩
  rw [airF_two f hn hl hj h, airF_two f hm hl hj h2]
theorem tonF_after (f : Fu) {n m i j : Nat} (hn : n < 256) (hm : m < 256) (hl : f.hs.length ≤ 8) (hj : j < f.hs.length) (h : TwoOpen n i j) (hb : ∀ k, k ≤ j → m.testBit k = n.testBit k) : tonF f m = tonF f n := by
  unfold tonF; rw [airF_after f hn hm hl hj h hb]

set_option maxRecDepth 100000 in
set_option maxHeartbeats 4000000 in
theorem fingered_any (f : Fu) (hl : f.hs.length ≤ 8) (n : Nat) (hn : n < 256) (w : World) :
    Calls Try.prog 34 #[.agg (fuc f).toArray, .int .u8 (n : Int)] w fun e w' => e = .returned (.int .u8 ((n % 2 ^ f.hs.length : Nat) : Int)) ∧ Below w.heap.size w w' := by
  have hN8 : 2 ^ f.hs.length ≤ 256 := Nat.pow_le_pow_right (n := 2) (by omega) hl
  have hN0 : 0 < 2 ^ f.hs.length := Nat.pow_pos (by omega)
  obtain ⟨N, hN⟩ : ∃ N, N = 2 ^ f.hs.length := ⟨_, rfl⟩
  have hNz : ((2 : Int) ^ f.hs.length) = (N : Int) := by rw [hN]; simp
  have hNw : wrap64 ((2 : Int) ^ f.hs.length) = (N : Int) := by rw [hNz]; unfold wrap64; omega
  rw [← hN] at hN8 hN0 ⊢
  have hlz : (f.hs.length : Int) ≤ 8 := by omega
  have hr : ((n % N : Nat) : Int) = (n : Int).tmod (N : Int) := by rw [Int.tmod_eq_emod_of_nonneg (by omega)]; simp
  have hr2 : n % N < 256 := Nat.lt_of_lt_of_le (Nat.mod_lt _ hN0) hN8
  have HNW := Lib.hid (And.intro hNw (And.intro hr hr2))
  have hnz : (n : Int) ≤ 255 := by omega
  have hN0z : (N : Int) ≠ 0 := by omega
  have hNnz : ((N : Int) == 0) = false := by simpa using (show N ≠ 0 by omega)
  clear hN hNz hr hr2
  unfold fuc
  go_enter Try.func34, Try.ntmps34
  go_wp2
  go_ret
  refine ⟨?_, (Below.refl _ _).alloc (Nat.le_refl _) _⟩
  have h1 := HNW.out.2.2
  have h2 : (n : Int) % (N : Int) % 256 = ((n % N : Nat) : Int) := by rw [← Int.natCast_emod]; omega
  rw [h2]
  rfl

/-- How many holes are open, and which is the second one. -/
def opn (n L : Nat) : Nat → Nat × Nat
  | 0 => (0, L)
  | k + 1 => if n.testBit k = true then ((opn n L k).1 + 1, if (opn n L k).1 + 1 = 2 then k else (opn n L k).2) else opn n L k
theorem opn_le (n L : Nat) : ∀ k, (opn n L k).1 ≤ k
  | 0 => Nat.le_refl 0
  | k + 1 => by
    have := opn_le n L k
    unfold opn
    split
    · dsimp only; omega
    · omega
theorem opn_spec (n L : Nat) : ∀ k, ((opn n L k).1 = 0 → ∀ m, m < k → n.testBit m = false) ∧ ((opn n L k).1 = 1 → ∃ i, i < k ∧ n.testBit i = true ∧ (∀ m, m < i → n.testBit m = false) ∧ ∀ m, i < m → m < k → n.testBit m = false) ∧ (2 ≤ (opn n L k).1 → ∃ i, TwoOpen n i (opn n L k).2 ∧ (opn n L k).2 < k)
  | 0 => ⟨fun _ m hm => absurd hm (Nat.not_lt_zero m), ⟨fun h => absurd h (by simp [opn]), fun h => absurd h (by simp [opn])⟩⟩
  | k + 1 => by
    obtain ⟨h0, h1, h2⟩ := opn_spec n L k
    cases hb : n.testBit k
    · have e : opn n L (k + 1) = opn n L k := by simp [opn, hb]
      rw [e]
      refine ⟨fun h m hm => ?_, fun h => ?_, fun h => ?_⟩
      · rcases Nat.lt_or_ge m k with hk | hk
        · exact h0 h m hk
        · rw [show m = k by omega]; exact hb
      · obtain ⟨i, hi, hbi, hlo, hmid⟩ := h1 h
        refine ⟨i, by omega, hbi, hlo, fun m h3 h4 => ?_⟩
        rcases Nat.lt_or_ge m k with hk | hk
        · exact hmid m h3 hk
        · rw [show m = k by omega]; exact hb
      · obtain ⟨i, ht, hlt⟩ := h2 h
        exact ⟨i, ht, by omega⟩
    · have e : opn n L (k + 1) = ((opn n L k).1 + 1, if (opn n L k).1 + 1 = 2 then k else (opn n L k).2) := by simp [opn, hb]
      rw [e]
      dsimp only
      refine ⟨fun h => by omega, fun h => ?_, fun h => ?_⟩
      · have := h0 (by omega)
        exact ⟨k, by omega, hb, this, fun m h3 h4 => by omega⟩
      · by_cases h3 : (opn n L k).1 + 1 = 2
        · rw [if_pos h3]
          obtain ⟨i, hi, hbi, hlo, hmid⟩ := h1 (by omega)
          exact ⟨i, ⟨hi, hbi, hb, hlo, hmid⟩, by omega⟩
        · rw [if_neg h3]
          obtain ⟨i, ht, hlt⟩ := h2 (by omega)
          exact ⟨i, ht, by omega⟩

end Go.Proofs.Ythjpgpelbagceaa
