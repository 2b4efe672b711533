/-
  Flutes as plain numbers: which are valid, the length of the air, tones, and which fingerings are a note.
-/
import Derived.Test.YthjpgpelbagceaaFuA
set_option linter.all false
namespace Go.Proofs.Ythjpgpelbagceaa
open Go.RowKit

/-- A hole. -/
structure Ho where
  a : Int
  lo : Int
  hi : Int
def hoc (x : Ho) : List Value := [.int .i64 x.a, .int .i64 x.lo, .int .i64 x.hi]
theorem hoc_len (x : Ho) : (hoc x).length = 3 := rfl
theorem hoc_one (l : List Ho) : ∀ v ∈ l.flatMap hoc, v.oneCell' = true := by
  intro v hv
  obtain ⟨p, -, hv⟩ := List.mem_flatMap.1 hv
  simp only [hoc, List.mem_cons, List.not_mem_nil, or_false] at hv
  rcases hv with rfl | rfl | rfl <;> rfl
/-- A flute. -/
structure Fu where
  len : Int
  e0 : Int
  e1 : Int
  c0 : Int
  c1 : Int
  s0 : Int
  s1 : Int
  A : Option Addr
  cap : Nat
  hs : List Ho
def fuc (f : Fu) : List Value := [.int .i64 f.len, .int .i64 f.e0, .int .i64 f.e1, .int .i64 f.c0, .int .i64 f.c1, .int .i64 f.s0, .int .i64 f.s1, .slice f.A f.hs.length f.cap]
theorem fuc_len (f : Fu) : (fuc f).length = 8 := rfl

def hoL (len : Int) : List Ho → Int → Bool
  | [], _ => true
  | h :: l, least => allB least (len - 1) [h.a] && okS h.lo h.hi 0 60 && hoL len l (h.a + 1)
def loH (hs : List Ho) (k : Nat) : Int := if k = 0 then 50 else ((hs[k - 1]?).map (·.a)).getD 0 + 1
theorem hoL_step {len : Int} {hs : List Ho} {k : Nat} (hk : k < hs.length) : hoL len (hs.drop k) (loH hs k) = (allB (loH hs k) (len - 1) [hs[k].a] && okS hs[k].lo hs[k].hi 0 60 && hoL len (hs.drop (k + 1)) (loH hs (k + 1))) := by
  have e : loH hs (k + 1) = hs[k].a + 1 := by simp [loH, hk]
  rw [List.drop_eq_getElem_cons hk, e]
  rfl
def okFu (f : Fu) : Bool := allB 50 20000 [f.len] && okS f.e0 f.e1 0 60 && okS f.c0 f.c1 0 60 && okS f.s0 f.s1 100000 500000 && decide (f.hs.length ≤ 8) && hoL f.len f.hs 50

/-- How many noughts a number below 256 ends with. -/
def tz8 (n : Nat) : Nat := (List.range 8).findIdx (n.testBit ·)
theorem tz8_all : ∀ n : Fin 256, (decide (tz8 n.val ≤ 8) && (decide (n.val = 0) || (decide (tz8 n.val < 8) && n.val.testBit (tz8 n.val))) && (List.range (tz8 n.val)).all fun j => !n.val.testBit j) = true := by decide +kernel
theorem tz8_spec (n : Nat) (h : n < 256) : tz8 n ≤ 8 ∧ (n ≠ 0 → tz8 n < 8 ∧ n.testBit (tz8 n) = true) ∧ ∀ j, j < tz8 n → n.testBit j = false := by
  have h1 := tz8_all ⟨n, h⟩
  simp only [Bool.and_eq_true, Bool.or_eq_true, decide_eq_true_eq, List.all_eq_true, List.mem_range, Bool.not_eq_true'] at h1
  exact ⟨h1.1.1, fun h0 => h1.1.2.resolve_left h0, h1.2⟩
theorem tz8_at {n i : Nat} (hn : n < 256) (hi : n.testBit i = true) (h : ∀ j, j < i → n.testBit j = false) : tz8 n = i := by
  obtain ⟨h1, h2, h3⟩ := tz8_spec n hn
  have h0 : n ≠ 0 := fun e => by rw [e, Nat.zero_testBit] at hi; cases hi
  obtain ⟨h4, h5⟩ := h2 h0
  rcases Nat.lt_trichotomy (tz8 n) i with hlt | he | hgt
  · rw [h _ hlt] at h5; cases h5
  · exact he
  · rw [h3 _ hgt] at hi; cases hi
theorem tz8_lt {n k : Nat} (hn : n < 256) (h0 : n ≠ 0) (hk : n < 2 ^ k) : tz8 n < k := by
  obtain ⟨_, h2, _⟩ := tz8_spec n hn
  have h5 := (h2 h0).2
  refine Nat.lt_of_not_le fun hle => ?_
  rw [Nat.testBit_lt_two_pow (Nat.lt_of_lt_of_le hk (Nat.pow_le_pow_right (by omega) hle))] at h5
  cases h5
/-- How many holes behind the first open one are closed. -/
def cloF (n i L : Nat) : Nat := min (tz8 (n >>> (i + 1))) L
theorem cloF_at {n i L c : Nat} (hn : n < 256) (hc : c ≤ L) (hcl : ∀ j, i < j → j < i + 1 + c → n.testBit j = false) (hend : c = L ∨ n.testBit (i + 1 + c) = true) (hL : L ≤ 8) : cloF n i L = c := by
  have hm : n >>> (i + 1) < 256 := Nat.lt_of_le_of_lt (Nat.shiftRight_le _ _) hn
  obtain ⟨h1, h2, h3⟩ := tz8_spec _ hm
  have hb : ∀ j, (n >>> (i + 1)).testBit j = n.testBit (i + 1 + j) := fun j => by rw [Nat.testBit_shiftRight]
  unfold cloF
  rcases hend with rfl | he
  · refine Nat.min_eq_right (Nat.le_of_not_lt fun hlt => ?_)
    by_cases h0 : n >>> (i + 1) = 0
    · have : tz8 (n >>> (i + 1)) = 8 := by rw [h0]; rfl
      omega
    · have := (h2 h0).2
      rw [hb, hcl _ (by omega) (by omega)] at this
      cases this
  · rw [tz8_at hm (by rw [hb]; exact he) fun j hj => by rw [hb]; exact hcl _ (by omega) (by omega)]
    exact Nat.min_eq_left hc

/-- The length of the air. -/
def airF (f : Fu) (n : Nat) : Int × Int :=
  if n = 0 then (f.len + f.e0, f.len + f.e1) else
    let h := f.hs[tz8 n]?.getD ⟨0, 0, 0⟩
    let k : Int := cloF n (tz8 n) (f.hs.length - tz8 n - 1)
    (h.a + h.lo + k * f.c0, h.a + h.hi + k * f.c1)
def tonA (s0 s1 : Int) (a : Int × Int) : Int × Int := (500 * s0 / a.2, 500 * s1 / a.1)
def tonF (f : Fu) (n : Nat) : Int × Int := tonA f.s0 f.s1 (airF f n)
def insB (o s : Int × Int) : Bool := decide (o.1 ≤ s.1) && decide (s.2 ≤ o.2)
def fingL (f : Fu) (o : Int × Int) : List Nat := (List.range (2 ^ f.hs.length)).filter fun n => insB o (tonF f n)

theorem allB_one {lo hi n : Int} : allB lo hi [n] = inR n lo hi := by simp [allB]
theorem okS_iff {a b lo hi : Int} : okS a b lo hi = true ↔ lo ≤ a ∧ a ≤ b ∧ b ≤ hi := by
  simp only [okS, allB, List.all_cons, List.all_nil, Bool.and_true, Bool.and_eq_true, inR_iff, decide_eq_true_eq]
  omega
theorem hoL_iff {len : Int} : ∀ (hs : List Ho) (least : Int), hoL len hs least = true → ∀ h ∈ hs, least ≤ h.a ∧ h.a ≤ len - 1 ∧ 0 ≤ h.lo ∧ h.lo ≤ h.hi ∧ h.hi ≤ 60
  | [], _, _, _, hm => by cases hm
  | x :: l, least, h, y, hm => by
    simp only [hoL, Bool.and_eq_true, allB_one, inR_iff, okS_iff] at h
    rcases List.mem_cons.1 hm with rfl | hm
    · omega
    · have := hoL_iff l _ h.2 y hm
      omega
theorem okFu_bnd {f : Fu} (h : okFu f = true) : (50 ≤ f.len ∧ f.len ≤ 20000) ∧ (0 ≤ f.e0 ∧ f.e0 ≤ f.e1 ∧ f.e1 ≤ 60) ∧ (0 ≤ f.c0 ∧ f.c0 ≤ f.c1 ∧ f.c1 ≤ 60) ∧ (100000 ≤ f.s0 ∧ f.s0 ≤ f.s1 ∧ f.s1 ≤ 500000) ∧ f.hs.length ≤ 8 ∧ ∀ x ∈ f.hs, 50 ≤ x.a ∧ x.a ≤ f.len - 1 ∧ 0 ≤ x.lo ∧ x.lo ≤ x.hi ∧ x.hi ≤ 60 := by
  simp only [okFu, Bool.and_eq_true, allB_one, inR_iff, okS_iff, decide_eq_true_eq] at h
  exact ⟨h.1.1.1.1.1, h.1.1.1.1.2, h.1.1.1.2, h.1.1.2, h.1.2, hoL_iff _ _ h.2⟩
theorem airF_bnd {f : Fu} (h : okFu f = true) {n : Nat} (hn : n < 2 ^ f.hs.length) : 50 ≤ (airF f n).1 ∧ (airF f n).1 ≤ (airF f n).2 ∧ (airF f n).2 ≤ 21000 := by
  obtain ⟨h1, h2, h3, h4, h5, h6⟩ := okFu_bnd h
  by_cases h0 : n = 0
  · simp only [airF, if_pos h0]
    omega
  · have hn8 : n < 256 := Nat.lt_of_lt_of_le hn (Nat.pow_le_pow_right (n := 2) (by omega) h5)
    have hi := tz8_lt hn8 h0 hn
    have hk : cloF n (tz8 n) (f.hs.length - tz8 n - 1) ≤ 8 := Nat.le_trans (Nat.min_le_right _ _) (by omega)
    have hx := h6 _ (List.getElem_mem hi)
    have e : f.hs[tz8 n]?.getD ⟨0, 0, 0⟩ = f.hs[tz8 n] := by simp [hi]
    simp only [airF, if_neg h0, e]
    generalize cloF n (tz8 n) (f.hs.length - tz8 n - 1) = k at hk
    generalize f.hs[tz8 n] = x at hx
    have hk2 : (k : Int) ≤ 8 := by omega
    have hk3 : (0 : Int) ≤ k := by omega
    generalize (k : Int) = k at hk2 hk3
    have a1 : 0 ≤ k * f.c0 := Int.mul_nonneg hk3 h3.1
    have a2 : k * f.c0 ≤ k * f.c1 := Int.mul_le_mul_of_nonneg_left h3.2.1 hk3
    have a3 : k * f.c1 ≤ 8 * 60 := Int.le_trans (Int.mul_le_mul_of_nonneg_right hk2 (by omega)) (Int.mul_le_mul_of_nonneg_left h3.2.2 (by omega))
    omega

end Go.Proofs.Ythjpgpelbagceaa
