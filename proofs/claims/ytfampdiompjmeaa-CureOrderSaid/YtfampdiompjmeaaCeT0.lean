/-
  Plain: at how many spreads it is so; what is known of cores; the greatest hour.
-/
import Derived.Test.YtfampdiompjmeaaCeR
import Derived.Test.YtfampdiompjmeaaCeO
namespace Go.Proofs.Ytfampdiompjmeaa
open Go.RowKit Go.Shelf

/-- At how many of n numbers from lo on it is so. -/
def cntS (P : Int → Bool) (lo : Int) : Nat → Nat
  | 0 => 0
  | n + 1 => cntS P lo n + if P (lo + n) = true then 1 else 0
theorem cntS_le (P : Int → Bool) (lo : Int) : ∀ n, cntS P lo n ≤ n
  | 0 => Nat.le_refl _
  | n + 1 => by have := cntS_le P lo n; unfold cntS; split <;> omega
theorem cntS_congr {P Q : Int → Bool} {lo : Int} : ∀ n, (∀ i : Nat, i < n → P (lo + i) = Q (lo + i)) → cntS P lo n = cntS Q lo n
  | 0, _ => rfl
  | n + 1, h => by
    unfold cntS
    rw [cntS_congr n (fun i hi => h i (by omega)), h n (by omega)]
theorem cntS_zero {P : Int → Bool} {lo : Int} : ∀ n, cntS P lo n = 0 ↔ ∀ i : Nat, i < n → P (lo + i) = false
  | 0 => by simp [cntS]
  | n + 1 => by
    unfold cntS
    constructor
    · intro h i hi
      have h0 : cntS P lo n = 0 := by omega
      by_cases e : i = n
      · subst e
        cases hP : P (lo + i) with
        | false => rfl
        | true => rw [hP] at h; simp at h
      · exact (cntS_zero n).1 h0 i (by omega)
    · intro h
      rw [(cntS_zero n).2 (fun i hi => h i (by omega)), h n (by omega)]
      rfl
theorem cntS_all {P : Int → Bool} {lo : Int} : ∀ n, cntS P lo n = n ↔ ∀ i : Nat, i < n → P (lo + i) = true
  | 0 => by simp [cntS]
  | n + 1 => by
    have hl := cntS_le P lo n
    unfold cntS
    constructor
    · intro h i hi
      by_cases hn : P (lo + n) = true
      · rw [if_pos hn] at h
        by_cases e : i = n
        · rw [e]; exact hn
        · exact (cntS_all n).1 (by omega) i (by omega)
      · rw [if_neg hn] at h; omega
    · intro h
      rw [if_pos (h n (by omega)), (cntS_all n).2 (fun i hi => h i (by omega))]

/-- Whether a core has been reached within some hours at a spread, and after how many. -/
def whenS (t : Bt) (ws : List (List Int)) (s : Int) (p : Nat) : Option Nat := firstB (hitB t.water s t.need (t.borax, ws) p) 301
def inS (t : Bt) (ws : List (List Int)) (h : Nat) (s : Int) (p : Nat) : Bool := (firstB (hitB t.water s t.need (t.borax, ws) p) (h + 1)).isSome
theorem firstB_le {g : Nat → Bool} {K h : Nat} (hh : h ≤ K) : (firstB g (h + 1)).isSome = true ↔ ∃ k, firstB g (K + 1) = some k ∧ k ≤ h := by
  constructor
  · intro e
    obtain ⟨k, hk⟩ := Option.isSome_iff_exists.1 e
    obtain ⟨a, b, c⟩ := firstB_some hk
    exact ⟨k, firstB_eq (by omega) b c, by omega⟩
  · rintro ⟨k, hk, hle⟩
    obtain ⟨a, b, c⟩ := firstB_some hk
    rw [firstB_eq (K := h + 1) (by omega) b c]
    rfl
/-- As many spreads. -/
def spN (t : Bt) : Nat := (t.hi - t.lo + 1).toNat
/-- What is known. -/
def codeK (n c : Nat) : Int := if c = 0 then 0 else if c = n then 2 else 1
def knownL (t : Bt) (ws : List (List Int)) (h : Nat) : List Int := (List.range ws.length).map fun p => codeK (spN t) (cntS (fun s => inS t ws h s p) t.lo (spN t))
theorem knownL_len (t : Bt) (ws : List (List Int)) (h : Nat) : (knownL t ws h).length = ws.length := by simp [knownL]
theorem codeK_bnd (n c : Nat) : 0 ≤ codeK n c ∧ codeK n c ≤ 2 := by unfold codeK; split <;> (try split) <;> omega

def treatE (t : Bt) (ws : List (List Int)) (h : Int) : Int := if okBatch t ws = true then (if allB 0 300 [h] = true then 0 else 2) else 40
def treatL (t : Bt) (ws : List (List Int)) (h : Int) : List Int := if treatE t ws h = 0 then knownL t ws h.toNat else []

/-- The greatest of the hours of one spread. -/
def mxF (f : Nat → Option Nat) : Nat → Nat → Nat
  | 0, m => m
  | n + 1, m => max (mxF f n m) ((f n).getD 0)
theorem mxF_ge (f : Nat → Option Nat) : ∀ n m, m ≤ mxF f n m
  | 0, m => Nat.le_refl _
  | n + 1, m => by have := mxF_ge f n m; unfold mxF; omega
theorem mxF_up (f : Nat → Option Nat) : ∀ n m q k, q < n → f q = some k → k ≤ mxF f n m
  | 0, m, q, k, h, _ => by omega
  | n + 1, m, q, k, h, hk => by
    unfold mxF
    by_cases e : q = n
    · subst e; rw [hk]; simp only [Option.getD_some]; omega
    · have := mxF_up f n m q k (by omega) hk; omega
theorem mxF_le (f : Nat → Option Nat) : ∀ n m M, m ≤ M → (∀ q k, q < n → f q = some k → k ≤ M) → mxF f n m ≤ M
  | 0, m, M, h, _ => h
  | n + 1, m, M, h, hq => by
    have h1 := mxF_le f n m M h (fun q k hq' hk => hq q k (by omega) hk)
    unfold mxF
    cases e : f n with
    | none => simp only [Option.getD_none]; omega
    | some k => have := hq n k (by omega) e; simp only [Option.getD_some]; omega
/-- The greatest of the hours of n spreads, if all cores are reached at each. -/
def maxS (t : Bt) (ws : List (List Int)) : Nat → Nat
  | 0 => 0
  | n + 1 => mxF (whenS t ws (t.lo + n)) ws.length (maxS t ws n)
def allS (t : Bt) (ws : List (List Int)) (s : Int) : Bool := (List.range ws.length).all fun p => (whenS t ws s p).isSome
theorem allS_iff {t : Bt} {ws : List (List Int)} {s : Int} : allS t ws s = true ↔ ∀ p, p < ws.length → (whenS t ws s p).isSome = true := by simp [allS]
def allN (t : Bt) (ws : List (List Int)) (n : Nat) : Bool := (List.range n).all fun (i : Nat) => allS t ws (t.lo + i)
theorem allN_succ (t : Bt) (ws : List (List Int)) (n : Nat) : allN t ws (n + 1) = (allN t ws n && allS t ws (t.lo + n)) := by simp [allN, List.range_succ]
theorem allN_false {t : Bt} {ws : List (List Int)} {n k : Nat} (h : allS t ws (t.lo + k) = false) (hk : k < n) : allN t ws n = false := by
  cases e : allN t ws n with
  | false => rfl
  | true =>
    have := List.all_eq_true.1 e k (List.mem_range.2 hk)
    rw [h] at this; cases this
theorem whenS_le {t : Bt} {ws : List (List Int)} {s : Int} {p k : Nat} (h : whenS t ws s p = some k) : k ≤ 300 := by have := (firstB_some h).1; omega
theorem maxS_le (t : Bt) (ws : List (List Int)) : ∀ n, maxS t ws n ≤ 300
  | 0 => by unfold maxS; omega
  | n + 1 => by
    unfold maxS
    exact mxF_le _ _ _ _ (maxS_le t ws n) (fun q k _ h => whenS_le h)
def readyE (t : Bt) (ws : List (List Int)) : Int := if okBatch t ws = true then (if allN t ws (spN t) = true then 0 else 6) else 40
def readyV (t : Bt) (ws : List (List Int)) : Nat := if readyE t ws = 0 then maxS t ws (spN t) else 0

end Go.Proofs.Ytfampdiompjmeaa
