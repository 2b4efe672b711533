/-
  Texts laid together: FuA, FuP, CdC, CdD.
-/
import Derived.Laws.CopyRow
import Derived.Laws.IdiomCopy
import Derived.Test.YtjjipkgconmfcaaB94
import Derived.Test.YtjjipkgconmfcaaB93
set_option linter.all false
namespace Go.Proofs.Ytjjipkgconmfcaa
open Go.RowKit

theorem within1_any (lo hi n : Int) (b : Nat) (w : World) (hb : w.heap[b]? = some (.cells #[.int .i64 lo, .int .i64 hi] 25 (0, 0))) :
    Calls Try.prog 87 #[.int .i64 n, .pointer (some ⟨b, 0, none⟩)] w fun e w' => e = .returned (.bool (outB lo hi n)) ∧ w = w' := by
  have hc := fun i => cell_of_row w b i _ _ _ hb
  have HB := Lib.hid hb
  clear hb
  by_cases h1 : n < lo
  · have e : outB lo hi n = true := by simp [outB, h1]
    rw [e]
    clear e
    go_enter Try.func87, Try.ntmps87
    go_wp2
    go_ret
    exact ⟨rfl, rfl⟩
  · by_cases h2 : hi < n
    · have e : outB lo hi n = true := by simp [outB, h2]
      rw [e]
      clear e
      go_enter Try.func87, Try.ntmps87
      go_wp2
      go_ret
      exact ⟨rfl, rfl⟩
    · have e : outB lo hi n = false := by simp [outB]; omega
      rw [e]
      clear e
      go_enter Try.func87, Try.ntmps87
      go_wp2
      go_ret
      exact ⟨rfl, rfl⟩

set_option maxHeartbeats 1000000 in
theorem indexInts_any (lo hi : Int) (b : Nat) (A : Option Addr) (cap : Nat) (zs : List Int) (B : Nat) (w : World) (hb : w.heap[b]? = some (.cells #[.int .i64 lo, .int .i64 hi] 25 (0, 0))) (hz : Ints w B A zs) (hl : zs.length ≤ 1000000) :
    Calls Try.prog 94 #[.slice A zs.length cap, .func (.func 87) #[] #[.pointer (some ⟨b, 0, none⟩)]] w fun e w' => e = .returned (.int .i64 (idxL (outB lo hi) zs 0)) ∧ w = w' := by
  have HB := Lib.hid hb
  have HZ := Lib.hid hz
  clear hb hz
  go_enter Try.func94, Try.ntmps94
  go_wp2
  go_loopg [8] zs.length (fun gg s8 wx => ∃ k : Nat, k + gg = zs.length ∧ s8 = .int .i64 k ∧ Hid (idxL (outB lo hi) (zs.drop k) k = idxL (outB lo hi) zs 0) ∧ wx = w)
  case atStart => exact ⟨0, by omega, rfl, rfl, rfl⟩
  case round =>
    obtain ⟨k, hkg, rfl, hI, rfl⟩ := hrel
    cases gk with
    | zero =>
      obtain rfl : k = zs.length := by omega
      go_wp2
      go_ret
      refine ⟨?_, rfl⟩
      rw [← hI.out, List.drop_length]
      rfl
    | succ gg =>
      have hk : k < zs.length := by omega
      have hkz : (k : Int) < zs.length := by omega
      obtain ⟨c, off, hA, hcB, hc⟩ := HZ.out (by omega)
      subst hA
      have hx := hc k hk
      have hst := idxL_step (P := outB lo hi) hk
      have hg : zs[k]?.getD 0 = zs[k] := by simp [hk]
      rw [hg] at hx
      rw [hI.out] at hst
      have hcl := fun n W hW => within1_any lo hi n b W hW
      generalize zs[k] = x at hx hst
      have HC := Lib.hid hcl
      have HST := Lib.hid hst
      clear hc hst hcl hg
      cases hp : outB lo hi x with
      | true =>
        have HP := Lib.hid hp
        clear hp
        go_wp2_with (go_at_call 87; refine (HC.out _ _ HB.out).mono ?_; rintro e w' ⟨rfl, rfl⟩; rw [HP.out])
        go_ret
        refine ⟨?_, rfl⟩
        rw [HST.out, HP.out]
        rfl
      | false =>
        have HP := Lib.hid hp
        clear hp
        go_wp2_with (go_at_call 87; refine (HC.out _ _ HB.out).mono ?_; rintro e w' ⟨rfl, rfl⟩; rw [HP.out])
        go_roundg gg
        case measure => omega
        case rel => exact ⟨k + 1, by omega, by go_num, by rw [HST.out, HP.out]; rfl, rfl⟩

theorem containsInts_any (lo hi : Int) (b : Nat) (A : Option Addr) (cap : Nat) (zs : List Int) (B : Nat) (w : World) (hb : w.heap[b]? = some (.cells #[.int .i64 lo, .int .i64 hi] 25 (0, 0))) (hz : Ints w B A zs) (hl : zs.length ≤ 1000000) :
    Calls Try.prog 86 #[.slice A zs.length cap, .func (.func 87) #[] #[.pointer (some ⟨b, 0, none⟩)]] w fun e w' => e = .returned (.bool (zs.any (outB lo hi))) ∧ w = w' := by
  have H := indexInts_any lo hi b A cap zs B w hb hz hl
  have e := idxL_any (P := outB lo hi) zs 0
  rw [← e]
  generalize idxL (outB lo hi) zs 0 = i at H
  have HH := Lib.hid H
  clear H e hb hz
  go_enter Try.func86, Try.ntmps86
  go_wp2_with (go_at_call 94; refine HH.out.mono ?_; rintro e w' ⟨rfl, rfl⟩)
  go_ret
  exact ⟨rfl, rfl⟩

/-- All numbers are in a span. -/
theorem within_any (lo hi : Int) (A : Option Addr) (cap : Nat) (zs : List Int) (B : Nat) (w : World) (hB : B ≤ w.heap.size) (hz : Ints w B A zs) (hl : zs.length ≤ 1000000) :
    Calls Try.prog 64 #[.agg #[.int .i64 lo, .int .i64 hi], .slice A zs.length cap] w fun e w' => e = .returned (.bool (allB lo hi zs)) ∧ Below w.heap.size w w' := by
  have hg : Below w.heap.size w (w.alloc (.cells #[.int .i64 lo, .int .i64 hi] 25)) := (Below.refl _ _).alloc (Nat.le_refl _) _
  have H := containsInts_any lo hi w.heap.size A cap zs B (w.alloc (.cells #[.int .i64 lo, .int .i64 hi] 25)) (alloc_at0 w _) (hz.below (hg.mono hB)) hl
  have HH := Lib.hid H
  have HG := Lib.hid hg
  clear H hg hz
  rw [allB_any]
  generalize zs.any (outB lo hi) = v at HH
  go_enter Try.func64, Try.ntmps64
  go_wp2_with (go_at_call 86; refine HH.out.mono ?_; rintro e w' ⟨rfl, rfl⟩)
  go_ret
  exact ⟨rfl, HG.out⟩

theorem upTo_any (n : Int) (w : World) : Calls Try.prog 66 #[.int .i64 n] w fun e w' => e = .returned (.agg #[.int .i64 0, .int .i64 n]) ∧ Below w.heap.size w w' := by
  go_enter Try.func66, Try.ntmps66
  go_wp2
  refine bodyPost_ret (v := .agg #[.int .i64 0, .int .i64 n]) (by simp [results, Try.results66, go_sem]) rfl ⟨rfl, ?_⟩
  exact (Below.refl _ _).alloc (Nat.le_refl _) _

theorem fromOne_any (n : Int) (w : World) : Calls Try.prog 65 #[.int .i64 n] w fun e w' => e = .returned (.agg #[.int .i64 1, .int .i64 n]) ∧ Below w.heap.size w w' := by
  go_enter Try.func65, Try.ntmps65
  go_wp2
  refine bodyPost_ret (v := .agg #[.int .i64 1, .int .i64 n]) (by simp [results, Try.results65, go_sem]) rfl ⟨rfl, ?_⟩
  exact (Below.refl _ _).alloc (Nat.le_refl _) _

/-- A list of numbers that was just made. -/
theorem within_new (lo hi : Int) (zs : List Int) (w : World) (b n c : Nat) (hn : n = zs.length) (hb : w.heap[b]? = some (.cells (ints zs).toArray 3 (0, 0))) (hl : zs.length ≤ 1000000) :
    Calls Try.prog 64 #[.agg #[.int .i64 lo, .int .i64 hi], .slice (some ⟨b, 0, none⟩) n c] w fun e w' => e = .returned (.bool (allB lo hi zs)) ∧ Below w.heap.size w w' := by
  subst hn
  exact within_any lo hi (some ⟨b, 0, none⟩) c zs _ w (Nat.le_refl _) (ints_lit zs hb rfl) hl

theorem validSpan_any (lo hi a b : Int) (w : World) :
    Calls Try.prog 74 #[.agg #[.int .i64 lo, .int .i64 hi], .agg #[.int .i64 a, .int .i64 b]] w fun e w' => e = .returned (.bool (okS lo hi a b)) ∧ Below w.heap.size w w' := by
  by_cases h : lo ≤ hi
  · have e : okS lo hi a b = allB a b [lo, hi] := by simp [okS, h]
    rw [e]
    clear e
    have H := within_any a b (some ⟨w.heap.size + 1 + 1, 0, none⟩) 2 [lo, hi] _ (((w.alloc (.cells #[.int .i64 lo, .int .i64 hi] 25)).alloc (.cells #[.int .i64 a, .int .i64 b] 25)).alloc (.cells #[.int .i64 lo, .int .i64 hi] 3)) (Nat.le_refl _) (ints_lit [lo, hi] (alloc3_at2 _ _ _ _) rfl) (by simp)
    have hg : Below w.heap.size w (((w.alloc (.cells #[.int .i64 lo, .int .i64 hi] 25)).alloc (.cells #[.int .i64 a, .int .i64 b] 25)).alloc (.cells #[.int .i64 lo, .int .i64 hi] 3)) := (((Below.refl _ _).alloc (Nat.le_refl _) _).alloc (by simp) _).alloc (by simp; omega) _
    generalize allB a b [lo, hi] = v at H
    have HH := Lib.hid H
    have HG := Lib.hid hg
    clear H hg
    go_enter Try.func74, Try.ntmps74
    go_wp2_with (go_at_call 64; refine HH.out.mono ?_; rintro e w' ⟨rfl, hB⟩; have HB := Lib.hid hB; clear hB)
    go_ret
    exact ⟨rfl, HG.out.trans (HB.out.mono HG.out.size)⟩
  · have e : okS lo hi a b = false := by simp [okS, h]
    rw [e]
    clear e
    go_enter Try.func74, Try.ntmps74
    go_wp2
    go_ret
    exact ⟨rfl, ((Below.refl _ _).alloc (Nat.le_refl _) _).alloc (by simp) _⟩


end Go.Proofs.Ytjjipkgconmfcaa

namespace Go.Proofs.Ytjjipkgconmfcaa
open Go.RowKit

/-- A hole. -/
structure Ho where
  a : Int
  lo : Int
  hi : Int
def hoc (x : Ho) : List Value := [.int .i64 x.a, .int .i64 x.lo, .int .i64 x.hi]
theorem hoc_len (x : Ho) : (hoc x).length = 3 := rfl
theorem hoc_one (l : List Ho) : ∀ v ∈ l.flatMap hoc, v.oneCell' = true := by
  intro v hv
  obtain ⟨p, -, hv⟩ := List.mem_flatMap.1 hv
  simp only [hoc, List.mem_cons, List.not_mem_nil, or_false] at hv
  rcases hv with rfl | rfl | rfl <;> rfl
/-- A flute. -/
structure Fu where
  len : Int
  e0 : Int
  e1 : Int
  c0 : Int
  c1 : Int
  s0 : Int
  s1 : Int
  A : Option Addr
  cap : Nat
  hs : List Ho
def fuc (f : Fu) : List Value := [.int .i64 f.len, .int .i64 f.e0, .int .i64 f.e1, .int .i64 f.c0, .int .i64 f.c1, .int .i64 f.s0, .int .i64 f.s1, .slice f.A f.hs.length f.cap]
theorem fuc_len (f : Fu) : (fuc f).length = 8 := rfl

def hoL (len : Int) : List Ho → Int → Bool
  | [], _ => true
  | h :: l, least => allB least (len - 1) [h.a] && okS h.lo h.hi 0 60 && hoL len l (h.a + 1)
def loH (hs : List Ho) (k : Nat) : Int := if k = 0 then 50 else ((hs[k - 1]?).map (·.a)).getD 0 + 1
theorem hoL_step {len : Int} {hs : List Ho} {k : Nat} (hk : k < hs.length) : hoL len (hs.drop k) (loH hs k) = (allB (loH hs k) (len - 1) [hs[k].a] && okS hs[k].lo hs[k].hi 0 60 && hoL len (hs.drop (k + 1)) (loH hs (k + 1))) := by
  have e : loH hs (k + 1) = hs[k].a + 1 := by simp [loH, hk]
  rw [List.drop_eq_getElem_cons hk, e]
  rfl
def okFu (f : Fu) : Bool := allB 50 20000 [f.len] && okS f.e0 f.e1 0 60 && okS f.c0 f.c1 0 60 && okS f.s0 f.s1 100000 500000 && decide (f.hs.length ≤ 8) && hoL f.len f.hs 50

/-- How many noughts a number below 256 ends with. -/
def tz8 (n : Nat) : Nat := (List.range 8).findIdx (n.testBit ·)
theorem tz8_all : ∀ n : Fin 256, (decide (tz8 n.val ≤ 8) && (decide (n.val = 0) || (decide (tz8 n.val < 8) && n.val.testBit (tz8 n.val))) && (List.range (tz8 n.val)).all fun j => !n.val.testBit j) = true := by decide +kernel
theorem tz8_spec (n : Nat) (h : n < 256) : tz8 n ≤ 8 ∧ (n ≠ 0 → tz8 n < 8 ∧ n.testBit (tz8 n) = true) ∧ ∀ j, j < tz8 n → n.testBit j = false := by
  have h1 := tz8_all ⟨n, h⟩
  simp only [Bool.and_eq_true, Bool.or_eq_true, decide_eq_true_eq, List.all_eq_true, List.mem_range, Bool.not_eq_true'] at h1
  exact ⟨h1.1.1, fun h0 => h1.1.2.resolve_left h0, h1.2⟩
theorem tz8_at {n i : Nat} (hn : n < 256) (hi : n.testBit i = true) (h : ∀ j, j < i → n.testBit j = false) : tz8 n = i := by
  obtain ⟨h1, h2, h3⟩ := tz8_spec n hn
  have h0 : n ≠ 0 := fun e => by rw [e, Nat.zero_testBit] at hi; cases hi
  obtain ⟨h4, h5⟩ := h2 h0
  rcases Nat.lt_trichotomy (tz8 n) i with hlt | he | hgt
  · rw [h _ hlt] at h5; cases h5
  · exact he
  · rw [h3 _ hgt] at hi; cases hi
theorem tz8_lt {n k : Nat} (hn : n < 256) (h0 : n ≠ 0) (hk : n < 2 ^ k) : tz8 n < k := by
  obtain ⟨_, h2, _⟩ := tz8_spec n hn
  have h5 := (h2 h0).2
  refine Nat.lt_of_not_le fun hle => ?_
  rw [Nat.testBit_lt_two_pow (Nat.lt_of_lt_of_le hk (Nat.pow_le_pow_right (by omega) hle))] at h5
  cases h5
/-- How many holes behind the first open one are closed. -/
def cloF (n i L : Nat) : Nat := min (tz8 (n >>> (i + 1))) L
theorem cloF_at {n i L c : Nat} (hn : n < 256) (hc : c ≤ L) (hcl : ∀ j, i < j → j < i + 1 + c → n.testBit j = false) (hend : c = L ∨ n.testBit (i + 1 + c) = true) (hL : L ≤ 8) : cloF n i L = c := by
  have hm : n >>> (i + 1) < 256 := Nat.lt_of_le_of_lt (Nat.shiftRight_le _ _) hn
  obtain ⟨h1, h2, h3⟩ := tz8_spec _ hm
  have hb : ∀ j, (n >>> (i + 1)).testBit j = n.testBit (i + 1 + j) := fun j => by rw [Nat.testBit_shiftRight]
  unfold cloF
  rcases hend with rfl | he
  · refine Nat.min_eq_right (Nat.le_of_not_lt fun hlt => ?_)
    by_cases h0 : n >>> (i + 1) = 0
    · have : tz8 (n >>> (i + 1)) = 8 := by rw [h0]; rfl
      omega
    · have := (h2 h0).2
      rw [hb, hcl _ (by omega) (by omega)] at this
      cases this
  · rw [tz8_at hm (by rw [hb]; exact he) fun j hj => by rw [hb]; exact hcl _ (by omega) (by omega)]
    exact Nat.min_eq_left hc

/-- The length of the air. -/
def airF (f : Fu) (n : Nat) : Int × Int :=
  if n = 0 then (f.len + f.e0, f.len + f.e1) else
    let h := f.hs[tz8 n]?.getD ⟨0, 0, 0⟩
    let k : Int := cloF n (tz8 n) (f.hs.length - tz8 n - 1)
    (h.a + h.lo + k * f.c0, h.a + h.hi + k * f.c1)
def tonA (s0 s1 : Int) (a : Int × Int) : Int × Int := (500 * s0 / a.2, 500 * s1 / a.1)
def tonF (f : Fu) (n : Nat) : Int × Int := tonA f.s0 f.s1 (airF f n)
def insB (o s : Int × Int) : Bool := decide (o.1 ≤ s.1) && decide (s.2 ≤ o.2)
def fingL (f : Fu) (o : Int × Int) : List Nat := (List.range (2 ^ f.hs.length)).filter fun n => insB o (tonF f n)

theorem allB_one {lo hi n : Int} : allB lo hi [n] = inR n lo hi := by simp [allB]
theorem okS_iff {a b lo hi : Int} : okS a b lo hi = true ↔ lo ≤ a ∧ a ≤ b ∧ b ≤ hi := by
  simp only [okS, allB, List.all_cons, List.all_nil, Bool.and_true, Bool.and_eq_true, inR_iff, decide_eq_true_eq]
  omega
theorem hoL_iff {len : Int} : ∀ (hs : List Ho) (least : Int), hoL len hs least = true → ∀ h ∈ hs, least ≤ h.a ∧ h.a ≤ len - 1 ∧ 0 ≤ h.lo ∧ h.lo ≤ h.hi ∧ h.hi ≤ 60
  | [], _, _, _, hm => by cases hm
  | x :: l, least, h, y, hm => by
    simp only [hoL, Bool.and_eq_true, allB_one, inR_iff, okS_iff] at h
    rcases List.mem_cons.1 hm with rfl | hm
    · omega
    · have := hoL_iff l _ h.2 y hm
      omega
theorem okFu_bnd {f : Fu} (h : okFu f = true) : (50 ≤ f.len ∧ f.len ≤ 20000) ∧ (0 ≤ f.e0 ∧ f.e0 ≤ f.e1 ∧ f.e1 ≤ 60) ∧ (0 ≤ f.c0 ∧ f.c0 ≤ f.c1 ∧ f.c1 ≤ 60) ∧ (100000 ≤ f.s0 ∧ f.s0 ≤ f.s1 ∧ f.s1 ≤ 500000) ∧ f.hs.length ≤ 8 ∧ ∀ x ∈ f.hs, 50 ≤ x.a ∧ x.a ≤ f.len - 1 ∧ 0 ≤ x.lo ∧ x.lo ≤ x.hi ∧ x.hi ≤ 60 := by
  simp only [okFu, Bool.and_eq_true, allB_one, inR_iff, okS_iff, decide_eq_true_eq] at h
  exact ⟨h.1.1.1.1.1, h.1.1.1.1.2, h.1.1.1.2, h.1.1.2, h.1.2, hoL_iff _ _ h.2⟩
theorem airF_bnd {f : Fu} (h : okFu f = true) {n : Nat} (hn : n < 2 ^ f.hs.length) : 50 ≤ (airF f n).1 ∧ (airF f n).1 ≤ (airF f n).2 ∧ (airF f n).2 ≤ 21000 := by
  obtain ⟨h1, h2, h3, h4, h5, h6⟩ := okFu_bnd h
  by_cases h0 : n = 0
  · simp only [airF, if_pos h0]
    omega
  · have hn8 : n < 256 := Nat.lt_of_lt_of_le hn (Nat.pow_le_pow_right (n := 2) (by omega) h5)
    have hi := tz8_lt hn8 h0 hn
    have hk : cloF n (tz8 n) (f.hs.length - tz8 n - 1) ≤ 8 := Nat.le_trans (Nat.min_le_right _ _) (by omega)
    have hx := h6 _ (List.getElem_mem hi)
    have e : f.hs[tz8 n]?.getD ⟨0, 0, 0⟩ = f.hs[tz8 n] := by simp [hi]
    simp only [airF, if_neg h0, e]
    generalize cloF n (tz8 n) (f.hs.length - tz8 n - 1) = k at hk
    generalize f.hs[tz8 n] = x at hx
    have hk2 : (k : Int) ≤ 8 := by omega
    have hk3 : (0 : Int) ≤ k := by omega
    generalize (k : Int) = k at hk2 hk3
    have a1 : 0 ≤ k * f.c0 := Int.mul_nonneg hk3 h3.1
    have a2 : k * f.c0 ≤ k * f.c1 := Int.mul_le_mul_of_nonneg_left h3.2.1 hk3
    have a3 : k * f.c1 ≤ 8 * 60 := Int.le_trans (Int.mul_le_mul_of_nonneg_right hk2 (by omega)) (Int.mul_le_mul_of_nonneg_left h3.2.2 (by omega))
    omega

end Go.Proofs.Ytjjipkgconmfcaa

namespace Go.Proofs.Ytjjipkgconmfcaa
open Go.RowKit

attribute [local go_sem] gives

theorem zeros_pairs (n : Nat) : pairs (List.replicate n (0, 0)) = List.replicate (n * 2) (Value.int .i64 0) := by
  induction n with
  | zero => rfl
  | succ n ih =>
    rw [List.replicate_succ, show (n + 1) * 2 = n * 2 + 1 + 1 by omega, List.replicate_succ, List.replicate_succ, ← ih]
    rfl
theorem run_make_pairs {P : Program} (t e : TypeId) (hi : (P.info? e).map (fun i => (i.zero, i.size, i.bytes)) = some (some (.agg #[.int .i64 0, .int .i64 0]), 2, 16)) (ht : P.underlying t = some (.slice e)) (n : Nat) (hn : n ≤ 1000000) (w : World) :
    (Instr.makeSlice t (.int .i64 (n : Int)) (.int .i64 (n : Int))).run P w = .ok (.slice (some ⟨w.heap.size, 0, none⟩) n n) (w.alloc (.cells (pairs (List.replicate n (0, 0))).toArray e)) := by
  obtain ⟨i, h1, h2, h3, h4⟩ := info_parts hi
  have hr := run_make (P := P) w t e i _ ht h1 h2 .i64 .i64 n n (by omega) (by omega) (by rw [h4]; omega) (by omega)
  simp only [Int.toNat_natCast] at hr
  rw [hr, h3]
  have e1 : madeCells (Value.agg #[.int .i64 0, .int .i64 0]).cells (n * 2) = (pairs (List.replicate n (0, 0))).toArray := by
    apply Array.ext'
    rw [zeros_pairs]
    apply List.ext_getElem?
    intro j
    by_cases hj : j < n * 2
    · have h2 : j % 2 = 0 ∨ j % 2 = 1 := by omega
      rcases h2 with h2 | h2 <;> simp [madeCells, hj, Value.cells, h2]
    · simp [madeCells, hj]
  rw [e1]

/-- copy, where an element is a whole struct. -/
theorem run_copy_structs {P : Program} (w : World) (dT sT ty elem : TypeId) (b o dLen dCap : Nat) (a : Addr) (sLen sCap size n : Nat) (cs : List Value)
    (hu : P.underlying dT = some (.slice elem)) (hs : (P.info? elem).map (·.size) = some size) (hn : n = Nat.min sLen dLen) (hl : cs.length = n * size)
    (hsrc : ∀ j v, cs[j]? = some v → w.cell? (a.add j) = some v) (hc : ∀ j, j < cs.length → (w.cell? ⟨b, o + j, none⟩).isSome = true) (hf : ∀ j, j < cs.length → w.frozen? ⟨b, o + j, none⟩ = false) (h1 : ∀ v ∈ cs, v.oneCell' = true) :
    (Builtin.copy_ #[dT, sT] ty #[.slice (some ⟨b, o, none⟩) dLen dCap, .slice (some a) sLen sCap]).run P w = .ok (goInt n) (w.setCells b o cs) := by
  have hl' := run_loadCells_list (P := P) w a cs hsrc
  have hst := run_storeCells_cells (P := P) b o cs 0 w (by simpa using hc) (by simpa using hf) h1
  cases hq : P.info? elem with
  | none => simp [hq] at hs
  | some i =>
    have hi : i.size = size := by simpa [hq] using hs
    rw [hl] at hl'
    simp [Builtin.copy_, run_underlying hu, Builtin.lenOf, Builtin.firstCells, sizeOf, typeInfo, hq, hi, ← hn, hl', hst]

section
variable {P : Program} {ops : Array Oper} {rest : List Oper} {op : Oper} {a : Act} {w : World} {Q : Exit → Act → World → Prop} {R : Value → World → Prop}
/-- .. as a step: the block behind it, all others as they were. -/
theorem gives_copy_blk (d s : Operand) (dT sT : TypeId) (ho : op.op = .call { callee := .builtin .copy, args := #[d, s], argTypes := #[dT, sT] }) (elem : TypeId) (hu : P.underlying dT = some (.slice elem)) (size n : Nat) (hs : (P.info? elem).map (·.size) = some size)
    (b o dLen dCap : Nat) (x : Addr) (sLen sCap : Nat) (hd : a.eval d = .slice (some ⟨b, o, none⟩) dLen dCap) (hx : a.eval s = .slice (some x) sLen sCap) (hn : n = Nat.min sLen dLen) {cs L : List Value} (hl : cs.length = n * size)
    (hsrc : ∀ j v, cs[j]? = some v → w.cell? (x.add j) = some v) {t : TypeId} (hb : w.heap[b]? = some (.cells L.toArray t (0, 0))) (hfit : o + cs.length ≤ L.length) (h1 : ∀ v ∈ cs, v.oneCell' = true)
    (h : ∀ w', Put w w' b → w'.heap[b]? = some (.cells (splice L o cs).toArray t (0, 0)) → R (goInt n) w') : gives P op a w R := by
  have hrun := run_copy_structs (P := P) w dT sT op.type elem b o dLen dCap x sLen sCap size n cs hu hs hn hl hsrc (fun j hj => by
    rw [cell_of_row w b _ _ _ _ hb]; simp [show o + j < L.length by omega]) (fun j hj => frozen_of_row w b _ _ _ hb) h1
  unfold gives execOp
  simp only [ho, resolve, invoke, builtin, Sem.run_bind, Sem.run_pure, Result.andThen_ok, List.map_toArray, List.map_cons, List.map_nil, hd, hx, hrun]
  exact h _ (put_setCells b cs o w) (setCells_block b cs o w L hb hfit)
theorem wpList_copy_blk (hgd : op.guard = none) (d s : Operand) (dT sT : TypeId) (ho : op.op = .call { callee := .builtin .copy, args := #[d, s], argTypes := #[dT, sT] }) (elem : TypeId) (hu : P.underlying dT = some (.slice elem)) (size n : Nat) (hs : (P.info? elem).map (·.size) = some size)
    (b o dLen dCap : Nat) (x : Addr) (sLen sCap : Nat) (hd : a.eval d = .slice (some ⟨b, o, none⟩) dLen dCap) (hx : a.eval s = .slice (some x) sLen sCap) (hn : n = Nat.min sLen dLen) {cs L : List Value} (hl : cs.length = n * size)
    (hsrc : ∀ j v, cs[j]? = some v → w.cell? (x.add j) = some v) {t : TypeId} (hb : w.heap[b]? = some (.cells L.toArray t (0, 0))) (hfit : o + cs.length ≤ L.length) (h1 : ∀ v ∈ cs, v.oneCell' = true)
    (h : ∀ w', Put w w' b → w'.heap[b]? = some (.cells (splice L o cs).toArray t (0, 0)) → wpList P ops Q rest (a.put op.dst (goInt n)) w') : wpList P ops Q (op :: rest) a w := by
  refine wpList_plain hgd fun K hK => ?_
  have hrun := run_copy_structs (P := P) w dT sT op.type elem b o dLen dCap x sLen sCap size n cs hu hs hn hl hsrc (fun j hj => by
    rw [cell_of_row w b _ _ _ _ hb]; simp [show o + j < L.length by omega]) (fun j hj => frozen_of_row w b _ _ _ hb) h1
  unfold Oper.wp execOp
  simp only [ho, resolve, invoke, builtin, Sem.run_bind, Sem.run_pure, Result.andThen_ok, List.map_toArray, List.map_cons, List.map_nil, hd, hx, hrun]
  exact hK _ _ (h _ (put_setCells b cs o w) (setCells_block b cs o w L hb hfit))
end

theorem pairs_one (l : List (Int × Int)) : ∀ v ∈ pairs l, v.oneCell' = true := oneCells_pairs l

end Go.Proofs.Ytjjipkgconmfcaa

namespace Go.Proofs.Ytjjipkgconmfcaa
open Go.RowKit
open R6 (done done_ne done_me upd_ne upd_me)

attribute [local go_sem] gives

theorem mul64_one (w : World) : Calls Try.prog 96 #[.int .u64 1, .int .u64 365] w fun e w' => e = .returned (.tuple #[.int .u64 0, .int .u64 365]) ∧ w = w' := by
  go_enter Try.func96, Try.ntmps96
  go_wp2
  go_ret2
  exact ⟨rfl, rfl⟩
theorem mul_one (w : World) : Calls Try.prog 92 #[.int .u64 1, .int .u64 365] w fun e w' => e = .returned (.tuple #[.int .u64 0, .int .u64 365]) ∧ w = w' := by
  go_enter Try.func92, Try.ntmps92
  go_wp2_with (go_at_call 96; refine (mul64_one _).mono ?_; rintro e w1 ⟨rfl, rfl⟩)
  go_ret2
  exact ⟨rfl, rfl⟩

theorem add_at (b o j : Nat) : (⟨b, o, none⟩ : Addr).add j = ⟨b, o + j, none⟩ := by
  unfold Addr.add
  split
  · subst_vars; rfl
  · rfl

/-- A region that writes one block, once. -/
structure OneW (W0 : World) (g : Nat) (X Y : Obj) (ks : Nat) (D : Nat → Bool) (σ : Nat → Value) (W : World) : Prop where
  gb : W0.grownBy W (some g)
  lt : g < W.heap.size
  no : D ks = false → W.heap[g]? = some X
  yes : D ks = true → W.heap[g]? = some Y
section
variable {W0 W W' : World} {g : Nat} {X Y : Obj} {ks : Nat} {D : Nat → Bool} {σ σ' : Nat → Value}
theorem OneW.move {k : Nat} (h : OneW W0 g X Y ks D σ W) (hk : (k == ks) = false) : OneW W0 g X Y ks (done D k) σ' W := by
  have e1 := done_ne (D := D) (k := k) (j := ks) (by simpa using fun e : ks = k => (by simpa using hk : k ≠ ks) e.symm)
  exact ⟨h.gb, h.lt, by rw [e1]; exact h.no, by rw [e1]; exact h.yes⟩
theorem OneW.next (h : OneW W0 g X Y ks D σ W) (hg : Grows W W') : OneW W0 g X Y ks D σ W' :=
  ⟨grown_trans h.gb (below_grown hg (Nat.le_refl _) _), Nat.lt_of_lt_of_le h.lt hg.size, fun e => (hg.block _ h.lt).trans (h.no e), fun e => (hg.block _ h.lt).trans (h.yes e)⟩
theorem OneW.put (h : OneW W0 g X Y ks D σ W) (hp : Put W W' g) (hM : W'.heap[g]? = some Y) : OneW W0 g X Y ks (done D ks) σ' W' :=
  ⟨grown_trans h.gb hp.grown, by rw [hp.size]; exact h.lt, fun e => (by rw [done_me] at e; cases e), fun _ => hM⟩
theorem OneW.start (hb : W0.heap[g]? = some X) (hD : D ks = false) : OneW W0 g X Y ks D σ W0.drew :=
  ⟨⟨rfl, rfl, rfl, Nat.le_refl _, fun _ _ _ => rfl⟩, lt_of_heap hb, fun _ => hb, fun e => by rw [hD] at e; cases e⟩
theorem OneW.other (h : OneW W0 g X Y ks D σ W) {k : Nat} (hk : k < W0.heap.size) (hne : k ≠ g) : W.heap[k]? = W0.heap[k]? := h.gb.block _ hk (by simpa using hne)
end

theorem rowSpan : RowTy Try.prog 25 2 := ⟨⟨_, Try.underlying25, rfl⟩, by kernel_rfl⟩
theorem infoSpan : (Try.prog.info? 25).map (fun i => (i.zero, i.size, i.bytes)) = some (some (.agg #[.int .i64 0, .int .i64 0]), 2, 16) := by kernel_rfl
theorem sizeSpan : (Try.prog.info? 25).map (·.size) = some 2 := by kernel_rfl

/-- Where the doubling is. -/
def repL (p : Int × Int) (m r : Nat) : List Value := pairs (List.replicate m p ++ List.replicate r (0, 0))
theorem repL_len (p : Int × Int) (m r : Nat) : (repL p m r).length = (m + r) * 2 := by simp [repL, pairs_len]
theorem pairs_rep (p : Int × Int) (m : Nat) : (pairs (List.replicate m p)).length = m * 2 := by simp [pairs_len]
theorem repL_splice (p : Int × Int) (m c r : Nat) : splice (repL p m (c + r)) (m * 2) (pairs (List.replicate c p)) = repL p (m + c) r := by
  unfold splice repL
  rw [List.replicate_append_replicate.symm, List.replicate_append_replicate.symm]
  simp only [pairs_app, pairs_rep, List.append_assoc]
  rw [List.take_left' (pairs_rep p m), ← List.drop_drop, List.drop_left' (pairs_rep p m), List.drop_left' (pairs_rep _ c)]
theorem repL_at (p : Int × Int) (m r c : Nat) (hc : c ≤ m) : ∀ j v, (pairs (List.replicate c p))[j]? = some v → (repL p m r).toArray[0 + j]? = some v := by
  intro j v hv
  have hj : j < (pairs (List.replicate c p)).length := (List.getElem?_eq_some_iff.1 hv).1
  rw [Nat.zero_add, List.getElem?_toArray]
  obtain ⟨d, rfl⟩ : ∃ d, m = c + d := ⟨m - c, by omega⟩
  rw [repL, List.replicate_append_replicate.symm, List.append_assoc, pairs_app, List.getElem?_append_left hj]
  exact hv

/-- What Repeat makes. -/
def RepPost (w : World) (p : Int × Int) (e : Ending) (w' : World) : Prop :=
  e = .returned (.slice (some ⟨w.heap.size, 0, none⟩) 365 365) ∧ w'.heap[w.heap.size]? = some (.cells (pairs (List.replicate 365 p)).toArray 25 (0, 0)) ∧ Below w.heap.size w w'

set_option maxRecDepth 100000 in
set_option maxHeartbeats 4000000 in
theorem repeat_any (lo hi : Int) (b : Nat) (c : Nat) (w : World) (hb : w.heap[b]? = some (.cells #[.int .i64 lo, .int .i64 hi] 25 (0, 0))) :
    Calls Try.prog 76 #[.slice (some ⟨b, 0, none⟩) 1 c, .int .i64 365] w (RepPost w (lo, hi)) := by
  have HB := Lib.hid hb
  have hlt := lt_of_heap hb
  obtain ⟨Z, hZ⟩ : ∃ Z, Z = repL (lo, hi) 0 (1 + 364) := ⟨_, rfl⟩
  have hmk : ∀ W, (Instr.makeSlice 41 (.int .i64 365) (.int .i64 365)).run Try.prog W = .ok (.slice (some ⟨W.heap.size, 0, none⟩) 365 365) (W.alloc (.cells Z.toArray 25)) := fun W => by
    rw [hZ]
    exact run_make_pairs (P := Try.prog) 41 25 infoSpan Try.underlying41 365 (by decide) W
  have hsp := repL_splice (lo, hi) 0 1 364
  rw [← hZ] at hsp
  simp only [Nat.zero_mul, Nat.zero_add] at hsp
  have hzl : Z.length = 730 := by rw [hZ, repL_len]
  obtain ⟨Y, hY⟩ : ∃ Y, Y = repL (lo, hi) 1 364 := ⟨_, rfl⟩
  rw [← hY] at hsp
  have HS := Lib.hid (And.intro hsp (And.intro hzl hY))
  have hg0 : Below w.heap.size w (w.alloc (.cells Z.toArray 25)) := (Below.refl w.heap.size w).alloc (Nat.le_refl _) _
  have HG0 := Lib.hid hg0
  clear hb hZ hsp hzl hY hg0
  go_enter Try.func76, Try.ntmps76
  go_wp2_with (first
    | (go_at_call 92; refine (mul_one _).mono ?_; rintro e w1 ⟨rfl, rfl⟩)
    | (show wpList _ _ _ (Oper.mk (some 33) _ _ _ _ _ :: _) _ _
       refine wpList_copy_blk rfl (.tmp 31) (.tmp 32) 41 41 rfl 25 Try.underlying41 2 1 sizeSpan w.heap.size 0 365 365 ⟨b, 0, none⟩ 1 c (by rfl) (by rfl) rfl (cs := pairs (List.replicate 1 (lo, hi))) (L := Z) rfl
         (fun j v hv => by rw [add_at]; exact (cell_of_row _ b (0 + j) _ _ _ ((Below.heap_alloc _ _ _ hlt).trans HB.out)).trans (at0 j v hv)) (alloc_at0 _ _) (by rw [HS.out.2.1]; simp [pairs_len]) (pairs_one _) ?_
       intro w2 hP2 hM2
       rw [HS.out.1] at hM2
       have hs2 := hP2.size
       simp only [World.size_alloc] at hs2
       have H2 := Lib.hid (And.intro hM2 (HG0.out.trans (hP2.below (B := w.heap.size) (Nat.le_refl _))))
       clear hP2 hM2))
  go_loopg [8] 364 (fun gg s8 wx => ∃ m : Nat, m + gg = 365 ∧ 1 ≤ m ∧ s8 = .int .i64 m ∧ Hid (wx.heap[w.heap.size]? = some (.cells (repL (lo, hi) m gg).toArray 25 (0, 0))) ∧ Hid (Below w.heap.size w wx))
  case atStart => exact ⟨1, rfl, Nat.le_refl _, rfl, by rw [← HS.out.2.2]; exact H2.out.1, H2.out.2⟩
  case round =>
    obtain ⟨m, hmg, hm1, rfl, hM, hBr⟩ := hrel
    cases gk with
    | zero =>
      obtain rfl : m = 365 := by omega
      go_wp2
      go_ret
      refine ⟨rfl, ?_, hBr.out⟩
      have := hM.out
      simpa only [repL, List.replicate_zero, List.append_nil] using this
    | succ gg =>
      have hml : (m : Int) < 365 := by omega
      obtain ⟨c2, r2, hcr, hc2, hcm, hmin⟩ : ∃ c2 r2 : Nat, gg + 1 = c2 + r2 ∧ 1 ≤ c2 ∧ c2 ≤ m ∧ c2 = Nat.min m (365 - m) := by
        refine ⟨Nat.min m (365 - m), gg + 1 - Nat.min m (365 - m), ?_, ?_, ?_, rfl⟩
        all_goals
          have h1 : Nat.min m (365 - m) ≤ m := Nat.min_le_left _ _
          have h2 : Nat.min m (365 - m) ≤ 365 - m := Nat.min_le_right _ _
          have h3 : Nat.min m (365 - m) = m ∨ Nat.min m (365 - m) = 365 - m := by
            rcases Nat.le_total m (365 - m) with h | h
            · exact .inl (Nat.min_eq_left h)
            · exact .inr (Nat.min_eq_right h)
          omega
      have hM0 := hM.out
      have hs0 := repL_splice (lo, hi) m c2 r2
      have hs1 := repL_at (lo, hi) m (c2 + r2) c2 hcm
      have hs2 := repL_len (lo, hi) m (c2 + r2)
      rw [hcr] at hM0
      generalize repL (lo, hi) m (c2 + r2) = L0 at hM0 hs0 hs1 hs2
      have hs3 := pairs_rep (lo, hi) c2
      have hs4 := pairs_one (List.replicate c2 (lo, hi))
      generalize pairs (List.replicate c2 (lo, hi)) = cs0 at hs0 hs1 hs3 hs4
      have hws := hBr.out.size
      have h0 : OneW wr w.heap.size (.cells L0.toArray 25 (0, 0)) (.cells (repL (lo, hi) (m + c2) r2).toArray 25 (0, 0)) 7 (fun _ => false) (fun _ => undef) wr.drew := OneW.start hM0 rfl
      obtain ⟨L1, hL1⟩ : ∃ L1, L1 = repL (lo, hi) (m + c2) r2 := ⟨_, rfl⟩
      rw [← hL1] at hs0 h0
      have HL1 := Lib.hid hL1
      clear hL1
      have H0 := Lib.hid h0
      have HL := Lib.hid (And.intro hs0 (And.intro hs1 (And.intro hs2 (And.intro hs3 (And.intro hs4 hmin)))))
      clear hM0 h0 hs0 hs1 hs2 hs3 hs4 hmin
      have hm0 : (0 : Int) ≤ m := by omega
      have hm2 : (m : Int) ≤ 365 := by omega
      have hm3 : ¬ 365 = m := by omega
      go_wp2
      refine R6.wp_walk (C := OneW wr w.heap.size (.cells L0.toArray 25 (0, 0)) (.cells L1.toArray 25 (0, 0)) 7) 48 (by kernel_rfl) (by kernel_rfl) rfl ⟨H0.out.gb, H0.out.lt, H0.out.no, H0.out.yes⟩ ?_
      simp only []
      repeat (first
        | (refine' R6.WalkR.det (fun _ => rfl) (fun D ρ W hK hC => ?_) ?_
           rotate_left
           · skip
             have HC := Lib.hid hC
             clear hC hK
             go_simp
             first
               | with_reducible exact ⟨rfl, HC.out.move rfl⟩
               | fail
           simp only [Act.put, List.setIfInBounds_toArray, List.set_cons_succ, List.set_cons_zero]))
      refine' R6.WalkR.det (fun _ => rfl) (fun D ρ W hK hC => ?_) ?_
      rotate_left
      · have h7 := hC.no hK.me
        have HC := Lib.hid hC
        clear hC hK
        refine gives_copy_blk (.tmp 41) (.tmp 44) 41 41 rfl 25 Try.underlying41 2 c2 sizeSpan w.heap.size (m * 2) (365 - m) (365 - m) ⟨w.heap.size, 0, none⟩ m 365 (by rfl) (by rfl) HL.out.2.2.2.2.2 HL.out.2.2.2.1
          (fun j v hv => by rw [add_at]; exact (cell_of_row W w.heap.size (0 + j) _ _ _ h7).trans (HL.out.2.1 j v hv)) h7 (by rw [HL.out.2.2.2.1, HL.out.2.2.1]; omega) HL.out.2.2.2.2.1 ?_
        intro W1 hP hM1
        rw [HL.out.1] at hM1
        exact ⟨rfl, HC.out.put hP hM1⟩
      simp only [Act.put, List.setIfInBounds_toArray, List.set_cons_succ, List.set_cons_zero]
      have hc2m : (c2 : Int) ≤ 365 := by omega
      have hc20 : (0 : Int) ≤ c2 := by omega
      have hwr : IntKind.i64.wrap ((m : Int) + c2) = (m : Int) + c2 := by rw [IntKind.wrap_i64]; omega
      simp only [goInt]
      repeat (first
        | (refine' R6.WalkR.det (fun _ => rfl) (fun D ρ W hK hC => ?_) ?_
           rotate_left
           · skip
             have HC := Lib.hid hC
             clear hC hK
             go_simp
             first
               | with_reducible exact ⟨rfl, HC.out.move rfl⟩
               | fail
           simp only [Act.put, List.setIfInBounds_toArray, List.set_cons_succ, List.set_cons_zero]))
      refine R6.WalkR.nil (fun D ρ W hD hC => ?_)
      have hM7 := hC.yes (hD 7 (by decide))
      have hB7 := hBr.out.grown hC.gb hws (fun k e => by cases e; exact Nat.le_refl _)
      have H7 := Lib.hid (And.intro hM7 hB7)
      clear hC hD hM7 hB7
      go_wp2
      go_roundg r2
      case measure => omega
      case rel => exact ⟨m + c2, by omega, by omega, by go_num, by rw [← HL1.out]; exact H7.out.1, H7.out.2⟩

end Go.Proofs.Ytjjipkgconmfcaa
