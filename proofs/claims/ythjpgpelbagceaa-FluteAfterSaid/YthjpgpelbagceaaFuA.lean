/-
  Flute's spans, and whether numbers are in a span.
-/
import Derived.Test.YthjpgpelbagceaaCdB
import Derived.Test.YthjpgpelbagceaaGrA
import Derived.Test.YthjpgpelbagceaaR8
set_option linter.all false
namespace Go.Proofs.Ythjpgpelbagceaa
open Go.RowKit

theorem within1_any (lo hi n : Int) (b : Nat) (w : World) (hb : w.heap[b]? = some (.cells #[.int .i64 lo, .int .i64 hi] 25 (0, 0))) :
    Calls Try.prog 87 #[.int .i64 n, .pointer (some ⟨b, 0, none⟩)] w fun e w' => e = .returned (.bool (outB lo hi n)) ∧ w = w' := by
  have hc := fun i => cell_of_row w b i _ _ _ hb
  have HB := Lib.hid hb
  clear hb
  by_cases h1 : n < lo
  · have e : outB lo hi n = true := by simp [outB, h1]
    rw [e]
    clear e
    go_enter Try.func87, Try.ntmps87
    go_wp2
    go_ret
    exact ⟨rfl, rfl⟩
  · by_cases h2 : hi < n
    · have e : outB lo hi n = true := by simp [outB, h2]
      rw [e]
      clear e
      go_enter Try.func87, Try.ntmps87
      go_wp2
      go_ret
      exact ⟨rfl, rfl⟩
    · have e : outB lo hi n = false := by simp [outB]; omega
      rw [e]
      clear e
      go_enter Try.func87, Try.ntmps87
      go_wp2
      go_ret
      exact ⟨rfl, rfl⟩

set_option maxHeartbeats 1000000 in
theorem indexInts_any (lo hi : Int) (b : Nat) (A : Option Addr) (cap : Nat) (zs : List Int) (B : Nat) (w : World) (hb : w.heap[b]? = some (.cells #[.int .i64 lo, .int .i64 hi] 25 (0, 0))) (hz : Ints w B A zs) (hl : zs.length ≤ 1000000) :
    Calls Try.prog 94 #[.slice A zs.length cap, .func (.func 87) #[] #[.pointer (some ⟨b, 0, none⟩)]] w fun e w' => e = .returned (.int .i64 (idxL (outB lo hi) zs 0)) ∧ w = w' := by
  have HB := Lib.hid hb
  have HZ := Lib.hid hz
  clear hb hz
  go_enter Try.func94, Try.ntmps94
  go_wp2
  go_loopg [8] zs.length (fun gg s8 wx => ∃ k : Nat, k + gg = zs.length ∧ s8 = .int .i64 k ∧ Hid (idxL (outB lo hi) (zs.drop k) k = idxL (outB lo hi) zs 0) ∧ wx = w)
  case atStart => exact ⟨0, by omega, rfl, rfl, rfl⟩
  case round =>
    obtain ⟨k, hkg, rfl, hI, rfl⟩ := hrel
    cases gk with
    | zero =>
      obtain rfl : k = zs.length := by omega
      go_wp2
      go_ret
      refine ⟨?_, rfl⟩
      rw [← hI.out, List.drop_length]
      rfl
    | succ gg =>
      have hk : k < zs.length := by omega
      have hkz : (k : Int) < zs.length := by omega
      obtain ⟨c, off, hA, hcB, hc⟩ := HZ.out (by omega)
      subst hA
      have hx := hc k hk
      have hst := idxL_step (P := outB lo hi) hk
      have hg : zs[k]?.getD 0 = zs[k] := by simp [hk]
      rw [hg] at hx
      rw [hI.out] at hst
      have hcl := fun n W hW => within1_any lo hi n b W hW
      generalize zs[k] = x at hx hst
      have HC := Lib.hid hcl
      have HST := Lib.hid hst
      clear hc hst hcl hg
      cases hp : outB lo hi x with
      | true =>
        have HP := Lib.hid hp
        clear hp
        go_wp2_with (go_at_call 87; refine (HC.out _ _ HB.out).mono ?_; rintro e w' ⟨rfl, rfl⟩; rw [HP.out])
        go_ret
        refine ⟨?_, rfl⟩
        rw [HST.out, HP.out]
        rfl
      | false =>
        have HP := Lib.hid hp
        clear hp
        go_wp2_with (go_at_call 87; refine (HC.out _ _ HB.out).mono ?_; rintro e w' ⟨rfl, rfl⟩; rw [HP.out])
        go_roundg gg
        case measure => omega
        case rel => exact ⟨k + 1, by omega, by go_num, by rw [HST.out, HP.out]; rfl, rfl⟩

theorem containsInts_any (lo hi : Int) (b : Nat) (A : Option Addr) (cap : Nat) (zs : List Int) (B : Nat) (w : World) (hb : w.heap[b]? = some (.cells #[.int .i64 lo, .int .i64 hi] 25 (0, 0))) (hz : Ints w B A zs) (hl : zs.length ≤ 1000000) :
    Calls Try.prog 86 #[.slice A zs.length cap, .func (.func 87) #[] #[.pointer (some ⟨b, 0, none⟩)]] w fun e w' => e = .returned (.bool (zs.any (outB lo hi))) ∧ w = w' := by
  have H := indexInts_any lo hi b A cap zs B w hb hz hl
  have e := idxL_any (P := outB lo hi) zs 0
  rw [← e]
  generalize idxL (outB lo hi) zs 0 = i at H
  have HH := Lib.hid H
  clear H e hb hz
  go_enter Try.func86, Try.ntmps86
  go_wp2_with (go_at_call 94; refine HH.out.mono ?_; rintro e w' ⟨rfl, rfl⟩)
  go_ret
  exact ⟨rfl, rfl⟩

/-- All numbers are in a span. -/
theorem within_any (lo hi : Int) (A : Option Addr) (cap : Nat) (zs : List Int) (B : Nat) (w : World) (hB : B ≤ w.heap.size) (hz : Ints w B A zs) (hl : zs.length ≤ 1000000) :
    Calls Try.prog 64 #[.agg #[.int .i64 lo, .int .i64 hi], .slice A zs.length cap] w fun e w' => e = .returned (.bool (allB lo hi zs)) ∧ Below w.heap.size w w' := by
  have hg : Below w.heap.size w (w.alloc (.cells #[.int .i64 lo, .int .i64 hi] 25)) := (Below.refl _ _).alloc (Nat.le_refl _) _
  have H := containsInts_any lo hi w.heap.size A cap zs B (w.alloc (.cells #[.int .i64 lo, .int .i64 hi] 25)) (alloc_at0 w _) (hz.below (hg.mono hB)) hl
  have HH := Lib.hid H
  have HG := Lib.hid hg
  clear H hg hz
  rw [allB_any]
  generalize zs.any (outB lo hi) = v at HH
  go_enter Try.func64, Try.ntmps64
  go_wp2_with (go_at_call 86; refine HH.out.mono ?_; rintro e w' ⟨rfl, rfl⟩)
  go_ret
  exact ⟨rfl, HG.out⟩

theorem upTo_any (n : Int) (w : World) : Calls Try.prog 66 #[.int .i64 n] w fun e w' => e = .returned (.agg #[.int .i64 0, .int .i64 n]) ∧ Below w.heap.size w w' := by
  go_enter Try.func66, Try.ntmps66
  go_wp2
  refine bodyPost_ret (v := .agg #[.int .i64 0, .int .i64 n]) (by simp [results, Try.results66, go_sem]) rfl ⟨rfl, ?_⟩
  exact (Below.refl _ _).alloc (Nat.le_refl _) _

theorem fromOne_any (n : Int) (w : World) : Calls Try.prog 65 #[.int .i64 n] w fun e w' => e = .returned (.agg #[.int .i64 1, .int .i64 n]) ∧ Below w.heap.size w w' := by
  go_enter Try.func65, Try.ntmps65
  go_wp2
  refine bodyPost_ret (v := .agg #[.int .i64 1, .int .i64 n]) (by simp [results, Try.results65, go_sem]) rfl ⟨rfl, ?_⟩
  exact (Below.refl _ _).alloc (Nat.le_refl _) _

/-- A list of numbers that was just made. -/
theorem within_new (lo hi : Int) (zs : List Int) (w : World) (b n c : Nat) (hn : n = zs.length) (hb : w.heap[b]? = some (.cells (ints zs).toArray 3 (0, 0))) (hl : zs.length ≤ 1000000) :
    Calls Try.prog 64 #[.agg #[.int .i64 lo, .int .i64 hi], .slice (some ⟨b, 0, none⟩) n c] w fun e w' => e = .returned (.bool (allB lo hi zs)) ∧ Below w.heap.size w w' := by
  subst hn
  exact within_any lo hi (some ⟨b, 0, none⟩) c zs _ w (Nat.le_refl _) (ints_lit zs hb rfl) hl

theorem validSpan_any (lo hi a b : Int) (w : World) :
    Calls Try.prog 74 #[.agg #[.int .i64 lo, .int .i64 hi], .agg #[.int .i64 a, .int .i64 b]] w fun e w' => e = .returned (.bool (okS lo hi a b)) ∧ Below w.heap.size w w' := by
  by_cases h : lo ≤ hi
  · have e : okS lo hi a b = allB a b [lo, hi] := by simp [okS, h]
    rw [e]
    clear e
    have H := within_any a b (some ⟨w.heap.size + 1 + 1, 0, none⟩) 2 [lo, hi] _ (((w.alloc (.cells #[.int .i64 lo, .int .i64 hi] 25)).alloc (.cells #[.int .i64 a, .int .i64 b] 25)).alloc (.cells #[.int .i64 lo, .int .i64 hi] 3)) (Nat.le_refl _) (ints_lit [lo, hi] (alloc3_at2 _ _ _ _) rfl) (by simp)
    have hg : Below w.heap.size w (((w.alloc (.cells #[.int .i64 lo, .int .i64 hi] 25)).alloc (.cells #[.int .i64 a, .int .i64 b] 25)).alloc (.cells #[.int .i64 lo, .int .i64 hi] 3)) := (((Below.refl _ _).alloc (Nat.le_refl _) _).alloc (by simp) _).alloc (by simp; omega) _
    generalize allB a b [lo, hi] = v at H
    have HH := Lib.hid H
    have HG := Lib.hid hg
    clear H hg
    go_enter Try.func74, Try.ntmps74
    go_wp2_with (go_at_call 64; refine HH.out.mono ?_; rintro e w' ⟨rfl, hB⟩; have HB := Lib.hid hB; clear hB)
    go_ret
    exact ⟨rfl, HG.out.trans (HB.out.mono HG.out.size)⟩
  · have e : okS lo hi a b = false := by simp [okS, h]
    rw [e]
    clear e
    go_enter Try.func74, Try.ntmps74
    go_wp2
    go_ret
    exact ⟨rfl, ((Below.refl _ _).alloc (Nat.le_refl _) _).alloc (by simp) _⟩


end Go.Proofs.Ythjpgpelbagceaa
