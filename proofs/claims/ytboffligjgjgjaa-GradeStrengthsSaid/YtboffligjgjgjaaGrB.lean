/-
  Whether numbers are in a span; spans; sections (package grade).
-/
import Derived.Test.YtboffligjgjgjaaGrM
import Derived.Test.YtboffligjgjgjaaCdB
namespace Go.Proofs.Ytboffligjgjgjaa
open Go.RowKit

theorem grWithin1_any (lo hi n : Int) (b : Nat) (w : World) (hb : w.heap[b]? = some (.cells #[.int .i64 lo, .int .i64 hi] 38 (0, 0))) :
    Calls Try.prog 61 #[.int .i64 n, .pointer (some ⟨b, 0, none⟩)] w fun e w' => e = .returned (.bool (outB lo hi n)) ∧ w = w' := by
  have hc := fun i => cell_of_row w b i _ _ _ hb
  have HB := Lib.hid hb
  clear hb
  by_cases h1 : n < lo
  · have e : outB lo hi n = true := by simp [outB, h1]
    rw [e]
    clear e
    go_enter Try.func61, Try.ntmps61
    go_wp2
    go_ret
    exact ⟨rfl, rfl⟩
  · by_cases h2 : hi < n
    · have e : outB lo hi n = true := by simp [outB, h2]
      rw [e]
      clear e
      go_enter Try.func61, Try.ntmps61
      go_wp2
      go_ret
      exact ⟨rfl, rfl⟩
    · have e : outB lo hi n = false := by simp [outB]; omega
      rw [e]
      clear e
      go_enter Try.func61, Try.ntmps61
      go_wp2
      go_ret
      exact ⟨rfl, rfl⟩

set_option maxHeartbeats 1000000 in
theorem grIndexInts_any (lo hi : Int) (b : Nat) (A : Option Addr) (cap : Nat) (zs : List Int) (B : Nat) (w : World) (hb : w.heap[b]? = some (.cells #[.int .i64 lo, .int .i64 hi] 38 (0, 0))) (hz : Ints w B A zs) (hl : zs.length ≤ 1000000) :
    Calls Try.prog 73 #[.slice A zs.length cap, .func (.func 61) #[] #[.pointer (some ⟨b, 0, none⟩)]] w fun e w' => e = .returned (.int .i64 (idxL (outB lo hi) zs 0)) ∧ w = w' := by
  have HB := Lib.hid hb
  have HZ := Lib.hid hz
  clear hb hz
  go_enter Try.func73, Try.ntmps73
  go_wp2
  go_loopg [8] zs.length (fun gg s8 wx => ∃ k : Nat, k + gg = zs.length ∧ s8 = .int .i64 k ∧ Hid (idxL (outB lo hi) (zs.drop k) k = idxL (outB lo hi) zs 0) ∧ wx = w)
  case atStart => exact ⟨0, by omega, rfl, rfl, rfl⟩
  case round =>
    obtain ⟨k, hkg, rfl, hI, rfl⟩ := hrel
    cases gk with
    | zero =>
      obtain rfl : k = zs.length := by omega
      go_wp2
      go_ret
      refine ⟨?_, rfl⟩
      rw [← hI.out, List.drop_length]
      rfl
    | succ gg =>
      have hk : k < zs.length := by omega
      have hkz : (k : Int) < zs.length := by omega
      obtain ⟨c, off, hA, hcB, hc⟩ := HZ.out (by omega)
      subst hA
      have hx := hc k hk
      have hst := idxL_step (P := outB lo hi) hk
      have hg : zs[k]?.getD 0 = zs[k] := by simp [hk]
      rw [hg] at hx
      rw [hI.out] at hst
      have hcl := fun n W hW => grWithin1_any lo hi n b W hW
      generalize zs[k] = x at hx hst
      have HC := Lib.hid hcl
      have HST := Lib.hid hst
      clear hc hst hcl hg
      cases hp : outB lo hi x with
      | true =>
        have HP := Lib.hid hp
        clear hp
        go_wp2_with (go_at_call 61; refine (HC.out _ _ HB.out).mono ?_; rintro e w' ⟨rfl, rfl⟩; rw [HP.out])
        go_ret
        refine ⟨?_, rfl⟩
        rw [HST.out, HP.out]
        rfl
      | false =>
        have HP := Lib.hid hp
        clear hp
        go_wp2_with (go_at_call 61; refine (HC.out _ _ HB.out).mono ?_; rintro e w' ⟨rfl, rfl⟩; rw [HP.out])
        go_roundg gg
        case measure => omega
        case rel => exact ⟨k + 1, by omega, by go_num, by rw [HST.out, HP.out]; rfl, rfl⟩

theorem grContainsInts_any (lo hi : Int) (b : Nat) (A : Option Addr) (cap : Nat) (zs : List Int) (B : Nat) (w : World) (hb : w.heap[b]? = some (.cells #[.int .i64 lo, .int .i64 hi] 38 (0, 0))) (hz : Ints w B A zs) (hl : zs.length ≤ 1000000) :
    Calls Try.prog 60 #[.slice A zs.length cap, .func (.func 61) #[] #[.pointer (some ⟨b, 0, none⟩)]] w fun e w' => e = .returned (.bool (zs.any (outB lo hi))) ∧ w = w' := by
  have H := grIndexInts_any lo hi b A cap zs B w hb hz hl
  have e := idxL_any (P := outB lo hi) zs 0
  rw [← e]
  generalize idxL (outB lo hi) zs 0 = i at H
  have HH := Lib.hid H
  clear H e hb hz
  go_enter Try.func60, Try.ntmps60
  go_wp2_with (go_at_call 73; refine HH.out.mono ?_; rintro e w' ⟨rfl, rfl⟩)
  go_ret
  exact ⟨rfl, rfl⟩

theorem grWithin_any (lo hi : Int) (A : Option Addr) (cap : Nat) (zs : List Int) (B : Nat) (w : World) (hB : B ≤ w.heap.size) (hz : Ints w B A zs) (hl : zs.length ≤ 1000000) :
    Calls Try.prog 37 #[.agg #[.int .i64 lo, .int .i64 hi], .slice A zs.length cap] w fun e w' => e = .returned (.bool (allB lo hi zs)) ∧ Below w.heap.size w w' := by
  have hg : Below w.heap.size w (w.alloc (.cells #[.int .i64 lo, .int .i64 hi] 38)) := (Below.refl _ _).alloc (Nat.le_refl _) _
  have H := grContainsInts_any lo hi w.heap.size A cap zs B (w.alloc (.cells #[.int .i64 lo, .int .i64 hi] 38)) (alloc_at0 w _) (hz.below (hg.mono hB)) hl
  have HH := Lib.hid H
  have HG := Lib.hid hg
  clear H hg hz
  rw [allB_any]
  generalize zs.any (outB lo hi) = v at HH
  go_enter Try.func37, Try.ntmps37
  go_wp2_with (go_at_call 60; refine HH.out.mono ?_; rintro e w' ⟨rfl, rfl⟩)
  go_ret
  exact ⟨rfl, HG.out⟩

theorem grUpTo_any (n : Int) (w : World) : Calls Try.prog 38 #[.int .i64 n] w fun e w' => e = .returned (.agg #[.int .i64 0, .int .i64 n]) ∧ Below w.heap.size w w' := by
  go_enter Try.func38, Try.ntmps38
  go_wp2
  refine bodyPost_ret (v := .agg #[.int .i64 0, .int .i64 n]) (by simp [results, Try.results38, go_sem]) rfl ⟨rfl, ?_⟩
  exact (Below.refl _ _).alloc (Nat.le_refl _) _

theorem grFromOne_any (n : Int) (w : World) : Calls Try.prog 50 #[.int .i64 n] w fun e w' => e = .returned (.agg #[.int .i64 1, .int .i64 n]) ∧ Below w.heap.size w w' := by
  go_enter Try.func50, Try.ntmps50
  go_wp2
  refine bodyPost_ret (v := .agg #[.int .i64 1, .int .i64 n]) (by simp [results, Try.results50, go_sem]) rfl ⟨rfl, ?_⟩
  exact (Below.refl _ _).alloc (Nat.le_refl _) _

/-- A list of numbers that was just made. -/
theorem grWithin_new (lo hi : Int) (zs : List Int) (w : World) (b n c : Nat) (hn : n = zs.length) (hb : w.heap[b]? = some (.cells (ints zs).toArray 3 (0, 0))) (hl : zs.length ≤ 1000000) :
    Calls Try.prog 37 #[.agg #[.int .i64 lo, .int .i64 hi], .slice (some ⟨b, 0, none⟩) n c] w fun e w' => e = .returned (.bool (allB lo hi zs)) ∧ Below w.heap.size w w' := by
  subst hn
  exact grWithin_any lo hi (some ⟨b, 0, none⟩) c zs _ w (Nat.le_refl _) (ints_lit zs hb rfl) hl

theorem grEmpty_any (lo hi : Int) (w : World) : Calls Try.prog 67 #[.agg #[.int .i64 lo, .int .i64 hi]] w fun e w' => e = .returned (.bool (decide (hi < lo))) ∧ Below w.heap.size w w' := by
  go_enter Try.func67, Try.ntmps67
  go_wp2
  go_ret
  exact ⟨rfl, grow1 _ _⟩

theorem grValidSection_any (n : Int) (w : World) : Calls Try.prog 22 #[.int .i64 n] w fun e w' => e = .returned (.bool (allB 0 2 [n])) ∧ Below w.heap.size w w' := by
  have H := fun W => grWithin_new 0 2 [n] (W.alloc (.cells #[.int .i64 n] 3)) W.heap.size 1 1 rfl (alloc_at0 W _) (by simp)
  generalize allB 0 2 [n] = v at H
  have HH := Lib.hid H
  clear H
  go_enter Try.func22, Try.ntmps22
  go_wp2_with (first
    | (go_at_call 37; refine (HH.out _).mono ?_; rintro e w2 ⟨rfl, hB2⟩; have H2 := Lib.hid hB2; clear hB2)
    | (go_at_call 38; refine (grUpTo_any _ _).mono ?_; rintro e w1 ⟨rfl, hB1⟩; have H1 := Lib.hid hB1; clear hB1))
  go_ret
  exact ⟨rfl, H1.out.trans ((grow1 w1 _).trans (H2.out.mono (by simp)) |>.mono H1.out.size)⟩

end Go.Proofs.Ytboffligjgjgjaa
