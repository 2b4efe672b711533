/-
  Which flutes are valid (the program's).
-/
import Derived.Test.YthjpgpelbagceaaFuB2
set_option linter.all false
namespace Go.Proofs.Ythjpgpelbagceaa
open Go.RowKit

set_option maxRecDepth 100000 in
set_option maxHeartbeats 4000000 in
theorem validFlute_any (f : Fu) (hl : f.hs.length ≤ 1000000) (B : Nat) (w : World) (hB : B ≤ w.heap.size) (hz : FuAt w B f) :
    Calls Try.prog 51 #[.agg (fuc f).toArray] w fun e w' => e = .returned (.bool (okFu f)) ∧ Below w.heap.size w w' := by
  obtain ⟨w1, hw1⟩ : ∃ w1, w.alloc (.cells (fuc f).toArray 28) = w1 := ⟨_, rfl⟩
  have hb1 : Below w.heap.size w w1 := by rw [← hw1]; exact grow1 _ _
  have m1 : w1.heap[w.heap.size]? = some (.cells (fuc f).toArray 28 (0, 0)) := by rw [← hw1]; exact alloc_at0 _ _
  have hcf := fun (W : World) (hW : Below w1.heap.size w1 W) i => cell_of_row W w.heap.size i _ _ _ ((hW.block _ (lt_of_heap m1)).trans m1)
  have hh := fun (h : allB 50 20000 [f.len] = true) W (hW : Below w1.heap.size w1 W) => validHoles_any f (by rw [allB_one, inR_iff] at h; exact h) hl B W (Nat.le_trans hB (Nat.le_trans hb1.size hW.size)) ((hz.below (hb1.mono hB)).below (hW.mono (Nat.le_trans hB hb1.size)))
  have hx : okFu f = (allB 50 20000 [f.len] && okS f.e0 f.e1 0 60 && okS f.c0 f.c1 0 60 && okS f.s0 f.s1 100000 500000 && decide (f.hs.length ≤ 8) && hoL f.len f.hs 50) := rfl
  rw [hx]
  have HL := Lib.hid (fun W => validLength_any f.len W)
  have HE := Lib.hid (fun W => validFix_any f.e0 f.e1 W)
  have HK := Lib.hid (fun W => validFix_any f.c0 f.c1 W)
  have HS := Lib.hid (fun W => validSpeed_any f.s0 f.s1 W)
  have HH := Lib.hid hh
  have H1 := Lib.hid hb1
  clear hz hb1 m1 hx hh
  unfold fuc at hw1 hcf HH ⊢
  have HCF := Lib.hid hcf
  have hc := HCF.out w1 (Below.refl _ _)
  have HB := Lib.hid (Below.refl w1.heap.size w1)
  clear hcf
  generalize hoL f.len f.hs 50 = v6 at HH ⊢
  generalize okS f.s0 f.s1 100000 500000 = v4 at HS ⊢
  generalize okS f.c0 f.c1 0 60 = v3 at HK ⊢
  generalize okS f.e0 f.e1 0 60 = v2 at HE ⊢
  generalize allB 50 20000 [f.len] = v1 at HL HH ⊢
  cases v1
  · go_enter Try.func51, Try.ntmps51
    go_wp2_with (first
      | (go_at_call 61
         refine (HL.out _).mono ?_
         rintro e w' ⟨rfl, hB'⟩
         have hK := HB.out.trans (hB'.mono HB.out.size)
         clear hc HB hB'
         have HB := Lib.hid hK
         have hc := HCF.out w' hK
         clear hK))
    go_ret
    exact ⟨rfl, H1.out.trans (HB.out.mono H1.out.size)⟩
  cases v2
  · go_enter Try.func51, Try.ntmps51
    go_wp2_with (first
      | (go_at_call 62
         (with_reducible show Calls _ _ #[.agg #[.int .i64 f.e0, _]] _ _)
         refine (HE.out _).mono ?_
         rintro e w' ⟨rfl, hB'⟩
         have hK := HB.out.trans (hB'.mono HB.out.size)
         clear hc HB hB'
         have HB := Lib.hid hK
         have hc := HCF.out w' hK
         clear hK)
      | (go_at_call 61
         refine (HL.out _).mono ?_
         rintro e w' ⟨rfl, hB'⟩
         have hK := HB.out.trans (hB'.mono HB.out.size)
         clear hc HB hB'
         have HB := Lib.hid hK
         have hc := HCF.out w' hK
         clear hK))
    go_ret
    exact ⟨rfl, H1.out.trans (HB.out.mono H1.out.size)⟩
  cases v3
  · go_enter Try.func51, Try.ntmps51
    go_wp2_with (first
      | (go_at_call 62
         (with_reducible show Calls _ _ #[.agg #[.int .i64 f.c0, _]] _ _)
         refine (HK.out _).mono ?_
         rintro e w' ⟨rfl, hB'⟩
         have hK := HB.out.trans (hB'.mono HB.out.size)
         clear hc HB hB'
         have HB := Lib.hid hK
         have hc := HCF.out w' hK
         clear hK)
      | (go_at_call 62
         (with_reducible show Calls _ _ #[.agg #[.int .i64 f.e0, _]] _ _)
         refine (HE.out _).mono ?_
         rintro e w' ⟨rfl, hB'⟩
         have hK := HB.out.trans (hB'.mono HB.out.size)
         clear hc HB hB'
         have HB := Lib.hid hK
         have hc := HCF.out w' hK
         clear hK)
      | (go_at_call 61
         refine (HL.out _).mono ?_
         rintro e w' ⟨rfl, hB'⟩
         have hK := HB.out.trans (hB'.mono HB.out.size)
         clear hc HB hB'
         have HB := Lib.hid hK
         have hc := HCF.out w' hK
         clear hK))
    go_ret
    exact ⟨rfl, H1.out.trans (HB.out.mono H1.out.size)⟩
  cases v4
  · go_enter Try.func51, Try.ntmps51
    go_wp2_with (first
      | (go_at_call 63
         refine (HS.out _).mono ?_
         rintro e w' ⟨rfl, hB'⟩
         have hK := HB.out.trans (hB'.mono HB.out.size)
         clear hc HB hB'
         have HB := Lib.hid hK
         have hc := HCF.out w' hK
         clear hK)
      | (go_at_call 62
         (with_reducible show Calls _ _ #[.agg #[.int .i64 f.c0, _]] _ _)
         refine (HK.out _).mono ?_
         rintro e w' ⟨rfl, hB'⟩
         have hK := HB.out.trans (hB'.mono HB.out.size)
         clear hc HB hB'
         have HB := Lib.hid hK
         have hc := HCF.out w' hK
         clear hK)
      | (go_at_call 62
         (with_reducible show Calls _ _ #[.agg #[.int .i64 f.e0, _]] _ _)
         refine (HE.out _).mono ?_
         rintro e w' ⟨rfl, hB'⟩
         have hK := HB.out.trans (hB'.mono HB.out.size)
         clear hc HB hB'
         have HB := Lib.hid hK
         have hc := HCF.out w' hK
         clear hK)
      | (go_at_call 61
         refine (HL.out _).mono ?_
         rintro e w' ⟨rfl, hB'⟩
         have hK := HB.out.trans (hB'.mono HB.out.size)
         clear hc HB hB'
         have HB := Lib.hid hK
         have hc := HCF.out w' hK
         clear hK))
    go_ret
    exact ⟨rfl, H1.out.trans (HB.out.mono H1.out.size)⟩
  by_cases h5 : f.hs.length ≤ 8
  rotate_left
  · have h5z : decide ((f.hs.length : Int) ≤ 8) = false := decide_eq_false (by omega)
    have h5n : decide (f.hs.length ≤ 8) = false := decide_eq_false h5
    rw [h5n]
    clear h5n
    go_enter Try.func51, Try.ntmps51
    go_wp2_with (first
      | (go_at_call 63
         refine (HS.out _).mono ?_
         rintro e w' ⟨rfl, hB'⟩
         have hK := HB.out.trans (hB'.mono HB.out.size)
         clear hc HB hB'
         have HB := Lib.hid hK
         have hc := HCF.out w' hK
         clear hK)
      | (go_at_call 62
         (with_reducible show Calls _ _ #[.agg #[.int .i64 f.c0, _]] _ _)
         refine (HK.out _).mono ?_
         rintro e w' ⟨rfl, hB'⟩
         have hK := HB.out.trans (hB'.mono HB.out.size)
         clear hc HB hB'
         have HB := Lib.hid hK
         have hc := HCF.out w' hK
         clear hK)
      | (go_at_call 62
         (with_reducible show Calls _ _ #[.agg #[.int .i64 f.e0, _]] _ _)
         refine (HE.out _).mono ?_
         rintro e w' ⟨rfl, hB'⟩
         have hK := HB.out.trans (hB'.mono HB.out.size)
         clear hc HB hB'
         have HB := Lib.hid hK
         have hc := HCF.out w' hK
         clear hK)
      | (go_at_call 61
         refine (HL.out _).mono ?_
         rintro e w' ⟨rfl, hB'⟩
         have hK := HB.out.trans (hB'.mono HB.out.size)
         clear hc HB hB'
         have HB := Lib.hid hK
         have hc := HCF.out w' hK
         clear hK))
    go_ret
    exact ⟨rfl, H1.out.trans (HB.out.mono H1.out.size)⟩
  have h5z : decide ((f.hs.length : Int) ≤ 8) = true := decide_eq_true (by omega)
  have h5n : decide (f.hs.length ≤ 8) = true := decide_eq_true h5
  rw [h5n]
  clear h5n
  cases v6
  · go_enter Try.func51, Try.ntmps51
    go_wp2_with (first
      | (go_at_call 84
         refine (HH.out (by first | trivial | rfl) _ HB.out).mono ?_
         rintro e w' ⟨rfl, hB'⟩
         have hK := HB.out.trans (hB'.mono HB.out.size)
         clear hc HB hB'
         have HB := Lib.hid hK
         have hc := HCF.out w' hK
         clear hK)
      | (go_at_call 63
         refine (HS.out _).mono ?_
         rintro e w' ⟨rfl, hB'⟩
         have hK := HB.out.trans (hB'.mono HB.out.size)
         clear hc HB hB'
         have HB := Lib.hid hK
         have hc := HCF.out w' hK
         clear hK)
      | (go_at_call 62
         (with_reducible show Calls _ _ #[.agg #[.int .i64 f.c0, _]] _ _)
         refine (HK.out _).mono ?_
         rintro e w' ⟨rfl, hB'⟩
         have hK := HB.out.trans (hB'.mono HB.out.size)
         clear hc HB hB'
         have HB := Lib.hid hK
         have hc := HCF.out w' hK
         clear hK)
      | (go_at_call 62
         (with_reducible show Calls _ _ #[.agg #[.int .i64 f.e0, _]] _ _)
         refine (HE.out _).mono ?_
         rintro e w' ⟨rfl, hB'⟩
         have hK := HB.out.trans (hB'.mono HB.out.size)
         clear hc HB hB'
         have HB := Lib.hid hK
         have hc := HCF.out w' hK
         clear hK)
      | (go_at_call 61
         refine (HL.out _).mono ?_
         rintro e w' ⟨rfl, hB'⟩
         have hK := HB.out.trans (hB'.mono HB.out.size)
         clear hc HB hB'
         have HB := Lib.hid hK
         have hc := HCF.out w' hK
         clear hK))
    go_ret
    exact ⟨rfl, H1.out.trans (HB.out.mono H1.out.size)⟩
  · go_enter Try.func51, Try.ntmps51
    go_wp2_with (first
      | (go_at_call 84
         refine (HH.out (by first | trivial | rfl) _ HB.out).mono ?_
         rintro e w' ⟨rfl, hB'⟩
         have hK := HB.out.trans (hB'.mono HB.out.size)
         clear hc HB hB'
         have HB := Lib.hid hK
         have hc := HCF.out w' hK
         clear hK)
      | (go_at_call 63
         refine (HS.out _).mono ?_
         rintro e w' ⟨rfl, hB'⟩
         have hK := HB.out.trans (hB'.mono HB.out.size)
         clear hc HB hB'
         have HB := Lib.hid hK
         have hc := HCF.out w' hK
         clear hK)
      | (go_at_call 62
         (with_reducible show Calls _ _ #[.agg #[.int .i64 f.c0, _]] _ _)
         refine (HK.out _).mono ?_
         rintro e w' ⟨rfl, hB'⟩
         have hK := HB.out.trans (hB'.mono HB.out.size)
         clear hc HB hB'
         have HB := Lib.hid hK
         have hc := HCF.out w' hK
         clear hK)
      | (go_at_call 62
         (with_reducible show Calls _ _ #[.agg #[.int .i64 f.e0, _]] _ _)
         refine (HE.out _).mono ?_
         rintro e w' ⟨rfl, hB'⟩
         have hK := HB.out.trans (hB'.mono HB.out.size)
         clear hc HB hB'
         have HB := Lib.hid hK
         have hc := HCF.out w' hK
         clear hK)
      | (go_at_call 61
         refine (HL.out _).mono ?_
         rintro e w' ⟨rfl, hB'⟩
         have hK := HB.out.trans (hB'.mono HB.out.size)
         clear hc HB hB'
         have HB := Lib.hid hK
         have hc := HCF.out w' hK
         clear hK))
    go_ret
    exact ⟨rfl, H1.out.trans (HB.out.mono H1.out.size)⟩

theorem check_any (f : Fu) (hl : f.hs.length ≤ 1000000) (B : Nat) (w : World) (hB : B ≤ w.heap.size) (hz : FuAt w B f) :
    Calls Try.prog 24 #[.agg (fuc f).toArray] w fun e w' => e = .returned (.int .i64 (if okFu f = true then 0 else 90)) ∧ Below w.heap.size w w' := by
  obtain ⟨w1, hw1⟩ : ∃ w1, w.alloc (.cells (fuc f).toArray 28) = w1 := ⟨_, rfl⟩
  have hb1 : Below w.heap.size w w1 := by rw [← hw1]; exact grow1 _ _
  have m1 : w1.heap[w.heap.size]? = some (.cells (fuc f).toArray 28 (0, 0)) := by rw [← hw1]; exact alloc_at0 _ _
  have HV := Lib.hid (validFlute_any f hl B w1 (Nat.le_trans hB hb1.size) (hz.below (hb1.mono hB)))
  have hc := fun i => cell_of_row w1 w.heap.size i _ _ _ m1
  have H1 := Lib.hid hb1
  clear hz hb1 m1
  unfold fuc at hw1 HV hc ⊢
  generalize okFu f = v at HV ⊢
  cases v
  all_goals
    go_enter Try.func24, Try.ntmps24
    go_wp2_with (go_at_call 51; refine HV.out.mono ?_; rintro e w' ⟨rfl, hB'⟩; have HB := Lib.hid hB'; clear hB')
    go_ret
    exact ⟨rfl, H1.out.trans (HB.out.mono H1.out.size)⟩

end Go.Proofs.Ythjpgpelbagceaa
