/-
  What sounds with a fingering.
-/
import Derived.Test.YthjpgpelbagceaaFuG
import Derived.Test.YthjpgpelbagceaaR9
import Derived.Lib.MinMax
set_option linter.all false
namespace Go.Proofs.Ythjpgpelbagceaa
open Go.RowKit
open R6 (done done_ne done_me upd_ne upd_me)

attribute [local go_sem] gives

theorem sounding_zero (f : Fu) (w : World) :
    Calls Try.prog 47 #[.agg (fuc f).toArray, .int .u8 0] w fun e w' => e = .returned (.iface 115 (.agg #[.int .i64 f.len, .int .i64 f.e0, .int .i64 f.e1])) ∧ Below w.heap.size w w' := by
  unfold fuc
  go_enter Try.func47, Try.ntmps47
  go_wp2
  go_ret
  exact ⟨rfl, (Below.refl _ _).alloc (Nat.le_refl _) _⟩

/-- What slots tell. -/
def souK (c : Int × Int) (h : Ho) (q : Nat) : Nat → Value → World → Prop
  | 0, v, W => ∃ b, v = .slice (some ⟨b, 0, none⟩) 1 1 ∧ W.heap[b]? = some (.cells #[.int .i64 c.1, .int .i64 c.2] 25 (0, 0))
  | 1, v, W => ∃ b, v = .slice (some ⟨b, 0, none⟩) q q ∧ W.heap[b]? = some (.cells (pairs (List.replicate q c)).toArray 25 (0, 0))
  | 2, v, W => ∃ b, v = .agg #[.int .i64 h.a, .int .i64 h.lo, .int .i64 h.hi, .slice (some ⟨b, 0, none⟩) q q] ∧ W.heap[b]? = some (.cells (pairs (List.replicate q c)).toArray 25 (0, 0))
  | _, v, W => ∃ b, v = .iface 119 (.agg #[.int .i64 h.a, .int .i64 h.lo, .int .i64 h.hi, .slice (some ⟨b, 0, none⟩) q q]) ∧ W.heap[b]? = some (.cells (pairs (List.replicate q c)).toArray 25 (0, 0))
theorem souK_stab (c : Int × Int) (h : Ho) (q : Nat) : Stab (souK c h q) := by
  intro k v W W' hg hk
  unfold souK at hk ⊢
  split at hk
  all_goals
    obtain ⟨b, e, hb⟩ := hk
    exact ⟨b, e, (hg.block _ (lt_of_heap hb)).trans hb⟩

theorem souL {e : Ending} {c : Int × Int} {h : Ho} {q : Nat} {W : World} {v : Value} (he : e = .returned v) (hk : souK c h q 3 v W) : ∃ v, e = .returned v ∧ souK c h q 3 v W := ⟨v, he, hk⟩
set_option maxRecDepth 100000 in
set_option maxHeartbeats 4000000 in
theorem sounding_core (len e0 e1 c0 c1 s0 s1 : Int) (c off hl cap n i m z q : Nat) (h : Ho) (w : World) (HT : ∀ W, Calls Try.prog 75 #[.int .u8 (n : Int)] W fun e w' => e = .returned (.int .i64 (i : Int)) ∧ W = w')
    (HT2 : ∀ W, Calls Try.prog 75 #[.int .u8 (m : Int)] W fun e w' => e = .returned (.int .i64 (z : Int)) ∧ W = w') (hsh : (n : Int) / 2 ^ (i + 1) = (m : Int)) (hbz : ((n : Int) == 0) = false) (hi : i < hl) (hl8 : hl ≤ 8)
    (hq : min z (hl - i - 1) = q) (hcB : c < w.heap.size) (hc : ∀ j v, (hoc h)[j]? = some v → w.cell? ⟨c, off + i * 3 + j, none⟩ = some v) :
    Calls Try.prog 47 #[.agg #[.int .i64 len, .int .i64 e0, .int .i64 e1, .int .i64 c0, .int .i64 c1, .int .i64 s0, .int .i64 s1, .slice (some ⟨c, off, none⟩) hl cap], .int .u8 (n : Int)] w fun e w' =>
      (∃ v, e = .returned v ∧ souK (c0, c1) h q 3 v w') ∧ Below w.heap.size w w' := by
  have hq8 : q ≤ 8 := by rw [← hq]; exact Nat.le_trans (Nat.min_le_right _ _) (by omega)
  have hqz : min (z : Int) ((hl : Int) - (i : Int) - 1) = (q : Int) := by omega
  have hiz : (i : Int) < hl := by omega
  have hlz : (hl : Int) ≤ 8 := by omega
  have hqz8 : (q : Int) ≤ 8 := by omega
  have H1 := Lib.hid HT
  have H2 := Lib.hid HT2
  have HSH := Lib.hid hsh
  clear hq hsh HT HT2
  obtain ⟨w1, hw1⟩ : ∃ w1, w.alloc (.cells #[.int .i64 len, .int .i64 e0, .int .i64 e1, .int .i64 c0, .int .i64 c1, .int .i64 s0, .int .i64 s1, .slice (some ⟨c, off, none⟩) hl cap] 28) = w1 := ⟨_, rfl⟩
  have hb1 : Below w.heap.size w w1 := by rw [← hw1]; exact grow1 _ _
  have m1 : w1.heap[w.heap.size]? = some (.cells #[.int .i64 len, .int .i64 e0, .int .i64 e1, .int .i64 c0, .int .i64 c1, .int .i64 s0, .int .i64 s1, .slice (some ⟨c, off, none⟩) hl cap] 28 (0, 0)) := by rw [← hw1]; exact alloc_at0 _ _
  have hcf := fun i => cell_of_row w1 w.heap.size i _ _ _ m1
  have HC0 := Lib.hid (And.intro hb1 (And.intro m1 (And.intro hcB hc)))
  clear hb1 m1 hcB hc
  go_enter Try.func47, Try.ntmps47
  go_wp2_with (first
    | (go_at_call 75; (with_reducible refine (H1.out _).mono ?_); rintro e w' ⟨rfl, rfl⟩)
    | (go_at_call 75; rw [HSH.out]; (with_reducible refine (H2.out _).mono ?_); rintro e w' ⟨rfl, rfl⟩))
  refine R6.wp_walk (C := ResF w1 [(w.heap.size, .cells #[.int .i64 len, .int .i64 e0, .int .i64 e1, .int .i64 c0, .int .i64 c1, .int .i64 s0, .int .i64 s1, .slice (some ⟨c, off, none⟩) hl cap] 28 (0, 0))] (souK (c0, c1) h q) [(7, 38, 0), (9, 40, 1), (10, 41, 2), (11, 42, 3), (12, 4, 3)]) 43 (by kernel_rfl) (by kernel_rfl) rfl (ResF.start (Below.refl _ _) ⟨HC0.out.2.1, trivial⟩ (fun _ => rfl)) ?_
  simp only []
  iterate 4
    (refine' R6.WalkR.det (fun _ => rfl) (fun D ρ W hK hC => ?_) ?_
     rotate_left
     · have f0 := fun i => cell_of_row W w.heap.size i _ _ _ hC.keep.1
       have HC := Lib.hid hC
       clear hC hK
       go_simp
       with_reducible exact ⟨rfl, HC.out.move (by decide)⟩
     simp only [Act.put, List.setIfInBounds_toArray, List.set_cons_succ, List.set_cons_zero])
  refine' R6.WalkR.det (fun _ => rfl) (fun D ρ W hK hC => ?_) ?_
  rotate_left
  · have hcell := fun j v hv => (((HC0.out.1.trans (hC.bel.mono HC0.out.1.size)).cell (p := ⟨c, off + i * 3 + j, none⟩) HC0.out.2.2.1).trans (HC0.out.2.2.2 j v hv))
    exact gives_load_at 38 (.tmp 34) rfl rfl (hoc h) hcell rowHole ⟨rfl, hC.move (by decide)⟩
  simp only [Act.put, List.setIfInBounds_toArray, List.set_cons_succ, List.set_cons_zero]
  iterate 2
    (refine' R6.WalkR.det (fun _ => rfl) (fun D ρ W hK hC => ?_) ?_
     rotate_left
     · have f0 := fun i => cell_of_row W w.heap.size i _ _ _ hC.keep.1
       have HC := Lib.hid hC
       clear hC hK
       go_simp
       with_reducible exact ⟨rfl, HC.out.move (by decide)⟩
     simp only [Act.put, List.setIfInBounds_toArray, List.set_cons_succ, List.set_cons_zero])
  refine' R6.WalkR.nd (fun _ => rfl) rfl (fun D ρ W hK hC => ?_) ?_
  · skip
    have HC := Lib.hid hC
    clear hC hK
    go_simp
    exact HC.out.made (c := 0) (souK_stab _ _ _) (grow1 _ _) (by decide) ⟨_, rfl, alloc_at0 _ _⟩
  simp only [Act.put, List.setIfInBounds_toArray, List.set_cons_succ, List.set_cons_zero]
  iterate 1
    (refine' R6.WalkR.det (fun _ => rfl) (fun D ρ W hK hC => ?_) ?_
     rotate_left
     · have f0 := fun i => cell_of_row W w.heap.size i _ _ _ hC.keep.1
       have HC := Lib.hid hC
       clear hC hK
       go_simp
       with_reducible exact ⟨rfl, HC.out.move (by decide)⟩
     simp only [Act.put, List.setIfInBounds_toArray, List.set_cons_succ, List.set_cons_zero])
  refine' R6.WalkR.nd (fun _ => rfl) rfl (fun D ρ W hK hC => ?_) ?_
  · obtain ⟨b, hv, hm⟩ := hC.get (k := 7) (d := 38) (c := 0) (by simp) (hK.pre 7 (by first | decide +kernel | (dsimp only; decide +kernel)))
    have HMb := Lib.hid hm
    clear hm
    have HC := Lib.hid hC
    clear hC hK
    go_simp
    go_at_call 76
    refine (repeat_q c0 c1 b 1 q hq8 W HMb.out).mono ?_
    rintro e W1 ⟨rfl, hm1, hB1⟩
    exact ⟨_, rfl, HC.out.made (c := 1) (souK_stab _ _ _) hB1 (by decide) ⟨_, rfl, hm1⟩⟩
  simp only [Act.put, List.setIfInBounds_toArray, List.set_cons_succ, List.set_cons_zero]
  refine' R6.WalkR.nd (fun _ => rfl) rfl (fun D ρ W hK hC => ?_) ?_
  · obtain ⟨b, hv, hm⟩ := hC.get (k := 9) (d := 40) (c := 1) (by simp) (hK.pre 9 (by first | decide +kernel | (dsimp only; decide +kernel)))
    have HMb := Lib.hid hm
    clear hm
    have HC := Lib.hid hC
    clear hC hK
    go_simp
    exact HC.out.made (c := 2) (souK_stab _ _ _) (Below.refl _ _) (by decide) ⟨b, rfl, HMb.out⟩
  simp only [Act.put, List.setIfInBounds_toArray, List.set_cons_succ, List.set_cons_zero]
  refine' R6.WalkR.nd (fun _ => rfl) rfl (fun D ρ W hK hC => ?_) ?_
  · obtain ⟨b, hv, hm⟩ := hC.get (k := 10) (d := 41) (c := 2) (by simp) (hK.pre 10 (by first | decide +kernel | (dsimp only; decide +kernel)))
    have HMb := Lib.hid hm
    clear hm
    have HC := Lib.hid hC
    clear hC hK
    go_simp
    exact HC.out.made (c := 3) (souK_stab _ _ _) (Below.refl _ _) (by decide) ⟨b, rfl, HMb.out⟩
  simp only [Act.put, List.setIfInBounds_toArray, List.set_cons_succ, List.set_cons_zero]
  refine' R6.WalkR.nd (fun _ => rfl) rfl (fun D ρ W hK hC => ?_) ?_
  · obtain ⟨b, hv, hm⟩ := hC.get (k := 11) (d := 42) (c := 3) (by simp) (hK.pre 11 (by first | decide +kernel | (dsimp only; decide +kernel)))
    have HMb := Lib.hid hm
    clear hm
    have HC := Lib.hid hC
    clear hC hK
    go_simp
    exact HC.out.made (c := 3) (souK_stab _ _ _) (Below.refl _ _) (by decide) ⟨b, rfl, HMb.out⟩
  simp only [Act.put, List.setIfInBounds_toArray, List.set_cons_succ, List.set_cons_zero]
  refine R6.WalkR.nil (fun D ρ W hD hC => ?_)
  obtain ⟨b, hv, hm⟩ := hC.get (k := 12) (d := 4) (c := 3) (by simp) (hD 12 (by decide))
  have HB := Lib.hid (And.intro hm (HC0.out.1.trans (hC.bel.mono HC0.out.1.size)))
  clear hC hD hm
  go_wp2
  go_ret
  exact ⟨⟨_, rfl, b, hv, HB.out.1⟩, HB.out.2⟩

theorem sounding_some (f : Fu) (n : Nat) (hn0 : n ≠ 0) (hn : n < 2 ^ f.hs.length) (hl : f.hs.length ≤ 8) (B : Nat) (w : World) (hB : B ≤ w.heap.size) (hz : FuAt w B f) :
    Calls Try.prog 47 #[.agg (fuc f).toArray, .int .u8 (n : Int)] w fun e w' => (∃ v, e = .returned v ∧ souK (f.c0, f.c1) (f.hs[tz8 n]?.getD ⟨0, 0, 0⟩) (cloF n (tz8 n) (f.hs.length - tz8 n - 1)) 3 v w') ∧ Below w.heap.size w w' := by
  have hn8 : n < 256 := Nat.lt_of_lt_of_le hn (Nat.pow_le_pow_right (n := 2) (by omega) hl)
  have hi := tz8_lt hn8 hn0 hn
  have hz' : Vals w B f.A (f.hs.flatMap hoc) := hz
  obtain ⟨c, off, hA, hcB, hc⟩ := vals_elem hoc_len hz' (by decide) hi
  have e : f.hs[tz8 n]?.getD ⟨0, 0, 0⟩ = f.hs[tz8 n] := by simp [hi]
  rw [e]
  have hm : n >>> (tz8 n + 1) < 256 := Nat.lt_of_le_of_lt (Nat.shiftRight_le _ _) hn8
  have hsh : (n : Int) / 2 ^ (tz8 n + 1) = ((n >>> (tz8 n + 1) : Nat) : Int) := by rw [Nat.shiftRight_eq_div_pow]; simp
  have H := sounding_core f.len f.e0 f.e1 f.c0 f.c1 f.s0 f.s1 c off f.hs.length f.cap n (tz8 n) (n >>> (tz8 n + 1)) (tz8 (n >>> (tz8 n + 1))) (cloF n (tz8 n) (f.hs.length - tz8 n - 1)) f.hs[tz8 n] w
    (fun W => tz8_run n hn8 W) (fun W => tz8_run _ hm W) hsh (by simpa using hn0) hi hl rfl (Nat.lt_of_lt_of_le hcB hB) hc
  rw [← hA] at H
  exact H

end Go.Proofs.Ythjpgpelbagceaa
