/-
  Texts laid together: FuG, FuH, FuI, FuJ.
-/
import Derived.Lib.MinMax
import Derived.RangeFuncFrom
import Derived.RangeFuncBox
import Derived.TacticsInMore
import Derived.LoopNIn
import Derived.LoopIn
import Derived.RangeFuncBound
import Derived.RangeFuncCalls
import Derived.Shelf.Abstract
import Derived.IntWalk
import Derived.Maps.OwnSet
import Derived.Maps.OwnIn
import Derived.Test.YtjjipkgconmfcaaB910
import Derived.Test.YtjjipkgconmfcaaB93
set_option linter.all false
namespace Go.Proofs.Ytjjipkgconmfcaa
open Go.RowKit
open R6 (done done_ne done_me upd_ne upd_me)

attribute [local go_sem] gives

set_option maxRecDepth 100000 in
set_option maxHeartbeats 4000000 in
theorem openAir_any (h : Ho) (c0 c1 : Int) (k : Nat) (hk : k ≤ 8) (h1 : 0 ≤ h.a ∧ h.a ≤ 20000) (h2 : 0 ≤ h.lo ∧ h.lo ≤ 60) (h3 : 0 ≤ h.hi ∧ h.hi ≤ 60) (h4 : 0 ≤ c0 ∧ c0 ≤ 60) (h5 : 0 ≤ c1 ∧ c1 ≤ 60) (A : Option Addr) (cap : Nat) (B : Nat) (w : World) (hB : B ≤ w.heap.size) (hz : Vals w B A (pairs (List.replicate k (c0, c1)))) :
    Calls Try.prog 116 #[.agg #[.int .i64 h.a, .int .i64 h.lo, .int .i64 h.hi, .slice A k cap]] w fun e w' => e = .returned (.agg #[.int .i64 (h.a + h.lo + k * c0), .int .i64 (h.a + h.hi + k * c1)]) ∧ Below w.heap.size w w' := by
  obtain ⟨a, lo, hi⟩ := h
  dsimp only at h1 h2 h3 ⊢
  have hr := sumSp_rep (c0, c1) k
  have hkz : (k : Int) ≤ 8 := by omega
  have hk0 : (0 : Int) ≤ k := by omega
  have a1 : 0 ≤ (k : Int) * c0 := Int.mul_nonneg hk0 h4.1
  have a2 : (k : Int) * c0 ≤ 8 * 60 := Int.le_trans (Int.mul_le_mul_of_nonneg_right hkz h4.1) (Int.mul_le_mul_of_nonneg_left h4.2 (by omega))
  have a3 : 0 ≤ (k : Int) * c1 := Int.mul_nonneg hk0 h5.1
  have a4 : (k : Int) * c1 ≤ 8 * 60 := Int.le_trans (Int.mul_le_mul_of_nonneg_right hkz h5.1) (Int.mul_le_mul_of_nonneg_left h5.2 (by omega))
  have hc := fun (W : World) (hW : Below w.heap.size w W) => sum_any (List.replicate k (c0, c1)) (fun x hx => by rw [List.eq_of_mem_replicate hx]; dsimp only; omega) (by simp; omega) A cap B W (Nat.le_trans hB hW.size) (hz.below (hW.mono hB))
  dsimp only at hr
  simp only [hr, List.length_replicate] at hc
  generalize (k : Int) * c0 = m0 at a1 a2 hc ⊢
  generalize (k : Int) * c1 = m1 at a3 a4 hc ⊢
  have hs : sumSp [(a, a), (lo, hi), (m0, m1)] = (a + lo + m0, a + hi + m1) := by simp [sumSp, spAdd]
  have hsm : smSp [(a, a), (lo, hi), (m0, m1)] := by
    intro x hx
    simp only [List.mem_cons, List.not_mem_nil, or_false] at hx
    rcases hx with rfl | rfl | rfl <;> (dsimp only; omega)
  have hsum := fun (W : World) b (hb : W.heap[b]? = some (.cells [Value.int .i64 a, .int .i64 a, .int .i64 lo, .int .i64 hi, .int .i64 m0, .int .i64 m1].toArray 25 (0, 0))) => sum_any [(a, a), (lo, hi), (m0, m1)] hsm (by simp) (some ⟨b, 0, none⟩) 3 W.heap.size W (Nat.le_refl _) (vals_in hb (lt_of_heap hb) at0)
  rw [hs] at hsum
  simp only [List.length_cons, List.length_nil, Nat.zero_add, Nat.reduceAdd] at hsum
  have HS := Lib.hid hsum
  have HC2 := Lib.hid hc
  clear hs hsm hsum hc hr hz
  obtain ⟨w3, hw3⟩ : ∃ w3, (w.alloc (.cells #[.int .i64 a, .int .i64 lo, .int .i64 hi, .slice A k cap] 119)).alloc (.cells #[.int .i64 0, .int .i64 0] 86) = w3 := ⟨_, rfl⟩
  have hb : Below w.heap.size w w3 := by rw [← hw3]; exact ((Below.refl _ _).alloc (Nat.le_refl _) _).alloc (by simp) _
  have m0' : w3.heap[w.heap.size]? = some (.cells #[.int .i64 a, .int .i64 lo, .int .i64 hi, .slice A k cap] 119 (0, 0)) := by rw [← hw3]; exact alloc2_at0 _ _ _
  have m2 : w3.heap[w.heap.size + 1]? = some (.cells #[.int .i64 0, .int .i64 0] 86 (0, 0)) := by rw [← hw3]; exact alloc2_at1 _ _ _
  have HM := Lib.hid (And.intro hb (And.intro m0' m2))
  have HO := Lib.hid (fun W => one_any a W)
  generalize a + lo + m0 = t0 at HS ⊢
  generalize a + hi + m1 = t1 at HS ⊢
  clear hb m0' m2 h1 h2 h3 h4 h5 a1 a2 a3 a4
  go_enter Try.func116, Try.ntmps116
  go_wp2
  refine R6.wp_walk (C := AirC w3 (w.heap.size + 1) (.cells #[.int .i64 0, .int .i64 0] 86 (0, 0)) (.cells #[.int .i64 t0, .int .i64 t1] 86 (0, 0)) 13 10 13 3 [.int .i64 a, .int .i64 a, .int .i64 lo, .int .i64 hi, .int .i64 m0, .int .i64 m1]) 16 (by kernel_rfl) (by kernel_rfl) rfl (AirC.start HM.out.2.2 (fun _ => rfl)) ?_
  simp only []
  iterate 10
    (refine' R6.WalkR.det (fun _ => rfl) (fun D ρ W hK hC => ?_) ?_
     rotate_left
     · have f0 := fun i => cell_of_row W w.heap.size i _ _ _ ((hC.one.other (lt_of_heap HM.out.2.1) (by omega)).trans HM.out.2.1)
       have HC := Lib.hid hC
       clear hC hK
       go_simp
       first
         | with_reducible exact ⟨rfl, HC.out.move (by decide)⟩
         | (go_at_call 114; refine (HC2.out W (HM.out.1.grown HC.out.one.gb HM.out.1.size (fun k e => by cases e; omega))).mono ?_; rintro e W1 ⟨rfl, hB1⟩; exact ⟨_, rfl, rfl, (HC.out.next hB1).move (by decide)⟩)
         | (go_at_call 115; refine (HO.out W).mono ?_; rintro e W1 ⟨rfl, hB1⟩; exact ⟨_, rfl, rfl, (HC.out.next hB1).move (by decide)⟩)
     simp only [Act.put, List.setIfInBounds_toArray, List.set_cons_succ, List.set_cons_zero])
  refine' R6.WalkR.nd (fun _ => rfl) rfl (fun D ρ W hK hC => ?_) ?_
  · have HC := Lib.hid hC
    clear hC hK
    go_simp
    exact HC.out.made rfl
  simp only [Act.put, List.setIfInBounds_toArray, List.set_cons_succ, List.set_cons_zero]
  refine' R6.WalkR.det (fun _ => rfl) (fun D ρ W hK hC => ?_) ?_
  rotate_left
  · obtain ⟨b, hv, -, hm⟩ := hC.new (hK.pre 10 (by first | decide +kernel | (dsimp only; decide +kernel)))
    have HC := Lib.hid hC
    have HMb := Lib.hid hm
    clear hC hK hm
    go_simp
    go_at_call 114
    refine (HS.out W b HMb.out).mono ?_
    rintro e W1 ⟨rfl, hB1⟩
    exact ⟨_, rfl, rfl, (HC.out.next hB1).move (by decide)⟩
  simp only [Act.put, List.setIfInBounds_toArray, List.set_cons_succ, List.set_cons_zero]
  iterate 1
    (refine' R6.WalkR.det (fun _ => rfl) (fun D ρ W hK hC => ?_) ?_
     rotate_left
     · have HC := Lib.hid hC
       clear hC hK
       go_simp
       with_reducible exact ⟨rfl, HC.out.move (by decide)⟩
     simp only [Act.put, List.setIfInBounds_toArray, List.set_cons_succ, List.set_cons_zero])
  refine' R6.WalkR.det (c := undef) (fun _ => rfl) (fun D ρ W hK hC => ?_) ?_
  · have h7 := hC.one.no hK.me
    refine gives_store_blk 86 (.tmp 2) (.tmp 15) rfl rfl (cs := [.int .i64 t0, .int .i64 t1]) (L := [.int .i64 0, .int .i64 0]) rfl h7 (Nat.le_refl 2) (by simp [Value.oneCell']) rowAir ?_
    intro W1 hP hM
    refine ⟨rfl, hC.one.put hP hM, hC.lt0, fun e => ?_⟩
    obtain ⟨b, h1, h2, h3⟩ := hC.new (by rwa [done_ne (by decide)] at e)
    exact ⟨b, h1, h2, (hP.other b (by have := hC.lt0; omega)).trans h3⟩
  simp only [Act.put]
  refine R6.WalkR.nil (fun D ρ W hD hC => ?_)
  have hM7 := hC.one.yes (hD 13 (by decide))
  have hB7 := HM.out.1.grown hC.one.gb HM.out.1.size (fun k e => by cases e; omega)
  have H7 := Lib.hid (And.intro hM7 hB7)
  have hc7 := fun i => cell_of_row W (w.heap.size + 1) i _ _ _ hM7
  clear hC hD hM7 hB7
  go_wp2
  refine bodyPost_ret (v := .agg #[.int .i64 t0, .int .i64 t1]) (by simp [results, Try.results116, go_sem, hc7]) rfl ⟨rfl, H7.out.2⟩

end Go.Proofs.Ytjjipkgconmfcaa

namespace Go.Proofs.Ytjjipkgconmfcaa
open Go.RowKit
open R6 (done done_ne done_me upd_ne upd_me)

attribute [local go_sem] gives

theorem sounding_zero (f : Fu) (w : World) :
    Calls Try.prog 47 #[.agg (fuc f).toArray, .int .u8 0] w fun e w' => e = .returned (.iface 115 (.agg #[.int .i64 f.len, .int .i64 f.e0, .int .i64 f.e1])) ∧ Below w.heap.size w w' := by
  unfold fuc
  go_enter Try.func47, Try.ntmps47
  go_wp2
  go_ret
  exact ⟨rfl, (Below.refl _ _).alloc (Nat.le_refl _) _⟩

/-- What slots tell. -/
def souK (c : Int × Int) (h : Ho) (q : Nat) : Nat → Value → World → Prop
  | 0, v, W => ∃ b, v = .slice (some ⟨b, 0, none⟩) 1 1 ∧ W.heap[b]? = some (.cells #[.int .i64 c.1, .int .i64 c.2] 25 (0, 0))
  | 1, v, W => ∃ b, v = .slice (some ⟨b, 0, none⟩) q q ∧ W.heap[b]? = some (.cells (pairs (List.replicate q c)).toArray 25 (0, 0))
  | 2, v, W => ∃ b, v = .agg #[.int .i64 h.a, .int .i64 h.lo, .int .i64 h.hi, .slice (some ⟨b, 0, none⟩) q q] ∧ W.heap[b]? = some (.cells (pairs (List.replicate q c)).toArray 25 (0, 0))
  | _, v, W => ∃ b, v = .iface 119 (.agg #[.int .i64 h.a, .int .i64 h.lo, .int .i64 h.hi, .slice (some ⟨b, 0, none⟩) q q]) ∧ W.heap[b]? = some (.cells (pairs (List.replicate q c)).toArray 25 (0, 0))
theorem souK_stab (c : Int × Int) (h : Ho) (q : Nat) : Stab (souK c h q) := by
  intro k v W W' hg hk
  unfold souK at hk ⊢
  split at hk
  all_goals
    obtain ⟨b, e, hb⟩ := hk
    exact ⟨b, e, (hg.block _ (lt_of_heap hb)).trans hb⟩

theorem souL {e : Ending} {c : Int × Int} {h : Ho} {q : Nat} {W : World} {v : Value} (he : e = .returned v) (hk : souK c h q 3 v W) : ∃ v, e = .returned v ∧ souK c h q 3 v W := ⟨v, he, hk⟩
set_option maxRecDepth 100000 in
set_option maxHeartbeats 4000000 in
theorem sounding_core (len e0 e1 c0 c1 s0 s1 : Int) (c off hl cap n i m z q : Nat) (h : Ho) (w : World) (HT : ∀ W, Calls Try.prog 75 #[.int .u8 (n : Int)] W fun e w' => e = .returned (.int .i64 (i : Int)) ∧ W = w')
    (HT2 : ∀ W, Calls Try.prog 75 #[.int .u8 (m : Int)] W fun e w' => e = .returned (.int .i64 (z : Int)) ∧ W = w') (hsh : (n : Int) / 2 ^ (i + 1) = (m : Int)) (hbz : ((n : Int) == 0) = false) (hi : i < hl) (hl8 : hl ≤ 8)
    (hq : min z (hl - i - 1) = q) (hcB : c < w.heap.size) (hc : ∀ j v, (hoc h)[j]? = some v → w.cell? ⟨c, off + i * 3 + j, none⟩ = some v) :
    Calls Try.prog 47 #[.agg #[.int .i64 len, .int .i64 e0, .int .i64 e1, .int .i64 c0, .int .i64 c1, .int .i64 s0, .int .i64 s1, .slice (some ⟨c, off, none⟩) hl cap], .int .u8 (n : Int)] w fun e w' =>
      (∃ v, e = .returned v ∧ souK (c0, c1) h q 3 v w') ∧ Below w.heap.size w w' := by
  have hq8 : q ≤ 8 := by rw [← hq]; exact Nat.le_trans (Nat.min_le_right _ _) (by omega)
  have hqz : min (z : Int) ((hl : Int) - (i : Int) - 1) = (q : Int) := by omega
  have hiz : (i : Int) < hl := by omega
  have hlz : (hl : Int) ≤ 8 := by omega
  have hqz8 : (q : Int) ≤ 8 := by omega
  have H1 := Lib.hid HT
  have H2 := Lib.hid HT2
  have HSH := Lib.hid hsh
  clear hq hsh HT HT2
  obtain ⟨w1, hw1⟩ : ∃ w1, w.alloc (.cells #[.int .i64 len, .int .i64 e0, .int .i64 e1, .int .i64 c0, .int .i64 c1, .int .i64 s0, .int .i64 s1, .slice (some ⟨c, off, none⟩) hl cap] 28) = w1 := ⟨_, rfl⟩
  have hb1 : Below w.heap.size w w1 := by rw [← hw1]; exact grow1 _ _
  have m1 : w1.heap[w.heap.size]? = some (.cells #[.int .i64 len, .int .i64 e0, .int .i64 e1, .int .i64 c0, .int .i64 c1, .int .i64 s0, .int .i64 s1, .slice (some ⟨c, off, none⟩) hl cap] 28 (0, 0)) := by rw [← hw1]; exact alloc_at0 _ _
  have hcf := fun i => cell_of_row w1 w.heap.size i _ _ _ m1
  have HC0 := Lib.hid (And.intro hb1 (And.intro m1 (And.intro hcB hc)))
  clear hb1 m1 hcB hc
  go_enter Try.func47, Try.ntmps47
  go_wp2_with (first
    | (go_at_call 75; (with_reducible refine (H1.out _).mono ?_); rintro e w' ⟨rfl, rfl⟩)
    | (go_at_call 75; rw [HSH.out]; (with_reducible refine (H2.out _).mono ?_); rintro e w' ⟨rfl, rfl⟩))
  refine R6.wp_walk (C := ResF w1 [(w.heap.size, .cells #[.int .i64 len, .int .i64 e0, .int .i64 e1, .int .i64 c0, .int .i64 c1, .int .i64 s0, .int .i64 s1, .slice (some ⟨c, off, none⟩) hl cap] 28 (0, 0))] (souK (c0, c1) h q) [(7, 38, 0), (9, 40, 1), (10, 41, 2), (11, 42, 3), (12, 4, 3)]) 43 (by kernel_rfl) (by kernel_rfl) rfl (ResF.start (Below.refl _ _) ⟨HC0.out.2.1, trivial⟩ (fun _ => rfl)) ?_
  simp only []
  iterate 4
    (refine' R6.WalkR.det (fun _ => rfl) (fun D ρ W hK hC => ?_) ?_
     rotate_left
     · have f0 := fun i => cell_of_row W w.heap.size i _ _ _ hC.keep.1
       have HC := Lib.hid hC
       clear hC hK
       go_simp
       with_reducible exact ⟨rfl, HC.out.move (by decide)⟩
     simp only [Act.put, List.setIfInBounds_toArray, List.set_cons_succ, List.set_cons_zero])
  refine' R6.WalkR.det (fun _ => rfl) (fun D ρ W hK hC => ?_) ?_
  rotate_left
  · have hcell := fun j v hv => (((HC0.out.1.trans (hC.bel.mono HC0.out.1.size)).cell (p := ⟨c, off + i * 3 + j, none⟩) HC0.out.2.2.1).trans (HC0.out.2.2.2 j v hv))
    exact gives_load_at 38 (.tmp 34) rfl rfl (hoc h) hcell rowHole ⟨rfl, hC.move (by decide)⟩
  simp only [Act.put, List.setIfInBounds_toArray, List.set_cons_succ, List.set_cons_zero]
  iterate 2
    (refine' R6.WalkR.det (fun _ => rfl) (fun D ρ W hK hC => ?_) ?_
     rotate_left
     · have f0 := fun i => cell_of_row W w.heap.size i _ _ _ hC.keep.1
       have HC := Lib.hid hC
       clear hC hK
       go_simp
       with_reducible exact ⟨rfl, HC.out.move (by decide)⟩
     simp only [Act.put, List.setIfInBounds_toArray, List.set_cons_succ, List.set_cons_zero])
  refine' R6.WalkR.nd (fun _ => rfl) rfl (fun D ρ W hK hC => ?_) ?_
  · skip
    have HC := Lib.hid hC
    clear hC hK
    go_simp
    exact HC.out.made (c := 0) (souK_stab _ _ _) (grow1 _ _) (by decide) ⟨_, rfl, alloc_at0 _ _⟩
  simp only [Act.put, List.setIfInBounds_toArray, List.set_cons_succ, List.set_cons_zero]
  iterate 1
    (refine' R6.WalkR.det (fun _ => rfl) (fun D ρ W hK hC => ?_) ?_
     rotate_left
     · have f0 := fun i => cell_of_row W w.heap.size i _ _ _ hC.keep.1
       have HC := Lib.hid hC
       clear hC hK
       go_simp
       with_reducible exact ⟨rfl, HC.out.move (by decide)⟩
     simp only [Act.put, List.setIfInBounds_toArray, List.set_cons_succ, List.set_cons_zero])
  refine' R6.WalkR.nd (fun _ => rfl) rfl (fun D ρ W hK hC => ?_) ?_
  · obtain ⟨b, hv, hm⟩ := hC.get (k := 7) (d := 38) (c := 0) (by simp) (hK.pre 7 (by first | decide +kernel | (dsimp only; decide +kernel)))
    have HMb := Lib.hid hm
    clear hm
    have HC := Lib.hid hC
    clear hC hK
    go_simp
    go_at_call 76
    refine (repeat_q c0 c1 b 1 q hq8 W HMb.out).mono ?_
    rintro e W1 ⟨rfl, hm1, hB1⟩
    exact ⟨_, rfl, HC.out.made (c := 1) (souK_stab _ _ _) hB1 (by decide) ⟨_, rfl, hm1⟩⟩
  simp only [Act.put, List.setIfInBounds_toArray, List.set_cons_succ, List.set_cons_zero]
  refine' R6.WalkR.nd (fun _ => rfl) rfl (fun D ρ W hK hC => ?_) ?_
  · obtain ⟨b, hv, hm⟩ := hC.get (k := 9) (d := 40) (c := 1) (by simp) (hK.pre 9 (by first | decide +kernel | (dsimp only; decide +kernel)))
    have HMb := Lib.hid hm
    clear hm
    have HC := Lib.hid hC
    clear hC hK
    go_simp
    exact HC.out.made (c := 2) (souK_stab _ _ _) (Below.refl _ _) (by decide) ⟨b, rfl, HMb.out⟩
  simp only [Act.put, List.setIfInBounds_toArray, List.set_cons_succ, List.set_cons_zero]
  refine' R6.WalkR.nd (fun _ => rfl) rfl (fun D ρ W hK hC => ?_) ?_
  · obtain ⟨b, hv, hm⟩ := hC.get (k := 10) (d := 41) (c := 2) (by simp) (hK.pre 10 (by first | decide +kernel | (dsimp only; decide +kernel)))
    have HMb := Lib.hid hm
    clear hm
    have HC := Lib.hid hC
    clear hC hK
    go_simp
    exact HC.out.made (c := 3) (souK_stab _ _ _) (Below.refl _ _) (by decide) ⟨b, rfl, HMb.out⟩
  simp only [Act.put, List.setIfInBounds_toArray, List.set_cons_succ, List.set_cons_zero]
  refine' R6.WalkR.nd (fun _ => rfl) rfl (fun D ρ W hK hC => ?_) ?_
  · obtain ⟨b, hv, hm⟩ := hC.get (k := 11) (d := 42) (c := 3) (by simp) (hK.pre 11 (by first | decide +kernel | (dsimp only; decide +kernel)))
    have HMb := Lib.hid hm
    clear hm
    have HC := Lib.hid hC
    clear hC hK
    go_simp
    exact HC.out.made (c := 3) (souK_stab _ _ _) (Below.refl _ _) (by decide) ⟨b, rfl, HMb.out⟩
  simp only [Act.put, List.setIfInBounds_toArray, List.set_cons_succ, List.set_cons_zero]
  refine R6.WalkR.nil (fun D ρ W hD hC => ?_)
  obtain ⟨b, hv, hm⟩ := hC.get (k := 12) (d := 4) (c := 3) (by simp) (hD 12 (by decide))
  have HB := Lib.hid (And.intro hm (HC0.out.1.trans (hC.bel.mono HC0.out.1.size)))
  clear hC hD hm
  go_wp2
  go_ret
  exact ⟨⟨_, rfl, b, hv, HB.out.1⟩, HB.out.2⟩

theorem sounding_some (f : Fu) (n : Nat) (hn0 : n ≠ 0) (hn : n < 2 ^ f.hs.length) (hl : f.hs.length ≤ 8) (B : Nat) (w : World) (hB : B ≤ w.heap.size) (hz : FuAt w B f) :
    Calls Try.prog 47 #[.agg (fuc f).toArray, .int .u8 (n : Int)] w fun e w' => (∃ v, e = .returned v ∧ souK (f.c0, f.c1) (f.hs[tz8 n]?.getD ⟨0, 0, 0⟩) (cloF n (tz8 n) (f.hs.length - tz8 n - 1)) 3 v w') ∧ Below w.heap.size w w' := by
  have hn8 : n < 256 := Nat.lt_of_lt_of_le hn (Nat.pow_le_pow_right (n := 2) (by omega) hl)
  have hi := tz8_lt hn8 hn0 hn
  have hz' : Vals w B f.A (f.hs.flatMap hoc) := hz
  obtain ⟨c, off, hA, hcB, hc⟩ := vals_elem hoc_len hz' (by decide) hi
  have e : f.hs[tz8 n]?.getD ⟨0, 0, 0⟩ = f.hs[tz8 n] := by simp [hi]
  rw [e]
  have hm : n >>> (tz8 n + 1) < 256 := Nat.lt_of_le_of_lt (Nat.shiftRight_le _ _) hn8
  have hsh : (n : Int) / 2 ^ (tz8 n + 1) = ((n >>> (tz8 n + 1) : Nat) : Int) := by rw [Nat.shiftRight_eq_div_pow]; simp
  have H := sounding_core f.len f.e0 f.e1 f.c0 f.c1 f.s0 f.s1 c off f.hs.length f.cap n (tz8 n) (n >>> (tz8 n + 1)) (tz8 (n >>> (tz8 n + 1))) (cloF n (tz8 n) (f.hs.length - tz8 n - 1)) f.hs[tz8 n] w
    (fun W => tz8_run n hn8 W) (fun W => tz8_run _ hm W) hsh (by simpa using hn0) hi hl rfl (Nat.lt_of_lt_of_le hcB hB) hc
  rw [← hA] at H
  exact H

end Go.Proofs.Ytjjipkgconmfcaa

namespace Go.Proofs.Ytjjipkgconmfcaa
open Go.RowKit Go.Shelf

attribute [local go_sem] Oper.semAt_some

abbrev Fi (L : Nat) : Type := { n : Nat // n < 2 ^ L }
def encF (L : Nat) (x : Fi L) : Array Value := #[.int .u8 (x.1 : Int)]
def KpF (n₀ b : Nat) (W W' : World) : Prop := (∀ j, j < n₀ → W'.heap[j]? = W.heap[j]?) ∧ W'.heap[b]? = W.heap[b]?
theorem KpF.trans {n₀ b : Nat} {A B C : World} (h : KpF n₀ b A B) (k : KpF n₀ b B C) : KpF n₀ b A C := ⟨fun j hj => (k.1 j hj).trans (h.1 j hj), k.2.trans h.2⟩

theorem fingerings_any (V : List Value) (w : World) : Calls Try.prog 72 #[.agg V.toArray] w fun e w' =>
    e = .returned (.func (.func 90) #[] #[.pointer (some ⟨w.heap.size, 0, none⟩)]) ∧ w' = w.alloc (.cells V.toArray 28) := by
  go_enter Try.func72, Try.ntmps72
  go_wp2
  go_ret
  exact ⟨rfl, rfl⟩

set_option maxRecDepth 100000 in
set_option maxHeartbeats 4000000 in
theorem fingerings_stops (f : Fu) (hl : f.hs.length ≤ 8) (n n₀ b : Nat) (hn : 1 ≤ n) (w : World) (hb : b < w.heap.size) (hb0 : w.heap[b]? = some (.cells (fuc f).toArray 28 (0, 0))) :
    SeqStopsK Fence.wide n Try.prog 90 #[.pointer (some ⟨b, 0, none⟩)] (encF f.hs.length) (KpF n₀ b) (fun xs => xs.map (·.1) = List.range (2 ^ f.hs.length)) (fun _ => True) (2 ^ f.hs.length) w := by
  intro l J Jx W hW _ _ hY hJ0
  have hbW := (hW.block b (by omega)).trans hb0
  have HY := Lib.hid hY
  have HB := Lib.hid hbW
  have hN8 : 2 ^ f.hs.length ≤ 256 := Nat.pow_le_pow_right (n := 2) (by omega) hl
  have hlz : (f.hs.length : Int) ≤ 8 := by omega
  obtain ⟨N, hN⟩ : ∃ N, N = 2 ^ f.hs.length := ⟨_, rfl⟩
  rw [← hN] at hN8
  have hNz : ((2 : Int) ^ f.hs.length) = (N : Int) := by rw [hN]; simp
  have hNw : wrap64 ((2 : Int) ^ f.hs.length) = (N : Int) := by rw [hNz]; unfold wrap64; omega
  have hNi : (N : Int) ≤ 256 := by omega
  have HN := Lib.hid hN
  clear hN hNz
  unfold fuc at hbW
  have hcB := fun i => cell_of_row W b i _ _ _ hbW
  clear hY hbW hb0 hW
  refine callsIn_of_wp Try.func90 rfl trivial ?_ rfl
  simp only [Try.ntmps90, List.size_toArray, List.length_cons, List.length_nil, Nat.reduceAdd, Nat.reduceSub, Array.replicate_succ, Array.replicate_zero, List.push_toArray, List.append_toArray, List.nil_append, List.cons_append]
  gi_wp2_with fail
  rw [hNw]
  clear hNw
  gi_loopw [8] (fun s8 wr => ∃ (k : Nat) (pre : List (Fi f.hs.length)), k ≤ N ∧ s8 = .int .i64 k ∧ Hid (pre.map (·.1) = List.range k) ∧ Hid (J pre wr) ∧ Hid (KpF n₀ b W wr))
    (fun s8 _ => N - (intOf s8).toNat)
  case atStart => exact ⟨0, [], Nat.zero_le _, rfl, rfl, hJ0, fun _ _ => rfl, rfl⟩
  case round =>
    obtain ⟨k, pre, hk, rfl, hpre, hJ, hK⟩ := hrel
    clear hcB
    by_cases hlt : k < N
    · have hkz : (k : Int) < N := by omega
      have hk8 : IntKind.u8.wrap (k : Int) = k := by rw [IntKind.wrap_u8]; omega
      have hpl : pre.length = k := by have := congrArg List.length hpre.out; simpa using this
      have hkN : k < 2 ^ f.hs.length := by rw [← HN.out]; exact hlt
      have hy := HY.out pre ⟨k, hkN⟩ wr hJ.out (by rw [hpl]; exact hkN)
      have hnx : (pre ++ [(⟨k, hkN⟩ : Fi f.hs.length)]).map (·.1) = List.range (k + 1) := by rw [List.map_append, hpre.out, List.range_succ]; rfl
      have HX := Lib.hid hnx
      clear hpl hnx
      simp only [encF] at hy
      have Hy := Lib.hid hy
      clear hy
      gi_wp2_with
        (show wpListIn _ _ _ _ _ (Oper.mk (some 14) _ _ _ _ _ :: _) _ _
         refine wpListIn_yield (.tmp 11) #[.tmp 13] #[5] ?hgd ?ho ?hF hn (l := l) ?hf ?hvs Hy.out ?_
         case hgd => rfl
         case ho => rfl
         case hF => exact fun _ => trivial
         case hf => rfl
         case hvs => simp [Act.eval]
         rintro e w7 (⟨rfl, hJ7, hK7⟩ | ⟨rfl, hx7⟩)
         refine ⟨_, rfl, ?_⟩
         have J7 := Lib.hid (And.intro hJ7 hK7)
         clear hJ7 hK7
         rotate_left
         refine ⟨_, rfl, ?_⟩
         have J7 := Lib.hid hx7
         clear hx7
         rotate_right)
      case roundEnd =>
        go_roundw
        case rel => exact ⟨k + 1, _, by omega, by go_num, HX.out, J7.out.1, hK.out.trans J7.out.2⟩
        case measure => simp [intOf] <;> omega
      refine bodyPost_ret (results_none rfl _ _ _) rfl ?_
      exact ⟨⟨_, rfl⟩, .inr ⟨_, trivial, J7.out⟩⟩
    · obtain rfl : k = N := by omega
      gi_wp2_with fail
      go_end0
      exact ⟨⟨_, rfl⟩, .inl ⟨pre, by rw [hpre.out, HN.out], hJ.out⟩⟩

end Go.Proofs.Ytjjipkgconmfcaa

namespace Go.Proofs.Ytjjipkgconmfcaa
open Go.RowKit Go.Maps
open R6 (done done_ne done_me upd_ne upd_me)

def rdU (v : Value) : Option (DataW Value × List MemPlace) := some (.held v, [])
def spV (s : Int × Int) : Value := .agg #[.int .i64 s.1, .int .i64 s.2]
theorem keyU8 : Keyed Try.prog 5 := Maps.int_keyed Try.underlying5
theorem keyU8_of (k : Nat) (hk : k < 256) : keyOf Try.prog 5 (.int .u8 (k : Int)) = some (.int .u8 (k : Int)) := Maps.keyOf_int_mk Try.underlying5 (by simp [Lit.wf, IntKind.min, IntKind.max, IntKind.signed, IntKind.bits]; omega)
theorem zeroSp (w : World) : (zeroValue 25).run Try.prog w = .ok (spV (0, 0)) w := by kernel_rfl
def MapU (D : DataW Value) (F : Nat → Option (Int × Int)) : Prop := ∀ n : Nat, n < 256 → Maps.has D (.int .u8 (n : Int)) = (F n).isSome ∧ D.atKey (.int .u8 (n : Int)) (.held (spV (0, 0))) = .held (spV ((F n).getD (0, 0)))
def OwnT (W : World) (mb c : Nat) (F : Nat → Option (Int × Int)) : Prop := ∃ D : DataW Value, W.ownsMap Try.prog 5 rdU mb c D ∧ MapU D F
theorem OwnT.made (w : World) : OwnT (w.alloc (.map #[] 0)) w.heap.size 0 (fun _ => none) :=
  ⟨.map [], World.ownsMap_made _ _ _ _, fun _ _ => ⟨rfl, rfl⟩⟩
theorem OwnT.block {W W' : World} {mb c : Nat} {F : Nat → Option (Int × Int)} (h : OwnT W mb c F) (e : W'.heap[mb]? = W.heap[mb]?) : OwnT W' mb c F := by
  obtain ⟨D, h1, h2⟩ := h
  refine ⟨D, ?_, h2⟩
  unfold World.ownsMap at h1 ⊢
  rw [e]
  exact h1
theorem OwnT.lt {W : World} {mb c : Nat} {F : Nat → Option (Int × Int)} (h : OwnT W mb c F) : mb < W.heap.size := let ⟨_, h1, _⟩ := h; h1.lt
def updU (F : Nat → Option (Int × Int)) (k : Nat) (s : Int × Int) : Nat → Option (Int × Int) := fun n => if n = k then some s else F n
section
variable {op : Oper} {ops : Array Oper} {rest : List Oper} {a : Act} {w : World} {Q : Exit → Act → World → Prop} {R : Value → World → Prop} {M c : Nat} {F : Nat → Option (Int × Int)}
theorem gives_keepU (mp x v : Operand) (hop : op.op = Op.mapUpdate 83 mp x v) (hm : a.eval mp = .map (some M)) (hO : OwnT w M c F) (hn : c < maxLen) {k : Nat} (hk : k < 256) (hx : a.eval x = .int .u8 (k : Int)) {s : Int × Int} (hv : a.eval v = spV s)
    (h : ∀ w', OwnT w' M (c + 1) (updU F k s) → w.grownBy w' (some M) → R undef w') : gives Try.prog op a w R := by
  obtain ⟨D, h1, h2⟩ := hO
  obtain ⟨w', hrun, r1, r2⟩ := h1.update keyU8 Try.underlying83 hn (keyU8_of k hk) (val := spV s) (d := .held (spV s)) (ps := []) rfl
  unfold gives
  simp [execOp, hop, hm, hx, hv, hrun, Result.andThen]
  refine h w' ⟨_, r1, fun n hn => ?_⟩ r2
  have hkey := keyU8.key (keyU8_of k hk)
  unfold updU
  by_cases e : n = k
  · subst e
    rw [if_pos rfl]
    exact ⟨has_put_same h1.isMap hkey _, atKey_put_same h1.isMap hkey _ _⟩
  · have hne : (Lit.int IntKind.u8 (n : Int)) ≠ .int .u8 (k : Int) := fun h => by injection h with _ h2; omega
    rw [if_neg e, has_put_other hne, atKey_put_other hne]
    exact h2 n hn
theorem gives_lookU (mp x : Operand) (hop : op.op = Op.lookup 83 mp x false) (hm : a.eval mp = .map (some M)) (hO : OwnT w M c F) {k : Nat} (hk : k < 256) (hx : a.eval x = .int .u8 (k : Int)) (h : R (spV ((F k).getD (0, 0))) w) : gives Try.prog op a w R := by
  obtain ⟨D, h1, h2⟩ := hO
  obtain ⟨u, ps, hrun, hv⟩ := h1.lookup keyU8 Try.underlying83 (zeroSp w) (zd := .held (spV (0, 0))) (zp := []) rfl (keyU8_of k hk)
  simp only [rdU, Option.some.injEq, Prod.mk.injEq, (h2 k hk).2, DataW.held.injEq] at hv
  rw [hv.1] at hrun
  unfold gives
  simp [execOp, hop, hm, hx, hrun, Result.andThen]
  exact h
theorem wpList_lookU_ok (hg : op.guard = none) (mp x : Operand) (hop : op.op = Op.lookup 83 mp x true) (hm : a.eval mp = .map (some M)) (hO : OwnT w M c F) {k : Nat} (hk : k < 256) (hx : a.eval x = .int .u8 (k : Int))
    (h : wpList Try.prog ops Q rest (a.put op.dst (.tuple #[spV ((F k).getD (0, 0)), .bool (F k).isSome])) w) : wpList Try.prog ops Q (op :: rest) a w := by
  obtain ⟨D, h1, h2⟩ := hO
  obtain ⟨u, ps, hrun, hv⟩ := h1.look_ok keyU8 Try.underlying83 (zeroSp w) (zd := .held (spV (0, 0))) (zp := []) rfl (keyU8_of k hk)
  simp only [rdU, Option.some.injEq, Prod.mk.injEq, (h2 k hk).2, DataW.held.injEq] at hv
  rw [hv.1, (h2 k hk).1] at hrun
  refine wpList_plain hg fun K hK => ?_
  unfold Oper.wp
  simp [execOp, hop, hm, hx, hrun, Result.andThen]
  exact hK _ _ h
end

/-- A region whose last operation writes. -/
structure PhC (ks : Nat) (Pre : (Nat → Bool) → (Nat → Value) → World → Prop) (Post : World → Prop) (D : Nat → Bool) (σ : Nat → Value) (W : World) : Prop where
  pre : D ks = false → Pre D σ W
  post : D ks = true → Post W
theorem PhC.step {ks k : Nat} {Pre : (Nat → Bool) → (Nat → Value) → World → Prop} {Post : World → Prop} {D : Nat → Bool} {σ : Nat → Value} {W : World} (hk : (k == ks) = false) (h0 : D ks = false) (h : Pre (done D k) σ W) : PhC ks Pre Post (done D k) σ W :=
  ⟨fun _ => h, fun e => (by rw [done_ne (fun e => by simp [e] at hk), h0] at e; cases e)⟩
theorem PhC.put {ks : Nat} {Pre : (Nat → Bool) → (Nat → Value) → World → Prop} {Post : World → Prop} {D : Nat → Bool} {σ : Nat → Value} {W : World} (h : Post W) : PhC ks Pre Post (done D ks) σ W :=
  ⟨fun e => (by rw [done_me] at e; cases e), fun _ => h⟩
theorem PhC.start {ks : Nat} {Pre : (Nat → Bool) → (Nat → Value) → World → Prop} {Post : World → Prop} {D : Nat → Bool} {σ : Nat → Value} {W : World} (hD : D ks = false) (h : Pre D σ W) : PhC ks Pre Post D σ W :=
  ⟨fun _ => h, fun e => (by rw [hD] at e; cases e)⟩

end Go.Proofs.Ytjjipkgconmfcaa
