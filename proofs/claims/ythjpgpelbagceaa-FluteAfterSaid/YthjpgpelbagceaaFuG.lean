/-
  The length of the air in an open tube.
-/
import Derived.Test.YthjpgpelbagceaaFuF
set_option linter.all false
namespace Go.Proofs.Ythjpgpelbagceaa
open Go.RowKit
open R6 (done done_ne done_me upd_ne upd_me)

attribute [local go_sem] gives

set_option maxRecDepth 100000 in
set_option maxHeartbeats 4000000 in
theorem openAir_any (h : Ho) (c0 c1 : Int) (k : Nat) (hk : k ≤ 8) (h1 : 0 ≤ h.a ∧ h.a ≤ 20000) (h2 : 0 ≤ h.lo ∧ h.lo ≤ 60) (h3 : 0 ≤ h.hi ∧ h.hi ≤ 60) (h4 : 0 ≤ c0 ∧ c0 ≤ 60) (h5 : 0 ≤ c1 ∧ c1 ≤ 60) (A : Option Addr) (cap : Nat) (B : Nat) (w : World) (hB : B ≤ w.heap.size) (hz : Vals w B A (pairs (List.replicate k (c0, c1)))) :
    Calls Try.prog 116 #[.agg #[.int .i64 h.a, .int .i64 h.lo, .int .i64 h.hi, .slice A k cap]] w fun e w' => e = .returned (.agg #[.int .i64 (h.a + h.lo + k * c0), .int .i64 (h.a + h.hi + k * c1)]) ∧ Below w.heap.size w w' := by
  obtain ⟨a, lo, hi⟩ := h
  dsimp only at h1 h2 h3 ⊢
  have hr := sumSp_rep (c0, c1) k
  have hkz : (k : Int) ≤ 8 := by omega
  have hk0 : (0 : Int) ≤ k := by omega
  have a1 : 0 ≤ (k : Int) * c0 := Int.mul_nonneg hk0 h4.1
  have a2 : (k : Int) * c0 ≤ 8 * 60 := Int.le_trans (Int.mul_le_mul_of_nonneg_right hkz h4.1) (Int.mul_le_mul_of_nonneg_left h4.2 (by omega))
  have a3 : 0 ≤ (k : Int) * c1 := Int.mul_nonneg hk0 h5.1
  have a4 : (k : Int) * c1 ≤ 8 * 60 := Int.le_trans (Int.mul_le_mul_of_nonneg_right hkz h5.1) (Int.mul_le_mul_of_nonneg_left h5.2 (by omega))
  have hc := fun (W : World) (hW : Below w.heap.size w W) => sum_any (List.replicate k (c0, c1)) (fun x hx => by rw [List.eq_of_mem_replicate hx]; dsimp only; omega) (by simp; omega) A cap B W (Nat.le_trans hB hW.size) (hz.below (hW.mono hB))
  dsimp only at hr
  simp only [hr, List.length_replicate] at hc
  generalize (k : Int) * c0 = m0 at a1 a2 hc ⊢
  generalize (k : Int) * c1 = m1 at a3 a4 hc ⊢
  have hs : sumSp [(a, a), (lo, hi), (m0, m1)] = (a + lo + m0, a + hi + m1) := by simp [sumSp, spAdd]
  have hsm : smSp [(a, a), (lo, hi), (m0, m1)] := by
    intro x hx
    simp only [List.mem_cons, List.not_mem_nil, or_false] at hx
    rcases hx with rfl | rfl | rfl <;> (dsimp only; omega)
  have hsum := fun (W : World) b (hb : W.heap[b]? = some (.cells [Value.int .i64 a, .int .i64 a, .int .i64 lo, .int .i64 hi, .int .i64 m0, .int .i64 m1].toArray 25 (0, 0))) => sum_any [(a, a), (lo, hi), (m0, m1)] hsm (by simp) (some ⟨b, 0, none⟩) 3 W.heap.size W (Nat.le_refl _) (vals_in hb (lt_of_heap hb) at0)
  rw [hs] at hsum
  simp only [List.length_cons, List.length_nil, Nat.zero_add, Nat.reduceAdd] at hsum
  have HS := Lib.hid hsum
  have HC2 := Lib.hid hc
  clear hs hsm hsum hc hr hz
  obtain ⟨w3, hw3⟩ : ∃ w3, (w.alloc (.cells #[.int .i64 a, .int .i64 lo, .int .i64 hi, .slice A k cap] 119)).alloc (.cells #[.int .i64 0, .int .i64 0] 86) = w3 := ⟨_, rfl⟩
  have hb : Below w.heap.size w w3 := by rw [← hw3]; exact ((Below.refl _ _).alloc (Nat.le_refl _) _).alloc (by simp) _
  have m0' : w3.heap[w.heap.size]? = some (.cells #[.int .i64 a, .int .i64 lo, .int .i64 hi, .slice A k cap] 119 (0, 0)) := by rw [← hw3]; exact alloc2_at0 _ _ _
  have m2 : w3.heap[w.heap.size + 1]? = some (.cells #[.int .i64 0, .int .i64 0] 86 (0, 0)) := by rw [← hw3]; exact alloc2_at1 _ _ _
  have HM := Lib.hid (And.intro hb (And.intro m0' m2))
  have HO := Lib.hid (fun W => one_any a W)
  generalize a + lo + m0 = t0 at HS ⊢
  generalize a + hi + m1 = t1 at HS ⊢
  clear hb m0' m2 h1 h2 h3 h4 h5 a1 a2 a3 a4
  go_enter Try.func116, Try.ntmps116
  go_wp2
  refine R6.wp_walk (C := AirC w3 (w.heap.size + 1) (.cells #[.int .i64 0, .int .i64 0] 86 (0, 0)) (.cells #[.int .i64 t0, .int .i64 t1] 86 (0, 0)) 13 10 13 3 [.int .i64 a, .int .i64 a, .int .i64 lo, .int .i64 hi, .int .i64 m0, .int .i64 m1]) 16 (by kernel_rfl) (by kernel_rfl) rfl (AirC.start HM.out.2.2 (fun _ => rfl)) ?_
  simp only []
  iterate 10
    (refine' R6.WalkR.det (fun _ => rfl) (fun D ρ W hK hC => ?_) ?_
     rotate_left
     · have f0 := fun i => cell_of_row W w.heap.size i _ _ _ ((hC.one.other (lt_of_heap HM.out.2.1) (by omega)).trans HM.out.2.1)
       have HC := Lib.hid hC
       clear hC hK
       go_simp
       first
         | with_reducible exact ⟨rfl, HC.out.move (by decide)⟩
         | (go_at_call 114; refine (HC2.out W (HM.out.1.grown HC.out.one.gb HM.out.1.size (fun k e => by cases e; omega))).mono ?_; rintro e W1 ⟨rfl, hB1⟩; exact ⟨_, rfl, rfl, (HC.out.next hB1).move (by decide)⟩)
         | (go_at_call 115; refine (HO.out W).mono ?_; rintro e W1 ⟨rfl, hB1⟩; exact ⟨_, rfl, rfl, (HC.out.next hB1).move (by decide)⟩)
     simp only [Act.put, List.setIfInBounds_toArray, List.set_cons_succ, List.set_cons_zero])
  refine' R6.WalkR.nd (fun _ => rfl) rfl (fun D ρ W hK hC => ?_) ?_
  · have HC := Lib.hid hC
    clear hC hK
    go_simp
    exact HC.out.made rfl
  simp only [Act.put, List.setIfInBounds_toArray, List.set_cons_succ, List.set_cons_zero]
  refine' R6.WalkR.det (fun _ => rfl) (fun D ρ W hK hC => ?_) ?_
  rotate_left
  · obtain ⟨b, hv, -, hm⟩ := hC.new (hK.pre 10 (by first | decide +kernel | (dsimp only; decide +kernel)))
    have HC := Lib.hid hC
    have HMb := Lib.hid hm
    clear hC hK hm
    go_simp
    go_at_call 114
    refine (HS.out W b HMb.out).mono ?_
    rintro e W1 ⟨rfl, hB1⟩
    exact ⟨_, rfl, rfl, (HC.out.next hB1).move (by decide)⟩
  simp only [Act.put, List.setIfInBounds_toArray, List.set_cons_succ, List.set_cons_zero]
  iterate 1
    (refine' R6.WalkR.det (fun _ => rfl) (fun D ρ W hK hC => ?_) ?_
     rotate_left
     · have HC := Lib.hid hC
       clear hC hK
       go_simp
       with_reducible exact ⟨rfl, HC.out.move (by decide)⟩
     simp only [Act.put, List.setIfInBounds_toArray, List.set_cons_succ, List.set_cons_zero])
  refine' R6.WalkR.det (c := undef) (fun _ => rfl) (fun D ρ W hK hC => ?_) ?_
  · have h7 := hC.one.no hK.me
    refine gives_store_blk 86 (.tmp 2) (.tmp 15) rfl rfl (cs := [.int .i64 t0, .int .i64 t1]) (L := [.int .i64 0, .int .i64 0]) rfl h7 (Nat.le_refl 2) (by simp [Value.oneCell']) rowAir ?_
    intro W1 hP hM
    refine ⟨rfl, hC.one.put hP hM, hC.lt0, fun e => ?_⟩
    obtain ⟨b, h1, h2, h3⟩ := hC.new (by rwa [done_ne (by decide)] at e)
    exact ⟨b, h1, h2, (hP.other b (by have := hC.lt0; omega)).trans h3⟩
  simp only [Act.put]
  refine R6.WalkR.nil (fun D ρ W hD hC => ?_)
  have hM7 := hC.one.yes (hD 13 (by decide))
  have hB7 := HM.out.1.grown hC.one.gb HM.out.1.size (fun k e => by cases e; omega)
  have H7 := Lib.hid (And.intro hM7 hB7)
  have hc7 := fun i => cell_of_row W (w.heap.size + 1) i _ _ _ hM7
  clear hC hD hM7 hB7
  go_wp2
  refine bodyPost_ret (v := .agg #[.int .i64 t0, .int .i64 t1]) (by simp [results, Try.results116, go_sem, hc7]) rfl ⟨rfl, H7.out.2⟩

end Go.Proofs.Ythjpgpelbagceaa
