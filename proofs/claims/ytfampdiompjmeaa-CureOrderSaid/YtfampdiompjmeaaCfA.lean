/-
  What the outright statements begin with: whether a batch is ready; numbers that say what comes.
-/
import Derived.Test.YtfampdiompjmeaaCeY
import Derived.Test.YtfampdiompjmeaaCeQ
namespace Go.Proofs.Ytfampdiompjmeaa
open Go.RowKit

attribute [local go_sem] gives

theorem at_any (A : Option Addr) (k : Nat) (l : List Int) (i : Int) (h0 : 0 ≤ i) (B : Nat) (w : World) (hV : Vals w B A (u32s l)) (hl : l.length ≤ 9223372036854775807) :
    Calls Try.prog 42 #[.slice A l.length k, .int .i64 i] w fun e w' => e = .returned (.int .u32 (atL l i)) ∧ w = w' := by
  by_cases hz : l.length = 0
  · have e1 : atL l i = 0 := by simp [atL, hz]
    rw [e1, hz]
    go_enter Try.func42, Try.ntmps42
    go_wp2
    go_ret
    exact ⟨rfl, rfl⟩
  · obtain ⟨b, off, rfl, hlt, hc⟩ := hV (by simp [u32s]; omega)
    have hm0 := Int.emod_nonneg i (show (l.length : Int) ≠ 0 by omega)
    have hm1 := Int.emod_lt_of_pos i (show (0 : Int) < l.length by omega)
    have e1 : atL l i = l[(i % l.length).toNat]?.getD 0 := by simp only [atL]; rw [if_neg hz]
    have hx := hc (i % l.length).toNat (.int .u32 (l[(i % l.length).toNat]?.getD 0)) (by
      have : (i % l.length).toNat < l.length := by omega
      simp [u32s, this])
    rw [e1]
    generalize l[(i % l.length).toNat]?.getD 0 = v at hx ⊢
    have htm : i.tmod l.length = i % l.length := Int.tmod_eq_emod_of_nonneg h0
    go_enter Try.func42, Try.ntmps42
    go_wp2
    go_ret
    exact ⟨rfl, rfl⟩

set_option maxHeartbeats 1000000 in
theorem pick_any (lo hi n : Int) (h0 : 0 ≤ lo) (h1 : lo ≤ hi) (h2 : hi ≤ 1000000) (n0 : 0 ≤ n) (n1 : n < 4294967296) (w : World) :
    Calls Try.prog 37 #[.agg #[.int .i64 lo, .int .i64 hi], .int .u32 n] w fun e w' => e = .returned (.int .i64 (pickL lo hi n)) ∧ Below w.heap.size w w' := by
  have hp := pickL_bnd (n := n) h1
  have htm : n.tmod (hi - lo + 1) = n % (hi - lo + 1) := Int.tmod_eq_emod_of_nonneg n0
  have hm0 := Int.emod_nonneg n (show hi - lo + 1 ≠ 0 by omega)
  have hm1 := Int.emod_lt_of_pos n (show 0 < hi - lo + 1 by omega)
  have hnz : ¬ hi - lo + 1 = 0 := by omega
  unfold pickL at hp ⊢
  have hx1 : IntKind.i64.wrap n = n := IntWalk.i64_in _ (by omega)
  have hx2 : IntKind.i64.wrap (hi - lo) = hi - lo := IntWalk.i64_in _ (by omega)
  have hx3 : IntKind.i64.wrap (hi - lo + 1) = hi - lo + 1 := IntWalk.i64_in _ (by omega)
  have hx4 : IntKind.i64.wrap (lo + n % (hi - lo + 1)) = lo + n % (hi - lo + 1) := IntWalk.i64_in _ (by omega)
  have hx5 : IntKind.i64.wrap (n % (hi - lo + 1)) = n % (hi - lo + 1) := IntWalk.i64_in _ (by omega)
  go_enter Try.func37, Try.ntmps37
  go_wp2
  obtain ⟨w1, hw1⟩ : ∃ w1, w.alloc (.cells #[.int .i64 lo, .int .i64 hi] 26) = w1 := ⟨_, rfl⟩
  have hb1 : Below w.heap.size w w1 := by rw [← hw1]; exact (Below.refl _ _).alloc (Nat.le_refl _) _
  have hm1' : w1.heap[w.heap.size]? = some (.cells #[.int .i64 lo, .int .i64 hi] 26 (0, 0)) := by rw [← hw1]; exact alloc_at0 w _
  have H1 := Lib.hid (And.intro hb1 hm1')
  rw [hw1]
  clear hw1 hb1 hm1'
  refine R2.wp_walk (C := Below w1.heap.size w1) (S := fun _ => Grows) 17 (by kernel_rfl) (by kernel_rfl) rfl (fun _ => Grows.refl) (Below.refl _ _).drew ?_
  simp only []
  repeat
    (refine' R2.WalkR.det (fun _ => rfl) rfl (fun ρ W hW hH hU => ?_) ?_
     rotate_left
     · clear hH hU
       have hc := fun i => cell_of_row W w.heap.size i _ _ _ ((hW.block _ (lt_of_heap H1.out.2)).trans H1.out.2)
       have HW := Lib.hid hW
       clear hW
       go_simp
       with_reducible exact ⟨rfl, Grows.refl _, HW.out⟩
     simp only [Act.put, List.setIfInBounds_toArray, List.set_cons_succ, List.set_cons_zero])
  refine R2.WalkR.nil (fun ρ W hW hH hF => ?_)
  clear hH hF
  go_wp2
  go_ret
  exact ⟨rfl, H1.out.1.trans (hW.mono H1.out.1.size)⟩


/-- A valid batch is not great. -/
theorem ready_short {t : Bt} {l : List Sl} (h : okBatch t (rws l) = true) : greatB l = false := by
  obtain ⟨hg, -⟩ := okBatch_good h
  have h4 : l.length ≤ 4 := by have := hg.n4; simpa [rws] using this
  have : (l.any fun s => decide (12 < s.zs.length)) = false := by
    rw [List.any_eq_false]
    intro s hs
    have := (hg.rows s.zs (by simp only [rws, List.mem_map]; exact ⟨s, hs, rfl⟩)).l6
    simp; omega
  simp [greatB, this]; omega
theorem okBatch_shortL {t : Bt} {l : List Sl} (h : okBatch t (rws l) = true) : shortL l := small_short (great_small (ready_short h))

set_option maxRecDepth 100000 in
set_option maxHeartbeats 2000000 in
theorem ready4_any (t : Bt) (A : Option Addr) (cap : Nat) (l : List Sl) (B : Nat) (w : World) (hB : B ≤ w.heap.size) (hz : Rows w B A l) (hll : l.length ≤ 9223372036854775807) (hl : ∀ s ∈ l, s.zs.length ≤ 9223372036854775807) :
    Calls Try.prog 36 #[.agg (btcells t (.slice A l.length cap))] w fun e w' => e = .returned (.bool (okBatch t (rws l))) ∧ Below w.heap.size w w' := by
  have hgr := fun W (hW : Below w.heap.size w W) => great_any t A cap l B W (Nat.le_trans hB hW.size) (hz.below (hW.mono hB)) hll
  have hba := fun W (hW : Below w.heap.size w W) => refBatch_any t A cap l B W (Nat.le_trans hB hW.size) (hz.below (hW.mono hB)) hl
  obtain ⟨w1, hw1⟩ : ∃ w1, w.alloc (.cells (btcells t (.slice A l.length cap)) 28) = w1 := ⟨_, rfl⟩
  have hb1 : Below w.heap.size w w1 := by rw [← hw1]; exact grow1 _ _
  have hs1 : w1.heap.size = w.heap.size + 1 := by rw [← hw1]; simp
  have hm1 : w1.heap[w.heap.size]? = some (.cells (btcells t (.slice A l.length cap)) 28 (0, 0)) := by rw [← hw1]; exact alloc_at0 _ _
  have hc1 := fun i => cell_of_row w1 w.heap.size i _ _ _ hm1
  have H1 := Lib.hid (And.intro hb1 (And.intro hm1 hs1))
  clear hb1 hs1 hm1
  cases hg : greatB l with
  | true =>
    have hno : okBatch t (rws l) = false := by
      cases e : okBatch t (rws l) with
      | false => rfl
      | true => rw [ready_short e] at hg; cases hg
    rw [hno]
    rw [hg] at hgr
    have HGR := Lib.hid hgr
    clear hgr hba hg hz hll hl hno
    unfold btcells at hw1 hc1 HGR ⊢
    go_enter Try.func36, Try.ntmps36
    go_wp2_with (go_at_call 24; refine (HGR.out w1 H1.out.1).mono ?_; rintro e w2 ⟨rfl, hB2⟩; have H2 := Lib.hid (H1.out.1.trans (hB2.mono H1.out.1.size)); clear hB2)
    go_ret
    exact ⟨rfl, H2.out⟩
  | false =>
    rw [hg] at hgr
    generalize okBatch t (rws l) = v at hba ⊢
    have HF := Lib.hid (And.intro hgr hba)
    clear hgr hba hg hz hll hl
    unfold btcells at hw1 hc1 HF ⊢
    go_enter Try.func36, Try.ntmps36
    go_wp2_with (first
      | (go_at_call 24; refine (HF.out.1 w1 H1.out.1).mono ?_; rintro e w2 ⟨rfl, hB2⟩
         have hc2 := fun i => cell_of_row w2 w.heap.size i _ _ _ ((hB2.block _ (by have := H1.out.2.2; omega)).trans H1.out.2.1)
         unfold btcells at hc2
         have H2 := Lib.hid (H1.out.1.trans (hB2.mono H1.out.1.size)); clear hB2)
      | (go_at_call 40; refine (HF.out.2 w2 H2.out).mono ?_; rintro e w3 ⟨rfl, hB3⟩; have H3 := Lib.hid (H2.out.trans (hB3.mono H2.out.size)); clear hB3))
    go_ret
    exact ⟨by simp, H3.out⟩

end Go.Proofs.Ytfampdiompjmeaa
