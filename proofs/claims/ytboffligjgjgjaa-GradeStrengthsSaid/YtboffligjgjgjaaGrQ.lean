/-
  What its own tests leave a pole (the program's): the walk.
-/
import Derived.Test.YtboffligjgjgjaaGrP
namespace Go.Proofs.Ytboffligjgjgjaa
open Go.RowKit
open R6 (done done_ne done_me upd_ne upd_me)

attribute [local go_sem] gives

theorem rowSl3 : RowTy Try.prog 108 3 := ⟨⟨_, Try.underlying108, rfl⟩, by kernel_rfl⟩
theorem infoSpan5 : (Try.prog.info? 38).map (fun i => (i.zero, i.size, i.bytes)) = some (some (.agg #[.int .i64 0, .int .i64 0]), 2, 16) := by kernel_rfl
theorem idxS_0 (a b c : Value) (W : World) : (Instr.index 108 (.agg #[a, b, c]) (.int .i64 0)).run Try.prog W = .ok a W := by kernel_rfl
theorem idxS_1 (a b c : Value) (W : World) : (Instr.index 108 (.agg #[a, b, c]) (.int .i64 1)).run Try.prog W = .ok b W := by kernel_rfl
theorem idxS_2 (a b c : Value) (W : World) : (Instr.index 108 (.agg #[a, b, c]) (.int .i64 2)).run Try.prog W = .ok c W := by kernel_rfl
theorem idxS_any (v : Nat → Value) {k : Nat} (hk : k < 3) (W : World) : (Instr.index 108 (.agg (v3 v).toArray) (.int .i64 (k : Int))).run Try.prog W = .ok (v k) W := by
  have h3 : k = 0 ∨ k = 1 ∨ k = 2 := by omega
  rcases h3 with rfl | rfl | rfl
  · exact idxS_0 _ _ _ W
  · exact idxS_1 _ _ _ W
  · exact idxS_2 _ _ _ W

/-- A test's numbers, a grade's. -/
def okT (t : Ts) : Prop := (0 ≤ t.sec ∧ t.sec ≤ 2) ∧ (1 ≤ t.force ∧ t.force ≤ 1000000)
def okG (g : Gd) : Prop := ∀ k, k < 3 → 1 ≤ (st0 g k).1 ∧ (st0 g k).2 ≤ 200000
theorem saidL_step (p : Pol) (k : Nat) (ts : List Ts) (m : Nat) (hm : m < ts.length) : saidL p k (ts.take (m + 1)) = if ts[m].pole = p.id ∧ ts[m].sec = (k : Int) then saidL p k (ts.take m) ++ [says (ar p k) ts[m]] else saidL p k (ts.take m) := by
  unfold saidL
  rw [List.take_add_one, List.getElem?_eq_getElem hm, List.filter_append, List.map_append]
  by_cases h : ts[m].pole = p.id ∧ ts[m].sec = (k : Int)
  · rw [if_pos h]
    simp [h]
  · rw [if_neg h]
    have : (decide (ts[m].pole = p.id) && decide (ts[m].sec = (k : Int))) = false := by simpa using h
    simp [this]
def z6 : List Value := [.int .i64 0, .int .i64 0, .int .i64 0, .int .i64 0, .int .i64 0, .int .i64 0]
def K3 (n : Nat) (p : Pol) (g : Gd) : List (Nat × Obj) := [(n, .cells (pcl p).toArray 58), (n + 1, .cells (gcl g).toArray 82), (n + 1 + 1, .cells z6.toArray 70)]
def K4 (n : Nat) (p : Pol) (g : Gd) (b9 : Nat) (y : Ts) : List (Nat × Obj) := [(n, .cells (pcl p).toArray 58), (n + 1, .cells (gcl g).toArray 82), (n + 1 + 1, .cells z6.toArray 70), (b9, .cells (tcl y).toArray 78)]
theorem saidL_len (p : Pol) (k : Nat) (ts : List Ts) : (saidL p k ts).length ≤ ts.length := by
  unfold saidL
  rw [List.length_map]
  exact List.length_filter_le _ _

set_option maxRecDepth 100000 in
set_option maxHeartbeats 16000000 in
theorem grTested_any (p : Pol) (g : Gd) (ts : List Ts) (AT : Option Addr) (ct : Nat) (B : Nat) (w : World) (hB : B ≤ w.heap.size) (hz : Vals w B AT (ts.flatMap tcl)) (hl : ts.length ≤ 100000) (hs : okSecs p = true) (ht : ∀ t ∈ ts, okT t) (hg : okG g) :
    Calls Try.prog 40 #[.agg (pcl p).toArray, .agg (gcl g).toArray, .slice AT ts.length ct] w fun e w' => e = .returned (.agg (st6 fun k => own p g ts k).toArray) ∧ Below w.heap.size w w' := by
  obtain ⟨i0, hi, hz0, hz1, hz2⟩ := info_parts infoSpan5
  have HI := Lib.hid (And.intro hi (And.intro hz0 (And.intro hz1 hz2)))
  clear hi hz0 hz1 hz2
  obtain ⟨nf, hnf⟩ : ∃ nf : Nat → Int × Int, nf = fun k => own p g ts k := ⟨_, rfl⟩
  rw [← hnf]
  obtain ⟨w1, hw1⟩ : ∃ w1, (((w.alloc (.cells (pcl p).toArray 58)).alloc (.cells (gcl g).toArray 82)).alloc (.cells #[.int .i64 0, .int .i64 0, .int .i64 0, .int .i64 0, .int .i64 0, .int .i64 0] 70)).alloc (.cells #[.slice none 0 0, .slice none 0 0, .slice none 0 0] 108) = w1 := ⟨_, rfl⟩
  have hs1 : w1.heap.size = w.heap.size + 4 := by rw [← hw1]; simp
  have hb1 : Below w.heap.size w w1 := by rw [← hw1]; exact ((grow2 _ _ _).alloc (by simp; omega) _).alloc (by simp; omega) _
  have hk1 : keptK (K3 w.heap.size p g) w1 := by
    rw [← hw1]
    exact ⟨(Below.heap_alloc _ _ _ (by simp only [World.size_alloc]; omega)).trans (alloc3_at0 _ _ _ _), (Below.heap_alloc _ _ _ (by simp only [World.size_alloc]; omega)).trans (alloc3_at1 _ _ _ _), (Below.heap_alloc _ _ _ (by simp only [World.size_alloc]; omega)).trans (alloc3_at2 _ _ _ _), trivial⟩
  have hm7 : w1.heap[w.heap.size + 1 + 1 + 1]? = some (.cells (v3 fun _ => .slice none 0 0).toArray 108 (0, 0)) := by
    rw [← hw1]
    have := alloc_at0 (((w.alloc (.cells (pcl p).toArray 58)).alloc (.cells (gcl g).toArray 82)).alloc (.cells #[.int .i64 0, .int .i64 0, .int .i64 0, .int .i64 0, .int .i64 0, .int .i64 0] 70)) (.cells #[.slice none 0 0, .slice none 0 0, .slice none 0 0] 108)
    simp only [World.size_alloc] at this
    exact this
  have hr1 : Rw3 w1 (w.heap.size + 4) (fun _ => .slice none 0 0) (fun i => saidL p i (ts.take 0)) := ⟨fun i _ => ⟨by simp [saidL], .inl ⟨rfl, by simp [saidL]⟩⟩, fun i j _ _ _ gg e => by simp [Value.ownBlock] at e⟩
  have H1 := Lib.hid (And.intro hk1 (And.intro hb1 (And.intro hm7 (And.intro hr1 (show w.heap.size + 4 ≤ w1.heap.size by omega)))))
  have HN := Lib.hid (And.intro hnf hg)
  have HZ := Lib.hid (And.intro hz (And.intro hB ht))
  clear hk1 hb1 hm7 hr1 hnf hg hz ht hs1
  go_enter Try.func40, Try.ntmps40
  go_wp2
  go_loopg [15] ts.length (fun gn s15 wx => ∃ (m : Nat) (v : Nat → Value), m + gn = ts.length ∧ s15 = .int .i64 m ∧ Hid (keptK (K3 w.heap.size p g) wx ∧ Below w.heap.size w wx ∧ wx.heap[w.heap.size + 1 + 1 + 1]? = some (.cells (v3 v).toArray 108 (0, 0)) ∧ Rw3 wx (w.heap.size + 4) v (fun i => saidL p i (ts.take m)) ∧ w.heap.size + 4 ≤ wx.heap.size))
  case atStart => exact ⟨0, _, by omega, rfl, H1.out⟩
  case round =>
    obtain ⟨m, v, hmg, rfl, hM⟩ := hrel
    cases gk with
    | zero =>
      have hM' := hM.out
      obtain rfl : m = ts.length := by omega
      rw [List.take_length] at hM'
      obtain ⟨⟨-, q2, q3, -⟩, hbw, hb7, hr, hsz⟩ := hM'
      have hq2 : ∀ j v, (st6 (st0 g))[j]? = some v → (gcl g).toArray[2 + j]? = some v := fun j v hv => by
        have e : st6 (st0 g) = (gcl g).drop 2 := rfl
        rw [e, List.getElem?_drop] at hv
        rw [List.getElem?_toArray]
        exact hv
      have HM := Lib.hid (And.intro q2 (And.intro q3 (And.intro hbw (And.intro hb7 (And.intro hr (And.intro hsz hq2))))))
      clear q2 q3 hbw hb7 hr hsz hq2 hM
      go_wp2_with (first
        | (show wpList _ _ _ (Oper.mk (some 42) _ _ _ _ _ :: _) _ _
           refine wpList_load_blk 69 (.tmp 41) rfl rfl rfl HM.out.1 (st6 (st0 g)) HM.out.2.2.2.2.2.2 rowSpans3 ?_)
        | (show wpList _ _ _ (Oper.mk none (Op.store _ (Operand.tmp 10) (Operand.tmp 42)) _ _ _ _ :: _) _ _
           refine wpList_store_blk 70 (.tmp 10) (.tmp 42) rfl rfl rfl rfl rfl (alloc_at0 wr _) (Nat.le_of_ble_eq_true rfl) (st6_one _) rowStress ?_
           intro w5 hP5 hM5
           rw [splice_whole (by rfl), ← mixF_zero (st0 g) nf] at hM5
           have hb5 : Below wr.heap.size wr w5 := (grow1 wr _).trans (hP5.below (Nat.le_refl _))
           have H5 := Lib.hid (And.intro hM5 (And.intro ((hb5.block _ (lt_of_heap HM.out.2.1)).trans HM.out.2.1) (And.intro (HM.out.2.2.1.trans (hb5.mono HM.out.2.2.1.size)) (And.intro (HM.out.2.2.2.2.1.grows hb5) ((hb5.block _ (lt_of_heap HM.out.2.2.2.1)).trans HM.out.2.2.2.1)))))
           clear hP5 hM5 hb5)
        | (show wpList _ _ _ (Oper.mk (some 43) _ _ _ _ _ :: _) _ _
           refine wpList_load_blk 108 (.tmp 7) rfl rfl rfl H5.out.2.2.2.2 (v3 v) at0 rowSl3 ?_))
      have hwsz : w.heap.size + 1 + 1 < wr.heap.size := by have := HM.out.2.2.2.2.2.1; omega
      obtain ⟨wo, rfl⟩ : ∃ wo : World, wo = wr := ⟨_, rfl⟩
      go_loopg [44] 3 (fun gn s44 wx => ∃ k : Nat, k + gn = 3 ∧ s44 = .int .i64 k ∧ Hid (wx.heap[wo.heap.size]? = some (.cells (st6 (mixF (st0 g) nf k)).toArray 70 (0, 0)) ∧ wx.heap[w.heap.size + 1 + 1]? = some (.cells z6.toArray 70 (0, 0)) ∧ Below w.heap.size w wx ∧ Rw3 wx (w.heap.size + 4) v (fun i => saidL p i ts)))
      case atStart => exact ⟨0, by omega, rfl, H5.out.1, H5.out.2.1, H5.out.2.2.1, H5.out.2.2.2.1⟩
      case round =>
        obtain ⟨k, hkg, rfl, hJ⟩ := hrel
        cases gk with
        | zero =>
          have hJ' := hJ.out
          obtain rfl : k = 3 := by omega
          rw [mixF_all] at hJ'
          have HJ := Lib.hid hJ'
          clear hJ'
          go_wp2_with (first
            | (show wpList _ _ _ (Oper.mk (some 56) _ _ _ _ _ :: _) _ _
               refine wpList_load_blk 70 (.tmp 10) rfl rfl rfl HJ.out.1 (st6 nf) at0 rowStress ?_)
            | (show wpList _ _ _ (Oper.mk none (Op.store _ (Operand.tmp 6) (Operand.tmp 56)) _ _ _ _ :: _) _ _
               refine wpList_store_blk 70 (.tmp 6) (.tmp 56) rfl rfl rfl rfl rfl HJ.out.2.1 (Nat.le_of_ble_eq_true rfl) (st6_one _) rowStress ?_
               intro w7 hP7 hM7
               rw [splice_whole (by rfl)] at hM7
               have H7 := Lib.hid (And.intro hM7 (HJ.out.2.2.1.trans (hP7.below (by omega))))
               clear hP7 hM7))
          exact bodyPost_ret (results_cell1 Try.results40 rfl H7.out.1 rowStress) rfl ⟨rfl, H7.out.2⟩
        | succ gn =>
          have hk : k < 3 := by omega
          have hkz : (k : Int) < 3 := by omega
          have hk0 : (0 : Int) ≤ k := by omega
          have hown := hJ.out.2.2.2.own k hk
          obtain ⟨A, cc, hvk⟩ := own_slice hown
          rw [hvk] at hown
          have hidx := fun W => idxS_any v hk W
          rw [hvk] at hidx
          have hats := st6_at (mixF (st0 g) nf k) hk
          rw [mixF_at] at hats
          have hsp := st6_set (mixF (st0 g) nf k) hk (nf k)
          rw [mixF_set] at hsp
          have hcs : cutL (st0 g k) (saidL p k ts) = nf k := by
            have := HN.out.2 k hk
            rw [HN.out.1, cut_said p k ts _ this.1 this.2]
            rfl
          have hlen := saidL_len p k ts
          have HK := Lib.hid (And.intro hown (And.intro hats (And.intro hsp (And.intro hcs hlen))))
          clear hown hats hsp hcs hlen hvk
          go_wp2_with (first
            | (show wpList _ _ _ (Oper.mk (some 51) _ _ _ _ _ :: _) _ _
               refine wpList_load_blk 38 (.tmp 50) rfl rfl rfl hJ.out.1 (sp2 (st0 g k)) HK.out.2.1 rowSpan5 ?_)
            | (go_at_call 65
               refine (grCut_any (st0 g k) A cc (saidL p k ts) _ wr (Nat.le_refl _) (Vals.own HK.out.1) (by have := HK.out.2.2.2.2; omega)).mono ?_
               rintro e w8 ⟨rfl, hB8⟩
               rw [HK.out.2.2.2.1]
               have H8 := Lib.hid (And.intro ((hB8.block _ (lt_of_heap hJ.out.1)).trans hJ.out.1) (And.intro ((hB8.block _ (lt_of_heap hJ.out.2.1)).trans hJ.out.2.1) (And.intro (hJ.out.2.2.1.trans (hB8.mono hJ.out.2.2.1.size)) (hJ.out.2.2.2.grows hB8))))
               clear hB8)
            | (show wpList _ _ _ (Oper.mk none (Op.store _ (Operand.tmp 54) (Operand.tmp 53)) _ _ _ _ :: _) _ _
               refine wpList_store_blk 38 (.tmp 54) (.tmp 53) rfl rfl rfl rfl rfl H8.out.1 (by rw [st6_len]; show k * 2 + 2 ≤ 6; omega) (sp2_one _) rowSpan5 ?_
               intro w9 hP9 hM9
               rw [HK.out.2.2.1] at hM9
               have H9 := Lib.hid (And.intro hM9 (And.intro ((hP9.other _ (by omega)).trans H8.out.2.1) (And.intro (H8.out.2.2.1.trans (hP9.below (by omega))) (H8.out.2.2.2.same hP9 H8.out.1 (by decide)))))
               clear hP9 hM9))
          go_roundg gn
          case measure => omega
          case rel => exact ⟨k + 1, by omega, by go_num, H9.out⟩
    | succ gn =>
      have hm : m < ts.length := by omega
      have hmz : (m : Int) < ts.length := by omega
      obtain ⟨c, off, hA, hcB, hc⟩ := vals_elem tcl_len HZ.out.1 (by decide) hm
      subst hA
      have hc' : ∀ j v, (tcl ts[m])[j]? = some v → wr.cell? ⟨c, off + m * 5 + j, none⟩ = some v := fun j v hv => (hM.out.2.1.cell (p := ⟨c, off + m * 5 + j, none⟩) (by have := HZ.out.2.1; simp; omega)).trans (hc j v hv)
      have hy := HZ.out.2.2 ts[m] (List.getElem_mem hm)
      have hst := fun k => saidL_step p k ts m hm
      generalize ts[m] = y at hc' hy hst
      have HCC := Lib.hid hc'
      have HST := Lib.hid hst
      have HY := Lib.hid hy
      clear hc hc' hst hy
      by_cases he : y.pole = p.id
      · obtain ⟨k, hks⟩ : ∃ k : Nat, y.sec = (k : Int) := ⟨y.sec.toNat, by have := HY.out.1; omega⟩
        have hk : k < 3 := by have := HY.out.1; omega
        have hkz : (k : Int) < 3 := by omega
        have hk0 : (0 : Int) ≤ k := by omega
        have har := ar_pos hs k
        obtain ⟨z, hzz⟩ : ∃ z, z = says (ar p k) y := ⟨_, rfl⟩
        have HX := Lib.hid (And.intro hks (And.intro har (And.intro hzz he)))
        have f9 : ∀ i, i < 3 → (v i).ownBlock ≠ some wr.heap.size := fun i hi e => by
          have := own_block (hM.out.2.2.2.1.own i hi) e
          omega
        have hlen := saidL_len p k (ts.take m)
        rw [List.length_take] at hlen
        have HL := Lib.hid hlen
        have F9 := Lib.hid f9
        clear hks har hzz f9 hlen
        go_wp2_with (first
          | (show wpList _ _ _ (Oper.mk (some 18) _ _ _ _ _ :: _) _ _
             refine wpList_load_at 78 (.tmp 17) rfl rfl rfl (tcl y) HCC.out rowTest ?_)
          | (show wpList _ _ _ (Oper.mk none (Op.store _ (Operand.tmp 9) (Operand.tmp 18)) _ _ _ _ :: _) _ _
             refine wpList_store_blk 78 (.tmp 9) (.tmp 18) rfl rfl rfl rfl rfl (alloc_at0 wr _) (Nat.le_of_ble_eq_true rfl) (fun v hv => tcl_one [y] v (by simpa using hv)) rowTest ?_
             intro w5 hP5 hM5
             rw [splice_whole (by rfl)] at hM5
             have hb5 : Below wr.heap.size wr w5 := (grow1 wr _).trans (hP5.below (Nat.le_refl _))
             have hk5 := hM.out.1.next hb5
             have f1 : w5.cell? ⟨wr.heap.size, 1, none⟩ = some (.int .i64 y.pole) := cell_of_row w5 _ 1 _ _ _ hM5
             have f0 : w5.cell? ⟨w.heap.size, 0, none⟩ = some (.int .i64 p.id) := cell_of_row w5 _ 0 _ _ _ hk5.1
             have H5 := Lib.hid (And.intro hb5 (And.intro hk5 hM5))
             clear hP5 hM5 hb5 hk5))
        clear f0 f1 he
        refine R6.wp_walk (C := TeC w (w.heap.size + 4) (w.heap.size + 1 + 1 + 1) wr.heap.size v (fun i => saidL p i (ts.take m)) k z (K4 w.heap.size p g wr.heap.size y)) 57 (by kernel_rfl) (by kernel_rfl) rfl ?start ?_
        case start =>
          obtain ⟨q1, q2, q3, -⟩ := H5.out.2.1
          refine ⟨(hM.out.2.1.trans (H5.out.1.mono hM.out.2.1.size)).drew, by omega, Nat.le_trans hM.out.2.2.2.2 H5.out.1.size, by omega, ?_, F9.out, ⟨q1, q2, q3, H5.out.2.2, trivial⟩, fun _ => hM.out.2.2.2.1.grows H5.out.1.drew, (fun e => by cases e), (fun e => by cases e), fun _ => (H5.out.1.block _ (lt_of_heap hM.out.2.2.1)).trans hM.out.2.2.1, (fun e => by cases e)⟩
          intro e he
          have := hM.out.2.2.2.2
          simp only [K4, List.mem_cons, List.not_mem_nil, or_false] at he
          rcases he with rfl | rfl | rfl | rfl <;> (dsimp only; omega)
        simp only []
        repeat (first
          | (refine' R6.WalkR.det (fun _ => rfl) (fun D ρ W hK hC => ?_) ?_
             rotate_left
             · have f2 : W.cell? ⟨wr.heap.size, 2, none⟩ = some (.int .i64 (k : Int)) := by rw [← HX.out.1]; exact cell_of_row W _ 2 _ _ _ hC.box.2.2.2.1
               have f7 := (cell_of_row W _ k _ _ _ (hC.b7o (hK.post 16 (by decide +kernel)))).trans (v3_at v hk)
               have HC := Lib.hid hC
               clear hC hK
               go_simp
               first
                 | with_reducible exact ⟨rfl, HC.out.move (by decide)⟩
                 | fail
             simp only [Act.put, List.setIfInBounds_toArray, List.set_cons_succ, List.set_cons_zero]))
        refine' R6.WalkR.det (fun _ => rfl) (fun D ρ W hK hC => ?_) ?_
        rotate_left
        · exact gives_load_blk 78 (.tmp 9) rfl rfl hC.box.2.2.2.1 (tcl y) at0 rowTest ⟨rfl, hC.move (by decide)⟩
        simp only [Act.put, List.setIfInBounds_toArray, List.set_cons_succ, List.set_cons_zero]
        repeat (first
          | (refine' R6.WalkR.det (fun _ => rfl) (fun D ρ W hK hC => ?_) ?_
             rotate_left
             · skip
               have HC := Lib.hid hC
               clear hC hK
               go_simp
               first
                 | with_reducible exact ⟨rfl, HC.out.move (by decide)⟩
                 | (go_at_call 63; refine (grTrialOf_any y W).mono ?_; rintro e W1 ⟨rfl, hB1⟩; exact ⟨_, rfl, rfl, (HC.out.next hB1).move (by decide)⟩)
             simp only [Act.put, List.setIfInBounds_toArray, List.set_cons_succ, List.set_cons_zero]))
        refine' R6.WalkR.det (fun _ => rfl) (fun D ρ W hK hC => ?_) ?_
        rotate_left
        · exact gives_load_blk 58 (.tmp 3) rfl rfl hC.box.1 (pcl p) at0 rowPole ⟨rfl, hC.move (by decide)⟩
        simp only [Act.put, List.setIfInBounds_toArray, List.set_cons_succ, List.set_cons_zero]
        repeat (first
          | (refine' R6.WalkR.det (fun _ => rfl) (fun D ρ W hK hC => ?_) ?_
             rotate_left
             · have f2 : W.cell? ⟨wr.heap.size, 2, none⟩ = some (.int .i64 (k : Int)) := by rw [← HX.out.1]; exact cell_of_row W _ 2 _ _ _ hC.box.2.2.2.1
               have HC := Lib.hid hC
               clear hC hK
               go_simp
               first
                 | with_reducible exact ⟨rfl, HC.out.move (by decide)⟩
                 | (go_at_call 25; refine (grArea_any p k hk hs W).mono ?_; rintro e W1 ⟨rfl, hB1⟩; exact ⟨_, rfl, rfl, (HC.out.next hB1).move (by decide)⟩)
                 | (go_at_call 64; refine (grSays_any y (ar p k) HX.out.2.1.1 HX.out.2.1.2 HY.out.2.1 HY.out.2.2 W).mono ?_; rintro e W1 ⟨rfl, hB1⟩; rw [← HX.out.2.2.1]; exact ⟨_, rfl, rfl, (HC.out.next hB1).move (by decide)⟩)
             simp only [Act.put, List.setIfInBounds_toArray, List.set_cons_succ, List.set_cons_zero]))
        obtain ⟨z1, z2⟩ := z
        refine' R6.WalkR.nd (fun _ => rfl) rfl (fun D ρ W hK hC => ?_) ?_
        · have HC := Lib.hid hC
          have h14 := hK.post 14 (by decide +kernel)
          clear hC hK
          unfold sp2
          go_simp
          exact HC.out.made rfl h14
        simp only [Act.put, List.setIfInBounds_toArray, List.set_cons_succ, List.set_cons_zero]
        refine' R6.WalkR.nd (fun _ => rfl) rfl (fun D ρ W hK hC => ?_) ?_
        · have h14 := hK.me
          have h16 := hK.post 16 (by decide +kernel)
          obtain ⟨b, hv, hm⟩ := hC.new (hK.pre 13 (by decide +kernel)) h14
          have hr := hC.rows h14
          have hvv := vals_new hm (lt_of_heap hm)
          refine gives_app2 (.tmp 29) (.tmp 37) 107 rfl (w.heap.size + 4) 38 i0 _ 2 16 Try.underlying107 HI.out.1 HI.out.2.1 HI.out.2.2.1 HI.out.2.2.2 rfl (by decide) rfl (hr.own k hk) hv hvv rfl (sp2_one _) (by have := HL.out; simp only [maxLen]; omega) (by have := HL.out; omega) hC.sz ?_
          intro v' W' ho hgr hx
          exact hC.app hk h14 h16 ho hgr hx
        simp only [Act.put, List.setIfInBounds_toArray, List.set_cons_succ, List.set_cons_zero]
        repeat (first
          | (refine' R6.WalkR.det (fun _ => rfl) (fun D ρ W hK hC => ?_) ?_
             rotate_left
             · skip
               have HC := Lib.hid hC
               clear hC hK
               go_simp
               first
                 | with_reducible exact ⟨rfl, HC.out.move (by decide)⟩
                 | fail
             simp only [Act.put, List.setIfInBounds_toArray, List.set_cons_succ, List.set_cons_zero]))
        refine' R6.WalkR.det (c := undef) (fun _ => rfl) (fun D ρ W hK hC => ?_) ?_
        · have h14 := hK.pre 14 (by decide +kernel)
          obtain ⟨hr, A, n, cc, hsl⟩ := hC.rown h14
          refine gives_store_val 107 (.tmp 39) (.tmp 38) rfl rfl (v := .slice A n cc) hsl rfl rfl (hC.b7o hK.me) (by show k < 3; exact hk) (by kernel_rfl) ?_
          intro W' hP hM'
          rw [v3_set v hk, ← hsl] at hM'
          exact ⟨rfl, by rw [upd_none]; exact hC.put h14 hK.me hP hM'⟩
        simp only [Act.put, List.setIfInBounds_toArray, List.set_cons_succ, List.set_cons_zero]
        refine R6.WalkR.nil (fun D ρ W hD hC => ?_)
        obtain ⟨q1, q2, q3, -⟩ := hC.box
        have HB := Lib.hid (And.intro (show keptK (K3 w.heap.size p g) W from ⟨q1, q2, q3, trivial⟩) (And.intro hC.bel (And.intro (hC.b7n (hD 16 (by omega))) (And.intro (hC.rown (hD 14 (by omega))).1 hC.sz))))
        clear hC hD q1 q2 q3
        go_wp2
        go_roundg gn
        case measure => omega
        case rel =>
          refine ⟨m + 1, _, by omega, by go_num, HB.out.1, HB.out.2.1, HB.out.2.2.1, ?_, HB.out.2.2.2.2⟩
          have e : (fun i => saidL p i (ts.take (m + 1))) = updX (fun i => saidL p i (ts.take m)) k (z1, z2) := by
            funext i
            unfold updX
            rw [HST.out i, HX.out.1]
            by_cases hi : i = k
            · subst hi
              rw [if_pos ⟨HX.out.2.2.2, rfl⟩, if_pos rfl, ← HX.out.2.2.1]
            · rw [if_neg (fun h => hi (by have := h.2; omega)), if_neg hi]
          rw [e]
          exact HB.out.2.2.2.1
      · go_wp2_with (first
          | (show wpList _ _ _ (Oper.mk (some 18) _ _ _ _ _ :: _) _ _
             refine wpList_load_at 78 (.tmp 17) rfl rfl rfl (tcl y) HCC.out rowTest ?_)
          | (show wpList _ _ _ (Oper.mk none (Op.store _ (Operand.tmp 9) (Operand.tmp 18)) _ _ _ _ :: _) _ _
             refine wpList_store_blk 78 (.tmp 9) (.tmp 18) rfl rfl rfl rfl rfl (alloc_at0 wr _) (Nat.le_of_ble_eq_true rfl) (fun v hv => tcl_one [y] v (by simpa using hv)) rowTest ?_
             intro w5 hP5 hM5
             rw [splice_whole (by rfl)] at hM5
             have hb5 : Below wr.heap.size wr w5 := (grow1 wr _).trans (hP5.below (Nat.le_refl _))
             have hk5 := hM.out.1.next hb5
             have f1 : w5.cell? ⟨wr.heap.size, 1, none⟩ = some (.int .i64 y.pole) := cell_of_row w5 _ 1 _ _ _ hM5
             have f0 : w5.cell? ⟨w.heap.size, 0, none⟩ = some (.int .i64 p.id) := cell_of_row w5 _ 0 _ _ _ hk5.1
             have H5 := Lib.hid (And.intro hb5 hk5)
             clear hP5 hM5 hb5 hk5))
        go_roundg gn
        case measure => omega
        case rel =>
          refine ⟨m + 1, v, by omega, by go_num, H5.out.2, hM.out.2.1.trans (H5.out.1.mono hM.out.2.1.size), (H5.out.1.block _ (lt_of_heap hM.out.2.2.1)).trans hM.out.2.2.1, ?_, Nat.le_trans hM.out.2.2.2.2 H5.out.1.size⟩
          have e : (fun i => saidL p i (ts.take (m + 1))) = fun i => saidL p i (ts.take m) := by
            funext i
            rw [HST.out i, if_neg (fun h => he h.1)]
          rw [e]
          exact hM.out.2.2.2.1.grows H5.out.1

end Go.Proofs.Ytboffligjgjgjaa
