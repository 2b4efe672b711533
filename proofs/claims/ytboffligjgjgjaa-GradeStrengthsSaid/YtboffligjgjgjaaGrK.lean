/-
  The grade of a pole (the program's).
-/
import Derived.Test.YtboffligjgjgjaaGrJ
import Derived.Lib.MinMax
namespace Go.Proofs.Ytboffligjgjgjaa
open Go.RowKit
open R6 (done done_ne done_me upd_ne upd_me)

attribute [local go_sem] gives

def mn3 (a b c : Int) (k : Nat) : Int := if k = 1 then a else if k = 2 then min a b else min (min a b) c

set_option maxHeartbeats 2000000 in
theorem grMin3_any (a b c : Int) (A : Option Addr) (cap : Nat) (B : Nat) (w : World) (hB : B ≤ w.heap.size) (hz : Ints w B A [a, b, c]) :
    Calls Try.prog 36 #[.slice A 3 cap] w fun e w' => e = .returned (.int .i64 (min (min a b) c)) ∧ w = w' := by
  obtain ⟨d, off, hA, hd, hc⟩ := hz (by simp)
  subst hA
  have h0 := hc 0 (by simp)
  have h1 := hc 1 (by simp)
  have h2 := hc 2 (by simp)
  simp only [List.getElem?_cons_zero, List.getElem?_cons_succ, Option.getD_some, Nat.add_zero] at h0 h1 h2
  have hm3 : min (min a b) c = mn3 a b c 3 := rfl
  rw [hm3]
  have H := Lib.hid (And.intro h1 h2)
  clear hz hc h1 h2
  go_enter Try.func36, Try.ntmps36
  go_wp2
  clear h0
  go_loopg [3, 4] 2 (fun gn s3 s4 wx => ∃ k : Nat, k + gn = 3 ∧ 1 ≤ k ∧ s4 = .int .i64 k ∧ s3 = .int .i64 (mn3 a b c k) ∧ wx = w)
  case atStart => exact ⟨1, by omega, by omega, rfl, rfl, rfl⟩
  case round =>
    obtain ⟨k, hkg, hk1, rfl, rfl, rfl⟩ := hrel
    cases gk with
    | zero =>
      obtain rfl : k = 3 := by omega
      go_wp2
      go_ret
      exact ⟨rfl, rfl⟩
    | succ gn =>
      have hk : k = 1 ∨ k = 2 := by omega
      rcases hk with rfl | rfl
      · have hx := H.out.1
        generalize hm : mn3 a b c 1 = m
        have HM := Lib.hid hm
        clear hm
        go_wp2
        go_roundg gn
        case measure => omega
        case rel => exact ⟨2, by omega, by omega, by go_num, by rw [← HM.out]; rfl, rfl⟩
      · have hx := H.out.2
        generalize hm : mn3 a b c 2 = m
        have HM := Lib.hid hm
        clear hm
        go_wp2
        go_roundg gn
        case measure => omega
        case rel => exact ⟨3, by omega, by omega, by go_num, by rw [← HM.out]; rfl, rfl⟩

theorem fitG_min (p : Pol) (g : Gd) : fitG p g = (decide (g.age ≤ p.cut - p.shot) && decide (g.wall ≤ min (min p.w0 p.w1) p.w2)) := by
  unfold fitG
  rw [Bool.eq_iff_iff]
  simp only [Bool.and_eq_true, decide_eq_true_eq]
  omega
/-- The numbers of a pole that its grade takes are not great. -/
def yrs (p : Pol) : Prop := (0 ≤ p.shot ∧ p.shot ≤ 3000) ∧ (0 ≤ p.cut ∧ p.cut ≤ 3000)
theorem okPol_yrs {p : Pol} (h : okPol p = true) : yrs p := by
  simp only [okPol, Bool.and_eq_true, inR_iff, decide_eq_true_eq] at h
  obtain ⟨_, ⟨h1, h2⟩, _⟩ := h
  exact ⟨h1, h2⟩
theorem gOfL_step (p : Pol) (gs : List Gd) (k b : Nat) (hk : k < gs.length) : gOfL p (gs.drop k) k b = gOfL p (gs.drop (k + 1)) (k + 1) (if fitG p gs[k] = true then k + 1 else b) := by
  rw [List.drop_eq_getElem_cons hk]; rfl

set_option maxRecDepth 100000 in
set_option maxHeartbeats 8000000 in
theorem grGradeOf_any (gs : List Gd) (vary : Int) (p : Pol) (AP : Option Addr) (np cp : Nat) (AT : Option Addr) (nt ct : Nat) (AG : Option Addr) (cg : Nat) (B : Nat) (w : World) (hB : B ≤ w.heap.size) (hg : GdAt w B gs AG) (hp : yrs p) :
    Calls Try.prog 19 #[.agg #[.slice AP np cp, .slice AT nt ct, .slice AG gs.length cg, .int .i64 vary], .agg (pcl p).toArray] w
      fun e w' => e = .returned (.int .i64 (gOf gs p : Nat)) ∧ Below w.heap.size w w' := by
  obtain ⟨⟨s0, s1⟩, ⟨t0, t1⟩⟩ := hp
  have hlg := hg.lg
  obtain ⟨w1, hw1⟩ : ∃ w1, (w.alloc (.cells #[.slice AP np cp, .slice AT nt ct, .slice AG gs.length cg, .int .i64 vary] 55)).alloc (.cells (pcl p).toArray 58) = w1 := ⟨_, rfl⟩
  have hb1 : Below w.heap.size w w1 := by rw [← hw1]; exact grow2 _ _ _
  have hm1 : w1.heap[w.heap.size]? = some (.cells #[.slice AP np cp, .slice AT nt ct, .slice AG gs.length cg, .int .i64 vary] 55 (0, 0)) := by rw [← hw1]; exact alloc2_at0 _ _ _
  have hm2 : w1.heap[w.heap.size + 1]? = some (.cells (pcl p).toArray 58 (0, 0)) := by rw [← hw1]; exact alloc2_at1 _ _ _
  have hc1 := fun i => cell_of_row w1 w.heap.size i _ _ _ hm1
  have hs1 : w1.heap.size = w.heap.size + 2 := by rw [← hw1]; simp
  have hwr : IntKind.i64.wrap (p.cut - p.shot) = p.cut - p.shot := IntWalk.i64_in _ (by omega)
  have HWR := Lib.hid hwr
  have HG := Lib.hid (And.intro hg hB)
  have H1 := Lib.hid (And.intro hb1 (And.intro hm2 hs1))
  clear hg hb1 hm1 hm2 hs1 hwr
  go_enter Try.func19, Try.ntmps19
  go_wp2
  clear hc1
  go_loopg [5, 12] gs.length (fun gg s5 s12 wx => ∃ (k b : Nat), k + gg = gs.length ∧ s12 = .int .i64 k ∧ s5 = .int .i64 b ∧ b ≤ k ∧ Hid (gOfL p (gs.drop k) k b = gOf gs p) ∧ Hid (Below w1.heap.size w1 wx))
  case atStart => exact ⟨0, 0, by omega, rfl, rfl, Nat.le_refl _, rfl, Below.refl _ _⟩
  case round =>
    obtain ⟨k, b, hkg, rfl, rfl, hbk, hI, hM⟩ := hrel
    cases gk with
    | zero =>
      have hI' := hI.out
      obtain rfl : k = gs.length := by omega
      rw [List.drop_length] at hI'
      have HI := Lib.hid hI'
      clear hI'
      go_wp2
      go_ret
      exact ⟨by rw [← HI.out]; rfl, H1.out.1.trans (hM.out.mono H1.out.1.size)⟩
    | succ gg =>
      have hk : k < gs.length := by omega
      have hkz : (k : Int) < gs.length := by omega
      obtain ⟨c, off, hA, hcB, hc⟩ := vals_elem gcl_len HG.out.1.g (by decide) hk
      subst hA
      have hbr := H1.out.1.trans (hM.out.mono H1.out.1.size)
      have hc' : ∀ j v, (gcl gs[k])[j]? = some v → wr.cell? ⟨c, off + k * 8 + j, none⟩ = some v := fun j v hv => (hbr.cell (p := ⟨c, off + k * 8 + j, none⟩) (by have := HG.out.2; simp; omega)).trans (hc j v hv)
      have hst := gOfL_step p gs k b hk
      rw [hI.out, fitG_min] at hst
      have hpr := (hM.out.block _ (lt_of_heap H1.out.2.1)).trans H1.out.2.1
      generalize gs[k] = y at hc' hst
      have HST := Lib.hid hst
      have HCC := Lib.hid hc'
      have HPR := Lib.hid (And.intro hpr hbr)
      clear hc hc' hst hpr hbr
      have hmin := Lib.hid (fun (W : World) (hW : W.heap[w.heap.size + 1]? = some (.cells (pcl p).toArray 58 (0, 0))) => grMin3_any p.w0 p.w1 p.w2 (some ⟨w.heap.size + 1, 7, none⟩) 3 _ W (Nat.le_refl _) (fun _ => ⟨w.heap.size + 1, 7, rfl, lt_of_heap hW, fun j hj => by
        rw [cell_of_row W (w.heap.size + 1) (7 + j) _ _ _ hW]
        match j, hj with
        | 0, _ => rfl
        | 1, _ => rfl
        | 2, _ => rfl⟩))
      generalize min (min p.w0 p.w1) p.w2 = m at hmin HST
      have ld := fun (Q : Prop) (h : Q) => h
      clear ld
      cases q1 : decide (y.age ≤ p.cut - p.shot)
      · rw [q1] at HST
        have HQ := Lib.hid q1
        clear q1
        go_wp2_with (first
          | (show wpList _ _ _ (Oper.mk (some 16) _ _ _ _ _ :: _) _ _
             refine wpList_load_at 82 (.tmp 15) rfl rfl rfl (gcl y) HCC.out rowGrade ?_)
          | (show wpList _ _ _ (Oper.mk none (Op.store _ (Operand.tmp 7) (Operand.tmp 16)) _ _ _ _ :: _) _ _
             refine wpList_store_blk 82 (.tmp 7) (.tmp 16) rfl rfl rfl rfl rfl (alloc_at0 wr _) (Nat.le_of_ble_eq_true rfl) (fun v hv => gcl_one [y] v (by simpa using hv)) rowGrade ?_
             intro w5 hP5 hM5
             rw [splice_whole (by rfl)] at hM5
             have hb5 : Below wr.heap.size wr w5 := (grow1 wr _).trans (hP5.below (Nat.le_refl _))
             have H5 := Lib.hid (And.intro hb5 (And.intro hM5 ((hb5.block _ (lt_of_heap HPR.out.1)).trans HPR.out.1)))
             clear hP5 hM5 hb5))
        refine R6.wp_walk (C := BoxM wr [(wr.heap.size, .cells (gcl y).toArray 82), (w.heap.size + 1, .cells (pcl p).toArray 58)] [] (fun _ => [])) 37 (by kernel_rfl) (by kernel_rfl) rfl (BoxM.start H5.out.1 ⟨H5.out.2.1, H5.out.2.2, trivial⟩ (fun _ => rfl)) ?_
        simp only []
        repeat (first
          | (refine R6.WalkR.un (fun _ => rfl) (fun D ρ W hK hC => hC.move (by decide)) ?_
             simp only [Act.put, List.setIfInBounds_toArray, List.set_cons_succ, List.set_cons_zero])
          | (refine' R6.WalkR.det (fun _ => rfl) (fun D ρ W hK hC => ?_) ?_
             rotate_left
             · have f0 : W.cell? ⟨wr.heap.size, 0, none⟩ = some (.int .i64 y.age) := cell_of_row W _ 0 _ _ _ hC.box.1
               have f1 : W.cell? ⟨w.heap.size + 1, 2, none⟩ = some (.int .i64 p.cut) := cell_of_row W _ 2 _ _ _ hC.box.2.1
               have f2 : W.cell? ⟨w.heap.size + 1, 3, none⟩ = some (.int .i64 p.shot) := cell_of_row W _ 3 _ _ _ hC.box.2.1
               have q1 := HQ.out
               have hwr := HWR.out
               have HC := Lib.hid hC
               clear hC hK
               go_simp
               first
                 | with_reducible exact ⟨rfl, HC.out.move (by decide)⟩
                 | fail
             simp only [Act.put, List.setIfInBounds_toArray, List.set_cons_succ, List.set_cons_zero]))
        refine R6.WalkR.nil (fun D ρ W hD hC => ?_)
        have HB := Lib.hid hC.bel
        clear hC hD
        go_wp2
        go_roundg gg
        case measure => omega
        case rel => exact ⟨k + 1, b, by omega, by go_num, rfl, by omega, by rw [HST.out]; rfl, hM.out.trans (HB.out.mono hM.out.size)⟩
      · cases q2 : decide (y.wall ≤ m)
        all_goals
          rw [q1, q2] at HST
          have HQ := Lib.hid (And.intro q1 q2)
          clear q1 q2
          go_wp2_with (first
            | (show wpList _ _ _ (Oper.mk (some 16) _ _ _ _ _ :: _) _ _
               refine wpList_load_at 82 (.tmp 15) rfl rfl rfl (gcl y) HCC.out rowGrade ?_)
            | (show wpList _ _ _ (Oper.mk none (Op.store _ (Operand.tmp 7) (Operand.tmp 16)) _ _ _ _ :: _) _ _
               refine wpList_store_blk 82 (.tmp 7) (.tmp 16) rfl rfl rfl rfl rfl (alloc_at0 wr _) (Nat.le_of_ble_eq_true rfl) (fun v hv => gcl_one [y] v (by simpa using hv)) rowGrade ?_
               intro w5 hP5 hM5
               rw [splice_whole (by rfl)] at hM5
               have hb5 : Below wr.heap.size wr w5 := (grow1 wr _).trans (hP5.below (Nat.le_refl _))
               have H5 := Lib.hid (And.intro hb5 (And.intro hM5 ((hb5.block _ (lt_of_heap HPR.out.1)).trans HPR.out.1)))
               clear hP5 hM5 hb5))
          refine R6.wp_walk (C := BoxM wr [(wr.heap.size, .cells (gcl y).toArray 82), (w.heap.size + 1, .cells (pcl p).toArray 58)] [] (fun _ => [])) 37 (by kernel_rfl) (by kernel_rfl) rfl (BoxM.start H5.out.1 ⟨H5.out.2.1, H5.out.2.2, trivial⟩ (fun _ => rfl)) ?_
          simp only []
          repeat (first
            | (refine' R6.WalkR.det (fun _ => rfl) (fun D ρ W hK hC => ?_) ?_
               rotate_left
               · have f0 : W.cell? ⟨wr.heap.size, 0, none⟩ = some (.int .i64 y.age) := cell_of_row W _ 0 _ _ _ hC.box.1
                 have f3 : W.cell? ⟨wr.heap.size, 1, none⟩ = some (.int .i64 y.wall) := cell_of_row W _ 1 _ _ _ hC.box.1
                 have f1 : W.cell? ⟨w.heap.size + 1, 2, none⟩ = some (.int .i64 p.cut) := cell_of_row W _ 2 _ _ _ hC.box.2.1
                 have f2 : W.cell? ⟨w.heap.size + 1, 3, none⟩ = some (.int .i64 p.shot) := cell_of_row W _ 3 _ _ _ hC.box.2.1
                 have q1 := HQ.out.1
                 have q2 := HQ.out.2
                 have hwr := HWR.out
                 have HC := Lib.hid hC
                 clear hC hK
                 go_simp
                 first
                   | with_reducible exact ⟨rfl, HC.out.move (by decide)⟩
                   | (go_at_call 36; refine (hmin.out W HC.out.box.2.1).mono ?_; rintro e W1 ⟨rfl, rfl⟩; exact ⟨_, rfl, rfl, HC.out.move (by decide)⟩)
               simp only [Act.put, List.setIfInBounds_toArray, List.set_cons_succ, List.set_cons_zero]))
          refine R6.WalkR.nil (fun D ρ W hD hC => ?_)
          have HB := Lib.hid hC.bel
          clear hC hD
          go_wp2
          go_roundg gg
        · exact ⟨k + 1, b, by omega, by go_num, rfl, by omega, by rw [HST.out]; rfl, hM.out.trans (HB.out.mono hM.out.size)⟩
        · omega
        · exact ⟨k + 1, k + 1, by omega, by go_num, by go_num, by omega, by rw [HST.out]; rfl, hM.out.trans (HB.out.mono hM.out.size)⟩
        · omega

end Go.Proofs.Ytboffligjgjgjaa
