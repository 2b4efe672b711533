/-
  The small functions of the reference: within, At, Of, Area.
-/
import Derived.Test.YtboffligjgjgjaaGrL
import Derived.BigGuardPart
namespace Go.Proofs.Ytboffligjgjgjaa
open Go.RowKit Go.BigFrame
open R6 (done done_ne done_me upd_ne upd_me)

attribute [local go_sem] gives

theorem rfWithin_any (n lo hi : Int) (w : World) : Calls Try.prog 26 #[.int .i64 n, .int .i64 lo, .int .i64 hi] w fun e w' => e = .returned (.bool (inR n lo hi)) ∧ w = w' := by
  by_cases h1 : lo ≤ n
  · by_cases h2 : n ≤ hi
    · have e : inR n lo hi = true := inR_iff.2 ⟨h1, h2⟩
      rw [e]
      clear e
      go_enter Try.func26, Try.ntmps26
      go_wp2
      go_ret
      exact ⟨rfl, rfl⟩
    · have e : inR n lo hi = false := by simp [inR, h2]
      rw [e]
      clear e
      go_enter Try.func26, Try.ntmps26
      go_wp2
      go_ret
      exact ⟨rfl, rfl⟩
  · have e : inR n lo hi = false := by simp [inR, h1]
    rw [e]
    clear e
    go_enter Try.func26, Try.ntmps26
    go_wp2
    go_ret
    exact ⟨rfl, rfl⟩

set_option maxRecDepth 100000 in
set_option maxHeartbeats 4000000 in
theorem rfAt_any (ps : List Pol) (id : Int) (AP : Option Addr) (cp : Nat) (AT : Option Addr) (nt ct : Nat) (B : Nat) (w : World) (hB : B ≤ w.heap.size) (hz : Vals w B AP (ps.flatMap pcl)) (hl : ps.length ≤ 1000000) :
    Calls Try.prog 20 #[.agg #[.slice AP ps.length cp, .slice AT nt ct], .int .i64 id] w fun e w' => e = .returned (.int .i64 (idxL (fun p : Pol => decide (p.id = id)) ps 0)) ∧ Below w.heap.size w w' := by
  obtain ⟨w1, hw1⟩ : ∃ w1, w.alloc (.cells #[.slice AP ps.length cp, .slice AT nt ct] 25) = w1 := ⟨_, rfl⟩
  have hb1 : Below w.heap.size w w1 := by rw [← hw1]; exact grow1 _ _
  have hm1 : w1.heap[w.heap.size]? = some (.cells #[.slice AP ps.length cp, .slice AT nt ct] 25 (0, 0)) := by rw [← hw1]; exact alloc_at0 _ _
  have hc1 := fun i => cell_of_row w1 w.heap.size i _ _ _ hm1
  have hc0 := hc1 0
  obtain ⟨P, hP⟩ : ∃ P : Pol → Bool, P = fun p => decide (p.id = id) := ⟨_, rfl⟩
  rw [← hP]
  have HPP := Lib.hid hP
  have HZ := Lib.hid (And.intro hz hb1)
  clear hz hb1 hm1 hP hc1
  go_enter Try.func20, Try.ntmps20
  go_wp2
  go_loopg [5] ps.length (fun gg s5 wx => ∃ k : Nat, k + gg = ps.length ∧ s5 = .int .i64 k ∧ Hid (idxL P (ps.drop k) k = idxL P ps 0) ∧ wx = w1)
  case atStart => exact ⟨0, by omega, rfl, rfl, rfl⟩
  case round =>
    obtain ⟨k, hkg, rfl, hI, rfl⟩ := hrel
    cases gk with
    | zero =>
      have hI' := hI.out
      obtain rfl : k = ps.length := by omega
      rw [List.drop_length] at hI'
      have HI := Lib.hid hI'
      clear hI'
      go_wp2
      go_ret
      exact ⟨by rw [← HI.out]; rfl, HZ.out.2⟩
    | succ gg =>
      have hk : k < ps.length := by omega
      have hkz : (k : Int) < ps.length := by omega
      obtain ⟨c, off, hA, hcB, hc⟩ := vals_elem pcl_len HZ.out.1 (by decide) hk
      subst hA
      have hst := idxL_step (P := P) hk
      rw [hI.out] at hst
      have hcy : wr.cell? ⟨c, off + k * 12, none⟩ = some (.int .i64 ps[k].id) := (HZ.out.2.cell (p := ⟨c, off + k * 12, none⟩) (by simp; omega)).trans (hc 0 _ rfl)
      have hpp := congrFun HPP.out ps[k]
      generalize ps[k] = y at hcy hst hpp
      have HST := Lib.hid hst
      clear hc hst
      by_cases he : y.id = id
      · have e : P y = true := by rw [hpp]; simpa using he
        have HE := Lib.hid e
        clear e hpp
        go_wp2
        go_ret
        exact ⟨by rw [HST.out, HE.out]; rfl, HZ.out.2⟩
      · have e : P y = false := by rw [hpp]; simpa using he
        have HE := Lib.hid e
        clear e hpp
        go_wp2
        go_roundg gg
        case measure => omega
        case rel => exact ⟨k + 1, by omega, by go_num, by rw [HST.out, HE.out]; rfl, rfl⟩

set_option maxRecDepth 100000 in
set_option maxHeartbeats 8000000 in
theorem rfOf_any (gs : List Gd) (vary : Int) (p : Pol) (AG : Option Addr) (cg : Nat) (B : Nat) (w : World) (hB : B ≤ w.heap.size) (hg : GdAt w B gs AG) (hp : yrs p) :
    Calls Try.prog 21 #[.agg #[.slice AG gs.length cg, .int .i64 vary], .agg (pcl p).toArray] w fun e w' => e = .returned (.int .i64 (gOf gs p : Nat)) ∧ Below w.heap.size w w' := by
  obtain ⟨⟨s0, s1⟩, ⟨t0, t1⟩⟩ := hp
  have hlg := hg.lg
  obtain ⟨w1, hw1⟩ : ∃ w1, (w.alloc (.cells #[.slice AG gs.length cg, .int .i64 vary] 28)).alloc (.cells (pcl p).toArray 58) = w1 := ⟨_, rfl⟩
  have hb1 : Below w.heap.size w w1 := by rw [← hw1]; exact grow2 _ _ _
  have hm1 : w1.heap[w.heap.size]? = some (.cells #[.slice AG gs.length cg, .int .i64 vary] 28 (0, 0)) := by rw [← hw1]; exact alloc2_at0 _ _ _
  have hm2 : w1.heap[w.heap.size + 1]? = some (.cells (pcl p).toArray 58 (0, 0)) := by rw [← hw1]; exact alloc2_at1 _ _ _
  have hc1 : w1.cell? ⟨w.heap.size, 0, none⟩ = some (.slice AG gs.length cg) := cell_of_row w1 _ 0 _ _ _ hm1
  have hs1 : w1.heap.size = w.heap.size + 2 := by rw [← hw1]; simp
  have HG := Lib.hid (And.intro hg hB)
  have H1 := Lib.hid (And.intro hb1 (And.intro hm2 (And.intro hm1 hs1)))
  clear hg hb1 hm1 hm2 hs1
  go_enter Try.func21, Try.ntmps21
  go_wp2
  clear hc1
  go_loopg [5, 6] gs.length (fun gg s5 s6 wx => ∃ (k b : Nat), k + gg = gs.length ∧ s6 = .int .i64 k ∧ s5 = .int .i64 b ∧ b ≤ k ∧ Hid (gOfL p (gs.drop k) k b = gOf gs p) ∧ Hid (Below w1.heap.size w1 wx))
  case atStart => exact ⟨0, 0, by omega, rfl, rfl, Nat.le_refl _, rfl, Below.refl _ _⟩
  case round =>
    obtain ⟨k, b, hkg, rfl, rfl, hbk, hI, hM⟩ := hrel
    have hcr : wr.cell? ⟨w.heap.size, 0, none⟩ = some (.slice AG gs.length cg) := cell_of_row wr _ 0 _ _ _ ((hM.out.block _ (lt_of_heap H1.out.2.2.1)).trans H1.out.2.2.1)
    cases gk with
    | zero =>
      have hI' := hI.out
      obtain rfl : k = gs.length := by omega
      rw [List.drop_length] at hI'
      have HI := Lib.hid hI'
      clear hI'
      go_wp2
      go_ret
      exact ⟨by rw [← HI.out]; rfl, H1.out.1.trans (hM.out.mono H1.out.1.size)⟩
    | succ gg =>
      have hk : k < gs.length := by omega
      have hkz : (k : Int) < gs.length := by omega
      obtain ⟨c, off, hA, hcB, hc⟩ := vals_elem gcl_len HG.out.1.g (by decide) hk
      subst hA
      have hbr := H1.out.1.trans (hM.out.mono H1.out.1.size)
      have hc' : ∀ j v, (gcl gs[k])[j]? = some v → wr.cell? ⟨c, off + k * 8 + j, none⟩ = some v := fun j v hv => (hbr.cell (p := ⟨c, off + k * 8 + j, none⟩) (by have := HG.out.2; simp; omega)).trans (hc j v hv)
      have hst := gOfL_step p gs k b hk
      rw [hI.out] at hst
      have hpr := (hM.out.block _ (lt_of_heap H1.out.2.1)).trans H1.out.2.1
      generalize gs[k] = y at hc' hst
      unfold fitG at hst
      have HST := Lib.hid hst
      have HCC := Lib.hid hc'
      have HPR := Lib.hid (And.intro hpr hbr)
      clear hc hc' hst hpr hbr
      have arm : True := trivial
      clear arm
      by_cases q1 : y.age ≤ p.cut - p.shot
      · by_cases q2 : y.wall ≤ p.w0
        · by_cases q3 : y.wall ≤ p.w1
          · by_cases q4 : y.wall ≤ p.w2
            all_goals
              have HQ := Lib.hid (And.intro q1 (And.intro q2 (And.intro q3 q4)))
              go_wp2_with (first
                | go_big_skip
                | (show wpList _ _ _ (Oper.mk (some 19) _ _ _ _ _ :: _) _ _
                   refine wpList_load_at 82 (.tmp 18) rfl rfl rfl (gcl y) HCC.out rowGrade ?_)
                | (show wpList _ _ _ (Oper.mk none (Op.store _ (Operand.tmp 7) (Operand.tmp 19)) _ _ _ _ :: _) _ _
                   refine wpList_store_blk 82 (.tmp 7) (.tmp 19) rfl rfl rfl rfl rfl (alloc_at0 wr _) (Nat.le_of_ble_eq_true rfl) (fun v hv => gcl_one [y] v (by simpa using hv)) rowGrade ?_
                   intro w5 hP5 hM5
                   rw [splice_whole (by rfl)] at hM5
                   have hb5 : Below wr.heap.size wr w5 := (grow1 wr _).trans (hP5.below (Nat.le_refl _))
                   have hp5 := (hb5.block _ (lt_of_heap HPR.out.1)).trans HPR.out.1
                   have f0 : w5.cell? ⟨wr.heap.size, 0, none⟩ = some (.int .i64 y.age) := cell_of_row w5 _ 0 _ _ _ hM5
                   have f1 : w5.cell? ⟨wr.heap.size, 1, none⟩ = some (.int .i64 y.wall) := cell_of_row w5 _ 1 _ _ _ hM5
                   have f2 : w5.cell? ⟨w.heap.size + 1, 2, none⟩ = some (.int .i64 p.cut) := cell_of_row w5 _ 2 _ _ _ hp5
                   have f3 : w5.cell? ⟨w.heap.size + 1, 3, none⟩ = some (.int .i64 p.shot) := cell_of_row w5 _ 3 _ _ _ hp5
                   have f7 : w5.cell? ⟨w.heap.size + 1, 7, none⟩ = some (.int .i64 p.w0) := cell_of_row w5 _ 7 _ _ _ hp5
                   have f8 : w5.cell? ⟨w.heap.size + 1, 8, none⟩ = some (.int .i64 p.w1) := cell_of_row w5 _ 8 _ _ _ hp5
                   have f9 : w5.cell? ⟨w.heap.size + 1, 9, none⟩ = some (.int .i64 p.w2) := cell_of_row w5 _ 9 _ _ _ hp5
                   have H5 := Lib.hid hb5
                   clear hP5 hM5 hb5 hp5 hcr))
            · go_roundg gg
              case measure => omega
              case rel => exact ⟨k + 1, k + 1, by omega, by go_num, by go_num, by omega, by rw [HST.out, if_pos (by rw [decide_eq_true HQ.out.1, decide_eq_true HQ.out.2.1, decide_eq_true HQ.out.2.2.1, decide_eq_true HQ.out.2.2.2]; rfl)]; rfl, hM.out.trans (H5.out.mono hM.out.size)⟩
            · go_roundg gg
              case measure => omega
              case rel => exact ⟨k + 1, b, by omega, by go_num, rfl, by omega, by rw [HST.out, if_neg (by rw [decide_eq_true HQ.out.1, decide_eq_true HQ.out.2.1, decide_eq_true HQ.out.2.2.1, decide_eq_false (Int.not_le.2 HQ.out.2.2.2)]; decide)]; rfl, hM.out.trans (H5.out.mono hM.out.size)⟩
          · have HQ := Lib.hid (And.intro q1 (And.intro q2 q3))
            go_wp2_with (first
              | go_big_skip
              | (show wpList _ _ _ (Oper.mk (some 19) _ _ _ _ _ :: _) _ _
                 refine wpList_load_at 82 (.tmp 18) rfl rfl rfl (gcl y) HCC.out rowGrade ?_)
              | (show wpList _ _ _ (Oper.mk none (Op.store _ (Operand.tmp 7) (Operand.tmp 19)) _ _ _ _ :: _) _ _
                 refine wpList_store_blk 82 (.tmp 7) (.tmp 19) rfl rfl rfl rfl rfl (alloc_at0 wr _) (Nat.le_of_ble_eq_true rfl) (fun v hv => gcl_one [y] v (by simpa using hv)) rowGrade ?_
                 intro w5 hP5 hM5
                 rw [splice_whole (by rfl)] at hM5
                 have hb5 : Below wr.heap.size wr w5 := (grow1 wr _).trans (hP5.below (Nat.le_refl _))
                 have hp5 := (hb5.block _ (lt_of_heap HPR.out.1)).trans HPR.out.1
                 have f0 : w5.cell? ⟨wr.heap.size, 0, none⟩ = some (.int .i64 y.age) := cell_of_row w5 _ 0 _ _ _ hM5
                 have f1 : w5.cell? ⟨wr.heap.size, 1, none⟩ = some (.int .i64 y.wall) := cell_of_row w5 _ 1 _ _ _ hM5
                 have f2 : w5.cell? ⟨w.heap.size + 1, 2, none⟩ = some (.int .i64 p.cut) := cell_of_row w5 _ 2 _ _ _ hp5
                 have f3 : w5.cell? ⟨w.heap.size + 1, 3, none⟩ = some (.int .i64 p.shot) := cell_of_row w5 _ 3 _ _ _ hp5
                 have f7 : w5.cell? ⟨w.heap.size + 1, 7, none⟩ = some (.int .i64 p.w0) := cell_of_row w5 _ 7 _ _ _ hp5
                 have f8 : w5.cell? ⟨w.heap.size + 1, 8, none⟩ = some (.int .i64 p.w1) := cell_of_row w5 _ 8 _ _ _ hp5
                 have f9 : w5.cell? ⟨w.heap.size + 1, 9, none⟩ = some (.int .i64 p.w2) := cell_of_row w5 _ 9 _ _ _ hp5
                 have H5 := Lib.hid hb5
                 clear hP5 hM5 hb5 hp5 hcr))
            go_roundg gg
            case measure => omega
            case rel => exact ⟨k + 1, b, by omega, by go_num, rfl, by omega, by rw [HST.out, if_neg (by rw [decide_eq_true HQ.out.1, decide_eq_true HQ.out.2.1, decide_eq_false (Int.not_le.2 HQ.out.2.2)]; simp)]; rfl, hM.out.trans (H5.out.mono hM.out.size)⟩
        · have HQ := Lib.hid (And.intro q1 q2)
          go_wp2_with (first
            | go_big_skip
            | (show wpList _ _ _ (Oper.mk (some 19) _ _ _ _ _ :: _) _ _
               refine wpList_load_at 82 (.tmp 18) rfl rfl rfl (gcl y) HCC.out rowGrade ?_)
            | (show wpList _ _ _ (Oper.mk none (Op.store _ (Operand.tmp 7) (Operand.tmp 19)) _ _ _ _ :: _) _ _
               refine wpList_store_blk 82 (.tmp 7) (.tmp 19) rfl rfl rfl rfl rfl (alloc_at0 wr _) (Nat.le_of_ble_eq_true rfl) (fun v hv => gcl_one [y] v (by simpa using hv)) rowGrade ?_
               intro w5 hP5 hM5
               rw [splice_whole (by rfl)] at hM5
               have hb5 : Below wr.heap.size wr w5 := (grow1 wr _).trans (hP5.below (Nat.le_refl _))
               have hp5 := (hb5.block _ (lt_of_heap HPR.out.1)).trans HPR.out.1
               have f0 : w5.cell? ⟨wr.heap.size, 0, none⟩ = some (.int .i64 y.age) := cell_of_row w5 _ 0 _ _ _ hM5
               have f1 : w5.cell? ⟨wr.heap.size, 1, none⟩ = some (.int .i64 y.wall) := cell_of_row w5 _ 1 _ _ _ hM5
               have f2 : w5.cell? ⟨w.heap.size + 1, 2, none⟩ = some (.int .i64 p.cut) := cell_of_row w5 _ 2 _ _ _ hp5
               have f3 : w5.cell? ⟨w.heap.size + 1, 3, none⟩ = some (.int .i64 p.shot) := cell_of_row w5 _ 3 _ _ _ hp5
               have f7 : w5.cell? ⟨w.heap.size + 1, 7, none⟩ = some (.int .i64 p.w0) := cell_of_row w5 _ 7 _ _ _ hp5
               have f8 : w5.cell? ⟨w.heap.size + 1, 8, none⟩ = some (.int .i64 p.w1) := cell_of_row w5 _ 8 _ _ _ hp5
               have f9 : w5.cell? ⟨w.heap.size + 1, 9, none⟩ = some (.int .i64 p.w2) := cell_of_row w5 _ 9 _ _ _ hp5
               have H5 := Lib.hid hb5
               clear hP5 hM5 hb5 hp5 hcr))
          go_roundg gg
          case measure => omega
          case rel => exact ⟨k + 1, b, by omega, by go_num, rfl, by omega, by rw [HST.out, if_neg (by rw [decide_eq_true HQ.out.1, decide_eq_false (Int.not_le.2 HQ.out.2)]; simp)]; rfl, hM.out.trans (H5.out.mono hM.out.size)⟩
      · have HQ := Lib.hid q1
        go_wp2_with (first
          | go_big_skip
          | (show wpList _ _ _ (Oper.mk (some 19) _ _ _ _ _ :: _) _ _
             refine wpList_load_at 82 (.tmp 18) rfl rfl rfl (gcl y) HCC.out rowGrade ?_)
          | (show wpList _ _ _ (Oper.mk none (Op.store _ (Operand.tmp 7) (Operand.tmp 19)) _ _ _ _ :: _) _ _
             refine wpList_store_blk 82 (.tmp 7) (.tmp 19) rfl rfl rfl rfl rfl (alloc_at0 wr _) (Nat.le_of_ble_eq_true rfl) (fun v hv => gcl_one [y] v (by simpa using hv)) rowGrade ?_
             intro w5 hP5 hM5
             rw [splice_whole (by rfl)] at hM5
             have hb5 : Below wr.heap.size wr w5 := (grow1 wr _).trans (hP5.below (Nat.le_refl _))
             have hp5 := (hb5.block _ (lt_of_heap HPR.out.1)).trans HPR.out.1
             have f0 : w5.cell? ⟨wr.heap.size, 0, none⟩ = some (.int .i64 y.age) := cell_of_row w5 _ 0 _ _ _ hM5
             have f1 : w5.cell? ⟨wr.heap.size, 1, none⟩ = some (.int .i64 y.wall) := cell_of_row w5 _ 1 _ _ _ hM5
             have f2 : w5.cell? ⟨w.heap.size + 1, 2, none⟩ = some (.int .i64 p.cut) := cell_of_row w5 _ 2 _ _ _ hp5
             have f3 : w5.cell? ⟨w.heap.size + 1, 3, none⟩ = some (.int .i64 p.shot) := cell_of_row w5 _ 3 _ _ _ hp5
             have f7 : w5.cell? ⟨w.heap.size + 1, 7, none⟩ = some (.int .i64 p.w0) := cell_of_row w5 _ 7 _ _ _ hp5
             have f8 : w5.cell? ⟨w.heap.size + 1, 8, none⟩ = some (.int .i64 p.w1) := cell_of_row w5 _ 8 _ _ _ hp5
             have f9 : w5.cell? ⟨w.heap.size + 1, 9, none⟩ = some (.int .i64 p.w2) := cell_of_row w5 _ 9 _ _ _ hp5
             have H5 := Lib.hid hb5
             clear hP5 hM5 hb5 hp5 hcr))
        go_roundg gg
        case measure => omega
        case rel => exact ⟨k + 1, b, by omega, by go_num, rfl, by omega, by rw [HST.out, if_neg (by rw [decide_eq_false (Int.not_le.2 HQ.out)]; simp)]; rfl, hM.out.trans (H5.out.mono hM.out.size)⟩

set_option maxRecDepth 100000 in
set_option maxHeartbeats 4000000 in
theorem rfArea_any (p : Pol) (k : Nat) (hk : k < 3) (hs : okSecs p = true) (w : World) :
    Calls Try.prog 46 #[.agg (pcl p).toArray, .int .i64 (k : Int)] w fun e w' => e = .returned (.int .i64 (ar p k)) ∧ Below w.heap.size w w' := by
  have ha := ar_pos hs k
  simp only [okSecs, okSec, Bool.and_eq_true, inR_iff, decide_eq_true_eq] at hs
  obtain ⟨⟨a1, a2, a3⟩, ⟨b1, b2, b3⟩, ⟨c1, c2, c3⟩⟩ := hs
  unfold ar at ha ⊢
  have hc : ∀ W : World, W.heap[w.heap.size]? = some (.cells (pcl p).toArray 58 (0, 0)) → W.cell? ⟨w.heap.size, 7 + k, none⟩ = some (.int .i64 (ww p k)) ∧ W.cell? ⟨w.heap.size, 4 + k, none⟩ = some (.int .i64 (gg p k)) := fun W hW => by
    rw [cell_of_row W _ (7 + k) _ _ _ hW, cell_of_row W _ (4 + k) _ _ _ hW]
    have h3 : k = 0 ∨ k = 1 ∨ k = 2 := by omega
    rcases h3 with rfl | rfl | rfl <;> exact ⟨rfl, rfl⟩
  have hbw : 1 ≤ ww p k ∧ ww p k ≤ 60 ∧ 10 ≤ gg p k ∧ gg p k ≤ 300 := by
    have h3 : k = 0 ∨ k = 1 ∨ k = 2 := by omega
    rcases h3 with rfl | rfl | rfl
    · exact ⟨a1.1, a1.2, a2.1, a2.2⟩
    · exact ⟨b1.1, b1.2, b2.1, b2.2⟩
    · exact ⟨c1.1, c1.2, c2.1, c2.2⟩
  generalize ww p k = x at *
  generalize gg p k = g at *
  have v1 : IntKind.i64.wrap (3 * x) = 3 * x := IntWalk.i64_in _ (by omega)
  have v2 : IntKind.i64.wrap (g - x) = g - x := IntWalk.i64_in _ (by omega)
  have v3 : IntKind.i64.wrap (3 * x * (g - x)) = 3 * x * (g - x) := IntWalk.i64_in _ (by omega)
  have HV := Lib.hid (And.intro v1 (And.intro v2 v3))
  have HC0 := Lib.hid hc
  have hkz : (k : Int) < 3 := by omega
  have hk0 : (0 : Int) ≤ k := by omega
  clear a1 a2 a3 b1 b2 b3 c1 c2 c3 v1 v2 v3 ha hbw hc
  go_enter Try.func46, Try.ntmps46
  go_wp2
  refine R6.wp_walk (C := BoxM w [(w.heap.size, .cells (pcl p).toArray 58)] [] (fun _ => [])) 20 (by kernel_rfl) (by kernel_rfl) rfl (BoxM.start (grow1 w _) ⟨alloc_at0 w _, trivial⟩ (fun _ => rfl)) ?_
  simp only []
  repeat (first
    | (refine' R6.WalkR.det (fun _ => rfl) (fun D ρ W hK hC => ?_) ?_
       rotate_left
       · obtain ⟨f1, f2⟩ := HC0.out W hC.box.1
         obtain ⟨v1, v2, v3⟩ := HV.out
         have HC := Lib.hid hC
         clear hC hK
         go_simp
         first
           | with_reducible exact ⟨rfl, HC.out.move (by decide)⟩
           | fail
       simp only [Act.put, List.setIfInBounds_toArray, List.set_cons_succ, List.set_cons_zero]))
  refine R6.WalkR.nil (fun D ρ W hD hC => ?_)
  have HB := Lib.hid hC.bel
  clear hC hD
  go_wp2
  go_ret
  exact ⟨rfl, HB.out⟩

end Go.Proofs.Ytboffligjgjgjaa
