/-
  Whether a sheet is valid (the reference's).
-/
import Derived.BigGuardPart
import Derived.Test.YtpnnlmaipcjkmaaGreatQV22
import Derived.Test.YtpnnlmaipcjkmaaGreatQV23
set_option linter.all false
namespace Go.Proofs.YtpnnlmaipcjkmaaGreat
open Go.RowKit Go.BigFrame
open R6 (done done_ne done_me upd_ne upd_me)

attribute [local go_sem] gives cnd_true notB_false andB_left andB_right

theorem rowSheetR : RowTy Tryz.prog 25 2 := ⟨⟨_, Tryz.underlying25, rfl⟩, by kernel_rfl⟩
def secOk (y : Pol) (k : Nat) : Bool := inR (gg y k) 10 300 && (inR (ww y k) 1 60 && decide (2 * ww y k ≤ gg y k))
theorem pol_ref (y : Pol) (n : Int) (hn : 0 ≤ n) : (inR y.id n 9999 && okPol y) = ((inR y.id 0 9999 && (decide (n ≤ y.id) && (inR y.clone 0 9999 && (inR y.shot 0 y.cut && (decide (y.cut ≤ 3000) && (inR y.soak 0 5 && inR y.place 0 3)))))) && (List.range 3).all (secOk y)) := by
  have e : (List.range 3).all (secOk y) = (secOk y 0 && (secOk y 1 && secOk y 2)) := by simp [List.range_succ]
  rw [e, Bool.eq_iff_iff]
  unfold okPol okSecs okSec secOk
  have e0 : gg y 0 = y.g0 ∧ gg y 1 = y.g1 ∧ gg y 2 = y.g2 := ⟨rfl, rfl, rfl⟩
  have e1 : ww y 0 = y.w0 ∧ ww y 1 = y.w1 ∧ ww y 2 = y.w2 := ⟨rfl, rfl, rfl⟩
  rw [e0.1, e0.2.1, e0.2.2, e1.1, e1.2.1, e1.2.2]
  simp only [Bool.and_eq_true, inR_iff, decide_eq_true_eq]
  omega
theorem pol_no {y : Pol} {n : Int} (hn : 0 ≤ n) {k : Nat} (hk : k < 3) (h : secOk y k = false) : (inR y.id n 9999 && okPol y) = false := by
  rw [pol_ref y n hn]
  have : (List.range 3).all (secOk y) = false := List.all_eq_false.2 ⟨k, List.mem_range.2 hk, by simp [h]⟩
  rw [this, Bool.and_false]
theorem ts_ref (ps : List Pol) (y : Ts) (n : Int) (hn : 0 ≤ n) : (inR y.id n 9999 && okTs ps y) = (inR y.id 0 9999 && (decide (n ≤ y.id) && (hasPol ps y.pole && (inR y.sec 0 2 && inR y.force 1 1000000)))) := by
  rw [Bool.eq_iff_iff]
  unfold okTs
  simp only [Bool.and_eq_true, inR_iff, decide_eq_true_eq]
  generalize hasPol ps y.pole = b
  cases b <;> simp <;> omega
theorem at_has (ps : List Pol) (id : Int) : (hasPol ps id = true ∧ 0 ≤ idxL (fun p : Pol => decide (p.id = id)) ps 0) ∨ (hasPol ps id = false ∧ idxL (fun p : Pol => decide (p.id = id)) ps 0 < 0) := by
  have h := idxL_iff (P := fun p : Pol => decide (p.id = id)) ps 0
  unfold hasPol
  cases hb : ps.any fun p => decide (p.id = id)
  · exact .inr ⟨rfl, Int.not_le.1 fun h' => by have := h.1 h'; rw [hb] at this; cases this⟩
  · exact .inl ⟨rfl, h.2 hb⟩
theorem not_t {A : Bool} (h : true = !A) : A = false := by cases A <;> simp_all
theorem not_f {A : Bool} (h : false = !A) : A = true := by cases A <;> simp_all
theorem prev_expr {id n pid : Int} {j : Nat} (hn0 : 0 ≤ n) (h1 : 0 < j → n = pid + 1) (h2 : j = 0 → n = 0) : orB (!inR id 0 9999) (andB (decide (0 < j)) (decide (id ≤ pid))) = !(inR id 0 9999 && decide (n ≤ id)) := by
  cases h : inR id 0 9999
  · rfl
  · have hi := inR_iff.1 h
    by_cases h0 : 0 < j
    · have := h1 h0
      by_cases hp : id ≤ pid
      · simp [orB, andB, h0, hp]; omega
      · simp [orB, andB, h0, hp]; omega
    · have := h2 (by omega)
      simp [orB, andB, h0]; omega
theorem ts_expr (ps : List Pol) (y : Ts) (n pid : Int) (j : Nat) (hn0 : 0 ≤ n) (h1 : 0 < j → n = pid + 1) (h2 : j = 0 → n = 0) :
    orB (orB (orB (orB (!inR y.id 0 9999) (andB (decide (0 < j)) (decide (y.id ≤ pid)))) (decide (idxL (fun p : Pol => decide (p.id = y.pole)) ps 0 < 0))) (!inR y.sec 0 2)) (!inR y.force 1 1000000) = !(inR y.id n 9999 && okTs ps y) := by
  rw [ts_ref ps y n hn0]
  have hp : decide (idxL (fun p : Pol => decide (p.id = y.pole)) ps 0 < 0) = !hasPol ps y.pole := by
    rcases at_has ps y.pole with ⟨a, b⟩ | ⟨a, b⟩ <;> rw [a] <;> simp <;> omega
  rw [hp, prev_expr hn0 h1 h2]
  generalize inR y.id 0 9999 = a
  generalize decide (n ≤ y.id) = b
  generalize hasPol ps y.pole = c
  generalize inR y.sec 0 2 = d
  generalize inR y.force 1 1000000 = e
  cases a <;> cases b <;> cases c <;> cases d <;> cases e <;> rfl
theorem pol_expr (y : Pol) (n pid : Int) (j : Nat) (hn0 : 0 ≤ n) (h1 : 0 < j → n = pid + 1) (h2 : j = 0 → n = 0) :
    orB (orB (orB (orB (orB (orB (!inR y.id 0 9999) (andB (decide (0 < j)) (decide (y.id ≤ pid)))) (!inR y.clone 0 9999)) (!inR y.shot 0 y.cut)) (decide (3000 < y.cut))) (!inR y.soak 0 5)) (!inR y.place 0 3) =
      !(inR y.id 0 9999 && (decide (n ≤ y.id) && (inR y.clone 0 9999 && (inR y.shot 0 y.cut && (decide (y.cut ≤ 3000) && (inR y.soak 0 5 && inR y.place 0 3)))))) := by
  have hc : decide (3000 < y.cut) = !decide (y.cut ≤ 3000) := by by_cases h : y.cut ≤ 3000 <;> simp [h] <;> omega
  rw [hc, prev_expr hn0 h1 h2]
  generalize inR y.id 0 9999 = a
  generalize decide (n ≤ y.id) = b
  generalize inR y.clone 0 9999 = c
  generalize inR y.shot 0 y.cut = d
  generalize decide (y.cut ≤ 3000) = e
  generalize inR y.soak 0 5 = f
  generalize inR y.place 0 3 = g
  cases a <;> cases b <;> cases c <;> cases d <;> cases e <;> cases f <;> cases g <;> rfl
theorem sec_expr (g x : Int) : orB (orB (!inR g 10 300) (!inR x 1 60)) (decide (g < IntKind.i64.wrap (2 * x))) = !(inR g 10 300 && (inR x 1 60 && decide (2 * x ≤ g))) := by
  cases h : inR x 1 60
  · cases inR g 10 300 <;> rfl
  · have hx := inR_iff.1 h
    rw [IntWalk.i64_in _ (by omega), show decide (g < 2 * x) = !decide (2 * x ≤ g) by by_cases h : 2 * x ≤ g <;> simp [h] <;> omega]
    cases inR g 10 300 <;> cases decide (2 * x ≤ g) <;> rfl

set_option maxRecDepth 100000 in
set_option maxHeartbeats 16000000 in
theorem rfSheet_any (ps : List Pol) (ts : List Ts) (AP : Option Addr) (cp : Nat) (AT : Option Addr) (ct : Nat) (B : Nat) (w : World) (hB : B ≤ w.heap.size) (hz : ShAt w B ps ts AP AT) :
    Calls Tryz.prog 82 #[.agg #[.slice AP ps.length cp, .slice AT ts.length ct]] w fun e w' => e = .returned (.bool (okSheet ps ts)) ∧ Below w.heap.size w w' := by
  obtain ⟨w1, hw1⟩ : ∃ w1, w.alloc (.cells #[.slice AP ps.length cp, .slice AT ts.length ct] 25) = w1 := ⟨_, rfl⟩
  have hb1 : Below w.heap.size w w1 := by rw [← hw1]; exact grow1 _ _
  have m1 : w1.heap[w.heap.size]? = some (.cells #[.slice AP ps.length cp, .slice AT ts.length ct] 25 (0, 0)) := by rw [← hw1]; exact alloc_at0 _ _
  have hlp := hz.lp
  have hlt := hz.lt
  have f1 : w1.cell? ⟨w.heap.size, 0, none⟩ = some (.slice AP ps.length cp) := cell_of_row w1 _ 0 _ _ _ m1
  have f2 : w1.cell? ⟨w.heap.size, 1, none⟩ = some (.slice AT ts.length ct) := cell_of_row w1 _ 1 _ _ _ m1
  have HM := Lib.hid (And.intro hb1 m1)
  have hpe := fun (j : Nat) (hj : j < ps.length) => vals_elem pcl_len hz.p (by decide) hj
  have hte := fun (j : Nat) (hj : j < ts.length) => vals_elem tcl_len hz.t (by decide) hj
  have hat := fun (id : Int) (W : World) (hW : Below w.heap.size w W) => rfAt_any ps id AP cp AT ts.length ct B W (Nat.le_trans hB hW.size) (hz.p.below (hW.mono hB)) hlp
  have HPE := Lib.hid hpe
  have HTE := Lib.hid (And.intro hte hat)
  unfold okSheet okPols okTsL
  clear hb1 m1 hz hpe hte hat
  by_cases h1 : 12 < ps.length
  · rw [decide_eq_false (by omega), Bool.false_and, Bool.false_and]
    have h1z : (12 : Int) < ps.length := by omega
    go_enter Tryz.func82, Tryz.ntmps82
    go_wp2_with go_big_skip
    go_ret
    exact ⟨rfl, HM.out.1⟩
  rw [decide_eq_true (Nat.not_lt.1 h1), Bool.true_and]
  have h1z : ¬ (12 : Int) < ps.length := by omega
  by_cases h2 : 20 < ts.length
  · rw [decide_eq_false (Nat.not_le.2 h2), Bool.false_and, Bool.and_false]
    have h2z : (20 : Int) < ts.length := by omega
    go_enter Tryz.func82, Tryz.ntmps82
    go_wp2_with go_big_skip
    go_ret
    exact ⟨rfl, HM.out.1⟩
  rw [decide_eq_true (Nat.not_lt.1 h2), Bool.true_and]
  have h2z : ¬ (20 : Int) < ts.length := by omega
  obtain ⟨r1, hr1⟩ : ∃ r, byIdL Pol.id okPol ps 0 = r := ⟨_, rfl⟩
  obtain ⟨r2, hr2⟩ : ∃ r, byIdL Ts.id (okTs ps) ts 0 = r := ⟨_, rfl⟩
  rw [hr1, hr2]
  have HRR := Lib.hid (And.intro hr1 hr2)
  clear hr1 hr2
  go_enter Tryz.func82, Tryz.ntmps82
  go_wp2_with go_big_skip
  clear f1 f2 h1z h2z
  go_loopg [3] ps.length (fun gn s3 wx => ∃ (j : Nat) (n : Int), j + gn = ps.length ∧ s3 = .int .i64 j ∧ Hid (byIdL Pol.id okPol (ps.drop j) n = r1 ∧ 0 ≤ n ∧ (0 < j → ∃ q, ps[j - 1]? = some q ∧ n = q.id + 1) ∧ (j = 0 → n = 0) ∧ Below w.heap.size w wx ∧ wx.heap[w.heap.size]? = some (.cells #[.slice AP ps.length cp, .slice AT ts.length ct] 25 (0, 0))))
  case atStart => exact ⟨0, 0, by omega, rfl, HRR.out.1, Int.le_refl _, fun h => absurd h (by decide), fun _ => rfl, HM.out⟩
  case round =>
    obtain ⟨j, n, hjg, rfl, hJ⟩ := hrel
    have hcr : wr.cell? ⟨w.heap.size, 0, none⟩ = some (.slice AP ps.length cp) := cell_of_row wr _ 0 _ _ _ hJ.out.2.2.2.2.2
    cases gk with
    | zero =>
      have hJ' := hJ.out
      obtain rfl : j = ps.length := by omega
      rw [List.drop_length] at hJ'
      have hr1 : r1 = true := by rw [← hJ'.1]; rfl
      have HR1 := Lib.hid hr1
      clear hr1
      have HJ0 := Lib.hid hJ'.2.2.2.2
      clear hJ' hJ
      go_wp2
      obtain ⟨wo, rfl⟩ : ∃ wo : World, wo = wr := ⟨_, rfl⟩
      clear hcr
      go_loopg [6] ts.length (fun gm s6 wx => ∃ (j : Nat) (n : Int), j + gm = ts.length ∧ s6 = .int .i64 j ∧ Hid (byIdL Ts.id (okTs ps) (ts.drop j) n = r2 ∧ 0 ≤ n ∧ (0 < j → ∃ q, ts[j - 1]? = some q ∧ n = q.id + 1) ∧ (j = 0 → n = 0) ∧ Below w.heap.size w wx ∧ wx.heap[w.heap.size]? = some (.cells #[.slice AP ps.length cp, .slice AT ts.length ct] 25 (0, 0))))
      case atStart => exact ⟨0, 0, by omega, rfl, HRR.out.2, Int.le_refl _, fun h => absurd h (by decide), fun _ => rfl, HJ0.out⟩
      case round =>
        obtain ⟨j, n, hjg, rfl, hJ⟩ := hrel
        have hcr : wr.cell? ⟨w.heap.size, 1, none⟩ = some (.slice AT ts.length ct) := cell_of_row wr _ 1 _ _ _ hJ.out.2.2.2.2.2
        cases gk with
        | zero =>
          have hJ' := hJ.out
          obtain rfl : j = ts.length := by omega
          rw [List.drop_length] at hJ'
          have HJ := Lib.hid hJ'
          clear hJ' hJ
          go_wp2
          go_ret
          exact ⟨by rw [HR1.out, Bool.true_and, ← HJ.out.1]; rfl, HJ.out.2.2.2.2.1⟩
        | succ gm =>
          have hj : j < ts.length := by omega
          have hjz : (j : Int) < ts.length := by omega
          obtain ⟨c, off, hA, hcB, hc⟩ := HTE.out.1 j hj
          subst hA
          have hc' : ∀ m v, (tcl ts[j])[m]? = some v → wr.cell? ⟨c, off + j * 5 + m, none⟩ = some v := fun m v hv => (hJ.out.2.2.2.2.1.cell (p := ⟨c, off + j * 5 + m, none⟩) (by simp; omega)).trans (hc m v hv)
          have hst : byIdL Ts.id (okTs ps) (ts.drop j) n = (inR ts[j].id n 9999 && (okTs ps ts[j] && byIdL Ts.id (okTs ps) (ts.drop (j + 1)) (ts[j].id + 1))) := by rw [List.drop_eq_getElem_cons hj]; rfl
          rw [hJ.out.1] at hst
          have hyj : ts[j]? = some ts[j] := List.getElem?_eq_getElem hj
          have hn0 := hJ.out.2.1
          generalize ts[j] = y at hc' hst hyj
          have HAT := Lib.hid (HTE.out.2 y.pole)
          have HST := Lib.hid (And.intro hst (And.intro hyj hn0))
          have HCC := Lib.hid hc'
          have HJ := Lib.hid hJ.out.2.2
          clear hc hc' hst hyj hJ hn0
          obtain ⟨jm, hjm⟩ : ∃ jm, j - 1 = jm := ⟨_, rfl⟩
          obtain ⟨pid, hpid⟩ : ∃ pid : Int, 0 < j → n = pid + 1 ∧ ∀ W, Below w.heap.size w W → W.cell? ⟨c, off + jm * 5, none⟩ = some (.int .i64 pid) := by
            subst hjm
            by_cases h0 : 0 < j
            · obtain ⟨q, hq, hn⟩ := HJ.out.1 h0
              have hj1 : j - 1 < ts.length := by omega
              obtain ⟨c2, off2, hA2, hcB2, hc2⟩ := HTE.out.1 (j - 1) hj1
              cases hA2
              have hqe : ts[j - 1] = q := by rw [List.getElem?_eq_getElem hj1] at hq; exact Option.some.inj hq
              rw [hqe] at hc2
              exact ⟨q.id, fun _ => ⟨hn, fun W hW => (hW.cell (p := ⟨c, off + (j - 1) * 5, none⟩) (by simp; omega)).trans (hc2 0 _ rfl)⟩⟩
            · exact ⟨0, fun h => absurd h h0⟩
          have HPV := Lib.hid hpid
          have HJM := Lib.hid hjm
          clear hjm
          have hw0 := HJ.out.2.1
          have HJ0 := Lib.hid hw0
          clear hpid hw0
          go_wp2_with (first
            | (show wpList _ _ _ (Oper.mk (some 122) _ _ _ _ _ :: _) _ _
               refine wpList_load_at 58 (.tmp 121) rfl rfl rfl (tcl y) HCC.out rowTest ?_)
            | (show wpList _ _ _ (Oper.mk none (Op.store _ (Operand.tmp 7) (Operand.tmp 122)) _ _ _ _ :: _) _ _
               refine wpList_store_blk 58 (.tmp 7) (.tmp 122) rfl rfl rfl rfl rfl (alloc_at0 wr _) (Nat.le_of_ble_eq_true rfl) (fun v hv => tcl_one [y] v (by simpa using hv)) rowTest ?_
               intro w5 hP5 hM5
               rw [splice_whole (by rfl)] at hM5
               have hb5 : Below wr.heap.size wr w5 := (grow1 wr _).trans (hP5.below (Nat.le_refl _))
               have H5 := Lib.hid (And.intro hM5 (And.intro (HJ.out.2.2.1.trans (hb5.mono HJ.out.2.2.1.size)) ((hb5.block _ (lt_of_heap HJ.out.2.2.2)).trans HJ.out.2.2.2)))
               clear hP5 hM5 hb5))
          clear hcr
          refine R6.wp_walk (C := fun _ _ W => Below w5.heap.size w5 W) 162 (by kernel_rfl) (by kernel_rfl) rfl (Below.refl _ _).drew ?_
          simp only []
          repeat (
            (first
              | (refine' R6.WalkR.det (fun _ => rfl) (fun D ρ W hK hC => ?_) ?_)
              | (refine' R6.WalkR.gF rfl rfl (fun _ => rfl) (fun D ρ W hK hC => hC) (fun hx D ρ W hK hC => ?_) ?_)
              | (refine' R6.WalkR.gT rfl rfl (fun _ => rfl) (fun D ρ W hK hC => hC) (fun hx D ρ W hK hC => ?_) ?_)
              | (refine' R6.WalkR.cF rfl rfl (fun _ => rfl) (fun D ρ W hK hC => hC) (fun ha hx D ρ W hK hC => ?_) ?_)
              | (refine' R6.WalkR.cT rfl rfl (fun _ => rfl) (fun D ρ W hK hC => hC) (fun ha hx D ρ W hK hC => ?_) ?_))
            rotate_left
            · first
                | exact gives_load_blk 25 (.tmp 1) rfl rfl ((hC.block _ (lt_of_heap H5.out.2.2)).trans H5.out.2.2) [.slice AP ps.length cp, .slice (some ⟨c, off, none⟩) ts.length ct] at0 rowSheetR ⟨rfl, hC⟩
                | (have hs5 := (hC.block _ (lt_of_heap H5.out.2.2)).trans H5.out.2.2
                   have f2 : W.cell? ⟨w.heap.size, 1, none⟩ = some (.slice (some ⟨c, off, none⟩) ts.length ct) := cell_of_row W _ 1 _ _ _ hs5
                   have hy5 := (hC.block _ (lt_of_heap H5.out.1)).trans H5.out.1
                   have y0 : W.cell? ⟨wr.heap.size, 0, none⟩ = some (.int .i64 y.id) := cell_of_row W _ 0 _ _ _ hy5
                   have y1 : W.cell? ⟨wr.heap.size, 1, none⟩ = some (.int .i64 y.pole) := cell_of_row W _ 1 _ _ _ hy5
                   have y2 : W.cell? ⟨wr.heap.size, 2, none⟩ = some (.int .i64 y.sec) := cell_of_row W _ 2 _ _ _ hy5
                   have y3 : W.cell? ⟨wr.heap.size, 3, none⟩ = some (.int .i64 y.force) := cell_of_row W _ 3 _ _ _ hy5
                   clear hy5 hs5
                   try
                     have hj0 : 0 < j := by
                       have h := of_decide_eq_true hx
                       omega
                     have f3 := (HPV.out hj0).2 W (H5.out.2.1.trans (hC.mono H5.out.2.1.size))
                     have ejm := HJM.out
                     have e2 : (j : Int) - 1 = (jm : Int) := by omega
                     have e1 : IntKind.i64.wrap ((j : Int) - 1) = (jm : Int) := by rw [IntWalk.i64_in _ (by omega)]; exact e2
                     have e5 : IntKind.i64.wrap (jm : Int) = (jm : Int) := IntWalk.i64_in _ (by omega)
                     have e3 : (0 : Int) ≤ (jm : Int) := Int.natCast_nonneg _
                     have e4 : (jm : Int) < ts.length := by omega
                     clear ejm
                   have HC := Lib.hid hC
                   clear hC hK
                   go_simp
                   first
                     | with_reducible exact ⟨pick_or _ _, HC.out⟩
                     | with_reducible exact ⟨pick_and _ _, HC.out⟩
                     | with_reducible exact ⟨pick_and2 _ _, HC.out⟩
                     | with_reducible exact ⟨pick_orN _ _, HC.out⟩
                     | with_reducible exact ⟨pick_andN _ _, HC.out⟩
                     | with_reducible exact ⟨pick_orD _ _, HC.out⟩
                     | with_reducible exact ⟨pick_andD _ _, HC.out⟩
                     | with_reducible exact ⟨pick_andD2 _ _, HC.out⟩
                     | with_reducible exact ⟨rfl, HC.out⟩
                     | (go_at_call 67; refine (rfWithin_any _ _ _ W).mono ?_; rintro e _ ⟨rfl, rfl⟩; exact ⟨_, rfl, rfl, HC.out⟩)
                     | (go_at_call 31; refine (HAT.out W (H5.out.2.1.trans (HC.out.mono H5.out.2.1.size))).mono ?_; rintro e W1 ⟨rfl, hB1⟩; exact ⟨_, rfl, rfl, HC.out.trans (hB1.mono HC.out.size)⟩))
            simp only [Act.put, List.setIfInBounds_toArray, List.set_cons_succ, List.set_cons_zero])
          refine R6.WalkR.nil (fun D ρ W6 hD hC => ?_)
          have H6 := Lib.hid (And.intro ((hC.block _ (lt_of_heap H5.out.1)).trans H5.out.1) (And.intro (H5.out.2.1.trans (hC.mono H5.out.2.1.size)) ((hC.block _ (lt_of_heap H5.out.2.2)).trans H5.out.2.2)))
          clear hC hD
          have hex := ts_expr ps y n pid j HST.out.2.2 (fun h => (HPV.out h).1) HJ0.out
          generalize orB (orB (orB (orB (!inR y.id 0 9999) (andB (decide (0 < j)) (decide (y.id ≤ pid)))) (decide (idxL (fun p : Pol => decide (p.id = y.pole)) ps 0 < 0))) (!inR y.sec 0 2)) (!inR y.force 1 1000000) = bad at hex ⊢
          have HX := Lib.hid hex
          clear hex
          cases bad
          rotate_left
          · go_wp2
            go_ret
            exact ⟨by rw [show r2 = false by rw [HST.out.1, ← Bool.and_assoc, not_t HX.out, Bool.false_and], Bool.and_false]; rfl, H6.out.2.1⟩
          go_wp2
          go_roundg gm
          case measure => omega
          case rel => exact ⟨j + 1, y.id + 1, by omega, by go_num, by have h := HX.out; have h2 := HST.out.1; rw [← Bool.and_assoc, not_f h, Bool.true_and] at h2; exact h2.symm, by have h := HX.out; simp only [Bool.false_eq, Bool.not_eq_false', Bool.and_eq_true, inR_iff] at h; have := HST.out.2.2; omega, fun _ => ⟨y, HST.out.2.1, rfl⟩, fun h => absurd h (by omega), H6.out.2⟩
    | succ gn =>
      have hj : j < ps.length := by omega
      have hjz : (j : Int) < ps.length := by omega
      obtain ⟨c, off, hA, hcB, hc⟩ := HPE.out j hj
      subst hA
      have hc' : ∀ m v, (pcl ps[j])[m]? = some v → wr.cell? ⟨c, off + j * 12 + m, none⟩ = some v := fun m v hv => (hJ.out.2.2.2.2.1.cell (p := ⟨c, off + j * 12 + m, none⟩) (by simp; omega)).trans (hc m v hv)
      have hst : byIdL Pol.id okPol (ps.drop j) n = (inR ps[j].id n 9999 && (okPol ps[j] && byIdL Pol.id okPol (ps.drop (j + 1)) (ps[j].id + 1))) := by rw [List.drop_eq_getElem_cons hj]; rfl
      rw [hJ.out.1] at hst
      have hyj : ps[j]? = some ps[j] := List.getElem?_eq_getElem hj
      have hn0 := hJ.out.2.1
      generalize ps[j] = y at hc' hst hyj
      have HST := Lib.hid (And.intro hst (And.intro hyj hn0))
      have HCC := Lib.hid hc'
      have HJ := Lib.hid hJ.out.2.2
      clear hc hc' hst hyj hJ hn0
      obtain ⟨jm, hjm⟩ : ∃ jm, j - 1 = jm := ⟨_, rfl⟩
      obtain ⟨pid, hpid⟩ : ∃ pid : Int, 0 < j → n = pid + 1 ∧ ∀ W, Below w.heap.size w W → W.cell? ⟨c, off + jm * 12, none⟩ = some (.int .i64 pid) := by
        subst hjm
        by_cases h0 : 0 < j
        · obtain ⟨q, hq, hn⟩ := HJ.out.1 h0
          have hj1 : j - 1 < ps.length := by omega
          obtain ⟨c2, off2, hA2, hcB2, hc2⟩ := HPE.out (j - 1) hj1
          cases hA2
          have hqe : ps[j - 1] = q := by rw [List.getElem?_eq_getElem hj1] at hq; exact Option.some.inj hq
          rw [hqe] at hc2
          exact ⟨q.id, fun _ => ⟨hn, fun W hW => (hW.cell (p := ⟨c, off + (j - 1) * 12, none⟩) (by simp; omega)).trans (hc2 0 _ rfl)⟩⟩
        · exact ⟨0, fun h => absurd h h0⟩
      have HPV := Lib.hid hpid
      have HJM := Lib.hid hjm
      clear hjm
      have hw0 := HJ.out.2.1
      have HJ0 := Lib.hid hw0
      clear hpid hw0
      go_wp2_with (first
        | (show wpList _ _ _ (Oper.mk (some 29) _ _ _ _ _ :: _) _ _
           refine wpList_load_at 56 (.tmp 28) rfl rfl rfl (pcl y) HCC.out rowPole ?_)
        | (show wpList _ _ _ (Oper.mk none (Op.store _ (Operand.tmp 4) (Operand.tmp 29)) _ _ _ _ :: _) _ _
           refine wpList_store_blk 56 (.tmp 4) (.tmp 29) rfl rfl rfl rfl rfl (alloc_at0 wr _) (Nat.le_of_ble_eq_true rfl) (fun v hv => pcl_one [y] v (by simpa using hv)) rowPole ?_
           intro w5 hP5 hM5
           rw [splice_whole (by rfl)] at hM5
           have hb5 : Below wr.heap.size wr w5 := (grow1 wr _).trans (hP5.below (Nat.le_refl _))
           have H5 := Lib.hid (And.intro hM5 (And.intro (HJ.out.2.2.1.trans (hb5.mono HJ.out.2.2.1.size)) ((hb5.block _ (lt_of_heap HJ.out.2.2.2)).trans HJ.out.2.2.2)))
           clear hP5 hM5 hb5))
      clear hcr
      refine R6.wp_walk (C := fun _ _ W => Below w5.heap.size w5 W) 162 (by kernel_rfl) (by kernel_rfl) rfl (Below.refl _ _).drew ?_
      simp only []
      repeat (
        (first
          | (refine' R6.WalkR.det (fun _ => rfl) (fun D ρ W hK hC => ?_) ?_)
          | (refine' R6.WalkR.gF rfl rfl (fun _ => rfl) (fun D ρ W hK hC => hC) (fun hx D ρ W hK hC => ?_) ?_)
          | (refine' R6.WalkR.gT rfl rfl (fun _ => rfl) (fun D ρ W hK hC => hC) (fun hx D ρ W hK hC => ?_) ?_)
          | (refine' R6.WalkR.cF rfl rfl (fun _ => rfl) (fun D ρ W hK hC => hC) (fun ha hx D ρ W hK hC => ?_) ?_)
          | (refine' R6.WalkR.cT rfl rfl (fun _ => rfl) (fun D ρ W hK hC => hC) (fun ha hx D ρ W hK hC => ?_) ?_))
        rotate_left
        · have hs5 := (hC.block _ (lt_of_heap H5.out.2.2)).trans H5.out.2.2
          have f2 : W.cell? ⟨w.heap.size, 0, none⟩ = some (.slice (some ⟨c, off, none⟩) ps.length cp) := cell_of_row W _ 0 _ _ _ hs5
          have hy5 := (hC.block _ (lt_of_heap H5.out.1)).trans H5.out.1
          have y0 : W.cell? ⟨wr.heap.size, 0, none⟩ = some (.int .i64 y.id) := cell_of_row W _ 0 _ _ _ hy5
          have y1 : W.cell? ⟨wr.heap.size, 1, none⟩ = some (.int .i64 y.clone) := cell_of_row W _ 1 _ _ _ hy5
          have y2 : W.cell? ⟨wr.heap.size, 2, none⟩ = some (.int .i64 y.cut) := cell_of_row W _ 2 _ _ _ hy5
          have y3 : W.cell? ⟨wr.heap.size, 3, none⟩ = some (.int .i64 y.shot) := cell_of_row W _ 3 _ _ _ hy5
          have y10 : W.cell? ⟨wr.heap.size, 10, none⟩ = some (.int .i64 y.soak) := cell_of_row W _ 10 _ _ _ hy5
          have y11 : W.cell? ⟨wr.heap.size, 11, none⟩ = some (.int .i64 y.place) := cell_of_row W _ 11 _ _ _ hy5
          clear hy5 hs5
          try
            have hj0 : 0 < j := by
              have h := of_decide_eq_true hx
              omega
            have f3 := (HPV.out hj0).2 W (H5.out.2.1.trans (hC.mono H5.out.2.1.size))
            have ejm := HJM.out
            have e2 : (j : Int) - 1 = (jm : Int) := by omega
            have e1 : IntKind.i64.wrap ((j : Int) - 1) = (jm : Int) := by rw [IntWalk.i64_in _ (by omega)]; exact e2
            have e5 : IntKind.i64.wrap (jm : Int) = (jm : Int) := IntWalk.i64_in _ (by omega)
            have e3 : (0 : Int) ≤ (jm : Int) := Int.natCast_nonneg _
            have e4 : (jm : Int) < ps.length := by omega
            clear ejm
          have HC := Lib.hid hC
          clear hC hK
          go_simp
          first
            | with_reducible exact ⟨pick_or _ _, HC.out⟩
            | with_reducible exact ⟨pick_and _ _, HC.out⟩
            | with_reducible exact ⟨pick_and2 _ _, HC.out⟩
            | with_reducible exact ⟨pick_orN _ _, HC.out⟩
            | with_reducible exact ⟨pick_andN _ _, HC.out⟩
            | with_reducible exact ⟨pick_orD _ _, HC.out⟩
            | with_reducible exact ⟨pick_andD _ _, HC.out⟩
            | with_reducible exact ⟨pick_andD2 _ _, HC.out⟩
            | with_reducible exact ⟨rfl, HC.out⟩
            | (go_at_call 67; refine (rfWithin_any _ _ _ W).mono ?_; rintro e _ ⟨rfl, rfl⟩; exact ⟨_, rfl, rfl, HC.out⟩)
        simp only [Act.put, List.setIfInBounds_toArray, List.set_cons_succ, List.set_cons_zero])
      refine R6.WalkR.nil (fun D ρ W6 hD hC => ?_)
      have H6 := Lib.hid (And.intro ((hC.block _ (lt_of_heap H5.out.1)).trans H5.out.1) (And.intro (H5.out.2.1.trans (hC.mono H5.out.2.1.size)) ((hC.block _ (lt_of_heap H5.out.2.2)).trans H5.out.2.2)))
      clear hC hD
      have hex := pol_expr y n pid j HST.out.2.2 (fun h => (HPV.out h).1) HJ0.out
      generalize orB (orB (orB (orB (orB (orB (!inR y.id 0 9999) (andB (decide (0 < j)) (decide (y.id ≤ pid)))) (!inR y.clone 0 9999)) (!inR y.shot 0 y.cut)) (decide (3000 < y.cut))) (!inR y.soak 0 5)) (!inR y.place 0 3) = bad at hex ⊢
      have HX := Lib.hid hex
      clear hex
      cases bad
      rotate_left
      · go_wp2
        go_ret
        exact ⟨by have h := HX.out; rw [HST.out.1, ← Bool.and_assoc, pol_ref y n HST.out.2.2, not_t h]; simp, H6.out.2.1⟩
      obtain ⟨wo, rfl⟩ : ∃ wo : World, wo = wr := ⟨_, rfl⟩
      go_wp2
      go_loopg [5] 3 (fun gm s5 wx => ∃ k : Nat, k + gm = 3 ∧ s5 = .int .i64 k ∧ Hid ((List.range k).all (secOk y) = true ∧ wx.heap[wo.heap.size]? = some (.cells (pcl y).toArray 56 (0, 0)) ∧ Below w.heap.size w wx ∧ wx.heap[w.heap.size]? = some (.cells #[.slice (some ⟨c, off, none⟩) ps.length cp, .slice AT ts.length ct] 25 (0, 0))))
      case atStart => exact ⟨0, by omega, rfl, rfl, H6.out⟩
      case round =>
        obtain ⟨k, hkg, rfl, hK⟩ := hrel
        have HK := Lib.hid hK.out
        clear hK
        cases gk with
        | zero =>
          obtain rfl : k = 3 := by omega
          go_wp2
          go_roundg gn
          case measure => omega
          case rel => exact ⟨j + 1, y.id + 1, by omega, by go_num, by have h := HX.out; have h2 := HST.out.1; rw [← Bool.and_assoc, pol_ref y n HST.out.2.2, HK.out.1, not_f h] at h2; simpa using h2.symm, by have h := HX.out; simp only [Bool.false_eq, Bool.not_eq_false', Bool.and_eq_true, inR_iff] at h; omega, fun _ => ⟨y, HST.out.2.1, rfl⟩, fun h => absurd h (by omega), HK.out.2.2⟩
        | succ gm =>
          have hk : k < 3 := by omega
          have hkz : (k : Int) < 3 := by omega
          have hsec : ∀ W : World, W.heap[wo.heap.size]? = some (.cells (pcl y).toArray 56 (0, 0)) → W.cell? ⟨wo.heap.size, 4 + k, none⟩ = some (.int .i64 (gg y k)) ∧ W.cell? ⟨wo.heap.size, 7 + k, none⟩ = some (.int .i64 (ww y k)) := fun W hW => by
            rw [cell_of_row W _ (4 + k) _ _ _ hW, cell_of_row W _ (7 + k) _ _ _ hW]
            have h3 : k = 0 ∨ k = 1 ∨ k = 2 := by omega
            rcases h3 with rfl | rfl | rfl <;> exact ⟨rfl, rfl⟩
          have hno := fun (h : secOk y k = false) => pol_no (y := y) HST.out.2.2 hk h
          have hsk : secOk y k = (inR (gg y k) 10 300 && (inR (ww y k) 1 60 && decide (2 * ww y k ≤ gg y k))) := rfl
          have hrs := all_range6 (secOk y) k
          rw [HK.out.1, Bool.true_and] at hrs
          rw [← Bool.not_not (inR (gg y k) 10 300 && _), ← sec_expr] at hsk
          generalize gg y k = g at hsec hsk
          generalize ww y k = x at hsec hsk
          have HS := Lib.hid (And.intro hsec (And.intro hno hrs))
          have HSK := Lib.hid hsk
          clear hsec hno hrs hsk
          go_wp2
          refine R6.wp_walk (C := fun _ _ W => Below wr.heap.size wr W) 162 (by kernel_rfl) (by kernel_rfl) rfl (Below.refl _ _).drew ?_
          simp only []
          repeat (
            (first
              | (refine' R6.WalkR.det (fun _ => rfl) (fun D ρ W hK hC => ?_) ?_)
              | (refine' R6.WalkR.gF rfl rfl (fun _ => rfl) (fun D ρ W hK hC => hC) (fun hx D ρ W hK hC => ?_) ?_)
              | (refine' R6.WalkR.gT rfl rfl (fun _ => rfl) (fun D ρ W hK hC => hC) (fun hx D ρ W hK hC => ?_) ?_)
              | (refine' R6.WalkR.cF rfl rfl (fun _ => rfl) (fun D ρ W hK hC => hC) (fun ha hx D ρ W hK hC => ?_) ?_)
              | (refine' R6.WalkR.cT rfl rfl (fun _ => rfl) (fun D ρ W hK hC => hC) (fun ha hx D ρ W hK hC => ?_) ?_))
            rotate_left
            · have hy6 := (hC.block _ (lt_of_heap HK.out.2.1)).trans HK.out.2.1
              obtain ⟨f1, f2⟩ := HS.out.1 W hy6
              clear hy6
              have HC := Lib.hid hC
              clear hC hK
              go_simp
              first
                | with_reducible exact ⟨pick_or _ _, HC.out⟩
                | with_reducible exact ⟨pick_and _ _, HC.out⟩
                | with_reducible exact ⟨pick_and2 _ _, HC.out⟩
                | with_reducible exact ⟨pick_orN _ _, HC.out⟩
                | with_reducible exact ⟨pick_andN _ _, HC.out⟩
                | with_reducible exact ⟨pick_orD _ _, HC.out⟩
                | with_reducible exact ⟨pick_andD _ _, HC.out⟩
                | with_reducible exact ⟨pick_andD2 _ _, HC.out⟩
                | with_reducible exact ⟨rfl, HC.out⟩
                | (go_at_call 67; refine (rfWithin_any _ _ _ W).mono ?_; rintro e _ ⟨rfl, rfl⟩; exact ⟨_, rfl, rfl, HC.out⟩)
            simp only [Act.put, List.setIfInBounds_toArray, List.set_cons_succ, List.set_cons_zero])
          refine R6.WalkR.nil (fun D ρ W7 hD hC => ?_)
          have H7 := Lib.hid (And.intro ((hC.block _ (lt_of_heap HK.out.2.1)).trans HK.out.2.1) (And.intro (HK.out.2.2.1.trans (hC.mono HK.out.2.2.1.size)) ((hC.block _ (lt_of_heap HK.out.2.2.2)).trans HK.out.2.2.2)))
          clear hC hD
          have hsk := HSK.out
          generalize orB (orB (!inR g 10 300) (!inR x 1 60)) (decide (g < IntKind.i64.wrap (2 * x))) = bad at hsk ⊢
          have HSB := Lib.hid hsk
          clear hsk
          cases bad
          rotate_left
          · go_wp2
            go_ret
            exact ⟨by rw [HST.out.1, ← Bool.and_assoc, HS.out.2.1 HSB.out]; simp, H7.out.2.1⟩
          go_wp2
          go_roundg gm
          case measure => omega
          case rel => exact ⟨k + 1, by omega, by go_num, by rw [HS.out.2.2, HSB.out]; rfl, H7.out⟩

end Go.Proofs.YtpnnlmaipcjkmaaGreat
