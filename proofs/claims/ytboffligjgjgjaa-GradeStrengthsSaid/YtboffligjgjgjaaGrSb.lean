/-
  Sheets, gradings and lists of numbers that are compared: equal things are the same (the reference's).
-/
import Derived.Test.YtboffligjgjgjaaGrSa
import Derived.Test.YtboffligjgjgjaaGrPa
import Derived.Deep.QuietTactic
import Derived.BigQuiet
namespace Go.Proofs.Ytboffligjgjgjaa
open Go.RowKit
open R6 (done done_ne done_me upd_ne upd_me)

attribute [local go_sem] gives

theorem gives_neq {P : Program} {op : Oper} {a : Act} {w : World} {R : Value → World → Prop} (ty ty2 : TypeId) (x y : Operand) (ho : op.op = .binOp .neq ty x y ty2) {u v : Value} (hx : a.eval x = u) (hy : a.eval y = v) {r : Value} (hg : (eqGuard .neq ty x y u v).run P w = .ok () w)
    (hr : (binOp .neq ty u v).run P w = .ok r w) (h : R r w) : gives P op a w R := by
  unfold gives execOp
  simp only [ho, hx, hy, Sem.run_bind, hg, hr, Result.andThen_ok]
  exact h
theorem guard_struct {P : Program} {ty : TypeId} {x y : Operand} {X Y : Array Value} {w : World} (hg : P.eqGuardType P.depth ty = false) : (eqGuard .neq ty x y (.agg X) (.agg Y)).run P w = .ok () w := by
  unfold eqGuard
  simp [hg, go_sem]

set_option maxRecDepth 100000 in
set_option maxHeartbeats 8000000 in
theorem rfSame_any (ps : List Pol) (ts : List Ts) (A1 A2 T1 T2 : Option Addr) (c1 c2 d1 d2 : Nat) (B : Nat) (w : World) (hB : B ≤ w.heap.size) (h1 : ShAt w B ps ts A1 T1) (h2 : ShAt w B ps ts A2 T2) :
    Calls Try.prog 16 #[.agg #[.slice A1 ps.length c1, .slice T1 ts.length d1], .agg #[.slice A2 ps.length c2, .slice T2 ts.length d2]] w fun e w' => e = .returned (.bool true) ∧ Below w.heap.size w w' := by
  obtain ⟨w1, hw1⟩ : ∃ w1, (w.alloc (.cells #[.slice A1 ps.length c1, .slice T1 ts.length d1] 25)).alloc (.cells #[.slice A2 ps.length c2, .slice T2 ts.length d2] 25) = w1 := ⟨_, rfl⟩
  have hb1 : Below w.heap.size w w1 := by rw [← hw1]; exact grow2 _ _ _
  have m1 : w1.heap[w.heap.size]? = some (.cells #[.slice A1 ps.length c1, .slice T1 ts.length d1] 25 (0, 0)) := by rw [← hw1]; exact alloc2_at0 _ _ _
  have m2 : w1.heap[w.heap.size + 1]? = some (.cells #[.slice A2 ps.length c2, .slice T2 ts.length d2] 25 (0, 0)) := by rw [← hw1]; exact alloc2_at1 _ _ _
  have f1 : w1.cell? ⟨w.heap.size, 0, none⟩ = some (.slice A1 ps.length c1) := cell_of_row w1 _ 0 _ _ _ m1
  have f2 : w1.cell? ⟨w.heap.size, 1, none⟩ = some (.slice T1 ts.length d1) := cell_of_row w1 _ 1 _ _ _ m1
  have f3 : w1.cell? ⟨w.heap.size + 1, 0, none⟩ = some (.slice A2 ps.length c2) := cell_of_row w1 _ 0 _ _ _ m2
  have f4 : w1.cell? ⟨w.heap.size + 1, 1, none⟩ = some (.slice T2 ts.length d2) := cell_of_row w1 _ 1 _ _ _ m2
  have H1 := Lib.hid (And.intro hb1 (And.intro m1 m2))
  have HP := Lib.hid (And.intro h1.p (And.intro h2.p hB))
  have HT := Lib.hid (And.intro h1.t (And.intro h2.t hB))
  have hlp := h1.lp
  have hlt := h1.lt
  clear hb1 m1 m2 h1 h2
  go_enter Try.func16, Try.ntmps16
  go_wp2
  clear f1 f2 f3 f4
  go_loopg [5] ps.length (fun gn s5 wx => ∃ k : Nat, k + gn = ps.length ∧ s5 = .int .i64 k ∧ Hid (Below w.heap.size w wx ∧ wx.heap[w.heap.size]? = some (.cells #[.slice A1 ps.length c1, .slice T1 ts.length d1] 25 (0, 0)) ∧ wx.heap[w.heap.size + 1]? = some (.cells #[.slice A2 ps.length c2, .slice T2 ts.length d2] 25 (0, 0))))
  case atStart => exact ⟨0, by omega, rfl, H1.out⟩
  case round =>
    obtain ⟨k, hkg, rfl, hI⟩ := hrel
    have hca : wr.cell? ⟨w.heap.size, 0, none⟩ = some (.slice A1 ps.length c1) := cell_of_row wr _ 0 _ _ _ hI.out.2.1
    cases gk with
    | zero =>
      obtain rfl : k = ps.length := by omega
      go_wp2
      have HI0 := Lib.hid hI.out
      clear hI hca
      go_loopg [6] ts.length (fun gn s6 wx => ∃ k : Nat, k + gn = ts.length ∧ s6 = .int .i64 k ∧ Hid (Below w.heap.size w wx ∧ wx.heap[w.heap.size]? = some (.cells #[.slice A1 ps.length c1, .slice T1 ts.length d1] 25 (0, 0)) ∧ wx.heap[w.heap.size + 1]? = some (.cells #[.slice A2 ps.length c2, .slice T2 ts.length d2] 25 (0, 0))))
      case atStart => exact ⟨0, by omega, rfl, HI0.out⟩
      case round =>
        obtain ⟨k, hkg, rfl, hI⟩ := hrel
        have hca : wr.cell? ⟨w.heap.size, 1, none⟩ = some (.slice T1 ts.length d1) := cell_of_row wr _ 1 _ _ _ hI.out.2.1
        cases gk with
        | zero =>
          obtain rfl : k = ts.length := by omega
          go_wp2
          go_ret
          exact ⟨rfl, hI.out.1⟩
        | succ gn =>
          have hk : k < ts.length := by omega
          have hkz : (k : Int) < ts.length := by omega
          obtain ⟨b1, o1, hA1, hB1, hc1⟩ := vals_elem tcl_len HT.out.1 (by decide) hk
          obtain ⟨b2, o2, hA2, hB2, hc2⟩ := vals_elem tcl_len HT.out.2.1 (by decide) hk
          subst hA1 hA2
          have hd1 := fun (W : World) (hW : Below wr.heap.size wr W) j v hv => ((hI.out.1.trans (hW.mono hI.out.1.size)).cell (p := ⟨b1, o1 + k * 5 + j, none⟩) (Nat.lt_of_lt_of_le hB1 HT.out.2.2)).trans (hc1 j v hv)
          have hd2 := fun (W : World) (hW : Below wr.heap.size wr W) j v hv => ((hI.out.1.trans (hW.mono hI.out.1.size)).cell (p := ⟨b2, o2 + k * 5 + j, none⟩) (Nat.lt_of_lt_of_le hB2 HT.out.2.2)).trans (hc2 j v hv)
          generalize ts[k] = y at hd1 hd2
          have HD := Lib.hid (And.intro hd1 hd2)
          clear hd1 hd2 hc1 hc2
          go_wp2
          refine R6.wp_walk (C := fun _ _ W => Below wr.heap.size wr W) 59 (by kernel_rfl) (by kernel_rfl) rfl (Below.refl _ _).drew ?_
          simp only []
          repeat (first
            | (refine' R6.WalkR.det (fun _ => rfl) (fun D ρ W hK hC => ?_) ?_
               rotate_left
               · have f1 : W.cell? ⟨w.heap.size, 1, none⟩ = some (.slice (some ⟨b1, o1, none⟩) ts.length d1) := cell_of_row W _ 1 _ _ _ ((hC.block _ (lt_of_heap hI.out.2.1)).trans hI.out.2.1)
                 have f2 : W.cell? ⟨w.heap.size + 1, 1, none⟩ = some (.slice (some ⟨b2, o2, none⟩) ts.length d2) := cell_of_row W _ 1 _ _ _ ((hC.block _ (lt_of_heap hI.out.2.2)).trans hI.out.2.2)
                 have HC := Lib.hid hC
                 clear hC hK
                 go_simp
                 with_reducible exact ⟨rfl, HC.out⟩
               simp only [Act.put, List.setIfInBounds_toArray, List.set_cons_succ, List.set_cons_zero]))
          refine' R6.WalkR.det (fun _ => rfl) (fun D ρ W hK hC => ?_) ?_
          rotate_left
          · exact gives_load_at 78 (.tmp 51) rfl rfl (tcl y) (HD.out.1 W hC) rowTest ⟨rfl, hC⟩
          simp only [Act.put, List.setIfInBounds_toArray, List.set_cons_succ, List.set_cons_zero]
          repeat (first
            | (refine' R6.WalkR.det (fun _ => rfl) (fun D ρ W hK hC => ?_) ?_
               rotate_left
               · have f1 : W.cell? ⟨w.heap.size, 1, none⟩ = some (.slice (some ⟨b1, o1, none⟩) ts.length d1) := cell_of_row W _ 1 _ _ _ ((hC.block _ (lt_of_heap hI.out.2.1)).trans hI.out.2.1)
                 have f2 : W.cell? ⟨w.heap.size + 1, 1, none⟩ = some (.slice (some ⟨b2, o2, none⟩) ts.length d2) := cell_of_row W _ 1 _ _ _ ((hC.block _ (lt_of_heap hI.out.2.2)).trans hI.out.2.2)
                 have HC := Lib.hid hC
                 clear hC hK
                 go_simp
                 with_reducible exact ⟨rfl, HC.out⟩
               simp only [Act.put, List.setIfInBounds_toArray, List.set_cons_succ, List.set_cons_zero]))
          refine' R6.WalkR.det (fun _ => rfl) (fun D ρ W hK hC => ?_) ?_
          rotate_left
          · exact gives_load_at 78 (.tmp 56) rfl rfl (tcl y) (HD.out.2 W hC) rowTest ⟨rfl, hC⟩
          simp only [Act.put, List.setIfInBounds_toArray, List.set_cons_succ, List.set_cons_zero]
          refine' R6.WalkR.det (fun _ => rfl) (fun D ρ W hK hC => ?_) ?_
          rotate_left
          · exact gives_neq 78 78 (.tmp 52) (.tmp 57) rfl rfl rfl (guard_struct guardTest5) (neqTest5 W y) ⟨rfl, hC⟩
          simp only [Act.put, List.setIfInBounds_toArray, List.set_cons_succ, List.set_cons_zero]
          refine R6.WalkR.nil (fun D ρ W6 hD hC => ?_)
          have H6 := Lib.hid (And.intro (hI.out.1.trans (hC.mono hI.out.1.size)) (And.intro ((hC.block _ (lt_of_heap hI.out.2.1)).trans hI.out.2.1) ((hC.block _ (lt_of_heap hI.out.2.2)).trans hI.out.2.2)))
          clear hC hD
          go_wp2
          go_roundg gn
          case measure => omega
          case rel => exact ⟨k + 1, by omega, by go_num, H6.out⟩
    | succ gn =>
      have hk : k < ps.length := by omega
      have hkz : (k : Int) < ps.length := by omega
      obtain ⟨b1, o1, hA1, hB1, hc1⟩ := vals_elem pcl_len HP.out.1 (by decide) hk
      obtain ⟨b2, o2, hA2, hB2, hc2⟩ := vals_elem pcl_len HP.out.2.1 (by decide) hk
      subst hA1 hA2
      have hd1 := fun (W : World) (hW : Below wr.heap.size wr W) j v hv => ((hI.out.1.trans (hW.mono hI.out.1.size)).cell (p := ⟨b1, o1 + k * 12 + j, none⟩) (Nat.lt_of_lt_of_le hB1 HP.out.2.2)).trans (hc1 j v hv)
      have hd2 := fun (W : World) (hW : Below wr.heap.size wr W) j v hv => ((hI.out.1.trans (hW.mono hI.out.1.size)).cell (p := ⟨b2, o2 + k * 12 + j, none⟩) (Nat.lt_of_lt_of_le hB2 HP.out.2.2)).trans (hc2 j v hv)
      generalize ps[k] = y at hd1 hd2
      have HD := Lib.hid (And.intro hd1 hd2)
      clear hd1 hd2 hc1 hc2
      go_wp2
      refine R6.wp_walk (C := fun _ _ W => Below wr.heap.size wr W) 59 (by kernel_rfl) (by kernel_rfl) rfl (Below.refl _ _).drew ?_
      simp only []
      repeat (first
        | (refine' R6.WalkR.det (fun _ => rfl) (fun D ρ W hK hC => ?_) ?_
           rotate_left
           · have f1 : W.cell? ⟨w.heap.size, 0, none⟩ = some (.slice (some ⟨b1, o1, none⟩) ps.length c1) := cell_of_row W _ 0 _ _ _ ((hC.block _ (lt_of_heap hI.out.2.1)).trans hI.out.2.1)
             have f2 : W.cell? ⟨w.heap.size + 1, 0, none⟩ = some (.slice (some ⟨b2, o2, none⟩) ps.length c2) := cell_of_row W _ 0 _ _ _ ((hC.block _ (lt_of_heap hI.out.2.2)).trans hI.out.2.2)
             have HC := Lib.hid hC
             clear hC hK
             go_simp
             with_reducible exact ⟨rfl, HC.out⟩
           simp only [Act.put, List.setIfInBounds_toArray, List.set_cons_succ, List.set_cons_zero]))
      refine' R6.WalkR.det (fun _ => rfl) (fun D ρ W hK hC => ?_) ?_
      rotate_left
      · exact gives_load_at 58 (.tmp 33) rfl rfl (pcl y) (HD.out.1 W hC) rowPole ⟨rfl, hC⟩
      simp only [Act.put, List.setIfInBounds_toArray, List.set_cons_succ, List.set_cons_zero]
      repeat (first
        | (refine' R6.WalkR.det (fun _ => rfl) (fun D ρ W hK hC => ?_) ?_
           rotate_left
           · have f1 : W.cell? ⟨w.heap.size, 0, none⟩ = some (.slice (some ⟨b1, o1, none⟩) ps.length c1) := cell_of_row W _ 0 _ _ _ ((hC.block _ (lt_of_heap hI.out.2.1)).trans hI.out.2.1)
             have f2 : W.cell? ⟨w.heap.size + 1, 0, none⟩ = some (.slice (some ⟨b2, o2, none⟩) ps.length c2) := cell_of_row W _ 0 _ _ _ ((hC.block _ (lt_of_heap hI.out.2.2)).trans hI.out.2.2)
             have HC := Lib.hid hC
             clear hC hK
             go_simp
             with_reducible exact ⟨rfl, HC.out⟩
           simp only [Act.put, List.setIfInBounds_toArray, List.set_cons_succ, List.set_cons_zero]))
      refine' R6.WalkR.det (fun _ => rfl) (fun D ρ W hK hC => ?_) ?_
      rotate_left
      · exact gives_load_at 58 (.tmp 38) rfl rfl (pcl y) (HD.out.2 W hC) rowPole ⟨rfl, hC⟩
      simp only [Act.put, List.setIfInBounds_toArray, List.set_cons_succ, List.set_cons_zero]
      refine' R6.WalkR.det (fun _ => rfl) (fun D ρ W hK hC => ?_) ?_
      rotate_left
      · exact gives_neq 58 58 (.tmp 34) (.tmp 39) rfl rfl rfl (guard_struct guardPole5) (neqPole5 W y) ⟨rfl, hC⟩
      simp only [Act.put, List.setIfInBounds_toArray, List.set_cons_succ, List.set_cons_zero]
      refine R6.WalkR.nil (fun D ρ W6 hD hC => ?_)
      have H6 := Lib.hid (And.intro (hI.out.1.trans (hC.mono hI.out.1.size)) (And.intro ((hC.block _ (lt_of_heap hI.out.2.1)).trans hI.out.2.1) ((hC.block _ (lt_of_heap hI.out.2.2)).trans hI.out.2.2)))
      clear hC hD
      go_wp2
      go_roundg gn
      case measure => omega
      case rel => exact ⟨k + 1, by omega, by go_num, H6.out⟩

set_option maxRecDepth 100000 in
set_option maxHeartbeats 8000000 in
theorem rfSameGrading_any (gs : List Gd) (vary : Int) (A1 A2 : Option Addr) (c1 c2 : Nat) (B : Nat) (w : World) (hB : B ≤ w.heap.size) (h1 : GdAt w B gs A1) (h2 : GdAt w B gs A2) :
    Calls Try.prog 17 #[.agg #[.slice A1 gs.length c1, .int .i64 vary], .agg #[.slice A2 gs.length c2, .int .i64 vary]] w fun e w' => e = .returned (.bool true) ∧ Below w.heap.size w w' := by
  obtain ⟨w1, hw1⟩ : ∃ w1, (w.alloc (.cells #[.slice A1 gs.length c1, .int .i64 vary] 28)).alloc (.cells #[.slice A2 gs.length c2, .int .i64 vary] 28) = w1 := ⟨_, rfl⟩
  have hb1 : Below w.heap.size w w1 := by rw [← hw1]; exact grow2 _ _ _
  have m1 : w1.heap[w.heap.size]? = some (.cells #[.slice A1 gs.length c1, .int .i64 vary] 28 (0, 0)) := by rw [← hw1]; exact alloc2_at0 _ _ _
  have m2 : w1.heap[w.heap.size + 1]? = some (.cells #[.slice A2 gs.length c2, .int .i64 vary] 28 (0, 0)) := by rw [← hw1]; exact alloc2_at1 _ _ _
  have f1 : w1.cell? ⟨w.heap.size, 0, none⟩ = some (.slice A1 gs.length c1) := cell_of_row w1 _ 0 _ _ _ m1
  have f2 : w1.cell? ⟨w.heap.size, 1, none⟩ = some (.int .i64 vary) := cell_of_row w1 _ 1 _ _ _ m1
  have f3 : w1.cell? ⟨w.heap.size + 1, 0, none⟩ = some (.slice A2 gs.length c2) := cell_of_row w1 _ 0 _ _ _ m2
  have f4 : w1.cell? ⟨w.heap.size + 1, 1, none⟩ = some (.int .i64 vary) := cell_of_row w1 _ 1 _ _ _ m2
  have H1 := Lib.hid (And.intro hb1 (And.intro m1 m2))
  have HP := Lib.hid (And.intro h1.g (And.intro h2.g hB))
  have hlp := h1.lg
  clear hb1 m1 m2 h1 h2
  go_enter Try.func17, Try.ntmps17
  go_wp2
  clear f1 f2 f3 f4
  go_loopg [5] gs.length (fun gn s5 wx => ∃ k : Nat, k + gn = gs.length ∧ s5 = .int .i64 k ∧ Hid (Below w.heap.size w wx ∧ wx.heap[w.heap.size]? = some (.cells #[.slice A1 gs.length c1, .int .i64 vary] 28 (0, 0)) ∧ wx.heap[w.heap.size + 1]? = some (.cells #[.slice A2 gs.length c2, .int .i64 vary] 28 (0, 0))))
  case atStart => exact ⟨0, by omega, rfl, H1.out⟩
  case round =>
    obtain ⟨k, hkg, rfl, hI⟩ := hrel
    have hca : wr.cell? ⟨w.heap.size, 0, none⟩ = some (.slice A1 gs.length c1) := cell_of_row wr _ 0 _ _ _ hI.out.2.1
    cases gk with
    | zero =>
      obtain rfl : k = gs.length := by omega
      go_wp2
      go_ret
      exact ⟨rfl, hI.out.1⟩
    | succ gn =>
      have hk : k < gs.length := by omega
      have hkz : (k : Int) < gs.length := by omega
      obtain ⟨b1, o1, hA1, hB1, hc1⟩ := vals_elem gcl_len HP.out.1 (by decide) hk
      obtain ⟨b2, o2, hA2, hB2, hc2⟩ := vals_elem gcl_len HP.out.2.1 (by decide) hk
      subst hA1 hA2
      have hd1 := fun (W : World) (hW : Below wr.heap.size wr W) j v hv => ((hI.out.1.trans (hW.mono hI.out.1.size)).cell (p := ⟨b1, o1 + k * 8 + j, none⟩) (Nat.lt_of_lt_of_le hB1 HP.out.2.2)).trans (hc1 j v hv)
      have hd2 := fun (W : World) (hW : Below wr.heap.size wr W) j v hv => ((hI.out.1.trans (hW.mono hI.out.1.size)).cell (p := ⟨b2, o2 + k * 8 + j, none⟩) (Nat.lt_of_lt_of_le hB2 HP.out.2.2)).trans (hc2 j v hv)
      generalize gs[k] = y at hd1 hd2
      have HD := Lib.hid (And.intro hd1 hd2)
      clear hd1 hd2 hc1 hc2
      go_wp2
      refine R6.wp_walk (C := fun _ _ W => Below wr.heap.size wr W) 38 (by kernel_rfl) (by kernel_rfl) rfl (Below.refl _ _).drew ?_
      simp only []
      repeat (first
        | (refine' R6.WalkR.det (fun _ => rfl) (fun D ρ W hK hC => ?_) ?_
           rotate_left
           · have f1 : W.cell? ⟨w.heap.size, 0, none⟩ = some (.slice (some ⟨b1, o1, none⟩) gs.length c1) := cell_of_row W _ 0 _ _ _ ((hC.block _ (lt_of_heap hI.out.2.1)).trans hI.out.2.1)
             have f2 : W.cell? ⟨w.heap.size + 1, 0, none⟩ = some (.slice (some ⟨b2, o2, none⟩) gs.length c2) := cell_of_row W _ 0 _ _ _ ((hC.block _ (lt_of_heap hI.out.2.2)).trans hI.out.2.2)
             have HC := Lib.hid hC
             clear hC hK
             go_simp
             with_reducible exact ⟨rfl, HC.out⟩
           simp only [Act.put, List.setIfInBounds_toArray, List.set_cons_succ, List.set_cons_zero]))
      refine' R6.WalkR.det (fun _ => rfl) (fun D ρ W hK hC => ?_) ?_
      rotate_left
      · exact gives_load_at 82 (.tmp 30) rfl rfl (gcl y) (HD.out.1 W hC) rowGrade ⟨rfl, hC⟩
      simp only [Act.put, List.setIfInBounds_toArray, List.set_cons_succ, List.set_cons_zero]
      repeat (first
        | (refine' R6.WalkR.det (fun _ => rfl) (fun D ρ W hK hC => ?_) ?_
           rotate_left
           · have f1 : W.cell? ⟨w.heap.size, 0, none⟩ = some (.slice (some ⟨b1, o1, none⟩) gs.length c1) := cell_of_row W _ 0 _ _ _ ((hC.block _ (lt_of_heap hI.out.2.1)).trans hI.out.2.1)
             have f2 : W.cell? ⟨w.heap.size + 1, 0, none⟩ = some (.slice (some ⟨b2, o2, none⟩) gs.length c2) := cell_of_row W _ 0 _ _ _ ((hC.block _ (lt_of_heap hI.out.2.2)).trans hI.out.2.2)
             have HC := Lib.hid hC
             clear hC hK
             go_simp
             with_reducible exact ⟨rfl, HC.out⟩
           simp only [Act.put, List.setIfInBounds_toArray, List.set_cons_succ, List.set_cons_zero]))
      refine' R6.WalkR.det (fun _ => rfl) (fun D ρ W hK hC => ?_) ?_
      rotate_left
      · exact gives_load_at 82 (.tmp 35) rfl rfl (gcl y) (HD.out.2 W hC) rowGrade ⟨rfl, hC⟩
      simp only [Act.put, List.setIfInBounds_toArray, List.set_cons_succ, List.set_cons_zero]
      refine' R6.WalkR.det (fun _ => rfl) (fun D ρ W hK hC => ?_) ?_
      rotate_left
      · exact gives_neq 82 82 (.tmp 31) (.tmp 36) rfl rfl rfl (guard_struct guardGrade5) (neqGrade5 W y) ⟨rfl, hC⟩
      simp only [Act.put, List.setIfInBounds_toArray, List.set_cons_succ, List.set_cons_zero]
      refine R6.WalkR.nil (fun D ρ W6 hD hC => ?_)
      have H6 := Lib.hid (And.intro (hI.out.1.trans (hC.mono hI.out.1.size)) (And.intro ((hC.block _ (lt_of_heap hI.out.2.1)).trans hI.out.2.1) ((hC.block _ (lt_of_heap hI.out.2.2)).trans hI.out.2.2)))
      clear hC hD
      go_wp2
      go_roundg gn
      case measure => omega
      case rel => exact ⟨k + 1, by omega, by go_num, H6.out⟩

set_option maxRecDepth 100000 in
set_option maxHeartbeats 8000000 in
theorem rfSameInts_any (L : List Int) (A1 A2 : Option Addr) (c1 c2 : Nat) (B : Nat) (w : World) (h1 : Ints w B A1 L) (h2 : Ints w B A2 L) (hl : L.length ≤ 1000000) :
    Calls Try.prog 15 #[.slice A1 L.length c1, .slice A2 L.length c2] w fun e w' => e = .returned (.bool true) ∧ Below w.heap.size w w' := by
  have HP := Lib.hid (And.intro h1 h2)
  clear h1 h2
  go_enter Try.func15, Try.ntmps15
  go_wp2
  go_loopg [5] L.length (fun gn s5 wx => ∃ k : Nat, k + gn = L.length ∧ s5 = .int .i64 k ∧ Hid (Below w.heap.size w wx) ∧ Hid (∀ a : Addr, wx.cell? a = w.cell? a))
  case atStart => exact ⟨0, by omega, rfl, Below.refl _ _, fun _ => rfl⟩
  case round =>
    obtain ⟨k, hkg, rfl, hI, hcw⟩ := hrel
    cases gk with
    | zero =>
      obtain rfl : k = L.length := by omega
      go_wp2
      go_ret
      exact ⟨rfl, hI.out⟩
    | succ gn =>
      have hk : k < L.length := by omega
      have hkz : (k : Int) < L.length := by omega
      obtain ⟨b1, o1, hA1, -, hc1⟩ := HP.out.1 (by omega)
      obtain ⟨b2, o2, hA2, -, hc2⟩ := HP.out.2 (by omega)
      subst hA1 hA2
      have hx1 := hc1 k hk
      have hx2 := hc2 k hk
      generalize L[k]?.getD 0 = x at hx1 hx2
      have f1 : wr.cell? ⟨b1, o1 + k, none⟩ = _ := (hcw.out _).trans hx1
      have f2 : wr.cell? ⟨b2, o2 + k, none⟩ = _ := (hcw.out _).trans hx2
      clear hc1 hc2 hx1 hx2
      go_wp2
      go_quiet (fail)
      go_wp2
      go_roundg gn
      case measure => omega
      case rel => exact ⟨k + 1, by omega, by go_num, below_drewN hI.out _, hcw.out⟩

end Go.Proofs.Ytboffligjgjgjaa
