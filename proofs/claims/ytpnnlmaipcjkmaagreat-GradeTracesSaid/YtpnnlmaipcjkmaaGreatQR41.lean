/-
  Twins of a sheet and a grading that a region makes, and the boxes that they come into.
-/
import Derived.ChangeKeysEq
import Derived.Test.YtpnnlmaipcjkmaaGreatQR4
import Derived.Deep.QuietTactic
import Derived.BigQuiet
import Derived.Test.YtpnnlmaipcjkmaaGreatQR17
import Derived.Test.YtpnnlmaipcjkmaaGreatQR23
set_option linter.all false
namespace Go.Proofs.YtpnnlmaipcjkmaaGreat
open Go.RowKit

theorem part_int5 (w : World) (A : List Int) (i : Nat) (h : i < A.length) : (part 3 (ints A).toArray i).run Tryz.prog w = .ok (.int .i64 (A[i]?.getD 0)) w := by
  have e : (ints A).toArray[i]? = some (.int .i64 (A[i]?.getD 0)) := ints_at A i h
  unfold part
  simp only [isAgg, Sem.run_bind, run_underlying Tryz.underlying3, Result.andThen_ok, Sem.run_pure, e]
  rfl
theorem eqItems_self5 (w : World) (d : Nat) (A : List Int) : ∀ is : List Nat, (∀ i ∈ is, i < A.length) → (Op.eqItems (d + 1) 3 1 (ints A).toArray (ints A).toArray is).run Tryz.prog w = .ok true w
  | [], _ => by simp [Op.eqItems]
  | i :: is, h => by
    have h1 := h i (List.mem_cons_self ..)
    have ih := eqItems_self5 w d A is (fun x hx => h x (List.mem_cons_of_mem _ hx))
    have p1 := part_int5 w A i h1
    simp only [Op.eqItems, Nat.mul_one, Sem.run_bind, p1, run_equalIn_int w d 3 .i64 .i64 _ _ Tryz.underlying3, Result.andThen_ok, beq_self_eq_true, Bool.not_true, Bool.false_eq_true, if_false]
    exact ih
theorem infoInt5 : ∃ i, Tryz.prog.info? 3 = some i := by
  have h : (Tryz.prog.info? 3).map (·.size) = some 1 := by kernel_rfl
  cases hq : Tryz.prog.info? 3 with
  | none => rw [hq] at h; cases h
  | some i => exact ⟨i, rfl⟩
theorem cellsInt5 : Tryz.prog.cellsOf 3 = 1 := by kernel_rfl
theorem equal_three (w : World) (d : Nat) (a b c : Int) : (Op.equalIn (d + 2) 54 (.agg #[.int .i64 a, .int .i64 b, .int .i64 c]) (.agg #[.int .i64 a, .int .i64 b, .int .i64 c])).run Tryz.prog w = .ok true w := by
  obtain ⟨j, hj⟩ := infoInt5
  have := eqItems_self5 w d [a, b, c] (List.range 3) (fun i hi => by have := List.mem_range.1 hi; simpa using this)
  rw [run_equalIn_array w (d + 1) _ _ Tryz.underlying54 hj, cellsInt5]
  exact this
theorem stPole5 : Tryz.prog.underlying 56 = some (.struct (Tryz.prog.fieldsOf 56)) := by kernel_rfl
theorem heldPole5 : Tryz.prog.stoodInHeld 56 = false := by kernel_rfl
theorem guardPole5 : Tryz.prog.eqGuardType Tryz.prog.depth 56 = false := by kernel_rfl
theorem stTest5 : Tryz.prog.underlying 58 = some (.struct (Tryz.prog.fieldsOf 58)) := by kernel_rfl
theorem heldTest5 : Tryz.prog.stoodInHeld 58 = false := by kernel_rfl
theorem guardTest5 : Tryz.prog.eqGuardType Tryz.prog.depth 58 = false := by kernel_rfl
theorem neqTest5 (w : World) (t : Ts) : (binOp .neq 58 (.agg (tcl t).toArray) (.agg (tcl t).toArray)).run Tryz.prog w = .ok (.bool false) w := by
  unfold tcl
  rw [run_neq_struct, run_equalIn_agg _ _ _ _ _ stTest5 heldTest5]
  simp [Program.fieldsOf, Tryz.underlying58, Op.eqFields, go_sem]
theorem neqPole5 (w : World) (p : Pol) : (binOp .neq 56 (.agg (pcl p).toArray) (.agg (pcl p).toArray)).run Tryz.prog w = .ok (.bool false) w := by
  unfold pcl
  rw [run_neq_struct, run_equalIn_agg _ _ _ _ _ stPole5 heldPole5]
  have h3 : ∀ W a b c, (Op.equalIn 9999 54 (.agg #[.int .i64 a, .int .i64 b, .int .i64 c]) (.agg #[.int .i64 a, .int .i64 b, .int .i64 c])).run Tryz.prog W = .ok true W := fun W a b c => equal_three W 9997 a b c
  simp [Program.fieldsOf, Tryz.underlying56, Tryz.underlying54, Op.eqFields, go_sem, h3]
end Go.Proofs.YtpnnlmaipcjkmaaGreat

namespace Go.Proofs.YtpnnlmaipcjkmaaGreat
open Go.RowKit
open R6 (done done_ne done_me upd_ne upd_me)

attribute [local go_sem] gives

theorem gives_neq {P : Program} {op : Oper} {a : Act} {w : World} {R : Value → World → Prop} (ty ty2 : TypeId) (x y : Operand) (ho : op.op = .binOp .neq ty x y ty2) {u v : Value} (hx : a.eval x = u) (hy : a.eval y = v) {r : Value} (hg : (eqGuard .neq ty x y u v).run P w = .ok () w)
    (hr : (binOp .neq ty u v).run P w = .ok r w) (h : R r w) : gives P op a w R := by
  unfold gives execOp
  simp only [ho, hx, hy, Sem.run_bind, hg, hr, Result.andThen_ok]
  exact h
theorem guard_struct {P : Program} {ty : TypeId} {x y : Operand} {X Y : Array Value} {w : World} (hg : P.eqGuardType P.depth ty = false) : (eqGuard .neq ty x y (.agg X) (.agg Y)).run P w = .ok () w := by
  unfold eqGuard
  simp [hg, go_sem]

set_option maxRecDepth 100000 in
set_option maxHeartbeats 8000000 in
theorem rfSame_any (ps : List Pol) (ts : List Ts) (A1 A2 T1 T2 : Option Addr) (c1 c2 d1 d2 : Nat) (B : Nat) (w : World) (hB : B ≤ w.heap.size) (h1 : ShAt w B ps ts A1 T1) (h2 : ShAt w B ps ts A2 T2) :
    Calls Tryz.prog 19 #[.agg #[.slice A1 ps.length c1, .slice T1 ts.length d1], .agg #[.slice A2 ps.length c2, .slice T2 ts.length d2]] w fun e w' => e = .returned (.bool true) ∧ Below w.heap.size w w' := by
  obtain ⟨w1, hw1⟩ : ∃ w1, (w.alloc (.cells #[.slice A1 ps.length c1, .slice T1 ts.length d1] 25)).alloc (.cells #[.slice A2 ps.length c2, .slice T2 ts.length d2] 25) = w1 := ⟨_, rfl⟩
  have hb1 : Below w.heap.size w w1 := by rw [← hw1]; exact grow2 _ _ _
  have m1 : w1.heap[w.heap.size]? = some (.cells #[.slice A1 ps.length c1, .slice T1 ts.length d1] 25 (0, 0)) := by rw [← hw1]; exact alloc2_at0 _ _ _
  have m2 : w1.heap[w.heap.size + 1]? = some (.cells #[.slice A2 ps.length c2, .slice T2 ts.length d2] 25 (0, 0)) := by rw [← hw1]; exact alloc2_at1 _ _ _
  have f1 : w1.cell? ⟨w.heap.size, 0, none⟩ = some (.slice A1 ps.length c1) := cell_of_row w1 _ 0 _ _ _ m1
  have f2 : w1.cell? ⟨w.heap.size, 1, none⟩ = some (.slice T1 ts.length d1) := cell_of_row w1 _ 1 _ _ _ m1
  have f3 : w1.cell? ⟨w.heap.size + 1, 0, none⟩ = some (.slice A2 ps.length c2) := cell_of_row w1 _ 0 _ _ _ m2
  have f4 : w1.cell? ⟨w.heap.size + 1, 1, none⟩ = some (.slice T2 ts.length d2) := cell_of_row w1 _ 1 _ _ _ m2
  have H1 := Lib.hid (And.intro hb1 (And.intro m1 m2))
  have HP := Lib.hid (And.intro h1.p (And.intro h2.p hB))
  have HT := Lib.hid (And.intro h1.t (And.intro h2.t hB))
  have hlp := h1.lp
  have hlt := h1.lt
  clear hb1 m1 m2 h1 h2
  go_enter Tryz.func19, Tryz.ntmps19
  go_wp2
  clear f1 f2 f3 f4
  go_loopg [5] ps.length (fun gn s5 wx => ∃ k : Nat, k + gn = ps.length ∧ s5 = .int .i64 k ∧ Hid (Below w.heap.size w wx ∧ wx.heap[w.heap.size]? = some (.cells #[.slice A1 ps.length c1, .slice T1 ts.length d1] 25 (0, 0)) ∧ wx.heap[w.heap.size + 1]? = some (.cells #[.slice A2 ps.length c2, .slice T2 ts.length d2] 25 (0, 0))))
  case atStart => exact ⟨0, by omega, rfl, H1.out⟩
  case round =>
    obtain ⟨k, hkg, rfl, hI⟩ := hrel
    have hca : wr.cell? ⟨w.heap.size, 0, none⟩ = some (.slice A1 ps.length c1) := cell_of_row wr _ 0 _ _ _ hI.out.2.1
    cases gk with
    | zero =>
      obtain rfl : k = ps.length := by omega
      go_wp2
      have HI0 := Lib.hid hI.out
      clear hI hca
      go_loopg [6] ts.length (fun gn s6 wx => ∃ k : Nat, k + gn = ts.length ∧ s6 = .int .i64 k ∧ Hid (Below w.heap.size w wx ∧ wx.heap[w.heap.size]? = some (.cells #[.slice A1 ps.length c1, .slice T1 ts.length d1] 25 (0, 0)) ∧ wx.heap[w.heap.size + 1]? = some (.cells #[.slice A2 ps.length c2, .slice T2 ts.length d2] 25 (0, 0))))
      case atStart => exact ⟨0, by omega, rfl, HI0.out⟩
      case round =>
        obtain ⟨k, hkg, rfl, hI⟩ := hrel
        have hca : wr.cell? ⟨w.heap.size, 1, none⟩ = some (.slice T1 ts.length d1) := cell_of_row wr _ 1 _ _ _ hI.out.2.1
        cases gk with
        | zero =>
          obtain rfl : k = ts.length := by omega
          go_wp2
          go_ret
          exact ⟨rfl, hI.out.1⟩
        | succ gn =>
          have hk : k < ts.length := by omega
          have hkz : (k : Int) < ts.length := by omega
          obtain ⟨b1, o1, hA1, hB1, hc1⟩ := vals_elem tcl_len HT.out.1 (by decide) hk
          obtain ⟨b2, o2, hA2, hB2, hc2⟩ := vals_elem tcl_len HT.out.2.1 (by decide) hk
          subst hA1 hA2
          have hd1 := fun (W : World) (hW : Below wr.heap.size wr W) j v hv => ((hI.out.1.trans (hW.mono hI.out.1.size)).cell (p := ⟨b1, o1 + k * 5 + j, none⟩) (Nat.lt_of_lt_of_le hB1 HT.out.2.2)).trans (hc1 j v hv)
          have hd2 := fun (W : World) (hW : Below wr.heap.size wr W) j v hv => ((hI.out.1.trans (hW.mono hI.out.1.size)).cell (p := ⟨b2, o2 + k * 5 + j, none⟩) (Nat.lt_of_lt_of_le hB2 HT.out.2.2)).trans (hc2 j v hv)
          generalize ts[k] = y at hd1 hd2
          have HD := Lib.hid (And.intro hd1 hd2)
          clear hd1 hd2 hc1 hc2
          go_wp2
          refine R6.wp_walk (C := fun _ _ W => Below wr.heap.size wr W) 59 (by kernel_rfl) (by kernel_rfl) rfl (Below.refl _ _).drew ?_
          simp only []
          repeat (first
            | (refine' R6.WalkR.det (fun _ => rfl) (fun D ρ W hK hC => ?_) ?_
               rotate_left
               · have f1 : W.cell? ⟨w.heap.size, 1, none⟩ = some (.slice (some ⟨b1, o1, none⟩) ts.length d1) := cell_of_row W _ 1 _ _ _ ((hC.block _ (lt_of_heap hI.out.2.1)).trans hI.out.2.1)
                 have f2 : W.cell? ⟨w.heap.size + 1, 1, none⟩ = some (.slice (some ⟨b2, o2, none⟩) ts.length d2) := cell_of_row W _ 1 _ _ _ ((hC.block _ (lt_of_heap hI.out.2.2)).trans hI.out.2.2)
                 have HC := Lib.hid hC
                 clear hC hK
                 go_simp
                 with_reducible exact ⟨rfl, HC.out⟩
               simp only [Act.put, List.setIfInBounds_toArray, List.set_cons_succ, List.set_cons_zero]))
          refine' R6.WalkR.det (fun _ => rfl) (fun D ρ W hK hC => ?_) ?_
          rotate_left
          · exact gives_load_at 58 (.tmp 51) rfl rfl (tcl y) (HD.out.1 W hC) rowTest ⟨rfl, hC⟩
          simp only [Act.put, List.setIfInBounds_toArray, List.set_cons_succ, List.set_cons_zero]
          repeat (first
            | (refine' R6.WalkR.det (fun _ => rfl) (fun D ρ W hK hC => ?_) ?_
               rotate_left
               · have f1 : W.cell? ⟨w.heap.size, 1, none⟩ = some (.slice (some ⟨b1, o1, none⟩) ts.length d1) := cell_of_row W _ 1 _ _ _ ((hC.block _ (lt_of_heap hI.out.2.1)).trans hI.out.2.1)
                 have f2 : W.cell? ⟨w.heap.size + 1, 1, none⟩ = some (.slice (some ⟨b2, o2, none⟩) ts.length d2) := cell_of_row W _ 1 _ _ _ ((hC.block _ (lt_of_heap hI.out.2.2)).trans hI.out.2.2)
                 have HC := Lib.hid hC
                 clear hC hK
                 go_simp
                 with_reducible exact ⟨rfl, HC.out⟩
               simp only [Act.put, List.setIfInBounds_toArray, List.set_cons_succ, List.set_cons_zero]))
          refine' R6.WalkR.det (fun _ => rfl) (fun D ρ W hK hC => ?_) ?_
          rotate_left
          · exact gives_load_at 58 (.tmp 56) rfl rfl (tcl y) (HD.out.2 W hC) rowTest ⟨rfl, hC⟩
          simp only [Act.put, List.setIfInBounds_toArray, List.set_cons_succ, List.set_cons_zero]
          refine' R6.WalkR.det (fun _ => rfl) (fun D ρ W hK hC => ?_) ?_
          rotate_left
          · exact gives_neq 58 58 (.tmp 52) (.tmp 57) rfl rfl rfl (guard_struct guardTest5) (neqTest5 W y) ⟨rfl, hC⟩
          simp only [Act.put, List.setIfInBounds_toArray, List.set_cons_succ, List.set_cons_zero]
          refine R6.WalkR.nil (fun D ρ W6 hD hC => ?_)
          have H6 := Lib.hid (And.intro (hI.out.1.trans (hC.mono hI.out.1.size)) (And.intro ((hC.block _ (lt_of_heap hI.out.2.1)).trans hI.out.2.1) ((hC.block _ (lt_of_heap hI.out.2.2)).trans hI.out.2.2)))
          clear hC hD
          go_wp2
          go_roundg gn
          case measure => omega
          case rel => exact ⟨k + 1, by omega, by go_num, H6.out⟩
    | succ gn =>
      have hk : k < ps.length := by omega
      have hkz : (k : Int) < ps.length := by omega
      obtain ⟨b1, o1, hA1, hB1, hc1⟩ := vals_elem pcl_len HP.out.1 (by decide) hk
      obtain ⟨b2, o2, hA2, hB2, hc2⟩ := vals_elem pcl_len HP.out.2.1 (by decide) hk
      subst hA1 hA2
      have hd1 := fun (W : World) (hW : Below wr.heap.size wr W) j v hv => ((hI.out.1.trans (hW.mono hI.out.1.size)).cell (p := ⟨b1, o1 + k * 12 + j, none⟩) (Nat.lt_of_lt_of_le hB1 HP.out.2.2)).trans (hc1 j v hv)
      have hd2 := fun (W : World) (hW : Below wr.heap.size wr W) j v hv => ((hI.out.1.trans (hW.mono hI.out.1.size)).cell (p := ⟨b2, o2 + k * 12 + j, none⟩) (Nat.lt_of_lt_of_le hB2 HP.out.2.2)).trans (hc2 j v hv)
      generalize ps[k] = y at hd1 hd2
      have HD := Lib.hid (And.intro hd1 hd2)
      clear hd1 hd2 hc1 hc2
      go_wp2
      refine R6.wp_walk (C := fun _ _ W => Below wr.heap.size wr W) 59 (by kernel_rfl) (by kernel_rfl) rfl (Below.refl _ _).drew ?_
      simp only []
      repeat (first
        | (refine' R6.WalkR.det (fun _ => rfl) (fun D ρ W hK hC => ?_) ?_
           rotate_left
           · have f1 : W.cell? ⟨w.heap.size, 0, none⟩ = some (.slice (some ⟨b1, o1, none⟩) ps.length c1) := cell_of_row W _ 0 _ _ _ ((hC.block _ (lt_of_heap hI.out.2.1)).trans hI.out.2.1)
             have f2 : W.cell? ⟨w.heap.size + 1, 0, none⟩ = some (.slice (some ⟨b2, o2, none⟩) ps.length c2) := cell_of_row W _ 0 _ _ _ ((hC.block _ (lt_of_heap hI.out.2.2)).trans hI.out.2.2)
             have HC := Lib.hid hC
             clear hC hK
             go_simp
             with_reducible exact ⟨rfl, HC.out⟩
           simp only [Act.put, List.setIfInBounds_toArray, List.set_cons_succ, List.set_cons_zero]))
      refine' R6.WalkR.det (fun _ => rfl) (fun D ρ W hK hC => ?_) ?_
      rotate_left
      · exact gives_load_at 56 (.tmp 33) rfl rfl (pcl y) (HD.out.1 W hC) rowPole ⟨rfl, hC⟩
      simp only [Act.put, List.setIfInBounds_toArray, List.set_cons_succ, List.set_cons_zero]
      repeat (first
        | (refine' R6.WalkR.det (fun _ => rfl) (fun D ρ W hK hC => ?_) ?_
           rotate_left
           · have f1 : W.cell? ⟨w.heap.size, 0, none⟩ = some (.slice (some ⟨b1, o1, none⟩) ps.length c1) := cell_of_row W _ 0 _ _ _ ((hC.block _ (lt_of_heap hI.out.2.1)).trans hI.out.2.1)
             have f2 : W.cell? ⟨w.heap.size + 1, 0, none⟩ = some (.slice (some ⟨b2, o2, none⟩) ps.length c2) := cell_of_row W _ 0 _ _ _ ((hC.block _ (lt_of_heap hI.out.2.2)).trans hI.out.2.2)
             have HC := Lib.hid hC
             clear hC hK
             go_simp
             with_reducible exact ⟨rfl, HC.out⟩
           simp only [Act.put, List.setIfInBounds_toArray, List.set_cons_succ, List.set_cons_zero]))
      refine' R6.WalkR.det (fun _ => rfl) (fun D ρ W hK hC => ?_) ?_
      rotate_left
      · exact gives_load_at 56 (.tmp 38) rfl rfl (pcl y) (HD.out.2 W hC) rowPole ⟨rfl, hC⟩
      simp only [Act.put, List.setIfInBounds_toArray, List.set_cons_succ, List.set_cons_zero]
      refine' R6.WalkR.det (fun _ => rfl) (fun D ρ W hK hC => ?_) ?_
      rotate_left
      · exact gives_neq 56 56 (.tmp 34) (.tmp 39) rfl rfl rfl (guard_struct guardPole5) (neqPole5 W y) ⟨rfl, hC⟩
      simp only [Act.put, List.setIfInBounds_toArray, List.set_cons_succ, List.set_cons_zero]
      refine R6.WalkR.nil (fun D ρ W6 hD hC => ?_)
      have H6 := Lib.hid (And.intro (hI.out.1.trans (hC.mono hI.out.1.size)) (And.intro ((hC.block _ (lt_of_heap hI.out.2.1)).trans hI.out.2.1) ((hC.block _ (lt_of_heap hI.out.2.2)).trans hI.out.2.2)))
      clear hC hD
      go_wp2
      go_roundg gn
      case measure => omega
      case rel => exact ⟨k + 1, by omega, by go_num, H6.out⟩

end Go.Proofs.YtpnnlmaipcjkmaaGreat

namespace Go.Proofs.YtpnnlmaipcjkmaaGreat
open Go.RowKit
open R6 (done done_ne done_me upd_ne upd_me)

theorem OwnS.grows {W W' : World} {base : Nat} {ps : List Pol} {ts : List Ts} {v1 v2 : Value} (h : OwnS W base ps ts v1 v2) (hg : Grows W W') : OwnS W' base ps ts v1 v2 := ⟨own_grows h.1 hg, own_grows h.2 hg⟩

structure LwC (w0 : World) (ps : List Pol) (ts : List Ts) (gs : List Gd) (vary : Int) (K : List (Nat × Obj)) (D : Nat → Bool) (σ : Nat → Value) (W : World) : Prop where
  bel : Below w0.heap.size w0 W
  box : keptK K W
  s27 : D 1 = true → ∃ v1 v2, σ 27 = .agg #[v1, v2] ∧ OwnS W w0.heap.size ps ts v1 v2
  s29 : D 3 = true → ∃ v3, σ 29 = .agg #[v3, .int .i64 vary] ∧ W.ownsRow w0.heap.size 53 8 v3 gs.length (gs.flatMap gcl)
  s9 : D 4 = true → ∃ b, σ 9 = .pointer (some ⟨b, 0, none⟩) ∧ w0.heap.size ≤ b ∧ ∃ X : List Value, X.length = 2 ∧ W.heap[b]? = some (.cells X.toArray 25 (0, 0)) ∧ (D 6 = true → σ 27 = .agg X.toArray)
  s10 : D 5 = true → ∃ b, σ 10 = .pointer (some ⟨b, 0, none⟩) ∧ w0.heap.size ≤ b ∧ ∃ X : List Value, X.length = 2 ∧ W.heap[b]? = some (.cells X.toArray 28 (0, 0)) ∧ (D 7 = true → σ 29 = .agg X.toArray)
section
variable {w0 W W' : World} {ps : List Pol} {ts : List Ts} {gs : List Gd} {vary : Int} {K : List (Nat × Obj)} {D : Nat → Bool} {σ : Nat → Value}
theorem LwC.grows (h : LwC w0 ps ts gs vary K D σ W) (hg : Grows W W') : LwC w0 ps ts gs vary K D σ W' :=
  ⟨h.bel.trans (hg.mono h.bel.size), h.box.next hg, fun a => let ⟨v1, v2, e, o⟩ := h.s27 a; ⟨v1, v2, e, o.grows hg⟩, fun a => let ⟨v3, e, o⟩ := h.s29 a; ⟨v3, e, own_grows o hg⟩,
   fun a => let ⟨b, e, hb, X, hX, hh, hd⟩ := h.s9 a; ⟨b, e, hb, X, hX, (hg.block _ (lt_of_heap hh)).trans hh, hd⟩, fun a => let ⟨b, e, hb, X, hX, hh, hd⟩ := h.s10 a; ⟨b, e, hb, X, hX, (hg.block _ (lt_of_heap hh)).trans hh, hd⟩⟩
end

end Go.Proofs.YtpnnlmaipcjkmaaGreat
