/-
  Lists of numbers, of sticks and of trunks that are compared: equal things are the same (the reference's).
-/
import Derived.Test.YtepkkhdfobhhjaaStK
namespace Go.Proofs.Ytepkkhdfobhhjaa
open Go.RowKit
open R6 (done done_ne done_me upd_ne upd_me)

attribute [local go_sem] gives

theorem gives_neqS {P : Program} {op : Oper} {a : Act} {w : World} {R : Value → World → Prop} (ty ty2 : TypeId) (x y : Operand) (ho : op.op = .binOp .neq ty x y ty2) {u v : Value} (hx : a.eval x = u) (hy : a.eval y = v) {r : Value} (hg : (eqGuard .neq ty x y u v).run P w = .ok () w)
    (hr : (binOp .neq ty u v).run P w = .ok r w) (h : R r w) : gives P op a w R := by
  unfold gives execOp
  simp only [ho, hx, hy, Sem.run_bind, hg, hr, Result.andThen_ok]
  exact h
theorem guard_structS {P : Program} {ty : TypeId} {x y : Operand} {X Y : Array Value} {w : World} (hg : P.eqGuardType P.depth ty = false) : (eqGuard .neq ty x y (.agg X) (.agg Y)).run P w = .ok () w := by
  unfold eqGuard
  simp [hg, go_sem]
theorem stStick : Try.prog.underlying 61 = some (.struct (Try.prog.fieldsOf 61)) := by kernel_rfl
theorem heldStick : Try.prog.stoodInHeld 61 = false := by kernel_rfl
theorem guardStick : Try.prog.eqGuardType Try.prog.depth 61 = false := by kernel_rfl
theorem neqStick (w : World) (t : T3) : (binOp .neq 61 (.agg (t3 t).toArray) (.agg (t3 t).toArray)).run Try.prog w = .ok (.bool false) w := by
  unfold t3
  rw [run_neq_struct, run_equalIn_agg _ _ _ _ _ stStick heldStick]
  simp [Program.fieldsOf, Try.underlying61, Op.eqFields, go_sem]

set_option maxRecDepth 100000 in
set_option maxHeartbeats 4000000 in
theorem sameInts7_any (A1 A2 : Option Addr) (c1 c2 : Nat) (zs : List Int) (B : Nat) (w : World) (hB : B ≤ w.heap.size) (h1 : Ints w B A1 zs) (h2 : Ints w B A2 zs) (hl : zs.length ≤ 1000000) :
    Calls Try.prog 26 #[.slice A1 zs.length c1, .slice A2 zs.length c2] w fun e w' => e = .returned (.bool true) ∧ Below w.heap.size w w' := by
  have H1 := Lib.hid h1
  have H2 := Lib.hid h2
  clear h1 h2
  go_enter Try.func26, Try.ntmps26
  go_wp2
  go_loopg [5] zs.length (fun gg s5 wx => ∃ k : Nat, k + gg = zs.length ∧ s5 = .int .i64 k ∧ Hid (Below w.heap.size w wx))
  case atStart => exact ⟨0, by omega, rfl, Below.refl _ _⟩
  case round =>
    obtain ⟨k, hkg, rfl, hBr⟩ := hrel
    cases gk with
    | zero =>
      obtain rfl : k = zs.length := by omega
      go_wp2
      go_ret
      exact ⟨rfl, hBr.out⟩
    | succ gg =>
      have hk : k < zs.length := by omega
      have hkz : (k : Int) < zs.length := by omega
      obtain ⟨b1, o1, hA1, hB1, hc1⟩ := H1.out (by omega)
      obtain ⟨b2, o2, hA2, hB2, hc2⟩ := H2.out (by omega)
      subst hA1 hA2
      have hws := hBr.out.size
      have hd1 := fun W (hW : Below w.heap.size w W) => (hW.cell (p := ⟨b1, o1 + k, none⟩) (by simp; omega)).trans (hc1 k hk)
      have hd2 := fun W (hW : Below w.heap.size w W) => (hW.cell (p := ⟨b2, o2 + k, none⟩) (by simp; omega)).trans (hc2 k hk)
      generalize zs[k]?.getD 0 = z at hd1 hd2
      have HD := Lib.hid (And.intro hd1 hd2)
      clear hd1 hd2 hc1 hc2
      go_wp2
      refine R6.wp_walk (C := fun _ _ W => Below wr.heap.size wr W) 26 (by kernel_rfl) (by kernel_rfl) rfl (Below.refl _ _).drew ?_
      simp only []
      repeat (first
        | (refine' R6.WalkR.det (fun _ => rfl) (fun D ρ W hK hC => ?_) ?_
           rotate_left
           · have hW := hBr.out.trans (hC.mono hws)
             have f1 := HD.out.1 W hW
             have f2 := HD.out.2 W hW
             have HC := Lib.hid hC
             clear hC hK hW
             go_simp
             with_reducible exact ⟨rfl, HC.out⟩
           simp only [Act.put, List.setIfInBounds_toArray, List.set_cons_succ, List.set_cons_zero]))
      refine R6.WalkR.nil (fun D ρ W hD hC => ?_)
      have HB := Lib.hid (hBr.out.trans (hC.mono hws))
      clear hC hD
      go_wp2
      go_roundg gg
      case measure => omega
      case rel => exact ⟨k + 1, by omega, by go_num, HB.out⟩

set_option maxRecDepth 100000 in
set_option maxHeartbeats 4000000 in
theorem sameSticks_any (A1 A2 : Option Addr) (c1 c2 : Nat) (l : List T3) (B : Nat) (w : World) (hB : B ≤ w.heap.size) (h1 : Vals w B A1 (l.flatMap t3)) (h2 : Vals w B A2 (l.flatMap t3)) (hl : l.length ≤ 1000000) :
    Calls Try.prog 15 #[.slice A1 l.length c1, .slice A2 l.length c2] w fun e w' => e = .returned (.bool true) ∧ Below w.heap.size w w' := by
  have H1 := Lib.hid h1
  have H2 := Lib.hid h2
  clear h1 h2
  go_enter Try.func15, Try.ntmps15
  go_wp2
  go_loopg [5] l.length (fun gg s5 wx => ∃ k : Nat, k + gg = l.length ∧ s5 = .int .i64 k ∧ Hid (Below w.heap.size w wx))
  case atStart => exact ⟨0, by omega, rfl, Below.refl _ _⟩
  case round =>
    obtain ⟨k, hkg, rfl, hBr⟩ := hrel
    cases gk with
    | zero =>
      obtain rfl : k = l.length := by omega
      go_wp2
      go_ret
      exact ⟨rfl, hBr.out⟩
    | succ gg =>
      have hk : k < l.length := by omega
      have hkz : (k : Int) < l.length := by omega
      obtain ⟨b1, o1, hA1, hB1, hc1⟩ := vals_elem t3_len H1.out (by decide) hk
      obtain ⟨b2, o2, hA2, hB2, hc2⟩ := vals_elem t3_len H2.out (by decide) hk
      subst hA1 hA2
      have hws := hBr.out.size
      have hd1 := fun W (hW : Below wr.heap.size wr W) j v hv => ((hBr.out.trans (hW.mono hws)).cell (p := ⟨b1, o1 + k * 3 + j, none⟩) (by simp; omega)).trans (hc1 j v hv)
      have hd2 := fun W (hW : Below wr.heap.size wr W) j v hv => ((hBr.out.trans (hW.mono hws)).cell (p := ⟨b2, o2 + k * 3 + j, none⟩) (by simp; omega)).trans (hc2 j v hv)
      generalize l[k] = y at hd1 hd2
      have HD := Lib.hid (And.intro hd1 hd2)
      clear hd1 hd2 hc1 hc2
      go_wp2
      refine R6.wp_walk (C := fun _ _ W => Below wr.heap.size wr W) 26 (by kernel_rfl) (by kernel_rfl) rfl (Below.refl _ _).drew ?_
      simp only []
      repeat (first
        | (refine' R6.WalkR.det (fun _ => rfl) (fun D ρ W hK hC => ?_) ?_
           rotate_left
           · have HC := Lib.hid hC
             clear hC hK
             go_simp
             with_reducible exact ⟨rfl, HC.out⟩
           simp only [Act.put, List.setIfInBounds_toArray, List.set_cons_succ, List.set_cons_zero]))
      refine' R6.WalkR.det (fun _ => rfl) (fun D ρ W hK hC => ?_) ?_
      rotate_left
      · exact gives_load_at 61 (.tmp 19) rfl rfl (t3 y) (HD.out.1 W hC) rowStick ⟨rfl, hC⟩
      simp only [Act.put, List.setIfInBounds_toArray, List.set_cons_succ, List.set_cons_zero]
      repeat (first
        | (refine' R6.WalkR.det (fun _ => rfl) (fun D ρ W hK hC => ?_) ?_
           rotate_left
           · have HC := Lib.hid hC
             clear hC hK
             go_simp
             with_reducible exact ⟨rfl, HC.out⟩
           simp only [Act.put, List.setIfInBounds_toArray, List.set_cons_succ, List.set_cons_zero]))
      refine' R6.WalkR.det (fun _ => rfl) (fun D ρ W hK hC => ?_) ?_
      rotate_left
      · exact gives_load_at 61 (.tmp 23) rfl rfl (t3 y) (HD.out.2 W hC) rowStick ⟨rfl, hC⟩
      simp only [Act.put, List.setIfInBounds_toArray, List.set_cons_succ, List.set_cons_zero]
      refine' R6.WalkR.det (fun _ => rfl) (fun D ρ W hK hC => ?_) ?_
      rotate_left
      · exact gives_neqS 61 61 (.tmp 20) (.tmp 24) rfl rfl rfl (guard_structS guardStick) (neqStick W y) ⟨rfl, hC⟩
      simp only [Act.put, List.setIfInBounds_toArray, List.set_cons_succ, List.set_cons_zero]
      refine R6.WalkR.nil (fun D ρ W hD hC => ?_)
      have HB := Lib.hid (hBr.out.trans (hC.mono hws))
      clear hC hD
      go_wp2
      go_roundg gg
      case measure => omega
      case rel => exact ⟨k + 1, by omega, by go_num, HB.out⟩

set_option maxRecDepth 100000 in
set_option maxHeartbeats 4000000 in
theorem sameTrunks_any (A1 A2 : Option Addr) (c1 c2 : Nat) (l1 l2 : List Tk) (B : Nat) (w : World) (hB : B ≤ w.heap.size) (h1 : TksAt w B l1 A1) (h2 : TksAt w B l2 A2) (he : l1.map tkE = l2.map tkE) (hl : smallT l2) :
    Calls Try.prog 16 #[.slice A1 l1.length c1, .slice A2 l2.length c2] w fun e w' => e = .returned (.bool true) ∧ Below w.heap.size w w' := by
  have hn : l1.length = l2.length := by simpa using congrArg List.length he
  have hel : ∀ k (h1 : k < l1.length) (h2 : k < l2.length), tkE l1[k] = tkE l2[k] := fun k h1 h2 => by
    have := congrArg (fun l : List (Int × Int × List Int) => l[k]?) he
    simp only [List.getElem?_map, List.getElem?_eq_getElem h1, List.getElem?_eq_getElem h2, Option.map_some, Option.some.injEq] at this
    exact this
  rw [hn]
  have HN := Lib.hid hn
  have HE := Lib.hid hel
  have H1 := Lib.hid h1
  have H2 := Lib.hid h2
  have HL := Lib.hid hl
  have hll := hl.1
  clear hn hel h1 h2 he hl
  go_enter Try.func16, Try.ntmps16
  go_wp2
  go_loopg [5] l2.length (fun gg s5 wx => ∃ k : Nat, k + gg = l2.length ∧ s5 = .int .i64 k ∧ Hid (Below w.heap.size w wx))
  case atStart => exact ⟨0, by omega, rfl, Below.refl _ _⟩
  case round =>
    obtain ⟨k, hkg, rfl, hBr⟩ := hrel
    cases gk with
    | zero =>
      obtain rfl : k = l2.length := by omega
      go_wp2
      go_ret
      exact ⟨rfl, hBr.out⟩
    | succ gg =>
      have hk : k < l2.length := by omega
      have hk1 : k < l1.length := by rw [HN.out]; exact hk
      have hkz : (k : Int) < l2.length := by omega
      obtain ⟨b1, o1, hA1, hB1, hc1⟩ := vals_elem tkc_len H1.out.v (by decide) hk1
      obtain ⟨b2, o2, hA2, hB2, hc2⟩ := vals_elem tkc_len H2.out.v (by decide) hk
      subst hA1 hA2
      have hws := hBr.out.size
      have hd1 := fun j v hv W (hW : Below wr.heap.size wr W) => ((hBr.out.trans (hW.mono hws)).cell (p := ⟨b1, o1 + k * 3 + j, none⟩) (by simp; omega)).trans (hc1 j v hv)
      have hd2 := fun j v hv W (hW : Below wr.heap.size wr W) => ((hBr.out.trans (hW.mono hws)).cell (p := ⟨b2, o2 + k * 3 + j, none⟩) (by simp; omega)).trans (hc2 j v hv)
      have hi1 := H1.out.r _ (List.getElem_mem hk1)
      have hi2 := H2.out.r _ (List.getElem_mem hk)
      have hzl := HL.out.2 _ (List.getElem_mem hk)
      have hee := HE.out k hk1 hk
      generalize l1[k] = y1 at hd1 hi1 hee
      generalize l2[k] = y2 at hd2 hi2 hee hzl
      obtain ⟨n1, g1, Y1, e1, zs1⟩ := y1
      obtain ⟨n2, g2, Y2, e2, zs2⟩ := y2
      simp only [tkE, Prod.mk.injEq] at hee
      obtain ⟨rfl, rfl, rfl⟩ := hee
      have a0 := hd1 0 _ rfl
      have a1 := hd1 1 _ rfl
      have a2 := hd1 2 _ rfl
      have d0 := hd2 0 _ rfl
      have d1 := hd2 1 _ rfl
      have d2 := hd2 2 _ rfl
      rw [Nat.add_zero] at a0 d0
      simp only at hi1 hi2 hzl
      have hs := fun W (hW : Below wr.heap.size wr W) => sameInts7_any Y1 Y2 e1 e2 zs1 B W (Nat.le_trans hB (Nat.le_trans hws hW.size)) (hi1.below ((hBr.out.trans (hW.mono hws)).mono hB)) (hi2.below ((hBr.out.trans (hW.mono hws)).mono hB)) (by omega)
      have HD := Lib.hid (And.intro (And.intro a0 (And.intro a1 a2)) (And.intro d0 (And.intro d1 d2)))
      have HS := Lib.hid hs
      clear hd1 hd2 hc1 hc2 a0 a1 a2 d0 d1 d2 hs hi1 hi2
      go_wp2
      refine R6.wp_walk (C := fun _ _ W => Below wr.heap.size wr W) 55 (by kernel_rfl) (by kernel_rfl) rfl (Below.refl _ _).drew ?_
      simp only []
      iterate 35
        (first
         | (refine' R6.WalkR.det (fun _ => rfl) (fun D ρ W hK hC => ?_) ?_
            rotate_left
            · have f0 := HD.out.1.1 W hC
              have f1 := HD.out.1.2.1 W hC
              have f2 := HD.out.1.2.2 W hC
              have g0 := HD.out.2.1 W hC
              have g1 := HD.out.2.2.1 W hC
              have g2 := HD.out.2.2.2 W hC
              have HC := Lib.hid hC
              clear hC hK
              go_simp
              with_reducible exact ⟨rfl, HC.out⟩
            simp only [Act.put, List.setIfInBounds_toArray, List.set_cons_succ, List.set_cons_zero])
         | skip)
      refine' R6.WalkR.det (fun _ => rfl) (fun D ρ W hK hC => ?_) ?_
      rotate_left
      · have HC := Lib.hid hC
        clear hC hK
        go_simp
        go_at_call 26
        refine (HS.out W HC.out).mono ?_
        rintro e W1 ⟨rfl, hB1⟩
        exact ⟨_, rfl, rfl, HC.out.trans (hB1.mono HC.out.size)⟩
      simp only [Act.put, List.setIfInBounds_toArray, List.set_cons_succ, List.set_cons_zero]
      repeat (first
        | (refine' R6.WalkR.det (fun _ => rfl) (fun D ρ W hK hC => ?_) ?_
           rotate_left
           · have HC := Lib.hid hC
             clear hC hK
             go_simp
             with_reducible exact ⟨rfl, HC.out⟩
           simp only [Act.put, List.setIfInBounds_toArray, List.set_cons_succ, List.set_cons_zero]))
      refine R6.WalkR.nil (fun D ρ W hD hC => ?_)
      have HB := Lib.hid (hBr.out.trans (hC.mono hws))
      clear hC hD
      go_wp2
      go_roundg gg
      case measure => omega
      case rel => exact ⟨k + 1, by omega, by go_num, HB.out⟩

end Go.Proofs.Ytepkkhdfobhhjaa
