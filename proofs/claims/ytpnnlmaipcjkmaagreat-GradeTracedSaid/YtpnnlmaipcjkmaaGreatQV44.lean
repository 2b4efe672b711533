/-
  The statements' own example comes out (alive): the walk.
-/
import Derived.Test.YtpnnlmaipcjkmaaGreatQV43
set_option linter.all false
namespace Go.Proofs.YtpnnlmaipcjkmaaGreat
open Go.RowKit
open R6 (done done_ne done_me upd_ne upd_me)

attribute [local go_sem] gives

theorem own_other {W : World} {base b : Nat} {e t : TypeId} {size n : Nat} {v : Value} {xs : List Value} {cs : Array Value} {fr : Nat × Nat} (h : W.ownsRow base e size v n xs) (hb : W.heap[b]? = some (.cells cs t fr)) (hne : e ≠ t) : some b ≠ v.ownBlock := fun e2 => by
  obtain ⟨c1, h1, _⟩ := own_bt h e2.symm
  rw [h1] at hb
  simp only [Option.some.injEq, Obj.cells.injEq] at hb
  exact hne hb.2.1
theorem own_besides {W W' : World} {base base' : Nat} {e e' : TypeId} {size size' n m : Nat} {v u : Value} {xs ys : List Value} (h : W.ownsRow base e size v n xs) (hv : W.ownsRow base' e' size' u m ys) (hne : e ≠ e') (hg : W.grownBy W' u.ownBlock) : W'.ownsRow base e size v n xs := by
  refine h.kept hg ?_
  cases hb : v.ownBlock with
  | none => exact .inl rfl
  | some g =>
    refine .inr ?_
    obtain ⟨c1, h1, _⟩ := own_bt h hb
    exact own_other hv h1 (Ne.symm hne)
theorem infoTL5 : (Tryz.prog.info? 23).map (·.size) = some 1 := by kernel_rfl
structure ClC (w8 : World) (K : List (Nat × Obj)) (D : Nat → Bool) (σ : Nat → Value) (W : World) : Prop where
  bel : Below w8.heap.size w8 W
  box : keptK K W
  g31 : D 1 = true → ∃ A c, σ 31 = .agg #[.slice A exGs.length c, .int .i64 5000] ∧ W.ownsRow w8.heap.size 53 8 (.slice A exGs.length c) exGs.length (exGs.flatMap gcl)
  res : D 2 = true → ∃ A c, σ 32 = .tuple #[.slice A 2 c, .int .i64 0] ∧ Ints W W.heap.size A [4, 6]
def clK (k : Nat) (d : Option Nat) : Bool := !(k == 1 || k == 2 || d == some 31 || d == some 32)
section
variable {w8 W W' : World} {K : List (Nat × Obj)} {D : Nat → Bool} {σ : Nat → Value}
theorem ClC.move {k : Nat} {d : Option Nat} {v : Value} (h : ClC w8 K D σ W) (hk : clK k d = true) : ClC w8 K (done D k) (R4.upd σ d v) W := by
  simp only [clK, Bool.not_eq_true', Bool.or_eq_false_iff, beq_eq_false_iff_ne, ne_eq] at hk
  obtain ⟨⟨⟨a1, a2⟩, d31⟩, d32⟩ := hk
  have f := fun j (hj : j ≠ k) => done_ne (D := D) (k := k) (j := j) hj
  exact ⟨h.bel, h.box, by rw [f 1 (by omega), upd_ne (ρ := σ) (v := v) d31]; exact h.g31, by rw [f 2 (by omega), upd_ne (ρ := σ) (v := v) d32]; exact h.res⟩
theorem ClC.grad {A : Option Addr} {c : Nat} (h : ClC w8 K D σ W) (h2 : D 2 = false) (hg : Grows W W') (ho : W'.ownsRow W.heap.size 53 8 (.slice A exGs.length c) exGs.length (exGs.flatMap gcl)) : ClC w8 K (done D 1) (R4.upd σ (some 31) (.agg #[.slice A exGs.length c, .int .i64 5000])) W' := by
  have f := fun j (hj : j ≠ 1) => done_ne (D := D) (k := 1) (j := j) hj
  exact ⟨h.bel.trans (hg.mono h.bel.size), h.box.next hg, fun _ => ⟨A, c, upd_me, own_weak ho h.bel.size⟩, (by rw [f 2 (by decide), h2]; intro e; cases e)⟩
theorem ClC.clash {A : Option Addr} {c : Nat} (h : ClC w8 K D σ W) (hg : Grows W W') (hi : Ints W' W'.heap.size A [4, 6]) : ClC w8 K (done D 2) (R4.upd σ (some 32) (.tuple #[.slice A 2 c, .int .i64 0])) W' := by
  have f := fun j (hj : j ≠ 2) => done_ne (D := D) (k := 2) (j := j) hj
  have u := upd_ne (ρ := σ) (d := some 32) (v := .tuple #[.slice A 2 c, .int .i64 0]) (t := 31) (by decide)
  exact ⟨h.bel.trans (hg.mono h.bel.size), h.box.next hg, by rw [f 1 (by decide), u]; exact fun a => let ⟨A', c', e, o⟩ := h.g31 a; ⟨A', c', e, own_grows o hg⟩, fun _ => ⟨A, c, upd_me, hi⟩⟩
end

set_option maxRecDepth 100000 in
set_option maxHeartbeats 16000000 in
theorem grAlive_any (w : World) : Calls Tryz.prog 20 #[] w fun e w' => e = .returned (.bool true) ∧ Below w.heap.size w w' := by
  obtain ⟨i2, hi2, hz2, hsz2, hby2⟩ := info_parts infoTest5
  have HI := Lib.hid (And.intro hi2 (And.intro hz2 (And.intro hsz2 hby2)))
  have HG1 := Lib.hid exG1
  have HG3 := Lib.hid exG3
  have HX := Lib.hid (gro_true w)
  have HB := Lib.hid (Below.refl w.heap.size w)
  clear hi2 hz2 hsz2 hby2
  go_enter Tryz.func20, Tryz.ntmps20
  go_wp2_with (first
    | (show wpList _ _ _ (Oper.mk none (Op.store _ (Operand.tmp 28) (Operand.tmp 27)) _ _ _ _ :: _) _ _
       refine wpList_store_v5 23 (.tmp 28) (.tmp 27) rfl rfl rfl rfl rfl rfl rfl (L := [.slice A1 exPs.length c1, .slice A2 exTs.length c2]) HM.out (Nat.le_of_ble_eq_true rfl) infoTL5 ?_
       intro w8 hP hM
       have HO := Lib.hid (And.intro (own_put HO.out.1 hP HM.out (by decide)) (own_put HO.out.2 hP HM.out (by decide)))
       have HB := Lib.hid (HB.out.trans (hP.below HS.out.1))
       have HM := Lib.hid (show w8.heap[w2.heap.size]? = some (.cells [Value.slice A1 exPs.length c1, .slice A4 (exTs ++ [exT6]).length c4].toArray 25 (0, 0)) from hM)
       clear hP hM)
    | (show wpList _ _ _ (Oper.mk (some 27) _ _ _ _ _ :: _) _ _
       obtain ⟨w6, hw6⟩ : ∃ w6, w5.alloc (.cells #[.int .i64 6, .int .i64 2, .int .i64 0, .int .i64 118800, .bool false] 58) = w6 := ⟨_, rfl⟩
       have g6 : Grows w5 w6 := by rw [← hw6]; exact grow1 _ _
       have m6 : w6.heap[w5.heap.size]? = some (.cells (tcl exT6).toArray 58 (0, 0)) := by rw [← hw6]; exact alloc_at0 _ _
       have hO1 := own_grows HO.out.1 g6
       have hO2 := own_grows HO.out.2 g6
       have hM6 := (g6.block _ (lt_of_heap HM.out)).trans HM.out
       rw [hw6]
       refine wpList_app2 (.tmp 24) (.tmp 26) 23 rfl rfl _ 58 i2 _ 5 40 Tryz.underlying23 HI.out.1 HI.out.2.1 HI.out.2.2.1 HI.out.2.2.2 rfl (by decide) rfl hO2 rfl (vals_mk5 m6) rfl (fun v hv => tcl_one [exT6] v (by simpa using hv)) (by decide) (by decide) (Nat.le_trans HL.out.1 (Nat.le_trans (Nat.le_of_lt HS.out.2) g6.size)) ?_
       intro v' w7 ho hgr
       have ho' : w7.ownsRow _ 58 5 v' (exTs ++ [exT6]).length ((exTs ++ [exT6]).flatMap tcl) := ho
       obtain ⟨A4, c4, rfl⟩ := own_slice ho'
       have hM7 := (hgr.block _ (lt_of_heap hM6) (own_other hO2 hM6 (by decide))).trans hM6
       have HO := Lib.hid (And.intro (own_besides hO1 hO2 (by decide) hgr) ho')
       have HM := Lib.hid hM7
       have hb := (HB.out.trans (g6.mono HB.out.size)).grown hgr (HB.out.trans (g6.mono HB.out.size)).size (fun q e => by obtain ⟨_, _, hq⟩ := own_bt hO2 e; have := HS.out; have := HL.out; omega)
       have HB := Lib.hid hb
       clear g6 m6 hO1 hO2 hM6 ho ho' hgr hM7 hw6 hb)
    | (show wpList _ _ _ (Oper.mk none (Op.store _ (Operand.tmp 5) (Operand.tmp 22)) _ _ _ _ :: _) _ _
       have hm : (w2.alloc (.cells #[.slice none 0 0, .slice none 0 0] 25)).heap[w2.heap.size]? = some (.cells [Value.slice none 0 0, .slice none 0 0].toArray 25 (0, 0)) := alloc_at0 _ _
       refine wpList_store_blk 25 (.tmp 5) (.tmp 22) (cs := [.slice A1 exPs.length c1, .slice A2 exTs.length c2]) rfl rfl rfl rfl rfl hm (Nat.le_of_ble_eq_true rfl) (by intro v hv; simp only [List.mem_cons, List.not_mem_nil, or_false] at hv; rcases hv with rfl | rfl <;> rfl) rowSheetP ?_
       intro w5 hP hM
       rw [splice_whole (by rfl)] at hM
       have hb := (grow1 w2 _).trans (hP.below (Nat.le_refl _))
       have hO := HO.out.grows (grow1 w2 (.cells #[.slice none 0 0, .slice none 0 0] 25))
       have HO := Lib.hid (And.intro (own_put hO.1 hP hm (by decide)) (own_put hO.2 hP hm (by decide)))
       have f5 : w5.cell? ⟨w2.heap.size, 1, none⟩ = some (.slice A2 exTs.length c2) := cell_of_row w5 _ 1 _ _ _ hM
       have HS := Lib.hid (And.intro HB.out.size (lt_of_heap hM))
       have HB := Lib.hid (HB.out.trans (hb.mono HB.out.size))
       have HM := Lib.hid hM
       clear hP hM hm hb hO)
    | (go_at_call 25
       refine (grGrade_any exPs exTs exGs 5000 _ A1 c1 A2 c2 A3 c3 _ _ (Nat.le_refl _) (ownS_sh HO.out (by decide) (by decide)) (own_gd HG.out (by decide))).mono ?_
       rintro e w4 ⟨rfl, hB⟩
       first
         | rw [HG1.out]
         | rw [HG3.out]
       have HX := Lib.hid (HX.out.grows hB)
       have HB := Lib.hid (HB.out.trans (hB.mono HB.out.size))
       clear hB)
    | (go_at_call 22
       refine (exGrading_any _).mono ?_
       rintro e w3 ⟨v3, rfl, hO, hB⟩
       obtain ⟨A3, c3, rfl⟩ := own_slice hO
       have HX := Lib.hid (HX.out.grows hB)
       have HB := Lib.hid (HB.out.trans (hB.mono HB.out.size))
       have HO := Lib.hid (HO.out.grows hB)
       have HG := Lib.hid hO
       clear hB hO)
    | (go_at_call 23
       refine (exSheet_any _).mono ?_
       rintro e w2 ⟨v1, v2, rfl, hO, hB⟩
       obtain ⟨A1, c1, rfl⟩ := own_slice hO.1
       obtain ⟨A2, c2, rfl⟩ := own_slice hO.2
       have HL := Lib.hid (And.intro hB.size HB.out.size)
       have HX := Lib.hid (HX.out.grows hB)
       have HB := Lib.hid (HB.out.trans (hB.mono HB.out.size))
       have HO := Lib.hid hO
       clear hB hO))
  clear f5
  refine R6.wp_walk (C := ClC w8 [(w2.heap.size, .cells #[.slice A1 exPs.length c1, .slice A4 (exTs ++ [exT6]).length c4] 25)]) 81 (by kernel_rfl) (by kernel_rfl) rfl
    ⟨(Below.refl _ _).drew, ⟨HM.out, trivial⟩, (fun e => by cases e), (fun e => by cases e)⟩ ?_
  simp only []
  refine' R6.WalkR.det (fun _ => rfl) (fun D ρ W hK hC => ?_) ?_
  rotate_left
  · exact gives_load_blk 25 (.tmp 5) rfl rfl hC.box.1 [.slice A1 exPs.length c1, .slice A4 (exTs ++ [exT6]).length c4] at0 rowSheetP ⟨rfl, hC.move (by decide)⟩
  simp only [Act.put, List.setIfInBounds_toArray, List.set_cons_succ, List.set_cons_zero]
  refine' R6.WalkR.nd (fun _ => rfl) rfl (fun D ρ W hK hC => ?_) ?_
  · have HC := Lib.hid (And.intro hC (hK.post 2 (by decide +kernel)))
    clear hC hK
    go_simp
    go_at_call 22
    refine (exGrading_any W).mono ?_
    rintro e W1 ⟨v3, rfl, ho, hB1⟩
    obtain ⟨A9, c9, rfl⟩ := own_slice ho
    exact ⟨_, rfl, HC.out.1.grad HC.out.2 hB1 ho⟩
  simp only [Act.put, List.setIfInBounds_toArray, List.set_cons_succ, List.set_cons_zero]
  refine' R6.WalkR.nd (fun _ => rfl) rfl (fun D ρ W hK hC => ?_) ?_
  · obtain ⟨A9, c9, hv0, ho⟩ := hC.g31 (hK.pre 1 (by decide +kernel))
    have hv : _ = Value.agg #[.slice A9 exGs.length c9, .int .i64 5000] := hv0
    have HC := Lib.hid (And.intro hC ho)
    clear hC hK ho hv0
    go_simp
    go_at_call 33
    have hsh : OwnS W _ exPs (exTs ++ [exT6]) (.slice A1 exPs.length c1) (.slice A4 (exTs ++ [exT6]).length c4) := OwnS.grows HO.out HC.out.1.bel
    refine (grClashP_any exPs (exTs ++ [exT6]) exGs 5000 A1 c1 A4 c4 A9 c9 W.heap.size W (Nat.le_refl _) (ownS_sh hsh (by decide) (by decide)) (own_gd HC.out.2 (by decide))).mono ?_
    rintro e W1 ⟨A6, c6, rfl, hi, hB1⟩
    rw [exC] at hi ⊢
    exact ⟨_, rfl, HC.out.1.clash hB1 hi⟩
  simp only [Act.put, List.setIfInBounds_toArray, List.set_cons_succ, List.set_cons_zero]
  refine' R6.WalkR.fn 32 (fun v => v) (fun _ => rfl) (by first | decide +kernel | (dsimp only; decide +kernel)) (fun D ρ W hK hC => ?_) ?_
  · obtain ⟨A6, c6, hv, -⟩ := hC.res (hK.pre 2 (by first | decide +kernel | (dsimp only; decide +kernel)))
    have HC := Lib.hid hC
    clear hC hK
    go_simp
    first
      | exact HC.out.move (by decide)
      | exact ⟨by rw [hv]; rfl, HC.out.move (by decide)⟩
      | exact ⟨rfl, HC.out.move (by decide)⟩
  simp only [Act.put, List.setIfInBounds_toArray, List.set_cons_succ, List.set_cons_zero]
  refine' R6.WalkR.fn 32 (fun v => tupAt v 0) (fun _ => rfl) (by first | decide +kernel | (dsimp only; decide +kernel)) (fun D ρ W hK hC => ?_) ?_
  · obtain ⟨A6, c6, hv, -⟩ := hC.res (hK.pre 2 (by first | decide +kernel | (dsimp only; decide +kernel)))
    have HC := Lib.hid hC
    clear hC hK
    go_simp
    first
      | exact HC.out.move (by decide)
      | exact ⟨by rw [hv]; rfl, HC.out.move (by decide)⟩
      | exact ⟨rfl, HC.out.move (by decide)⟩
  simp only [Act.put, List.setIfInBounds_toArray, List.set_cons_succ, List.set_cons_zero]
  refine' R6.WalkR.fn 32 (fun v => tupAt v 1) (fun _ => rfl) (by first | decide +kernel | (dsimp only; decide +kernel)) (fun D ρ W hK hC => ?_) ?_
  · obtain ⟨A6, c6, hv, -⟩ := hC.res (hK.pre 2 (by first | decide +kernel | (dsimp only; decide +kernel)))
    have HC := Lib.hid hC
    clear hC hK
    go_simp
    first
      | exact HC.out.move (by decide)
      | exact ⟨by rw [hv]; rfl, HC.out.move (by decide)⟩
      | exact ⟨rfl, HC.out.move (by decide)⟩
  simp only [Act.put, List.setIfInBounds_toArray, List.set_cons_succ, List.set_cons_zero]
  refine' R6.WalkR.fn 32 (fun v => tupAt v 0) (fun _ => rfl) (by first | decide +kernel | (dsimp only; decide +kernel)) (fun D ρ W hK hC => ?_) ?_
  · obtain ⟨A6, c6, hv, -⟩ := hC.res (hK.pre 2 (by first | decide +kernel | (dsimp only; decide +kernel)))
    have HC := Lib.hid hC
    clear hC hK
    go_simp
    first
      | exact HC.out.move (by decide)
      | exact ⟨by rw [hv]; rfl, HC.out.move (by decide)⟩
      | exact ⟨rfl, HC.out.move (by decide)⟩
  simp only [Act.put, List.setIfInBounds_toArray, List.set_cons_succ, List.set_cons_zero]
  refine' R6.WalkR.fn 32 (fun v => tupAt v 1) (fun _ => rfl) (by first | decide +kernel | (dsimp only; decide +kernel)) (fun D ρ W hK hC => ?_) ?_
  · obtain ⟨A6, c6, hv, -⟩ := hC.res (hK.pre 2 (by first | decide +kernel | (dsimp only; decide +kernel)))
    have HC := Lib.hid hC
    clear hC hK
    go_simp
    first
      | exact HC.out.move (by decide)
      | exact ⟨by rw [hv]; rfl, HC.out.move (by decide)⟩
      | exact ⟨rfl, HC.out.move (by decide)⟩
  simp only [Act.put, List.setIfInBounds_toArray, List.set_cons_succ, List.set_cons_zero]
  refine R6.WalkR.nil (fun D ρ W9 hD hC => ?_)
  obtain ⟨A6, c6, hv, hi⟩ := hC.res (hD 2 (by omega))
  simp only [hv, tupAt]
  have HB := Lib.hid (HB.out.trans (hC.bel.mono HB.out.size))
  have HX := Lib.hid (⟨hi, fun h hg => (h.below hg).mono hg.size⟩ : Gro (fun W => Ints W W.heap.size A6 [4, 6]) W9)
  clear hC hD hv hi
  go_wp2_with (first
    | (go_at_call 18
       obtain ⟨w10, hw10⟩ : ∃ w10, w9.alloc (.cells #[.int .u8 1, .int .u8 1, .int .u8 2] 5) = w10 := ⟨_, rfl⟩
       have g10 : Grows w9 w10 := by rw [← hw10]; exact grow1 _ _
       have hu : OwnU w10 0 (.slice (some ⟨w9.heap.size, 0, none⟩) 3 3) [1, 1, 2] := own_lit (by rw [← hw10]; exact alloc_at0 _ _) (Nat.zero_le _) rfl rfl (by decide)
       have hx := HX.out.grows g10
       rw [hw10]
       refine (gtSameKnown_any [1, 1, 2] _ _ _ _ w10 hx.now.2 hu).mono ?_
       rintro e w11 ⟨rfl, rfl⟩
       have HB := Lib.hid (HB.out.trans (g10.mono HB.out.size))
       clear hx hu g10 hw10)
    | (go_at_call 51
       obtain ⟨w8, hw8⟩ : ∃ w8, w7.alloc (.cells #[.int .i64 4, .int .i64 6] 3) = w8 := ⟨_, rfl⟩
       have g8 : Grows w7 w8 := by rw [← hw8]; exact grow1 _ _
       have hi : Ints w8 w8.heap.size (some ⟨w7.heap.size, 0, none⟩) [4, 6] := ints_lit [4, 6] (by rw [← hw8]; exact alloc_at0 _ _) rfl
       have hx := HX.out.grows g8
       rw [hw8]
       refine (rfSameInts_any [4, 6] A6 (some ⟨w7.heap.size, 0, none⟩) c6 2 w8.heap.size w8 hx.now.1 hi (by decide)).mono ?_
       rintro e w9 ⟨rfl, hB⟩
       have HX := Lib.hid (hx.grows hB)
       have HB := Lib.hid (HB.out.trans ((g8.trans (hB.mono g8.size)).mono HB.out.size))
       clear hB hx hi g8 hw8)
    | (go_at_call 21
       with_reducible show Calls _ _ #[.int .i64 1, _, _] _ _
       refine (exBears_any 1 135000 175497 exS1 _).mono ?_
       rintro e w7 ⟨rfl, hB⟩
       have HX := Lib.hid (HX.out.grows hB)
       have HB := Lib.hid (HB.out.trans (hB.mono HB.out.size))
       clear hB)
    | (go_at_call 21
       with_reducible show Calls _ _ #[.int .i64 3, _, _] _ _
       refine (exBears_any 3 54000 162000 exS3 _).mono ?_
       rintro e w7 ⟨rfl, hB⟩
       have HX := Lib.hid (HX.out.grows hB)
       have HB := Lib.hid (HB.out.trans (hB.mono HB.out.size))
       clear hB)
    | (go_at_call 14
       obtain ⟨w5, hw5⟩ : ∃ w5, w4.alloc (.cells (gvl ⟨exGr, some ⟨q1, 0, none⟩, 4, some ⟨q2, 0, none⟩, 1⟩).toArray 74) = w5 := ⟨_, rfl⟩
       have g5 : Grows w4 w5 := by rw [← hw5]; exact grow1 _ _
       have m5 : w5.heap[w4.heap.size]? = some (.cells ([(⟨exGr, some ⟨q1, 0, none⟩, 4, some ⟨q2, 0, none⟩, 1⟩ : Gv)].flatMap gvl).toArray 74 (0, 0)) := by rw [← hw5, List.flatMap_cons, List.flatMap_nil, List.append_nil]; exact alloc_at0 _ _
       have hgv : GvsAt w5 w5.heap.size [(⟨exGr, some ⟨q1, 0, none⟩, 4, some ⟨q2, 0, none⟩, 1⟩ : Gv)] (some ⟨w4.heap.size, 0, none⟩) := ⟨(vals_mk5 m5).mono (lt_of_heap m5), fun x hx => by simp only [List.mem_singleton] at hx; subst hx; exact (HQ.out.below g5).mono g5.size⟩
       have htr := gtTrace_any exPs exTs exGs 5000 [(⟨exGr, some ⟨q1, 0, none⟩, 4, some ⟨q2, 0, none⟩, 1⟩ : Gv)] A1 c1 A2 c2 A3 c3 (some ⟨w4.heap.size, 0, none⟩) 1 w5.heap.size w5 (Nat.le_refl _) (ownS_sh (HO.out.grows g5) (by decide) (by decide)) (own_gd (own_grows HG.out g5) (by decide)) hgv (by simp)
       rw [show w4.alloc (.cells #[.int .i64 7, .int .i64 0, .int .i64 0, .int .i64 0, .int .i64 1, .int .i64 3, .int .i64 0, .int .i64 104, .slice (some ⟨q1, 0, none⟩) 4 4, .slice (some ⟨q2, 0, none⟩) 1 1] 74) = w5 from hw5]
       refine htr.mono ?_
       rintro e w6 ⟨A8, c8, rfl, hU, hB⟩
       rw [exTr] at hU ⊢
       have hx := HX.out.grows (g5.trans (hB.mono g5.size))
       have HB := Lib.hid (HB.out.trans ((g5.trans (hB.mono g5.size)).mono HB.out.size))
       have HX := Lib.hid (⟨⟨hx.now, hU⟩, fun h hg => ⟨hx.up h.1 hg, own_grows h.2 hg⟩⟩ : Gro (fun W => Ints W W.heap.size A6 [4, 6] ∧ OwnU W _ (.slice A8 3 c8) [1, 1, 2]) w6)
       clear hB hU hx g5 m5 hgv htr)
    | (go_at_call 27
       refine (exBook_any _).mono ?_
       rintro e w4 ⟨q1, q2, rfl, hQ, hB⟩
       rw [show (gvl ⟨exGr, some ⟨q1, 0, none⟩, 4, some ⟨q2, 0, none⟩, 1⟩).toArray = #[.int .i64 7, .int .i64 0, .int .i64 0, .int .i64 0, .int .i64 1, .int .i64 3, .int .i64 0, .int .i64 104, .slice (some ⟨q1, 0, none⟩) 4 4, .slice (some ⟨q2, 0, none⟩) 1 1] from rfl]
       have HX := Lib.hid (HX.out.grows hB)
       have HB := Lib.hid (HB.out.trans (hB.mono HB.out.size))
       have HO := Lib.hid (HO.out.grows hB)
       have HG := Lib.hid (own_grows HG.out hB)
       have HQ := Lib.hid hQ
       clear hB hQ)
    | (go_at_call 22
       refine (exGrading_any _).mono ?_
       rintro e w3 ⟨v3, rfl, hO, hB⟩
       obtain ⟨A3, c3, rfl⟩ := own_slice hO
       have HX := Lib.hid (HX.out.grows hB)
       have HB := Lib.hid (HB.out.trans (hB.mono HB.out.size))
       have HO := Lib.hid (HO.out.grows hB)
       have HG := Lib.hid hO
       clear hB hO)
    | (go_at_call 23
       refine (exSheet_any _).mono ?_
       rintro e w2 ⟨v1, v2, rfl, hO, hB⟩
       obtain ⟨A1, c1, rfl⟩ := own_slice hO.1
       obtain ⟨A2, c2, rfl⟩ := own_slice hO.2
       have HL := Lib.hid (And.intro hB.size HB.out.size)
       have HX := Lib.hid (HX.out.grows hB)
       have HB := Lib.hid (HB.out.trans (hB.mono HB.out.size))
       have HO := Lib.hid hO
       clear hB hO))
  go_ret
  exact ⟨rfl, HB.out⟩

end Go.Proofs.YtpnnlmaipcjkmaaGreat
