/-
  Tests that contradict each other (the reference's).
-/
import Derived.Test.YtboffligjgjgjaaGrCp
import Derived.Test.YtboffligjgjgjaaGrCa
import Derived.Test.YtboffligjgjgjaaGrCm
import Derived.Test.YtboffligjgjgjaaGrW
import Derived.Test.YtboffligjgjgjaaGrWa
import Derived.BigGuardPart
import Derived.IntWalk
namespace Go.Proofs.Ytboffligjgjgjaa
open Go.RowKit Go.BigFrame
open R6 (done done_ne done_me upd_ne upd_me)

attribute [local go_sem] gives

theorem sliced_one {c off i ct s : Nat} (h : i < ct) : sliced (some ⟨c, off, none⟩) i (i + 1) ct s = .slice (some ⟨c, off + i * s, none⟩) 1 (ct - i) := by
  have : ¬ ct = i := by omega
  simp only [sliced, this, if_false, Option.map_some, Addr.add_mid]
  congr 1
  omega
theorem gives_slice_lh {P : Program} {op : Oper} {a : Act} {w : World} {R : Value → World → Prop} (ty : TypeId) (x lo hi : Operand) (ho : op.op = .slice ty x (some lo) (some hi) none) (ht : P.underlying ty = some (.slice (P.elem ty))) {A : Option Addr} {len cap : Nat} (hx : a.eval x = .slice A len cap)
    {l h : Int} (hl : a.eval lo = .int .i64 l) (hh : a.eval hi = .int .i64 h) (h0 : 0 ≤ l) (h1 : l ≤ h) (h2 : h ≤ cap) {s : Nat} {i : TypeInfo} (hs : P.info? (P.elem ty) = some i) (hs2 : P.cellsOf (P.elem ty) = s) (hr : R (sliced A l.toNat h.toNat cap s) w) : gives P op a w R := by
  have e1 := run_sliceAt_slice (P := P) (w := w) (t := ty) (x := .slice A len cap) (lo := some (.int .i64 l)) (hi := some (.int .i64 h)) (mx := none) (h := ht)
  have e2 := run_slice_lh (P := P) (w := w) (t := ty) (a := A) (len := len) (cap := cap) (ht := ht) (kl := .i64) (kh := .i64) (l := l) (h := h) (h0 := h0) (h1 := h1) (h2 := h2)
  have e3 := run_sizeOf w hs
  rw [hs2] at e3
  rw [e3, Result.andThen_ok] at e2
  rw [e2] at e1
  unfold gives execOp
  simp only [ho, hx, hl, hh, Option.map_some, Option.map_none, Sem.run_bind, e1, Result.andThen_ok]
  exact hr

theorem infoTestS : ∃ i, Try.prog.info? (Try.prog.elem 23) = some i := by
  have h : (Try.prog.info? (Try.prog.elem 23)).map (·.size) = some 5 := by kernel_rfl
  cases hq : Try.prog.info? (Try.prog.elem 23) with
  | none => rw [hq] at h; cases h
  | some i => exact ⟨i, rfl⟩
theorem okT_two {ts : List Ts} (h : ∀ t ∈ ts, okT t) {a b : Ts} (ha : a ∈ ts) (hb : b ∈ ts) : ∀ t ∈ [a, b], okT t := fun t ht => by
  simp only [List.mem_cons, List.not_mem_nil, or_false] at ht
  rcases ht with rfl | rfl
  · exact h _ ha
  · exact h _ hb
theorem cellsTestS : Try.prog.cellsOf (Try.prog.elem 23) = 5 := by kernel_rfl
theorem underTestS : Try.prog.underlying 23 = some (.slice (Try.prog.elem 23)) := by kernel_rfl

set_option maxRecDepth 100000 in
set_option maxHeartbeats 16000000 in
theorem rfClash_any (ps : List Pol) (ts : List Ts) (gs : List Gd) (vary : Int) (AP : Option Addr) (cp : Nat) (AT : Option Addr) (ct : Nat) (AG : Option Addr) (cg : Nat) (B : Nat) (w : World) (hB : B ≤ w.heap.size) (hz : ShAt w B ps ts AP AT) (hg : GdAt w B gs AG) (hct : ts.length ≤ ct) :
    Calls Try.prog 12 #[.agg #[.slice AP ps.length cp, .slice AT ts.length ct], .agg #[.slice AG gs.length cg, .int .i64 vary]] w (ClashPost w (sClash gs vary ps ts)) := by
  have hchk := fun (W : World) (hW : Below w.heap.size w W) => rfCheck_any ps ts gs vary AP cp AT ct AG cg B W (Nat.le_trans hB hW.size) (hz.below (hW.mono hB)) (hg.below (hW.mono hB))
  unfold shl gdl at hchk
  obtain ⟨w1, hw1⟩ : ∃ w1, (w.alloc (.cells #[.slice AP ps.length cp, .slice AT ts.length ct] 25)).alloc (.cells #[.slice AG gs.length cg, .int .i64 vary] 28) = w1 := ⟨_, rfl⟩
  have hb1 : Below w.heap.size w w1 := by rw [← hw1]; exact grow2 _ _ _
  have m1 : w1.heap[w.heap.size]? = some (.cells [.slice AP ps.length cp, .slice AT ts.length ct].toArray 25 (0, 0)) := by rw [← hw1]; exact alloc2_at0 _ _ _
  have m2 : w1.heap[w.heap.size + 1]? = some (.cells [.slice AG gs.length cg, .int .i64 vary].toArray 28 (0, 0)) := by rw [← hw1]; exact alloc2_at1 _ _ _
  have H1 := Lib.hid (And.intro hb1 (And.intro m1 m2))
  clear hb1 m1 m2
  unfold sClash
  by_cases hck : gChk gs vary ps ts = 0
  rotate_left
  · rw [if_neg hck]
    generalize gChk gs vary ps ts = ck at hchk hck ⊢
    have HC1 := Lib.hid hchk
    have hce : (ck == 0) = false := by simpa using hck
    have hcn : (ck != 0) = true := by simpa using hck
    clear hchk hz hg hck hct
    go_enter Try.func12, Try.ntmps12
    go_wp2_with (first
      | (go_at_call 14
         refine (HC1.out w1 H1.out.1).mono ?_
         rintro e w2 ⟨rfl, hB2⟩
         have H2 := Lib.hid (And.intro (H1.out.1.trans (hB2.mono H1.out.1.size)) (And.intro ((hB2.block _ (lt_of_heap H1.out.2.1)).trans H1.out.2.1) ((hB2.block _ (lt_of_heap H1.out.2.2)).trans H1.out.2.2)))
         clear hB2)
      | (show wpList _ _ _ (Oper.mk (some 10) _ _ _ _ _ :: _) _ _
         refine wpList_load_blk 25 (.tmp 2) rfl rfl rfl H1.out.2.1 [.slice AP ps.length cp, .slice AT ts.length ct] at0 rowSheetP ?_)
      | (show wpList _ _ _ (Oper.mk (some 11) _ _ _ _ _ :: _) _ _
         refine wpList_load_blk 28 (.tmp 3) rfl rfl rfl H1.out.2.2 [.slice AG gs.length cg, .int .i64 vary] at0 rowGradingP ?_))
    go_ret2
    exact ⟨none, 0, rfl, fun h => by simp at h, H2.out.1⟩
  have hk := grOk_of hck
  rw [if_pos hck]
  have hz20 := hk.t20
  rw [hck] at hchk
  have hpe := fun (j : Nat) (hj : j < ts.length) => vals_elem tcl_len hz.t (by decide) hj
  have htr1 := fun (j : Nat) (hj : j < ts.length) (c o : Nat) (hc : Vals w B (some ⟨c, o + j * 5, none⟩) ([ts[j]].flatMap tcl)) (cc : Nat) (W : World) (hW : Below w.heap.size w W) =>
    rfTrue_any gs vary ps [ts[j]] AP cp AT ts.length ct AG cg (some ⟨c, o + j * 5, none⟩) cc B W (Nat.le_trans hB hW.size) (hz.p.below (hW.mono hB)) (hg.below (hW.mono hB)) (hc.below (hW.mono hB)) (by simp) hz.lp hk.v (fun p hp => (hk.po p hp).2) (fun t h => hk.ht t (by simp only [List.mem_singleton] at h; rw [h]; exact List.getElem_mem hj)) hk.ok
  have htr2 := fun (a b : Ts) (ha : a ∈ ts) (hb : b ∈ ts) (c cc : Nat) (W : World) (hW : Below w.heap.size w W) (hc : W.heap[c]? = some (.cells (tcl a ++ tcl b).toArray 78 (0, 0))) =>
    rfTrue_any gs vary ps [a, b] AP cp AT ts.length ct AG cg (some ⟨c, 0, none⟩) cc W.heap.size W (Nat.le_refl _) ((hz.p.below (hW.mono hB)).mono (Nat.le_trans hB hW.size)) ((hg.below (hW.mono hB)).mono (Nat.le_trans hB hW.size)) (by rw [tcl_pair]; exact (vals_mk5 hc).mono (lt_of_heap hc)) (by simp) hz.lp hk.v (fun p hp => (hk.po p hp).2) (okT_two hk.ht ha hb) hk.ok
  have HC1 := Lib.hid hchk
  have HPE := Lib.hid hpe
  have HT1 := Lib.hid htr1
  have HT2 := Lib.hid htr2
  have HCT := Lib.hid (And.intro hct hB)
  clear hchk hpe htr1 htr2 hck hk hz hg hct
  go_enter Try.func12, Try.ntmps12
  go_wp2_with (first
    | (go_at_call 14
       refine (HC1.out w1 H1.out.1).mono ?_
       rintro e w2 ⟨rfl, hB2⟩
       have H2 := Lib.hid (And.intro (H1.out.1.trans (hB2.mono H1.out.1.size)) (And.intro ((hB2.block _ (lt_of_heap H1.out.2.1)).trans H1.out.2.1) ((hB2.block _ (lt_of_heap H1.out.2.2)).trans H1.out.2.2)))
       clear hB2)
    | (show wpList _ _ _ (Oper.mk (some 10) _ _ _ _ _ :: _) _ _
       refine wpList_load_blk 25 (.tmp 2) rfl rfl rfl H1.out.2.1 [.slice AP ps.length cp, .slice AT ts.length ct] at0 rowSheetP ?_)
    | (show wpList _ _ _ (Oper.mk (some 11) _ _ _ _ _ :: _) _ _
       refine wpList_load_blk 28 (.tmp 3) rfl rfl rfl H1.out.2.2 [.slice AG gs.length cg, .int .i64 vary] at0 rowGradingP ?_))
  have h2s := H2.out
  go_loopg [7] ts.length (fun gn s7 wx => ∃ i : Nat, i + gn = ts.length ∧ s7 = .int .i64 i ∧ Hid ((∀ j, (hj : j < ts.length) → j < i → oneBad gs vary ps ts[j] = false) ∧ Below w.heap.size w wx ∧ wx.heap[w.heap.size]? = some (.cells #[.slice AP ps.length cp, .slice AT ts.length ct] 25 (0, 0)) ∧ wx.heap[w.heap.size + 1]? = some (.cells #[.slice AG gs.length cg, .int .i64 vary] 28 (0, 0))))
  case atStart => exact ⟨0, by omega, rfl, fun j _ hj => by omega, h2s⟩
  case round =>
    clear h2s
    obtain ⟨i, hig, rfl, hI⟩ := hrel
    have hcr : wr.cell? ⟨w.heap.size, 1, none⟩ = some (.slice AT ts.length ct) := cell_of_row wr _ 1 _ _ _ hI.out.2.2.1
    cases gk with
    | succ gi =>
      have hi : i < ts.length := by omega
      have hiz : (i : Int) < ts.length := by omega
      obtain ⟨cT, oT, hA, hcTB, hcT⟩ := HPE.out i hi
      subst hA
      have ht1 := HT1.out i hi cT oT (fun _ => ⟨cT, oT + i * 5, rfl, hcTB, fun j v hv => hcT j v (by simpa using hv)⟩) (ct - i)
      have hst : oneBad gs vary ps ts[i] = !truth gs vary ps [ts[i]] := rfl
      have hfi := fun (P : Ts → Bool) (h : P ts[i] = true) (h0 : ∀ j, (hj : j < ts.length) → j < i → P ts[j] = false) => (show ts.find? P = some ts[i] from by
        have e : ts = ts.take i ++ ts[i] :: ts.drop (i + 1) := by simp
        conv => lhs; rw [e]
        exact find_first _ _ _ (fun y hy => by
          obtain ⟨j, hj, rfl⟩ := List.getElem_of_mem hy
          simp only [List.length_take] at hj
          rw [List.getElem_take]
          exact h0 j (by omega) (by omega)) h)
      have hid : w.cell? ⟨cT, oT + i * 5, none⟩ = some (.int .i64 ts[i].id) := hcT 0 _ rfl
      have hfi := hfi (oneBad gs vary ps)
      have hye : ∀ j, (hj : j < ts.length) → j = i → ts[j] = ts[i] := fun j hj e => by subst e; rfl
      have HI := Lib.hid hI.out
      generalize ts[i] = y at hst hfi ht1 hid hye
      have HST := Lib.hid (And.intro hst (And.intro hfi (And.intro hid hcTB)))
      have HYE := Lib.hid hye
      clear hye
      have HTR := Lib.hid ht1
      have hni : ((i : Int) + 1).toNat = i + 1 := by omega
      have hwr : IntKind.i64.wrap ((i : Int) + 1) = (i : Int) + 1 := IntWalk.i64_in _ (by omega)
      have HN := Lib.hid (And.intro (show (0 : Int) ≤ i by omega) (And.intro (show (i : Int) ≤ (i : Int) + 1 by omega) (And.intro (show (i : Int) + 1 ≤ ct by have := HCT.out.1; omega) (And.intro hni hwr))))
      clear hI hcT hst hfi hid ht1 hni hwr
      cases hv : truth gs vary ps [y]
      all_goals
        have HV := Lib.hid hv
        rw [hv] at HTR
        clear hv
        go_wp2
        refine R6.wp_walk (C := fun _ _ W => Below wr.heap.size wr W) 84 (by kernel_rfl) (by kernel_rfl) rfl (Below.refl _ _).drew ?_
        simp only []
        refine' R6.WalkR.det (fun _ => rfl) (fun D ρ W hK hC => ?_) ?_
        rotate_left
        · exact gives_load_blk 25 (.tmp 2) rfl rfl ((hC.block _ (lt_of_heap HI.out.2.2.1)).trans HI.out.2.2.1) [.slice AP ps.length cp, .slice (some ⟨cT, oT, none⟩) ts.length ct] at0 rowSheetP ⟨rfl, hC⟩
        simp only [Act.put, List.setIfInBounds_toArray, List.set_cons_succ, List.set_cons_zero]
        refine' R6.WalkR.det (fun _ => rfl) (fun D ρ W hK hC => ?_) ?_
        rotate_left
        · exact gives_load_blk 28 (.tmp 3) rfl rfl ((hC.block _ (lt_of_heap HI.out.2.2.2)).trans HI.out.2.2.2) [.slice AG gs.length cg, .int .i64 vary] at0 rowGradingP ⟨rfl, hC⟩
        simp only [Act.put, List.setIfInBounds_toArray, List.set_cons_succ, List.set_cons_zero]
        repeat (first
          | (refine' R6.WalkR.det (fun _ => rfl) (fun D ρ W hK hC => ?_) ?_
             rotate_left
             · have f1 : W.cell? ⟨w.heap.size, 1, none⟩ = some (.slice (some ⟨cT, oT, none⟩) ts.length ct) := cell_of_row W _ 1 _ _ _ ((hC.block _ (lt_of_heap HI.out.2.2.1)).trans HI.out.2.2.1)
               have n5 := HN.out.2.2.2.2
               have HC := Lib.hid hC
               clear hC hK
               go_simp
               with_reducible exact ⟨rfl, HC.out⟩
             simp only [Act.put, List.setIfInBounds_toArray, List.set_cons_succ, List.set_cons_zero]))
        refine' R6.WalkR.det (fun _ => rfl) (fun D ρ W hK hC => ?_) ?_
        rotate_left
        · obtain ⟨n1, n2, n3, n4, n5⟩ := HN.out
          obtain ⟨ii, hii⟩ := infoTestS
          refine gives_slice_lh 23 (.tmp 26) (.tmp 27) (.tmp 29) rfl underTestS rfl rfl rfl n1 n2 n3 hii cellsTestS ?_
          rw [n4, Int.toNat_natCast, sliced_one (by omega)]
          exact ⟨rfl, hC⟩
        simp only [Act.put, List.setIfInBounds_toArray, List.set_cons_succ, List.set_cons_zero]
        refine' R6.WalkR.det (fun _ => rfl) (fun D ρ W hK hC => ?_) ?_
        rotate_left
        · have HC := Lib.hid hC
          clear hC hK
          go_simp
          go_at_call 27
          refine (HTR.out W (HI.out.2.1.trans (HC.out.mono HI.out.2.1.size))).mono ?_
          rintro e W1 ⟨rfl, hB1⟩
          exact ⟨_, rfl, rfl, HC.out.trans (hB1.mono HC.out.size)⟩
        simp only [Act.put, List.setIfInBounds_toArray, List.set_cons_succ, List.set_cons_zero]
        repeat (first
          | (refine' R6.WalkR.det (fun _ => rfl) (fun D ρ W hK hC => ?_) ?_
             rotate_left
             · skip
               have HC := Lib.hid hC
               clear hC hK
               go_simp
               with_reducible exact ⟨rfl, HC.out⟩
             simp only [Act.put, List.setIfInBounds_toArray, List.set_cons_succ, List.set_cons_zero]))
        refine R6.WalkR.nil (fun D ρ W6 hD hC => ?_)
        have H6 := Lib.hid (And.intro (HI.out.2.1.trans (hC.mono HI.out.2.1.size)) (And.intro ((hC.block _ (lt_of_heap HI.out.2.2.1)).trans HI.out.2.2.1) ((hC.block _ (lt_of_heap HI.out.2.2.2)).trans HI.out.2.2.2)))
        clear hC hD hcr
      · have hc6 : W6.cell? ⟨w.heap.size, 1, none⟩ = some (.slice (some ⟨cT, oT, none⟩) ts.length ct) := cell_of_row W6 _ 1 _ _ _ H6.out.2.1
        have hi6 : W6.cell? ⟨cT, oT + i * 5, none⟩ = some (.int .i64 y.id) := (H6.out.1.cell (p := ⟨cT, oT + i * 5, none⟩) (by have := HST.out.2.2.2; have := HCT.out.2; simp; omega)).trans HST.out.2.2.1
        go_wp2
        go_ret2
        refine ⟨some ⟨W6.heap.size, 0, none⟩, 1, ?_, ?_, H6.out.1.trans ((grow1 W6 _).mono H6.out.1.size)⟩
        · rw [show clashL gs vary ps ts = [y.id] from by
            have := HST.out.2.1 (by rw [HST.out.1, HV.out]; rfl) (HI.out.1)
            simp only [clashL, this]]
          rfl
        · rw [show clashL gs vary ps ts = [y.id] from by
            have := HST.out.2.1 (by rw [HST.out.1, HV.out]; rfl) (HI.out.1)
            simp only [clashL, this]]
          exact ints_lit [y.id] (alloc_at0 W6 _) rfl |>.mono (by simp)
      · go_wp2
        go_roundg gi
        case measure => omega
        case rel =>
          refine ⟨i + 1, by omega, by go_num, fun j hj hji => ?_, H6.out⟩
          by_cases e : j < i
          · exact HI.out.1 j hj e
          · rw [HYE.out j hj (by omega), HST.out.1, HV.out]
            rfl
    | zero =>
      obtain rfl : i = ts.length := by omega
      have hno : ts.find? (oneBad gs vary ps) = none := by
        rw [List.find?_eq_none]
        intro y hy
        obtain ⟨j, hj, rfl⟩ := List.getElem_of_mem hy
        rw [hI.out.1 j hj hj]
        decide
      have hcl : clashL gs vary ps ts = pairL gs vary ps ts := by simp only [clashL, hno]
      have HCL := Lib.hid hcl
      have HI0 := Lib.hid hI.out.2
      clear hno hcl hI
      go_wp2
      clear hcr
      have h2s := HI0.out
      go_loopg [8] ts.length (fun gn s8 wx => ∃ i : Nat, i + gn = ts.length ∧ s8 = .int .i64 i ∧ Hid ((∀ j, j < i → ∀ m, m < ts.length → badT gs vary ps ts j m = false) ∧ Below w.heap.size w wx ∧ wx.heap[w.heap.size]? = some (.cells #[.slice AP ps.length cp, .slice AT ts.length ct] 25 (0, 0)) ∧ wx.heap[w.heap.size + 1]? = some (.cells #[.slice AG gs.length cg, .int .i64 vary] 28 (0, 0))))
      case atStart => exact ⟨0, by omega, rfl, fun j hj => by omega, h2s⟩
      case round =>
        clear h2s HI0
        obtain ⟨i, hig, rfl, hI⟩ := hrel
        have hcr : wr.cell? ⟨w.heap.size, 1, none⟩ = some (.slice AT ts.length ct) := cell_of_row wr _ 1 _ _ _ hI.out.2.2.1
        cases gk with
        | zero =>
          obtain rfl : i = ts.length := by omega
          have hpn := pairF_none hI.out.1
          have hpl : pairL gs vary ps ts = [] := by simp only [pairL, hpn]
          have HPL := Lib.hid (HCL.out.trans hpl)
          clear hpn hpl
          go_wp2
          go_ret2
          exact ⟨none, 0, by rw [HPL.out]; rfl, by rw [HPL.out]; exact fun h => by simp at h, hI.out.2.1⟩
        | succ gi =>
          have hi : i < ts.length := by omega
          have hiz : (i : Int) < ts.length := by omega
          have HI1 := Lib.hid hI.out.1
          have HI2 := hI.out.2
          clear hI
          go_wp2
          clear hcr
          obtain ⟨wo, rfl⟩ : ∃ wo : World, wo = wr := ⟨_, rfl⟩
          go_loopg [9] gi (fun gn s9 wx => ∃ k : Nat, k + gn = ts.length ∧ s9 = .int .i64 k ∧ i < k ∧ Hid ((∀ m, m < k → badT gs vary ps ts i m = false) ∧ Below w.heap.size w wx ∧ wx.heap[w.heap.size]? = some (.cells #[.slice AP ps.length cp, .slice AT ts.length ct] 25 (0, 0)) ∧ wx.heap[w.heap.size + 1]? = some (.cells #[.slice AG gs.length cg, .int .i64 vary] 28 (0, 0))))
          case atStart =>
            refine ⟨i + 1, by omega, by go_num, by omega, fun m hm => ?_, HI2⟩
            have hmn : m < ts.length := by omega
            rw [badT_at hi hmn]
            have : decide (i < m) = false := by simp; omega
            rw [this, Bool.false_and]
          case round =>
            clear HI2
            obtain ⟨k, hkg, rfl, hik, hK⟩ := hrel
            have hcr : wr.cell? ⟨w.heap.size, 1, none⟩ = some (.slice AT ts.length ct) := cell_of_row wr _ 1 _ _ _ hK.out.2.2.1
            cases gk with
            | zero =>
              obtain rfl : k = ts.length := by omega
              go_wp2
              go_roundg gi
              case measure => omega
              case rel => exact ⟨i + 1, by omega, by go_num, fun j hj m hm => (by
                by_cases e : j < i
                · exact HI1.out j e m hm
                · obtain rfl : j = i := by omega
                  exact hK.out.1 m hm), hK.out.2⟩
            | succ gn =>
              have hk : k < ts.length := by omega
              have hkz : (k : Int) < ts.length := by omega
              have hbt := badT_at (gs := gs) (vary := vary) (ps := ps) hi hk
              obtain ⟨cT, oT, hA, hcTB, hcT⟩ := HPE.out i hi
              subst hA
              obtain ⟨c', o', hA, -, hcT2⟩ := HPE.out k hk
              simp only [Option.some.injEq, Addr.mk.injEq, and_true] at hA
              obtain ⟨rfl, rfl⟩ := hA
              have hiy : idAt ts i = ts[i].id := by simp [idAt, hi]
              have hkz' : idAt ts k = ts[k].id := by simp [idAt, hk]
              have htr := HT2.out ts[i] ts[k] (List.getElem_mem hi) (List.getElem_mem hk)
              generalize ts[i] = y1 at hbt hcT hiy htr
              generalize ts[k] = y2 at hbt hcT2 hkz' htr
              have hcW := fun (W : World) (hW : Below wr.heap.size wr W) => cells_below5 (hK.out.2.1.trans (hW.mono hK.out.2.1.size)) (Nat.lt_of_lt_of_le hcTB HCT.out.2) hcT
              have hcW2 := fun (W : World) (hW : Below wr.heap.size wr W) => cells_below5 (hK.out.2.1.trans (hW.mono hK.out.2.1.size)) (Nat.lt_of_lt_of_le hcTB HCT.out.2) hcT2
              have HCW := Lib.hid (And.intro hcW hcW2)
              have HK := Lib.hid hK.out
              have HID := Lib.hid (And.intro hiy hkz')
              clear hcW hcW2 hcT hcT2 hK hiy hkz'
              rw [hik_dec hik, Bool.true_and] at hbt
              have hikh := Lib.hid hik
              clear hik
              cases hv : truth gs vary ps [y1, y2]
              all_goals
                rw [hv] at htr hbt
                have HBT := Lib.hid hbt
                have HTR := Lib.hid htr
                clear hv hbt htr
                go_wp2
                refine R6.wp_walk (C := MadeC wr 12 68 2 78 (tcl y1 ++ tcl y2)) 84 (by kernel_rfl) (by kernel_rfl) rfl (MadeC.start (fun _ => rfl) (Below.refl _ _).drew) ?_
                simp only []
                refine' R6.WalkR.det (fun _ => rfl) (fun D ρ W hK hC => ?_) ?_
                rotate_left
                · exact gives_load_blk 25 (.tmp 2) rfl rfl ((hC.bel.block _ (lt_of_heap HK.out.2.2.1)).trans HK.out.2.2.1) [.slice AP ps.length cp, .slice (some ⟨cT, oT, none⟩) ts.length ct] at0 rowSheetP ⟨rfl, hC.move (by decide)⟩
                simp only [Act.put, List.setIfInBounds_toArray, List.set_cons_succ, List.set_cons_zero]
                refine' R6.WalkR.det (fun _ => rfl) (fun D ρ W hK hC => ?_) ?_
                rotate_left
                · exact gives_load_blk 28 (.tmp 3) rfl rfl ((hC.bel.block _ (lt_of_heap HK.out.2.2.2)).trans HK.out.2.2.2) [.slice AG gs.length cg, .int .i64 vary] at0 rowGradingP ⟨rfl, hC.move (by decide)⟩
                simp only [Act.put, List.setIfInBounds_toArray, List.set_cons_succ, List.set_cons_zero]
                repeat (first
                  | (refine' R6.WalkR.det (fun _ => rfl) (fun D ρ W hK hC => ?_) ?_
                     rotate_left
                     · have f1 : W.cell? ⟨w.heap.size, 1, none⟩ = some (.slice (some ⟨cT, oT, none⟩) ts.length ct) := cell_of_row W _ 1 _ _ _ ((hC.bel.block _ (lt_of_heap HK.out.2.2.1)).trans HK.out.2.2.1)
                       have HC := Lib.hid hC
                       clear hC hK
                       go_simp
                       with_reducible exact ⟨rfl, HC.out.move (by decide)⟩
                     simp only [Act.put, List.setIfInBounds_toArray, List.set_cons_succ, List.set_cons_zero]))
                refine' R6.WalkR.det (fun _ => rfl) (fun D ρ W hK hC => ?_) ?_
                rotate_left
                · exact gives_load_at 78 (.tmp 61) rfl rfl [.int .i64 y1.id, .int .i64 y1.pole, .int .i64 y1.sec, .int .i64 y1.force, .bool y1.held] (HCW.out.1 W hC.bel) rowTest ⟨rfl, hC.move (by decide)⟩
                simp only [Act.put, List.setIfInBounds_toArray, List.set_cons_succ, List.set_cons_zero]
                repeat (first
                  | (refine' R6.WalkR.det (fun _ => rfl) (fun D ρ W hK hC => ?_) ?_
                     rotate_left
                     · have f1 : W.cell? ⟨w.heap.size, 1, none⟩ = some (.slice (some ⟨cT, oT, none⟩) ts.length ct) := cell_of_row W _ 1 _ _ _ ((hC.bel.block _ (lt_of_heap HK.out.2.2.1)).trans HK.out.2.2.1)
                       have HC := Lib.hid hC
                       clear hC hK
                       go_simp
                       with_reducible exact ⟨rfl, HC.out.move (by decide)⟩
                     simp only [Act.put, List.setIfInBounds_toArray, List.set_cons_succ, List.set_cons_zero]))
                refine' R6.WalkR.det (fun _ => rfl) (fun D ρ W hK hC => ?_) ?_
                rotate_left
                · exact gives_load_at 78 (.tmp 66) rfl rfl [.int .i64 y2.id, .int .i64 y2.pole, .int .i64 y2.sec, .int .i64 y2.force, .bool y2.held] (HCW.out.2 W hC.bel) rowTest ⟨rfl, hC.move (by decide)⟩
                simp only [Act.put, List.setIfInBounds_toArray, List.set_cons_succ, List.set_cons_zero]
                refine' R6.WalkR.nd (fun _ => rfl) rfl (fun D ρ W hK hC => ?_) ?_
                · have HC := Lib.hid hC
                  clear hC hK
                  go_simp
                  exact HC.out.made rfl
                simp only [Act.put, List.setIfInBounds_toArray, List.set_cons_succ, List.set_cons_zero]
                refine' R6.WalkR.det (fun _ => rfl) (fun D ρ W hK hC => ?_) ?_
                rotate_left
                · obtain ⟨b5, hv0, hge, hm⟩ := hC.mkd (hK.pre 12 (needs_edgeM (by decide +kernel)))
                  have hv : _ = Value.slice (some ⟨b5, 0, none⟩) 2 2 := hv0
                  clear hv0
                  have HC := Lib.hid hC
                  have HM := Lib.hid hm
                  clear hC hK hm
                  go_simp
                  go_at_call 27
                  refine (HTR.out b5 2 W (HK.out.2.1.trans (HC.out.bel.mono HK.out.2.1.size)) HM.out).mono ?_
                  rintro e W1 ⟨rfl, hB1⟩
                  exact ⟨_, rfl, rfl, (HC.out.next hB1).move (by decide)⟩
                simp only [Act.put, List.setIfInBounds_toArray, List.set_cons_succ, List.set_cons_zero]
                repeat (first
                  | (refine' R6.WalkR.det (fun _ => rfl) (fun D ρ W hK hC => ?_) ?_
                     rotate_left
                     · skip
                       have HC := Lib.hid hC
                       clear hC hK
                       go_simp
                       with_reducible exact ⟨rfl, HC.out.move (by decide)⟩
                     simp only [Act.put, List.setIfInBounds_toArray, List.set_cons_succ, List.set_cons_zero]))
                refine R6.WalkR.nil (fun D ρ W6 hD hC0 => ?_)
                have hC := hC0.bel
                clear hC0
                have HB6 := Lib.hid hC
                have H6 := Lib.hid (And.intro (HK.out.2.1.trans (hC.mono HK.out.2.1.size)) (And.intro ((hC.block _ (lt_of_heap HK.out.2.2.1)).trans HK.out.2.2.1) ((hC.block _ (lt_of_heap HK.out.2.2.2)).trans HK.out.2.2.2)))
                clear hC hD hcr
              · have hpl : pairL gs vary ps ts = [y1.id, y2.id] := by
                  have := pairF_some hi hk HBT.out HI1.out HK.out.1
                  simp only [pairL, this, HID.out.1, HID.out.2]
                have HPL := Lib.hid (HCL.out.trans hpl)
                clear hpl
                go_wp2
                refine R6.wp_walk (C := MadeC W6 12 83 2 3 (ints [y1.id, y2.id])) 84 (by kernel_rfl) (by kernel_rfl) rfl (MadeC.start (fun _ => rfl) (Below.refl _ _).drew) ?_
                simp only []
                repeat (first
                  | (refine' R6.WalkR.det (fun _ => rfl) (fun D ρ W hK hC => ?_) ?_
                     rotate_left
                     · have f1 : W.cell? ⟨w.heap.size, 1, none⟩ = some (.slice (some ⟨cT, oT, none⟩) ts.length ct) := cell_of_row W _ 1 _ _ _ ((hC.bel.block _ (lt_of_heap H6.out.2.1)).trans H6.out.2.1)
                       have hbw : Below wr.heap.size wr W := HB6.out.trans (hC.bel.mono HB6.out.size)
                       have g1 : W.cell? ⟨cT, oT + i * 5, none⟩ = some (.int .i64 y1.id) := HCW.out.1 W hbw 0 _ rfl
                       have g2 : W.cell? ⟨cT, oT + k * 5, none⟩ = some (.int .i64 y2.id) := HCW.out.2 W hbw 0 _ rfl
                       clear hbw
                       have HC := Lib.hid hC
                       clear hC hK
                       go_simp
                       with_reducible exact ⟨rfl, HC.out.move (by decide)⟩
                     simp only [Act.put, List.setIfInBounds_toArray, List.set_cons_succ, List.set_cons_zero]))
                refine' R6.WalkR.nd (fun _ => rfl) rfl (fun D ρ W hK hC => ?_) ?_
                · have HC := Lib.hid hC
                  clear hC hK
                  go_simp
                  exact HC.out.made rfl
                simp only [Act.put, List.setIfInBounds_toArray, List.set_cons_succ, List.set_cons_zero]
                refine' R6.WalkR.fn 83 (fun v => v) (fun _ => rfl) (by decide +kernel) (fun D ρ W hK hC => ?_) ?_
                · have HC := Lib.hid hC
                  clear hC hK
                  go_simp
                  exact HC.out.move (by decide)
                simp only [Act.put, List.setIfInBounds_toArray, List.set_cons_succ, List.set_cons_zero]
                repeat (first
                  | (refine' R6.WalkR.det (fun _ => rfl) (fun D ρ W hK hC => ?_) ?_
                     rotate_left
                     · skip
                       have HC := Lib.hid hC
                       clear hC hK
                       go_simp
                       with_reducible exact ⟨rfl, HC.out.move (by decide)⟩
                     simp only [Act.put, List.setIfInBounds_toArray, List.set_cons_succ, List.set_cons_zero]))
                refine R6.WalkR.nil (fun D ρ W9 hD hC => ?_)
                obtain ⟨b9, hv9, -, hm9⟩ := hC.mkd (hD 12 (by omega))
                simp only [hv9]
                have H9 := Lib.hid (And.intro (H6.out.1.trans (hC.bel.mono H6.out.1.size)) hm9)
                clear hC hD hv9 hm9
                go_wp2
                go_ret2
                exact ⟨some ⟨b9, 0, none⟩, 2, by rw [HPL.out]; rfl, by rw [HPL.out]; exact ints_lit [y1.id, y2.id] H9.out.2 rfl, H9.out.1⟩
              · go_wp2
                go_roundg gn
                case measure => omega
                case rel => exact ⟨k + 1, by omega, by go_num, by have := hikh.out; omega, fun m hm => (by
                  by_cases e : m < k
                  · exact HK.out.1 m e
                  · obtain rfl : m = k := by omega
                    exact HBT.out), H6.out⟩

end Go.Proofs.Ytboffligjgjgjaa
