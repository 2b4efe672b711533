/-
  Whether some tests clash alone (a closure of the law GradeClash).
-/
import Derived.BigGuardPart
import Derived.Test.YtddpebnmjfmgdaaGreatQC30
import Derived.Test.YtddpebnmjfmgdaaGreatQC37
import Derived.Test.YtddpebnmjfmgdaaGreatQC34
import Derived.Test.YtddpebnmjfmgdaaGreatQC38
set_option linter.all false
namespace Go.Proofs.YtddpebnmjfmgdaaGreat
open Go.RowKit Go.BigFrame
open R6 (done done_ne done_me upd_ne upd_me)

attribute [local go_sem] gives

def repT (x : Ts) (l : List Int) : List Ts := (l.filter fun d => decide (x.id = d)).map fun _ => x
theorem subT_app (a b : List Ts) (l : List Int) : subT (a ++ b) l = subT a l ++ subT b l := by simp [subT]
theorem subT_step (ts : List Ts) (l : List Int) (i : Nat) (hi : i < ts.length) : subT (ts.take (i + 1)) l = subT (ts.take i) l ++ repT ts[i] l := by
  rw [List.take_add_one, List.getElem?_eq_getElem hi, subT_app]
  simp [subT, repT]
theorem repT_step (x : Ts) (l : List Int) (k : Nat) (hk : k < l.length) : repT x (l.take (k + 1)) = repT x (l.take k) ++ (if x.id = l[k] then [x] else []) := by
  unfold repT
  rw [List.take_add_one, List.getElem?_eq_getElem hk, List.filter_append, List.map_append]
  congr 1
  by_cases h : x.id = l[k]
  · simp [h]
  · simp [h]
theorem repT_len (x : Ts) (l : List Int) : (repT x l).length ≤ l.length := by
  unfold repT
  rw [List.length_map]
  exact List.length_filter_le _ _
theorem subT_len (l : List Int) : ∀ ts : List Ts, (subT ts l).length ≤ ts.length * l.length
  | [] => by simp [subT]
  | x :: ts => by
    have h1 := subT_len l ts
    have h2 := repT_len x l
    rw [subT_cons, List.length_append, List.length_cons, Nat.succ_mul]
    unfold repT at h2
    omega
/-- A sheet of its own, with some tests. -/
structure InC (w : World) (b6 : Nat) (ps : List Pol) (R : List Ts) (A1 : Option Addr) (c1 : Nat) (A : Option Addr) (c : Nat) (W : World) : Prop where
  bel : Below w.heap.size w W
  o1 : W.ownsRow w.heap.size 56 12 (.slice A1 ps.length c1) ps.length (ps.flatMap pcl)
  o2 : W.ownsRow w.heap.size 58 5 (.slice A R.length c) R.length (R.flatMap tcl)
  box : W.heap[b6]? = some (.cells [.slice A1 ps.length c1, .slice A R.length c].toArray 25 (0, 0))
  le : w.heap.size ≤ b6
theorem InC.grows {w W W' : World} {b6 : Nat} {ps : List Pol} {R : List Ts} {A1 A : Option Addr} {c1 c : Nat} (h : InC w b6 ps R A1 c1 A c W) (hg : Grows W W') : InC w b6 ps R A1 c1 A c W' :=
  ⟨h.bel.trans (hg.mono h.bel.size), own_grows h.o1 hg, own_grows h.o2 hg, (hg.block _ (lt_of_heap h.box)).trans h.box, h.le⟩

set_option maxRecDepth 100000 in
set_option maxHeartbeats 16000000 in
theorem gtClashes_any (ps : List Pol) (ts : List Ts) (gs : List Gd) (vary : Int) (ids : List Int) (AP : Option Addr) (cp : Nat) (AT : Option Addr) (ct : Nat) (AG : Option Addr) (cg : Nat) (A0 : Option Addr) (c0 bs bg B : Nat) (w : World) (hB : B ≤ w.heap.size)
    (hz : ShAt w B ps ts AP AT) (hg : GdAt w B gs AG) (hlp : ps.length ≤ 16) (hlt : ts.length ≤ 26) (hli : ids.length ≤ 2) (hi : Ints w B A0 ids)
    (hbs : w.heap[bs]? = some (.cells #[.slice AP ps.length cp, .slice AT ts.length ct] 25 (0, 0))) (hbg : w.heap[bg]? = some (.cells #[.slice AG gs.length cg, .int .i64 vary] 28 (0, 0))) :
    Calls Tryz.prog 36 #[.slice A0 ids.length c0, .pointer (some ⟨bs, 0, none⟩), .pointer (some ⟨bg, 0, none⟩)] w fun e w' =>
      e = .returned (.tuple #[.bool (decide (0 < (sClash gs vary ps (subT ts ids)).1.length)), .bool ((sClash gs vary ps (subT ts ids)).2 == 0 && (subT ts ids).length == ids.length)]) ∧ Below w.heap.size w w' := by
  obtain ⟨i2, hi2, hz2, hsz2, hby2⟩ := info_parts infoTest5
  have HI := Lib.hid (And.intro hi2 (And.intro hz2 (And.intro hsz2 hby2)))
  have htw := rfTwin_any ps ts AP cp AT ct B w hB hz (by omega) (by omega)
  unfold TwinPost at htw
  have HTW := Lib.hid htw
  have HBS := Lib.hid (And.intro hbs hbg)
  have HZ := Lib.hid (And.intro hz (And.intro hg hi))
  have HL := Lib.hid (And.intro hlp (And.intro hlt hli))
  have HB0 := Lib.hid hB
  clear htw hbs hbg hz hg hi hlp hlt hli hB hi2 hz2 hsz2 hby2
  go_enter Tryz.func36, Tryz.ntmps36
  go_wp2_with (first
    | (show wpList _ _ _ (Oper.mk (some 13) _ _ _ _ _ :: _) _ _
       refine wpList_load_blk 25 (.tmp 1) rfl rfl rfl HBS.out.1 [.slice AP ps.length cp, .slice AT ts.length ct] at0 rowSheetP ?_)
    | (go_at_call 13
       refine HTW.out.mono ?_
       rintro e w2 ⟨v1, v2, rfl, ho, hB2⟩
       obtain ⟨A1, c1, rfl⟩ := own_slice ho.1
       obtain ⟨A2, c2, rfl⟩ := own_slice ho.2
       have H2 := Lib.hid (And.intro hB2 ho)
       clear hB2 ho)
    | (show wpList _ _ _ (Oper.mk none (Op.store _ (Operand.tmp 6) (Operand.tmp 14)) _ _ _ _ :: _) _ _
       have hm : (w2.alloc (.cells #[.slice none 0 0, .slice none 0 0] 25)).heap[w2.heap.size]? = some (.cells [Value.slice none 0 0, .slice none 0 0].toArray 25 (0, 0)) := alloc_at0 _ _
       refine wpList_store_blk 25 (.tmp 6) (.tmp 14) (cs := [.slice A1 ps.length c1, .slice A2 ts.length c2]) rfl rfl rfl rfl rfl hm (Nat.le_of_ble_eq_true rfl) (by intro v hv; simp only [List.mem_cons, List.not_mem_nil, or_false] at hv; rcases hv with rfl | rfl <;> rfl) rowSheetP ?_
       intro w3 hP hM
       rw [splice_whole (by rfl)] at hM
       have hb := (grow1 w2 _).trans (hP.below (Nat.le_refl _))
       have hO := H2.out.2.grows (grow1 w2 (.cells #[.slice none 0 0, .slice none 0 0] 25))
       have H3 := Lib.hid (And.intro (H2.out.1.trans (hb.mono H2.out.1.size)) (And.intro (own_put hO.1 hP hm (by decide)) hM))
       clear hP hM hm hb hO)
    | (show wpList _ _ _ (Oper.mk none (Op.store _ (Operand.tmp 15) _) _ _ _ _ :: _) _ _
       refine wpList_store_v5 23 (.tmp 15) (.const (.slice none 0 0)) (v := .slice none 0 0) rfl rfl rfl rfl rfl rfl rfl (L := [.slice A1 ps.length c1, .slice A2 ts.length c2]) H3.out.2.2 (Nat.le_of_ble_eq_true rfl) infoTL5 ?_
       intro w4 hP hM
       have hI : InC w w2.heap.size ps [] A1 c1 none 0 w4 := ⟨H3.out.1.trans (hP.below H2.out.1.size), own_put H3.out.2.1 hP H3.out.2.2 (by decide), ⟨by simp, .inl ⟨rfl, rfl⟩⟩, hM, H2.out.1.size⟩
       have f4 : w4.cell? ⟨bs, 1, none⟩ = some (.slice AT ts.length ct) := cell_of_row w4 _ 1 _ _ _ ((hI.bel.block _ (lt_of_heap HBS.out.1)).trans HBS.out.1)
       obtain ⟨b6, hb6⟩ : ∃ b6, w2.heap.size = b6 := ⟨_, rfl⟩
       rw [hb6] at hI
       have H4 := Lib.hid (And.intro hI hb6)
       clear hP hM hI hb6))
  clear f4
  have hb6 := H4.out.2
  have hI4 := H4.out.1
  subst hb6
  have HI4 := Lib.hid hI4
  clear hI4 H4 H3 HTW
  go_loopg [19] ts.length (fun gn s19 wx => ∃ i : Nat, i + gn = ts.length ∧ s19 = .int .i64 i ∧ Hid (∃ A c, InC w w2.heap.size ps (subT (ts.take i) ids) A1 c1 A c wx))
  case atStart => exact ⟨0, by omega, rfl, ⟨none, 0, by simpa [subT] using HI4.out⟩⟩
  case round =>
    obtain ⟨i, hig, rfl, hI⟩ := hrel
    cases gk with
    | zero =>
      obtain rfl : i = ts.length := by omega
      obtain ⟨A, c, hI⟩ := hI.out
      rw [List.take_length] at hI
      have hRl : (subT ts ids).length ≤ 52 := by
        have h1 := subT_len ids ts
        have h2 : ts.length * ids.length ≤ 26 * 2 := Nat.mul_le_mul HL.out.2.1 HL.out.2.2
        omega
      generalize hRe : subT ts ids = R at hI hRl
      have HRE := Lib.hid hRe
      have hcl := grClashP_any ps R gs vary A1 c1 A c AG cg wr.heap.size wr (Nat.le_refl _) ⟨Vals.own hI.o1, Vals.own hI.o2, by have := HL.out; omega, by omega⟩ ((HZ.out.2.1.below (hI.bel.mono HB0.out)).mono (Nat.le_trans HB0.out hI.bel.size))
      unfold ClashPost at hcl
      generalize hre : sClash gs vary ps R = r at hcl
      have HRR := Lib.hid hre
      have HCL := Lib.hid hcl
      have HI2 := Lib.hid hI
      have hg2 := (hI.bel.block _ (lt_of_heap HBS.out.2)).trans HBS.out.2
      have HG2 := Lib.hid hg2
      obtain ⟨u, hu⟩ : ∃ u, decide (0 < r.1.length) = u := ⟨_, rfl⟩
      obtain ⟨v, hv⟩ : ∃ v, (R.length == ids.length) = v := ⟨_, rfl⟩
      have hu2 : decide ((0 : Int) < (r.1.length : Int)) = u := by rw [← hu]; congr 1; simp
      have hv2 : ((R.length : Int) == (ids.length : Int)) = v := by rw [← hv, Bool.eq_iff_iff, beq_iff_eq, beq_iff_eq]; omega
      have hv3 : decide (R.length = ids.length) = v := by rw [← hv, Bool.eq_iff_iff]; simp
      have HU := Lib.hid hu
      have HV := Lib.hid hv
      clear hcl hI hg2 hRl hRe hre hu hv
      cases he : (r.2 == 0)
      · have hen : ¬ r.2 = 0 := by simpa using he
        have HE := Lib.hid he
        go_wp2_with (first
          | (show wpList _ _ _ (Oper.mk (some 42) _ _ _ _ _ :: _) _ _
             refine wpList_load_blk 25 (.tmp 6) rfl rfl rfl HI2.out.box [.slice A1 ps.length c1, .slice A R.length c] at0 rowSheetP ?_)
          | (show wpList _ _ _ (Oper.mk (some 43) _ _ _ _ _ :: _) _ _
             refine wpList_load_blk 28 (.tmp 2) rfl rfl rfl HG2.out [.slice AG gs.length cg, .int .i64 vary] at0 rowGradingP ?_)
          | (go_at_call 33
             refine HCL.out.mono ?_
             rintro e w5 ⟨A5, c5, rfl, -, hB5⟩
             have H5 := Lib.hid hB5
             clear hB5))
        refine R6.wp_walk (C := fun _ _ W => Below w5.heap.size w5 W) 60 (by kernel_rfl) (by kernel_rfl) rfl (Below.refl _ _).drew ?_
        simp only []
        repeat (first
          | (refine' R6.WalkR.det (fun _ => rfl) (fun D ρ W hK hC => ?_) ?_
             rotate_left
             · have f6 : W.cell? ⟨w2.heap.size, 1, none⟩ = some (.slice A R.length c) := cell_of_row W _ 1 _ _ _ (((H5.out.trans (hC.mono H5.out.size)).block _ (lt_of_heap HI2.out.box)).trans HI2.out.box)
               have HC := Lib.hid hC
               clear hC hK
               go_simp
               with_reducible exact ⟨rfl, HC.out⟩
             simp only [Act.put, List.setIfInBounds_toArray, List.set_cons_succ, List.set_cons_zero])
          | (refine R6.WalkR.un (fun _ => rfl) (fun D ρ W hK hC => hC) ?_
             simp only [Act.put, List.setIfInBounds_toArray, List.set_cons_succ, List.set_cons_zero]))
        refine R6.WalkR.nil (fun D ρ W6 hD hC => ?_)
        have H6 := Lib.hid (H5.out.trans (hC.mono H5.out.size))
        clear hC hD
        go_wp2
        refine bodyPost_ret (v := .tuple #[.bool u, .bool false]) (by simp [results, Tryz.results36, go_sem, HU.out]) rfl ⟨by rw [HRE.out, HRR.out, HU.out, HV.out, HE.out]; rfl, HI2.out.bel.trans (H6.out.mono HI2.out.bel.size)⟩
      · have HE := Lib.hid he
        go_wp2_with (first
          | (show wpList _ _ _ (Oper.mk (some 42) _ _ _ _ _ :: _) _ _
             refine wpList_load_blk 25 (.tmp 6) rfl rfl rfl HI2.out.box [.slice A1 ps.length c1, .slice A R.length c] at0 rowSheetP ?_)
          | (show wpList _ _ _ (Oper.mk (some 43) _ _ _ _ _ :: _) _ _
             refine wpList_load_blk 28 (.tmp 2) rfl rfl rfl HG2.out [.slice AG gs.length cg, .int .i64 vary] at0 rowGradingP ?_)
          | (go_at_call 33
             refine HCL.out.mono ?_
             rintro e w5 ⟨A5, c5, rfl, -, hB5⟩
             have H5 := Lib.hid hB5
             clear hB5))
        refine R6.wp_walk (C := fun _ _ W => Below w5.heap.size w5 W) 60 (by kernel_rfl) (by kernel_rfl) rfl (Below.refl _ _).drew ?_
        simp only []
        repeat (first
          | (refine' R6.WalkR.det (fun _ => rfl) (fun D ρ W hK hC => ?_) ?_
             rotate_left
             · have f6 : W.cell? ⟨w2.heap.size, 1, none⟩ = some (.slice A R.length c) := cell_of_row W _ 1 _ _ _ (((H5.out.trans (hC.mono H5.out.size)).block _ (lt_of_heap HI2.out.box)).trans HI2.out.box)
               have HC := Lib.hid hC
               clear hC hK
               go_simp
               with_reducible exact ⟨rfl, HC.out⟩
             simp only [Act.put, List.setIfInBounds_toArray, List.set_cons_succ, List.set_cons_zero])
          | (refine R6.WalkR.un (fun _ => rfl) (fun D ρ W hK hC => hC) ?_
             simp only [Act.put, List.setIfInBounds_toArray, List.set_cons_succ, List.set_cons_zero]))
        refine R6.WalkR.nil (fun D ρ W6 hD hC => ?_)
        have H6 := Lib.hid (H5.out.trans (hC.mono H5.out.size))
        clear hC hD
        go_wp2
        refine bodyPost_ret (v := .tuple #[.bool u, .bool v]) (by simp [results, Tryz.results36, go_sem, HU.out]) rfl ⟨by rw [HRE.out, HRR.out, HU.out, HV.out, HE.out]; rfl, HI2.out.bel.trans (H6.out.mono HI2.out.bel.size)⟩
    | succ gi =>
      have hi : i < ts.length := by omega
      have hl26 : ts.length ≤ 26 := HL.out.2.1
      have hl2 : ids.length ≤ 2 := HL.out.2.2
      have hiz : (i : Int) < ts.length := by omega
      obtain ⟨cT, oT, hA, hcB, hc⟩ := vals_elem tcl_len HZ.out.1.t (by decide) hi
      obtain ⟨A, c, hI⟩ := hI.out
      have hc' : ∀ j v, (tcl ts[i])[j]? = some v → wr.cell? ⟨cT, oT + i * 5 + j, none⟩ = some v := fun j v hv => (hI.bel.cell (p := ⟨cT, oT + i * 5 + j, none⟩) (by have := HB0.out; simp; omega)).trans (hc j v hv)
      subst hA
      have hst := subT_step ts ids i hi
      have hR : (subT (ts.take i) ids).length ≤ 52 := by
        have h1 := subT_len ids (ts.take i)
        have h2 : (ts.take i).length * ids.length ≤ 26 * 2 := Nat.mul_le_mul (by have := HL.out; rw [List.length_take]; omega) HL.out.2.2
        omega
      generalize ts[i] = x at hc' hst
      generalize subT (ts.take i) ids = R0 at hst hI hR
      obtain ⟨wo, rfl⟩ : ∃ wo : World, wo = wr := ⟨_, rfl⟩
      have HCC := Lib.hid hc'
      have HST := Lib.hid hst
      have HI1 := Lib.hid hI
      have HR0 := Lib.hid hR
      clear hc hc' hst hI hR
      go_wp2_with (first
        | (show wpList _ _ _ (Oper.mk (some 22) _ _ _ _ _ :: _) _ _
           refine wpList_load_at 58 (.tmp 21) rfl rfl rfl (tcl x) HCC.out rowTest ?_)
        | (show wpList _ _ _ (Oper.mk none (Op.store _ (Operand.tmp 8) (Operand.tmp 22)) _ _ _ _ :: _) _ _
           refine wpList_store_blk 58 (.tmp 8) (.tmp 22) (cs := tcl x) rfl rfl rfl rfl rfl (alloc_at0 wo _) (Nat.le_of_ble_eq_true rfl) (fun v hv => tcl_one [x] v (by simpa using hv)) rowTest ?_
           intro w5 hP5 hM5
           rw [splice_whole (by rfl)] at hM5
           have hI5 := HI1.out.grows ((grow1 wo _).trans (hP5.below (Nat.le_refl _)))
           have hn5 : (Value.slice A R0.length c).ownBlock ≠ some wo.heap.size := fun e => by
             obtain ⟨cur, h1, _⟩ := own_bt HI1.out.o2 e
             exact absurd (lt_of_heap h1) (Nat.lt_irrefl _)
           have H5 := Lib.hid (And.intro hI5 (And.intro hM5 (And.intro hn5 (lt_of_heap hM5))))
           clear hP5 hM5 hI5 hn5))
      go_loopg [25] ids.length (fun gn s25 wx => ∃ k : Nat, k + gn = ids.length ∧ s25 = .int .i64 k ∧ Hid (∃ A c, InC w w2.heap.size ps (R0 ++ repT x (ids.take k)) A1 c1 A c wx ∧ wx.heap[wo.heap.size]? = some (.cells (tcl x).toArray 58 (0, 0)) ∧ (Value.slice A (R0 ++ repT x (ids.take k)).length c).ownBlock ≠ some wo.heap.size ∧ wo.heap.size < wx.heap.size))
      case atStart => exact ⟨0, by omega, rfl, ⟨A, c, by simpa [repT] using H5.out⟩⟩
      case round =>
        clear H5
        obtain ⟨k, hkg, rfl, hK⟩ := hrel
        cases gk with
        | zero =>
          obtain rfl : k = ids.length := by omega
          have hK2 := hK.out
          rw [List.take_length, ← HST.out] at hK2
          have HK2 := Lib.hid hK2
          clear hK hK2
          go_wp2
          go_roundg gi
          case measure => omega
          case rel =>
            obtain ⟨A, c, h1, h2, h3, h4⟩ := HK2.out
            exact ⟨i + 1, by omega, by go_num, ⟨A, c, h1⟩⟩
        | succ gj =>
          have hk : k < ids.length := by omega
          have hkz : (k : Int) < ids.length := by omega
          obtain ⟨c9, o9, hA9, hcB9, hc9⟩ := HZ.out.2.2 (by omega)
          subst hA9
          obtain ⟨A, c, hI, hM, hn, hlt⟩ := hK.out
          have hx9 : wr.cell? ⟨c9, o9 + k, none⟩ = some (.int .i64 (ids[k]?.getD 0)) := (hI.bel.cell (p := ⟨c9, o9 + k, none⟩) (by have := HB0.out; simp; omega)).trans (hc9 k hk)
          have hst := repT_step x ids k hk
          have e9 : ids[k]?.getD 0 = ids[k] := by simp [hk]
          rw [e9] at hx9
          have hR : (R0 ++ repT x (ids.take k)).length ≤ 54 := by
            have h1 := repT_len x (ids.take k)
            have h2 := HR0.out
            have h3 := HL.out.2.2
            rw [List.length_take] at h1
            rw [List.length_append]
            omega
          generalize ids[k] = d at hx9 hst
          have hst : R0 ++ repT x (ids.take (k + 1)) = (R0 ++ repT x (ids.take k)) ++ (if x.id = d then [x] else []) := by rw [hst, List.append_assoc]
          generalize R0 ++ repT x (ids.take k) = R at hst hI hM hn hR
          have HST2 := Lib.hid hst
          have HR := Lib.hid hR
          have HK := Lib.hid (And.intro hI (And.intro hM (And.intro hn hlt)))
          have f0 : wr.cell? ⟨wo.heap.size, 0, none⟩ = some (.int .i64 x.id) := cell_of_row wr _ 0 _ _ _ hM
          have f6 : wr.cell? ⟨w2.heap.size, 1, none⟩ = some (.slice A R.length c) := cell_of_row wr _ 1 _ _ _ hI.box
          clear hst hI hM hn hlt hc9 hK hR e9
          by_cases hxd : x.id = d
          · have he : (x.id == d) = true := beq_iff_eq.2 hxd
            have HXD := Lib.hid hxd
            clear hxd
            go_wp2_with (first
              | (show wpList _ _ _ (Oper.mk (some 35) _ _ _ _ _ :: _) _ _
                 refine wpList_load_blk 58 (.tmp 8) rfl rfl rfl HK.out.2.1 [.int .i64 x.id, .int .i64 x.pole, .int .i64 x.sec, .int .i64 x.force, .bool x.held] at0 rowTest ?_)
              | (show wpList _ _ _ (Oper.mk (some 37) _ _ _ _ _ :: _) _ _
                 obtain ⟨w6, hw6⟩ : ∃ w6, wr.alloc (.cells #[.int .i64 x.id, .int .i64 x.pole, .int .i64 x.sec, .int .i64 x.force, .bool x.held] 58) = w6 := ⟨_, rfl⟩
                 have g6 : Grows wr w6 := by rw [← hw6]; exact grow1 _ _
                 have s6 : w6.heap.size = wr.heap.size + 1 := by rw [← hw6]; simp
                 have m6 : w6.heap[wr.heap.size]? = some (.cells (tcl x).toArray 58 (0, 0)) := by rw [← hw6]; exact alloc_at0 _ _
                 have hI6 := HK.out.1.grows g6
                 have hM6 := (g6.block _ HK.out.2.2.2).trans HK.out.2.1
                 have hlb := HK.out.2.2.2
                 rw [hw6]
                 refine wpl_app rfl (.tmp 34) (.tmp 36) 23 rfl w.heap.size 58 i2 _ 5 40 Tryz.underlying23 HI.out.1 HI.out.2.1 HI.out.2.2.1 HI.out.2.2.2 rfl (by decide) _ _ _ rfl hI6.o2 _ _ _ _ _ rfl (vals_mk5 m6) rfl (fun v hv => tcl_one [x] v (by simpa using hv)) (by have := HR.out; simp only [maxLen]; omega) (by have := HR.out; omega) hI6.bel.size ?_
                 intro v' w7 ho hgr hob
                 have ho' : w7.ownsRow w.heap.size 58 5 v' (R.length + 1) ((R ++ [x]).flatMap tcl) := by rw [List.flatMap_append]; simpa using ho
                 obtain ⟨A4, c4, rfl⟩ := own_slice ho'
                 have hM7 := (hgr.block _ (lt_of_heap hM6) (fun e => HK.out.2.2.1 e.symm)).trans hM6
                 have hX7 := (hgr.block _ (lt_of_heap hI6.box) (own_other hI6.o2 hI6.box (by decide))).trans hI6.box
                 have hne : (Value.slice A4 (R.length + 1) c4).ownBlock ≠ some wo.heap.size := by
                   rcases hob with e | e
                   · rw [e]; exact HK.out.2.2.1
                   · rw [e]; intro e2; simp only [Option.some.injEq] at e2; omega
                 have hb := hI6.bel.grown hgr hI6.bel.size (fun q e => by obtain ⟨_, _, hq⟩ := own_bt hI6.o2 e; exact hq)
                 have H7 := Lib.hid (And.intro hb (And.intro (own_besides hI6.o1 hI6.o2 (by decide) hgr) (And.intro ho' (And.intro hX7 (And.intro hM7 (And.intro hne hI6.le))))))
                 clear g6 s6 m6 hI6 hM6 hlb ho ho' hgr hob hM7 hX7 hne hb hw6)
              | (show wpList _ _ _ (Oper.mk none (Op.store _ (Operand.tmp 38) (Operand.tmp 37)) _ _ _ _ :: _) _ _
                 refine wpList_store_v5 23 (.tmp 38) (.tmp 37) (v := .slice A4 (R.length + 1) c4) rfl rfl rfl rfl rfl rfl rfl (L := [.slice A1 ps.length c1, .slice A R.length c]) H7.out.2.2.2.1 (Nat.le_of_ble_eq_true rfl) infoTL5 ?_
                 intro w8 hP hM
                 have hX := H7.out.2.2.2.1
                 have hlen : (R ++ [x]).length = R.length + 1 := by simp
                 have hI8 : InC w w2.heap.size ps (R ++ [x]) A1 c1 A4 c4 w8 := ⟨H7.out.1.trans (hP.below H7.out.2.2.2.2.2.2), own_put H7.out.2.1 hP hX (by decide), by rw [hlen]; exact own_put H7.out.2.2.1 hP hX (by decide), by rw [hlen]; exact hM, H7.out.2.2.2.2.2.2⟩
                 have hM8 := (hP.other wo.heap.size (fun e => by have h1 := H7.out.2.2.2.2.1; rw [e, hX] at h1; simp at h1)).trans H7.out.2.2.2.2.1
                 have H8 := Lib.hid (And.intro hI8 (And.intro hM8 (And.intro H7.out.2.2.2.2.2.1 (lt_of_heap hM8))))
                 clear hP hM hX hI8 hM8 hlen))
            go_roundg gj
            case measure => omega
            case rel => exact ⟨k + 1, by omega, by go_num, ⟨A4, c4, by rw [HST2.out, if_pos HXD.out]; exact ⟨H8.out.1, H8.out.2.1, by rw [List.length_append]; exact H8.out.2.2.1, H8.out.2.2.2⟩⟩⟩
          · have he : (x.id == d) = false := beq_eq_false_iff_ne.2 hxd
            go_wp2
            go_roundg gj
            case measure => omega
            case rel => exact ⟨k + 1, by omega, by go_num, ⟨A, c, by rw [HST2.out, if_neg hxd, List.append_nil]; exact HK.out⟩⟩
end Go.Proofs.YtddpebnmjfmgdaaGreat
