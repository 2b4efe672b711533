/-
  GuE
-/
import Derived.Test.YtddpebnmjfmgdaaGreatQT1
import Derived.BigGuardPart
import Derived.Lib.MinMax
import Derived.Test.YtddpebnmjfmgdaaGreatQT5
set_option linter.all false
namespace Go.Proofs.YtddpebnmjfmgdaaGreat
open Go.RowKit Go.BigFrame
open R6 (done done_ne done_me upd_ne upd_me)

attribute [local go_sem] gives

theorem TruC.notBox {w0 W : World} {mb n m c g : Nat} {F : Int → Int} {A : Option Addr} {R : List Int} {cs : Array Value} {t : TypeId} {fr : Nat × Nat} (h : TruC w0 mb n F A m c R W) (hb : W.heap[g]? = some (.cells cs t fr)) : ¬ some g = some mb := fun e => by
  obtain ⟨es, cl, hm⟩ := h.map.obj
  cases e
  rw [hb] at hm
  cases hm
theorem TruC.more {w0 W W' : World} {mb n m c m' c' : Nat} {F : Int → Int} {A A' : Option Addr} {R S : List Int} (h : TruC w0 mb n F A m c R W) (ho : W'.ownsRow w0.heap.size 54 3 (.slice A' m' c') m' (ints R ++ ints S)) (hg : W.grownBy W' (Value.slice A m c).ownBlock) : TruC w0 mb n F A' m' c' (R ++ S) W' :=
  ⟨h.bel.grown hg h.bel.size (fun q e => by obtain ⟨_, _, hq⟩ := own_bt h.row e; exact hq), h.mbl, h.map.block (hg.block _ h.map.lt (fun e => h.notMap e)), by rw [show ints (R ++ S) = ints R ++ ints S by simp [ints]]; exact ho⟩
theorem ints_one (zs : List Int) : ∀ v ∈ ints zs, v.oneCell' = true := by
  intro v hv
  simp only [ints, List.mem_map] at hv
  obtain ⟨z, -, rfl⟩ := hv
  rfl

theorem infoBool6 : (Tryz.prog.info? 4).map (·.size) = some 1 := by kernel_rfl
theorem ints_len (zs : List Int) : (ints zs).length = zs.length := by simp [ints]
theorem ints_getElem? (zs : List Int) (k : Nat) : (ints zs)[k]? = zs[k]?.map (.int .i64 ·) := by simp [ints]
/-- What the law reckons for a section of a pole. -/
structure StF (gs : List Gd) (vary : Int) (b : List Int) (i : Nat) (y : Pol) : Prop where
  zero : gOf gs y = 0 → ∀ k, stI gs vary b i y k = 0
  some : ∀ M, gOf gs y = M + 1 → ∃ hM : M < gs.length, ∀ k, k < 3 → (1 ≤ (st0 gs[M] k).1 ∧ (st0 gs[M] k).1 ≤ (st0 gs[M] k).2 ∧ (st0 gs[M] k).2 ≤ 200000) ∧
    stI gs vary b i y k = min ((st0 gs[M] k).1 + (chB b (3 * (M + 1) + k)).tmod ((st0 gs[M] k).2 - (st0 gs[M] k).1 + 1) + (chB b (9 + 3 * i + k)).tmod (vary + 1)) (st0 gs[M] k).2
  vr : 0 ≤ vary ∧ vary ≤ 200000
theorem chB_bnd {b : List Int} (hb : ∀ z ∈ b, 0 ≤ z ∧ z ≤ 4294967295) (i : Nat) : 0 ≤ chB b i ∧ chB b i ≤ 4294967295 := by
  unfold chB
  by_cases hi : i < b.length
  · simp only [List.getElem?_eq_getElem hi, Option.getD_some]
    exact hb _ (List.getElem_mem hi)
  · simp [hi]
theorem stFacts {gs : List Gd} {vary : Int} {ps : List Pol} {ts : List Ts} (hc : gChk gs vary ps ts = 0) {b : List Int} (hb : ∀ z ∈ b, 0 ≤ z ∧ z ≤ 4294967295) {j : Nat} (hj : j < ps.length) : StF gs vary b j ps[j] := by
  have hg := grOk_of hc
  have hst := (gChk_ok hc).1
  simp only [okGrading, Bool.and_eq_true, inR_iff] at hst
  have hord := okGds_st gs 0 1 hst.2.2
  refine ⟨fun h k => by unfold stI; exact if_pos h, fun M hM => ?_, hg.v⟩
  have hl : M < gs.length := by have := gOf_le gs ps[j]; omega
  have hA : gAt gs ps[j] = gs[M] := by unfold gAt; rw [hM, Nat.add_sub_cancel, List.getElem?_eq_getElem hl]; rfl
  refine ⟨hl, fun k hk => ⟨⟨(hg.ok _ (List.getElem_mem hl) k hk).1.1, hord _ (List.getElem_mem hl) k hk, (hg.ok _ (List.getElem_mem hl) k hk).2.2⟩, ?_⟩⟩
  have h0 : gOf gs ps[j] ≠ 0 := by omega
  unfold stI baseI
  rw [if_neg h0, hA, hM, Int.tmod_eq_emod_of_nonneg (chB_bnd hb _).1, Int.tmod_eq_emod_of_nonneg (chB_bnd hb _).1]

set_option maxRecDepth 100000 in
set_option maxHeartbeats 32000000 in
theorem gradeTruth_law (ps : List Pol) (ts : List Ts) (gs : List Gd) (vary : Int) (b : List Int) (AP : Option Addr) (cp : Nat) (AT : Option Addr) (ct : Nat) (AG : Option Addr) (cg : Nat) (AB : Option Addr) (cb : Nat) (B : Nat) (w : World) (hB : B ≤ w.heap.size)
    (hz1 : Vals w B AP (ps.flatMap pcl)) (hz2 : Vals w B AT (ts.flatMap tcl)) (hz3 : Vals w B AG (gs.flatMap gcl)) (hz4 : Vals w B AB (u4s b)) (hbb : ∀ z ∈ b, 0 ≤ z ∧ z ≤ 4294967295) (hbl : b.length ≤ 9223372036854775807) :
    Calls Tryz.prog 5 #[.agg #[.slice AP ps.length cp, .slice AT ts.length ct], .agg #[.slice AG gs.length cg, .int .i64 vary], .slice AB b.length cb] w fun e w' => e = .returned (.bool true) ∧ Below w.heap.size w w' := by
  have hrd := fun (W : World) (hW : Below w.heap.size w W) => grReady_any ps ts gs vary AP cp AT ct AG cg B W (Nat.le_trans hB hW.size) (hz1.below (hW.mono hB)) (hz2.below (hW.mono hB)) (hz3.below (hW.mono hB))
  obtain ⟨w1, hw1⟩ : ∃ w1, (w.alloc (.cells #[.slice AP ps.length cp, .slice AT ts.length ct] 25)).alloc (.cells #[.slice AG gs.length cg, .int .i64 vary] 28) = w1 := ⟨_, rfl⟩
  have hb1 : Below w.heap.size w w1 := by rw [← hw1]; exact grow2 _ _ _
  have m1 : w1.heap[w.heap.size]? = some (.cells [.slice AP ps.length cp, .slice AT ts.length ct].toArray 25 (0, 0)) := by rw [← hw1]; exact alloc2_at0 _ _ _
  have m2 : w1.heap[w.heap.size + 1]? = some (.cells [.slice AG gs.length cg, .int .i64 vary].toArray 28 (0, 0)) := by rw [← hw1]; exact alloc2_at1 _ _ _
  have H1 := Lib.hid (And.intro hb1 (And.intro m1 m2))
  clear hb1 m1 m2
  cases hrv : rdyS gs vary ps ts
  · rw [hrv] at hrd
    have HRD := Lib.hid hrd
    have HBB := Lib.hid hbb
    clear hrd hrv hz1 hz2 hz3 hz4 hbb
    go_enter Tryz.func5, Tryz.ntmps5
    go_wp2_with (first
      | (go_at_call 29
         refine (HRD.out w2 H2.out.1).mono ?_
         rintro e w3 ⟨rfl, hB3⟩
         have H3 := Lib.hid (And.intro (H2.out.1.trans (hB3.mono H2.out.1.size)) (And.intro ((hB3.block _ (lt_of_heap H2.out.2.1)).trans H2.out.2.1) ((hB3.block _ (lt_of_heap H2.out.2.2)).trans H2.out.2.2)))
         clear hB3)
      | (show wpList _ _ _ (Oper.mk (some 31) _ _ _ _ _ :: _) _ _
         refine wpList_load_blkG 25 (.tmp 3) rfl rfl rfl H2.out.2.1 [.slice AP ps.length cp, .slice AT ts.length ct] at0 rowSheetP ?_)
      | (show wpList _ _ _ (Oper.mk (some 32) _ _ _ _ _ :: _) _ _
         refine wpList_load_blkG 28 (.tmp 4) rfl rfl rfl H2.out.2.2 [.slice AG gs.length cg, .int .i64 vary] at0 rowGradingP ?_)
      | (go_at_call 20
         refine (grAlive_any w1).mono ?_
         rintro e w2 ⟨rfl, hB2⟩
         have H2 := Lib.hid (And.intro (H1.out.1.trans (hB2.mono H1.out.1.size)) (And.intro ((hB2.block _ (lt_of_heap H1.out.2.1)).trans H1.out.2.1) ((hB2.block _ (lt_of_heap H1.out.2.2)).trans H1.out.2.2)))
         clear hB2))
    go_ret
    exact ⟨rfl, H3.out.1⟩
  rw [hrv] at hrd
  have HRD := Lib.hid hrd
  obtain ⟨hl, hck⟩ := rdyS_parts hrv
  obtain ⟨i3, hi3, hz3', hsz3, hby3⟩ := info_parts infoRow6
  have HI3 := Lib.hid (And.intro hi3 (And.intro hz3' (And.intro hsz3 hby3)))
  have hz : ShAt w B ps ts AP AT := ⟨hz1, hz2, by omega, by omega⟩
  have hg : GdAt w B gs AG := ⟨hz3, by omega⟩
  have hgr := fun (j : Nat) (hj : j < ps.length) (W : World) (hW : Below w.heap.size w W) => grGrade_any ps ts gs vary ps[j].id AP cp AT ct AG cg B W (Nat.le_trans hB hW.size) (hz.below (hW.mono hB)) (hg.below (hW.mono hB))
  have hgr := fun (j : Nat) (hj : j < ps.length) (W : World) (hW : Below w.heap.size w W) => by
    have h := hgr j hj W hW
    rw [sGrade_at hck (List.getElem_mem hj)] at h
    exact h
  have hpe := fun (j : Nat) (hj : j < ps.length) => vals_elem pcl_len hz1 (by decide) hj
  have hge := fun (j : Nat) (hj : j < gs.length) => vals_elem gcl_len hz3 (by decide) hj
  have hid := fun (j : Nat) (hj : j < ps.length) => (show idOk ps[j].id by have := ((grOk_of hck).po _ (List.getElem_mem hj)).1; unfold idOk; omega)
  have hch := fun (x : Int) (h0 : 0 ≤ x) (W : World) (hW : Below w.heap.size w W) => choose_any b AB cb x B W (hz4.below (hW.mono hB)) hbb hbl h0
  have hst := fun (j : Nat) (hj : j < ps.length) => stFacts hck hbb hj
  have HBB := Lib.hid (fun (j : Nat) => chB_bnd hbb j)
  have HGR := Lib.hid hgr
  have HPE := Lib.hid hpe
  have HGE := Lib.hid hge
  have HID := Lib.hid hid
  have HCH := Lib.hid hch
  have HST := Lib.hid hst
  have HZG := Lib.hid (And.intro hz (And.intro hg (And.intro hB (And.intro hl hck))))
  clear hgr hpe hge hid hch hst hrd hrv hz1 hz2 hz3 hz4 hbb hl hck hz hg hi3 hz3' hsz3 hby3 hB
  go_enter Tryz.func5, Tryz.ntmps5
  go_wp2_with (first
    | (go_at_call 29
       refine (HRD.out w2 H2.out.1).mono ?_
       rintro e w3 ⟨rfl, hB3⟩
       have H3 := Lib.hid (And.intro (H2.out.1.trans (hB3.mono H2.out.1.size)) (And.intro ((hB3.block _ (lt_of_heap H2.out.2.1)).trans H2.out.2.1) ((hB3.block _ (lt_of_heap H2.out.2.2)).trans H2.out.2.2)))
       obtain ⟨w4, hw4⟩ : ∃ w4, w3.alloc (.map #[] 0) = w4 := ⟨_, rfl⟩
       have hmk : (Instr.makeMap 79 none).run Tryz.prog w3 = .ok (.map (some w3.heap.size)) w4 := by
         have := @run_makeMap Tryz.prog
         simp_all
       have hb4 : Below w3.heap.size w3 w4 := by rw [← hw4]; exact grow1 _ _
       have f3 : w4.cell? ⟨w.heap.size, 0, none⟩ = some (.slice AP ps.length cp) := cell_of_row _ _ 0 _ _ _ ((hb4.block _ (lt_of_heap H3.out.2.1)).trans H3.out.2.1)
       have H4 := Lib.hid (And.intro hb4 (show w4.heap[w3.heap.size]? = some (.map #[] 0) by rw [← hw4]; exact alloc_at0 _ _))
       clear hw4 hb4
       clear hB3)
    | (show wpList _ _ _ (Oper.mk (some 31) _ _ _ _ _ :: _) _ _
       refine wpList_load_blkG 25 (.tmp 3) rfl rfl rfl H2.out.2.1 [.slice AP ps.length cp, .slice AT ts.length ct] at0 rowSheetP ?_)
    | (show wpList _ _ _ (Oper.mk (some 32) _ _ _ _ _ :: _) _ _
       refine wpList_load_blkG 28 (.tmp 4) rfl rfl rfl H2.out.2.2 [.slice AG gs.length cg, .int .i64 vary] at0 rowGradingP ?_)
    | (go_at_call 20
       refine (grAlive_any w1).mono ?_
       rintro e w2 ⟨rfl, hB2⟩
       have H2 := Lib.hid (And.intro (H1.out.1.trans (hB2.mono H1.out.1.size)) (And.intro ((hB2.block _ (lt_of_heap H1.out.2.1)).trans H1.out.2.1) ((hB2.block _ (lt_of_heap H1.out.2.2)).trans H1.out.2.2)))
       clear hB2))
  have hbx := fun (W : World) (hW : Below w3.heap.size w3 W) => And.intro ((hW.block _ (lt_of_heap H3.out.2.1)).trans H3.out.2.1) ((hW.block _ (lt_of_heap H3.out.2.2)).trans H3.out.2.2)
  have HBX := Lib.hid hbx
  clear hbx
  clear f3 hmk
  go_loopg [8, 44] ps.length (fun gn s8 s44 wx => ∃ (i : Nat) (A : Option Addr) (c : Nat), i + gn = ps.length ∧ s8 = .slice A i c ∧ s44 = .int .i64 i ∧ Hid (TruC w3 w3.heap.size i (mapL gs (ps.take i)) A i c (rowsL gs vary b ps i) wx))
  case atStart => exact ⟨0, none, 0, by omega, rfl, rfl, ⟨H4.out.1, Nat.le_refl _, OwnZ.made H4.out.2, ⟨rfl, .inl ⟨rfl, rfl⟩⟩⟩⟩
  case round =>
    obtain ⟨i, A, c, hig, rfl, rfl, hI⟩ := hrel
    cases gk with
    | zero =>
      obtain rfl : i = ps.length := by omega
      rw [List.take_length] at hI
      obtain ⟨wA, rfl⟩ : ∃ wA : World, wA = wr := ⟨_, rfl⟩
      have HA := Lib.hid hI.out
      have hll := HZG.out.2.2.2.1
      have hbw := H3.out.1.trans (HA.out.bel.mono H3.out.1.size)
      have htw := rfTwin_any ps ts AP cp AT ct B wA (Nat.le_trans HZG.out.2.2.1 hbw.size) (HZG.out.1.below (hbw.mono HZG.out.2.2.1)) (by omega) (by omega)
      unfold TwinPost at htw
      have HTW := Lib.hid htw
      have HBW := Lib.hid hbw
      have hf1 := fun (j : Nat) (hj : j < ts.length) => tstF HZG.out.2.2.2.2 b (List.getElem_mem hj)
      have HTF := Lib.hid hf1
      have hrw := Vals.own HA.out.row
      have HRW := Lib.hid hrw
      clear hI hbw htw hll hf1 hrw
      go_wp2_with (first
        | (show wpList _ _ _ (Oper.mk (some 128) _ _ _ _ _ :: _) _ _
           refine wpList_load_blk 25 (.tmp 3) rfl rfl rfl (HBX.out wA HA.out.bel).1 [.slice AP ps.length cp, .slice AT ts.length ct] at0 rowSheetP ?_)
        | (show wpList _ _ _ (Oper.mk none (Op.store _ (Operand.tmp 18) (Operand.tmp 129)) _ _ _ _ :: _) _ _
           have hm : (w12.alloc (.cells #[.slice none 0 0, .slice none 0 0] 25)).heap[w12.heap.size]? = some (.cells [Value.slice none 0 0, .slice none 0 0].toArray 25 (0, 0)) := alloc_at0 _ _
           refine wpList_store_blk 25 (.tmp 18) (.tmp 129) (cs := [.slice A1 ps.length c1, .slice A2 ts.length c2]) rfl rfl rfl rfl rfl hm (Nat.le_of_ble_eq_true rfl) (by intro v hv; simp only [List.mem_cons, List.not_mem_nil, or_false] at hv; rcases hv with rfl | rfl <;> rfl) rowSheetP ?_
           intro w13 hP hM
           rw [splice_whole (by rfl)] at hM
           have hb := (grow1 w12 _).trans (hP.below (Nat.le_refl _))
           have hO := H12.out.2.grows (grow1 w12 (.cells #[.slice none 0 0, .slice none 0 0] 25))
           have hI : InT wA w12.heap.size ps ts ts.length A1 c1 A2 c2 w13 := ⟨H12.out.1.trans (hb.mono H12.out.1.size), own_put hO.1 hP hm (by decide), own_put hO.2 hP hm (by decide), hM, H12.out.1.size⟩
           have f25 : w13.cell? ⟨w12.heap.size, 1, none⟩ = some (.slice A2 ts.length c2) := cell_of_row w13 _ 1 _ _ _ hI.box
           have H13 := Lib.hid hI
           clear hP hM hm hb hO hI)
        | (go_at_call 13
           refine HTW.out.mono ?_
           rintro e w12 ⟨v1, v2, rfl, ho, hB2⟩
           obtain ⟨A1, c1, rfl⟩ := own_slice ho.1
           obtain ⟨A2, c2, rfl⟩ := own_slice ho.2
           have H12 := Lib.hid (And.intro hB2 ho)
           clear hB2 ho))
      clear f25
      obtain ⟨b18, hb18⟩ : ∃ b18, w12.heap.size = b18 := ⟨_, rfl⟩
      rw [hb18] at H13
      simp only [hb18]
      clear hb18 HTW
      go_loopg [133] ts.length (fun gn s133 wx => ∃ j : Nat, j + gn = ts.length ∧ s133 = .int .i64 j ∧ Hid (InT wA b18 ps (tsH (hT gs vary b ps) ts j) ts.length A1 c1 A2 c2 wx))
      case atStart => exact ⟨0, by omega, rfl, by rw [tsH_zero]; exact H13.out⟩
      case round =>
        obtain ⟨j, hjg, rfl, hJ⟩ := hrel
        cases gk with
        | zero =>
          obtain rfl : j = ts.length := by omega
          rw [tsH_all] at hJ
          obtain ⟨wB, rfl⟩ : ∃ wB : World, wB = wr := ⟨_, rfl⟩
          have hJ := hJ.out
          have hTl : (ts.map (hT gs vary b ps)).length = ts.length := List.length_map _
          have hcT := gChk_held HZG.out.2.2.2.2 b
          have hfT := fitS_of HZG.out.2.2.2.2 b
          have hbB := HBW.out.trans (hJ.bel.mono HBW.out.size)
          have hzT : ShAt wB wB.heap.size ps (ts.map (hT gs vary b ps)) A1 A2 := ⟨Vals.own hJ.o1, Vals.own hJ.o2, by have := HZG.out.2.2.2.1.1; omega, by have := HZG.out.2.2.2.1.2.1; omega⟩
          have hgT : GdAt wB wB.heap.size gs AG := (HZG.out.2.1.below (hbB.mono HZG.out.2.2.1)).mono (Nat.le_trans HZG.out.2.2.1 hbB.size)
          have hcl := grClashP_any ps (ts.map (hT gs vary b ps)) gs vary A1 c1 A2 c2 AG cg wB.heap.size wB (Nat.le_refl _) hzT hgT
          unfold ClashPost at hcl
          rw [sClash_nil hcT (truth_fit (grOk_of hcT) hfT), hTl] at hcl
          have hstr := fun (x : Int) (k : Nat) (W : World) (hW : Below wB.heap.size wB W) => grStrength_any ps (ts.map (hT gs vary b ps)) gs vary x (k : Int) A1 c1 A2 c2 AG cg wB.heap.size W hW.size (hzT.below hW) (hgT.below hW)
          rw [hTl] at hstr
          have hsc := fun (j : Nat) (hj : j < ps.length) (k : Nat) (hk : k < 3) => str_fit hcT hfT hj hk
          have hpe2 := fun (j : Nat) (hj : j < ps.length) => vals_elem pcl_len hzT.p (by decide) hj
          have hmp := fun (j : Nat) (hj : j < ps.length) => mapL_at (gs := gs) (fun _ => 0) (grOk_of HZG.out.2.2.2.2).up ps[j] (List.getElem_mem hj)
          have hsb := fun (j : Nat) (hj : j < ps.length) (k : Nat) (hk : k < 3) => stI_bnd HZG.out.2.2.2.2 b hj hk
          have hok := fun (j : Nat) (hj : j < ps.length) => okPol_secs ((grOk_of HZG.out.2.2.2.2).po ps[j] (List.getElem_mem hj)).2
          have hbx2 := fun (W : World) (hW : Below wB.heap.size wB W) => And.intro ((hW.block _ (lt_of_heap hJ.box)).trans hJ.box) (HBX.out W (HA.out.bel.trans ((hJ.bel.trans (hW.mono hJ.bel.size)).mono HA.out.bel.size))).2
          have HCL := Lib.hid hcl
          have HSTR := Lib.hid hstr
          have HSC := Lib.hid hsc
          have HPE2 := Lib.hid hpe2
          have HMP := Lib.hid hmp
          have HSB := Lib.hid hsb
          have HOK := Lib.hid hok
          have HBX2 := Lib.hid hbx2
          have HJB := Lib.hid (And.intro hJ.bel hbB)
          clear hTl hcT hfT hbB hzT hgT hcl hstr hsc hpe2 hmp hsb hok hbx2 hJ
          go_wp2_with (first
            | (go_at_call 33
               refine HCL.out.mono ?_
               rintro e w30 ⟨A5, c5, rfl, -, hB30⟩
               have H30 := Lib.hid hB30
               have f35 : w30.cell? ⟨b18, 0, none⟩ = some (.slice A1 ps.length c1) := cell_of_row w30 _ 0 _ _ _ (HBX2.out w30 hB30).1
               clear hB30)
            | (show wpList _ _ _ (Oper.mk (some 177) _ _ _ _ _ :: _) _ _
               refine wpList_load_blk 25 (.tmp 18) rfl rfl rfl (HBX2.out wB (Below.refl _ _)).1 [.slice A1 ps.length c1, .slice A2 ts.length c2] at0 rowSheetP ?_)
            | (show wpList _ _ _ (Oper.mk (some 178) _ _ _ _ _ :: _) _ _
               refine wpList_load_blk 28 (.tmp 4) rfl rfl rfl (HBX2.out wB (Below.refl _ _)).2 [.slice AG gs.length cg, .int .i64 vary] at0 rowGradingP ?_))
          clear f35
          go_loopg [192] ps.length (fun gn s192 wx => ∃ j : Nat, j + gn = ps.length ∧ s192 = .int .i64 j ∧ Hid (Below wB.heap.size wB wx))
          case atStart => exact ⟨0, by omega, rfl, H30.out⟩
          case round =>
            obtain ⟨j, hjg2, rfl, hK⟩ := hrel
            cases gk with
            | zero =>
              go_wp2
              go_ret
              exact ⟨rfl, HJB.out.2.trans (hK.out.mono HJB.out.2.size)⟩
            | succ gj =>
              have hj : j < ps.length := by omega
              have hjz : (j : Int) < ps.length := by omega
              have hl16 : ps.length ≤ 16 := HZG.out.2.2.2.1.1
              obtain ⟨wo, rfl⟩ : ∃ wo : World, wo = wr := ⟨_, rfl⟩
              have HK := Lib.hid hK.out
              obtain ⟨g1, o1, hA1, hg1, hcP⟩ := HPE2.out j hj
              have hcc := fun (q : Nat) (v : Value) (hv : (pcl ps[j])[q]? = some v) => (HK.out.cell (p := ⟨g1, o1 + j * 12 + q, none⟩) hg1).trans (hcP q v hv)
              have hsc := HSC.out j hj
              have hmp := HMP.out j hj
              have hsb := HSB.out j hj
              have hok := HOK.out j hj
              have hid := HID.out j hj
              obtain ⟨gA, oA, hAA, hgA, hcA⟩ := HRW.out (by rw [ints_len, rowsL_len]; omega)
              have hrow := fun (k : Nat) (hk : k < 3) (W : World) (hW : Below wA.heap.size wA W) => (hW.cell (p := ⟨gA, oA + (j * 3 + k), none⟩) hgA).trans (hcA (j * 3 + k) (.int .i64 (stI gs vary b j ps[j] k)) (by rw [ints_getElem?, rowsL_at gs vary b ps _ _ _ hj hk, pAt_at hj]; rfl))
              have hgt : ps[j]?.getD ⟨0, 0, 0, 0, 0, 0, 0, 0, 0, 0, 0, 0⟩ = ps[j] := by simp [hj]
              simp only [hgt] at hsc
              subst hA1
              subst hAA
              generalize ps[j] = y at hcc hsc hmp hsb hok hid hrow
              obtain ⟨pid, hpid⟩ : ∃ pid, y.id = pid := ⟨_, rfl⟩
              rw [hpid] at hsc hmp hid
              have HPID := Lib.hid hpid
              have HCC := Lib.hid hcc
              have HSC2 := Lib.hid hsc
              have HMP2 := Lib.hid hmp
              have HSB2 := Lib.hid hsb
              have HOK2 := Lib.hid hok
              have HIY := Lib.hid hid
              have HROW := Lib.hid hrow
              clear hK hcP hg1 hcc hsc hmp hsb hok hid hcA hgA hrow hgt hpid
              go_wp2_with (first
                | (show wpList _ _ _ (Oper.mk none (Op.store _ (Operand.tmp 25) (Operand.tmp 196)) _ _ _ _ :: _) _ _
                   have hm : (wo.alloc (.cells #[.int .i64 0, .int .i64 0, .int .i64 0, .int .i64 0, .int .i64 0, .int .i64 0, .int .i64 0, .int .i64 0, .int .i64 0, .int .i64 0, .int .i64 0, .int .i64 0] 56)).heap[wo.heap.size]? = some (.cells (pcl pol0).toArray 56 (0, 0)) := alloc_at0 _ _
                   refine wpList_store_blk 56 (.tmp 25) (.tmp 196) (cs := pcl y) rfl rfl rfl rfl rfl hm (Nat.le_of_ble_eq_true rfl) (fun v hv => pcl_one [y] v (by simpa using hv)) rowPole ?_
                   intro w31 hP hM
                   rw [splice_whole (by rfl)] at hM
                   have hb : Below wo.heap.size wo w31 := (grow1 wo _).trans (hP.below (Nat.le_refl _))
                   have f25 : w31.cell? ⟨wo.heap.size, 0, none⟩ = some (.int .i64 pid) := by rw [← HPID.out]; exact cell_of_row w31 _ 0 _ _ _ hM
                   have H31 := Lib.hid (And.intro (HK.out.trans (hb.mono HK.out.size)) hM)
                   clear hP hM hm hb)
                | (show wpList _ _ _ (Oper.mk (some 196) _ _ _ _ _ :: _) _ _
                   refine wpList_load_at 56 (.tmp 195) rfl rfl rfl (pcl y) HCC.out rowPole ?_))
              clear f25
              go_loopg [197] 3 (fun gn s197 wx => ∃ k : Nat, k + gn = 3 ∧ s197 = .int .i64 k ∧ Hid (Below w31.heap.size w31 wx))
              case atStart => exact ⟨0, by omega, rfl, Below.refl _ _⟩
              case round =>
                obtain ⟨k, hkg, rfl, hK⟩ := hrel
                cases gk with
                | zero =>
                  have H32 := Lib.hid (H31.out.1.trans (hK.out.mono H31.out.1.size))
                  clear hK
                  go_wp2
                  go_roundg gj
                  case measure => omega
                  case rel => exact ⟨j + 1, by omega, by go_num, H32.out⟩
                | succ gl =>
                  have hk3 : k < 3 := by omega
                  have hkz : (k : Int) < 3 := by omega
                  obtain ⟨w40, rfl⟩ : ∃ w40 : World, w40 = wr := ⟨_, rfl⟩
                  have HK4 := Lib.hid hK.out
                  have hm25 := (hK.out.block _ (lt_of_heap H31.out.2)).trans H31.out.2
                  have HM25 := Lib.hid hm25
                  have f40 : w40.cell? ⟨wo.heap.size, 0, none⟩ = some (.int .i64 pid) := by rw [← HPID.out]; exact cell_of_row w40 _ 0 _ _ _ hm25
                  have hb40 := H31.out.1.trans (hK.out.mono H31.out.1.size)
                  have HB40 := Lib.hid hb40
                  have hst := HSTR.out pid k w40 hb40
                  clear hm25 hb40 hK
                  have hcase := HSC2.out k hk3
                  have hmp := HMP2.out
                  rcases hcase with ⟨h0, hs⟩ | ⟨h0, bb, hs, hs1, hs2⟩
                  · rw [hs] at hst
                    have HST2 := Lib.hid hst
                    have hF0 : mapL gs ps pid = 0 := by unfold mapL; rw [hmp, h0]; rfl
                    have HF0 := Lib.hid hF0
                    clear hst hs h0 hmp hF0
                    go_wp2_with (first
                      | (show wpList _ _ _ (Oper.mk none (Op.store _ (Operand.tmp 27) (Operand.tmp 207)) _ _ _ _ :: _) _ _
                         have hm : (w42.alloc (.cells #[.int .i64 0, .int .i64 0] 50)).heap[w42.heap.size]? = some (.cells [Value.int .i64 0, .int .i64 0].toArray 50 (0, 0)) := alloc_at0 _ _
                         refine wpList_store_blk 50 (.tmp 27) (.tmp 207) rfl rfl rfl rfl (cs := sp2 (0, 0)) rfl hm (Nat.le_of_ble_eq_true rfl) (sp2_one _) rowSpan5 ?_
                         intro w43 hP hM
                         rw [splice_whole (by rfl)] at hM
                         have hb : Below w42.heap.size w42 w43 := (grow1 w42 _).trans (hP.below (Nat.le_refl _))
                         have hbb := H42.out.trans (hb.mono H42.out.size)
                         have f41 : w43.cell? ⟨wo.heap.size, 0, none⟩ = some (.int .i64 pid) := by rw [← HPID.out]; exact cell_of_row w43 _ 0 _ _ _ ((hbb.block _ (lt_of_heap HM25.out)).trans HM25.out)
                         have hZO := HA.out.map.block (W' := w43) ((HJB.out.1.trans (((HB40.out.trans (hbb.mono HB40.out.size)).mono HJB.out.1.size))).block _ HA.out.map.lt)
                         have HZO := Lib.hid hZO
                         have H43 := Lib.hid (HK4.out.trans (hbb.mono HK4.out.size))
                         have H43b := Lib.hid hbb
                         have HM27 := Lib.hid hM
                         clear hP hM hm hb hbb hZO)
                      | (show wpList _ _ _ (Oper.mk (some 212) _ _ _ _ _ :: _) _ _
                         refine wpList_lookZ rfl (.tmp 209) (.tmp 211) rfl rfl HZO.out HIY.out rfl ?_
                         rw [HF0.out])
                      | (go_at_call 26
                         refine HST2.out.mono ?_
                         rintro e w42 ⟨rfl, hB42⟩
                         have H42 := Lib.hid hB42
                         clear hB42)
                      | (show wpList _ _ _ (Oper.mk (some 201) _ _ _ _ _ :: _) _ _
                         refine wpList_load_blk 25 (.tmp 18) rfl rfl rfl (HBX2.out w40 HB40.out).1 [.slice (some ⟨g1, o1, none⟩) ps.length c1, .slice A2 ts.length c2] at0 rowSheetP ?_)
                      | (show wpList _ _ _ (Oper.mk (some 202) _ _ _ _ _ :: _) _ _
                         refine wpList_load_blk 28 (.tmp 4) rfl rfl rfl (HBX2.out w40 HB40.out).2 [.slice AG gs.length cg, .int .i64 vary] at0 rowGradingP ?_))
                    go_roundg gl
                    case measure => omega
                    case rel => exact ⟨k + 1, by omega, by go_num, H43.out⟩
                  · rw [hs] at hst
                    have HST2 := Lib.hid hst
                    obtain ⟨Z, hZ⟩ : ∃ Z : Int, mapL gs ps pid = Z := ⟨_, rfl⟩
                    have hZ0 : Z ≠ 0 := by rw [← hZ]; unfold mapL; rw [hmp]; omega
                    have hZb : (Z == 0) = false := beq_eq_false_iff_ne.2 hZ0
                    have HZ9 := Lib.hid hZ
                    have hbe := fun (W : World) => rfBears_any y k (stI gs vary b j y k) hk3 HOK2.out (HSB2.out k hk3).1 (HSB2.out k hk3).2 W
                    have hrw := HROW.out k hk3
                    generalize stI gs vary b j y k = st at hbe hrw hs1 hs2
                    obtain ⟨n, hn⟩ : ∃ n, bears y k st = n := ⟨_, rfl⟩
                    rw [hn] at hbe hs1 hs2
                    have HBE := Lib.hid hbe
                    have HRW4 := Lib.hid hrw
                    have q1 : decide (n < bb.1) = false := decide_eq_false (by omega)
                    have q2 : decide (bb.2 < n) = false := decide_eq_false (by omega)
                    clear hst hs h0 hmp hZ hZ0 hbe hrw hn hs1 hs2
                    go_wp2_with (first
                      | (show wpList _ _ _ (Oper.mk none (Op.store _ (Operand.tmp 27) (Operand.tmp 207)) _ _ _ _ :: _) _ _
                         have hm : (w42.alloc (.cells #[.int .i64 0, .int .i64 0] 50)).heap[w42.heap.size]? = some (.cells [Value.int .i64 0, .int .i64 0].toArray 50 (0, 0)) := alloc_at0 _ _
                         refine wpList_store_blk 50 (.tmp 27) (.tmp 207) rfl rfl rfl rfl (cs := sp2 bb) rfl hm (Nat.le_of_ble_eq_true rfl) (sp2_one _) rowSpan5 ?_
                         intro w43 hP hM
                         rw [splice_whole (by rfl)] at hM
                         have hb : Below w42.heap.size w42 w43 := (grow1 w42 _).trans (hP.below (Nat.le_refl _))
                         have hbb := H42.out.trans (hb.mono H42.out.size)
                         have f41 : w43.cell? ⟨wo.heap.size, 0, none⟩ = some (.int .i64 pid) := by rw [← HPID.out]; exact cell_of_row w43 _ 0 _ _ _ ((hbb.block _ (lt_of_heap HM25.out)).trans HM25.out)
                         have hZO := HA.out.map.block (W' := w43) ((HJB.out.1.trans (((HB40.out.trans (hbb.mono HB40.out.size)).mono HJB.out.1.size))).block _ HA.out.map.lt)
                         have HZO := Lib.hid hZO
                         have H43 := Lib.hid (HK4.out.trans (hbb.mono HK4.out.size))
                         have H43b := Lib.hid hbb
                         have HM27 := Lib.hid hM
                         clear hP hM hm hb hbb hZO)
                      | (show wpList _ _ _ (Oper.mk (some 212) _ _ _ _ _ :: _) _ _
                         refine wpList_lookZ rfl (.tmp 209) (.tmp 211) rfl rfl HZO.out HIY.out rfl ?_
                         rw [HZ9.out])
                      | (go_at_call 26
                         refine HST2.out.mono ?_
                         rintro e w42 ⟨rfl, hB42⟩
                         have H42 := Lib.hid hB42
                         clear hB42)
                      | (show wpList _ _ _ (Oper.mk (some 201) _ _ _ _ _ :: _) _ _
                         refine wpList_load_blk 25 (.tmp 18) rfl rfl rfl (HBX2.out w40 HB40.out).1 [.slice (some ⟨g1, o1, none⟩) ps.length c1, .slice A2 ts.length c2] at0 rowSheetP ?_)
                      | (show wpList _ _ _ (Oper.mk (some 202) _ _ _ _ _ :: _) _ _
                         refine wpList_load_blk 28 (.tmp 4) rfl rfl rfl (HBX2.out w40 HB40.out).2 [.slice AG gs.length cg, .int .i64 vary] at0 rowGradingP ?_))
                    refine R6.wp_walk (C := fun _ _ W => Below w43.heap.size w43 W) 242 (by kernel_rfl) (by kernel_rfl) rfl (Below.refl _ _).drew ?_
                    simp only []
                    refine' R6.WalkR.det (fun _ => rfl) (fun D ρ W hK hC => ?_) ?_
                    rotate_left
                    · exact gives_load_blk 56 (.tmp 25) rfl rfl (((H43b.out.trans (hC.mono H43b.out.size)).block _ (lt_of_heap HM25.out)).trans HM25.out) (pcl y) at0 rowPole ⟨rfl, hC⟩
                    simp only [Act.put, List.setIfInBounds_toArray, List.set_cons_succ, List.set_cons_zero]
                    repeat (first
                      | (refine' R6.WalkR.det (fun _ => rfl) (fun D ρ W hK hC => ?_) ?_
                         rotate_left
                         · have f1 : W.cell? ⟨gA, oA + (j * 3 + k), none⟩ = some (.int .i64 st) := HRW4.out W (HJB.out.1.trans (((HB40.out.trans ((H43b.out.trans (hC.mono H43b.out.size)).mono HB40.out.size)).mono HJB.out.1.size)))
                           rw [← Nat.add_assoc] at f1
                           have HC := Lib.hid hC
                           clear hC hK
                           go_simp
                           with_reducible exact ⟨rfl, HC.out⟩
                         simp only [Act.put, List.setIfInBounds_toArray, List.set_cons_succ, List.set_cons_zero]))
                    refine' R6.WalkR.det (fun _ => rfl) (fun D ρ W hK hC => ?_) ?_
                    rotate_left
                    · have HC := Lib.hid hC
                      clear hC hK
                      go_simp
                      go_at_call 34
                      refine (HBE.out W).mono ?_
                      rintro e W1 ⟨rfl, hB1⟩
                      exact ⟨_, rfl, rfl, HC.out.trans (hB1.mono HC.out.size)⟩
                    simp only [Act.put, List.setIfInBounds_toArray, List.set_cons_succ, List.set_cons_zero]
                    repeat (first
                      | (refine' R6.WalkR.det (fun _ => rfl) (fun D ρ W hK hC => ?_) ?_
                         rotate_left
                         · have f1 : W.cell? ⟨gA, oA + (j * 3 + k), none⟩ = some (.int .i64 st) := HRW4.out W (HJB.out.1.trans (((HB40.out.trans ((H43b.out.trans (hC.mono H43b.out.size)).mono HB40.out.size)).mono HJB.out.1.size)))
                           rw [← Nat.add_assoc] at f1
                           have HC := Lib.hid hC
                           clear hC hK
                           go_simp
                           with_reducible exact ⟨rfl, HC.out⟩
                         simp only [Act.put, List.setIfInBounds_toArray, List.set_cons_succ, List.set_cons_zero]))
                    refine R6.WalkR.nil (fun D ρ w44 hD hC => ?_)
                    have H44 := Lib.hid (H43.out.trans (hC.mono H43.out.size))
                    have h27 := (hC.block _ (lt_of_heap HM27.out)).trans HM27.out
                    have g1 : w44.cell? ⟨w42.heap.size, 0, none⟩ = some (.int .i64 bb.1) := cell_of_row w44 _ 0 _ _ _ h27
                    have g2 : w44.cell? ⟨w42.heap.size, 1, none⟩ = some (.int .i64 bb.2) := cell_of_row w44 _ 1 _ _ _ h27
                    clear hC hD h27
                    go_wp2
                    go_roundg gl
                    case measure => omega
                    case rel => exact ⟨k + 1, by omega, by go_num, H44.out⟩
        | succ gj =>
          have hj : j < ts.length := by omega
          have hl26 : ts.length ≤ 26 := HZG.out.2.2.2.1.2.1
          have hjz : (j : Int) < ts.length := by omega
          obtain ⟨wo, rfl⟩ : ∃ wo : World, wo = wr := ⟨_, rfl⟩
          have hJ := hJ.out
          obtain ⟨g2, L, hA2, hg2, hL, hLt, hLl⟩ := hJ.arr (by omega)
          subst hA2
          have hjl : j < (tsH (hT gs vary b ps) ts j).length := by rw [tsH_len]; exact hj
          have hxe : (tsH (hT gs vary b ps) ts j)[j] = ts[j] := by have h := tsH_at (hT gs vary b ps) ts hj; rw [List.getElem?_eq_getElem hjl] at h; exact Option.some.inj h
          have hLs : ∀ q v, (tcl ts[j])[q]? = some v → L[j * 5 + q]? = some v := fun q v hv => by
            have hq : q < 5 := by have := (List.getElem?_eq_some_iff.1 hv).1; simpa [tcl] using this
            have h1 := (flat_at tcl_len (tsH (hT gs vary b ps) ts j) j hjl q hq)
            rw [← hLt, List.getElem?_take_of_lt (by omega), hxe] at h1
            exact h1.trans hv
          obtain ⟨m, k, hm, hk, hsec, hidx, hfo, hhT⟩ := HTF.out j hj
          have hst := stI_bnd HZG.out.2.2.2.2 b hm hk
          have hpo := ((grOk_of HZG.out.2.2.2.2).po _ (List.getElem_mem hm)).2
          have har := ar_pos (okPol_secs hpo) k
          have hsc := okPol_secs hpo
          have htat := tsH_at (hT gs vary b ps) ts hj
          have htst := tsH_step (hT gs vary b ps) ts hj
          obtain ⟨g1, o1, hA1, hg1, hcP⟩ := vals_elem pcl_len (Vals.own hJ.o1) (by decide) hm
          obtain ⟨gA, oA, hAA, hgA, hcA⟩ := HRW.out (by rw [ints_len, rowsL_len]; omega)
          have hcA := hcA (m * 3 + k) (.int .i64 (stI gs vary b m ps[m] k)) (by rw [ints_getElem?, rowsL_at gs vary b ps _ _ _ hm hk, pAt_at hm]; rfl)
          have hat := fun (W : World) (hW : Below wo.heap.size wo W) => rfAt_any ps ts[j].pole A1 c1 (some ⟨g2, 0, none⟩) ts.length c2 wo.heap.size W hW.size ((Vals.own hJ.o1).below hW) (by have := HZG.out.2.2.2.1.1; omega)
          rw [hidx] at hat
          have hare := fun (W : World) => rfArea_any ps[m] k hk hsc W
          have ht5 : ∀ u : Bool, tcl ⟨ts[j].id, ts[j].pole, ts[j].sec, ts[j].force, u⟩ = (tcl ts[j]).set 4 (.bool u) := fun u => rfl
          rw [hhT] at htst
          have hfs := flat_set (.bool (decide (1000 * ts[j].force ≤ stI gs vary b m ps[m] k * ar ps[m] k))) (tsH (hT gs vary b ps) ts j) j ts[j] _ htat (ht5 _)
          rw [htst] at hfs
          have hl1 := hLs 1 _ rfl
          have hl2 := hLs 2 _ rfl
          have hl3 := hLs 3 _ rfl
          rw [hsec] at hl2
          subst hA1
          subst hAA
          have hrow := fun (W : World) (hW : Below wA.heap.size wA W) => (hW.cell (p := ⟨gA, oA + (m * 3 + k), none⟩) hgA).trans hcA
          generalize hst0 : stI gs vary b m ps[m] k = st at hst hrow hfs
          generalize hps : ps[m] = y at hcP har hare hsc hfs
          generalize ar y k = a at har hare hfs
          generalize ts[j].pole = xp at hat hl1
          generalize ts[j].force = xf at hfo hl3 hfs
          have hpr : 0 ≤ st * a ∧ st * a ≤ 200000 * 60000 := ⟨Int.mul_nonneg hst.1 (by omega), Int.mul_le_mul hst.2 har.2 (by omega) (by decide)⟩
          have HE := Lib.hid (p := (IntKind.i64.wrap (st * a) = st * a ∧ IntKind.i64.wrap (1000 * xf) = 1000 * xf ∧ (m : Int) < ps.length ∧ (k : Int) < 3)) ⟨IntWalk.i64_in _ (by omega), IntWalk.i64_in _ (by omega), by omega, by omega⟩
          obtain ⟨h, hh⟩ : ∃ h, decide (1000 * xf ≤ st * a) = h := ⟨_, rfl⟩
          rw [hh] at hfs
          have HH := Lib.hid hh
          have hx1 := fun (W : World) (hW : Below wo.heap.size wo W) => (hW.cell (p := ⟨g2, j * 5 + 1, none⟩) (lt_of_heap hL)).trans (show wo.cell? ⟨g2, j * 5 + 1, none⟩ = some (.int .i64 xp) by rw [cell_of_row wo g2 _ _ _ _ hL, List.getElem?_toArray]; exact hl1)
          have f28 : wo.cell? ⟨b18, 1, none⟩ = some (.slice (some ⟨g2, 0, none⟩) ts.length c2) := cell_of_row wo _ 1 _ _ _ hJ.box
          have HX1 := Lib.hid hx1
          have HAT := Lib.hid hat
          have HAR := Lib.hid hare
          have HCP := Lib.hid (And.intro hcP hg1)
          have HROW := Lib.hid hrow
          have HFS := Lib.hid hfs
          have HLS := Lib.hid (And.intro hl2 hl3)
          have HJ := Lib.hid hJ
          have HL := Lib.hid (And.intro hL (And.intro hg2 hLl))
          clear hJ hL hg2 hLt hLl hjl hxe hLs hm hk hsec hidx hfo hhT hst hpo har hsc htat htst hcP hg1 hgA hcA hat hare ht5 hfs hl1 hl2 hl3 hrow hst0 hps hpr hh hx1
          go_wp2
          clear f28
          refine R6.wp_walk (C := fun _ _ W => Below wo.heap.size wo W) 242 (by kernel_rfl) (by kernel_rfl) rfl (Below.refl _ _).drew ?_
          simp only []
          refine' R6.WalkR.det (fun _ => rfl) (fun D ρ W hK hC => ?_) ?_
          rotate_left
          · exact gives_load_blk 25 (.tmp 18) rfl rfl ((hC.block _ (lt_of_heap HJ.out.box)).trans HJ.out.box) [.slice (some ⟨g1, o1, none⟩) ps.length c1, .slice (some ⟨g2, 0, none⟩) ts.length c2] at0 rowSheetP ⟨rfl, hC⟩
          simp only [Act.put, List.setIfInBounds_toArray, List.set_cons_succ, List.set_cons_zero]
          repeat (first
            | (refine' R6.WalkR.det (fun _ => rfl) (fun D ρ W hK hC => ?_) ?_
               rotate_left
               · have f1 : W.cell? ⟨g2, j * 5 + 1, none⟩ = some (.int .i64 xp) := HX1.out W hC
                 have HC := Lib.hid hC
                 clear hC hK
                 go_simp
                 with_reducible exact ⟨rfl, HC.out⟩
               simp only [Act.put, List.setIfInBounds_toArray, List.set_cons_succ, List.set_cons_zero]))
          refine' R6.WalkR.det (fun _ => rfl) (fun D ρ W hK hC => ?_) ?_
          rotate_left
          · have HC := Lib.hid hC
            clear hC hK
            go_simp
            go_at_call 31
            refine (HAT.out W HC.out).mono ?_
            rintro e W1 ⟨rfl, hB1⟩
            exact ⟨_, rfl, rfl, HC.out.trans (hB1.mono HC.out.size)⟩
          simp only [Act.put, List.setIfInBounds_toArray, List.set_cons_succ, List.set_cons_zero]
          repeat (first
            | (refine' R6.WalkR.det (fun _ => rfl) (fun D ρ W hK hC => ?_) ?_
               rotate_left
               · have f1 : W.cell? ⟨g2, j * 5 + 1, none⟩ = some (.int .i64 xp) := HX1.out W hC
                 have HC := Lib.hid hC
                 clear hC hK
                 go_simp
                 with_reducible exact ⟨rfl, HC.out⟩
               simp only [Act.put, List.setIfInBounds_toArray, List.set_cons_succ, List.set_cons_zero]))
          refine R6.WalkR.nil (fun D ρ w20 hD hC => ?_)
          have hJ20 := HJ.out.grows hC
          have hL20 := (hC.block _ (lt_of_heap HL.out.1)).trans HL.out.1
          have hbn : b18 ≠ g2 := fun e => by have h1 := hJ20.box; rw [e, hL20] at h1; simp at h1
          have hgn : g1 ≠ g2 := fun e => by
            obtain ⟨cur, h1, _⟩ := own_bt hJ20.o1 (b := g1) rfl
            rw [e, hL20] at h1
            simp at h1
          have hcp20 := fun (q : Nat) (v : Value) (hv : (pcl y)[q]? = some v) => (hC.cell (p := ⟨g1, o1 + m * 12 + q, none⟩) HCP.out.2).trans (HCP.out.1 q v hv)
          have HJ20 := Lib.hid hJ20
          have HB20 := Lib.hid (And.intro hJ20.box hbn)
          have HL20 := Lib.hid hL20
          have HCP20 := Lib.hid (And.intro hcp20 (And.intro hgn (Nat.lt_of_lt_of_le HCP.out.2 hC.size)))
          clear hC hD hJ20 hL20 hbn hgn hcp20
          go_wp2
          refine R6.wp_walk (C := fun D _ W => At1D wA w20 g2 58 L (L.set (j * 5 + 4) (.bool h)) 29 D W) 242 (by kernel_rfl) (by kernel_rfl) rfl (At1D.start HJ20.out.bel HL20.out) ?_
          simp only []
          repeat (first
            | (refine' R6.WalkR.det (fun _ => rfl) (fun D ρ W hK hC => ?_) ?_
               rotate_left
               · have f2 : W.cell? ⟨g2, j * 5 + 2, none⟩ = some (.int .i64 (k : Int)) := (At1D.cell hC (by omega)).trans HLS.out.1
                 have f3 : W.cell? ⟨g2, j * 5 + 3, none⟩ = some (.int .i64 xf) := (At1D.cell hC (by omega)).trans HLS.out.2
                 have f4 : W.cell? ⟨gA, oA + (m * 3 + k), none⟩ = some (.int .i64 st) := HROW.out W (At1.bel hC)
                 rw [← Nat.add_assoc] at f4
                 have f5 : W.cell? ⟨b18, 0, none⟩ = some (.slice (some ⟨g1, o1, none⟩) ps.length c1) := cell_of_row W _ 0 _ _ _ (At1.block hC HB20.out.1 HB20.out.2)
                 obtain ⟨e1, e2, q1, q2⟩ := HE.out
                 have HC := Lib.hid hC
                 clear hC hK
                 go_simp
                 with_reducible exact ⟨rfl, HC.out.move (by decide)⟩
               simp only [Act.put, List.setIfInBounds_toArray, List.set_cons_succ, List.set_cons_zero]))
          refine' R6.WalkR.det (fun _ => rfl) (fun D ρ W hK hC => ?_) ?_
          rotate_left
          · have hc := fun (q : Nat) (v : Value) (hv : (pcl y)[q]? = some v) => (World.cell?_of_block (a := ⟨g1, o1 + m * 12 + q, none⟩) (At1.oth hC g1 HCP20.out.2.2 HCP20.out.2.1)).trans (HCP20.out.1 q v hv)
            exact gives_load_at 56 (.tmp 159) rfl rfl (pcl y) hc rowPole ⟨rfl, hC.move (by decide)⟩
          simp only [Act.put, List.setIfInBounds_toArray, List.set_cons_succ, List.set_cons_zero]
          repeat (first
            | (refine' R6.WalkR.det (fun _ => rfl) (fun D ρ W hK hC => ?_) ?_
               rotate_left
               · have f2 : W.cell? ⟨g2, j * 5 + 2, none⟩ = some (.int .i64 (k : Int)) := (At1D.cell hC (by omega)).trans HLS.out.1
                 have f3 : W.cell? ⟨g2, j * 5 + 3, none⟩ = some (.int .i64 xf) := (At1D.cell hC (by omega)).trans HLS.out.2
                 have f4 : W.cell? ⟨gA, oA + (m * 3 + k), none⟩ = some (.int .i64 st) := HROW.out W (At1.bel hC)
                 rw [← Nat.add_assoc] at f4
                 have f5 : W.cell? ⟨b18, 0, none⟩ = some (.slice (some ⟨g1, o1, none⟩) ps.length c1) := cell_of_row W _ 0 _ _ _ (At1.block hC HB20.out.1 HB20.out.2)
                 obtain ⟨e1, e2, q1, q2⟩ := HE.out
                 have HC := Lib.hid hC
                 clear hC hK
                 go_simp
                 with_reducible exact ⟨rfl, HC.out.move (by decide)⟩
               simp only [Act.put, List.setIfInBounds_toArray, List.set_cons_succ, List.set_cons_zero]))
          refine' R6.WalkR.det (fun _ => rfl) (fun D ρ W hK hC => ?_) ?_
          rotate_left
          · have HC := Lib.hid hC
            clear hC hK
            go_simp
            go_at_call 32
            refine (HAR.out W).mono ?_
            rintro e W1 ⟨rfl, hB1⟩
            exact ⟨_, rfl, rfl, (HC.out.move (by decide)).next hB1⟩
          simp only [Act.put, List.setIfInBounds_toArray, List.set_cons_succ, List.set_cons_zero]
          repeat (first
            | (refine' R6.WalkR.det (fun _ => rfl) (fun D ρ W hK hC => ?_) ?_
               rotate_left
               · have f2 : W.cell? ⟨g2, j * 5 + 2, none⟩ = some (.int .i64 (k : Int)) := (At1D.cell hC (by omega)).trans HLS.out.1
                 have f3 : W.cell? ⟨g2, j * 5 + 3, none⟩ = some (.int .i64 xf) := (At1D.cell hC (by omega)).trans HLS.out.2
                 have f4 : W.cell? ⟨gA, oA + (m * 3 + k), none⟩ = some (.int .i64 st) := HROW.out W (At1.bel hC)
                 rw [← Nat.add_assoc] at f4
                 have f5 : W.cell? ⟨b18, 0, none⟩ = some (.slice (some ⟨g1, o1, none⟩) ps.length c1) := cell_of_row W _ 0 _ _ _ (At1.block hC HB20.out.1 HB20.out.2)
                 obtain ⟨e1, e2, q1, q2⟩ := HE.out
                 have HC := Lib.hid hC
                 clear hC hK
                 go_simp
                 with_reducible exact ⟨rfl, HC.out.move (by decide)⟩
               simp only [Act.put, List.setIfInBounds_toArray, List.set_cons_succ, List.set_cons_zero]))
          refine' R6.WalkR.det (c := undef) (fun _ => rfl) (fun D ρ W hK hC => ?_) ?_
          · refine gives_store_val 4 (.tmp 174) (.tmp 172) rfl rfl (v := .bool h) (by rw [← HH.out]; rfl) rfl rfl (L := L) (hC.before hK.me).own (by have := HL.out.2.2; omega) infoBool6 ?_
            intro W' hP hM
            exact ⟨rfl, hC.put hP hM HL.out.2.1⟩
          simp only [Act.put, List.setIfInBounds_toArray, List.set_cons_succ, List.set_cons_zero]
          refine R6.WalkR.nil (fun D ρ w21 hD hC => ?_)
          have H21 := Lib.hid (HJ20.out.step HL20.out (j * 5 + 4) (.bool h) (hC.after (hD 29 (by omega))) HFS.out)
          clear hC hD
          go_wp2
          go_roundg gj
          case measure => omega
          case rel => exact ⟨j + 1, by omega, by go_num, H21.out⟩
    | succ gi =>
      have hi : i < ps.length := by omega
      have hiz : (i : Int) < ps.length := by omega
      have hl16 : ps.length ≤ 16 := HZG.out.2.2.2.1.1
      have hI := hI.out
      obtain ⟨cP, oP, hA, hcB, hc⟩ := HPE.out i hi
      have hc' : ∀ j v, (pcl ps[i])[j]? = some v → wr.cell? ⟨cP, oP + i * 12 + j, none⟩ = some v := fun j v hv => ((H3.out.1.trans (hI.bel.mono H3.out.1.size)).cell (p := ⟨cP, oP + i * 12 + j, none⟩) (by have := HZG.out.2.2.1; simp; omega)).trans (hc j v hv)
      have hgr := fun (W : World) (hW : Below w.heap.size w W) => HGR.out i hi W hW
      have hid := HID.out i hi
      have hmst := mapL_step gs ps hi
      have hrst := rowsL_step gs vary b ps i
      rw [pAt_at hi] at hrst
      have hst9 := HST.out i hi
      have hgl := gOf_le gs ps[i]
      generalize ps[i] = y at hc' hgr hid hmst hrst hst9 hgl
      obtain ⟨f, hf⟩ : ∃ f : Nat → Int, (fun k => stI gs vary b i y k) = f := ⟨_, rfl⟩
      have hr3 : row3 gs vary b i y = [f 0, f 1, f 2] := by rw [← hf]; rfl
      rw [hr3] at hrst
      generalize rowsL gs vary b ps i = R at hI hrst
      generalize mapL gs (ps.take i) = F at hI hmst
      have hRl : R.length = i * 3 := by have := hI.row.1; simpa [ints] using this
      subst hA
      obtain ⟨wo, rfl⟩ : ∃ wo : World, wo = wr := ⟨_, rfl⟩
      have HG2 := Lib.hid hgr
      have HCC := Lib.hid hc'
      have HI1 := Lib.hid hI
      have HIY := Lib.hid hid
      have HMS := Lib.hid hmst
      have HRS := Lib.hid hrst
      have HR3 := Lib.hid hr3
      have HF := Lib.hid hf
      have HRL := Lib.hid hRl
      have HGL := Lib.hid hgl
      have H9F := Lib.hid hst9
      obtain ⟨n, hn⟩ : ∃ n : Nat, gOf gs y = n := ⟨_, rfl⟩
      have HN := Lib.hid hn
      rw [hn] at HG2 HMS
      obtain ⟨Z, hZ⟩ : ∃ Z : Int, ((n : Nat) : Int) = Z := ⟨_, rfl⟩
      have hgn : ¬ (gs.length : Int) < Z := by omega
      have hn0 : ¬ Z < 0 := by omega
      rw [hZ] at HG2 HMS
      have HZ := Lib.hid hZ
      clear hc hc' hgr hid hmst hrst hr3 hI hf hRl hgl hn hZ hst9
      go_wp2_with (first
        | (show wpList _ _ _ (Oper.mk none (Op.mapUpdate _ (Operand.tmp 70) (Operand.tmp 72) (Operand.tmp 73)) _ _ _ _ :: _) _ _
           refine wpList_keepZ rfl (.tmp 70) (.tmp 72) (.tmp 73) rfl rfl rfl H6.out.1.map (by have := hl16; simp only [maxLen]; omega) HIY.out rfl rfl ?_
           intro w7 hO hg
           have hX := H6.out.1.keep hO hg
           have hm7 := (hg.block _ (lt_of_heap H6.out.2) (fun e => H6.out.1.notBox H6.out.2 e)).trans H6.out.2
           have H7 := Lib.hid (And.intro hX hm7)
           clear hO hg hX hm7)
        | (go_at_call 25
           (with_reducible show Calls _ _ _ w5 _)
           refine (HG2.out w5 (H3.out.1.trans (H5.out.1.bel.mono H3.out.1.size))).mono ?_
           rintro e w6 ⟨rfl, hB6⟩
           have hX := H5.out.1.grows hB6
           have hM6 := (hB6.block _ (lt_of_heap H5.out.2)).trans H5.out.2
           have f11 : w6.cell? ⟨wo.heap.size, 0, none⟩ = some (.int .i64 y.id) := cell_of_row w6 _ 0 _ _ _ hM6
           have f10 : w6.cell? ⟨w.heap.size + 1, 0, none⟩ = some (.slice AG gs.length cg) := cell_of_row w6 _ 0 _ _ _ (HBX.out w6 hX.bel).2
           have H6 := Lib.hid (And.intro hX hM6)
           clear hB6 hX hM6)
        | (show wpList _ _ _ (Oper.mk (some 50) _ _ _ _ _ :: _) _ _
           refine wpList_load_blk 25 (.tmp 3) rfl rfl rfl (HBX.out w5 H5.out.1.bel).1 [.slice (some ⟨cP, oP, none⟩) ps.length cp, .slice AT ts.length ct] at0 rowSheetP ?_)
        | (show wpList _ _ _ (Oper.mk (some 51) _ _ _ _ _ :: _) _ _
           refine wpList_load_blk 28 (.tmp 4) rfl rfl rfl (HBX.out w5 H5.out.1.bel).2 [.slice AG gs.length cg, .int .i64 vary] at0 rowGradingP ?_)
        | (show wpList _ _ _ (Oper.mk none (Op.store _ (Operand.tmp 11) (Operand.tmp 48)) _ _ _ _ :: _) _ _
           have hm : (wo.alloc (.cells #[.int .i64 0, .int .i64 0, .int .i64 0, .int .i64 0, .int .i64 0, .int .i64 0, .int .i64 0, .int .i64 0, .int .i64 0, .int .i64 0, .int .i64 0, .int .i64 0] 56)).heap[wo.heap.size]? = some (.cells (pcl pol0).toArray 56 (0, 0)) := alloc_at0 _ _
           refine wpList_store_blk 56 (.tmp 11) (.tmp 48) (cs := pcl y) rfl rfl rfl rfl rfl hm (Nat.le_of_ble_eq_true rfl) (fun v hv => pcl_one [y] v (by simpa using hv)) rowPole ?_
           intro w5 hP hM
           rw [splice_whole (by rfl)] at hM
           have hb : Below wo.heap.size wo w5 := (grow1 wo _).trans (hP.below (Nat.le_refl _))
           have hX := HI1.out.grows hb
           have f11 : w5.cell? ⟨wo.heap.size, 0, none⟩ = some (.int .i64 y.id) := cell_of_row w5 _ 0 _ _ _ hM
           have H5 := Lib.hid (And.intro hX hM)
           clear hX
           clear hP hM hm hb)
        | (show wpList _ _ _ (Oper.mk (some 48) _ _ _ _ _ :: _) _ _
           refine wpList_load_at 56 (.tmp 47) rfl rfl rfl (pcl y) HCC.out rowPole ?_))
      have h8 : (w7.alloc (.cells #[.int .i64 0, .int .i64 0, .int .i64 0] 54)).heap[w7.heap.size]? = some (.cells (ints (pre3 f 0)).toArray 54 (0, 0)) := alloc_at0 _ _
      obtain ⟨w8, hw8⟩ : ∃ w8, w7.alloc (.cells #[.int .i64 0, .int .i64 0, .int .i64 0] 54) = w8 := ⟨_, rfl⟩
      have hX8 : TruC w3 w3.heap.size (i + 1) (updZ F y.id Z) A i c R w8 := by rw [← hw8]; exact H7.out.1.grows (grow1 w7 _)
      have hne8 := H7.out.1.fresh
      have hlo8 := H7.out.1.bel.size
      rw [hw8] at h8
      rw [hw8]
      have H8 := Lib.hid (And.intro hX8 (And.intro h8 (And.intro hne8 hlo8)))
      obtain ⟨b14, hb14⟩ : ∃ b14, w7.heap.size = b14 := ⟨_, rfl⟩
      rw [hb14] at H8
      simp only [hb14]
      clear h8 hX8 hne8 hlo8 hw8 hb14
      go_loopg [74] 3 (fun gn s74 wx => ∃ k : Nat, k + gn = 3 ∧ s74 = .int .i64 k ∧ Hid (At1 w3 w8 b14 54 (ints (pre3 f k)) wx))
      case atStart => exact ⟨0, by omega, rfl, At1.start H8.out.1.bel H8.out.2.1⟩
      case round =>
        obtain ⟨k, hkg, rfl, hK⟩ := hrel
        cases gk with
        | zero =>
          obtain rfl : k = 3 := by omega
          have hX := H8.out.1.set hK.out H8.out.2.1 H8.out.2.2.1
          have hne := H8.out.2.2.1
          have h3 : ints (pre3 f 3) = [.int .i64 (f 0), .int .i64 (f 1), .int .i64 (f 2)] := by simp [ints, pre3]
          have ho3 := hK.out.own
          rw [h3] at ho3
          have HX := Lib.hid (And.intro hX (And.intro hne ho3))
          clear hX hne hK h3 ho3
          go_wp2_with (first
            | (show wpList _ _ _ (Oper.mk (some 124) _ _ _ _ _ :: _) _ _
               refine wpList_load_blk 54 (.tmp 14) rfl rfl rfl HX.out.2.2 [.int .i64 (f 0), .int .i64 (f 1), .int .i64 (f 2)] at0 row3I ?_)
            | (show wpList _ _ _ (Oper.mk (some 126) _ _ _ _ _ :: _) _ _
               obtain ⟨w9, hw9⟩ : ∃ w9, wr.alloc (.cells #[.int .i64 (f 0), .int .i64 (f 1), .int .i64 (f 2)] 54) = w9 := ⟨_, rfl⟩
               have g9 : Grows wr w9 := by rw [← hw9]; exact grow1 _ _
               have m9 : w9.heap[wr.heap.size]? = some (.cells (ints [f 0, f 1, f 2]).toArray 54 (0, 0)) := by rw [← hw9]; exact alloc_at0 _ _
               have hX9 := HX.out.1.grows g9
               rw [hw9]
               refine wpl_app rfl (.tmp 123) (.tmp 125) 78 rfl w3.heap.size 54 i3 _ 3 24 Tryz.underlying78 HI3.out.1 HI3.out.2.1 HI3.out.2.2.1 HI3.out.2.2.2 rfl (by decide) _ _ _ rfl hX9.row _ _ _ _ _ rfl (vals_mk5 m9) rfl (ints_one _) (by have := hl16; simp only [maxLen]; omega) (by have := hl16; omega) hX9.bel.size ?_
               intro v' w10 ho hgr hob
               obtain ⟨A4, c4, rfl⟩ := own_slice ho
               have hX10 := hX9.more ho hgr
               have H10 := Lib.hid hX10
               clear g9 m9 hX9 ho hgr hob hX10 hw9))
          go_roundg gi
          case measure => omega
          case rel => exact ⟨i + 1, A4, c4, by omega, rfl, by go_num, by rw [HMS.out, HRS.out]; exact H10.out⟩
        | succ gj =>
          have hk3 : k < 3 := by omega
          have hkz : (k : Int) < 3 := by omega
          by_cases hnz : n = 0
          · obtain rfl : Z = 0 := by have := HZ.out; omega
            have hf0 : ∀ k, f k = 0 := fun k => by rw [← HF.out]; exact H9F.out.zero (by rw [HN.out]; exact hnz) k
            have HK0 := Lib.hid (show At1 w3 w8 b14 54 (ints (pre3 f (k + 1))) wr by have h := hK.out; rw [pre3_zero f hf0] at h ⊢; exact h)
            clear hf0 hnz
            go_wp2
            go_roundg gj
            case measure => omega
            case rel => exact ⟨k + 1, by omega, by go_num, HK0.out⟩
          obtain ⟨M, hMn⟩ : ∃ M, n = M + 1 := ⟨n - 1, by omega⟩
          obtain ⟨hM, hS⟩ := H9F.out.some M (by rw [HN.out]; exact hMn)
          obtain ⟨⟨x1, x2, x3⟩, hfk⟩ := hS k hk3
          have hvr := H9F.out.vr
          obtain ⟨cG, oG, hAG, hcGB, hcG⟩ := HGE.out M hM
          have hxs : ∀ j v, (sp2 (st0 gs[M] k))[j]? = some v → (gcl gs[M])[2 + k * 2 + j]? = some v := gcl_st0 gs[M] hk3
          have hxc := fun (W : World) (hW : Below w.heap.size w W) (j : Nat) (v : Value) (hv : (sp2 (st0 gs[M] k))[j]? = some v) => (hW.cell (p := ⟨cG, oG + M * 8 + (2 + k * 2 + j), none⟩) (Nat.lt_of_lt_of_le hcGB HZG.out.2.2.1)).trans (hcG _ v (hxs j v hv))
          rw [show stI gs vary b i y k = f k by rw [← HF.out]] at hfk
          obtain ⟨X, hX⟩ : ∃ X, st0 gs[M] k = X := ⟨_, rfl⟩
          rw [hX] at x1 x2 x3 hfk hxc
          obtain ⟨X1, X2⟩ := X
          simp only at x1 x2 x3 hfk
          have b1 := HBB.out (3 * (M + 1) + k)
          have b2 := HBB.out (9 + 3 * i + k)
          have hc1 := fun (W : World) (hW : Below w.heap.size w W) => HCH.out (3 * Z + (k : Int)) (by have := HZ.out; omega) W hW
          have hc2 := fun (W : World) (hW : Below w.heap.size w W) => HCH.out (9 + 3 * (i : Int) + (k : Int)) (by omega) W hW
          rw [show (3 * Z + (k : Int)).toNat = 3 * (M + 1) + k by have := HZ.out; omega] at hc1
          rw [show (9 + 3 * (i : Int) + (k : Int)).toNat = 9 + 3 * i + k by omega] at hc2
          generalize chB b (3 * (M + 1) + k) = v1 at hfk b1 hc1
          generalize chB b (9 + 3 * i + k) = v2 at hfk b2 hc2
          have p1 : 0 ≤ v1.tmod (X2 - X1 + 1) ∧ v1.tmod (X2 - X1 + 1) ≤ X2 - X1 := by
            have h1 := Int.tmod_nonneg (X2 - X1 + 1) b1.1
            have h2 := Int.tmod_lt_of_pos v1 (show 0 < X2 - X1 + 1 by omega)
            omega
          have p2 : 0 ≤ v2.tmod (vary + 1) ∧ v2.tmod (vary + 1) ≤ vary := by
            have h1 := Int.tmod_nonneg (vary + 1) b2.1
            have h2 := Int.tmod_lt_of_pos v2 (show 0 < vary + 1 by omega)
            omega
          obtain ⟨r1, hr1⟩ : ∃ r1, v1.tmod (X2 - X1 + 1) = r1 := ⟨_, rfl⟩
          obtain ⟨r2, hr2⟩ : ∃ r2, v2.tmod (vary + 1) = r2 := ⟨_, rfl⟩
          rw [hr1] at p1 hfk
          rw [hr2] at p2 hfk
          have zz := HZ.out
          have ll := HRL.out
          have li : i < 16 := by omega
          have lg := HZG.out.2.2.2.1.2.2
          have HE1 := Lib.hid (p := (IntKind.i64.wrap (3 * Z) = 3 * Z ∧ IntKind.i64.wrap (3 * Z + (k : Int)) = 3 * Z + k ∧ IntKind.i64.wrap (X2 - X1) = X2 - X1 ∧ IntKind.i64.wrap (X2 - X1 + 1) = X2 - X1 + 1 ∧ v1.tmod (X2 - X1 + 1) = r1 ∧ IntKind.i64.wrap (X1 + r1) = X1 + r1 ∧ (X2 - X1 + 1 == 0) = false ∧ ¬ X2 - X1 + 1 = 0))
            ⟨IntWalk.i64_in _ (by omega), IntWalk.i64_in _ (by omega), IntWalk.i64_in _ (by omega), IntWalk.i64_in _ (by omega), hr1, IntWalk.i64_in _ (by omega), beq_eq_false_iff_ne.2 (by omega), by omega⟩
          have HE2 := Lib.hid (p := (IntKind.i64.wrap (3 * (i : Int)) = 3 * (i : Int) ∧ IntKind.i64.wrap (9 + 3 * (i : Int)) = 9 + 3 * (i : Int) ∧ IntKind.i64.wrap (9 + 3 * (i : Int) + (k : Int)) = 9 + 3 * (i : Int) + k ∧ IntKind.i64.wrap (vary + 1) = vary + 1 ∧ v2.tmod (vary + 1) = r2 ∧ IntKind.i64.wrap (X1 + r1 + r2) = X1 + r1 + r2 ∧ (vary + 1 == 0) = false ∧ ¬ vary + 1 = 0))
            ⟨IntWalk.i64_in _ (by omega), IntWalk.i64_in _ (by omega), IntWalk.i64_in _ (by omega), IntWalk.i64_in _ (by omega), hr2, IntWalk.i64_in _ (by omega), beq_eq_false_iff_ne.2 (by omega), by omega⟩
          have hz0 : (Z == 0) = false := beq_eq_false_iff_ne.2 (by omega)
          have hz0' : ¬ Z = 0 := by omega
          have hz1 : IntKind.i64.wrap (Z - 1) = (M : Int) := by rw [IntWalk.i64_in _ (by omega)]; omega
          have hMz : (M : Int) < gs.length := by omega
          subst hAG
          have HXC := Lib.hid hxc
          have HC1 := Lib.hid hc1
          have HC2 := Lib.hid hc2
          have HFK := Lib.hid hfk
          have hK2 := hK.out
          have f18 : wr.cell? ⟨w.heap.size + 1, 0, none⟩ = some (.slice (some ⟨cG, oG, none⟩) gs.length cg) := cell_of_row wr _ 0 _ _ _ (HBX.out wr hK2.bel).2
          have HK2 := Lib.hid hK2
          clear hxs hxc hcG hcGB hX x1 x2 x3 hfk b1 b2 hc1 hc2 p1 p2 hr1 hr2 hvr hS hMn hnz zz ll lg hK2 hK
          go_wp2_with (first
            | (show wpList _ _ _ (Oper.mk (some 87) _ _ _ _ _ :: _) _ _
               refine wpList_load_at 50 (.tmp 86) rfl rfl rfl (sp2 (X1, X2)) (fun j v hv => by have h := HXC.out wr (H3.out.1.trans (HK2.out.bel.mono H3.out.1.size)) j v hv; simpa [Nat.add_assoc] using h) rowSpan5 ?_)
            | (show wpList _ _ _ (Oper.mk none (Op.store _ (Operand.tmp 16) (Operand.tmp 87)) _ _ _ _ :: _) _ _
               have hm : (wr.alloc (.cells #[.int .i64 0, .int .i64 0] 50)).heap[wr.heap.size]? = some (.cells [Value.int .i64 0, .int .i64 0].toArray 50 (0, 0)) := alloc_at0 _ _
               refine wpList_store_blk 50 (.tmp 16) (.tmp 87) rfl rfl rfl rfl (cs := sp2 (X1, X2)) rfl hm (Nat.le_of_ble_eq_true rfl) (sp2_one _) rowSpan5 ?_
               intro w9 hP hM
               rw [splice_whole (by rfl)] at hM
               have hb9 : Below wr.heap.size wr w9 := (grow1 wr _).trans (hP.below (Nat.le_refl _))
               have H9 := Lib.hid (And.intro (HK2.out.grows hb9) (lt_of_heap HK2.out.own))
               have HM9 := Lib.hid hM
               clear hP hM hm hb9))
          clear f18
          refine R6.wp_walk (C := fun _ _ W => Below w9.heap.size w9 W) 242 (by kernel_rfl) (by kernel_rfl) rfl (Below.refl _ _).drew ?_
          simp only []
          repeat (first
            | (refine' R6.WalkR.det (fun _ => rfl) (fun D ρ W hK hC => ?_) ?_
               rotate_left
               · have g0 : W.cell? ⟨wr.heap.size, 0, none⟩ = some (.int .i64 X1) := cell_of_row W _ 0 _ _ _ ((hC.block _ (lt_of_heap HM9.out)).trans HM9.out)
                 have g1 : W.cell? ⟨wr.heap.size, 1, none⟩ = some (.int .i64 X2) := cell_of_row W _ 1 _ _ _ ((hC.block _ (lt_of_heap HM9.out)).trans HM9.out)
                 obtain ⟨e1, e2, e3, e4, e5, e6, d0, d1⟩ := HE1.out
                 have HC := Lib.hid hC
                 clear hC hK
                 go_simp
                 with_reducible exact ⟨rfl, HC.out⟩
               simp only [Act.put, List.setIfInBounds_toArray, List.set_cons_succ, List.set_cons_zero]))
          refine' R6.WalkR.det (fun _ => rfl) (fun D ρ W hK hC => ?_) ?_
          rotate_left
          · have HC := Lib.hid hC
            clear hC hK
            go_simp
            go_at_call 30
            refine (HC1.out W (H3.out.1.trans ((H9.out.1.bel.trans (HC.out.mono H9.out.1.bel.size)).mono H3.out.1.size))).mono ?_
            rintro e W1 ⟨rfl, rfl⟩
            exact ⟨_, rfl, rfl, HC.out⟩
          simp only [Act.put, List.setIfInBounds_toArray, List.set_cons_succ, List.set_cons_zero]
          repeat (first
            | (refine' R6.WalkR.det (fun _ => rfl) (fun D ρ W hK hC => ?_) ?_
               rotate_left
               · have g0 : W.cell? ⟨wr.heap.size, 0, none⟩ = some (.int .i64 X1) := cell_of_row W _ 0 _ _ _ ((hC.block _ (lt_of_heap HM9.out)).trans HM9.out)
                 have g1 : W.cell? ⟨wr.heap.size, 1, none⟩ = some (.int .i64 X2) := cell_of_row W _ 1 _ _ _ ((hC.block _ (lt_of_heap HM9.out)).trans HM9.out)
                 obtain ⟨e1, e2, e3, e4, e5, e6, d0, d1⟩ := HE1.out
                 have HC := Lib.hid hC
                 clear hC hK
                 go_simp
                 with_reducible exact ⟨rfl, HC.out⟩
               simp only [Act.put, List.setIfInBounds_toArray, List.set_cons_succ, List.set_cons_zero]))
          refine R6.WalkR.nil (fun D ρ w10 hD hC => ?_)
          have H10 := Lib.hid (H9.out.1.grows hC)
          have HM10 := Lib.hid ((hC.block _ (lt_of_heap HM9.out)).trans HM9.out)
          have HN14 := Lib.hid (show wr.heap.size ≠ b14 from fun e => by have := H9.out.2; omega)
          clear hC hD
          go_wp2
          refine R6.wp_walk (C := fun D _ W => At1D w3 w10 b14 54 (ints (pre3 f k)) (ints (pre3 f (k + 1))) 18 D W) 242 (by kernel_rfl) (by kernel_rfl) rfl (At1D.start H10.out.bel H10.out.own) ?_
          simp only []
          repeat (first
            | (refine' R6.WalkR.det (fun _ => rfl) (fun D ρ W hK hC => ?_) ?_
               rotate_left
               · have g1 : W.cell? ⟨wr.heap.size, 1, none⟩ = some (.int .i64 X2) := cell_of_row W _ 1 _ _ _ (At1.block hC HM10.out HN14.out)
                 have g2 : W.cell? ⟨w.heap.size + 1, 1, none⟩ = some (.int .i64 vary) := cell_of_row W _ 1 _ _ _ (HBX.out W (At1.bel hC)).2
                 obtain ⟨e1, e2, e3, e4, e5, e6, d0, d1⟩ := HE2.out
                 have HC := Lib.hid hC
                 clear hC hK
                 go_simp
                 with_reducible exact ⟨rfl, HC.out.move (by decide)⟩
               simp only [Act.put, List.setIfInBounds_toArray, List.set_cons_succ, List.set_cons_zero]))
          refine' R6.WalkR.det (fun _ => rfl) (fun D ρ W hK hC => ?_) ?_
          rotate_left
          · have HC := Lib.hid hC
            clear hC hK
            go_simp
            go_at_call 30
            refine (HC2.out W (H3.out.1.trans ((At1.bel HC.out).mono H3.out.1.size))).mono ?_
            rintro e W1 ⟨rfl, rfl⟩
            exact ⟨_, rfl, rfl, HC.out.move (by decide)⟩
          simp only [Act.put, List.setIfInBounds_toArray, List.set_cons_succ, List.set_cons_zero]
          repeat (first
            | (refine' R6.WalkR.det (fun _ => rfl) (fun D ρ W hK hC => ?_) ?_
               rotate_left
               · have g1 : W.cell? ⟨wr.heap.size, 1, none⟩ = some (.int .i64 X2) := cell_of_row W _ 1 _ _ _ (At1.block hC HM10.out HN14.out)
                 have g2 : W.cell? ⟨w.heap.size + 1, 1, none⟩ = some (.int .i64 vary) := cell_of_row W _ 1 _ _ _ (HBX.out W (At1.bel hC)).2
                 obtain ⟨e1, e2, e3, e4, e5, e6, d0, d1⟩ := HE2.out
                 have HC := Lib.hid hC
                 clear hC hK
                 go_simp
                 with_reducible exact ⟨rfl, HC.out.move (by decide)⟩
               simp only [Act.put, List.setIfInBounds_toArray, List.set_cons_succ, List.set_cons_zero]))
          refine' R6.WalkR.det (c := undef) (fun _ => rfl) (fun D ρ W hK hC => ?_) ?_
          · refine gives_store_val 3 (.tmp 121) (.tmp 120) rfl rfl (v := .int .i64 (f k)) (by rw [HFK.out]; rfl) rfl rfl (L := ints (pre3 f k)) (hC.before hK.me).own (by simp [ints, pre3]; omega) infoInt7 ?_
            intro W' hP hM
            rw [ints_pre3 f hk3] at hM
            exact ⟨rfl, hC.put hP hM H8.out.2.2.2⟩
          simp only [Act.put, List.setIfInBounds_toArray, List.set_cons_succ, List.set_cons_zero]
          refine R6.WalkR.nil (fun D ρ w11 hD hC => ?_)
          have H11 := Lib.hid (H10.out.trans (hC.after (hD 18 (by omega))))
          clear hC hD
          go_wp2
          go_roundg gj
          case measure => omega
          case rel => exact ⟨k + 1, by omega, by go_num, H11.out⟩

end Go.Proofs.YtddpebnmjfmgdaaGreat
