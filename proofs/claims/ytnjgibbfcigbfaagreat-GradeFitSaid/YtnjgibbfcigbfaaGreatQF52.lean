import Derived.Test.YtnjgibbfcigbfaaGreatQF51
import Derived.Test.YtnjgibbfcigbfaaGreatQF35
set_option linter.all false
set_option maxRecDepth 100000
set_option maxHeartbeats 64000000
namespace Go.Proofs.YtnjgibbfcigbfaaGreat
open Go.RowKit Go.BigFrame
open R6 (done zAg zAj upd_ne upd_me)
attribute [local go_sem] gives zOm zGm zIc zGn
theorem zL3 (ps : List Pol) (ts : List Ts) (gs : List Gd) (vary : Int) (l : List Sk) (x yy : Int) (AP : Option Addr) (cp : Nat) (AT : Option Addr) (ct : Nat) (AG : Option Addr) (cg : Nat) (AL : Option Addr) (cl : Nat) (B : Nat) (w : World) (hB : B ≤ w.heap.size)
 (hz1 : Vals w B AP (ps.flatMap pcl)) (hz2 : Vals w B AT (ts.flatMap tcl)) (hz3 : Vals w B AG (gs.flatMap gcl)) (hz4 : SksAt w B l AL) (hx : 0 ≤ x ∧ x ≤ 255) (hy : 0 ≤ yy ∧ yy ≤ 255) (hl : l.length ≤ 1000000) (hask : fitAsk gs vary ps ts l = true) :
 Calls Tryz.prog 10 #[.agg #[.slice AP ps.length cp, .slice AT ts.length ct], .agg #[.slice AG gs.length cg, .int .i64 vary], .slice AL l.length cl, .int .u8 x, .int .u8 yy] w fun e w' => e = .returned (.bool true) ∧ Grows w w' := by
 unfold fitAsk at hask; simp only [Bool.and_eq_true, Bool.not_eq_true', decide_eq_true_eq] at hask; obtain ⟨hrv, hgv, hsv, hlp⟩ := hask; obtain ⟨hl3, hck⟩ := zO6 hrv
 have hl6 : l.length ≤ 6 := by
  have h := hsv; simp only [okSks, Bool.and_eq_true, decide_eq_true_eq] at h; omega
 have hz : ShAt w B ps ts AP AT := ⟨hz1, hz2, by omega, by omega⟩
 have hg : GdAt w B gs AG := ⟨hz3, by omega⟩
 obtain ⟨cS, oS, hAS, hcSB, -⟩ := zAw zB2 hz4.v (by decide) hlp
 subst hAS; obtain ⟨i, hi⟩ : ∃ i : Nat, x.toNat % l.length = i := ⟨_, rfl⟩; have hil : i < l.length := by rw [← hi]; exact Nat.mod_lt _ hlp
 have htm0 : x.tmod (l.length : Int) = (i : Int) := by rw [zUd hx.1, hi]
 have htm : x.tmod (l.length : Int) = (i : Int) := htm0; clear htm0; have hrd := fun (W : World) (hW : Grows w W) => zDp ps ts gs vary AP cp AT ct AG cg B W (Nat.le_trans hB hW.size) (hz1.below (hW.mono hB)) (hz2.below (hW.mono hB)) (hz3.below (hW.mono hB))
 have hgb := fun (W : World) (hW : Grows w W) => zD3 [] l none 0 (some ⟨cS, oS, none⟩) cl B W (Nat.le_trans hB hW.size) ⟨fun h => by simp at h, fun x hx => by cases hx⟩ (by simp) (hz4.below (hW.mono hB)) hl
 have hso := fun (W : World) (hW : Grows w W) => zHy l (some ⟨cS, oS, none⟩) cl B W (Nat.le_trans hB hW.size) (hz4.below (hW.mono hB)) hl
 simp only [List.length_nil] at hgb; rw [hrv] at hrd; rw [hgv] at hgb; rw [hsv] at hso; have hfit := fun (W : World) (hW : Grows w W) => (zL5 ps ts gs vary l AP cp AT ct AG cg (some ⟨cS, oS, none⟩) cl B W (Nat.le_trans hB hW.size) (hz.below (hW.mono hB)) (hg.below (hW.mono hB)) (hz4.below (hW.mono hB)) hl).mono (fun e w' h => fit_p hck hsv h)
 have hft := fun (h : Int) (h0 : 0 ≤ h) (h1 : h ≤ 300) (g c : Nat) (y : List Value) (W : World) (hW : Grows w W) (hm : W.heap[g]? = some (.cells ((turnSk l i h).flatMap skl ++ y).toArray 65 (0, 0))) =>
  (show Calls Tryz.prog 16 #[.agg #[.slice AP ps.length cp, .slice AT ts.length ct], .agg #[.slice AG gs.length cg, .int .i64 vary], .slice (some ⟨g, 0, none⟩) l.length c] W (FitP W ps.length (fitL (turnSk l i h) ps)) from by
    have h5 := (zL5 ps ts gs vary (turnSk l i h) AP cp AT ct AG cg (some ⟨g, 0, none⟩) c W.heap.size W (Nat.le_refl _) ((hz.below (hW.mono hB)).mono (Nat.le_trans hB hW.size)) ((hg.below (hW.mono hB)).mono (Nat.le_trans hB hW.size)) (zUt hz4 (hW.mono hB) (Nat.le_trans hB hW.size) ((zUs (zEa hm)).mono (zAa hm))) (by rw [zCj]; exact hl)).mono (fun e w' h => fit_p hck (zH1 hsv h0 h1) h)
    rw [zCj] at h5; exact h5)
 have hry := fun (W : World) (hW : Grows w W) => zKe l[i].t l[i].A l[i].c l[i].l B W (Nat.le_trans hB hW.size) ((hz4.r _ (List.getElem_mem hil)).below (hW.mono hB)) (hz4.s _ (List.getElem_mem hil))
 unfold RedPost at hry; have hse := fun (k : Nat) (hk : k < l.length) (W : World) (hW : Grows w W) => (zSg (cl := 0) (hz4.below (hW.mono hB)) hk).2
 have hsi := hse i hil; have hhh := zSk hil; have hal0 := fun (p : Pol) (hE : readyE l[i].t (rws l[i].l) = 0) (h1 : p.soak.toNat = i) (h2 : p.place.toNat < l[i].l.length) => zP0 hsv hil hE h1 h2
 have hb0 : 0 ≤ l[i].h ∧ l[i].h ≤ 300 := ⟨(zEv hsv hil).2.1, (zEv hsv hil).2.2.1⟩; have hup0 := fun (h : Int) (h0 : l[i].h ≤ h) (h1 : h ≤ 300) => zSe hsv hil h0 h1
 obtain ⟨V, hV⟩ : ∃ V, readyV l[i].t (rws l[i].l) = V := ⟨_, rfl⟩; obtain ⟨E, hE⟩ : ∃ E, readyE l[i].t (rws l[i].l) = E := ⟨_, rfl⟩; have hV3 : (V : Int) ≤ 300 := by rw [← hV]; have := zSj l[i].t (rws l[i].l); omega
 rw [hV, hE] at hry; simp only [hV, hE] at hal0; simp only [← zNz] at hry; obtain ⟨xi, hxi⟩ : ∃ xi, l[i] = xi := ⟨_, rfl⟩; obtain ⟨hh, hhe⟩ : ∃ hh, xi.h = hh := ⟨_, rfl⟩; rw [hxi, hhe] at hb0; simp only [hxi, hhe] at hhh hup0; simp only [hxi] at hsi hry; obtain ⟨H1, hH1⟩ : ∃ H1, min (hh + yy) 300 = H1 := ⟨_, rfl⟩; have hHb : 0 ≤ H1 ∧ H1 ≤ 300 := by omega
 have hup := hup0 H1 (by omega) hHb.2
 obtain ⟨iS, hiS, hzS, hsS, hbS⟩ := info_parts zSi; have HI := zz4 hiS hzS hsS hbS; have hpe := fun (j : Nat) (hj : j < ps.length) => zAw zDb hz1 (by decide) hj
 have hpo := fun (p : Pol) (hp : p ∈ ps) => zOn ((zJy hck).po p hp).2
 obtain ⟨w1, hw1⟩ : ∃ w1, (w.alloc (.cells #[.slice AP ps.length cp, .slice AT ts.length ct] 25)).alloc (.cells #[.slice AG gs.length cg, .int .i64 vary] 28) = w1 := ⟨_, rfl⟩; have hb1 : Grows w w1 := by rw [← hw1]; exact grow2 _ _ _
 have m1 : w1.heap[w.heap.size]? = some (.cells [Value.slice AP ps.length cp, .slice AT ts.length ct].toArray 25 (0, 0)) := by rw [← hw1]; exact zAp _ _ _
 have m2 : w1.heap[w.heap.size + 1]? = some (.cells [Value.slice AG gs.length cg, .int .i64 vary].toArray 28 (0, 0)) := by rw [← hw1]; exact zAo _ _ _
 have HK := zz2 hb1 (show keptK [(w.heap.size, .cells [Value.slice AP ps.length cp, .slice AT ts.length ct].toArray 25 (0, 0)), (w.heap.size + 1, .cells [Value.slice AG gs.length cg, .int .i64 vary].toArray 28 (0, 0))] w1 from ⟨m1, m2, trivial⟩)
 have HRD := zzh hrd; have HGB := zzh hgb; have HSO := zzh hso; have HFIT := zzh hfit; have HFT := zzh hft; have HRY := zzh hry; have HSE := zzh hse; have HSI := zzh hsi; have HHH := zzh hhh; have HUP := zzh hup; have HI0 := zzh hil; have HSK := zzh hz4; have HZG := zz2 hB hck; have HL6 := zzh hl6; have HNE := zzh (show l.flatMap skl ≠ [] by intro e; have := zCl zB2 l; rw [e] at this; simp at this; omega)
 have HH1 := zzh hHb; have HV3 := zzh hV3; have HPE := zzh hpe; have HPO := zzh hpo; have HAL0 := zzh hal0; have HNO := zzh (fun (p : Pol) => @zP2 l p hsv)
 have HTW := zzh (fun (p : Pol) => @zSl l p hsv)
 have HWR := zz3 (show IntKind.i64.wrap yy = yy from IntWalk.i64_in _ (by omega)) (show IntKind.i64.wrap (hh + yy) = hh + yy from IntWalk.i64_in _ (by omega)) hH1
 have hwx : IntKind.i64.wrap x = x := IntWalk.i64_in _ (by omega)
 have hl0 : ((l.length : Int) == 0) = false := beq_eq_false_iff_ne.2 (by omega)
 have hl1 : ¬ (l.length : Int) = 0 := by omega
 have hl2 : ¬ l.length = 0 := by omega
 have hilz : (i : Int) < l.length := by omega
 have HSV := zzh hsv; have hl16 : ps.length ≤ 16 := hl3.1; clear hsv hb1 m1 m2 hrd hgb hso hfit hft hry hse hsi hhh hup hup0 hz4 hz hg hz1 hz2 hz3 hB hck hl6 hHb hH1 hV3 hpe hpo hal0 hi hb0 hV hE hxi hhe hiS hzS hsS hbS hrv hgv hl3 hcSB hx hy hlp
 go_enter Tryz.func10, Tryz.ntmps10
 go_wp2_with fail
 go_at_call 20; refine (zC3 w1).mono ?_; rintro e w2 ⟨rfl, hB⟩; have HK := zz2 (HK.out.1.trans (hB.mono HK.out.1.size)) (keptK.next hB HK.out.2); clear hB hw1
 go_wp2_with (first
  | (refine zAh 25 (.tmp 5) rfl rfl rfl HK.out.2.1 [.slice AP ps.length cp, .slice AT ts.length ct] at0 zAs ?_)
  | (refine zAh 28 (.tmp 6) rfl rfl rfl HK.out.2.2.1 [.slice AG gs.length cg, .int .i64 vary] at0 zAm ?_))
 go_at_call 29; refine (HRD.out w2 HK.out.1).mono ?_; rintro e w3 ⟨rfl, hB⟩; have HK := zz2 (HK.out.1.trans (hB.mono HK.out.1.size)) (keptK.next hB HK.out.2); clear hB
 go_wp2_with fail
 go_at_call 12; refine (HGB.out w3 HK.out.1).mono ?_; rintro e w4 ⟨rfl, hB⟩; have HK := zz2 (HK.out.1.trans (hB.mono HK.out.1.size)) (keptK.next hB HK.out.2); clear hB
 go_wp2_with fail
 go_at_call 39; refine (HSO.out w4 HK.out.1).mono ?_; rintro e w5 ⟨rfl, hB⟩; have HK := zz2 (HK.out.1.trans (hB.mono HK.out.1.size)) (keptK.next hB HK.out.2); clear hB
 go_wp2_with (first
  | (refine zAh 25 (.tmp 5) rfl rfl rfl HK.out.2.1 [.slice AP ps.length cp, .slice AT ts.length ct] at0 zAs ?_)
  | (refine zAh 28 (.tmp 6) rfl rfl rfl HK.out.2.2.1 [.slice AG gs.length cg, .int .i64 vary] at0 zAm ?_))
 go_at_call 16; refine (HFIT.out w5 HK.out.1).mono ?_; rintro e w6 ⟨A1, c1, rfl, hO, hB⟩; have HK := zz2 (HK.out.1.trans (hB.mono HK.out.1.size)) (keptK.next hB HK.out.2); have HO1 := zzh hO; have HS6 := zzh hB.size; clear hB hO; have HS6w := zzh (zAa HK.out.2.2.1)
 go_wp2_with (first
  | (show wpList _ _ _ (Oper.mk (some 72) _ _ _ _ _ :: _) _ _; obtain ⟨w6a, hwa⟩ : ∃ W, w6.alloc (.cells #[] 65) = W := ⟨_, rfl⟩; have ga : Grows w6 w6a := by rw [← hwa]; exact grow1 _ _
     have ma : w6a.heap[w6.heap.size]? = some (.cells #[] 65 (0, 0)) := by rw [← hwa]; exact zAd _ _
     rw [hwa]; refine zEm (.tmp 70) (.tmp 71) 30 rfl rfl w6.heap.size 65 iS _ 7 72 Tryz.underlying30 HI.out.1 HI.out.2.1 HI.out.2.2.1 HI.out.2.2.2 rfl (by decide) rfl (zF1 (xs := []) ma (Nat.le_refl _) rfl rfl (by decide)) rfl ((HSK.out.v.below (HK.out.1.mono HZG.out.1)).below (ga.mono (Nat.le_trans HZG.out.1 HK.out.1.size))) (zCl zB2 l) (zMn l) (by have := HL6.out; simp only [maxLen]; omega) (by have := HL6.out; omega) ga.size ?_
     intro v72 w7 ho hgr; have ho' : w7.ownsRow w6.heap.size 65 7 v72 l.length (l.flatMap skl) := by simpa using ho
     obtain ⟨g1, cg1, yg1, rfl, hg, hm, hn, hc, hyl⟩ := zSd ho' HNE.out; have hb : Grows w6 w7 := (ga.grown hgr ga.size (fun q e => by have e2 : w6.heap.size = q := Option.some.inj e; omega))
     have HO1 := zzh (zBi HO1.out hb); have HG1 := zz4 hg hn hc hyl; have HM1 := zzh hm; have HLT := zzh (zAa hm); have HK := zz2 (HK.out.1.trans (hb.mono HK.out.1.size)) (keptK.next hb HK.out.2); clear ga ma hwa ho ho' hg hm hn hc hyl hgr hb)
  | (show wpList _ _ _ (Oper.mk (some 75) _ _ _ _ _ :: _) _ _; obtain ⟨w7a, hwa⟩ : ∃ W, w7.alloc (.cells #[] 65) = W := ⟨_, rfl⟩; have ga : Grows w7 w7a := by rw [← hwa]; exact grow1 _ _
     have ma : w7a.heap[w7.heap.size]? = some (.cells #[] 65 (0, 0)) := by rw [← hwa]; exact zAd _ _
     rw [hwa]; refine zEm (.tmp 73) (.tmp 74) 30 rfl rfl w7.heap.size 65 iS _ 7 72 Tryz.underlying30 HI.out.1 HI.out.2.1 HI.out.2.2.1 HI.out.2.2.2 rfl (by decide) rfl (zF1 (xs := []) ma (Nat.le_refl _) rfl rfl (by decide)) rfl ((HSK.out.v.below (HK.out.1.mono HZG.out.1)).below (ga.mono (Nat.le_trans HZG.out.1 HK.out.1.size))) (zCl zB2 l) (zMn l) (by have := HL6.out; simp only [maxLen]; omega) (by have := HL6.out; omega) ga.size ?_
     intro v75 w8 ho hgr; have ho' : w8.ownsRow w7.heap.size 65 7 v75 l.length (l.flatMap skl) := by simpa using ho
     obtain ⟨g2, cg2, yg2, rfl, hg, hm, hn, hc, hyl⟩ := zSd ho' HNE.out; have hb : Grows w7 w8 := (ga.grown hgr ga.size (fun q e => by have e2 : w7.heap.size = q := Option.some.inj e; omega))
     have HO1 := zzh (zBi HO1.out hb); have HM1 := zzh ((hb.block _ (zAa HM1.out)).trans HM1.out); have HG2 := zz4 hg hn hc hyl; have HM2 := zzh hm; have HK := zz2 (HK.out.1.trans (hb.mono HK.out.1.size)) (keptK.next hb HK.out.2); clear ga ma hwa ho ho' hg hm hn hc hyl hgr hb; have HLO1 := zzh (show w.heap.size + 1 < g1 by have := HS6w.out; have := HG1.out.1; omega)
     have HG12 := zzh (show g1 < g2 by have := HLT.out; have := HG2.out.1; omega)
     have HLO2 := zzh (show w.heap.size + 1 < g2 by have := HLO1.out; have := HG12.out; omega)
     have f82 : w8.cell? ⟨g1, i * 7 + 6, none⟩ = some (.int .i64 hh) := zOc HM1.out (HHH.out yg1); obtain ⟨e1, e2, e3⟩ := HWR.out)
  | (refine zBf 3 (.tmp 88) (.tmp 86) (v := .int .i64 H1) rfl rfl rfl rfl rfl rfl rfl HM1.out (by rw [List.length_append, zCl zB2]; have := HI0.out; omega) zG6 ?_
     intro w9 hP hM; have hM : w9.heap[g1]? = some (.cells ((turnSk l i H1).flatMap skl ++ yg1).toArray 65 (0, 0)) := by rw [zJe HI0.out] at hM; exact hM
     have HO1 := zzh (zEs HO1.out hP HM1.out (by decide))
     have HM2 := zzh ((hP.other _ (by have := HG12.out; omega)).trans HM2.out)
     have hb : Below w.heap.size _ _ := hP.below (by have := HS6w.out; have := HLO1.out; omega)
     have HK := zz2 (HK.out.1.trans hb) (keptK.put hP (by intro e he; simp only [List.mem_cons, List.not_mem_nil, or_false] at he; have := HLO1.out; have := HS6w.out; rcases he with rfl | rfl <;> simp <;> omega) HK.out.2)
     have HM1 := zzh hM; clear hP hM hb f82 e1 e2 e3)
  | (refine zAh 25 (.tmp 5) rfl rfl rfl HK.out.2.1 [.slice AP ps.length cp, .slice AT ts.length ct] at0 zAs ?_)
  | (refine zAh 28 (.tmp 6) rfl rfl rfl HK.out.2.2.1 [.slice AG gs.length cg, .int .i64 vary] at0 zAm ?_))
 go_at_call 16; refine (HFT.out H1 HH1.out.1 HH1.out.2 g1 cg1 yg1 w9 HK.out.1 HM1.out).mono ?_; rintro e w10 ⟨A2, c2, rfl, hO, hB⟩; have HO1 := zzh (zBi HO1.out hB); have HO2 := zzh hO; have HM2 := zzh ((hB.block _ (zAa HM2.out)).trans HM2.out); have HK := zz2 (HK.out.1.trans (hB.mono HK.out.1.size)) (keptK.next hB HK.out.2); clear hB hO; have f106 : w10.cell? ⟨w.heap.size, 0, none⟩ = some (.slice AP ps.length cp) := cell_of_row w10 _ 0 _ _ _ HK.out.2.1
 go_wp2_with (first
  | (refine zAf 63 (.tmp 122) rfl rfl rfl (skb xi) (fun j v hv => HSI.out w10 HK.out.1 j v (zM9 hv)) zBz ?_))
 go_at_call 40; refine (HRY.out w10 HK.out.1).mono ?_; rintro e w11 ⟨rfl, hB⟩; have HO1 := zzh (zBi HO1.out hB); have HO2 := zzh (zBi HO2.out hB); have HM2 := zzh ((hB.block _ (zAa HM2.out)).trans HM2.out); have HK := zz2 (HK.out.1.trans (hB.mono HK.out.1.size)) (keptK.next hB HK.out.2); clear hB f106
 go_wp2_with (first
  | (refine zBf 3 (.tmp 131) (.tmp 129) (v := .int .i64 (V : Int)) rfl rfl rfl rfl rfl rfl rfl HM2.out (by rw [List.length_append, zCl zB2]; have := HI0.out; omega) zG6 ?_
     intro w12 hP hM; have hM : w12.heap[g2]? = some (.cells ((turnSk l i (V : Int)).flatMap skl ++ yg2).toArray 65 (0, 0)) := by rw [zJe HI0.out] at hM; exact hM
     have HO1 := zzh (zEs HO1.out hP HM2.out (by decide))
     have HO2 := zzh (zEs HO2.out hP HM2.out (by decide))
     have hb : Below w.heap.size _ _ := hP.below (by have := HS6w.out; have := HLO2.out; omega)
     have HK := zz2 (HK.out.1.trans hb) (keptK.put hP (by intro e he; simp only [List.mem_cons, List.not_mem_nil, or_false] at he; have := HLO2.out; have := HS6w.out; rcases he with rfl | rfl <;> simp <;> omega) HK.out.2)
     have HM2 := zzh hM; clear hP hM hb)
  | (refine zAh 25 (.tmp 5) rfl rfl rfl HK.out.2.1 [.slice AP ps.length cp, .slice AT ts.length ct] at0 zAs ?_)
  | (refine zAh 28 (.tmp 6) rfl rfl rfl HK.out.2.2.1 [.slice AG gs.length cg, .int .i64 vary] at0 zAm ?_))
 go_at_call 16; refine (HFT.out (V : Int) (Int.natCast_nonneg V) HV3.out g2 cg2 yg2 w12 HK.out.1 HM2.out).mono ?_; rintro e w13 ⟨A3, c3, rfl, hO, hB⟩; have HO1 := zzh (zBi HO1.out hB); have HO2 := zzh (zBi HO2.out hB); have HO3 := zzh hO; have HK := zz2 (HK.out.1.trans (hB.mono HK.out.1.size)) (keptK.next hB HK.out.2); clear hB hO; have HFL := zzh (show (fitL l ps).length = ps.length ∧ (fitL (turnSk l i H1) ps).length = ps.length ∧ (fitL (turnSk l i (V : Int)) ps).length = ps.length by simp [fitL])
 go_upto_region 14 with fail
 refine R6.wp_walk0 (C := fun _ _ W => w13 = W) 291 (by kernel_rfl) (by kernel_rfl) rfl (rfl) ?_
 simp only []
 repeat (
  (first
    | (refine' R6.WalkR.det (fun _ => rfl) (fun D ρ W hK hC => ?_) ?_)
    | (refine' R6.WalkR.gF rfl rfl (fun _ => rfl) (fun D ρ W hK hC => hC) (fun hx D ρ W hK hC => ?_) ?_)
    | (refine' R6.WalkR.gT rfl rfl (fun _ => rfl) (fun D ρ W hK hC => hC) (fun hx D ρ W hK hC => ?_) ?_)
    | (refine' R6.WalkR.cF rfl rfl (fun _ => rfl) (fun D ρ W hK hC => hC) (fun ha hx D ρ W hK hC => ?_) ?_)
    | (refine' R6.WalkR.cT rfl rfl (fun _ => rfl) (fun D ρ W hK hC => hC) (fun ha hx D ρ W hK hC => ?_) ?_))
  rotate_left
  · have f14 : W.cell? ⟨w.heap.size, 0, none⟩ = some (.slice AP ps.length cp) := by rw [← hC]; exact cell_of_row w13 _ 0 _ _ _ HK.out.2.1
    have HC := zzh hC; clear hC hK; go_simp
    first
     | with_reducible exact ⟨zGo _ _, HC.out⟩
     | with_reducible exact ⟨zEe _ _, HC.out⟩
     | with_reducible exact ⟨pick_and2 _ _, HC.out⟩
     | with_reducible exact ⟨zEf _ _, HC.out⟩
     | with_reducible exact ⟨pick_andN _ _, HC.out⟩
     | with_reducible exact ⟨pick_orD _ _, HC.out⟩
     | with_reducible exact ⟨zDk _ _, HC.out⟩
     | with_reducible exact ⟨pick_andD2 _ _, HC.out⟩
     | with_reducible exact ⟨rfl, HC.out⟩
  simp only [Act.put, zza, zzb, zzc])
 refine R6.WalkR.nil (fun D ρ W hD hC => ?_)
 subst hC; clear hD; simp only [zQe, zGm, zGn, zIc]; have f14 : w13.cell? ⟨w.heap.size, 0, none⟩ = some (.slice AP ps.length cp) := cell_of_row w13 _ 0 _ _ _ HK.out.2.1; have HAL := zzh HAL0.out
 go_wp2_with fail
 go_loopg [156] ps.length (fun gn s156 wx => ∃ j : Nat, j + gn = ps.length ∧ s156 = .int .i64 j ∧ Hid (Grows w13 wx))
 case atStart => exact ⟨0, by omega, rfl, Below.refl _ _⟩
 case round => as_aux_lemma =>
  obtain ⟨j, hjg, rfl, hF⟩ := hrel; cases gk with
  | zero =>
    obtain rfl : j = ps.length := by omega
    have HW := zzh hF.out; clear hF; go_wp2; go_ret
    exact ⟨rfl, HK.out.1.trans (HW.out.mono HK.out.1.size)⟩
  | succ gn =>
    have hj : j < ps.length := by omega
    have hjz : (j : Int) < ps.length := by omega
    obtain ⟨cP, oP, hA, hcB, hc⟩ := HPE.out j hj; subst hA; have hc' : ∀ m v, (pcl ps[j])[m]? = some v → wr.cell? ⟨cP, oP + j * 12 + m, none⟩ = some v := fun m v hv => ((HK.out.1.trans (hF.out.mono HK.out.1.size)).cell (p := ⟨cP, oP + j * 12 + m, none⟩) (by have := HZG.out.1; simp; omega)).trans (hc m v hv)
    obtain ⟨a1, o1, hA1, ha1, hx1⟩ := (Vals.own HO1.out) (by rw [zC1, HFL.out.1]; omega)
    obtain ⟨a2, o2, hA2, ha2, hx2⟩ := (Vals.own HO2.out) (by rw [zC1, HFL.out.2.1]; omega)
    obtain ⟨a3, o3, hA3, ha3, hx3⟩ := (Vals.own HO3.out) (by rw [zC1, HFL.out.2.2]; omega)
    subst hA1 hA2 hA3; have hx1 := hx1 j _ (zSm l hj); have hx2 := hx2 j _ (zSm (turnSk l i H1) hj); have hx3 := hx3 j _ (zSm (turnSk l i (V : Int)) hj); obtain ⟨⟨s0, s1⟩, p0, p1⟩ := HPO.out _ (List.getElem_mem hj); have h12 := HUP.out ps[j]; have hno := HNO.out ps[j]; have htw := HTW.out ps[j]; have hal := HAL.out ps[j]; obtain ⟨k, hk⟩ := Int.eq_ofNat_of_zero_le s0; obtain ⟨q, hq⟩ := Int.eq_ofNat_of_zero_le p0; generalize ps[j] = y at hc' hk hq hx1 hx2 hx3 h12 hno htw hal; have hno := hno k q hk hq; have htw := htw k q hk hq
    try simp only [hk, hq, Int.toNat_natCast] at hal
    generalize fitP l y = x1 at hx1 h12 hno htw; generalize fitP (turnSk l i H1) y = x2 at hx2 h12; generalize fitP (turnSk l i (V : Int)) y = x3 at hx3 hal; have hxc := fun (W : World) (hW : Grows w13 W) => And.intro ((hW.cell (p := ⟨a1, o1 + j, none⟩) ha1).trans hx1) (And.intro ((hW.cell (p := ⟨a2, o2 + j, none⟩) ha2).trans hx2) ((hW.cell (p := ⟨a3, o3 + j, none⟩) ha3).trans hx3))
    have hlt : decide (x2 < x1) = false := decide_eq_false (by omega)
    obtain ⟨wo, rfl⟩ : ∃ wo : World, wo = wr := ⟨_, rfl⟩; have HW := zzh hF.out; have HCC := zzh hc'; have HKQ := zz2 hk hq; have HXC := zzh hxc; have HLT2 := zzh hlt; have HNO1 := zzh hno; have HTW1 := zzh htw; have HAL1 := zzh hal; clear hF hc hc' hx1 hx2 hx3 ha1 ha2 ha3 hxc h12 hcB s0 s1 p0 p1 hlt hk hq hno htw hal
    go_wp2_with (first
     | (refine zAf 56 (.tmp 159) rfl rfl rfl (pcl y) HCC.out zAl ?_)
     | (show wpList _ _ _ (Oper.mk none (Op.store _ (Operand.tmp 24) (Operand.tmp 160)) _ _ _ _ :: _) _ _; have hm : (wo.alloc (.cells #[.int .i64 0, .int .i64 0, .int .i64 0, .int .i64 0, .int .i64 0, .int .i64 0, .int .i64 0, .int .i64 0, .int .i64 0, .int .i64 0, .int .i64 0, .int .i64 0] 56)).heap[wo.heap.size]? = some (.cells (pcl pol0).toArray 56 (0, 0)) := zAd _ _; refine zAb 56 (.tmp 24) (.tmp 160) (cs := pcl y) rfl rfl rfl rfl rfl hm (Nat.le_of_ble_eq_true rfl) (fun v hv => zBd [y] v (by simpa using hv)) zAl ?_
        intro w18 hP hM; rw [zAe (by rfl)] at hM
        have hb : Grows wo w18 := (grow1 wo _).trans (hP.below (Nat.le_refl _)); have H18 := zz2 (HW.out.trans (hb.mono HW.out.size)) hM; clear hP hM hm hb))
    refine R6.wp_walk (C := fun _ _ W => Grows w18 W) 291 (by kernel_rfl) (by kernel_rfl) rfl (Below.refl _ _).drew ?_
    simp only []
    repeat (first
     | (refine' R6.WalkR.det (fun _ => rfl) (fun D ρ W hK hC => ?_) ?_
        rotate_left
        · have hX := HXC.out W (H18.out.1.trans (hC.mono H18.out.1.size)); obtain ⟨f1, f2, -⟩ := hX; have hlt := HLT2.out; have HC := zzh hC; clear hC hK; go_simp; with_reducible exact ⟨rfl, HC.out⟩
        simp only [Act.put, zza, zzb, zzc]))
    refine R6.WalkR.nil (fun D ρ w19 hD hC => ?_)
    clear hD; have H19 := zz2 (H18.out.1.trans (hC.mono H18.out.1.size)) ((hC.block _ (zAa H18.out.2)).trans H18.out.2); clear hC
    by_cases hkl : k < l.length
    rotate_left
    · as_aux_lemma =>
      have hlz : (l.length : Int) ≤ k := by omega
      have hlzd : decide (l.length ≤ k) = true := decide_eq_true (by omega)
      have HKL := zzh hkl; clear hkl
      go_wp2_with fail
      refine R6.wp_walk (C := fun _ _ W => Grows w19 W) 291 (by kernel_rfl) (by kernel_rfl) rfl (Below.refl _ _).drew ?_
      simp only []
      repeat (first
       | (refine' R6.WalkR.det (fun _ => rfl) (fun D ρ W hK hC => ?_) ?_
          rotate_left
          · have fs : W.cell? ⟨wo.heap.size, 10, none⟩ = some (.int .i64 (k : Int)) := by rw [← HKQ.out.1]; exact cell_of_row W _ 10 _ _ _ ((hC.block _ (zAa H19.out.2)).trans H19.out.2)
            have fq : W.cell? ⟨wo.heap.size, 11, none⟩ = some (.int .i64 (q : Int)) := by rw [← HKQ.out.2]; exact cell_of_row W _ 11 _ _ _ ((hC.block _ (zAa H19.out.2)).trans H19.out.2)
            skip
            have HC := zzh hC; clear hC hK; go_simp; with_reducible exact ⟨rfl, HC.out⟩
          simp only [Act.put, zza, zzb, zzc])
       | (refine R6.WalkR.un (fun _ => rfl) (fun D ρ W hK hC => hC) ?_
          simp only [Act.put, zza, zzb, zzc]))
      refine R6.WalkR.nil (fun D ρ w21 hD hC => ?_)
      clear hD; have H21 := zz2 (H19.out.1.trans (hC.mono H19.out.1.size)) ((hC.block _ (zAa H19.out.2)).trans H19.out.2); clear hC; have h0 : x1 = 0 := HNO1.out (fun h => absurd h HKL.out)
      subst h0; obtain ⟨f1, -, -⟩ := HXC.out w21 H21.out.1
      go_wp2_with fail
      go_roundg gn
      case measure => omega
      case rel => exact ⟨j + 1, by omega, by go_num, H21.out.1⟩
    have hlz : ¬ (l.length : Int) ≤ k := by omega
    have hlzd : decide (l.length ≤ k) = false := decide_eq_false (by omega)
    have hkz : (k : Int) < l.length := by omega
    have hsk := HSE.out k hkl
    by_cases hql : q < l[k].l.length
    rotate_left
    · as_aux_lemma =>
      have h0 : x1 = 0 := HNO1.out (fun h => hql)
      generalize l[k] = xk at hsk hql; have hqz : (xk.l.length : Int) ≤ q := by omega
      have hqzd : decide (xk.l.length ≤ q) = true := decide_eq_true (by omega)
      have HSK2 := zzh hsk; clear hsk hql; subst h0
      go_wp2_with fail
      refine R6.wp_walk (C := fun _ _ W => Grows w19 W) 291 (by kernel_rfl) (by kernel_rfl) rfl (Below.refl _ _).drew ?_
      simp only []
      repeat (first
       | (refine' R6.WalkR.det (fun _ => rfl) (fun D ρ W hK hC => ?_) ?_
          rotate_left
          · have fs : W.cell? ⟨wo.heap.size, 10, none⟩ = some (.int .i64 (k : Int)) := by rw [← HKQ.out.1]; exact cell_of_row W _ 10 _ _ _ ((hC.block _ (zAa H19.out.2)).trans H19.out.2)
            have fq : W.cell? ⟨wo.heap.size, 11, none⟩ = some (.int .i64 (q : Int)) := by rw [← HKQ.out.2]; exact cell_of_row W _ 11 _ _ _ ((hC.block _ (zAa H19.out.2)).trans H19.out.2)
            have fe : W.cell? ⟨cS, oS + k * 7 + 2, none⟩ = some (.slice xk.A xk.l.length xk.c) := HSK2.out W ((HK.out.1.trans (H19.out.1.mono HK.out.1.size)).trans (hC.mono (Nat.le_trans HK.out.1.size H19.out.1.size))) 2 _ rfl; have HC := zzh hC; clear hC hK; go_simp; with_reducible exact ⟨rfl, HC.out⟩
          simp only [Act.put, zza, zzb, zzc]))
      refine R6.WalkR.nil (fun D ρ w21 hD hC => ?_)
      clear hD; have H21 := zz2 (H19.out.1.trans (hC.mono H19.out.1.size)) ((hC.block _ (zAa H19.out.2)).trans H19.out.2); clear hC; obtain ⟨f1, -, -⟩ := HXC.out w21 H21.out.1
      go_wp2_with fail
      go_roundg gn
      case measure => omega
      case rel => exact ⟨j + 1, by omega, by go_num, H21.out.1⟩
    have htr := fun h2 => HTW1.out h2 hkl
    have hok := zEv HSV.out hkl; have hrun := fun (sp : Int) (hs : l[k].t.lo ≤ sp ∧ sp ≤ l[k].t.hi) (r : Nat) (hr : r ≤ 300) (W : World) (hW : Grows w W) => (run_any l[k].t l[k].A l[k].c l[k].l sp r B W (Nat.le_trans HZG.out.1 hW.size) ((HSK.out.r _ (List.getElem_mem hkl)).below (hW.mono HZG.out.1)) (HSK.out.s _ (List.getElem_mem hkl))).mono (fun e w' h => run_q hok.1 hs hr hql h)
    simp only [← zNz] at hrun; have hq2 : k = i → q < l[i].l.length := fun e => by subst e; exact hql
    have HX43 := zzh (bad43 (fun e1 e2 => HAL1.out e1 e2 (hq2 e2)))
    clear hq2; generalize l[k] = xk at hsk hql hrun htr hok; have hqz : ¬ (xk.l.length : Int) ≤ q := by omega
    have hqzd : decide (xk.l.length ≤ q) = false := decide_eq_false (by omega)
    obtain ⟨hn, hhn⟩ := Int.eq_ofNat_of_zero_le hok.2.1; have HHN := zzh (show xk.h = hn ∧ hn ≤ 300 by have := hok.2.2.1; omega)
    have HSK2 := zzh hsk; have HRUN := zzh hrun; clear hsk hrun hql hhn
    go_wp2_with fail
    refine R6.wp_walk (C := fun _ _ W => Grows w19 W) 291 (by kernel_rfl) (by kernel_rfl) rfl (Below.refl _ _).drew ?_
    simp only []
    repeat (first
     | (refine' R6.WalkR.det (fun _ => rfl) (fun D ρ W hK hC => ?_) ?_
        rotate_left
        · have fs : W.cell? ⟨wo.heap.size, 10, none⟩ = some (.int .i64 (k : Int)) := by rw [← HKQ.out.1]; exact cell_of_row W _ 10 _ _ _ ((hC.block _ (zAa H19.out.2)).trans H19.out.2)
          have fq : W.cell? ⟨wo.heap.size, 11, none⟩ = some (.int .i64 (q : Int)) := by rw [← HKQ.out.2]; exact cell_of_row W _ 11 _ _ _ ((hC.block _ (zAa H19.out.2)).trans H19.out.2)
          have fe : W.cell? ⟨cS, oS + k * 7 + 2, none⟩ = some (.slice xk.A xk.l.length xk.c) := HSK2.out W ((HK.out.1.trans (H19.out.1.mono HK.out.1.size)).trans (hC.mono (Nat.le_trans HK.out.1.size H19.out.1.size))) 2 _ rfl; have HC := zzh hC; clear hC hK; go_simp; with_reducible exact ⟨rfl, HC.out⟩
        simp only [Act.put, zza, zzb, zzc]))
    refine R6.WalkR.nil (fun D ρ w21 hD hC => ?_)
    clear hD; have H21 := zz2 (H19.out.1.trans (hC.mono H19.out.1.size)) ((hC.block _ (zAa H19.out.2)).trans H19.out.2); clear hC; have fs : w21.cell? ⟨wo.heap.size, 10, none⟩ = some (.int .i64 (k : Int)) := by rw [← HKQ.out.1]; exact cell_of_row w21 _ 10 _ _ _ H21.out.2
    by_cases hx2 : x1 = 2
    · as_aux_lemma =>
      have hsp := zSo hok.1 (htr hx2); rw [HHN.out.1, Int.toNat_natCast] at hsp; have HSP := zzh hsp; clear hsp htr hok; subst hx2
      go_wp2_with (first
       | (refine zAf 63 (.tmp 197) rfl rfl rfl (skb xk) (fun j v hv => HSK2.out w21 (HK.out.1.trans (H21.out.1.mono HK.out.1.size)) j v (zM9 hv)) zBz ?_)
       | (show wpList _ _ _ (Oper.mk none (Op.store _ (Operand.tmp 25) (Operand.tmp 198)) _ _ _ _ :: _) _ _; have hm : (w21.alloc (.cells #[.int .i64 0, .int .i64 0, .slice none 0 0, .int .i64 0, .int .i64 0, .int .i64 0] 63)).heap[w21.heap.size]? = some (.cells [Value.int .i64 0, .int .i64 0, .slice none 0 0, .int .i64 0, .int .i64 0, .int .i64 0].toArray 63 (0, 0)) := zAd _ _; refine zAb 63 (.tmp 25) (.tmp 198) (cs := skb xk) rfl rfl rfl rfl rfl hm (Nat.le_of_ble_eq_true rfl) (zSn xk) zBz ?_; intro w24 hP hM; rw [zAe (by rfl)] at hM
          have hb : Grows w21 w24 := (grow1 w21 _).trans (hP.below (Nat.le_refl _)); have H24 := zz3 (H21.out.1.trans (hb.mono H21.out.1.size)) ((hb.block _ (zAa H21.out.2)).trans H21.out.2) hM; obtain ⟨f1, -, -⟩ := HXC.out w24 H24.out.1; have fl : w24.cell? ⟨w21.heap.size, 3, none⟩ = some (.int .i64 xk.t.lo) := cell_of_row w24 _ 3 _ _ _ hM; have fh : w24.cell? ⟨w21.heap.size, 4, none⟩ = some (.int .i64 xk.t.hi) := cell_of_row w24 _ 4 _ _ _ hM; clear hP hM hm hb fs))
      obtain ⟨w26, hw26⟩ : ∃ W, w24.alloc (.cells #[.int .i64 xk.t.lo, .int .i64 xk.t.hi] 3) = W := ⟨_, rfl⟩; have hb26 : Grows w24 w26 := by rw [← hw26]; exact grow1 _ _
      have m26 : w26.heap[w24.heap.size]? = some (.cells [Value.int .i64 xk.t.lo, .int .i64 xk.t.hi].toArray 3 (0, 0)) := by rw [← hw26]; exact zAd _ _
      rw [hw26]; have H26 := zz4 (H24.out.1.trans (hb26.mono H24.out.1.size)) ((hb26.block _ (zAa H24.out.2.1)).trans H24.out.2.1) ((hb26.block _ (zAa H24.out.2.2)).trans H24.out.2.2) m26; clear hb26 m26 hw26 fl fh f1
      go_loopg [212] 2 (fun gn s212 wx => ∃ m : Nat, m + gn = 2 ∧ s212 = .int .i64 m ∧ Hid (Grows w26 wx))
      case atStart => exact ⟨0, by omega, rfl, Below.refl _ _⟩
      case round => as_aux_lemma =>
       obtain ⟨m, hmg, rfl, hM⟩ := hrel; cases gk with
       | zero =>
         obtain rfl : m = 2 := by omega
         have hbm := H26.out.1.trans (hM.out.mono H26.out.1.size); have HBM := zzh hbm; have hpm := (hM.out.block _ (zAa H26.out.2.1)).trans H26.out.2.1; clear hbm hM
         go_upto_region 43 with fail
         refine R6.wp_walk0 (C := fun _ _ W => wr = W) 291 (by kernel_rfl) (by kernel_rfl) rfl (rfl) ?_
         simp only []
         repeat (
          (first
            | (refine' R6.WalkR.det (fun _ => rfl) (fun D ρ W hK hC => ?_) ?_)
            | (refine' R6.WalkR.gF rfl rfl (fun _ => rfl) (fun D ρ W hK hC => hC) (fun hx D ρ W hK hC => ?_) ?_)
            | (refine' R6.WalkR.gT rfl rfl (fun _ => rfl) (fun D ρ W hK hC => hC) (fun hx D ρ W hK hC => ?_) ?_)
            | (refine' R6.WalkR.cF rfl rfl (fun _ => rfl) (fun D ρ W hK hC => hC) (fun ha hx D ρ W hK hC => ?_) ?_)
            | (refine' R6.WalkR.cT rfl rfl (fun _ => rfl) (fun D ρ W hK hC => hC) (fun ha hx D ρ W hK hC => ?_) ?_))
          rotate_left
          · have fs : W.cell? ⟨wo.heap.size, 10, none⟩ = some (.int .i64 (k : Int)) := by rw [← hC, ← HKQ.out.1]; exact cell_of_row wr _ 10 _ _ _ hpm
            obtain ⟨-, -, f3⟩ := HXC.out W (by rw [← hC]; exact HBM.out)
            have HC := zzh hC; clear hC hK; go_simp
            first
             | with_reducible exact ⟨zGo _ _, HC.out⟩
             | with_reducible exact ⟨zEe _ _, HC.out⟩
             | with_reducible exact ⟨pick_and2 _ _, HC.out⟩
             | with_reducible exact ⟨zEf _ _, HC.out⟩
             | with_reducible exact ⟨pick_andN _ _, HC.out⟩
             | with_reducible exact ⟨pick_orD _ _, HC.out⟩
             | with_reducible exact ⟨zDk _ _, HC.out⟩
             | with_reducible exact ⟨pick_andD2 _ _, HC.out⟩
             | with_reducible exact ⟨rfl, HC.out⟩
          simp only [Act.put, zza, zzb, zzc])
         refine R6.WalkR.nil (fun D ρ W hD hC => ?_)
         subst hC; clear hD; have h43 := HX43.out; generalize andB (andB (decide ((k : Int) = (i : Int))) (E == 0)) (x3 != 2) = bad at h43 ⊢; subst h43; go_wp2
         go_roundg gn
         case measure => omega
         case rel => exact ⟨j + 1, by omega, by go_num, HBM.out⟩
       | succ gm =>
         have hm2 : m < 2 := by omega
         obtain ⟨sp, hsp, hs, hhit⟩ := HSP.out m hm2; obtain ⟨wm, rfl⟩ : ∃ wm : World, wm = wr := ⟨_, rfl⟩; have HM := zzh hM.out; have HHIT := zzh hhit; have hbm := H26.out.1.trans (hM.out.mono H26.out.1.size); have hmz : (m : Int) < 2 := by omega
         have f214 : wm.cell? ⟨w24.heap.size, m, none⟩ = some (.int .i64 sp) := zOc ((hM.out.block _ (zAa H26.out.2.2.2)).trans H26.out.2.2.2) hsp; have fs : wm.cell? ⟨wo.heap.size, 10, none⟩ = some (.int .i64 (k : Int)) := by rw [← HKQ.out.1]; exact cell_of_row wm _ 10 _ _ _ ((hM.out.block _ (zAa H26.out.2.1)).trans H26.out.2.1)
         have fh : wm.cell? ⟨cS, oS + k * 7 + 6, none⟩ = some (.int .i64 (hn : Int)) := by rw [← HHN.out.1]; exact HSK2.out wm (HK.out.1.trans (hbm.mono HK.out.1.size)) 6 _ rfl
         have hhn3 : hn ≤ 300 := HHN.out.2; clear hM hsp hhit hbm
         go_wp2_with fail
         clear f214 fs fh
         go_loopg [223, 28] (hn + 1) (fun gn s223 s28 wx => ∃ r : Nat, r + gn = hn + 1 ∧ s223 = .int .i64 r ∧ s28 = .bool false ∧ Hid (Grows w26 wx ∧ ∀ j, j < r → decide (xk.t.need ≤ coreOf (runS xk.t.water sp (xk.t.borax, rws xk.l) j) q) = false))
         case atStart => exact ⟨0, by omega, rfl, rfl, ⟨HM.out, fun j hj => absurd hj (by omega)⟩⟩
         case round => as_aux_lemma =>
          obtain ⟨r, hrg, rfl, rfl, hR⟩ := hrel; cases gk with
          | zero =>
            exfalso
            obtain ⟨r0, h0, h1⟩ := HHIT.out; have h2 := hR.out.2 r0 (by omega)
            rw [h1] at h2; cases h2
          | succ gr =>
            have HR := zzh hR.out; have hbW : Grows w wr := HK.out.1.trans ((H26.out.1.trans (hR.out.1.mono H26.out.1.size)).mono HK.out.1.size); have HBW := zzh hbW; have hr3 : r ≤ 300 := by have := HHN.out; omega
            have hrun := HRUN.out sp hs r hr3 wr hbW; have hpb := (hR.out.1.block _ (zAa H26.out.2.1)).trans H26.out.2.1; have hbb := (hR.out.1.block _ (zAa H26.out.2.2.1)).trans H26.out.2.2.1; have hnx := hR.out.2; generalize hv : coreOf (runS xk.t.water sp (xk.t.borax, rws xk.l) r) q = v at hrun; have HRUN1 := zzh hrun; have HPB := zz2 hpb hbb; have HV := zzh hv; have HR3 := zzh hr3; clear hrun hpb hbb hnx hbW hR hv hr3
            go_wp2_with (first
             | (refine zAh 63 (.tmp 25) rfl rfl rfl HPB.out.2 (skb xk) at0 zBz ?_))
            go_at_call 41; refine (HRUN1.out).mono ?_; rintro e w33 ⟨b33, c33, g33, o33, N, c34, g34, o34, n2, rfl, hB, hc1, hc2, hN, hN1, hg, hg2⟩; have hb33 := HR.out.1.trans (hB.mono HR.out.1.size); have hp33 := (hB.block _ (zAa HPB.out.1)).trans HPB.out.1; have hq33 := (hB.block _ (zAa HPB.out.2)).trans HPB.out.2; have fq : w33.cell? ⟨wo.heap.size, 11, none⟩ = some (.int .i64 (q : Int)) := by rw [← HKQ.out.2]; exact cell_of_row w33 _ 11 _ _ _ hp33
            have e1 : ((N : Int) == 0) = false := beq_eq_false_iff_ne.2 (by omega)
            have e2 : (N : Int) - 1 = (n2 : Int) := by omega
            have e3 : IntKind.i64.wrap ((N : Int) - 1) = (n2 : Int) := by rw [IntWalk.i64_in _ (by omega)]; exact e2
            have e4 : (N == 0) = false := beq_eq_false_iff_ne.2 (by omega)
            have H33 := zz3 hb33 hp33 hq33; have HC2 := zz2 hg2 hc2; have e5 : (n2 : Int) < (N : Int) := by omega
            have e6 : IntKind.i64.wrap (n2 : Int) = (n2 : Int) := IntWalk.i64_in _ (by omega)
            have HEE := zz4 e2 e3 e5 e6; clear hB hb33 hp33 hq33 hN hN1 hg hg2 hc2 e2 e3 e5 e6
            go_wp2_with fail
            clear fq hc1 e1 e4; refine R6.wp_walk (C := fun _ _ W => Grows w33 W) 291 (by kernel_rfl) (by kernel_rfl) rfl (Below.refl _ _).drew ?_
            simp only []
            repeat (first
             | (refine' R6.WalkR.det (fun _ => rfl) (fun D ρ W hK hC => ?_) ?_
                rotate_left
                · have fv : W.cell? ⟨g34, o34 + n2, none⟩ = some (.int .i64 v) := (hC.cell (p := ⟨g34, o34 + n2, none⟩) HC2.out.1).trans HC2.out.2; have fn : W.cell? ⟨w21.heap.size, 5, none⟩ = some (.int .i64 xk.t.need) := cell_of_row W _ 5 _ _ _ ((hC.block _ (zAa H33.out.2.2)).trans H33.out.2.2); obtain ⟨e2, e3, e5, e6⟩ := HEE.out; have e7 : (0 : Int) ≤ (n2 : Int) := Int.natCast_nonneg n2; have HC := zzh hC; clear hC hK; go_simp; with_reducible exact ⟨rfl, HC.out⟩
                simp only [Act.put, zza, zzb, zzc]))
            refine R6.WalkR.nil (fun D ρ w37 hD hC => ?_)
            clear hD; have H37 := zzh (H33.out.1.trans (hC.mono H33.out.1.size)); clear hC; cases hd : decide (xk.t.need ≤ v)
            · go_wp2_with fail
              go_roundg gr
              case measure => omega
              case rel => exact ⟨r + 1, by omega, by go_num, rfl, ⟨H37.out, fun j' hj' => by
               by_cases e : j' = r
               · subst e; rw [HV.out]; exact hd
               · exact HR.out.2 j' (by omega)⟩⟩
            · go_wp2_with fail
              go_roundg gm
              case measure => omega
              case rel => exact ⟨m + 1, by omega, by go_num, H37.out⟩
    · as_aux_lemma =>
      have hx3 : (x1 == 2) = false := by simpa using hx2
      clear hx2 htr hok
      go_upto_region 43 with (first
       | (refine zAf 63 (.tmp 197) rfl rfl rfl (skb xk) (fun j v hv => HSK2.out w21 (HK.out.1.trans (H21.out.1.mono HK.out.1.size)) j v (zM9 hv)) zBz ?_)
       | (show wpList _ _ _ (Oper.mk none (Op.store _ (Operand.tmp 25) (Operand.tmp 198)) _ _ _ _ :: _) _ _; have hm : (w21.alloc (.cells #[.int .i64 0, .int .i64 0, .slice none 0 0, .int .i64 0, .int .i64 0, .int .i64 0] 63)).heap[w21.heap.size]? = some (.cells [Value.int .i64 0, .int .i64 0, .slice none 0 0, .int .i64 0, .int .i64 0, .int .i64 0].toArray 63 (0, 0)) := zAd _ _; refine zAb 63 (.tmp 25) (.tmp 198) (cs := skb xk) rfl rfl rfl rfl rfl hm (Nat.le_of_ble_eq_true rfl) (zSn xk) zBz ?_; intro w24 hP hM; rw [zAe (by rfl)] at hM
          have hb : Grows w21 w24 := (grow1 w21 _).trans (hP.below (Nat.le_refl _)); have H24 := zz3 (H21.out.1.trans (hb.mono H21.out.1.size)) ((hb.block _ (zAa H21.out.2)).trans H21.out.2) hM; obtain ⟨f1, -, -⟩ := HXC.out w24 H24.out.1; clear hP hM hm hb fs))
      refine R6.wp_walk0 (C := fun _ _ W => w24 = W) 291 (by kernel_rfl) (by kernel_rfl) rfl (rfl) ?_
      simp only []
      repeat (
       (first
         | (refine' R6.WalkR.det (fun _ => rfl) (fun D ρ W hK hC => ?_) ?_)
         | (refine' R6.WalkR.gF rfl rfl (fun _ => rfl) (fun D ρ W hK hC => hC) (fun hx D ρ W hK hC => ?_) ?_)
         | (refine' R6.WalkR.gT rfl rfl (fun _ => rfl) (fun D ρ W hK hC => hC) (fun hx D ρ W hK hC => ?_) ?_)
         | (refine' R6.WalkR.cF rfl rfl (fun _ => rfl) (fun D ρ W hK hC => hC) (fun ha hx D ρ W hK hC => ?_) ?_)
         | (refine' R6.WalkR.cT rfl rfl (fun _ => rfl) (fun D ρ W hK hC => hC) (fun ha hx D ρ W hK hC => ?_) ?_))
       rotate_left
       · have fs : W.cell? ⟨wo.heap.size, 10, none⟩ = some (.int .i64 (k : Int)) := by rw [← hC, ← HKQ.out.1]; exact cell_of_row w24 _ 10 _ _ _ H24.out.2.1
         obtain ⟨-, -, f3⟩ := HXC.out W (by rw [← hC]; exact H24.out.1)
         have HC := zzh hC; clear hC hK; go_simp
         first
          | with_reducible exact ⟨zGo _ _, HC.out⟩
          | with_reducible exact ⟨zEe _ _, HC.out⟩
          | with_reducible exact ⟨pick_and2 _ _, HC.out⟩
          | with_reducible exact ⟨zEf _ _, HC.out⟩
          | with_reducible exact ⟨pick_andN _ _, HC.out⟩
          | with_reducible exact ⟨pick_orD _ _, HC.out⟩
          | with_reducible exact ⟨zDk _ _, HC.out⟩
          | with_reducible exact ⟨pick_andD2 _ _, HC.out⟩
          | with_reducible exact ⟨rfl, HC.out⟩
       simp only [Act.put, zza, zzb, zzc])
      refine R6.WalkR.nil (fun D ρ W hD hC => ?_)
      subst hC; clear hD; have h43 := HX43.out; generalize andB (andB (decide ((k : Int) = (i : Int))) (E == 0)) (x3 != 2) = bad at h43 ⊢; subst h43; go_wp2
      go_roundg gn
      case measure => omega
      case rel => exact ⟨j + 1, by omega, by go_num, H24.out.1⟩
end Go.Proofs.YtnjgibbfcigbfaaGreat
