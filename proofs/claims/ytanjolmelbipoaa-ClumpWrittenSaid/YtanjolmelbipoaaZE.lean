/-
  The Look of the reference.
-/
import Derived.Test.YtanjolmelbipoaaZD
namespace Go.Proofs.Ytanjolmelbipoaa
open Go.RowKit

attribute [local go_sem] gives

set_option maxRecDepth 100000 in
set_option maxHeartbeats 8000000 in
theorem refLook_ok (g : Gr) (A1 : Option Addr) (c1 : Nat) (A2 : Option Addr) (c2 : Nat) (P1 : Option Addr) (k1 : Nat) (ps : List (Int × Int)) (P2 : Option Addr) (k2 : Nat) (zs : List Int) (B : Nat) (w : World) (hB : B ≤ w.heap.size) (hG : GrAt w B g A1 c1 A2 c2)
    (hV1 : Vals w B P1 (pairs ps)) (hV2 : Ints w B P2 zs) (hok : okGrove g = true) (hr : rainsOk ps = true) (hp : planOk zs ps.length = true) {d r : Nat} (R : Runs g d r) :
    Calls Try.prog 24 #[grv g A1 c1 A2 c2, .slice P1 ps.length k1, .slice P2 zs.length k2] w (LookPost w (aheadL g.hab r g.hab.bears.toNat (lastL g) (lastL g) (ps.zip zs)) 0) := by
  have hlen := rainsOk_len hr
  have hzl := planOk_len hp
  have hab := habOk_of hok R
  have hl7 : (lastL g).length ≤ 7 := by have := lastL_len R; have := R.pre.d6; omega
  have HG := Lib.hid hG
  have HV := Lib.hid (And.intro hV1 hV2)
  have HR := Lib.hid (And.intro hok (And.intro hr hp))
  have HRu := Lib.hid (And.intro R hab)
  have HZ := Lib.hid hzl
  have hb0 : Below w.heap.size w (w.alloc (.cells (gcs g A1 c1 A2 c2) 29)) := (Below.refl _ _).alloc (Nat.le_refl _) _
  have HB0 := Lib.hid hb0
  generalize hb : g.hab.bears.toNat = b
  have HBN := Lib.hid hb
  clear hG hV1 hV2 hok hr hp R hab hzl hb0 hb
  unfold grv
  go_enter Try.func24, Try.ntmps24
  go_upto_region 8 with (first
    | (go_at_call 39; refine (refGrove_any g A1 c1 A2 c2 B _ (by simp; omega) (HG.out.below (HB0.out.mono hB))).mono ?_; rintro e w1 ⟨rfl, hB1⟩; rw [HR.out.1]
       have hm1 := (hB1.block w.heap.size (by simp)).trans (alloc_at0 w _)
       have H1 := Lib.hid (And.intro (HB0.out.trans (hB1.mono (by simp))) hm1)
       have hw1 : w.heap.size < w1.heap.size := by have := hB1.size; simp at this; omega
       clear hB1 hm1)
    | (go_at_call 49; refine (refRains_any P1 k1 ps B w1 (Nat.le_trans hB H1.out.1.size) (HV.out.1.below (H1.out.1.mono hB)) (by omega)).mono ?_; rintro e w2 ⟨rfl, hB2⟩; rw [HR.out.2.1]
       have hm2 := (hB2.block w.heap.size hw1).trans H1.out.2
       have H2 := Lib.hid (And.intro (H1.out.1.trans (hB2.mono H1.out.1.size)) hm2)
       have hw2 : w.heap.size < w2.heap.size := by have := hB2.size; omega
       have hc2 := fun i => cell_of_row w2 w.heap.size i _ _ _ hm2
       clear hB2 hm2)
    | (go_at_call 30; refine (refPlan_any P1 k1 ps P2 k2 zs B w2 (HV.out.2.below (H2.out.1.mono hB)) (by have := HZ.out; omega) (by omega)).mono ?_; rintro e w3 ⟨rfl, rfl⟩; rw [HR.out.2.2]))
  obtain ⟨w4, hw4⟩ : ∃ w4, w2.alloc (.cells (hcells g.hab).toArray 25) = w4 := ⟨_, rfl⟩
  have hs4 : w4.heap.size = w2.heap.size + 1 := by rw [← hw4]; simp
  have hb4 : Below w.heap.size w w4 := by rw [← hw4]; exact H2.out.1.alloc H2.out.1.size _
  have hm4 : w4.heap[w.heap.size]? = some (.cells (gcs g A1 c1 A2 c2) 29 (0, 0)) := by rw [← hw4]; exact (Below.heap_alloc _ _ _ hw2).trans H2.out.2
  have hh4 : w4.heap[w2.heap.size]? = some (.cells (hcells g.hab).toArray 25 (0, 0)) := by rw [← hw4]; exact alloc_at0 w2 _
  have H4 := Lib.hid (And.intro hb4 (And.intro hm4 (And.intro hh4 hs4)))
  have hw4' := hw4
  simp only [hcells] at hw4'
  rw [hw4']
  clear hw4 hw4' hb4 hm4 hh4 hs4 hc2
  generalize hLd : lastL g = L at hl7 ⊢
  have HLd := Lib.hid hLd
  have hlast := fun W hBW hGW => refLast_any g A1 c1 A2 c2 B W hBW hGW HR.out.1
  have hlast2 : ∀ W, Below w4.heap.size w4 W → Calls Try.prog 50 #[grv g A1 c1 A2 c2] W fun e w' => ∃ v, e = .returned v ∧ SlF 0 L v w' ∧ Below W.heap.size W w' := fun W hW => by
    have hbw := H4.out.1.trans (hW.mono H4.out.1.size)
    refine (hlast W (Nat.le_trans hB hbw.size) (HG.out.below (hbw.mono hB))).mono ?_
    rintro e w' ⟨g1, q1, rfl, _, hq, hI, hB'⟩
    rw [hLd] at hq hI ⊢
    exact ⟨_, rfl, ⟨_, q1, rfl, hq, hI, fun _ _ => Nat.zero_le _⟩, hB'⟩
  have HLS := Lib.hid hlast2
  clear hlast hlast2 hLd
  unfold grv at HLS
  refine R2.wp_walk (C := Below w4.heap.size w4) (S := fun _ => Grows) 116 (by kernel_rfl) (by kernel_rfl) rfl (fun _ => Grows.refl) (Below.refl _ _).drew ?_
  simp only []
  refine' R2.WalkR.det (fun _ => rfl) rfl (fun ρ W hW hH hU => ?_) ?_
  rotate_left
  · clear hH hU
    have hc := fun i => cell_of_row W w.heap.size i _ _ _ ((hW.block _ (lt_of_heap H4.out.2.1)).trans H4.out.2.1)
    have HW := Lib.hid hW
    clear hW
    go_simp
    exact ⟨rfl, Grows.refl _, HW.out⟩
  simp only [Act.put, List.setIfInBounds_toArray, List.set_cons_succ, List.set_cons_zero]
  refine' R2.WalkR.nd (SlF 0 L) (fun _ => rfl) rfl rfl (fun _ v W W' _ _ hv hs _ => hv.keep hs) (fun ρ W hW hH hU => ?_) ?_
  · clear hH hU
    go_simp
    go_at_call 50
    refine (HLS.out W hW).mono ?_
    rintro e W1 ⟨v, rfl, hv, hB1⟩
    exact ⟨v, rfl, hv, hB1, hW.trans (hB1.mono hW.size)⟩
  simp only [Act.put, List.setIfInBounds_toArray, List.set_cons_succ, List.set_cons_zero]
  refine' R2.WalkR.det (fun _ => rfl) rfl (fun ρ W hW hH hU => ?_) ?_
  rotate_left
  · clear hH hU
    have hc := fun i => cell_of_row W w.heap.size i _ _ _ ((hW.block _ (lt_of_heap H4.out.2.1)).trans H4.out.2.1)
    have HW := Lib.hid hW
    clear hW
    go_simp
    exact ⟨rfl, Grows.refl _, HW.out⟩
  simp only [Act.put, List.setIfInBounds_toArray, List.set_cons_succ, List.set_cons_zero]
  refine' R2.WalkR.nd (SlF 0 L) (fun _ => rfl) rfl rfl (fun _ v W W' _ _ hv hs _ => hv.keep hs) (fun ρ W hW hH hU => ?_) ?_
  · clear hH hU
    go_simp
    go_at_call 50
    refine (HLS.out W hW).mono ?_
    rintro e W1 ⟨v, rfl, hv, hB1⟩
    exact ⟨v, rfl, hv, hB1, hW.trans (hB1.mono hW.size)⟩
  simp only [Act.put, List.setIfInBounds_toArray, List.set_cons_succ, List.set_cons_zero]
  refine' R2.WalkR.nd (SlF 0 L) (fun _ => rfl) rfl rfl (fun _ v W W' _ _ hv hs _ => hv.keep hs) (fun ρ W hW hH hU => ?_) ?_
  · have hv := hH _ (.tail _ (.head _)) (by first | decide +kernel | (dsimp only; decide +kernel))
    clear hH hU
    have HV2 := Lib.hid (And.intro hv hW)
    clear hv hW
    go_simp
    exact ⟨HV2.out.1, Grows.refl _, HV2.out.2⟩
  simp only [Act.put, List.setIfInBounds_toArray, List.set_cons_succ, List.set_cons_zero]
  refine' R2.WalkR.nd (SlF 0 L) (fun _ => rfl) rfl rfl (fun _ v W W' _ _ hv hs _ => hv.keep hs) (fun ρ W hW hH hU => ?_) ?_
  · have hv := hH _ (.tail _ (.head _)) (by first | decide +kernel | (dsimp only; decide +kernel))
    clear hH hU
    have HV2 := Lib.hid (And.intro hv hW)
    clear hv hW
    go_simp
    exact ⟨HV2.out.1, Grows.refl _, HV2.out.2⟩
  simp only [Act.put, List.setIfInBounds_toArray, List.set_cons_succ, List.set_cons_zero]
  refine R2.WalkR.nil (fun ρ W hW hH hF => ?_)
  obtain ⟨D2, d2, hd2, hq2, hi2, -⟩ := hH _ (.head _)
  obtain ⟨D1, d1, hd1, hq1, hi1, -⟩ := hH _ (.tail _ (.head _))
  have hd2' : ρ 11 = .slice D2 L.length d2 := hd2
  have hd1' : ρ 10 = .slice D1 L.length d1 := hd1
  rw [hd1', hd2']
  have hRO : RO W w2.heap.size g.hab d r b L ps zs 0 none 0 D1 d1 D2 d2 [] L L 30 W := by
    have e1 := lastL_len HRu.out.1
    have e2 := lastL_bnd HRu.out.1
    rw [HLd.out] at e1 e2
    exact ⟨World.ownsRow_nil _ _ _ _, rfl, ⟨e1, e1, LeL.refl _, e2, e2, Int.le_refl _⟩, by decide, rfl, hi1, hi2, hq1, hq2, (hW.block _ (lt_of_heap H4.out.2.2.1)).trans H4.out.2.2.1, Below.refl _ _, Nat.lt_of_lt_of_le (lt_of_heap H4.out.2.2.1) hW.size⟩
  have HRO := Lib.hid (And.intro hRO (H4.out.1.trans (hW.mono H4.out.1.size)))
  clear hRO hH hF hd1 hd2 hd1' hd2' hq1 hq2 hi1 hi2 hW HLS
  obtain ⟨W0, rfl⟩ : ∃ W0 : World, W0 = W := ⟨_, rfl⟩
  go_wp2
  go_loopg [10, 11, 12, 13] ps.length (fun gg s10 s11 s12 s13 wx => ∃ (k : Nat) (A : Option Addr) (c : Nat) (E1 : Option Addr) (e1 : Nat) (E2 : Option Addr) (e2 : Nat) (out : List (Int × Int × Int × Int)) (lo hi : List Int) (M : Int), k + gg = ps.length ∧ s13 = .int .i64 k ∧ s12 = .slice A out.length c ∧ s10 = .slice E1 lo.length e1 ∧ s11 = .slice E2 hi.length e2 ∧
      Hid (RO W0 w2.heap.size g.hab d r b L ps zs k A c E1 e1 E2 e2 out lo hi M wx))
  case atStart => exact ⟨0, none, 0, D1, d1, D2, d2, [], L, L, 30, by omega, rfl, rfl, rfl, rfl, HRO.out.1⟩
  case round =>
    obtain ⟨k, A, c, E1, e1, E2, e2, out, lo, hi, M, hkg, rfl, rfl, rfl, rfl, hOk⟩ := hrel
    cases gk with
    | zero =>
      obtain rfl : k = ps.length := by omega
      have hspl := hOk.out.split
      rw [List.drop_of_length_le (by simp; omega)] at hspl
      simp only [aheadL, List.append_nil] at hspl
      rw [← HLd.out] at hspl
      have hF := Lib.hid (And.intro hspl (And.intro hOk.out.own (HRO.out.2.trans (hOk.out.bel.mono HRO.out.2.size))))
      have hzz : ¬ ((ps.length : Int) < (zs.length : Int)) := by have := HZ.out; omega
      clear hspl
      go_wp2
      go_ret3
      exact ⟨A, c, by rw [hF.out.1]; rfl, by rw [hF.out.1]; exact own_cap_any hF.out.2.1, by rw [hF.out.1]; exact Vals.own hF.out.2.1, hF.out.2.2⟩
    | succ gg =>
      have hlt : k < ps.length := by omega
      have hHab := HRu.out.2
      rw [HBN.out] at hHab
      obtain ⟨b1, off1, hA1, hb1, hc1⟩ := HV.out.1 (by rw [pairs_len]; omega)
      subst hA1
      obtain ⟨b2, off2, hA2, hb2, hc2⟩ := HV.out.2 (by have := HZ.out; omega)
      subst hA2
      have hpa := pairs_at ps k hlt
      have hbel := HRO.out.2.trans (hOk.out.bel.mono HRO.out.2.size)
      have hr0 : ∀ W, Below wr.heap.size wr W → W.cell? ⟨b1, off1 + k * 2, none⟩ = _ := fun W hW => ((hbel.trans (hW.mono hbel.size)).cell (p := ⟨b1, off1 + k * 2, none⟩) (by simp; omega)).trans (hc1 _ _ hpa.1)
      have hr1 : ∀ W, Below wr.heap.size wr W → W.cell? ⟨b1, off1 + k * 2 + 1, none⟩ = _ := fun W hW => ((hbel.trans (hW.mono hbel.size)).cell (p := ⟨b1, off1 + k * 2 + 1, none⟩) (by simp; omega)).trans (hc1 _ _ hpa.2)
      have hpz : ∀ W, Below wr.heap.size wr W → W.cell? ⟨b2, off2 + k, none⟩ = _ := fun W hW => ((hbel.trans (hW.mono hbel.size)).cell (p := ⟨b2, off2 + k, none⟩) (by simp; omega)).trans (hc2 k (by have := HZ.out; omega))
      have rn := rainsOk_at HR.out.2.1 hlt
      have pn := planOk_at HR.out.2.2 (k := k) (by have := HZ.out; omega)
      have hzip : (ps.zip zs).drop k = (ps[k]?.getD (0, 0), zs[k]?.getD 0) :: (ps.zip zs).drop (k + 1) := by
        have hz := HZ.out
        rw [List.drop_eq_getElem_cons (by simp; omega)]
        congr 1
        simp [hlt, show k < zs.length by omega]
      have hspl := hOk.out.split
      rw [hzip] at hspl
      generalize ps[k]?.getD (0, 0) = x at hr0 hr1 rn hspl
      generalize zs[k]?.getD 0 = n at hpz pn hspl
      obtain ⟨x1, x2⟩ := x
      simp only at hr0 hr1 rn
      obtain ⟨rn0, rn1, rn2⟩ := rn
      obtain ⟨pn0, pn1⟩ := pn
      have hM := pow11 (k := k) (by omega)
      have hmb := hOk.out.mb
      have hyr := hOk.out.yr
      have hNext := hyr.next hHab (p := (x1, x2)) rn0 rn1 rn2 pn0 pn1
      have hyes := fun e => hspl.trans (congrArg (out ++ ·) (aheadL_yes (hi := hi) (x2 := x2) (rest := (ps.zip zs).drop (k + 1)) e))
      have hnot := fun e => hspl.trans (congrArg (out ++ ·) (aheadL_no (hi := hi) (x2 := x2) (rest := (ps.zip zs).drop (k + 1)) e))
      have hup := okY_up hHab hyr (p := (x1, x2)) rn0 rn1 rn2 pn0 pn1
      simp only [List.append_nil] at hyes hnot
      simp only at hNext hup
      have ld := lastL_len HRu.out.1
      have hll := hyr.ll
      have hlh := hyr.lh
      have hd6 := hHab.d6
      have hbd := hHab.bd
      have hsh1 := fun W hz => refShots_any g.hab b hHab.hb E1 e1 lo W.heap.size W (Nat.le_refl _) hz (by omega) hOk.out.cL (by omega) (fun k hk => by have := hyr.bl k hk; omega) g.hab.lo x1 hHab.l0 (by have := hHab.lh; have := hHab.h1; omega) rn0 (by omega)
      have hsh2 := fun W hz => refShots_any g.hab b hHab.hb E2 e2 hi W.heap.size W (Nat.le_refl _) hz (by omega) hOk.out.cH (by omega) (fun k hk => by have := hyr.bh k hk; omega) g.hab.hi x2 (by have := hHab.lh; have := hHab.l0; omega) hHab.h1 (by omega) rn2
      have hy1 := fun W hz => refYear_round hHab (A := E1) (cap := e1) hll hNext.2.2.2.1 (show M ≤ 39930 by omega) hyr.m0 hNext.1 (by have := hNext.2.1; have := hNext.2.2.1; omega) pn0 pn1 W hz
      have hy2 := fun W hz => refYear_round hHab (A := E2) (cap := e2) hlh hNext.2.2.2.2.1 (show M ≤ 39930 by omega) hyr.m0 (by have := hNext.1; have := hNext.2.1; omega) hNext.2.2.1 pn0 pn1 W hz
      generalize shotsL b lo g.hab.lo x1 = s1 at hNext hyes hnot hup hsh1 hy1
      generalize shotsL b hi g.hab.hi x2 = s2 at hNext hyes hnot hup hsh2 hy2
      have hkz2 : (k : Int) < (zs.length : Int) := by have := HZ.out; omega
      have HSH := Lib.hid (And.intro hsh1 hsh2)
      have HY1 := Lib.hid hy1
      have HY2 := Lib.hid hy2
      have HN := Lib.hid hNext
      have HYN := Lib.hid (And.intro hyes (And.intro hnot hup))
      have HP := Lib.hid (And.intro hr0 (And.intro hr1 hpz))
      have HBel := Lib.hid hbel
      have hyl1 : lo.length = L.length := by have := HLd.out; rw [hll, ← this, ld]
      have hkz : (k : Int) < ps.length := by omega
      have HHab := Lib.hid hHab
      have HYR := Lib.hid hyr
      have HMB := Lib.hid (And.intro hM hmb)
      clear hsh1 hsh2 hy1 hy2 hNext hyes hnot hup hr0 hr1 hpz hbel hpa hc1 hc2 hspl hzip hyr hll hlh hd6 hbd hmb hM hHab ld hyl1
      go_wp2
      refine R2.wp_walk (C := Below wr.heap.size wr) (S := fun _ => NS wr.heap.size (.cells (ints [0, 0]).toArray 23 (0, 0)) (.cells (ints [s1, s2]).toArray 23 (0, 0))) 116 (by kernel_rfl) (by kernel_rfl) rfl (fun _ => NS.refl) (Below.refl _ _).drew ?_
      simp only []
      repeat
        (refine' R2.WalkR.det (fun _ => rfl) rfl (fun ρ W hW hH hU => ?_) ?_
         rotate_left
         · clear hH hU
           have hx1 := HP.out.1 W hW
           have hx2 := HP.out.2.1 W hW
           have hhW := (hW.block _ (lt_of_heap hOk.out.hH)).trans hOk.out.hH
           have hl0 := (cell_of_row W w2.heap.size 0 _ _ _ hhW).trans (show _ = some (Value.int .i64 g.hab.lo) from rfl)
           have hl1 := (cell_of_row W w2.heap.size 1 _ _ _ hhW).trans (show _ = some (Value.int .i64 g.hab.hi) from rfl)
           have HhW := Lib.hid hhW
           have HW := Lib.hid hW
           clear hW hhW
           first
             | exact gives_load_blk 25 (.tmp 9) rfl rfl HhW.out (hcells g.hab) at0 rowHab ⟨rfl, NS.refl _, HW.out⟩
             | (go_simp
                first
                  | (with_reducible exact ⟨rfl, NS.refl _, HW.out⟩)
                  | ((with_reducible show Calls _ _ #[_, Value.slice E1 _ _, _, _] _ _); refine (HSH.out.1 W ((hOk.out.iL.below HW.out).mono HW.out.size)).mono ?_; rintro e W1 ⟨rfl, hB1⟩; exact ⟨_, rfl, rfl, NS.grows hB1, HW.out.trans (hB1.mono HW.out.size)⟩)
                  | ((with_reducible show Calls _ _ #[_, Value.slice E2 _ _, _, _] _ _); refine (HSH.out.2 W ((hOk.out.iH.below HW.out).mono HW.out.size)).mono ?_; rintro e W1 ⟨rfl, hB1⟩; exact ⟨_, rfl, rfl, NS.grows hB1, HW.out.trans (hB1.mono HW.out.size)⟩))
         simp only [Act.put, List.setIfInBounds_toArray, List.set_cons_succ, List.set_cons_zero])
      refine' R2.WalkR.nd (NewN wr.heap.size (.cells (ints [0, 0]).toArray 23 (0, 0)) (.cells (ints [s1, s2]).toArray 23 (0, 0))) (fun _ => rfl) rfl rfl (fun _ v W W' _ _ hv hs _ => hv.keep hs) (fun ρ W hW hH hU => ?_) ?_
      · clear hH hU
        have HW := Lib.hid hW
        have hws := hW.size
        clear hW
        go_simp
        exact ⟨⟨_, rfl, hws, .inl (alloc_at0 _ _)⟩, NS.grows ((Below.refl _ _).alloc (Nat.le_refl _) _), HW.out.alloc hws _⟩
      simp only [Act.put, List.setIfInBounds_toArray, List.set_cons_succ, List.set_cons_zero]
      refine' R2.WalkR.fx 14 (OldN wr.heap.size (.cells (ints [s1, s2]).toArray 23 (0, 0))) (fun _ => rfl) rfl (by first | decide +kernel | (dsimp only; decide +kernel)) (by first | decide +kernel | (dsimp only; decide +kernel)) rfl (fun _ v W W' hv hs _ => hv.keep hs) (fun ρ W hW hH hU => ?_) ?_
      · obtain ⟨G, hv, hg, hz⟩ := hH _ (.head _) (by first | decide +kernel | (dsimp only; decide +kernel))
        clear hH hU
        rcases hz with hz | hz
        · refine gives_store_blk 23 (.tmp 14) (.tmp 65) rfl hv (show _ = Value.agg (ints [s1, s2]).toArray from rfl) hz (by simp [ints]) (oneCells_ints _) rowSpan (fun W' hP hM => ?_)
          rw [show splice (ints [0, 0]) 0 (ints [s1, s2]) = ints [s1, s2] from rfl] at hM
          exact ⟨⟨G, hv, hg, hM⟩, NS.put hP hg (.inl hz) hM, hW.trans (hP.below hg)⟩
        · refine gives_store_blk 23 (.tmp 14) (.tmp 65) rfl hv (show _ = Value.agg (ints [s1, s2]).toArray from rfl) hz (by simp [ints]) (oneCells_ints _) rowSpan (fun W' hP hM => ?_)
          rw [splice_same] at hM
          exact ⟨⟨G, hv, hg, hM⟩, NS.put hP hg (.inr hz) hM, hW.trans (hP.below hg)⟩
      refine R2.WalkR.nil (fun ρ W hW hH hF => ?_)
      obtain ⟨G, hv, hg, hm⟩ := hF _ (.head _)
      have hv' : ρ 14 = .pointer (some ⟨G, 0, none⟩) := hv
      rw [hv']
      have HRK := Lib.hid (show RK W0 wr w2.heap.size G g.hab s1 s2 W from ⟨(hW.block _ (lt_of_heap hOk.out.hH)).trans hOk.out.hH, hm, hW, hg⟩)
      clear hH hF hv hv' hW hm hg
      rcases Bool.eq_false_or_eq_true (yearOk r lo s1 n) with hyo | hyo
      case inr =>
        have hF := HYN.out.2.1 (by simp [okY, hyo])
        have HF := Lib.hid (And.intro hyo hF)
        clear hyo hF
        go_wp2
        refine R2.wp_walk (C := RK W0 wr w2.heap.size G g.hab s1 s2) (S := fun _ => Grows) 116 (by kernel_rfl) (by kernel_rfl) rfl (fun _ => Grows.refl) (HRK.out.next (Below.refl _ _).drew) ?_
        simp only []
        repeat
          (refine' R2.WalkR.det (fun _ => rfl) rfl (fun ρ W hW hH hU => ?_) ?_
           rotate_left
           · clear hH hU
             have hsp := (cell_of_row W G 0 _ _ _ hW.hG).trans (show _ = some (Value.int .i64 s1) from rfl)
             have hnn := HP.out.2.2 W hW.bel
             have HW := Lib.hid hW
             clear hW
             first
               | exact gives_load_blk 25 (.tmp 9) rfl rfl HW.out.hH (hcells g.hab) at0 rowHab ⟨rfl, Grows.refl _, HW.out⟩
               | (go_simp
                  first
                    | (with_reducible exact ⟨rfl, Grows.refl _, HW.out⟩)
                    | (go_at_call 34; refine ((HY1.out W ((hOk.out.iL.below HW.out.bel).mono HW.out.bel.size)).1 HF.out.1).mono ?_; rintro e W1 ⟨rfl, hB1⟩; exact ⟨_, rfl, rfl, hB1, HW.out.next hB1⟩))
           simp only [Act.put, List.setIfInBounds_toArray, List.set_cons_succ, List.set_cons_zero])
        refine R2.WalkR.nil (fun ρ W hW hH hF => ?_)
        clear hH hF HRK
        have HRK := Lib.hid hW
        clear hW
        go_wp2
        refine R2.wp_walk (C := RK W0 wr w2.heap.size G g.hab s1 s2) (S := fun _ => Grows) 116 (by kernel_rfl) (by kernel_rfl) rfl (fun _ => Grows.refl) (HRK.out.next (Below.refl _ _).drew) ?_
        simp only []
        repeat (first
          | (refine R2.WalkR.un (fun _ => rfl) ?_
             simp only [Act.put, List.setIfInBounds_toArray, List.set_cons_succ, List.set_cons_zero])
          | (refine' R2.WalkR.det (fun _ => rfl) rfl (fun ρ W hW hH hU => ?_) ?_
             rotate_left
             · clear hH hU
               have hke := (cell_of_row W w2.heap.size 5 _ _ _ hW.hH).trans (show _ = some (Value.int .i64 g.hab.keep) from rfl)
               have HW := Lib.hid hW
               clear hW
               go_simp
               first
                 | (with_reducible exact ⟨rfl, Grows.refl _, HW.out⟩)
             simp only [Act.put, List.setIfInBounds_toArray, List.set_cons_succ, List.set_cons_zero]))
        refine R2.WalkR.nil (fun ρ W hW hH hF => ?_)
        clear hH hF
        have hno2 := HF.out.2
        rw [← HLd.out] at hno2
        have HE := Lib.hid (And.intro hno2 (And.intro (own_grows hOk.out.own hW.bel) (HBel.out.trans (hW.bel.mono HBel.out.size))))
        clear hno2 hW HRK
        go_wp2
        go_ret3
        exact ⟨A, c, by rw [HE.out.1]; rfl, by rw [HE.out.1]; exact own_cap_any HE.out.2.1, by rw [HE.out.1]; exact Vals.own HE.out.2.1, HE.out.2.2⟩
      case inl =>
        have HYO := Lib.hid hyo
        clear hyo
        go_wp2
        refine R2.wp_walk (C := RK W0 wr w2.heap.size G g.hab s1 s2) (S := fun _ => Grows) 116 (by kernel_rfl) (by kernel_rfl) rfl (fun _ => Grows.refl) (HRK.out.next (Below.refl _ _).drew) ?_
        simp only []
        iterate 8
          (refine' R2.WalkR.det (fun _ => rfl) rfl (fun ρ W hW hH hU => ?_) ?_
           rotate_left
           · clear hH hU
             have hsp := (cell_of_row W G 0 _ _ _ hW.hG).trans (show _ = some (Value.int .i64 s1) from rfl)
             have hnn := HP.out.2.2 W hW.bel
             have HW := Lib.hid hW
             clear hW
             first
               | exact gives_load_blk 25 (.tmp 9) rfl rfl HW.out.hH (hcells g.hab) at0 rowHab ⟨rfl, Grows.refl _, HW.out⟩
               | (go_simp
                  (with_reducible exact ⟨rfl, Grows.refl _, HW.out⟩))
           simp only [Act.put, List.setIfInBounds_toArray, List.set_cons_succ, List.set_cons_zero])
        refine' R2.WalkR.nd (YrF wr.heap.size (yearL lo s1 n) (goneL lo s1 n)) (fun _ => rfl) rfl rfl (fun _ v W W' _ _ hv hs _ => hv.keep hs) (fun ρ W hW hH hU => ?_) ?_
        · clear hH hU
          have HW := Lib.hid hW
          clear hW
          go_simp
          refine ((HY1.out W ((hOk.out.iL.below HW.out.bel).mono HW.out.bel.size)).2 HYO.out).mono ?_
          rintro e W1 ⟨v, rfl, hv, hB1⟩
          exact ⟨v, rfl, hv.mono HW.out.bel.size, hB1, HW.out.next hB1⟩
        simp only [Act.put, List.setIfInBounds_toArray, List.set_cons_succ, List.set_cons_zero]
        refine' R2.WalkR.nd (YrF wr.heap.size (yearL lo s1 n) (goneL lo s1 n)) (fun _ => rfl) rfl rfl (fun _ v W W' _ _ hv hs _ => hv.keep hs) (fun ρ W hW hH hU => ?_) ?_
        · have hv := hH _ (.head _) (by first | decide +kernel | (dsimp only; decide +kernel))
          clear hH hU
          have HW := Lib.hid (And.intro hv hW)
          clear hv hW
          go_simp
          exact ⟨HW.out.1, Grows.refl _, HW.out.2⟩
        simp only [Act.put, List.setIfInBounds_toArray, List.set_cons_succ, List.set_cons_zero]
        refine' R2.WalkR.nd (SlF wr.heap.size (yearL lo s1 n)) (fun _ => rfl) rfl rfl (fun _ v W W' _ _ hv hs _ => hv.keep hs) (fun ρ W hW hH hU => ?_) ?_
        · obtain ⟨X, x, X', x', hv, hx, hI, hn⟩ := hH _ (.head _) (by first | decide +kernel | (dsimp only; decide +kernel))
          have hv' : ρ 66 = .tuple #[.slice X (yearL lo s1 n).length x, .slice X' (goneL lo s1 n).length x', .bool true] := hv
          clear hH hU hv
          have HW := Lib.hid (And.intro hx (And.intro hI (And.intro hn hW)))
          clear hx hI hn hW
          go_simp
          exact ⟨⟨X, x, rfl, HW.out.1, HW.out.2.1, HW.out.2.2.1⟩, Grows.refl _, HW.out.2.2.2⟩
        simp only [Act.put, List.setIfInBounds_toArray, List.set_cons_succ, List.set_cons_zero]
        refine' R2.WalkR.nd AnyF (fun _ => rfl) rfl rfl (fun _ _ _ _ _ _ _ _ _ => trivial) (fun ρ W hW hH hU => ?_) ?_
        · obtain ⟨X, x, X', x', hv, -⟩ := hH _ (.tail _ (.head _)) (by first | decide +kernel | (dsimp only; decide +kernel))
          have hv' : ρ 66 = .tuple #[.slice X (yearL lo s1 n).length x, .slice X' (goneL lo s1 n).length x', .bool true] := hv
          clear hH hU hv
          have HW := Lib.hid hW
          clear hW
          go_simp
          exact ⟨trivial, Grows.refl _, HW.out⟩
        simp only [Act.put, List.setIfInBounds_toArray, List.set_cons_succ, List.set_cons_zero]
        refine' R2.WalkR.det (fun _ => rfl) rfl (fun ρ W hW hH hU => ?_) ?_
        rotate_left
        · obtain ⟨X, x, X', x', hv, -⟩ := hH _ (.tail _ (.tail _ (.head _))) (by first | decide +kernel | (dsimp only; decide +kernel))
          have hv' : ρ 66 = .tuple #[.slice X (yearL lo s1 n).length x, .slice X' (goneL lo s1 n).length x', .bool true] := hv
          clear hH hU hv
          have HW := Lib.hid hW
          clear hW
          go_simp
          exact ⟨rfl, Grows.refl _, HW.out⟩
        simp only [Act.put, List.setIfInBounds_toArray, List.set_cons_succ, List.set_cons_zero]
        refine' R2.WalkR.nd (SlF wr.heap.size (yearL lo s1 n)) (fun _ => rfl) rfl rfl (fun _ v W W' _ _ hv hs _ => hv.keep hs) (fun ρ W hW hH hU => ?_) ?_
        · have hv := hH _ (.tail _ (.head _)) (by first | decide +kernel | (dsimp only; decide +kernel))
          clear hH hU
          have HW := Lib.hid (And.intro hv hW)
          clear hv hW
          go_simp
          exact ⟨HW.out.1, Grows.refl _, HW.out.2⟩
        simp only [Act.put, List.setIfInBounds_toArray, List.set_cons_succ, List.set_cons_zero]
        refine' R2.WalkR.nd AnyF (fun _ => rfl) rfl rfl (fun _ _ _ _ _ _ _ _ _ => trivial) (fun ρ W hW hH hU => ?_) ?_
        · clear hH hU
          have HW := Lib.hid hW
          clear hW
          go_simp
          exact ⟨trivial, Grows.refl _, HW.out⟩
        simp only [Act.put, List.setIfInBounds_toArray, List.set_cons_succ, List.set_cons_zero]
        refine' R2.WalkR.det (fun _ => rfl) rfl (fun ρ W hW hH hU => ?_) ?_
        rotate_left
        · clear hH hU
          have HW := Lib.hid hW
          clear hW
          go_simp
          exact ⟨rfl, Grows.refl _, HW.out⟩
        simp only [Act.put, List.setIfInBounds_toArray, List.set_cons_succ, List.set_cons_zero]
        refine R2.WalkR.nil (fun ρ W hW hH hF => ?_)
        obtain ⟨F1, f1, hv, hx, hI, hn⟩ := hH _ (.tail _ (.head _))
        have hv' : ρ 15 = .slice F1 (yearL lo s1 n).length f1 := hv
        rw [hv']
        have HR2 := Lib.hid (And.intro hW (And.intro hx (And.intro hI hn)))
        clear hH hF hv hv' hW hx hI hn HRK
        have hsm := fun W hz => refSum_any F1 f1 (yearL lo s1 n) W.heap.size W hz (by rw [yearL_len, HYR.out.ll]; have := HHab.out.d6; omega) (fun k hk => by have := HN.out.2.2.2.2.2.bl k hk; have := HMB.out; omega)
        have HSM := Lib.hid hsm
        clear hsm
        by_cases hke : g.hab.keep ≤ (yearL lo s1 n).sum
        case neg =>
          have hF := HYN.out.2.1 (by simp [okY, hke])
          have HF := Lib.hid hF
          clear hF
          go_wp2
          refine R2.wp_walk (C := fun W => RK W0 wr w2.heap.size G g.hab s1 s2 W ∧ Ints W W.heap.size F1 (yearL lo s1 n)) (S := fun _ => Grows) 116 (by kernel_rfl) (by kernel_rfl) rfl (fun _ => Grows.refl) (⟨HR2.out.1.next (Below.refl _ _).drew, HR2.out.2.2.1⟩) ?_
          simp only []
          repeat (first
            | (refine R2.WalkR.un (fun _ => rfl) ?_
               simp only [Act.put, List.setIfInBounds_toArray, List.set_cons_succ, List.set_cons_zero])
            | (refine' R2.WalkR.det (fun _ => rfl) rfl (fun ρ W hW hH hU => ?_) ?_
               rotate_left
               · clear hH hU
                 have hke := (cell_of_row W w2.heap.size 5 _ _ _ hW.1.hH).trans (show _ = some (Value.int .i64 g.hab.keep) from rfl)
                 have HW := Lib.hid hW
                 clear hW
                 go_simp
                 first
                   | (with_reducible exact ⟨rfl, Grows.refl _, HW.out⟩)
                       | ((with_reducible show Calls _ _ #[Value.slice F1 _ _] _ _); refine (HSM.out W HW.out.2).mono ?_; rintro e W1 ⟨rfl, rfl⟩; exact ⟨_, rfl, rfl, Grows.refl _, HW.out⟩)
               simp only [Act.put, List.setIfInBounds_toArray, List.set_cons_succ, List.set_cons_zero]))
          refine R2.WalkR.nil (fun ρ W hW hH hF => ?_)
          clear hH hF
          have hno2 := HF.out
          rw [← HLd.out] at hno2
          have HE := Lib.hid (And.intro hno2 (And.intro (own_grows hOk.out.own hW.1.bel) (HBel.out.trans (hW.1.bel.mono HBel.out.size))))
          clear hno2 hW HR2
          go_wp2
          go_ret3
          exact ⟨A, c, by rw [HE.out.1]; rfl, by rw [HE.out.1]; exact own_cap_any HE.out.2.1, by rw [HE.out.1]; exact Vals.own HE.out.2.1, HE.out.2.2⟩

        case pos =>
          have hoky : okY r g.hab.keep lo s1 n = true := by simp [okY, hke, HYO.out]
          have hyes := HYN.out.1 hoky
          have hy2 : yearOk r hi s2 n = true := by
            have := HYN.out.2.2 hoky
            simp only [okY, Bool.and_eq_true] at this
            exact this.1
          have HYS := Lib.hid (And.intro hyes hy2)
          clear hyes hy2 hoky
          go_wp2
          refine R2.wp_walk (C := fun W => RK W0 wr w2.heap.size G g.hab s1 s2 W ∧ Ints W W.heap.size F1 (yearL lo s1 n)) (S := fun _ => Grows) 116 (by kernel_rfl) (by kernel_rfl) rfl (fun _ => Grows.refl) (⟨HR2.out.1.next (Below.refl _ _).drew, HR2.out.2.2.1⟩) ?_
          simp only []
          repeat (first
            | (refine R2.WalkR.un (fun _ => rfl) ?_
               simp only [Act.put, List.setIfInBounds_toArray, List.set_cons_succ, List.set_cons_zero])
            | (refine' R2.WalkR.det (fun _ => rfl) rfl (fun ρ W hW hH hU => ?_) ?_
               rotate_left
               · clear hH hU
                 have hke := (cell_of_row W w2.heap.size 5 _ _ _ hW.1.hH).trans (show _ = some (Value.int .i64 g.hab.keep) from rfl)
                 have HW := Lib.hid hW
                 clear hW
                 go_simp
                 first
                   | (with_reducible exact ⟨rfl, Grows.refl _, HW.out⟩)
                       | ((with_reducible show Calls _ _ #[Value.slice F1 _ _] _ _); refine (HSM.out W HW.out.2).mono ?_; rintro e W1 ⟨rfl, rfl⟩; exact ⟨_, rfl, rfl, Grows.refl _, HW.out⟩)
               simp only [Act.put, List.setIfInBounds_toArray, List.set_cons_succ, List.set_cons_zero]))
          refine R2.WalkR.nil (fun ρ W hW hH hF => ?_)
          clear hH hF
          have HR3 := Lib.hid (And.intro hW.1 (And.intro HR2.out.2.1 (And.intro hW.2 HR2.out.2.2.2)))
          clear hW HR2
          go_wp2
          refine R2.wp_walk (C := fun W => RK W0 wr w2.heap.size G g.hab s1 s2 W ∧ Ints W W.heap.size F1 (yearL lo s1 n)) (S := fun _ => Grows) 116 (by kernel_rfl) (by kernel_rfl) rfl (fun _ => Grows.refl) ⟨HR3.out.1.next (Below.refl _ _).drew, HR3.out.2.2.1⟩ ?_
          simp only []
          iterate 8
            (refine' R2.WalkR.det (fun _ => rfl) rfl (fun ρ W hW hH hU => ?_) ?_
             rotate_left
             · clear hH hU
               have hsp := (cell_of_row W G 1 _ _ _ hW.1.hG).trans (show _ = some (Value.int .i64 s2) from rfl)
               have hnn := HP.out.2.2 W hW.1.bel
               have HW := Lib.hid hW
               clear hW
               first
                 | exact gives_load_blk 25 (.tmp 9) rfl rfl HW.out.1.hH (hcells g.hab) at0 rowHab ⟨rfl, Grows.refl _, HW.out⟩
                 | (go_simp
                    (with_reducible exact ⟨rfl, Grows.refl _, HW.out⟩))
             simp only [Act.put, List.setIfInBounds_toArray, List.set_cons_succ, List.set_cons_zero])
          refine' R2.WalkR.nd (YrF wr.heap.size (yearL hi s2 n) (goneL hi s2 n)) (fun _ => rfl) rfl rfl (fun _ v W W' _ _ hv hs _ => hv.keep hs) (fun ρ W hW hH hU => ?_) ?_
          · clear hH hU
            have HW := Lib.hid hW
            clear hW
            go_simp
            refine ((HY2.out W ((hOk.out.iH.below HW.out.1.bel).mono HW.out.1.bel.size)).2 HYS.out.2).mono ?_
            rintro e W1 ⟨v, rfl, hv, hB1⟩
            exact ⟨v, rfl, hv.mono HW.out.1.bel.size, hB1, HW.out.1.next hB1, (HW.out.2.below hB1).mono hB1.size⟩
          simp only [Act.put, List.setIfInBounds_toArray, List.set_cons_succ, List.set_cons_zero]
          refine' R2.WalkR.nd (YrF wr.heap.size (yearL hi s2 n) (goneL hi s2 n)) (fun _ => rfl) rfl rfl (fun _ v W W' _ _ hv hs _ => hv.keep hs) (fun ρ W hW hH hU => ?_) ?_
          · have hv := hH _ (.head _) (by first | decide +kernel | (dsimp only; decide +kernel))
            clear hH hU
            have HW := Lib.hid (And.intro hv hW)
            clear hv hW
            go_simp
            exact ⟨HW.out.1, Grows.refl _, HW.out.2⟩
          simp only [Act.put, List.setIfInBounds_toArray, List.set_cons_succ, List.set_cons_zero]
          refine' R2.WalkR.nd (SlF wr.heap.size (yearL hi s2 n)) (fun _ => rfl) rfl rfl (fun _ v W W' _ _ hv hs _ => hv.keep hs) (fun ρ W hW hH hU => ?_) ?_
          · obtain ⟨X, x, X', x', hv, hx, hI, hn⟩ := hH _ (.head _) (by first | decide +kernel | (dsimp only; decide +kernel))
            have hv' : ρ 88 = .tuple #[.slice X (yearL hi s2 n).length x, .slice X' (goneL hi s2 n).length x', .bool true] := hv
            clear hH hU hv
            have HW := Lib.hid (And.intro hx (And.intro hI (And.intro hn hW)))
            clear hx hI hn hW
            go_simp
            exact ⟨⟨X, x, rfl, HW.out.1, HW.out.2.1, HW.out.2.2.1⟩, Grows.refl _, HW.out.2.2.2⟩
          simp only [Act.put, List.setIfInBounds_toArray, List.set_cons_succ, List.set_cons_zero]
          refine' R2.WalkR.nd AnyF (fun _ => rfl) rfl rfl (fun _ _ _ _ _ _ _ _ _ => trivial) (fun ρ W hW hH hU => ?_) ?_
          · obtain ⟨X, x, X', x', hv, -⟩ := hH _ (.tail _ (.head _)) (by first | decide +kernel | (dsimp only; decide +kernel))
            have hv' : ρ 88 = .tuple #[.slice X (yearL hi s2 n).length x, .slice X' (goneL hi s2 n).length x', .bool true] := hv
            clear hH hU hv
            have HW := Lib.hid hW
            clear hW
            go_simp
            exact ⟨trivial, Grows.refl _, HW.out⟩
          simp only [Act.put, List.setIfInBounds_toArray, List.set_cons_succ, List.set_cons_zero]
          refine' R2.WalkR.det (fun _ => rfl) rfl (fun ρ W hW hH hU => ?_) ?_
          rotate_left
          · obtain ⟨X, x, X', x', hv, -⟩ := hH _ (.tail _ (.tail _ (.head _))) (by first | decide +kernel | (dsimp only; decide +kernel))
            have hv' : ρ 88 = .tuple #[.slice X (yearL hi s2 n).length x, .slice X' (goneL hi s2 n).length x', .bool true] := hv
            clear hH hU hv
            have HW := Lib.hid hW
            clear hW
            go_simp
            exact ⟨rfl, Grows.refl _, HW.out⟩
          simp only [Act.put, List.setIfInBounds_toArray, List.set_cons_succ, List.set_cons_zero]
          refine' R2.WalkR.nd (SlF wr.heap.size (yearL hi s2 n)) (fun _ => rfl) rfl rfl (fun _ v W W' _ _ hv hs _ => hv.keep hs) (fun ρ W hW hH hU => ?_) ?_
          · have hv := hH _ (.tail _ (.head _)) (by first | decide +kernel | (dsimp only; decide +kernel))
            clear hH hU
            have HW := Lib.hid (And.intro hv hW)
            clear hv hW
            go_simp
            exact ⟨HW.out.1, Grows.refl _, HW.out.2⟩
          simp only [Act.put, List.setIfInBounds_toArray, List.set_cons_succ, List.set_cons_zero]
          refine' R2.WalkR.nd AnyF (fun _ => rfl) rfl rfl (fun _ _ _ _ _ _ _ _ _ => trivial) (fun ρ W hW hH hU => ?_) ?_
          · clear hH hU
            have HW := Lib.hid hW
            clear hW
            go_simp
            exact ⟨trivial, Grows.refl _, HW.out⟩
          simp only [Act.put, List.setIfInBounds_toArray, List.set_cons_succ, List.set_cons_zero]
          refine' R2.WalkR.det (fun _ => rfl) rfl (fun ρ W hW hH hU => ?_) ?_
          rotate_left
          · clear hH hU
            have HW := Lib.hid hW
            clear hW
            go_simp
            exact ⟨rfl, Grows.refl _, HW.out⟩
          simp only [Act.put, List.setIfInBounds_toArray, List.set_cons_succ, List.set_cons_zero]
          refine R2.WalkR.nil (fun ρ W hW hH hF => ?_)

          obtain ⟨F2, f2, hv, hx, hi2, hn⟩ := hH _ (.tail _ (.head _))
          have hv' : ρ 18 = .slice F2 (yearL hi s2 n).length f2 := hv
          rw [hv']
          have hz18 : RZ W0 wr.heap.size w2.heap.size G g.hab s1 s2 F1 F2 (yearL lo s1 n) (yearL hi s2 n) W :=
            ⟨hW.1.hH, hW.1.hG, hOk.out.bel.trans (hW.1.bel.mono hOk.out.bel.size), hW.2, hi2, hOk.out.lH, hOk.out.bel.size, hW.1.lG, HR3.out.2.2.2, hn⟩
          have hown := own_grows hOk.out.own hW.1.bel
          have hob : ∀ j, (Value.slice A out.length c).ownBlock = some j → W0.heap.size ≤ j ∧ j < wr.heap.size := fun j hj => hOk.out.own.lt j hj
          have hlen := hOk.out.len
          have hlen3 : out.length ≤ 3 := by omega
          have hsm2 := fun W hz => refSum_any F2 f2 (yearL hi s2 n) W.heap.size W hz (by rw [yearL_len, HYR.out.lh]; have := HHab.out.d6; omega) (fun k hk => by have := HN.out.2.2.2.2.2.bh k hk; have := HMB.out; omega)
          have hsp2 := HYS.out.1
          have hsm1 := HSM.out
          obtain ⟨i0, hi0, hz0, hz1, hz2⟩ := info_parts Try.info65
          generalize ht1 : (yearL lo s1 n).sum = t1 at hsm1 hsp2
          generalize ht2 : (yearL hi s2 n).sum = t2 at hsm2 hsp2
          have HI0 := Lib.hid (And.intro hi0 (And.intro hz0 (And.intro hz1 hz2)))
          have HLEN := Lib.hid hlen
          have HSP := Lib.hid hsp2
          have HX1 := Lib.hid hsm1
          have HX2 := Lib.hid hsm2
          have H18 := Lib.hid hz18
          have HOWN := Lib.hid hown
          have HOB := Lib.hid hob
          have HFX := Lib.hid (And.intro HR3.out.2.1 hx)
          clear hi0 hz0 hz1 hz2 hsp2 hown hob hz18 hlen hsm1 hsm2 ht1 ht2 hH hF hv hv' hi2 hn hx hW HR3 HSM
          go_wp2
          refine R2.wp_walkT (C := RZ W0 wr.heap.size w2.heap.size G g.hab s1 s2 F1 F2 (yearL lo s1 n) (yearL hi s2 n)) (S := SApp 112 (Value.slice A out.length c).ownBlock) 116 112 (fun W => W.ownsRow W0.heap.size 65 4 (.slice A out.length c) out.length (quads out)) (by kernel_rfl) (by kernel_rfl) rfl (SApp.refl _ _) (H18.out.next (Below.refl _ _).drew)
            (fun o' W W' hx hp hs _ => own_grows hp (hs.1 hx)) HOWN.out ?_
          simp only []
          repeat
            (refine' R2.WalkR.det (fun _ => rfl) rfl (fun ρ W hW hH hU => ?_) ?_
             rotate_left
             · clear hH hU
               have HW := Lib.hid hW
               clear hW
               first
                 | exact gives_load_blk 23 (.tmp 14) rfl rfl HW.out.hG [.int .i64 s1, .int .i64 s2] at0 rowSpan ⟨rfl, SApp.refl _ _ _ _, HW.out⟩
                 | (go_simp
                    first
                      | (with_reducible exact ⟨rfl, SApp.refl _ _ _ _, HW.out⟩)
                      | ((with_reducible show Calls _ _ #[Value.slice F1 _ _] _ _); refine (HX1.out W HW.out.i1).mono ?_; rintro e W1 ⟨rfl, rfl⟩; exact ⟨_, rfl, rfl, SApp.refl _ _ _ _, HW.out⟩)
                      | ((with_reducible show Calls _ _ #[Value.slice F2 _ _] _ _); refine (HX2.out W HW.out.i2).mono ?_; rintro e W1 ⟨rfl, rfl⟩; exact ⟨_, rfl, rfl, SApp.refl _ _ _ _, HW.out⟩))
             simp only [Act.put, List.setIfInBounds_toArray, List.set_cons_succ, List.set_cons_zero])
          refine' R2.WalkR.tp 112 (NewSl 1 #[.int .i64 s1, .int .i64 s2, .int .i64 t1, .int .i64 t2] 65) (fun _ => rfl) rfl rfl (fun o' v W W' _ hx hv hs _ => hv.keep v W W' (hs.1 hx)) (fun ρ W hW hH hU => ?_) ?_
          · clear hH hU
            have HW := Lib.hid hW
            clear hW
            go_simp
            exact ⟨⟨_, rfl, alloc_at0 _ _⟩, .of ((Below.refl _ _).alloc (Nat.le_refl _) _), HW.out.next ((Below.refl _ _).alloc (Nat.le_refl _) _)⟩
          simp only [Act.put, List.setIfInBounds_toArray, List.set_cons_succ, List.set_cons_zero]
          refine' R2.WalkR.nd (RowIs W0.heap.size 65 4 (out.length + 1) (quads (out ++ [(s1, s2, t1, t2)]))) (fun _ => rfl) rfl rfl (fun o' v W W' hx _ hv hs _ => ?_) (fun ρ W hW hH hU => ?_) ?_
          · obtain ⟨A', c', hv, ho⟩ := hv
            exact ⟨A', c', hv, own_grows ho (hs.1 hx)⟩
          · obtain ⟨g', hv, hg⟩ := hU.1 _ (.head _) (by first | decide +kernel | (dsimp only; decide +kernel)) rfl
            have ho := hU.2 rfl
            refine gives_app (.tmp 103) (.tmp 111) 49 rfl W0.heap.size 65 i0 _ 4 32 (v := .slice A out.length c) (n := out.length) (xs := quads out) Try.underlying49 HI0.out.1 HI0.out.2.1 HI0.out.2.2.1 HI0.out.2.2.2 rfl (by omega) rfl ho hv
              (vals_new (vs := quads [(s1, s2, t1, t2)]) hg (lt_of_heap hg)) (by rw [quads_len]; rfl) (quads_one _) (by simp only [maxLen]; omega) (by omega) hW.bel.size (fun v' w' ho' hgr => ?_)
            obtain ⟨A', c', rfl⟩ := own_slice ho'
            refine ⟨⟨A', c', rfl, ?_⟩, ⟨fun hx => absurd rfl hx, hgr⟩, hW.app HOB.out hgr⟩
            rw [quads_app]
            exact ho'
          simp only [Act.put, List.setIfInBounds_toArray, List.set_cons_succ, List.set_cons_zero]
          refine' R2.WalkR.nd (RowIs W0.heap.size 65 4 (out.length + 1) (quads (out ++ [(s1, s2, t1, t2)]))) (fun _ => rfl) rfl rfl (fun o' v W W' hx hu hv hs _ => ?_) (fun ρ W hW hH hU => ?_) ?_
          · obtain ⟨A', c', hv, ho⟩ := hv
            exact ⟨A', c', hv, own_grows ho (hs.1 (hu 112 (by first | decide +kernel | (dsimp only; decide +kernel))))⟩
          · have hv := hH _ (.head _) (by first | decide +kernel | (dsimp only; decide +kernel))
            clear hH hU
            have HW := Lib.hid (And.intro hv hW)
            clear hW hv
            go_simp
            exact ⟨HW.out.1, SApp.refl _ _ _ _, HW.out.2⟩
          simp only [Act.put, List.setIfInBounds_toArray, List.set_cons_succ, List.set_cons_zero]
          refine R2.WalkR.nil (fun ρ W hW hH hF => ?_)
          obtain ⟨A', c', hv, ho⟩ := hH _ (.head _)
          have hv' : ρ 12 = .slice A' (out.length + 1) c' := hv
          have hle : (out ++ [(s1, s2, t1, t2)]).length = out.length + 1 := by simp
          have hM1 := HMB.out.2
          have hO2 : RO W0 w2.heap.size g.hab d r b L ps zs (k + 1) A' c' F1 f1 F2 f2 (out ++ [(s1, s2, t1, t2)]) (yearL lo s1 n) (yearL hi s2 n) (11 * M) W :=
            ⟨by rw [hle, ← hv']; exact ho, by rw [List.append_assoc]; exact HSP.out, HN.out.2.2.2.2.2, by rw [Int.pow_succ]; omega, by have := HLEN.out; simp [this], hW.i1, hW.i2, HFX.out.1, HFX.out.2, hW.hH, hW.bel, hW.lH⟩
          have HO2 := Lib.hid hO2
          have HLE := Lib.hid hle
          rw [hv']
          clear hH hF hv hv' hM1 ho hO2 hW hle
          go_wp2
          go_roundg gg
          case measure => omega
          case rel => exact ⟨k + 1, A', c', F1, f1, F2, f2, out ++ [(s1, s2, t1, t2)], yearL lo s1 n, yearL hi s2 n, 11 * M, by omega, by go_num, by rw [HLE.out], rfl, rfl, HO2.out⟩

end Go.Proofs.Ytanjolmelbipoaa

