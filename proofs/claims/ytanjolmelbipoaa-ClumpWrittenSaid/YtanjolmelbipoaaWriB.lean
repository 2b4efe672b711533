/-
  The law ClumpWritten: a year that comes is written into the book.
-/
import Derived.Test.YtanjolmelbipoaaWriA
namespace Go.Proofs.Ytanjolmelbipoaa
open Go.RowKit Go.Shelf

attribute [local go_sem] gives

set_option maxRecDepth 100000 in
set_option maxHeartbeats 8000000 in
theorem clumpWritten_main (g : Gr) (ps : List (Int × Int)) (zs : List Int) (ys : List Int) (A1 : Option Addr) (c1 : Nat) (A2 : Option Addr) (c2 : Nat) (P1 : Option Addr) (k1 : Nat) (P2 : Option Addr) (k2 : Nat) (P3 : Option Addr) (k3 : Nat) (w : World) (hG : GrAt w w.heap.size g A1 c1 A2 c2)
    (hV1 : Vals w w.heap.size P1 (pairs ps)) (hV2 : Ints w w.heap.size P2 zs) (hV3 : ByAt w w.heap.size P3 ys) (hk1 : ps.length ≤ k1) (hk2 : zs.length ≤ k2) (hrd : readyB g ps = true) (hp : planOk zs ps.length = true) (hz2 : 2 ≤ zs.length) :
    Calls Try.prog 11 #[grv g A1 c1 A2 c2, .slice P1 ps.length k1, .slice P2 zs.length k2, .slice P3 ys.length k3] w fun e w' => e = .returned (.bool true) ∧ Below w.heap.size w w' := by
  have hrd2 := hrd
  simp only [readyB, Bool.and_eq_true, Bool.not_eq_true'] at hrd2
  obtain ⟨⟨hgr, hok⟩, hr⟩ := hrd2
  obtain ⟨d, r, R⟩ := okGrove_runs hok
  have hab := habOk_of hok R
  have h4 := (rainsOk_len hr).2
  have hzl := planOk_len hp
  have e1 : lookErr g ps zs = 0 := by simp [lookErr, hok, hr, hp]
  have hlv := lookVal_len g ps zs
  have hlk := fun B W hBW hGW h1 h2 => lookP_any g A1 c1 A2 c2 P1 k1 ps P2 k2 zs B W hBW hGW h1 h2 (by omega) (by omega)
  rw [e1] at hlk
  have hst := fun B W hBW hGW => stand_any g (g.first + g.seas.length) A1 c1 A2 c2 B W hBW hGW
  rw [(stand_last hok).1, (stand_last hok).2] at hst
  have hll := lastL_len R
  have hlb := lastL_bnd R
  have hls : (lastL g).length = g.start.length := by rw [hll, R.pre.ls]
  have hf0 := R.pre.f0
  have hf1 := R.pre.f1
  have h60 := R.pre.l60
  have hall := fun h0 (rate rain : Int) r0 r1 f0 f1 => written_all (rate := rate) (rain := rain) hok hr hp hz2 h0 r0 r1 f0 f1
  have hnok := fun (s n : Int) s0 n0 n1 hy => next_ok (g := g) (s := s) (n := n) hok s0 n0 n1 hy
  obtain ⟨b, hb⟩ : ∃ b, g.hab.bears.toNat = b := ⟨_, rfl⟩
  rw [hb] at hab hall
  obtain ⟨out, hout⟩ : ∃ out, out = lookVal g ps zs := ⟨_, rfl⟩
  rw [← hout] at hlv hlk hall
  have HOUT := Lib.hid hout
  obtain ⟨L, hL⟩ : ∃ L, L = lastL g := ⟨_, rfl⟩
  rw [← hL] at hll hlb hls hst hall hnok
  have HG := Lib.hid hG
  have HV := Lib.hid (And.intro hV1 (And.intro hV2 hV3))
  have HLK := Lib.hid hlk
  have HST := Lib.hid hst
  have HR := Lib.hid (And.intro hrd (And.intro hp (And.intro hr (And.intro hzl (And.intro hok hgr)))))
  have HH := Lib.hid hab
  have HALL := Lib.hid (And.intro hall hnok)
  have HE := Lib.hid (And.intro hll (And.intro hlb (And.intro hls R)))
  obtain ⟨w0, hw0⟩ : ∃ w0, w.alloc (.cells (gcs g A1 c1 A2 c2) 29) = w0 := ⟨_, rfl⟩
  have hb0 : Below w.heap.size w w0 := by rw [← hw0]; exact (Below.refl _ _).alloc (Nat.le_refl _) _
  have hs0 : w0.heap.size = w.heap.size + 1 := by rw [← hw0]; simp
  have hm0 : w0.heap[w.heap.size]? = some (.cells (gcs g A1 c1 A2 c2) 29 (0, 0)) := by rw [← hw0]; exact alloc_at0 w _
  have B0 := Lib.hid (And.intro hb0 (And.intro hm0 hs0))
  have hlsz : (L.length : Int) = g.start.length := by omega
  have hlv2 : (out.length : Int) ≤ zs.length := by omega
  have hz2z : (2 : Int) ≤ zs.length := by omega
  have hzp : (zs.length : Int) ≤ ps.length := by omega
  have hps2 : 2 ≤ ps.length := by omega
  have hps4 : ps.length ≤ 4 := by omega
  have hzs4 : zs.length ≤ 4 := by omega
  clear hG hV1 hV2 hV3 hb0 hm0 hs0 hlk hst hrd hp hr hzl hab hll hlb hls hgr hok R e1 hb hlv hall hnok hout hL
  simp only [gcs] at hw0
  unfold grv at HLK HST ⊢
  go_enter Try.func11, Try.ntmps11
  by_cases hne : out.length = 0
  · obtain rfl : out = [] := List.eq_nil_of_length_eq_zero hne
    clear hlv2 hne
    go_wp2_with (first
      | (go_at_call 28; refine (alive_any w0).mono ?_; rintro e w1 ⟨rfl, hB1⟩
         have hc1 := fun i => cell_of_row w1 w.heap.size i _ _ _ ((hB1.block _ (by have := B0.out.2.2; omega)).trans B0.out.2.1)
         have hs1 : w.heap.size < w1.heap.size := by have := B0.out.2.2; have := hB1.size; omega
         have H1 := Lib.hid (And.intro (B0.out.1.trans (hB1.mono (by have := B0.out.2.2; omega))) ((hB1.block _ (by have := B0.out.2.2; omega)).trans B0.out.2.1)); clear hB1)
      | (go_at_call 29; refine (ready_any g A1 c1 A2 c2 P1 k1 ps w.heap.size w1 H1.out.1.size (HG.out.below H1.out.1) (HV.out.1.below H1.out.1) (by omega)).mono ?_; rintro e w2 ⟨rfl, hB2⟩; rw [HR.out.1]
         have hc2 := fun i => cell_of_row w2 w.heap.size i _ _ _ ((hB2.block _ hs1).trans H1.out.2)
         have hs2 : w.heap.size < w2.heap.size := by have := hB2.size; omega
         have H2 := Lib.hid (And.intro (H1.out.1.trans (hB2.mono H1.out.1.size)) ((hB2.block _ hs1).trans H1.out.2)); clear hB2 hc1)
      | (go_at_call 30; refine (refPlan_any P1 k1 ps P2 k2 zs w.heap.size w2 (HV.out.2.1.below H2.out.1) (by omega) (by omega)).mono ?_; rintro e w3 ⟨rfl, rfl⟩; rw [HR.out.2.1])
      | (go_at_call 23; refine (HLK.out w.heap.size w2 H2.out.1.size (HG.out.below H2.out.1) (HV.out.1.below H2.out.1) (HV.out.2.1.below H2.out.1)).mono ?_; rintro e w4 ⟨D, q, rfl, -, hD, hB4⟩
         have hc4 := fun i => cell_of_row w4 w.heap.size i _ _ _ ((hB4.block _ hs2).trans H2.out.2)
         have hs4 : w.heap.size < w4.heap.size := by have := hB4.size; omega
         have H4 := Lib.hid (And.intro (H2.out.1.trans (hB4.mono H2.out.1.size)) (And.intro ((hB4.block _ hs2).trans H2.out.2) hD)); clear hB4 hc2 hD)
      | (go_at_call 14; refine (HST.out w.heap.size w4 H4.out.1.size (HG.out.below H4.out.1)).mono ?_; rintro e w5 ⟨E, q5, rfl, hq5, hE, -, hB5⟩
         have hc5 := fun i => cell_of_row w5 w.heap.size i _ _ _ ((hB5.block _ hs4).trans H4.out.2.1)
         have H5 := Lib.hid (H4.out.1.trans (hB5.mono H4.out.1.size)); clear hB5 hc4 hq5 hE))
    go_ret
    exact ⟨rfl, H5.out⟩
  have hne1 : ¬ (out.length : Int) = 0 := by omega
  have hne2 : ¬ out = [] := fun e => hne (by rw [e]; rfl)
  go_wp2_with (first
    | (go_at_call 28; refine (alive_any w0).mono ?_; rintro e w1 ⟨rfl, hB1⟩
       have hc1 := fun i => cell_of_row w1 w.heap.size i _ _ _ ((hB1.block _ (by have := B0.out.2.2; omega)).trans B0.out.2.1)
       have hs1 : w.heap.size < w1.heap.size := by have := B0.out.2.2; have := hB1.size; omega
       have H1 := Lib.hid (And.intro (B0.out.1.trans (hB1.mono (by have := B0.out.2.2; omega))) ((hB1.block _ (by have := B0.out.2.2; omega)).trans B0.out.2.1)); clear hB1)
    | (go_at_call 29; refine (ready_any g A1 c1 A2 c2 P1 k1 ps w.heap.size w1 H1.out.1.size (HG.out.below H1.out.1) (HV.out.1.below H1.out.1) (by omega)).mono ?_; rintro e w2 ⟨rfl, hB2⟩; rw [HR.out.1]
       have hc2 := fun i => cell_of_row w2 w.heap.size i _ _ _ ((hB2.block _ hs1).trans H1.out.2)
       have hs2 : w.heap.size < w2.heap.size := by have := hB2.size; omega
       have H2 := Lib.hid (And.intro (H1.out.1.trans (hB2.mono H1.out.1.size)) ((hB2.block _ hs1).trans H1.out.2)); clear hB2 hc1)
    | (go_at_call 30; refine (refPlan_any P1 k1 ps P2 k2 zs w.heap.size w2 (HV.out.2.1.below H2.out.1) (by omega) (by omega)).mono ?_; rintro e w3 ⟨rfl, rfl⟩; rw [HR.out.2.1])
    | (go_at_call 23; refine (HLK.out w.heap.size w2 H2.out.1.size (HG.out.below H2.out.1) (HV.out.1.below H2.out.1) (HV.out.2.1.below H2.out.1)).mono ?_; rintro e w4 ⟨F, q, rfl, -, hD, hB4⟩
       have hc4 := fun i => cell_of_row w4 w.heap.size i _ _ _ ((hB4.block _ hs2).trans H2.out.2)
       have hs4 : w.heap.size < w4.heap.size := by have := hB4.size; omega
       have H4 := Lib.hid (And.intro (H2.out.1.trans (hB4.mono H2.out.1.size)) (And.intro ((hB4.block _ hs2).trans H2.out.2) hD)); clear hB4 hc2 hD)
    | (go_at_call 14; refine (HST.out w.heap.size w4 H4.out.1.size (HG.out.below H4.out.1)).mono ?_; rintro e w5 ⟨E, q5, rfl, hq5, hE, -, hB5⟩
       have hs5 : w.heap.size < w5.heap.size := by have := hB5.size; omega
       have hc5 := fun i => cell_of_row w5 w.heap.size i _ _ _ ((hB5.block _ hs4).trans H4.out.2.1)
       have H5 := Lib.hid (And.intro (H4.out.1.trans (hB5.mono H4.out.1.size)) (And.intro ((hB5.block _ hs4).trans H4.out.2.1) (And.intro ((H4.out.2.2.below hB5).mono hB5.size) (And.intro hq5 hE)))); clear hB5 hc4 hq5 hE))
  obtain ⟨b1, off1, hA1, hb1, hq1⟩ := HV.out.1 (by rw [pairs_len]; omega)
  subst hA1
  obtain ⟨b2, off2, hA2, hb2, hq2⟩ := HV.out.2.1 (by omega)
  subst hA2
  have hpa := pairs_at ps 0 (by omega)
  have rn := rainsOk_at HR.out.2.2.1 (k := 0) (by omega)
  have hr0 : ∀ W, Below w5.heap.size w5 W → W.cell? ⟨b1, off1, none⟩ = _ := fun W hW => ((H5.out.1.trans (hW.mono H5.out.1.size)).cell (p := ⟨b1, off1, none⟩) hb1).trans (hq1 _ _ hpa.1)
  have hr1 : ∀ W, Below w5.heap.size w5 W → W.cell? ⟨b1, off1 + 1, none⟩ = _ := fun W hW => ((H5.out.1.trans (hW.mono H5.out.1.size)).cell (p := ⟨b1, off1 + 1, none⟩) hb1).trans (hq1 _ _ hpa.2)
  have hz0 : ∀ W, Below w5.heap.size w5 W → W.cell? ⟨b2, off2, none⟩ = _ := fun W hW => ((H5.out.1.trans (hW.mono H5.out.1.size)).cell (p := ⟨b2, off2, none⟩) hb2).trans (hq2 0 (by omega))
  have hall := HALL.out.1 (by omega)
  generalize ps[0]?.getD (0, 0) = x at rn hr0 hr1 hall
  obtain ⟨x1, x2⟩ := x
  simp only at rn hr0 hr1 hall
  obtain ⟨rn0, rn1, rn2⟩ := rn
  have hab := HH.out
  have hl0 := hab.l0
  have hlh := hab.lh
  have hh1 := hab.h1
  have hd6 := hab.d6
  have hbd := hab.bd
  have hv0 := atL_bnd HV.out.2.2 (i := 0)
  have hv1 := atL_bnd HV.out.2.2 (i := 1)
  have hat := fun (j : Int) (hj : 0 ≤ j) (W : World) (hW : Below w.heap.size w W) => at_any P3 k3 ys j hj w.heap.size W (HV.out.2.2.below hW).va HV.out.2.2.ln
  have hp0 := fun W => pick_any g.hab.lo g.hab.hi (atL ys 0) hl0 hlh (by omega) hv0.1 hv0.2 W
  have hp1 := fun W => pick_any x1 x2 (atL ys 1) rn0 rn1 (by omega) hv1.1 hv1.2 W
  have hb0' := pickL_bnd (n := atL ys 0) hlh
  have hb1' := pickL_bnd (n := atL ys 1) rn1
  generalize pickL g.hab.lo g.hab.hi (atL ys 0) = rate at hp0 hb0'
  generalize pickL x1 x2 (atL ys 1) = rain at hp1 hb1'
  obtain ⟨⟨hS0, hS1⟩, hN, hY, hnx⟩ := hall rate rain hb0'.1 hb0'.2 hb1'.1 hb1'.2
  have hsh := fun W hz => refShots_any g.hab b hab.hb E q5 L W.heap.size W (Nat.le_refl _) hz (by have := HE.out.1; omega) H5.out.2.2.2.1 (by have := HE.out.1; omega) (fun k hk => by have := HE.out.2.1 k hk; omega) rate rain (by omega) (by omega) (by omega) (by omega)
  generalize shotsL b L rate rain = S at hsh hS0 hS1 hY hnx
  generalize zs[0]?.getD 0 = N at hz0 hN hY hnx
  obtain ⟨hN0, hN1⟩ := hN
  have hno := HALL.out.2 S N hS0 hN0 hN1 hY
  have HC := Lib.hid (And.intro hat (And.intro hp0 (And.intro hp1 hsh)))
  have HNX := Lib.hid (And.intro hnx hno)
  have HC1 := Lib.hid (And.intro hr0 (And.intro hr1 hz0))
  have hi0 : (0 : Int) ≤ 0 := by omega
  have hi1 : (0 : Int) ≤ 1 := by omega
  have HQ := Lib.hid (And.intro hq1 (And.intro hq2 (And.intro hb1 hb2)))
  have hpl0 : 0 < ps.length := by omega
  have hzl0 : 0 < zs.length := by omega
  have hzlz : (0 : Int) < zs.length := by omega
  have hplz : (0 : Int) < ps.length := by omega
  clear hat hp0 hp1 hsh hall hpa hr0 hr1 hz0 hq1 hq2 hY hnx hno hab hc5
  refine R2.wp_walk (C := Below w5.heap.size w5) (S := fun _ => Grows) 197 (by kernel_rfl) (by kernel_rfl) rfl (fun _ => Grows.refl) (Below.refl _ _).drew ?_
  simp only []
  repeat (first
    | (refine' R2.WalkR.det (fun _ => rfl) rfl (fun ρ W hW hH hU => ?_) ?_
       rotate_left
       · clear hH hU
         have hcg := fun i => cell_of_row W w.heap.size i _ _ _ ((hW.block _ (lt_of_heap H5.out.2.1)).trans H5.out.2.1)
         have hx0 := HC1.out.1 W hW
         have hx1' := HC1.out.2.1 W hW
         have HB := Lib.hid (And.intro (H5.out.1.trans (hW.mono H5.out.1.size)) ((H5.out.2.2.2.2.below hW).mono hW.size))
         have HW := Lib.hid hW
         clear hW
         go_simp
         first
           | with_reducible exact ⟨rfl, Grows.refl _, HW.out⟩
           | ((with_reducible show Calls _ _ #[_, .int .i64 0] _ _); go_at_call 33; refine (HC.out.1 _ hi0 W HB.out.1).mono ?_; rintro e W1 ⟨rfl, rfl⟩; exact ⟨_, rfl, rfl, Grows.refl _, HW.out⟩)
           | ((with_reducible show Calls _ _ #[_, .int .i64 1] _ _); go_at_call 33; refine (HC.out.1 _ hi1 W HB.out.1).mono ?_; rintro e W1 ⟨rfl, rfl⟩; exact ⟨_, rfl, rfl, Grows.refl _, HW.out⟩)
           | ((with_reducible show Calls _ _ #[.agg #[.int .i64 g.hab.lo, _], _] _ _); go_at_call 32; refine (HC.out.2.1 W).mono ?_; rintro e W1 ⟨rfl, hB1⟩; exact ⟨_, rfl, rfl, hB1, HW.out.trans (hB1.mono HW.out.size)⟩)
           | ((with_reducible show Calls _ _ #[.agg #[.int .i64 x1, _], _] _ _); go_at_call 32; refine (HC.out.2.2.1 W).mono ?_; rintro e W1 ⟨rfl, hB1⟩; exact ⟨_, rfl, rfl, hB1, HW.out.trans (hB1.mono HW.out.size)⟩)
           | (go_at_call 31; refine (HC.out.2.2.2 W HB.out.2).mono ?_; rintro e W1 ⟨rfl, hB1⟩; exact ⟨_, rfl, rfl, hB1, HW.out.trans (hB1.mono HW.out.size)⟩)
       simp only [Act.put, List.setIfInBounds_toArray, List.set_cons_succ, List.set_cons_zero]))
  refine R2.WalkR.nil (fun ρ w8 hW hH hF => ?_)
  clear hH hF
  have hb8 := H5.out.1.trans (hW.mono H5.out.1.size)
  have hg8 : w8.heap[w.heap.size]? = some (.cells (gcs g A1 c1 A2 c2) 29 (0, 0)) := (hW.block _ (lt_of_heap H5.out.2.1)).trans H5.out.2.1
  have H8 := Lib.hid (And.intro hb8 (And.intro hg8 (And.intro ((H5.out.2.2.1.below hW).mono hW.size) hW)))
  have hc8 := fun i => cell_of_row w8 w.heap.size i _ _ _ hg8
  have hs8 := hb8.size
  clear hb8 hg8 hW
  go_wp2_with (first
    | (go_at_call 13; refine (refTwin_any g A1 c1 A2 c2 w.heap.size w8 H8.out.1.size (HG.out.below H8.out.1) HR.out.2.2.2.2.2).mono ?_; rintro e w9 ⟨g1, x1', g2, x2', rfl, hg1, hg2, hg12, ho1, ho2, hB9⟩
       have hs9 := hB9.size
       have H9 := Lib.hid (And.intro hB9 (And.intro ho1 ho2))
       clear hB9 ho1 ho2 hc8)
    | (show wpList _ _ _ (Oper.mk none (Op.store _ (Operand.tmp 16) (Operand.tmp 95)) _ _ _ _ :: _) _ _
       refine wpList_store_blk 29 (.tmp 16) (.tmp 95) (cs := (gcs g (some ⟨g1, 0, none⟩) x1' (some ⟨g2, 0, none⟩) x2').toList) (L := [.int .i64 0, .int .i64 0, .int .i64 0, .int .i64 0, .int .i64 0, .int .i64 0, .int .i64 0, .int .i64 0, .slice none 0 0, .slice none 0 0]) rfl rfl rfl rfl rfl
         (alloc_at0 w9 _) (by simp) (gcs_one _ _ _ _) rowApiGrove ?_
       intro w10 hP10 hM10
       rw [splice_whole (by simp)] at hM10
       have H10 := Lib.hid (And.intro hP10 hM10)
       clear hP10 hM10))
  obtain ⟨i0, hi0', hy0, hy1, hy2⟩ := info_parts Try.info76
  have HI0 := Lib.hid (And.intro hi0' (And.intro hy0 (And.intro hy1 hy2)))
  have hGA := alloc_at0 w9 (.cells [.int .i64 0, .int .i64 0, .int .i64 0, .int .i64 0, .int .i64 0, .int .i64 0, .int .i64 0, .int .i64 0, .slice none 0 0, .slice none 0 0].toArray 29)
  have o1 := own_type (own_grows H9.out.2.1 (grow1 w9 _)) hGA (by decide) H10.out.1
  have o2 := own_type (own_grows H9.out.2.2 (grow1 w9 _)) hGA (by decide) H10.out.1
  have hg1' : g1 < w9.heap.size := by
    rcases H9.out.2.1.2 with ⟨hv, _⟩ | ⟨q, cap, cur, hv, _, hh, _⟩
    · cases hv
    · simp only [Value.slice.injEq, Option.some.injEq, Addr.mk.injEq, and_true] at hv
      rw [hv.1]; exact lt_of_heap hh
  have hg2' : g2 < w9.heap.size := by
    rcases H9.out.2.2.2 with ⟨hv, _⟩ | ⟨q, cap, cur, hv, _, hh, _⟩
    · cases hv
    · simp only [Value.slice.injEq, Option.some.injEq, Addr.mk.injEq, and_true] at hv
      rw [hv.1]; exact lt_of_heap hh
  have hs10 : w10.heap.size = w9.heap.size + 1 := by rw [H10.out.1.size]; simp
  have hb10 : Below w8.heap.size w8 w10 := (H9.out.1.alloc hs9 _).trans (H10.out.1.below hs9)
  have hA0 : AppC w8 w9.heap.size g2 x2' (gcs g (some ⟨g1, 0, none⟩) x1' (some ⟨g2, 0, none⟩) x2') g.seas (S, N) g1 g.start (fun _ => false) (fun _ => undef) w10 :=
    ⟨hb10, hs9, hg2, by omega, by omega, by omega, (Vals.own o1).ints, fun _ => o2, fun e => (by cases e), fun e => (by cases e), fun _ => H10.out.2, fun e => (by cases e)⟩
  have HA0 := Lib.hid (And.intro hA0 (own_cap o1))
  clear hi0' hy0 hy1 hy2 hGA o1 o2 hs10 hb10 hA0
  refine R6.wp_walk (C := AppC w8 w9.heap.size g2 x2' (gcs g (some ⟨g1, 0, none⟩) x1' (some ⟨g2, 0, none⟩) x2') g.seas (S, N) g1 g.start) 197 (by kernel_rfl) (by kernel_rfl) rfl
    ⟨HA0.out.1.bel.drew, HA0.out.1.lbn, HA0.out.1.lg2, HA0.out.1.ne, HA0.out.1.ne1, HA0.out.1.sz, HA0.out.1.st1, HA0.out.1.own, fun e => (by cases e), fun e => (by cases e), HA0.out.1.bno, fun e => (by cases e)⟩ ?_
  simp only []
  repeat (first
    | (refine' R6.WalkR.det (fun _ => rfl) (fun D ρ W hK hC => ?_) ?_
       rotate_left
       · skip
         have HC := Lib.hid hC
         clear hC hK
         go_simp
         first
           | with_reducible exact ⟨rfl, HC.out.move (by decide)⟩
       simp only [Act.put, List.setIfInBounds_toArray, List.set_cons_succ, List.set_cons_zero]))
  refine' R6.WalkR.det (fun _ => rfl) (fun D ρ W hK hC => ?_) ?_
  rotate_left
  · have hcb := fun i => cell_of_row W w9.heap.size i _ _ _ (hC.bno (hK.post 10 (by first | decide +kernel | (dsimp only; decide +kernel))))
    have HC := Lib.hid hC
    clear hC hK
    go_simp
    exact ⟨rfl, HC.out.move (by decide)⟩
  simp only [Act.put, List.setIfInBounds_toArray, List.set_cons_succ, List.set_cons_zero]
  repeat (first
    | (refine' R6.WalkR.det (fun _ => rfl) (fun D ρ W hK hC => ?_) ?_
       rotate_left
       · have hz0 := HC1.out.2.2 W (H8.out.2.2.2.trans (hC.bel.mono H8.out.2.2.2.size))
         have HC := Lib.hid hC
         clear hC hK
         go_simp
         first
           | with_reducible exact ⟨rfl, HC.out.move (by decide)⟩
       simp only [Act.put, List.setIfInBounds_toArray, List.set_cons_succ, List.set_cons_zero]))
  refine' R6.WalkR.nd (fun _ => rfl) rfl (fun D ρ W hK hC => ?_) ?_
  · have h8 := hK.post 8 (by first | decide +kernel | (dsimp only; decide +kernel))
    have h10 := hK.post 10 (by first | decide +kernel | (dsimp only; decide +kernel))
    have HC := Lib.hid hC
    clear hC hK
    go_simp
    exact HC.out.new7 h8 h10
  simp only [Act.put, List.setIfInBounds_toArray, List.set_cons_succ, List.set_cons_zero]
  refine' R6.WalkR.nd (fun _ => rfl) rfl (fun D ρ W hK hC => ?_) ?_
  · have h7 := hK.pre 7 (by first | decide +kernel | (dsimp only; decide +kernel))
    have h10 := hK.post 10 (by first | decide +kernel | (dsimp only; decide +kernel))
    obtain ⟨b3, hv, hg⟩ := hC.new h7 hK.me
    refine gives_app (.tmp 97) (.tmp 103) 27 rfl w8.heap.size 76 i0 _ 2 16 (v := .slice (some ⟨g2, 0, none⟩) g.seas.length x2') (n := g.seas.length) (xs := pairs g.seas) Try.underlying27 HI0.out.1 HI0.out.2.1 HI0.out.2.2.1 HI0.out.2.2.2 rfl (by omega) rfl (hC.own hK.me) hv
      (vals_new (vs := pairs [(S, N)]) hg (lt_of_heap hg)) (by rw [pairs_len]; rfl) (oneCells_pairs _) (by simp only [maxLen]; omega) (by omega) hC.bel.size (fun v' w' ho' hgr => ?_)
    rw [← pairs_app] at ho'
    exact hC.app8 h10 ho' hgr
  simp only [Act.put, List.setIfInBounds_toArray, List.set_cons_succ, List.set_cons_zero]
  repeat (first
    | (refine' R6.WalkR.det (fun _ => rfl) (fun D ρ W hK hC => ?_) ?_
       rotate_left
       · skip
         have HC := Lib.hid hC
         clear hC hK
         go_simp
         first
           | with_reducible exact ⟨rfl, HC.out.move (by decide)⟩
       simp only [Act.put, List.setIfInBounds_toArray, List.set_cons_succ, List.set_cons_zero]))
  refine' R6.WalkR.det (c := undef) (fun _ => rfl) (fun D ρ W hK hC => ?_) ?_
  · have h8 := hK.pre 8 (by first | decide +kernel | (dsimp only; decide +kernel))
    obtain ⟨A', c', hv, ho'⟩ := hC.row h8
    refine gives_store_val 27 (.tmp 105) (.tmp 104) rfl rfl (v := ρ 104) rfl (by rw [hv]; rfl) (by rw [hv]; rfl) (L := (gcs g (some ⟨g1, 0, none⟩) x1' (some ⟨g2, 0, none⟩) x2').toList) (hC.bno hK.me) (by simp) (by kernel_rfl) (fun W' hP hM => ⟨rfl, ?_⟩)
    show AppC _ _ _ _ _ _ _ _ _ _ (R4.upd ρ none undef) _
    rw [upd_none]
    exact hC.put10 h8 hK.me hP hM
  simp only [Act.put]
  refine R6.WalkR.nil (fun D ρ w11 hD hC => ?_)
  obtain ⟨A', c', hv, ho'⟩ := hC.row (hD 8 (by decide))
  have hbn := hC.bnn (hD 10 (by decide))
  rw [hv] at ho' hbn
  have hbn' : w11.heap[w9.heap.size]? = some (.cells (gcs (nextG g S N) (some ⟨g1, 0, none⟩) x1' A' c') 29 (0, 0)) := by
    rw [hbn]
    simp [gcs, nextG]
  have hGN : GrAt w11 w11.heap.size (nextG g S N) (some ⟨g1, 0, none⟩) x1' A' c' := next_gr hC.st1 HA0.out.2 HG.out.len1 h60 ho'
  have hb11 : Below w5.heap.size w5 w11 := H8.out.2.2.2.trans (hC.bel.mono H8.out.2.2.2.size)
  rw [hv]
  have H11 := Lib.hid (And.intro hb11 (And.intro hbn' hGN))
  clear hv ho' hbn hbn' hGN hb11 hC hD
  have hfn : (nextG g S N).first = g.first := rfl
  have hln : (nextG g S N).seas.length = g.seas.length + 1 := by simp [nextG]
  have hf0' : 0 ≤ (nextG g S N).first := by omega
  have hf1' : (nextG g S N).first ≤ 3000 := by omega
  have h61 : (nextG g S N).seas.length ≤ 61 := by omega
  have hc11 := fun i => cell_of_row w11 w9.heap.size i _ _ _ H11.out.2.1
  have hs11 := lt_of_heap H11.out.2.1
  have hck := refCheck_any (nextG g S N) (some ⟨g1, 0, none⟩) x1' A' c' w11.heap.size w11 (Nat.le_refl _) H11.out.2.2
  cases hok2 : okGrove (nextG g S N) with
  | false =>
    have he : errG (nextG g S N) = 10 := by simp [errG, hok2]
    rw [he] at hck
    have hbad := HNX.out.2
    rw [hok2] at hbad
    have hcase : 30 < S ∨ (S ≤ 30 ∧ (60 : Int) < (nextG g S N).seas.length) ∨ (S ≤ 30 ∧ ((nextG g S N).seas.length : Int) ≤ 60 ∧ 3000 < (nextG g S N).first + ((nextG g S N).seas.length : Int)) := by
      have hb2 := hbad.symm
      simp only [Bool.and_eq_false_iff, decide_eq_false_iff_not] at hb2
      rw [hfn, hln]
      omega
    have HCK := Lib.hid hck
    clear hck he hbad hok2 hfn hln
    rcases hcase with h1 | ⟨h1, h2⟩ | ⟨h1, h2, h3⟩
    all_goals
      go_wp2_with (go_at_call 19; refine HCK.out.mono ?_; rintro e w12 ⟨rfl, hB12⟩
                   have hc12 := fun i => cell_of_row w12 w9.heap.size i _ _ _ ((hB12.block _ hs11).trans H11.out.2.1)
                   have H12 := Lib.hid (H5.out.1.trans ((H11.out.1.trans (hB12.mono H11.out.1.size)).mono H5.out.1.size))
                   clear hB12 hc11)
      go_ret
      exact ⟨rfl, H12.out⟩
  | true =>
    have he : errG (nextG g S N) = 0 := by simp [errG, hok2]
    rw [he] at hck
    obtain ⟨hle, hwi⟩ := HNX.out.1 hok2
    have HCK := Lib.hid hck
    have hout2 : (out.drop 1).length ≤ (lookVal (nextG g S N) (ps.drop 1) (zs.drop 1)).length := hwi.1
    have HWI := Lib.hid (And.intro hle hwi)
    obtain ⟨l, hl⟩ : ∃ l, l = lookVal (nextG g S N) (ps.drop 1) (zs.drop 1) := ⟨_, rfl⟩
    rw [← hl, List.length_drop] at hout2
    have hll2 : l.length ≤ 4 := by
      have := lookVal_len (nextG g S N) (ps.drop 1) (zs.drop 1)
      rw [← hl, List.length_drop] at this
      omega
    have hlo : (out.length : Int) - 1 ≤ l.length := by omega
    have HL := Lib.hid hl
    clear hck he hok2 hfn hln hle hwi hout2 hl
    go_wp2_with (go_at_call 19; refine HCK.out.mono ?_; rintro e w12 ⟨rfl, hB12⟩
                 have hc12 := fun i => cell_of_row w12 w9.heap.size i _ _ _ ((hB12.block _ hs11).trans H11.out.2.1)
                 have H12 := Lib.hid (And.intro (H5.out.1.trans ((H11.out.1.trans (hB12.mono H11.out.1.size)).mono H5.out.1.size)) (And.intro ((hB12.block _ hs11).trans H11.out.2.1) (And.intro ((H11.out.2.2.below hB12).mono hB12.size) (H11.out.1.trans (hB12.mono H11.out.1.size)))))
                 clear hB12 hc11)
    have hk1n : ¬ k1 = 1 := by omega
    have hk2n : ¬ k2 = 1 := by omega
    have hk1z : (ps.length : Int) ≤ k1 := by omega
    have hk2z : (zs.length : Int) ≤ k2 := by omega
    have h1p : (1 : Int) ≤ ps.length := by omega
    have h1z : (1 : Int) ≤ zs.length := by omega
    have h1p' : 1 ≤ ps.length := by omega
    have h1z' : 1 ≤ zs.length := by omega
    have hlk2 : ∀ W, Below w12.heap.size w12 W → Calls Try.prog 23 #[grv (nextG g S N) (some ⟨g1, 0, none⟩) x1' A' c', .slice (some ⟨b1, off1 + 2, none⟩) (ps.length - 1) (k1 - 1), .slice (some ⟨b2, off2 + 1, none⟩) (zs.length - 1) (k2 - 1)] W (LookPost W l 0) := fun W hW => by
      have hbw := H12.out.1.trans (hW.mono H12.out.1.size)
      have hsz := hbw.size
      have hv1 : Vals W W.heap.size (some ⟨b1, off1 + 2, none⟩) (pairs (ps.drop 1)) := fun _ => ⟨b1, off1 + 2, rfl, by have := HQ.out.2.2.1; omega, fun j u hj => by
        rw [pairs_drop, List.getElem?_drop] at hj
        rw [Nat.add_assoc]
        exact (hbw.cell (p := ⟨b1, off1 + (2 + j), none⟩) HQ.out.2.2.1).trans (HQ.out.1 _ _ hj)⟩
      have hv2 : Ints W W.heap.size (some ⟨b2, off2 + 1, none⟩) (zs.drop 1) := fun _ => ⟨b2, off2 + 1, rfl, by have := HQ.out.2.2.2; omega, fun j hj => by
        rw [List.length_drop] at hj
        rw [Nat.add_assoc, List.getElem?_drop]
        exact (hbw.cell (p := ⟨b2, off2 + (1 + j), none⟩) HQ.out.2.2.2).trans (HQ.out.2.1 _ (by omega))⟩
      have H := lookP_any (nextG g S N) (some ⟨g1, 0, none⟩) x1' A' c' (some ⟨b1, off1 + 2, none⟩) (k1 - 1) (ps.drop 1) (some ⟨b2, off2 + 1, none⟩) (k2 - 1) (zs.drop 1) W.heap.size W (Nat.le_refl _) ((H12.out.2.2.1.below hW).mono hW.size) hv1 hv2 (by rw [List.length_drop]; omega) (by rw [List.length_drop]; omega)
      rw [List.length_drop, List.length_drop, HWI.out.1, ← HL.out] at H
      exact H
    have HLK2 := Lib.hid hlk2
    clear hlk2 hc12
    refine R6.wp_walk (C := LkC w12 l) 197 (by kernel_rfl) (by kernel_rfl) rfl ⟨(Below.refl _ _).drew, fun e => (by cases e)⟩ ?_
    simp only []
    repeat (first
      | (refine' R6.WalkR.det (fun _ => rfl) (fun D ρ W hK hC => ?_) ?_
         rotate_left
         · have hcb := fun i => cell_of_row W w9.heap.size i _ _ _ ((hC.bel.block _ (lt_of_heap H12.out.2.1)).trans H12.out.2.1)
           have HC := Lib.hid hC
           clear hC hK
           go_simp
           first
             | with_reducible exact ⟨rfl, HC.out.move (by decide)⟩
         simp only [Act.put, List.setIfInBounds_toArray, List.set_cons_succ, List.set_cons_zero]))
    refine' R6.WalkR.nd (fun _ => rfl) rfl (fun D ρ W hK hC => ?_) ?_
    · have HC := Lib.hid hC
      clear hC hK
      go_simp
      go_at_call 23
      refine (HLK2.out W HC.out.bel).mono ?_
      rintro e W1 ⟨X, x, rfl, -, hX, hB⟩
      refine ⟨_, rfl, HC.out.bel.trans (hB.mono HC.out.bel.size), fun _ => ⟨X, x, R6.upd_me, hX⟩⟩
    simp only [Act.put, List.setIfInBounds_toArray, List.set_cons_succ, List.set_cons_zero]
    refine' R6.WalkR.fn 135 (fun v => v) (fun _ => rfl) (by first | decide +kernel | (dsimp only; decide +kernel)) (fun D ρ W hK hC => ?_) ?_
    · obtain ⟨X, x, hv, -⟩ := hC.res (hK.pre 5 (by first | decide +kernel | (dsimp only; decide +kernel)))
      have HC := Lib.hid hC
      clear hC hK
      go_simp
      first
        | exact HC.out.move (by decide)
        | exact ⟨by rw [hv]; rfl, HC.out.move (by decide)⟩
        | exact ⟨rfl, HC.out.move (by decide)⟩
    simp only [Act.put, List.setIfInBounds_toArray, List.set_cons_succ, List.set_cons_zero]
    refine' R6.WalkR.fn 135 (fun v => tupAt v 0) (fun _ => rfl) (by first | decide +kernel | (dsimp only; decide +kernel)) (fun D ρ W hK hC => ?_) ?_
    · obtain ⟨X, x, hv, -⟩ := hC.res (hK.pre 5 (by first | decide +kernel | (dsimp only; decide +kernel)))
      have HC := Lib.hid hC
      clear hC hK
      go_simp
      first
        | exact HC.out.move (by decide)
        | exact ⟨by rw [hv]; rfl, HC.out.move (by decide)⟩
        | exact ⟨rfl, HC.out.move (by decide)⟩
    simp only [Act.put, List.setIfInBounds_toArray, List.set_cons_succ, List.set_cons_zero]
    refine' R6.WalkR.det (fun _ => rfl) (fun D ρ W hK hC => ?_) ?_
    rotate_left
    · obtain ⟨X, x, hv, -⟩ := hC.res (hK.pre 5 (by first | decide +kernel | (dsimp only; decide +kernel)))
      have HC := Lib.hid hC
      clear hC hK
      go_simp
      exact ⟨rfl, HC.out.move (by decide)⟩
    simp only [Act.put, List.setIfInBounds_toArray, List.set_cons_succ, List.set_cons_zero]
    refine' R6.WalkR.det (fun _ => rfl) (fun D ρ W hK hC => ?_) ?_
    rotate_left
    · obtain ⟨X, x, hv, -⟩ := hC.res (hK.pre 5 (by first | decide +kernel | (dsimp only; decide +kernel)))
      have HC := Lib.hid hC
      clear hC hK
      go_simp
      exact ⟨rfl, HC.out.move (by decide)⟩
    simp only [Act.put, List.setIfInBounds_toArray, List.set_cons_succ, List.set_cons_zero]
    refine' R6.WalkR.fn 135 (fun v => tupAt v 0) (fun _ => rfl) (by first | decide +kernel | (dsimp only; decide +kernel)) (fun D ρ W hK hC => ?_) ?_
    · obtain ⟨X, x, hv, -⟩ := hC.res (hK.pre 5 (by first | decide +kernel | (dsimp only; decide +kernel)))
      have HC := Lib.hid hC
      clear hC hK
      go_simp
      first
        | exact HC.out.move (by decide)
        | exact ⟨by rw [hv]; rfl, HC.out.move (by decide)⟩
        | exact ⟨rfl, HC.out.move (by decide)⟩
    simp only [Act.put, List.setIfInBounds_toArray, List.set_cons_succ, List.set_cons_zero]
    refine' R6.WalkR.det (fun _ => rfl) (fun D ρ W hK hC => ?_) ?_
    rotate_left
    · obtain ⟨X, x, hv, -⟩ := hC.res (hK.pre 5 (by first | decide +kernel | (dsimp only; decide +kernel)))
      have HC := Lib.hid hC
      clear hC hK
      go_simp
      exact ⟨rfl, HC.out.move (by decide)⟩
    simp only [Act.put, List.setIfInBounds_toArray, List.set_cons_succ, List.set_cons_zero]
    refine' R6.WalkR.det (fun _ => rfl) (fun D ρ W hK hC => ?_) ?_
    rotate_left
    · obtain ⟨X, x, hv, -⟩ := hC.res (hK.pre 5 (by first | decide +kernel | (dsimp only; decide +kernel)))
      have HC := Lib.hid hC
      clear hC hK
      go_simp
      exact ⟨rfl, HC.out.move (by decide)⟩
    simp only [Act.put, List.setIfInBounds_toArray, List.set_cons_succ, List.set_cons_zero]
    refine R6.WalkR.nil (fun D ρ w13 hD hC => ?_)
    obtain ⟨X, x, hv, hX⟩ := hC.res (hD 5 (by decide))
    have hb13 := hC.bel
    have H13 := Lib.hid (And.intro hb13 hX)
    simp only [hv, tupAt]
    clear hD hC hX hb13 hv
    simp only [show ∀ (a b c : Value), (#[a, b, c] : Array Value).getD 0 undef = a from fun _ _ _ => rfl]
    go_wp2
    go_loopg [149] (out.length - 1) (fun gg s149 wx => ∃ (i : Nat), i + gg = out.length - 1 ∧ s149 = .int .i64 i ∧ Hid (Below w13.heap.size w13 wx))
    case atStart => exact ⟨0, by omega, rfl, Below.refl _ _⟩
    case round =>
      obtain ⟨i, hig, rfl, hI⟩ := hrel
      cases gk with
      | zero =>
        have hiz : (out.length : Int) - 1 ≤ i := by omega
        go_wp2
        go_ret
        exact ⟨rfl, H12.out.1.trans ((H13.out.1.trans (hI.out.mono H13.out.1.size)).mono H12.out.1.size)⟩
      | succ gg =>
        have hiz : (i : Int) < (out.length : Int) - 1 := by omega
        have hi1 : (i : Int) + 1 < out.length := by omega
        have hi2 : i + 1 < out.length := by omega
        have hi3 : i < l.length := by omega
        have hi4 : (i : Int) < l.length := by omega
        have hi5 : (0 : Int) ≤ (i : Int) + 1 := by omega
        have hi6 : ((i : Int) + 1).toNat = i + 1 := by omega
        have hx1 : IntKind.i64.wrap ((i : Int) + 1) = (i : Int) + 1 := IntWalk.i64_in _ (by omega)
        obtain ⟨bX, oX, hX1, hX2, hX3⟩ := H13.out.2 (by rw [quads_len]; omega)
        obtain ⟨bF, oF, hF1, hF2, hF3⟩ := H5.out.2.2.1 (by rw [quads_len]; omega)
        subst hX1 hF1
        have hqx := quads_at l i hi3
        have hqf := quads_at out (i + 1) hi2
        have hbw : ∀ W, Below wr.heap.size wr W → Below w13.heap.size w13 W := fun W hW => hI.out.trans (hW.mono hI.out.size)
        have hbw5 : ∀ W, Below wr.heap.size wr W → Below w5.heap.size w5 W := fun W hW => H12.out.2.2.2.trans ((H13.out.1.trans ((hbw W hW).mono H13.out.1.size)).mono H12.out.2.2.2.size)
        have hXc : ∀ j v, (quads l)[i * 4 + j]? = some v → ∀ W, Below wr.heap.size wr W → W.cell? ⟨bX, oX + i * 4 + j, none⟩ = some v := fun j v hj W hW => by
          have h1 := hX3 _ _ hj
          rw [show oX + (i * 4 + j) = oX + i * 4 + j by omega] at h1
          exact ((hbw W hW).cell (p := ⟨bX, oX + i * 4 + j, none⟩) hX2).trans h1
        have hFc : ∀ j v, (quads out)[(i + 1) * 4 + j]? = some v → ∀ W, Below wr.heap.size wr W → W.cell? ⟨bF, oF + (i + 1) * 4 + j, none⟩ = some v := fun j v hj W hW => by
          have h1 := hF3 _ _ hj
          rw [show oF + ((i + 1) * 4 + j) = oF + (i + 1) * 4 + j by omega] at h1
          exact ((hbw5 W hW).cell (p := ⟨bF, oF + (i + 1) * 4 + j, none⟩) hF2).trans h1
        have hW4 := HWI.out.2.2 i (by rw [List.length_drop]; omega)
        rw [← HL.out, List.getElem?_drop, show 1 + i = i + 1 by omega] at hW4
        have a0 := hXc 0 _ hqx.1
        have a1 := hXc 1 _ hqx.2.1
        have a2 := hXc 2 _ hqx.2.2.1
        have a3 := hXc 3 _ hqx.2.2.2
        have f0 := hFc 0 _ hqf.1
        have f1 := hFc 1 _ hqf.2.1
        have f2 := hFc 2 _ hqf.2.2.1
        have f3 := hFc 3 _ hqf.2.2.2
        simp only [Nat.add_zero] at a0 f0
        generalize l[i]?.getD (0, 0, 0, 0) = qa at hW4 a0 a1 a2 a3
        generalize out[i + 1]?.getD (0, 0, 0, 0) = qf at hW4 f0 f1 f2 f3
        obtain ⟨qa0, qa1, qa2, qa3⟩ := qa
        obtain ⟨qf0, qf1, qf2, qf3⟩ := qf
        simp only at hW4 a0 a1 a2 a3 f0 f1 f2 f3
        obtain ⟨hw0, hw1, hw2, hw3⟩ := hW4
        have HCC := Lib.hid (And.intro a0 (And.intro a1 (And.intro a2 (And.intro a3 (And.intro f0 (And.intro f1 (And.intro f2 f3)))))))
        have HBW := Lib.hid (And.intro hbw hbw5)
        clear a0 a1 a2 a3 f0 f1 f2 f3 hXc hFc hqx hqf hX3 hF3 hbw hbw5
        go_wp2
        refine R6.wp_walk (C := TwoC wr (quad (qa0, qa1, qa2, qa3)) (quad (qf0, qf1, qf2, qf3))) 197 (by kernel_rfl) (by kernel_rfl) rfl ⟨(Below.refl _ _).drew, fun e => (by cases e), fun e => (by cases e), fun e => (by cases e)⟩ ?_
        simp only []
        repeat (first
          | (refine' R6.WalkR.det (fun _ => rfl) (fun D ρ W hK hC => ?_) ?_
             rotate_left
             · have a0 := HCC.out.1 W hC.bel
               have a1 := HCC.out.2.1 W hC.bel
               have a2 := HCC.out.2.2.1 W hC.bel
               have a3 := HCC.out.2.2.2.1 W hC.bel
               have f0 := HCC.out.2.2.2.2.1 W hC.bel
               have f1 := HCC.out.2.2.2.2.2.1 W hC.bel
               have f2 := HCC.out.2.2.2.2.2.2.1 W hC.bel
               have f3 := HCC.out.2.2.2.2.2.2.2 W hC.bel
               have HC := Lib.hid hC
               clear hC hK
               go_simp
               first
                 | with_reducible exact ⟨rfl, HC.out.move (by decide)⟩
             simp only [Act.put, List.setIfInBounds_toArray, List.set_cons_succ, List.set_cons_zero]))
        refine' R6.WalkR.nd (fun _ => rfl) rfl (fun D ρ W hK hC => ?_) ?_
        · have h11 := hK.post 11 (by first | decide +kernel | (dsimp only; decide +kernel))
          have HC := Lib.hid hC
          clear hC hK
          go_simp
          exact HC.out.newA h11
        simp only [Act.put, List.setIfInBounds_toArray, List.set_cons_succ, List.set_cons_zero]
        refine' R6.WalkR.nd (fun _ => rfl) rfl (fun D ρ W hK hC => ?_) ?_
        · have h12 := hK.post 12 (by first | decide +kernel | (dsimp only; decide +kernel))
          have HC := Lib.hid hC
          clear hC hK
          go_simp
          exact HC.out.newB h12
        simp only [Act.put, List.setIfInBounds_toArray, List.set_cons_succ, List.set_cons_zero]
        refine' R6.WalkR.det (c := undef) (fun _ => rfl) (fun D ρ W hK hC => ?_) ?_
        · have h9 := hK.pre 9 (by first | decide +kernel | (dsimp only; decide +kernel))
          obtain ⟨ba, hv, hn, hm⟩ := hC.a h9
          have hm' : W.heap[ba]? = some (.cells zero4.toArray 65 (0, 0)) := by rw [hm, hK.me]; rfl
          refine gives_store_blk 65 (.tmp 21) (.tmp 155) rfl hv (cs := quad (qa0, qa1, qa2, qa3)) rfl hm' (by simp [quad, zero4]) (quad_one _) rowAhead4 (fun W' hP hM => ⟨rfl, ?_⟩)
          rw [splice_whole (by simp [quad, zero4])] at hM
          show TwoC _ _ _ _ (R4.upd ρ none undef) _
          rw [upd_none]
          exact hC.putA h9 hv hP hM
        simp only [Act.put]
        refine' R6.WalkR.det (c := undef) (fun _ => rfl) (fun D ρ W hK hC => ?_) ?_
        · have h10 := hK.pre 10 (by first | decide +kernel | (dsimp only; decide +kernel))
          obtain ⟨ba, hv, hn, hm⟩ := hC.b h10
          have hm' : W.heap[ba]? = some (.cells zero4.toArray 65 (0, 0)) := by rw [hm, hK.me]; rfl
          refine gives_store_blk 65 (.tmp 22) (.tmp 160) rfl hv (cs := quad (qf0, qf1, qf2, qf3)) rfl hm' (by simp [quad, zero4]) (quad_one _) rowAhead4 (fun W' hP hM => ⟨rfl, ?_⟩)
          rw [splice_whole (by simp [quad, zero4])] at hM
          show TwoC _ _ _ _ (R4.upd ρ none undef) _
          rw [upd_none]
          exact hC.putB h10 hv hP hM
        simp only [Act.put]
        refine R6.WalkR.nil (fun D ρ w14 hD hC => ?_)
        obtain ⟨ba, hva, -, hma⟩ := hC.a (hD 9 (by decide))
        obtain ⟨bb, hvb, -, hmb⟩ := hC.b (hD 10 (by decide))
        rw [hD 11 (by decide)] at hma
        rw [hD 12 (by decide)] at hmb
        rw [hva, hvb]
        have hca := fun i => cell_of_row w14 ba i #[.int .i64 qa0, .int .i64 qa1, .int .i64 qa2, .int .i64 qa3] _ _ hma
        have hcb := fun i => cell_of_row w14 bb i #[.int .i64 qf0, .int .i64 qf1, .int .i64 qf2, .int .i64 qf3] _ _ hmb
        have HB14 := Lib.hid hC.bel
        clear hD hC hva hvb hma hmb
        go_wp2
        go_roundg gg
        case measure => omega
        case rel => exact ⟨i + 1, by omega, by go_num, hI.out.trans (HB14.out.mono hI.out.size)⟩

theorem clumpWritten_law (g : Gr) (ps : List (Int × Int)) (zs : List Int) (ys : List Int) (A1 : Option Addr) (c1 : Nat) (A2 : Option Addr) (c2 : Nat) (P1 : Option Addr) (k1 : Nat) (P2 : Option Addr) (k2 : Nat) (P3 : Option Addr) (k3 : Nat) (w : World) (hG : GrAt w w.heap.size g A1 c1 A2 c2)
    (hV1 : Vals w w.heap.size P1 (pairs ps)) (hV2 : Ints w w.heap.size P2 zs) (hV3 : ByAt w w.heap.size P3 ys) (l1 : ps.length ≤ 9223372036854775807) (l2 : zs.length ≤ 9223372036854775807) (hk1 : ps.length ≤ k1) (hk2 : zs.length ≤ k2) :
    Calls Try.prog 11 #[grv g A1 c1 A2 c2, .slice P1 ps.length k1, .slice P2 zs.length k2, .slice P3 ys.length k3] w fun e w' => e = .returned (.bool true) ∧ Below w.heap.size w w' := by
  by_cases h : readyB g ps = false ∨ planOk zs ps.length = false ∨ zs.length < 2
  · exact clumpWritten_idle g ps zs A1 c1 A2 c2 P1 k1 P2 k2 P3 k3 ys.length w hG hV1 hV2 l1 l2 h
  · simp only [not_or, Bool.not_eq_false] at h
    exact clumpWritten_main g ps zs ys A1 c1 A2 c2 P1 k1 P2 k2 P3 k3 w hG hV1 hV2 hV3 hk1 hk2 h.1 h.2.1 (by omega)

end Go.Proofs.Ytanjolmelbipoaa
