/-
  The law ClumpTrue; its arguments opened.
-/
import Derived.Test.YtanjolmelbipoaaZL
import Derived.Test.YtanjolmelbipoaaZF
import Derived.Deep.LoopGhost
import Derived.Test.YtanjolmelbipoaaYL
namespace Go.Proofs.Ytanjolmelbipoaa
open Go.RowKit Go.Shelf

attribute [local go_sem] gives

/-- Numbers of 32 bits lie in memory. -/
structure ByAt (w : World) (B : Nat) (A : Option Addr) (l : List Int) : Prop where
  va : Vals w B A (u32s l)
  rg : ∀ k, k < l.length → 0 ≤ l[k]?.getD 0 ∧ l[k]?.getD 0 < 4294967296
  ln : l.length ≤ 9223372036854775807
theorem ByAt.below {w w' : World} {B : Nat} {A : Option Addr} {l : List Int} (h : ByAt w B A l) (hb : Below B w w') : ByAt w' B A l := ⟨h.va.below hb, h.rg, h.ln⟩
theorem atL_bnd {w : World} {B : Nat} {A : Option Addr} {l : List Int} (h : ByAt w B A l) {i : Int} : 0 ≤ atL l i ∧ atL l i < 4294967296 := by
  unfold atL
  split
  · omega
  · have hm0 := Int.emod_nonneg i (show (l.length : Int) ≠ 0 by omega)
    have hm1 := Int.emod_lt_of_pos i (show (0 : Int) < l.length by omega)
    exact h.rg _ (by omega)

set_option maxRecDepth 100000 in
set_option maxHeartbeats 4000000 in
theorem clumpTrue_idle (g : Gr) (ps : List (Int × Int)) (zs : List Int) (A1 : Option Addr) (c1 : Nat) (A2 : Option Addr) (c2 : Nat) (P1 : Option Addr) (k1 : Nat) (P2 : Option Addr) (k2 : Nat) (P3 : Option Addr) (k3 n3 : Nat) (w : World) (hG : GrAt w w.heap.size g A1 c1 A2 c2)
    (hV1 : Vals w w.heap.size P1 (pairs ps)) (hV2 : Ints w w.heap.size P2 zs) (l1 : ps.length ≤ 9223372036854775807) (l2 : zs.length ≤ 9223372036854775807)
    (h : readyB g ps = false ∨ planOk zs ps.length = false) :
    Calls Try.prog 6 #[grv g A1 c1 A2 c2, .slice P1 ps.length k1, .slice P2 zs.length k2, .slice P3 n3 k3] w fun e w' => e = .returned (.bool true) ∧ Below w.heap.size w w' := by
  have HG := Lib.hid hG
  have HV := Lib.hid (And.intro hV1 hV2)
  obtain ⟨w0, hw0⟩ : ∃ w0, w.alloc (.cells (gcs g A1 c1 A2 c2) 29) = w0 := ⟨_, rfl⟩
  have hb0 : Below w.heap.size w w0 := by rw [← hw0]; exact (Below.refl _ _).alloc (Nat.le_refl _) _
  have hs0 : w0.heap.size = w.heap.size + 1 := by rw [← hw0]; simp
  have hm0 : w0.heap[w.heap.size]? = some (.cells (gcs g A1 c1 A2 c2) 29 (0, 0)) := by rw [← hw0]; exact alloc_at0 w _
  have B0 := Lib.hid (And.intro hb0 (And.intro hm0 hs0))
  clear hG hV1 hV2 hb0 hm0 hs0
  simp only [gcs] at hw0
  unfold grv
  rcases Bool.eq_false_or_eq_true (readyB g ps) with hr | hr
  · have hp : planOk zs ps.length = false := h.resolve_left (by rw [hr]; decide)
    have HR := Lib.hid (And.intro hr hp)
    clear h hr hp
    go_enter Try.func6, Try.ntmps6
    go_wp2_with (first
      | (go_at_call 28; refine (alive_any w0).mono ?_; rintro e w1 ⟨rfl, hB1⟩
         have hc1 := fun i => cell_of_row w1 w.heap.size i _ _ _ ((hB1.block _ (by have := B0.out.2.2; omega)).trans B0.out.2.1)
         have H1 := Lib.hid (B0.out.1.trans (hB1.mono (by have := B0.out.2.2; omega))); clear hB1)
      | (go_at_call 29; refine (ready_any g A1 c1 A2 c2 P1 k1 ps w.heap.size w1 H1.out.size (HG.out.below H1.out) (HV.out.1.below H1.out) l1).mono ?_; rintro e w2 ⟨rfl, hB2⟩; rw [HR.out.1]
         have H2 := Lib.hid (H1.out.trans (hB2.mono H1.out.size)); clear hB2)
      | (go_at_call 30; refine (refPlan_any P1 k1 ps P2 k2 zs w.heap.size w2 (HV.out.2.below H2.out) l2 l1).mono ?_; rintro e w3 ⟨rfl, rfl⟩; rw [HR.out.2]))
    go_ret
    exact ⟨rfl, H2.out⟩
  · have HR := Lib.hid hr
    clear h hr
    go_enter Try.func6, Try.ntmps6
    go_wp2_with (first
      | (go_at_call 28; refine (alive_any w0).mono ?_; rintro e w1 ⟨rfl, hB1⟩
         have hc1 := fun i => cell_of_row w1 w.heap.size i _ _ _ ((hB1.block _ (by have := B0.out.2.2; omega)).trans B0.out.2.1)
         have H1 := Lib.hid (B0.out.1.trans (hB1.mono (by have := B0.out.2.2; omega))); clear hB1)
      | (go_at_call 29; refine (ready_any g A1 c1 A2 c2 P1 k1 ps w.heap.size w1 H1.out.size (HG.out.below H1.out) (HV.out.1.below H1.out) l1).mono ?_; rintro e w2 ⟨rfl, hB2⟩; rw [HR.out]
         have H2 := Lib.hid (H1.out.trans (hB2.mono H1.out.size)); clear hB2))
    go_ret
    exact ⟨rfl, H2.out⟩

set_option maxRecDepth 100000 in
set_option maxHeartbeats 8000000 in
theorem clumpTrue_main (g : Gr) (ps : List (Int × Int)) (zs : List Int) (ys : List Int) (A1 : Option Addr) (c1 : Nat) (A2 : Option Addr) (c2 : Nat) (P1 : Option Addr) (k1 : Nat) (P2 : Option Addr) (k2 : Nat) (P3 : Option Addr) (k3 : Nat) (w : World) (hG : GrAt w w.heap.size g A1 c1 A2 c2)
    (hV1 : Vals w w.heap.size P1 (pairs ps)) (hV2 : Ints w w.heap.size P2 zs) (hV3 : ByAt w w.heap.size P3 ys) (hrd : readyB g ps = true) (hp : planOk zs ps.length = true) :
    Calls Try.prog 6 #[grv g A1 c1 A2 c2, .slice P1 ps.length k1, .slice P2 zs.length k2, .slice P3 ys.length k3] w fun e w' => e = .returned (.bool true) ∧ Below w.heap.size w w' := by
  have hrd2 := hrd
  simp only [readyB, Bool.and_eq_true, Bool.not_eq_true'] at hrd2
  obtain ⟨⟨hgr, hok⟩, hr⟩ := hrd2
  obtain ⟨d, r, R⟩ := okGrove_runs hok
  have hab := habOk_of hok R
  have h4 := (rainsOk_len hr).2
  have hzl := planOk_len hp
  have e1 : lookErr g ps zs = 0 := by simp [lookErr, hok, hr, hp]
  have e2 : lookVal g ps zs = aheadL g.hab r g.hab.bears.toNat (lastL g) (lastL g) (ps.zip zs) := by
    have : g.hab.ripe.toNat = r := by rw [R.pre.hr, Int.toNat_natCast]
    simp [lookVal, hok, hr, hp, this]
  have hlv := lookVal_len g ps zs
  have hlk := fun B W hBW hGW h1 h2 => lookP_any g A1 c1 A2 c2 P1 k1 ps P2 k2 zs B W hBW hGW h1 h2 (by omega) (by omega)
  rw [e1] at hlk
  have hst := fun B W hBW hGW => stand_any g (g.first + g.seas.length) A1 c1 A2 c2 B W hBW hGW
  rw [(stand_last hok).1, (stand_last hok).2] at hst
  have hll := lastL_len R
  have hlb := lastL_bnd R
  have hls : (lastL g).length = g.start.length := by rw [hll, R.pre.ls]
  have hf0 := R.pre.f0
  have hf1 := R.pre.f1
  have h60 := R.pre.l60
  obtain ⟨b, hb⟩ : ∃ b, g.hab.bears.toNat = b := ⟨_, rfl⟩
  rw [hb] at e2 hab
  generalize lookVal g ps zs = out at e2 hlv hlk
  have HG := Lib.hid hG
  have HV := Lib.hid (And.intro hV1 (And.intro hV2 hV3))
  have HLK := Lib.hid hlk
  have HST := Lib.hid hst
  have HR := Lib.hid (And.intro hrd (And.intro hp (And.intro hr hzl)))
  have HH := Lib.hid hab
  generalize lastL g = L at e2 hll hlb hls HST
  have HE := Lib.hid (And.intro e2 (And.intro hll (And.intro hlb hls)))
  obtain ⟨w0, hw0⟩ : ∃ w0, w.alloc (.cells (gcs g A1 c1 A2 c2) 29) = w0 := ⟨_, rfl⟩
  have hb0 : Below w.heap.size w w0 := by rw [← hw0]; exact (Below.refl _ _).alloc (Nat.le_refl _) _
  have hs0 : w0.heap.size = w.heap.size + 1 := by rw [← hw0]; simp
  have hm0 : w0.heap[w.heap.size]? = some (.cells (gcs g A1 c1 A2 c2) 29 (0, 0)) := by rw [← hw0]; exact alloc_at0 w _
  have B0 := Lib.hid (And.intro hb0 (And.intro hm0 hs0))
  have hlsz : (L.length : Int) = g.start.length := by omega
  have hlv2 : (out.length : Int) ≤ zs.length := by omega
  clear hG hV1 hV2 hV3 hb0 hm0 hs0 hlk hst hrd hp hr hzl hab e2 hll hlb hls hgr hok R e1 hb hlv
  simp only [gcs] at hw0
  unfold grv at HLK HST ⊢
  go_enter Try.func6, Try.ntmps6
  go_wp2_with (first
    | (go_at_call 28; refine (alive_any w0).mono ?_; rintro e w1 ⟨rfl, hB1⟩
       have hc1 := fun i => cell_of_row w1 w.heap.size i _ _ _ ((hB1.block _ (by have := B0.out.2.2; omega)).trans B0.out.2.1)
       have hs1 : w.heap.size < w1.heap.size := by have := B0.out.2.2; have := hB1.size; omega
       have H1 := Lib.hid (And.intro (B0.out.1.trans (hB1.mono (by have := B0.out.2.2; omega))) ((hB1.block _ (by have := B0.out.2.2; omega)).trans B0.out.2.1)); clear hB1)
    | (go_at_call 29; refine (ready_any g A1 c1 A2 c2 P1 k1 ps w.heap.size w1 H1.out.1.size (HG.out.below H1.out.1) (HV.out.1.below H1.out.1) (by omega)).mono ?_; rintro e w2 ⟨rfl, hB2⟩; rw [HR.out.1]
       have hc2 := fun i => cell_of_row w2 w.heap.size i _ _ _ ((hB2.block _ hs1).trans H1.out.2)
       have hs2 : w.heap.size < w2.heap.size := by have := hB2.size; omega
       have H2 := Lib.hid (And.intro (H1.out.1.trans (hB2.mono H1.out.1.size)) ((hB2.block _ hs1).trans H1.out.2)); clear hB2 hc1)
    | (go_at_call 30; refine (refPlan_any P1 k1 ps P2 k2 zs w.heap.size w2 (HV.out.2.1.below H2.out.1) (by have := HR.out.2.2.2; omega) (by omega)).mono ?_; rintro e w3 ⟨rfl, rfl⟩; rw [HR.out.2.1])
    | (go_at_call 23; refine (HLK.out w.heap.size w2 H2.out.1.size (HG.out.below H2.out.1) (HV.out.1.below H2.out.1) (HV.out.2.1.below H2.out.1)).mono ?_; rintro e w4 ⟨D, q, rfl, -, hD, hB4⟩
       have hc4 := fun i => cell_of_row w4 w.heap.size i _ _ _ ((hB4.block _ hs2).trans H2.out.2)
       have hs4 : w.heap.size < w4.heap.size := by have := hB4.size; omega
       have H4 := Lib.hid (And.intro (H2.out.1.trans (hB4.mono H2.out.1.size)) (And.intro ((hB4.block _ hs2).trans H2.out.2) hD)); clear hB4 hc2 hD)
    | (go_at_call 14; refine (HST.out w.heap.size w4 H4.out.1.size (HG.out.below H4.out.1)).mono ?_; rintro e w5 ⟨E, q5, rfl, hq5, hE, -, hB5⟩
       have hc5 := fun i => cell_of_row w5 w.heap.size i _ _ _ ((hB5.block _ hs4).trans H4.out.2.1)
       have H5 := Lib.hid (And.intro (H4.out.1.trans (hB5.mono H4.out.1.size)) (And.intro ((hB5.block _ hs4).trans H4.out.2.1) (And.intro ((H4.out.2.2.below hB5).mono hB5.size) (And.intro hq5 hE)))); clear hB5 hc4 hq5 hE))
  have q1 : decide ((out.length : Int) < 0) = false := decide_eq_false (by omega)
  have q2 : decide (zs.length < out.length) = false := decide_eq_false (by omega)
  simp only [q1, q2, Bool.or_false]
  have HLV := Lib.hid hlv2
  clear hlv2 q1 q2
  go_loopg [13, 87] out.length (fun gg s13 s87 wx => ∃ (i : Nat) (F : Option Addr) (f : Nat) (pre : List (Int × Int × Int × Int)) (lo now hi : List Int) (M : Int), i + gg = out.length ∧ s87 = .int .i64 i ∧ s13 = .slice F now.length f ∧
    Hid (pre.length = i ∧ out = pre ++ aheadL g.hab r b lo hi ((ps.zip zs).drop i) ∧ Mid g.hab d lo now hi M ∧ M ≤ 30 * 11 ^ i ∧ now.length ≤ f ∧ Ints wx wx.heap.size F now ∧ Below w5.heap.size w5 wx))
  case atStart => exact ⟨0, E, q5, [], L, L, L, 30, by omega, rfl, rfl, rfl, HE.out.1, Mid.start HE.out.2.1 HE.out.2.2.1, by decide, H5.out.2.2.2.1, H5.out.2.2.2.2, Below.refl _ _⟩
  case round =>
    obtain ⟨i, F, f, pre, lo, now, hi, M, hig, rfl, rfl, hI⟩ := hrel
    cases gk with
    | zero =>
      obtain rfl : i = out.length := by omega
      go_wp2
      go_ret
      exact ⟨rfl, H5.out.1.trans (hI.out.2.2.2.2.2.2.mono H5.out.1.size)⟩
    | succ gg =>
      have hlt : i < out.length := by omega
      have hltz : (i : Int) < out.length := by omega
      have hzl := HR.out.2.2.2
      have hip : i < ps.length := by have := HLV.out; omega
      have hipz : (i : Int) < ps.length := by omega
      have hizz : (i : Int) < zs.length := by have := HLV.out; omega
      obtain ⟨b1, off1, hA1, hb1, hq1⟩ := HV.out.1 (by rw [pairs_len]; omega)
      subst hA1
      obtain ⟨b2, off2, hA2, hb2, hq2⟩ := HV.out.2.1 (by omega)
      subst hA2
      obtain ⟨b3, off3, hA3, hb3, hq3⟩ := H5.out.2.2.1 (by rw [quads_len]; omega)
      subst hA3
      have hbel := H5.out.1.trans (hI.out.2.2.2.2.2.2.mono H5.out.1.size)
      have hpa := pairs_at ps i hip
      have hqa := quads_at out i hlt
      have rn := rainsOk_at HR.out.2.2.1 hip
      have pn := planOk_at HR.out.2.1 (k := i) (by omega)
      have hzip : (ps.zip zs).drop i = (ps[i]?.getD (0, 0), zs[i]?.getD 0) :: (ps.zip zs).drop (i + 1) := by
        rw [List.drop_eq_getElem_cons (by simp; omega)]
        congr 1
        simp [hip, show i < zs.length by omega]
      have hst := hI.out.2.1
      rw [hzip] at hst
      have hr0 : ∀ W, Below wr.heap.size wr W → W.cell? ⟨b1, off1 + i * 2, none⟩ = _ := fun W hW => ((hbel.trans (hW.mono hbel.size)).cell (p := ⟨b1, off1 + i * 2, none⟩) (by simp; omega)).trans (hq1 _ _ hpa.1)
      have hr1 : ∀ W, Below wr.heap.size wr W → W.cell? ⟨b1, off1 + i * 2 + 1, none⟩ = _ := fun W hW => ((hbel.trans (hW.mono hbel.size)).cell (p := ⟨b1, off1 + i * 2 + 1, none⟩) (by simp; omega)).trans (hq1 _ _ hpa.2)
      have hz0 : ∀ W, Below wr.heap.size wr W → W.cell? ⟨b2, off2 + i, none⟩ = _ := fun W hW => ((hbel.trans (hW.mono hbel.size)).cell (p := ⟨b2, off2 + i, none⟩) (by simp; omega)).trans (hq2 i (by omega))
      generalize ps[i]?.getD (0, 0) = x at rn hr0 hr1 hst
      generalize zs[i]?.getD 0 = n at pn hz0 hst
      obtain ⟨x1, x2⟩ := x
      simp only at rn hr0 hr1
      obtain ⟨hokY, hq0, hout⟩ := ahead_step hst (by rw [hI.out.1]; exact hlt)
      rw [hI.out.1] at hq0
      rw [hq0] at hqa
      simp only at hqa
      obtain ⟨hqa0, hqa1, hqa2, hqa3⟩ := hqa
      have ha0 : wr.cell? ⟨b3, off3 + i * 4, none⟩ = _ := (hI.out.2.2.2.2.2.2.cell (p := ⟨b3, off3 + i * 4, none⟩) hb3).trans (hq3 _ _ hqa0)
      have ha1 : wr.cell? ⟨b3, off3 + i * 4 + 1, none⟩ = _ := (hI.out.2.2.2.2.2.2.cell (p := ⟨b3, off3 + i * 4 + 1, none⟩) hb3).trans (hq3 _ _ hqa1)
      have ha2 : wr.cell? ⟨b3, off3 + i * 4 + 2, none⟩ = _ := (hI.out.2.2.2.2.2.2.cell (p := ⟨b3, off3 + i * 4 + 2, none⟩) hb3).trans (hq3 _ _ hqa2)
      have ha3 : wr.cell? ⟨b3, off3 + i * 4 + 3, none⟩ = _ := (hI.out.2.2.2.2.2.2.cell (p := ⟨b3, off3 + i * 4 + 3, none⟩) hb3).trans (hq3 _ _ hqa3)
      obtain ⟨rn0, rn1, rn2⟩ := rn
      obtain ⟨pn0, pn1⟩ := pn
      have hab := HH.out
      have hl0 := hab.l0
      have hlh := hab.lh
      have hh1 := hab.h1
      have hd6 := hab.d6
      have hbd := hab.bd
      have hv0 := atL_bnd HV.out.2.2 (i := 2 * (i : Int))
      have hv1 := atL_bnd HV.out.2.2 (i := 2 * (i : Int) + 1)
      have hat := fun (j : Int) (hj : 0 ≤ j) (W : World) (hW : Below w.heap.size w W) => at_any P3 k3 ys j hj w.heap.size W (HV.out.2.2.below hW).va HV.out.2.2.ln
      have hp0 := fun W => pick_any g.hab.lo g.hab.hi (atL ys (2 * (i : Int))) hl0 hlh (by omega) hv0.1 hv0.2 W
      have hp1 := fun W => pick_any x1 x2 (atL ys (2 * (i : Int) + 1)) rn0 rn1 (by omega) hv1.1 hv1.2 W
      have hb0' := pickL_bnd (n := atL ys (2 * (i : Int))) hlh
      have hb1' := pickL_bnd (n := atL ys (2 * (i : Int) + 1)) rn1
      generalize pickL g.hab.lo g.hab.hi (atL ys (2 * (i : Int))) = rate at hp0 hb0'
      generalize pickL x1 x2 (atL ys (2 * (i : Int) + 1)) = rain at hp1 hb1'
      have hMM := pow11 (k := i) (by omega)
      have hm11 := hI.out.2.2.2.1
      have hmid := hI.out.2.2.1.next hab rn0 rn1 rn2 pn0 pn1 hb0'.1 hb0'.2 hb1'.1 hb1'.2
      have hyok := okY_parts hokY
      have hmln := hI.out.2.2.1.ln
      have hm0 := hI.out.2.2.1.yr.m0
      have hyk : yearOk r now (shotsL b now rate rain) n = true := hI.out.2.2.1.l1.yearOk hmid.1 (by have := hI.out.2.2.1.yr.ll; omega) hyok.1
      have hsh := fun W hz => refShots_any g.hab b hab.hb F f now W.heap.size W (Nat.le_refl _) hz (by omega) hI.out.2.2.2.2.1 (by omega) (fun k hk => by have := hI.out.2.2.1.bn k hk; omega) rate rain (by omega) (by omega) (by omega) (by omega)
      have hyr := fun W hz => (refYear_round hab (A := F) (cap := f) hmln hmid.2.2.2.2.1 (show M ≤ 39930 by omega) hm0 hmid.2.2.1 hmid.2.2.2.1 pn0 pn1 W hz).2 hyk
      have hsu := fun (A : Option Addr) (c : Nat) W hz => refSum_any A c (yearL now (shotsL b now rate rain) n) W.heap.size W hz (by rw [hmid.2.2.2.2.2.ln]; omega) (fun k hk => by have := hmid.2.2.2.2.2.bn k hk; omega)
      have hle1 := hmid.2.2.2.2.2.l1.sum
      have hle2 := hmid.2.2.2.2.2.l2.sum
      have hnlen := hmid.2.2.2.2.2.ln
      have hnext := hmid.2.2.2.2.2
      have hS1 := hmid.1
      have hS2 := hmid.2.1
      have hke := hyok.2
      clear hokY hyk hyok hmid hst hzip hq0
      generalize goneL now (shotsL b now rate rain) n = gn at hyr
      generalize yearL now (shotsL b now rate rain) n = now' at hyr hsu hle1 hle2 hnlen hnext
      generalize yearL lo (shotsL b lo g.hab.lo x1) n = lo' at hnext hle1 hke hout ha2
      generalize yearL hi (shotsL b hi g.hab.hi x2) n = hi' at hnext hle2 hout ha3
      generalize shotsL b lo g.hab.lo x1 = s1 at hS1 hout ha0
      generalize shotsL b hi g.hab.hi x2 = s2 at hS2 hout ha1
      generalize shotsL b now rate rain = S at hsh hyr hS1 hS2
      generalize lo'.sum = t1 at hle1 hke hout ha2
      generalize hi'.sum = t2 at hle2 hout ha3
      generalize hsn : now'.sum = tn at hsu hle1 hle2
      have HC := Lib.hid (And.intro hat (And.intro hp0 (And.intro hp1 (And.intro hsh (And.intro hyr hsu)))))
      have HN := Lib.hid (And.intro hnext (And.intro hnlen (And.intro hout hbel)))
      have HC1 := Lib.hid (And.intro hr0 (And.intro hr1 hz0))
      have hx1 : IntKind.i64.wrap (2 * (i : Int)) = 2 * (i : Int) := IntWalk.i64_in _ (by omega)
      have hx2 : IntKind.i64.wrap (2 * (i : Int) + 1) = 2 * (i : Int) + 1 := IntWalk.i64_in _ (by omega)
      have hi0 : (0 : Int) ≤ 2 * (i : Int) := by omega
      have hi1 : (0 : Int) ≤ 2 * (i : Int) + 1 := by omega
      have hken : g.hab.keep ≤ tn := by omega
      clear hat hp0 hp1 hsh hyr hsu hnext hnlen hout hr0 hr1 hz0 hq1 hq2 hq3 hpa hbel hqa0 hqa1 hqa2 hqa3 hMM hm11 hsn hab hmln hzl
      go_wp2
      obtain ⟨w6, hw6⟩ : ∃ w6, wr.alloc (.cells #[.int .i64 s1, .int .i64 s2, .int .i64 t1, .int .i64 t2] 65) = w6 := ⟨_, rfl⟩
      have hb6 : Below wr.heap.size wr w6 := by rw [← hw6]; exact (Below.refl _ _).alloc (Nat.le_refl _) _
      have hm6 : w6.heap[wr.heap.size]? = some (.cells #[.int .i64 s1, .int .i64 s2, .int .i64 t1, .int .i64 t2] 65 (0, 0)) := by rw [← hw6]; exact alloc_at0 wr _
      have hbw6 := HN.out.2.2.2.trans (hb6.mono HN.out.2.2.2.size)
      have hg6 : w6.heap[w.heap.size]? = some (.cells (gcs g A1 c1 A2 c2) 29 (0, 0)) := (hb6.block _ (by have := HN.out.2.2.2.size; have := hI.out.2.2.2.2.2.2.size; have := lt_of_heap H5.out.2.1; omega)).trans ((hI.out.2.2.2.2.2.2.block _ (lt_of_heap H5.out.2.1)).trans H5.out.2.1)
      have H6 := Lib.hid (And.intro hb6 (And.intro hm6 (And.intro hbw6 (And.intro hg6 ((hI.out.2.2.2.2.2.1.below hb6).mono hb6.size)))))
      rw [hw6]
      clear hw6 hb6 hm6 hbw6 hg6 ha0 ha1 ha2 ha3
      refine R2.wp_walk (C := Below w6.heap.size w6) (S := fun _ => Grows) 167 (by kernel_rfl) (by kernel_rfl) rfl (fun _ => Grows.refl) (Below.refl _ _).drew ?_
      simp only []
      repeat
        (refine' R2.WalkR.det (fun _ => rfl) rfl (fun ρ W hW hH hU => ?_) ?_
         rotate_left
         · clear hH hU
           have hcg := fun i => cell_of_row W w.heap.size i _ _ _ ((hW.block _ (lt_of_heap H6.out.2.2.2.1)).trans H6.out.2.2.2.1)
           have hbr := H6.out.1.trans (hW.mono H6.out.1.size)
           have hx0 := HC1.out.1 W hbr
           have hx1' := HC1.out.2.1 W hbr
           have HB := Lib.hid (And.intro (H6.out.2.2.1.trans (hW.mono H6.out.2.2.1.size)) ((H6.out.2.2.2.2.below hW).mono hW.size))
           have HW := Lib.hid hW
           clear hW hbr
           go_simp
           first
             | with_reducible exact ⟨rfl, Grows.refl _, HW.out⟩
             | ((with_reducible show Calls _ _ #[_, .int .i64 (2 * (i : Int))] _ _); go_at_call 33; refine (HC.out.1 _ hi0 W HB.out.1).mono ?_; rintro e W1 ⟨rfl, rfl⟩; exact ⟨_, rfl, rfl, Grows.refl _, HW.out⟩)
             | ((with_reducible show Calls _ _ #[_, .int .i64 (2 * (i : Int) + 1)] _ _); go_at_call 33; refine (HC.out.1 _ hi1 W HB.out.1).mono ?_; rintro e W1 ⟨rfl, rfl⟩; exact ⟨_, rfl, rfl, Grows.refl _, HW.out⟩)
             | ((with_reducible show Calls _ _ #[.agg #[.int .i64 g.hab.lo, _], _] _ _); go_at_call 32; refine (HC.out.2.1 W).mono ?_; rintro e W1 ⟨rfl, hB1⟩; exact ⟨_, rfl, rfl, hB1, HW.out.trans (hB1.mono HW.out.size)⟩)
             | ((with_reducible show Calls _ _ #[.agg #[.int .i64 x1, _], _] _ _); go_at_call 32; refine (HC.out.2.2.1 W).mono ?_; rintro e W1 ⟨rfl, hB1⟩; exact ⟨_, rfl, rfl, hB1, HW.out.trans (hB1.mono HW.out.size)⟩)
             | (go_at_call 31; refine (HC.out.2.2.2.1 W HB.out.2).mono ?_; rintro e W1 ⟨rfl, hB1⟩; exact ⟨_, rfl, rfl, hB1, HW.out.trans (hB1.mono HW.out.size)⟩)
         simp only [Act.put, List.setIfInBounds_toArray, List.set_cons_succ, List.set_cons_zero])
      refine R2.WalkR.nil (fun ρ w7 hW hH hF => ?_)
      clear hH hF
      have H7 := Lib.hid (And.intro (H6.out.1.trans (hW.mono H6.out.1.size)) (And.intro ((hW.block _ (lt_of_heap H6.out.2.1)).trans H6.out.2.1) (And.intro (H6.out.2.2.1.trans (hW.mono H6.out.2.2.1.size)) (And.intro ((hW.block _ (lt_of_heap H6.out.2.2.2.1)).trans H6.out.2.2.2.1) ((H6.out.2.2.2.2.below hW).mono hW.size)))))
      clear hW
      go_wp2
      refine R2.wp_walk (C := Below w7.heap.size w7) (S := fun _ => Grows) 167 (by kernel_rfl) (by kernel_rfl) rfl (fun _ => Grows.refl) (Below.refl _ _).drew ?_
      simp only []
      repeat
        (refine' R2.WalkR.det (fun _ => rfl) rfl (fun ρ W hW hH hU => ?_) ?_
         rotate_left
         · clear hH hU
           have hcg := fun i => cell_of_row W w.heap.size i _ _ _ ((hW.block _ (lt_of_heap H7.out.2.2.2.1)).trans H7.out.2.2.2.1)
           have hz := HC1.out.2.2 W (H7.out.1.trans (hW.mono H7.out.1.size))
           have HW := Lib.hid hW
           clear hW
           go_simp
           with_reducible exact ⟨rfl, Grows.refl _, HW.out⟩
         simp only [Act.put, List.setIfInBounds_toArray, List.set_cons_succ, List.set_cons_zero])
      refine' R2.WalkR.nd (YrF 0 now' gn) (fun _ => rfl) rfl rfl (fun o' v W W' _ _ hv hs _ => hv.keep hs) (fun ρ W hW hH hU => ?_) ?_
      · clear hH hU
        have HW := Lib.hid hW
        clear hW
        go_simp
        go_at_call 34
        refine (HC.out.2.2.2.2.1 W ((H7.out.2.2.2.2.below HW.out).mono HW.out.size)).mono ?_
        rintro e W1 ⟨v, rfl, hv, hB1⟩
        exact ⟨v, rfl, hv.mono (Nat.zero_le _), hB1, HW.out.trans (hB1.mono HW.out.size)⟩
      simp only [Act.put, List.setIfInBounds_toArray, List.set_cons_succ, List.set_cons_zero]
      refine' R2.WalkR.nd (YrF 0 now' gn) (fun _ => rfl) rfl rfl (fun o' v W W' _ _ hv hs _ => hv.keep hs) (fun ρ W hW hH hU => ?_) ?_
      · have hv := hH _ (.head _) (by first | decide +kernel | (dsimp only; decide +kernel))
        clear hH hU
        have HW := Lib.hid (And.intro hv hW)
        clear hW hv
        go_simp
        exact ⟨HW.out.1, Grows.refl _, HW.out.2⟩
      simp only [Act.put, List.setIfInBounds_toArray, List.set_cons_succ, List.set_cons_zero]
      refine' R2.WalkR.nd (PlF now') (fun _ => rfl) rfl rfl (fun o' v W W' _ _ hv hs _ => hv.next hs) (fun ρ W hW hH hU => ?_) ?_
      · obtain ⟨X, x, X', x', hv, hx, hi, -⟩ := hH _ (.head _) (by first | decide +kernel | (dsimp only; decide +kernel))
        have hv' : ρ 114 = .tuple #[.slice X now'.length x, .slice X' gn.length x', .bool true] := hv
        clear hH hU hv
        have HW := Lib.hid (And.intro hx (And.intro hi hW))
        clear hi hW hx
        go_simp
        exact ⟨⟨X, x, rfl, HW.out.1, HW.out.2.1⟩, Grows.refl _, HW.out.2.2⟩
      simp only [Act.put, List.setIfInBounds_toArray, List.set_cons_succ, List.set_cons_zero]
      refine' R2.WalkR.nd (fun _ _ => True) (fun _ => rfl) rfl rfl (fun o' v W W' _ _ hv hs _ => trivial) (fun ρ W hW hH hU => ?_) ?_
      · obtain ⟨X, x, X', x', hv, hx, hi, -⟩ := hH _ (.tail _ (.head _)) (by first | decide +kernel | (dsimp only; decide +kernel))
        have hv' : ρ 114 = .tuple #[.slice X now'.length x, .slice X' gn.length x', .bool true] := hv
        clear hH hU hv
        have HW := Lib.hid (And.intro hx (And.intro hi hW))
        clear hi hW hx
        go_simp
        exact ⟨Grows.refl _, HW.out.2.2⟩
      simp only [Act.put, List.setIfInBounds_toArray, List.set_cons_succ, List.set_cons_zero]
      refine' R2.WalkR.det (fun _ => rfl) rfl (fun ρ W hW hH hU => ?_) ?_
      rotate_left
      · obtain ⟨X, x, X', x', hv, hx, hi, -⟩ := hH _ (.tail _ (.tail _ (.head _))) (by first | decide +kernel | (dsimp only; decide +kernel))
        have hv' : ρ 114 = .tuple #[.slice X now'.length x, .slice X' gn.length x', .bool true] := hv
        clear hH hU hv
        have HW := Lib.hid (And.intro hx (And.intro hi hW))
        clear hi hW hx
        go_simp
        exact ⟨rfl, Grows.refl _, HW.out.2.2⟩
      simp only [Act.put, List.setIfInBounds_toArray, List.set_cons_succ, List.set_cons_zero]
      refine' R2.WalkR.nd (PlF now') (fun _ => rfl) rfl rfl (fun o' v W W' _ _ hv hs _ => hv.next hs) (fun ρ W hW hH hU => ?_) ?_
      · have hv := hH _ (.tail _ (.head _)) (by first | decide +kernel | (dsimp only; decide +kernel))
        clear hH hU
        have HW := Lib.hid (And.intro hv hW)
        clear hW hv
        go_simp
        exact ⟨HW.out.1, Grows.refl _, HW.out.2⟩
      simp only [Act.put, List.setIfInBounds_toArray, List.set_cons_succ, List.set_cons_zero]
      refine' R2.WalkR.nd (fun _ _ => True) (fun _ => rfl) rfl rfl (fun o' v W W' _ _ hv hs _ => trivial) (fun ρ W hW hH hU => ?_) ?_
      · clear hH hU
        have HW := Lib.hid hW
        clear hW
        go_simp
        exact ⟨Grows.refl _, HW.out⟩
      simp only [Act.put, List.setIfInBounds_toArray, List.set_cons_succ, List.set_cons_zero]
      refine' R2.WalkR.det (fun _ => rfl) rfl (fun ρ W hW hH hU => ?_) ?_
      rotate_left
      · clear hH hU
        have HW := Lib.hid hW
        clear hW
        go_simp
        with_reducible exact ⟨rfl, Grows.refl _, HW.out⟩
      simp only [Act.put, List.setIfInBounds_toArray, List.set_cons_succ, List.set_cons_zero]
      refine R2.WalkR.nil (fun ρ w8 hW hH hF => ?_)
      obtain ⟨X, x, hv, hx, hX⟩ := hH _ (.tail _ (.head _))
      have hv' : ρ 18 = .slice X now'.length x := hv
      rw [hv']
      have hcg := fun i => cell_of_row w8 w.heap.size i _ _ _ ((hW.block _ (lt_of_heap H7.out.2.2.2.1)).trans H7.out.2.2.2.1)
      have hca := fun i => cell_of_row w8 wr.heap.size i _ _ _ ((hW.block _ (lt_of_heap H7.out.2.1)).trans H7.out.2.1)
      have H8 := Lib.hid (And.intro (H7.out.1.trans (hW.mono H7.out.1.size)) (And.intro hx hX))
      clear hH hF hv hv' hW hx hX
      go_wp2_with (go_at_call 35; refine (HC.out.2.2.2.2.2 X x w8 H8.out.2.2).mono ?_; rintro e W1 ⟨rfl, rfl⟩)
      have hpl : (pre ++ [(s1, s2, t1, t2)]).length = i + 1 := by simp [hI.out.1]
      have hb8 : Below w5.heap.size w5 w8 := hI.out.2.2.2.2.2.2.trans (H8.out.1.mono hI.out.2.2.2.2.2.2.size)
      have hM1 : 11 * M ≤ 30 * 11 ^ (i + 1) := by have := hI.out.2.2.2.1; rw [Int.pow_succ]; omega
      have HF := Lib.hid (And.intro hpl (And.intro hb8 hM1))
      clear hpl hb8 hM1
      go_roundg gg
      case measure => omega
      case rel => exact ⟨i + 1, X, x, pre ++ [(s1, s2, t1, t2)], lo', now', hi', 11 * M, by omega, by go_num, rfl, HF.out.1, HN.out.2.2.1, HN.out.1, HF.out.2.2, H8.out.2.1, H8.out.2.2, HF.out.2.1⟩

theorem clumpTrue_law (g : Gr) (ps : List (Int × Int)) (zs : List Int) (ys : List Int) (A1 : Option Addr) (c1 : Nat) (A2 : Option Addr) (c2 : Nat) (P1 : Option Addr) (k1 : Nat) (P2 : Option Addr) (k2 : Nat) (P3 : Option Addr) (k3 : Nat) (w : World) (hG : GrAt w w.heap.size g A1 c1 A2 c2)
    (hV1 : Vals w w.heap.size P1 (pairs ps)) (hV2 : Ints w w.heap.size P2 zs) (hV3 : ByAt w w.heap.size P3 ys) (l1 : ps.length ≤ 9223372036854775807) (l2 : zs.length ≤ 9223372036854775807) :
    Calls Try.prog 6 #[grv g A1 c1 A2 c2, .slice P1 ps.length k1, .slice P2 zs.length k2, .slice P3 ys.length k3] w fun e w' => e = .returned (.bool true) ∧ Below w.heap.size w w' := by
  by_cases h : readyB g ps = false ∨ planOk zs ps.length = false
  · exact clumpTrue_idle g ps zs A1 c1 A2 c2 P1 k1 P2 k2 P3 k3 ys.length w hG hV1 hV2 l1 l2 h
  · refine clumpTrue_main g ps zs ys A1 c1 A2 c2 P1 k1 P2 k2 P3 k3 w hG hV1 hV2 hV3 ?_ ?_
    · cases hc : readyB g ps with
      | true => rfl
      | false => exact absurd (.inl hc) h
    · cases hc : planOk zs ps.length with
      | true => rfl
      | false => exact absurd (.inr hc) h

end Go.Proofs.Ytanjolmelbipoaa

namespace Go.Proofs.Ytanjolmelbipoaa
open Go.ChangeShapes Go.WideShapes Go.ChangeAt Go.RowKit Go.Deep

section
variable {H : Type} {enc : TypeId × Value → H} {w : World} {base : Nat} {spare : Nat → Bool} {held : Bool}

theorem open_u32s_raw {fuel : Nat} {c : Value} {x : DataW H × List MemPlace} (h : DataW.trod enc Try.prog w base spare held fuel 61 [c] = some x) :
    ∃ (A : Option Addr) (zs : List Int) (cap : Nat), c = .slice A zs.length cap ∧ zs.length ≤ maxLen ∧ ByAt w w.heap.size A zs := by
  rcases open_ints Try.underlying61 Try.underlying68 (by kernel_rfl) h with ⟨hc, _⟩ | ⟨a, len, cap, zs, hc, _, hl, hm, hz, _, hcell, hwf⟩
  · simp only [List.cons.injEq, and_true] at hc
    exact ⟨none, [], 0, hc, by simp, ⟨fun h => by simp [u32s] at h, fun k hk => absurd hk (by simp), by simp⟩⟩
  · simp only [List.cons.injEq, and_true] at hc
    have hle : len ≤ zs.length := by rw [hz]; split <;> omega
    have hl2 : (zs.take len).length = len := by simp; omega
    have hmx : maxLen ≤ 9223372036854775807 := by simp [maxLen]
    refine ⟨some a, zs.take len, cap, by rw [hl2]; exact hc, by rw [hl2]; omega, ⟨fun h0 => ?_, fun k hk => ?_, by rw [hl2]; omega⟩⟩
    · have h0' : 0 < len := by simp [u32s] at h0; omega
      have h1 := hcell 0 (by omega)
      obtain ⟨b, off, spot⟩ := a
      have hs1 : spot = none := by
        have e0 : (⟨b, off, spot⟩ : Addr).add 0 = ⟨b, off, spot⟩ := by simp [Addr.add]
        rw [e0] at h1
        exact World.cell?_spot h1
      subst hs1
      rw [Addr.add_mid] at h1
      refine ⟨b, off, rfl, lt_of_cell h1, fun k v hk => ?_⟩
      have hkl : k < len := by
        have := (List.getElem?_eq_some_iff.1 hk).1
        simp [u32s] at this
        omega
      have h2 := hcell k (by omega)
      rw [Addr.add_mid] at h2
      rw [h2]
      simp only [u32s, List.getElem?_map, List.getElem?_take, hkl, if_true] at hk
      have hkz : k < zs.length := by omega
      simp only [List.getElem?_eq_getElem hkz, Option.map_some, Option.some.injEq] at hk
      rw [← hk]
      simp [List.getD, hkz]
    · rw [hl2] at hk
      have hkz : k < zs.length := by omega
      have := hwf zs[k] (List.getElem_mem hkz)
      simp only [List.getElem?_take, hk, if_true, List.getElem?_eq_getElem hkz, Option.getD_some]
      simp [Lit.wf, IntKind.min, IntKind.max, IntKind.signed, IntKind.bits] at this
      omega

set_option maxRecDepth 100000 in
theorem open_u32s_arg {r : Reach} {b0 : Nat} {v : Value} {d : DataW H} {p : List MemPlace} (hv : Value.okWide Try.prog w r b0 61 v) (h : DataW.Trod enc Try.prog w base spare held 61 v d p) :
    ∃ (A : Option Addr) (zs : List Int) (cap : Nat), v = .slice A zs.length cap ∧ zs.length ≤ maxLen ∧ ByAt w w.heap.size A zs := by
  obtain ⟨a, len, cap, rfl⟩ := okWide_slice Try.underlying61 hv
  obtain ⟨fuel, hf⟩ := h
  exact open_u32s_raw hf
end

end Go.Proofs.Ytanjolmelbipoaa

