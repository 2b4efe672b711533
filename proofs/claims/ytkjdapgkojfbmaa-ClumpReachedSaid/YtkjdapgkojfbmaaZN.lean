/-
  For every grove, all rains and every plan that come in, the law ClumpReached returns true, and each argument reads afterwards as it read before.
  Conditions: none beyond the row's own.
-/
import Derived.Test.YtkjdapgkojfbmaaZL
import Derived.Test.YtkjdapgkojfbmaaZF
import Derived.Deep.LoopGhost
import Derived.Test.YtkjdapgkojfbmaaRows
import Derived.ProofKit
namespace Go.Proofs.Ytkjdapgkojfbmaa
open Go.RowKit Go.Shelf

attribute [local go_sem] gives

/-- What a year hands back, enough or not. -/
def YrB (ok : Bool) (zs : List Int) : Fact := fun v W => ∃ A n1 c A' n2 c', v = .tuple #[.slice A n1 c, .slice A' n2 c', .bool ok] ∧ (ok = true → n1 = zs.length ∧ n1 ≤ c ∧ Ints W W.heap.size A zs)

theorem refYear_both {h : Hab} {d r b : Nat} (H : HabOk h d r b) {c : List Int} (hc : c.length = d + 1) {M : Int} (hb : Bnd 0 (11 * M) c) (hM : M ≤ 39930) (m0 : 30 ≤ M) {s n : Int} (s0 : 0 ≤ s) (s1 : s ≤ 11 * M) (n0 : 0 ≤ n) (n1 : n ≤ 30) {A : Option Addr} {cap : Nat} (W : World) (hz : Ints W W.heap.size A c) :
    Calls Try.prog 34 #[hv h, .slice A c.length cap, .int .i64 s, .int .i64 n] W fun e w' => ∃ v, e = .returned v ∧ YrB (yearOk r c s n) (yearL c s n) v w' ∧ Below W.heap.size W w' := by
  have h2 := refYear_round H (A := A) (cap := cap) hc hb hM m0 s0 s1 n0 n1 W hz
  cases hok : yearOk r c s n with
  | false =>
    refine (h2.1 hok).mono ?_
    rintro e w' ⟨rfl, hB⟩
    exact ⟨_, rfl, ⟨none, 0, 0, none, 0, 0, rfl, fun e => by cases e⟩, hB⟩
  | true =>
    refine (h2.2 hok).mono ?_
    rintro e w' ⟨v, rfl, ⟨A1, c1, A2, c2, rfl, hc1, hI, -⟩, hB⟩
    exact ⟨_, rfl, ⟨A1, _, c1, A2, _, c2, rfl, fun _ => ⟨rfl, hc1, hI⟩⟩, hB⟩

set_option maxRecDepth 100000 in
set_option maxHeartbeats 4000000 in
theorem clumpReached_idle (g : Gr) (ps : List (Int × Int)) (zs : List Int) (A1 : Option Addr) (c1 : Nat) (A2 : Option Addr) (c2 : Nat) (P1 : Option Addr) (k1 : Nat) (P2 : Option Addr) (k2 : Nat) (w : World) (hG : GrAt w w.heap.size g A1 c1 A2 c2)
    (hV1 : Vals w w.heap.size P1 (pairs ps)) (hV2 : Ints w w.heap.size P2 zs) (l1 : ps.length ≤ 9223372036854775807) (l2 : zs.length ≤ 9223372036854775807)
    (h : readyB g ps = false ∨ planOk zs ps.length = false) :
    Calls Try.prog 7 #[grv g A1 c1 A2 c2, .slice P1 ps.length k1, .slice P2 zs.length k2] w fun e w' => e = .returned (.bool true) ∧ Below w.heap.size w w' := by
  have HG := Lib.hid hG
  have HV := Lib.hid (And.intro hV1 hV2)
  obtain ⟨w0, hw0⟩ : ∃ w0, w.alloc (.cells (gcs g A1 c1 A2 c2) 29) = w0 := ⟨_, rfl⟩
  have hb0 : Below w.heap.size w w0 := by rw [← hw0]; exact (Below.refl _ _).alloc (Nat.le_refl _) _
  have hs0 : w0.heap.size = w.heap.size + 1 := by rw [← hw0]; simp
  have hm0 : w0.heap[w.heap.size]? = some (.cells (gcs g A1 c1 A2 c2) 29 (0, 0)) := by rw [← hw0]; exact alloc_at0 w _
  have B0 := Lib.hid (And.intro hb0 (And.intro hm0 hs0))
  clear hG hV1 hV2 hb0 hm0 hs0
  simp only [gcs] at hw0
  unfold grv
  rcases Bool.eq_false_or_eq_true (readyB g ps) with hr | hr
  · have hp : planOk zs ps.length = false := h.resolve_left (by rw [hr]; decide)
    have HR := Lib.hid (And.intro hr hp)
    clear h hr hp
    go_enter Try.func7, Try.ntmps7
    go_wp2_with (first
      | (go_at_call 28; refine (alive_any w0).mono ?_; rintro e w1 ⟨rfl, hB1⟩
         have hc1 := fun i => cell_of_row w1 w.heap.size i _ _ _ ((hB1.block _ (by have := B0.out.2.2; omega)).trans B0.out.2.1)
         have H1 := Lib.hid (B0.out.1.trans (hB1.mono (by have := B0.out.2.2; omega))); clear hB1)
      | (go_at_call 29; refine (ready_any g A1 c1 A2 c2 P1 k1 ps w.heap.size w1 H1.out.size (HG.out.below H1.out) (HV.out.1.below H1.out) l1).mono ?_; rintro e w2 ⟨rfl, hB2⟩; rw [HR.out.1]
         have H2 := Lib.hid (H1.out.trans (hB2.mono H1.out.size)); clear hB2)
      | (go_at_call 30; refine (refPlan_any P1 k1 ps P2 k2 zs w.heap.size w2 (HV.out.2.below H2.out) l2 l1).mono ?_; rintro e w3 ⟨rfl, rfl⟩; rw [HR.out.2]))
    go_ret
    exact ⟨rfl, H2.out⟩
  · have HR := Lib.hid hr
    clear h hr
    go_enter Try.func7, Try.ntmps7
    go_wp2_with (first
      | (go_at_call 28; refine (alive_any w0).mono ?_; rintro e w1 ⟨rfl, hB1⟩
         have hc1 := fun i => cell_of_row w1 w.heap.size i _ _ _ ((hB1.block _ (by have := B0.out.2.2; omega)).trans B0.out.2.1)
         have H1 := Lib.hid (B0.out.1.trans (hB1.mono (by have := B0.out.2.2; omega))); clear hB1)
      | (go_at_call 29; refine (ready_any g A1 c1 A2 c2 P1 k1 ps w.heap.size w1 H1.out.size (HG.out.below H1.out) (HV.out.1.below H1.out) l1).mono ?_; rintro e w2 ⟨rfl, hB2⟩; rw [HR.out]
         have H2 := Lib.hid (H1.out.trans (hB2.mono H1.out.size)); clear hB2))
    go_ret
    exact ⟨rfl, H2.out⟩

set_option maxRecDepth 100000 in
set_option maxHeartbeats 8000000 in
theorem clumpReached_main (g : Gr) (ps : List (Int × Int)) (zs : List Int) (A1 : Option Addr) (c1 : Nat) (A2 : Option Addr) (c2 : Nat) (P1 : Option Addr) (k1 : Nat) (P2 : Option Addr) (k2 : Nat) (w : World) (hG : GrAt w w.heap.size g A1 c1 A2 c2)
    (hV1 : Vals w w.heap.size P1 (pairs ps)) (hV2 : Ints w w.heap.size P2 zs) (hrd : readyB g ps = true) (hp : planOk zs ps.length = true) :
    Calls Try.prog 7 #[grv g A1 c1 A2 c2, .slice P1 ps.length k1, .slice P2 zs.length k2] w fun e w' => e = .returned (.bool true) ∧ Below w.heap.size w w' := by
  have hrd2 := hrd
  simp only [readyB, Bool.and_eq_true, Bool.not_eq_true'] at hrd2
  obtain ⟨⟨hgr, hok⟩, hr⟩ := hrd2
  obtain ⟨d, r, R⟩ := okGrove_runs hok
  have hab := habOk_of hok R
  have h4 := (rainsOk_len hr).2
  have hzl := planOk_len hp
  have e1 : lookErr g ps zs = 0 := by simp [lookErr, hok, hr, hp]
  have e2 : lookVal g ps zs = aheadL g.hab r g.hab.bears.toNat (lastL g) (lastL g) (ps.zip zs) := by
    have : g.hab.ripe.toNat = r := by rw [R.pre.hr, Int.toNat_natCast]
    simp [lookVal, hok, hr, hp, this]
  have hlv := lookVal_len g ps zs
  have hlk := fun B W hBW hGW h1 h2 => lookP_any g A1 c1 A2 c2 P1 k1 ps P2 k2 zs B W hBW hGW h1 h2 (by omega) (by omega)
  rw [e1] at hlk
  have hst := fun B W hBW hGW => stand_any g (g.first + g.seas.length) A1 c1 A2 c2 B W hBW hGW
  rw [(stand_last hok).1, (stand_last hok).2] at hst
  have hll := lastL_len R
  have hlb := lastL_bnd R
  have hls : (lastL g).length = g.start.length := by rw [hll, R.pre.ls]
  have hf0 := R.pre.f0
  have hf1 := R.pre.f1
  have h60 := R.pre.l60
  obtain ⟨b, hb⟩ : ∃ b, g.hab.bears.toNat = b := ⟨_, rfl⟩
  rw [hb] at e2 hab
  generalize lookVal g ps zs = out at e2 hlv hlk
  have HG := Lib.hid hG
  have HV := Lib.hid (And.intro hV1 hV2)
  have HLK := Lib.hid hlk
  have HST := Lib.hid hst
  have HR := Lib.hid (And.intro hrd (And.intro hp (And.intro hr hzl)))
  have HH := Lib.hid hab
  generalize lastL g = L at e2 hll hlb hls HST
  have HE := Lib.hid (And.intro e2 (And.intro hll (And.intro hlb hls)))
  obtain ⟨w0, hw0⟩ : ∃ w0, w.alloc (.cells (gcs g A1 c1 A2 c2) 29) = w0 := ⟨_, rfl⟩
  have hb0 : Below w.heap.size w w0 := by rw [← hw0]; exact (Below.refl _ _).alloc (Nat.le_refl _) _
  have hs0 : w0.heap.size = w.heap.size + 1 := by rw [← hw0]; simp
  have hm0 : w0.heap[w.heap.size]? = some (.cells (gcs g A1 c1 A2 c2) 29 (0, 0)) := by rw [← hw0]; exact alloc_at0 w _
  have B0 := Lib.hid (And.intro hb0 (And.intro hm0 hs0))
  have hlsz : (L.length : Int) = g.start.length := by omega
  have hlv2 : (out.length : Int) ≤ zs.length := by omega
  clear hG hV1 hV2 hb0 hm0 hs0 hlk hst hrd hp hr hzl hab e2 hll hlb hls hgr hok R e1 hb hlv
  simp only [gcs] at hw0
  unfold grv at HLK HST ⊢
  go_enter Try.func7, Try.ntmps7
  go_wp2_with (first
    | (go_at_call 28; refine (alive_any w0).mono ?_; rintro e w1 ⟨rfl, hB1⟩
       have hc1 := fun i => cell_of_row w1 w.heap.size i _ _ _ ((hB1.block _ (by have := B0.out.2.2; omega)).trans B0.out.2.1)
       have hs1 : w.heap.size < w1.heap.size := by have := B0.out.2.2; have := hB1.size; omega
       have H1 := Lib.hid (And.intro (B0.out.1.trans (hB1.mono (by have := B0.out.2.2; omega))) ((hB1.block _ (by have := B0.out.2.2; omega)).trans B0.out.2.1)); clear hB1)
    | (go_at_call 29; refine (ready_any g A1 c1 A2 c2 P1 k1 ps w.heap.size w1 H1.out.1.size (HG.out.below H1.out.1) (HV.out.1.below H1.out.1) (by omega)).mono ?_; rintro e w2 ⟨rfl, hB2⟩; rw [HR.out.1]
       have hc2 := fun i => cell_of_row w2 w.heap.size i _ _ _ ((hB2.block _ hs1).trans H1.out.2)
       have hs2 : w.heap.size < w2.heap.size := by have := hB2.size; omega
       have H2 := Lib.hid (And.intro (H1.out.1.trans (hB2.mono H1.out.1.size)) ((hB2.block _ hs1).trans H1.out.2)); clear hB2 hc1)
    | (go_at_call 30; refine (refPlan_any P1 k1 ps P2 k2 zs w.heap.size w2 (HV.out.2.below H2.out.1) (by have := HR.out.2.2.2; omega) (by omega)).mono ?_; rintro e w3 ⟨rfl, rfl⟩; rw [HR.out.2.1])
    | (go_at_call 23; refine (HLK.out w.heap.size w2 H2.out.1.size (HG.out.below H2.out.1) (HV.out.1.below H2.out.1) (HV.out.2.below H2.out.1)).mono ?_; rintro e w4 ⟨D, q, rfl, -, hD, hB4⟩
       have hc4 := fun i => cell_of_row w4 w.heap.size i _ _ _ ((hB4.block _ hs2).trans H2.out.2)
       have hs4 : w.heap.size < w4.heap.size := by have := hB4.size; omega
       have H4 := Lib.hid (And.intro (H2.out.1.trans (hB4.mono H2.out.1.size)) (And.intro ((hB4.block _ hs2).trans H2.out.2) hD)); clear hB4 hc2 hD)
    | (go_at_call 14; refine (HST.out w.heap.size w5 H5.out.1.size (HG.out.below H5.out.1)).mono ?_; rintro e w6 ⟨E2, q6, rfl, hq6, hE2, -, hB6⟩
       have hs6 := hB6.size
       have H6 := Lib.hid (And.intro (H5.out.1.trans (hB6.mono H5.out.1.size)) (And.intro ((hB6.block _ hs5).trans H5.out.2.1) (And.intro ((H5.out.2.2.1.below hB6).mono hB6.size) (And.intro H5.out.2.2.2.1 (And.intro ((H5.out.2.2.2.2.below hB6).mono hB6.size) (And.intro hq6 hE2))))))
       have hc6 := fun i => cell_of_row w6 w.heap.size i _ _ _ H6.out.2.1
       clear hB6 hc5 hq6 hE2 hs6)
    | (go_at_call 14; refine (HST.out w.heap.size w4 H4.out.1.size (HG.out.below H4.out.1)).mono ?_; rintro e w5 ⟨E, q5, rfl, hq5, hE, -, hB5⟩
       have hc5 := fun i => cell_of_row w5 w.heap.size i _ _ _ ((hB5.block _ hs4).trans H4.out.2.1)
       have H5 := Lib.hid (And.intro (H4.out.1.trans (hB5.mono H4.out.1.size)) (And.intro ((hB5.block _ hs4).trans H4.out.2.1) (And.intro ((H4.out.2.2.below hB5).mono hB5.size) (And.intro hq5 hE)))); have hs5 : w.heap.size < w5.heap.size := by have := hB5.size; omega
       clear hB5 hc4 hq5 hE))
  go_loopg [11, 13, 103] zs.length (fun gg s11 s13 s103 wx => ∃ (i : Nat) (F1 : Option Addr) (f1 : Nat) (F2 : Option Addr) (f2 : Nat) (pre : List (Int × Int × Int × Int)) (lo hi : List Int) (M : Int), i + gg = zs.length ∧ s103 = .int .i64 i ∧ s11 = .slice F1 lo.length f1 ∧ s13 = .slice F2 hi.length f2 ∧
    Hid (pre.length = i ∧ out = pre ++ aheadL g.hab r b lo hi ((ps.zip zs).drop i) ∧ Yr g.hab d lo hi M ∧ M ≤ 30 * 11 ^ i ∧ lo.length ≤ f1 ∧ hi.length ≤ f2 ∧ Ints wx wx.heap.size F1 lo ∧ Ints wx wx.heap.size F2 hi ∧ Below w6.heap.size w6 wx))
  case atStart => exact ⟨0, E, q5, E2, q6, [], L, L, 30, by omega, rfl, rfl, rfl, rfl, HE.out.1, (Mid.start HE.out.2.1 HE.out.2.2.1).yr, by decide, H6.out.2.2.2.1, H6.out.2.2.2.2.2.1, H6.out.2.2.2.2.1, H6.out.2.2.2.2.2.2, Below.refl _ _⟩
  case round =>
    obtain ⟨i, F1, f1, F2, f2, pre, lo, hi, M, hig, rfl, rfl, rfl, hI⟩ := hrel
    cases gk with
    | zero =>
      obtain rfl : i = zs.length := by omega
      have hol : (out.length : Int) = zs.length := by
        have h1 := hI.out.2.1
        rw [List.drop_of_length_le (by have := HR.out.2.2.2; simp; omega)] at h1
        simp only [aheadL, List.append_nil] at h1
        rw [h1, hI.out.1]
      go_wp2
      go_ret
      exact ⟨rfl, H6.out.1.trans (hI.out.2.2.2.2.2.2.2.2.mono H6.out.1.size)⟩
    | succ gg =>
      have hip : i < ps.length := by have := HR.out.2.2.2; omega
      have hipz : (i : Int) < ps.length := by omega
      have hizz : (i : Int) < zs.length := by omega
      obtain ⟨b1, off1, hA1, hb1, hq1⟩ := HV.out.1 (by rw [pairs_len]; omega)
      subst hA1
      obtain ⟨b2, off2, hA2, hb2, hq2⟩ := HV.out.2 (by omega)
      subst hA2
      have hbel := H6.out.1.trans (hI.out.2.2.2.2.2.2.2.2.mono H6.out.1.size)
      have hpa := pairs_at ps i hip
      have rn := rainsOk_at HR.out.2.2.1 hip
      have pn := planOk_at HR.out.2.1 (k := i) (by omega)
      have hzip : (ps.zip zs).drop i = (ps[i]?.getD (0, 0), zs[i]?.getD 0) :: (ps.zip zs).drop (i + 1) := by
        rw [List.drop_eq_getElem_cons (by simp; omega)]
        congr 1
        simp [hip, show i < zs.length by omega]
      have hst := hI.out.2.1
      rw [hzip] at hst
      have hr0 : ∀ W, Below wr.heap.size wr W → W.cell? ⟨b1, off1 + i * 2, none⟩ = _ := fun W hW => ((hbel.trans (hW.mono hbel.size)).cell (p := ⟨b1, off1 + i * 2, none⟩) (by simp; omega)).trans (hq1 _ _ hpa.1)
      have hr1 : ∀ W, Below wr.heap.size wr W → W.cell? ⟨b1, off1 + i * 2 + 1, none⟩ = _ := fun W hW => ((hbel.trans (hW.mono hbel.size)).cell (p := ⟨b1, off1 + i * 2 + 1, none⟩) (by simp; omega)).trans (hq1 _ _ hpa.2)
      have hz0 : wr.cell? ⟨b2, off2 + i, none⟩ = _ := (hbel.cell (p := ⟨b2, off2 + i, none⟩) (by simp; omega)).trans (hq2 i (by omega))
      generalize ps[i]?.getD (0, 0) = x at rn hr0 hr1 hst
      generalize zs[i]?.getD 0 = n at pn hz0 hst
      obtain ⟨x1, x2⟩ := x
      simp only at rn hr0 hr1
      obtain ⟨rn0, rn1, rn2⟩ := rn
      obtain ⟨pn0, pn1⟩ := pn
      have hab := HH.out
      have hl0 := hab.l0
      have hlh := hab.lh
      have hh1 := hab.h1
      have hd6 := hab.d6
      have hbd := hab.bd
      have hMM := pow11 (k := i) (by omega)
      have hm11 := hI.out.2.2.2.1
      have hyr := hI.out.2.2.1
      have hnx := hyr.next hab (p := (x1, x2)) rn0 rn1 rn2 pn0 pn1
      simp only at hnx
      have hup := okY_up hab hyr (p := (x1, x2)) rn0 rn1 rn2 pn0 pn1
      simp only at hup
      have hcase : (i < out.length ∧ okY r g.hab.keep lo (shotsL b lo g.hab.lo x1) n = true ∧ out[i]?.getD (0, 0, 0, 0) = (shotsL b lo g.hab.lo x1, shotsL b hi g.hab.hi x2, (yearL lo (shotsL b lo g.hab.lo x1) n).sum, (yearL hi (shotsL b hi g.hab.hi x2) n).sum) ∧
          out = (pre ++ [(shotsL b lo g.hab.lo x1, shotsL b hi g.hab.hi x2, (yearL lo (shotsL b lo g.hab.lo x1) n).sum, (yearL hi (shotsL b hi g.hab.hi x2) n).sum)]) ++ aheadL g.hab r b (yearL lo (shotsL b lo g.hab.lo x1) n) (yearL hi (shotsL b hi g.hab.hi x2) n) ((ps.zip zs).drop (i + 1))) ∨
          ((i : Int) = out.length ∧ okY r g.hab.keep lo (shotsL b lo g.hab.lo x1) n = false) := by
        have hpl := hI.out.1
        cases hok : okY r g.hab.keep lo (shotsL b lo g.hab.lo x1) n with
        | true =>
          have h2 := hst
          rw [aheadL_yes hok] at h2
          have hlt : pre.length < out.length := by rw [h2]; simp
          obtain ⟨a1, a2, a3⟩ := ahead_step hst hlt
          rw [hpl] at a2
          exact .inl ⟨by omega, rfl, a2, a3⟩
        | false =>
          rw [aheadL_no hok, List.append_nil] at hst
          exact .inr ⟨by rw [hst, hpl], rfl⟩
      have hsh1 := fun W hz => refShots_any g.hab b hab.hb F1 f1 lo W.heap.size W (Nat.le_refl _) hz (by have := hyr.ll; omega) hI.out.2.2.2.2.1 (by have := hyr.ll; omega) (fun k hk => by have := hyr.bl k hk; omega) g.hab.lo x1 hl0 (by omega) rn0 (by omega)
      have hsh2 := fun W hz => refShots_any g.hab b hab.hb F2 f2 hi W.heap.size W (Nat.le_refl _) hz (by have := hyr.lh; omega) hI.out.2.2.2.2.2.1 (by have := hyr.lh; omega) (fun k hk => by have := hyr.bh k hk; omega) g.hab.hi x2 (by omega) hh1 (by omega) rn2
      have hy1 := fun W hz => refYear_both hab (A := F1) (cap := f1) hyr.ll hnx.2.2.2.1 (show M ≤ 39930 by omega) hyr.m0 hnx.1 (by have := hnx.2.1; have := hnx.2.2.1; omega) pn0 pn1 W hz
      have hy2 := fun W hz => refYear_both hab (A := F2) (cap := f2) hyr.lh hnx.2.2.2.2.1 (show M ≤ 39930 by omega) hyr.m0 (by have := hnx.1; have := hnx.2.1; omega) hnx.2.2.1 pn0 pn1 W hz
      have hYr' := hnx.2.2.2.2.2
      have hM1 : 11 * M ≤ 30 * 11 ^ (i + 1) := by rw [Int.pow_succ]; omega
      have hok1 : okY r g.hab.keep lo (shotsL b lo g.hab.lo x1) n = (yearOk r lo (shotsL b lo g.hab.lo x1) n && decide (g.hab.keep ≤ (yearL lo (shotsL b lo g.hab.lo x1) n).sum)) := rfl
      have hok2 : okY r g.hab.keep hi (shotsL b hi g.hab.hi x2) n = true → yearOk r hi (shotsL b hi g.hab.hi x2) n = true := fun e => (okY_parts e).1
      have hsb := hnx.2.2.1
      clear hst hzip hnx
      rw [hok1] at hcase hup
      generalize yearOk r lo (shotsL b lo g.hab.lo x1) n = OK1 at hy1 hcase hup
      generalize okY r g.hab.keep hi (shotsL b hi g.hab.hi x2) n = OKH at hup hok2
      generalize yearOk r hi (shotsL b hi g.hab.hi x2) n = OK2 at hy2 hok2
      generalize yearL lo (shotsL b lo g.hab.lo x1) n = lo' at hy1 hcase hup hYr'
      generalize yearL hi (shotsL b hi g.hab.hi x2) n = hi' at hy2 hcase hYr'
      generalize shotsL b lo g.hab.lo x1 = s1 at hsh1 hy1 hcase
      generalize shotsL b hi g.hab.hi x2 = s2 at hsh2 hy2 hcase
      have hgb : wr.heap[w.heap.size]? = some (.cells (gcs g A1 c1 A2 c2) 29 (0, 0)) := (hI.out.2.2.2.2.2.2.2.2.block _ (lt_of_heap H6.out.2.1)).trans H6.out.2.1
      have HGB := Lib.hid hgb
      have HC1 := Lib.hid (And.intro hr0 hr1)
      have HSH := Lib.hid (And.intro hsh1 hsh2)
      have HY := Lib.hid (And.intro hy1 hy2)
      have HCA := Lib.hid (And.intro hcase (And.intro hup (And.intro hok2 (And.intro hYr' hM1))))
      have HBL := Lib.hid hbel
      clear hr0 hr1 hsh1 hsh2 hy1 hy2 hcase hup hok2 hYr' hM1 hgb hbel hq1 hq2 hpa hMM hm11 hyr hab hok1 hsb
      go_wp2
      refine R2.wp_walk (C := Below wr.heap.size wr) (S := fun _ => Grows) 202 (by kernel_rfl) (by kernel_rfl) rfl (fun _ => Grows.refl) (Below.refl _ _).drew ?_
      simp only []
      repeat
        (refine' R2.WalkR.det (fun _ => rfl) rfl (fun ρ W hW hH hU => ?_) ?_
         rotate_left
         · clear hH hU
           have hcg := fun i => cell_of_row W w.heap.size i _ _ _ ((hW.block _ (lt_of_heap HGB.out)).trans HGB.out)
           have hx0 := HC1.out.1 W hW
           have hx1 := HC1.out.2 W hW
           have HW := Lib.hid hW
           clear hW
           go_simp
           first
             | with_reducible exact ⟨rfl, Grows.refl _, HW.out⟩
             | (go_at_call 31; refine (HSH.out.1 W ((hI.out.2.2.2.2.2.2.1.below HW.out).mono HW.out.size)).mono ?_; rintro e W1 ⟨rfl, hB1⟩; exact ⟨_, rfl, rfl, hB1, HW.out.trans (hB1.mono HW.out.size)⟩)
         simp only [Act.put, List.setIfInBounds_toArray, List.set_cons_succ, List.set_cons_zero])
      refine R2.WalkR.nil (fun ρ w7 hW hH hF => ?_)
      clear hH hF
      have H7 := Lib.hid hW
      clear hW hz0
      go_wp2
      refine R2.wp_walk (C := Below wr.heap.size wr) (S := fun _ => Grows) 202 (by kernel_rfl) (by kernel_rfl) rfl (fun _ => Grows.refl) (H7.out.trans ((Below.refl _ _).drew.mono H7.out.size)) ?_
      simp only []
      repeat
        (refine' R2.WalkR.det (fun _ => rfl) rfl (fun ρ W hW hH hU => ?_) ?_
         rotate_left
         · clear hH hU
           have hcg := fun i => cell_of_row W w.heap.size i _ _ _ ((hW.block _ (lt_of_heap HGB.out)).trans HGB.out)
           have hx0 := HC1.out.1 W hW
           have hx1 := HC1.out.2 W hW
           have HW := Lib.hid hW
           clear hW
           go_simp
           first
             | with_reducible exact ⟨rfl, Grows.refl _, HW.out⟩
             | (go_at_call 31; refine (HSH.out.2 W ((hI.out.2.2.2.2.2.2.2.1.below HW.out).mono HW.out.size)).mono ?_; rintro e W1 ⟨rfl, hB1⟩; exact ⟨_, rfl, rfl, hB1, HW.out.trans (hB1.mono HW.out.size)⟩)
         simp only [Act.put, List.setIfInBounds_toArray, List.set_cons_succ, List.set_cons_zero])
      refine R2.WalkR.nil (fun ρ w8 hW hH hF => ?_)
      clear hH hF
      have hcg8 := fun i => cell_of_row w8 w.heap.size i _ _ _ ((hW.block _ (lt_of_heap HGB.out)).trans HGB.out)
      have H8 := Lib.hid (And.intro ((hW.block _ (lt_of_heap HGB.out)).trans HGB.out) (And.intro ((hI.out.2.2.2.2.2.2.1.below hW).mono hW.size) (And.intro ((hI.out.2.2.2.2.2.2.2.1.below hW).mono hW.size) hW)))
      clear hW
      rcases HCA.out.1 with ⟨hlt, hky, hqo, hout⟩ | ⟨heq, hkn⟩
      case inl =>
        have hne : ¬ (i : Int) = out.length := by omega
        simp only [Bool.and_eq_true, decide_eq_true_eq] at hky
        have HQ := Lib.hid (And.intro hlt (And.intro hky (And.intro hqo hout)))
        clear hlt hky hqo hout
        go_wp2_with (first
          | ((with_reducible show Calls _ _ #[_, Value.slice F1 _ _, _, _] _ _); go_at_call 34; refine (HY.out.1 w8 H8.out.2.1).mono ?_; rintro e w9 ⟨_, rfl, ⟨X1, m1, y1, X1', m1', y1', rfl, hX1⟩, hB9⟩
             have hs9 : w8.heap.size ≤ w9.heap.size := hB9.size
             have hcg9 := fun i => cell_of_row w9 w.heap.size i _ _ _ ((hB9.block _ (lt_of_heap H8.out.1)).trans H8.out.1)
             have H9 := Lib.hid (And.intro ((hB9.block _ (lt_of_heap H8.out.1)).trans H8.out.1) (And.intro ((H8.out.2.2.1.below hB9).mono hB9.size) (And.intro (H8.out.2.2.2.trans (hB9.mono H8.out.2.2.2.size)) hX1)))
             clear hB9 hX1 hcg8)
          | ((with_reducible show Calls _ _ #[_, Value.slice F2 _ _, _, _] _ _); go_at_call 34; refine (HY.out.2 w9 H9.out.2.1).mono ?_; rintro e w10 ⟨_, rfl, ⟨X2, m2, y2, X2', m2', y2', rfl, hX2⟩, hB10⟩
             have hk1 : OK1 = true → m1 = lo'.length ∧ m1 ≤ y1 ∧ Ints w10 w10.heap.size X1 lo' := fun e => ⟨(H9.out.2.2.2 e).1, (H9.out.2.2.2 e).2.1, ((H9.out.2.2.2 e).2.2.below hB10).mono hB10.size⟩
             have H10 := Lib.hid (And.intro ((hB10.block _ (lt_of_heap H9.out.1)).trans H9.out.1) (And.intro (H9.out.2.2.1.trans (hB10.mono H9.out.2.2.1.size)) (And.intro hk1 hX2)))
             clear hB10 hX2 hcg9 hk1))
        have hk1e : OK1 = true := HQ.out.2.1.1
        have hk2e : OK2 = true := HCA.out.2.2.1 (HCA.out.2.1 (by simp only [Bool.and_eq_true, decide_eq_true_eq]; exact HQ.out.2.1))
        obtain ⟨rfl, hy1, hX1⟩ := H10.out.2.2.1 hk1e
        obtain ⟨rfl, hy2, hX2⟩ := H10.out.2.2.2 hk2e
        obtain ⟨b3, off3, hA3, hb3, hq3⟩ := H6.out.2.2.1 (by have := HQ.out.1; rw [quads_len]; omega)
        subst hA3
        have hqa := quads_at out i HQ.out.1
        rw [HQ.out.2.2.1] at hqa
        simp only at hqa
        have hl6 : w6.heap.size ≤ wr.heap.size := hI.out.2.2.2.2.2.2.2.2.size
        have hq : ∀ j v, (quads out)[i * 4 + j]? = some v → ∀ W, Below w10.heap.size w10 W → W.cell? ⟨b3, off3 + i * 4 + j, none⟩ = some v := fun j v hj W hW => by
          have h1 := hq3 _ _ hj
          have hb := (hI.out.2.2.2.2.2.2.2.2.trans (H10.out.2.1.mono hl6)).trans (hW.mono (Nat.le_trans hl6 H10.out.2.1.size))
          rw [show off3 + (i * 4 + j) = off3 + i * 4 + j by omega] at h1
          exact (hb.cell (p := ⟨b3, off3 + i * 4 + j, none⟩) hb3).trans h1
        have h0 := hq 0 _ hqa.1
        have h1 := hq 1 _ hqa.2.1
        have h2 := hq 2 _ hqa.2.2.1
        have h3 := hq 3 _ hqa.2.2.2
        have hYr' := HCA.out.2.2.2.1
        have hsu1 := fun W hz => refSum_any X1 y1 lo' W.heap.size W hz (by rw [hYr'.ll]; have := HH.out.d6; omega) (fun k hk => by have := hYr'.bl k hk; have := hI.out.2.2.2.1; have := pow11 (k := i) (by omega); omega)
        have hsu2 := fun W hz => refSum_any X2 y2 hi' W.heap.size W hz (by rw [hYr'.lh]; have := HH.out.d6; omega) (fun k hk => by have := hYr'.bh k hk; have := hI.out.2.2.2.1; have := pow11 (k := i) (by omega); omega)
        have hneq := fun W => neqAhead W s1 s2 lo'.sum hi'.sum
        generalize lo'.sum = t1 at h2 hsu1 hneq HQ
        generalize hi'.sum = t2 at h3 hsu2 hneq HQ
        have HX := Lib.hid (And.intro hX1 (And.intro hX2 (And.intro hsu1 (And.intro hsu2 (And.intro hy1 hy2)))))
        have HD := Lib.hid (And.intro h0 (And.intro h1 (And.intro h2 h3)))
        have hltz : (i : Int) < out.length := by have := HQ.out.1; omega
        subst hk1e hk2e
        clear hX1 hX2 hsu1 hsu2 hq hqa h0 h1 h2 h3 hYr' hq3 hy1 hy2 hl6
        go_wp2
        refine R2.wp_walk (C := Below w10.heap.size w10) (S := fun _ => Grows) 202 (by kernel_rfl) (by kernel_rfl) rfl (fun _ => Grows.refl) (Below.refl _ _).drew ?_
        simp only []
        repeat (first
          | (refine R2.WalkR.un (fun _ => rfl) ?_
             simp only [Act.put, List.setIfInBounds_toArray, List.set_cons_succ, List.set_cons_zero])
          | (refine' R2.WalkR.det (fun _ => rfl) rfl (fun ρ W hW hH hU => ?_) ?_
             rotate_left
             · clear hH hU
               have h0 := HD.out.1 W hW
               have h1 := HD.out.2.1 W hW
               have h2 := HD.out.2.2.1 W hW
               have h3 := HD.out.2.2.2 W hW
               simp only [Nat.add_zero] at h0
               have HXW := Lib.hid (And.intro ((HX.out.1.below hW).mono hW.size) ((HX.out.2.1.below hW).mono hW.size))
               have HW := Lib.hid hW
               clear hW
               go_simp
               first
                 | with_reducible exact ⟨rfl, Grows.refl _, HW.out⟩
                 | ((with_reducible show Calls _ _ #[Value.slice X1 _ _] _ _); go_at_call 35; refine (HX.out.2.2.1 W HXW.out.1).mono ?_; rintro e W1 ⟨rfl, rfl⟩; exact ⟨_, rfl, rfl, Grows.refl _, HW.out⟩)
                 | ((with_reducible show Calls _ _ #[Value.slice X2 _ _] _ _); go_at_call 35; refine (HX.out.2.2.2.1 W HXW.out.2).mono ?_; rintro e W1 ⟨rfl, rfl⟩; exact ⟨_, rfl, rfl, Grows.refl _, HW.out⟩)
                 | (go_at_call 36; refine (span_any _ _ W).mono ?_; rintro e W1 ⟨rfl, hB1⟩; exact ⟨_, rfl, rfl, hB1, HW.out.trans (hB1.mono HW.out.size)⟩)
             simp only [Act.put, List.setIfInBounds_toArray, List.set_cons_succ, List.set_cons_zero]))
        refine R2.WalkR.nil (fun ρ w11 hW hH hF => ?_)
        clear hH hF
        have hb11 : Below w6.heap.size w6 w11 := hI.out.2.2.2.2.2.2.2.2.trans ((H10.out.2.1.trans (hW.mono H10.out.2.1.size)).mono hI.out.2.2.2.2.2.2.2.2.size)
        have hpl : (pre ++ [(s1, s2, t1, t2)]).length = i + 1 := by simp [hI.out.1]
        have HF := Lib.hid (And.intro hb11 (And.intro hpl (And.intro ((HX.out.1.below hW).mono hW.size) ((HX.out.2.1.below hW).mono hW.size))))
        clear hW hb11 hpl
        go_wp2
        go_roundg gg
        case measure => omega
        case rel => exact ⟨i + 1, X1, y1, X2, y2, pre ++ [(s1, s2, t1, t2)], lo', hi', 11 * M, by omega, by go_num, rfl, rfl, HF.out.2.1, HQ.out.2.2.2, HCA.out.2.2.2.1, HCA.out.2.2.2.2, HX.out.2.2.2.2.1, HX.out.2.2.2.2.2, HF.out.2.2.1, HF.out.2.2.2, HF.out.1⟩
      case inr =>
        have HKN := Lib.hid hkn
        clear hkn
        go_wp2_with (first
          | ((with_reducible show Calls _ _ #[_, Value.slice F1 _ _, _, _] _ _); go_at_call 34; refine (HY.out.1 w8 H8.out.2.1).mono ?_; rintro e w9 ⟨_, rfl, ⟨X1, m1, y1, X1', m1', y1', rfl, hX1⟩, hB9⟩
             have hs9 : w8.heap.size ≤ w9.heap.size := hB9.size
             have hcg9 := fun i => cell_of_row w9 w.heap.size i _ _ _ ((hB9.block _ (lt_of_heap H8.out.1)).trans H8.out.1)
             have H9 := Lib.hid (And.intro ((hB9.block _ (lt_of_heap H8.out.1)).trans H8.out.1) (And.intro ((H8.out.2.2.1.below hB9).mono hB9.size) (And.intro (H8.out.2.2.2.trans (hB9.mono H8.out.2.2.2.size)) hX1)))
             clear hB9 hX1 hcg8)
          | ((with_reducible show Calls _ _ #[_, Value.slice F2 _ _, _, _] _ _); go_at_call 34; refine (HY.out.2 w9 H9.out.2.1).mono ?_; rintro e w10 ⟨_, rfl, ⟨X2, m2, y2, X2', m2', y2', rfl, hX2⟩, hB10⟩
             have hk1 : OK1 = true → m1 = lo'.length ∧ m1 ≤ y1 ∧ Ints w10 w10.heap.size X1 lo' := fun e => ⟨(H9.out.2.2.2 e).1, (H9.out.2.2.2 e).2.1, ((H9.out.2.2.2 e).2.2.below hB10).mono hB10.size⟩
             have H10 := Lib.hid (And.intro ((hB10.block _ (lt_of_heap H9.out.1)).trans H9.out.1) (And.intro (H9.out.2.2.1.trans (hB10.mono H9.out.2.2.1.size)) (And.intro hk1 hX2)))
             clear hB10 hX2 hcg9 hk1))
        cases OK1 with
        | false =>
          refine R2.wp_walk (C := Below w10.heap.size w10) (S := fun _ => Grows) 202 (by kernel_rfl) (by kernel_rfl) rfl (fun _ => Grows.refl) (Below.refl _ _).drew ?_
          simp only []
          repeat (first
            | (refine R2.WalkR.un (fun _ => rfl) ?_
               simp only [Act.put, List.setIfInBounds_toArray, List.set_cons_succ, List.set_cons_zero])
            | (refine' R2.WalkR.det (fun _ => rfl) rfl (fun ρ W hW hH hU => ?_) ?_
               rotate_left
               · clear hH hU
                 have HW := Lib.hid hW
                 clear hW
                 go_simp
                 first
                   | with_reducible exact ⟨rfl, Grows.refl _, HW.out⟩
               simp only [Act.put, List.setIfInBounds_toArray, List.set_cons_succ, List.set_cons_zero]))
          refine R2.WalkR.nil (fun ρ w11 hW hH hF => ?_)
          clear hH hF
          have HF := Lib.hid ((HBL.out.trans (H10.out.2.1.mono HBL.out.size)).trans (hW.mono (Nat.le_trans HBL.out.size H10.out.2.1.size)))
          clear hW
          go_wp2
          go_ret
          exact ⟨rfl, HF.out⟩
        | true =>
          obtain ⟨rfl, hy1, hX1⟩ := H10.out.2.2.1 rfl
          have hYr' := HCA.out.2.2.2.1
          have hsu1 := fun W hz => refSum_any X1 y1 lo' W.heap.size W hz (by rw [hYr'.ll]; have := HH.out.d6; omega) (fun k hk => by have := hYr'.bl k hk; have := hI.out.2.2.2.1; have := pow11 (k := i) (by omega); omega)
          have hlk : lo'.sum < g.hab.keep := by have := HKN.out; simpa using this
          generalize lo'.sum = t1 at hsu1 hlk
          have HX := Lib.hid (And.intro hX1 hsu1)
          clear hX1 hsu1 hYr' hy1
          refine R2.wp_walk (C := Below w10.heap.size w10) (S := fun _ => Grows) 202 (by kernel_rfl) (by kernel_rfl) rfl (fun _ => Grows.refl) (Below.refl _ _).drew ?_
          simp only []
          repeat (first
            | (refine R2.WalkR.un (fun _ => rfl) ?_
               simp only [Act.put, List.setIfInBounds_toArray, List.set_cons_succ, List.set_cons_zero])
            | (refine' R2.WalkR.det (fun _ => rfl) rfl (fun ρ W hW hH hU => ?_) ?_
               rotate_left
               · clear hH hU
                 have hcg := fun i => cell_of_row W w.heap.size i _ _ _ ((hW.block _ (lt_of_heap H10.out.1)).trans H10.out.1)
                 have HXW := Lib.hid ((HX.out.1.below hW).mono hW.size)
                 have HW := Lib.hid hW
                 clear hW
                 go_simp
                 first
                   | with_reducible exact ⟨rfl, Grows.refl _, HW.out⟩
                   | (go_at_call 35; refine (HX.out.2 W HXW.out).mono ?_; rintro e W1 ⟨rfl, rfl⟩; exact ⟨_, rfl, rfl, Grows.refl _, HW.out⟩)
               simp only [Act.put, List.setIfInBounds_toArray, List.set_cons_succ, List.set_cons_zero]))
          refine R2.WalkR.nil (fun ρ w11 hW hH hF => ?_)
          clear hH hF
          have HF := Lib.hid ((HBL.out.trans (H10.out.2.1.mono HBL.out.size)).trans (hW.mono (Nat.le_trans HBL.out.size H10.out.2.1.size)))
          clear hW
          go_wp2
          go_ret
          exact ⟨rfl, HF.out⟩

theorem clumpReached_law (g : Gr) (ps : List (Int × Int)) (zs : List Int) (A1 : Option Addr) (c1 : Nat) (A2 : Option Addr) (c2 : Nat) (P1 : Option Addr) (k1 : Nat) (P2 : Option Addr) (k2 : Nat) (w : World) (hG : GrAt w w.heap.size g A1 c1 A2 c2)
    (hV1 : Vals w w.heap.size P1 (pairs ps)) (hV2 : Ints w w.heap.size P2 zs) (l1 : ps.length ≤ 9223372036854775807) (l2 : zs.length ≤ 9223372036854775807) :
    Calls Try.prog 7 #[grv g A1 c1 A2 c2, .slice P1 ps.length k1, .slice P2 zs.length k2] w fun e w' => e = .returned (.bool true) ∧ Below w.heap.size w w' := by
  by_cases h : readyB g ps = false ∨ planOk zs ps.length = false
  · exact clumpReached_idle g ps zs A1 c1 A2 c2 P1 k1 P2 k2 w hG hV1 hV2 l1 l2 h
  · refine clumpReached_main g ps zs A1 c1 A2 c2 P1 k1 P2 k2 w hG hV1 hV2 ?_ ?_
    · cases hc : readyB g ps with
      | true => rfl
      | false => exact absurd (.inl hc) h
    · cases hc : planOk zs ps.length with
      | true => rfl
      | false => exact absurd (.inr hc) h

end Go.Proofs.Ytkjdapgkojfbmaa

namespace Go.Proofs.Ytkjdapgkojfbmaa
open Go.ChangeShapes Go.WideShapes Go.ChangeAt Go.RowKit

theorem Try.own : ownKnob Try.prog.godebug = none := by kernel_rfl
theorem Try.laidOut : laidOutB Try.prog = true := by kernel_rfl

set_option maxRecDepth 100000 in
set_option maxHeartbeats 4000000 in
theorem clumpReached_lifted (os : Os) (started : os.Started) (H : Type) (enc : TypeId × Value → H) :
    ReturnsInHanded {} Try.checked os 7 .any (Rows.clumpReachedSpec.pre6 enc Try.prog Try.f7 Rows.clumpReachedRow.domain false) (Rows.clumpReachedSpec.post enc Try.prog Try.f7 false true false false) := by
  refine returnsInHanded_of_change (C := Try.checked) Try.own started (by kernel_rfl) Try.func7
    (ChangeSpec.witness6 (enc := enc) (C := Try.checked) false ⟨#[], #[.agg #[.int .i64 0, .int .i64 0, .int .i64 0, .int .i64 0, .int .i64 0, .int .i64 0, .int .i64 0, .int .i64 0, .slice none 0 0, .slice none 0 0], .slice none 0 0, .slice none 0 0], []⟩ 8 (by kernel_rfl) (by kernel_rfl) (by kernel_rfl) (by kernel_rfl)) ?_
  intro W base args ds gs before hval0 hW hcnd _
  have hval : ∀ (j : Nat) t v, Try.f7.params[j]? = some t → args[j]? = some v → Value.okWide Try.prog W .any base t v := hval0
  have hW' := hW
  obtain ⟨p, q, hA0, hV, rfl, hfz, hnd⟩ := hW
  have hA : DataW.TrodAll enc Try.prog W 0 (fun _ => true) true Try.f7.params.toList args.toList ds p := hA0
  rw [Try.params7] at hA hval
  obtain ⟨v0, v1, v2, d0, d1, d2, p0, p1, p2, rfl, rfl, rfl, h0, h1, h2⟩ := trodAll_three hA
  obtain ⟨rfl, rfl⟩ := trodVars_none hV
  obtain ⟨g, A1, c1, A2, c2, rfl, hG⟩ := open_grove (hval 0 29 v0 rfl rfl) h0
  obtain ⟨P1, ps, k1, rfl, l1, hP⟩ := open_spans_arg (hval 1 48 v1 rfl rfl) h1
  obtain ⟨P2, zs, k2, rfl, l2, hZ⟩ := open_ints_arg (hval 2 26 v2 rfl rfl) h2
  clear hA0 hval0
  simp only [List.append_nil] at hW'
  have hlt0 : ∀ x ∈ p0, x.block < W.heap.size := fun x hx => hW'.lt x (by simp [hx])
  have hlt1 : ∀ x ∈ p1, x.block < W.heap.size := fun x hx => hW'.lt x (by simp [hx])
  have hlt2 : ∀ x ∈ p2, x.block < W.heap.size := fun x hx => hW'.lt x (by simp [hx])
  refine (clumpReached_law g ps zs A1 c1 A2 c2 P1 k1 P2 k2 W hG hP hZ (by simp only [maxLen] at l1; omega) (by simp only [maxLen] at l2; omega)).mono fun e W' ⟨he, hB⟩ => ?_
  subst he
  refine ⟨_, rfl, _, _, _, [], p0 ++ (p1 ++ p2), [], hW', ?_, ?_, rfl, hB.frame _, fun h => by cases h⟩
  · exact trodAll_mk1 (shut_bool Try.underlying4 true)
  · exact trodAll_mk3 (Below.trod Try.laidOut (by kernel_rfl) (of_decide_eq_true (by kernel_rfl)) h0 hB hlt0) (Below.trod Try.laidOut (by kernel_rfl) (of_decide_eq_true (by kernel_rfl)) h1 hB hlt1) (Below.trod Try.laidOut (by kernel_rfl) (of_decide_eq_true (by kernel_rfl)) h2 hB hlt2)

theorem clumpReached : Rows.ClumpReachedSaid :=
  OpenClaim.holds_of_wide 7 Try.f7 rfl rfl rfl rfl rfl rfl rfl ⟨rfl, rfl, rfl, rfl, rfl⟩ rfl rfl rfl rfl rfl (by kernel_rfl) Try.func7 (by kernel_rfl)
    (of_decide_eq_true (by kernel_rfl)) (by unfold Func.isWrapper; rw [if_neg (by decide +kernel)]; exact ⟨rfl, rfl⟩)
    (fun os started H enc _ => clumpReached_lifted os started H enc)

end Go.Proofs.Ytkjdapgkojfbmaa

