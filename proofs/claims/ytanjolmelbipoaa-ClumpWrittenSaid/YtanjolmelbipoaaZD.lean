/-
  Look; the small functions of the reference that its Look calls.
-/
import Derived.Test.YtanjolmelbipoaaZC
import Derived.Test.YtanjolmelbipoaaZB
import Derived.Test.YtanjolmelbipoaaYK
import Derived.BigQuiet
import Derived.Test.YtanjolmelbipoaaYE
import Derived.Deep.LoopGhost
namespace Go.Proofs.Ytanjolmelbipoaa
open Go.RowKit

/-- What stands at the end of a book. -/
def lastL (g : Gr) : List Int := runL g.start g.seas
def lookErr (g : Gr) (ps : List (Int × Int)) (zs : List Int) : Int := if okGrove g = true then (if rainsOk ps = true then (if planOk zs ps.length = true then 0 else 12) else 11) else 10
def lookVal (g : Gr) (ps : List (Int × Int)) (zs : List Int) : List (Int × Int × Int × Int) :=
  if okGrove g = true ∧ rainsOk ps = true ∧ planOk zs ps.length = true then aheadL g.hab g.hab.ripe.toNat g.hab.bears.toNat (lastL g) (lastL g) (ps.zip zs) else []

def LookPost (w : World) (l : List (Int × Int × Int × Int)) (er : Int) (e : Ending) (w' : World) : Prop :=
  ∃ A c, e = .returned (.tuple #[.slice A l.length c, .int .i64 l.length, .int .i64 er]) ∧ l.length ≤ c ∧ Vals w' w'.heap.size A (quads l) ∧ Below w.heap.size w w'
theorem LookPost.nil {w w' : World} {er : Int} (h : Below w.heap.size w w') : LookPost w [] er (.returned (.tuple #[.slice none 0 0, .int .i64 0, .int .i64 er])) w' :=
  ⟨none, 0, rfl, Nat.le_refl _, fun h => by simp [quads] at h, h⟩

theorem habOk_of {g : Gr} (hok : okGrove g = true) {d r : Nat} (R : Runs g d r) : HabOk g.hab d r g.hab.bears.toNat := by
  have h1 : okHab g.hab = true := by
    simp only [okGrove, okPre, Bool.and_eq_true] at hok
    exact hok.1.1.1.1.1.1.2
  have h2 := okHab_iff.1 h1
  have hd := R.pre.hd
  exact ⟨R.pre.hd, R.pre.hr, by omega, R.pre.r1, R.pre.rd, R.pre.d6, by omega, by omega, by omega, by omega, by omega⟩

theorem lastL_pad {g : Gr} {d r : Nat} (R : Runs g d r) : stateP d r (start7 g) g.seas g.seas.length = pad7 (lastL g) := by
  have := (state_link R g.seas.length (Nat.le_refl _)).1
  rwa [List.take_length] at this
theorem lastL_len {g : Gr} {d r : Nat} (R : Runs g d r) : (lastL g).length = d + 1 := by unfold lastL; rw [runL_len, R.pre.ls]
theorem lastL_bnd {g : Gr} {d r : Nat} (R : Runs g d r) : Bnd 0 30 (lastL g) := by
  have := R.bnd g.seas.length (Nat.le_refl _)
  rwa [List.take_length] at this

set_option maxHeartbeats 4000000 in
theorem lookP_any (g : Gr) (A1 : Option Addr) (c1 : Nat) (A2 : Option Addr) (c2 : Nat) (P1 : Option Addr) (k1 : Nat) (ps : List (Int × Int)) (P2 : Option Addr) (k2 : Nat) (zs : List Int) (B : Nat) (w : World) (hB : B ≤ w.heap.size) (hG : GrAt w B g A1 c1 A2 c2)
    (hV1 : Vals w B P1 (pairs ps)) (hV2 : Ints w B P2 zs) (l1 : ps.length ≤ 9223372036854775807) (l2 : zs.length ≤ 9223372036854775807) :
    Calls Try.prog 23 #[grv g A1 c1 A2 c2, .slice P1 ps.length k1, .slice P2 zs.length k2] w (LookPost w (lookVal g ps zs) (lookErr g ps zs)) := by
  have HG := Lib.hid hG
  have HV := Lib.hid (And.intro hV1 hV2)
  obtain ⟨w0, hw0⟩ : ∃ w0, w.alloc (.cells (gcs g A1 c1 A2 c2) 29) = w0 := ⟨_, rfl⟩
  have hb0 : Below w.heap.size w w0 := by rw [← hw0]; exact (Below.refl _ _).alloc (Nat.le_refl _) _
  have hs0 : w0.heap.size = w.heap.size + 1 := by rw [← hw0]; simp
  have hm0 : w0.heap[w.heap.size]? = some (.cells (gcs g A1 c1 A2 c2) 29 (0, 0)) := by rw [← hw0]; exact alloc_at0 w _
  have hc0 := fun i => cell_of_row w0 w.heap.size i _ _ _ hm0
  have B0 := Lib.hid (And.intro hb0 (And.intro hm0 hw0))
  have HS0 := Lib.hid hs0
  clear hG hV1 hV2 hb0 hm0 hs0
  have stop : ∀ er W, Below w.heap.size w W → LookPost w [] er (.returned (.tuple #[.slice none 0 0, .int .i64 0, .int .i64 er])) W := fun er W h => LookPost.nil h
  have STOP := Lib.hid stop
  clear stop
  rcases Bool.eq_false_or_eq_true (okGrove g) with hok | hok
  case inr =>
    have e1 : lookErr g ps zs = 10 := by simp [lookErr, hok]
    have e2 : lookVal g ps zs = [] := by simp [lookVal, hok]
    have e3 : errG g = 10 := by simp [errG, hok]
    rw [e1, e2]
    have E3 := Lib.hid e3
    clear e1 e2 e3 hok
    unfold grv
    simp only [gcs] at hw0
    go_enter Try.func23, Try.ntmps23
    go_wp2_with
      (go_at_call 18; refine (check_any g A1 c1 A2 c2 B w0 (by have := HS0.out; omega) (HG.out.below (B0.out.1.mono hB))).mono ?_; rintro e w1 ⟨rfl, hB1⟩; rw [E3.out]; have H1 := Lib.hid hB1; clear hB1)
    go_ret3
    exact STOP.out 10 _ (B0.out.1.trans (H1.out.mono (by have := HS0.out; omega)))
  case inl =>
    have e3 : errG g = 0 := by simp [errG, hok]
    have E3 := Lib.hid e3
    clear e3
    rcases Bool.eq_false_or_eq_true (rainsOk ps) with hr | hr
    case inr =>
      have e1 : lookErr g ps zs = 11 := by simp [lookErr, hok, hr]
      have e2 : lookVal g ps zs = [] := by simp [lookVal, hok, hr]
      rw [e1, e2]
      have HR := Lib.hid hr
      clear e1 e2 hok hr
      unfold grv
      simp only [gcs] at hw0
      go_enter Try.func23, Try.ntmps23
      go_wp2_with (first
        | (go_at_call 18; refine (check_any g A1 c1 A2 c2 B w0 (by have := HS0.out; omega) (HG.out.below (B0.out.1.mono hB))).mono ?_; rintro e w1 ⟨rfl, hB1⟩; rw [E3.out]; have H1 := Lib.hid (B0.out.1.trans (hB1.mono (by have := HS0.out; omega))); clear hB1)
        | (go_at_call 45; refine (validRains_any P1 k1 ps B w1 (Nat.le_trans hB H1.out.size) (HV.out.1.below (H1.out.mono hB)) l1).mono ?_; rintro e w2 ⟨rfl, hB2⟩; rw [HR.out]; have H2 := Lib.hid (H1.out.trans (hB2.mono H1.out.size)); clear hB2))
      go_ret3
      exact STOP.out 11 _ H2.out
    case inl =>
      rcases Bool.eq_false_or_eq_true (planOk zs ps.length) with hp | hp
      case inr =>
        have e1 : lookErr g ps zs = 12 := by simp [lookErr, hok, hr, hp]
        have e2 : lookVal g ps zs = [] := by simp [lookVal, hok, hr, hp]
        rw [e1, e2]
        have HR := Lib.hid (And.intro hr hp)
        clear e1 e2 hok hr hp
        unfold grv
        simp only [gcs] at hw0
        go_enter Try.func23, Try.ntmps23
        go_wp2_with (first
          | (go_at_call 18; refine (check_any g A1 c1 A2 c2 B w0 (by have := HS0.out; omega) (HG.out.below (B0.out.1.mono hB))).mono ?_; rintro e w1 ⟨rfl, hB1⟩; rw [E3.out]; have H1 := Lib.hid (B0.out.1.trans (hB1.mono (by have := HS0.out; omega))); clear hB1)
          | (go_at_call 45; refine (validRains_any P1 k1 ps B w1 (Nat.le_trans hB H1.out.size) (HV.out.1.below (H1.out.mono hB)) l1).mono ?_; rintro e w2 ⟨rfl, hB2⟩; rw [HR.out.1]; have H2 := Lib.hid (H1.out.trans (hB2.mono H1.out.size)); clear hB2)
          | (go_at_call 46; refine (validPlan_any P2 k2 zs ps.length B w2 (Nat.le_trans hB H2.out.size) (HV.out.2.below (H2.out.mono hB)) l2).mono ?_; rintro e w3 ⟨rfl, hB3⟩; rw [HR.out.2]; have H3 := Lib.hid (H2.out.trans (hB3.mono H2.out.size)); clear hB3))
        go_ret3
        exact STOP.out 12 _ H3.out
      case inl =>
        obtain ⟨d, r, R⟩ := okGrove_runs hok
        have hab := habOk_of hok R
        have e1 : lookErr g ps zs = 0 := by simp [lookErr, hok, hr, hp]
        have e2 : lookVal g ps zs = aheadL g.hab r g.hab.bears.toNat (lastL g) (lastL g) (ps.zip zs) := by
          have : g.hab.ripe.toNat = r := by rw [R.pre.hr, Int.toNat_natCast]
          simp [lookVal, hok, hr, hp, this]
        have hat := fun W hBW hGW => atWork_any g A1 c1 A2 c2 d r R.fine B W hBW hGW
        rw [lastL_pad R] at hat
        have hlk := fun W hBW h1 h2 => look_any g.hab d r g.hab.bears.toNat hab (lastL g) (lastL_len R) (lastL_bnd R) P1 k1 ps P2 k2 zs B W hBW h1 h2 hr hp
        rw [e1, e2]
        generalize aheadL g.hab r g.hab.bears.toNat (lastL g) (lastL g) (ps.zip zs) = out at hlk ⊢
        have HA := Lib.hid hat
        have HL := Lib.hid hlk
        have HR := Lib.hid (And.intro hr hp)
        clear e1 e2 hok hr hp R hab hat hlk STOP
        unfold grv
        simp only [gcs] at hw0
        go_enter Try.func23, Try.ntmps23
        go_wp2_with (first
          | (go_at_call 18; refine (check_any g A1 c1 A2 c2 B w0 (by have := HS0.out; omega) (HG.out.below (B0.out.1.mono hB))).mono ?_; rintro e w1 ⟨rfl, hB1⟩; rw [E3.out]
             have hw1 : w.heap.size < w1.heap.size := by have := HS0.out; have := hB1.size; omega
             have hc1 := fun i => cell_of_row w1 w.heap.size i _ _ _ ((hB1.block _ (by have := HS0.out; omega)).trans B0.out.2.1)
             have H1 := Lib.hid (And.intro (B0.out.1.trans (hB1.mono (by have := HS0.out; omega))) ((hB1.block _ (by have := HS0.out; omega)).trans B0.out.2.1)); clear hB1)
          | (go_at_call 45; refine (validRains_any P1 k1 ps B w1 (Nat.le_trans hB H1.out.1.size) (HV.out.1.below (H1.out.1.mono hB)) l1).mono ?_; rintro e w2 ⟨rfl, hB2⟩; rw [HR.out.1]
             have H2 := Lib.hid (And.intro (H1.out.1.trans (hB2.mono H1.out.1.size)) ((hB2.block _ hw1).trans H1.out.2))
             have hw2 : w.heap.size < w2.heap.size := by have := hB2.size; omega
             clear hB2)
          | (go_at_call 46; refine (validPlan_any P2 k2 zs ps.length B w2 (Nat.le_trans hB H2.out.1.size) (HV.out.2.below (H2.out.1.mono hB)) l2).mono ?_; rintro e w3 ⟨rfl, hB3⟩; rw [HR.out.2]
             have H3 := Lib.hid (And.intro (H2.out.1.trans (hB3.mono H2.out.1.size)) ((hB3.block _ hw2).trans H2.out.2))
             have hc3 := fun i => cell_of_row w3 w.heap.size i _ _ _ H3.out.2
             clear hB3 hc0 hc1)
          | (go_at_call 48; refine (HA.out w3 (Nat.le_trans hB H3.out.1.size) (HG.out.below (H3.out.1.mono hB))).mono ?_; rintro e w4 ⟨rfl, hB4⟩
             have H4 := Lib.hid (H3.out.1.trans (hB4.mono H3.out.1.size)); clear hB4)
          | (go_at_call 47; refine (HL.out w4 (Nat.le_trans hB H4.out.size) (HV.out.1.below (H4.out.mono hB)) (HV.out.2.below (H4.out.mono hB))).mono ?_; rintro e w5 ⟨A, c, rfl, hc5, hV5, hB5⟩
             have H5 := Lib.hid (And.intro hc5 (And.intro hV5 (H4.out.trans (hB5.mono H4.out.size)))); clear hc5 hV5 hB5))
        go_ret3
        exact ⟨A, c, rfl, H5.out.1, H5.out.2.1, H5.out.2.2⟩

end Go.Proofs.Ytanjolmelbipoaa

namespace Go.Proofs.Ytanjolmelbipoaa
open Go.RowKit

set_option maxHeartbeats 2000000 in
theorem refPlan_any (P1 : Option Addr) (k1 : Nat) (ps : List (Int × Int)) (A : Option Addr) (cap : Nat) (zs : List Int) (B : Nat) (w : World) (hV : Ints w B A zs) (hl : zs.length ≤ 9223372036854775807) (_hl1 : ps.length ≤ 9223372036854775807) :
    Calls Try.prog 30 #[.slice P1 ps.length k1, .slice A zs.length cap] w fun e w' => e = .returned (.bool (planOk zs ps.length)) ∧ w = w' := by
  have HV := Lib.hid hV
  clear hV
  by_cases hn : zs.length = ps.length
  · have HN := Lib.hid hn
    rw [← hn]
    rw [planOk_yes rfl]
    clear hn _hl1
    go_enter Try.func30, Try.ntmps30
    go_wp2
    go_loop [5] (fun i => ∃ k : Nat, k ≤ zs.length ∧ i = .int .i64 k ∧ Hid (∀ j, j < k → inR (zs[j]?.getD 0) 0 30 = true)) (fun i => zs.length - (intOf i).toNat)
    case atStart => exact ⟨0, Nat.zero_le _, rfl, fun j hj => absurd hj (by omega)⟩
    case round =>
      obtain ⟨k, hk, rfl, hall⟩ := hrel
      by_cases hlt : k < zs.length
      · obtain ⟨b, off, hA, hbB, hc⟩ := HV.out (by omega)
        subst hA
        have hcell := hc k hlt
        have hno := fun h => allIn_not (lo := 0) (hi := 30) hlt h
        clear hc
        generalize hx : zs[k]?.getD 0 = x at hcell hno
        have Hx := Lib.hid hx
        have Hno := Lib.hid hno
        clear hx hno
        rcases Bool.eq_false_or_eq_true (inR x 0 30) with hin | hin
        · have Hin := Lib.hid hin
          go_wp2_with (go_at_call 54; refine (refWithin_any _ _ _ _).mono ?_; rintro e w' ⟨rfl, rfl⟩)
          go_round
          case rel => exact ⟨k + 1, by omega, by go_num, fun j hj => by
            rcases Nat.lt_or_ge j k with h | h
            · exact hall.out j h
            · obtain rfl : j = k := by omega
              rw [Hx.out]; exact Hin.out⟩
          case measure => simp [intOf] <;> omega
        · have hf := Lib.hid (Hno.out hin)
          go_wp2_with (go_at_call 54; refine (refWithin_any _ _ _ _).mono ?_; rintro e w' ⟨rfl, rfl⟩)
          go_ret
          exact ⟨by rw [hf.out]; rfl, rfl⟩
      · obtain rfl : k = zs.length := by omega
        have hf := Lib.hid (allIn_at hall.out)
        clear hall
        go_wp2
        go_ret
        exact ⟨by rw [hf.out]; rfl, rfl⟩
  · rw [planOk_no hn]
    have hd : ((zs.length : Int) != (ps.length : Int)) = true := by rw [bne_iff_ne]; omega
    clear hn
    go_enter Try.func30, Try.ntmps30
    go_wp2
    go_ret
    exact ⟨rfl, rfl⟩

set_option maxHeartbeats 1000000 in
theorem refShots_any (h : Hab) (b : Nat) (hb : h.bears = b) (A : Option Addr) (cap : Nat) (zs : List Int) (B : Nat) (w : World) (hB : B ≤ w.heap.size) (hz : Ints w B A zs) (hbl : b + 1 ≤ zs.length) (hcap : zs.length ≤ cap) (hl : zs.length ≤ 7) (hbd : Bnd 0 1000000 zs)
    (rate rain : Int) (h1 : 0 ≤ rate) (h2 : rate ≤ 1000) (h3 : 0 ≤ rain) (h4 : rain ≤ 1500) :
    Calls Try.prog 31 #[hv h, .slice A zs.length cap, .int .i64 rate, .int .i64 rain] w fun e w' => e = .returned (.int .i64 (shotsL b zs rate rain)) ∧ Below w.heap.size w w' := by
  obtain ⟨lo, hi, be, ri, di, ke⟩ := h
  simp only at hb
  subst hb
  unfold shotsL
  obtain ⟨g, off, rfl, hbB, hc⟩ := hz (by omega)
  have hlt : (zs.take (b + 1)).length = b + 1 := by simp; omega
  have hI : Ints (w.alloc (.cells #[.int .i64 lo, .int .i64 hi, .int .i64 b, .int .i64 ri, .int .i64 di, .int .i64 ke] 25)) B (some ⟨g, off, none⟩) (zs.take (b + 1)) := fun _ => by
    refine ⟨g, off, rfl, hbB, fun k hk => ?_⟩
    rw [hlt] at hk
    rw [World.cell?_alloc_lt _ _ _ (by simp; omega), hc k (by omega)]
    simp [hk]
  have H := refSum_any (some ⟨g, off, none⟩) cap (zs.take (b + 1)) B _ hI (by omega) (hbd.take (b + 1))
  rw [hlt] at H
  have s0 := sum_nn (hbd.take (b + 1))
  have s1 := sum_ub (hbd.take (b + 1))
  rw [hlt] at s1
  have HH := Lib.hid H
  clear H hI hlt hc hz
  generalize (List.take (b + 1) zs).sum = S at HH s0 s1 ⊢
  have s2 : S ≤ 7000000 := by omega
  have m1 := mul_bd s0 s2 h1 h2
  have m2 := mul_bd m1.1 m1.2 h3 h4
  obtain ⟨m1a, m1b⟩ := m1
  obtain ⟨m2a, m2b⟩ := m2
  have m1c : S * rate ≤ 7000000000 := by omega
  have m2c : S * rate * rain ≤ 10500000000000 := by omega
  have b1 : (0 : Int) ≤ (b : Int) + 1 := by omega
  have b2 : (b : Int) + 1 ≤ cap := by omega
  have b3 : ((b : Int) + 1).toNat = b + 1 := by omega
  clear hbd m1b m2b s1
  unfold hv
  simp only
  go_enter Try.func31, Try.ntmps31
  go_wp2_with (go_at_call 35; refine (HH.out).mono ?_; rintro e w' ⟨rfl, rfl⟩)
  go_ret
  exact ⟨rfl, (Below.refl _ _).alloc (Nat.le_refl _) _⟩

def LastPost (w : World) (g : Gr) (e : Ending) (w' : World) : Prop :=
  ∃ g1 c1, e = .returned (.slice (some ⟨g1, 0, none⟩) (lastL g).length c1) ∧ w.heap.size ≤ g1 ∧ (lastL g).length ≤ c1 ∧ Ints w' w'.heap.size (some ⟨g1, 0, none⟩) (lastL g) ∧ Below w.heap.size w w'

set_option maxHeartbeats 1000000 in
theorem refLast_any (g : Gr) (A1 : Option Addr) (c1 : Nat) (A2 : Option Addr) (c2 : Nat) (B : Nat) (w : World) (hB : B ≤ w.heap.size) (hG : GrAt w B g A1 c1 A2 c2) (hok : okGrove g = true) :
    Calls Try.prog 50 #[grv g A1 c1 A2 c2] w (LastPost w g) := by
  obtain ⟨d, r, R⟩ := okGrove_runs hok
  have f0 := R.pre.f0
  have f1 := R.pre.f1
  have l60 := R.pre.l60
  have hll : (lastL g).length = g.start.length := by unfold lastL; rw [runL_len]
  have H := refAt_any g g.seas.length A1 c1 A2 c2 B (w.alloc (.cells (gcs g A1 c1 A2 c2) 29)) (by simp; omega) (hG.below ((Below.refl _ _).alloc hB _)) hok (Nat.le_refl _)
  have HH := Lib.hid H
  have HL := Lib.hid hll
  clear H hok R hG hll
  unfold grv at HH ⊢
  go_enter Try.func50, Try.ntmps50
  go_wp2_with (go_at_call 41; refine HH.out.mono ?_; rintro e w1 ⟨p1, q1, p2, q2, rfl, hp1, hp2, hq1, hq2, hI1, hI2, hf1, hB1⟩
               have H1 := Lib.hid (And.intro hp1 (And.intro hq1 (And.intro hI1 hB1))); clear hp1 hp2 hq1 hq2 hI1 hI2 hf1 hB1)
  go_ret
  have hI := H1.out.2.2.1
  rw [List.take_length] at hI
  have hp := H1.out.1
  simp at hp
  exact ⟨p1, q1, by rw [HL.out]; rfl, by omega, by rw [HL.out]; exact H1.out.2.1, hI, ((Below.refl _ _).alloc (Nat.le_refl _) _).trans (H1.out.2.2.2.mono (by simp))⟩

end Go.Proofs.Ytanjolmelbipoaa

namespace Go.Proofs.Ytanjolmelbipoaa
open Go.RowKit

attribute [local go_sem] gives

theorem rainsOk_no1 {ps : List (Int × Int)} (h : inR ps.length 1 4 = false) : rainsOk ps = false := by simp [rainsOk, h]
theorem rainsOk_no2 {ps : List (Int × Int)} {k : Nat} (hk : k < ps.length) (h : (inR (ps[k]?.getD (0, 0)).1 0 1500 && inR (ps[k]?.getD (0, 0)).2 (ps[k]?.getD (0, 0)).1 1500) = false) : rainsOk ps = false :=
  rainsOk_no hk (by rw [okSpan_eq]; exact h)
theorem rainsOk_all {ps : List (Int × Int)} (h1 : inR ps.length 1 4 = true) (h : ∀ k, k < ps.length → (inR (ps[k]?.getD (0, 0)).1 0 1500 && inR (ps[k]?.getD (0, 0)).2 (ps[k]?.getD (0, 0)).1 1500) = true) : rainsOk ps = true := by
  rw [rainsOk_yes (fun k hk => by rw [okSpan_eq]; exact h k hk), allIn_one]
  exact h1

set_option maxHeartbeats 4000000 in
theorem refRains_any (P1 : Option Addr) (k1 : Nat) (ps : List (Int × Int)) (B : Nat) (w : World) (hB : B ≤ w.heap.size) (hV : Vals w B P1 (pairs ps)) (hl1 : ps.length ≤ 9223372036854775807) :
    Calls Try.prog 49 #[.slice P1 ps.length k1] w fun e w' => e = .returned (.bool (rainsOk ps)) ∧ Below w.heap.size w w' := by
  have HV := Lib.hid hV
  clear hV
  rcases Bool.eq_false_or_eq_true (inR ps.length 1 4) with hn | hn
  case inr =>
    have HF := Lib.hid (And.intro (rainsOk_no1 hn) hn)
    clear hn
    go_enter Try.func49, Try.ntmps49
    go_wp2_with (go_at_call 54; refine (refWithin_any _ _ _ _).mono ?_; rintro e w' ⟨rfl, rfl⟩; rw [HF.out.2])
    go_ret
    exact ⟨by rw [HF.out.1]; rfl, Below.refl _ _⟩
  case inl =>
    have HN := Lib.hid hn
    clear hn
    go_enter Try.func49, Try.ntmps49
    go_wp2_with (go_at_call 54; refine (refWithin_any _ _ _ _).mono ?_; rintro e w' ⟨rfl, rfl⟩; rw [HN.out])
    go_loopw [3] (fun i wr => ∃ k : Nat, k ≤ ps.length ∧ i = .int .i64 k ∧ Hid (∀ j, j < k → (inR (ps[j]?.getD (0, 0)).1 0 1500 && inR (ps[j]?.getD (0, 0)).2 (ps[j]?.getD (0, 0)).1 1500) = true) ∧ Hid (Below w.heap.size w wr)) (fun i _ => ps.length - (intOf i).toNat)
    case atStart => exact ⟨0, Nat.zero_le _, rfl, fun j hj => absurd hj (by omega), Below.refl _ _⟩
    case round =>
      obtain ⟨k, hk, rfl, hall, hBr⟩ := hrel
      by_cases hlt : k < ps.length
      · obtain ⟨b, off, hA, hbB, hc⟩ := HV.out (by rw [pairs_len]; omega)
        subst hA
        have hpa := pairs_at ps k hlt
        have hc0 : ∀ W, Below w.heap.size w W → W.cell? ⟨b, off + k * 2, none⟩ = _ := fun W hW => (hW.cell (p := ⟨b, off + k * 2, none⟩) (by simp; omega)).trans (hc _ _ hpa.1)
        have hc1 : ∀ W, Below w.heap.size w W → W.cell? ⟨b, off + k * 2 + 1, none⟩ = _ := fun W hW => (hW.cell (p := ⟨b, off + k * 2 + 1, none⟩) (by simp; omega)).trans (hc _ _ hpa.2)
        have hno := fun h => rainsOk_no2 (ps := ps) hlt h
        have hws := hBr.out.size
        generalize hx : ps[k]?.getD (0, 0) = x at hc0 hc1 hno
        obtain ⟨lo, hi⟩ := x
        simp only at hc0 hc1 hno
        have Hx := Lib.hid hx
        have Hno := Lib.hid hno
        have HC := Lib.hid (And.intro hc0 hc1)
        have hkz : (k : Int) < ps.length := by omega
        clear hx hno hpa hc hc0 hc1
        rcases (by cases inR lo 0 1500 <;> cases inR hi lo 1500 <;> simp : inR lo 0 1500 = false ∨ (inR lo 0 1500 = true ∧ inR hi lo 1500 = false) ∨ (inR lo 0 1500 = true ∧ inR hi lo 1500 = true)) with h1 | ⟨h1, h2⟩ | ⟨h1, h2⟩
        all_goals
          go_wp2
          refine wp_walk (C := Below w.heap.size w) (S := Grows) 35 (by kernel_rfl) (by kernel_rfl) rfl Grows.refl hBr.out.drew ?_
          simp only []
          repeat (first
            | (refine WalkR.un (fun _ => rfl) ?_
               simp only [Act.put, List.setIfInBounds_toArray, List.set_cons_succ, List.set_cons_zero])
            | (refine' WalkR.det (fun _ => rfl) rfl (fun ρ W hW hH => ?_) ?_
               rotate_left
               · clear hH
                 have hc0 := HC.out.1 W hW
                 have hc1 := HC.out.2 W hW
                 have HW := Lib.hid hW
                 clear hW
                 go_simp
                 first
                   | exact ⟨rfl, Grows.refl _, HW.out⟩
                   | exact ⟨Grows.refl _, HW.out⟩
                   | (go_at_call 54; refine (refWithin_any _ _ _ _).mono ?_; rintro e W1 ⟨rfl, rfl⟩; rw [h1]; exact ⟨_, rfl, rfl, Grows.refl _, HW.out⟩)
                   | (go_at_call 54; refine (refWithin_any _ _ _ _).mono ?_; rintro e W1 ⟨rfl, rfl⟩; rw [h2]; exact ⟨_, rfl, rfl, Grows.refl _, HW.out⟩)
               simp only [Act.put, List.setIfInBounds_toArray, List.set_cons_succ, List.set_cons_zero]))
          refine WalkR.nil (fun ρ W hW hH => ?_)
          clear hH
          have HW := Lib.hid hW
          have hWs := hW.size
          clear hW
        · have hf := Lib.hid (Hno.out (by rw [h1]; rfl))
          go_wp2
          go_ret
          exact ⟨by rw [hf.out]; rfl, HW.out⟩
        · have hf := Lib.hid (Hno.out (by rw [h1, h2]; rfl))
          go_wp2
          go_ret
          exact ⟨by rw [hf.out]; rfl, HW.out⟩
        · have hok := Lib.hid (show (inR lo 0 1500 && inR hi lo 1500) = true by rw [h1, h2]; rfl)
          clear h1 h2
          go_wp2
          go_roundw
          case rel => exact ⟨k + 1, by omega, by go_num, fun j hj => by
            rcases Nat.lt_or_ge j k with h | h
            · exact hall.out j h
            · obtain rfl : j = k := by omega
              rw [Hx.out]; exact hok.out, HW.out⟩
          case measure => simp [intOf] <;> omega
      · obtain rfl : k = ps.length := by omega
        have hf := Lib.hid (rainsOk_all HN.out hall.out)
        clear hall hlt
        go_wp2
        go_ret
        exact ⟨by rw [hf.out]; rfl, hBr.out⟩

theorem Try.st65 : Try.prog.underlying 65 = some (.struct (Try.prog.fieldsOf 65)) := by kernel_rfl
theorem Try.held65 : Try.prog.stoodInHeld 65 = false := by kernel_rfl
theorem Try.guard65 : Try.prog.eqGuardType Try.prog.depth 65 = false := by kernel_rfl

theorem neqAhead (w : World) (a b c d : Int) : (binOp .neq 65 (.agg #[.int .i64 a, .int .i64 b, .int .i64 c, .int .i64 d]) (.agg #[.int .i64 a, .int .i64 b, .int .i64 c, .int .i64 d])).run Try.prog w = .ok (.bool false) w := by
  rw [run_neq_struct, run_equalIn_agg _ _ _ _ _ Try.st65 Try.held65]
  simp [Program.fieldsOf, Try.underlying65, Op.eqFields, go_sem]

end Go.Proofs.Ytanjolmelbipoaa

namespace Go.Proofs.Ytanjolmelbipoaa
open Go.RowKit

theorem quads_at (l : List (Int × Int × Int × Int)) (k : Nat) (hk : k < l.length) :
    (quads l)[k * 4]? = some (.int .i64 (l[k]?.getD (0, 0, 0, 0)).1) ∧ (quads l)[k * 4 + 1]? = some (.int .i64 (l[k]?.getD (0, 0, 0, 0)).2.1) ∧
    (quads l)[k * 4 + 2]? = some (.int .i64 (l[k]?.getD (0, 0, 0, 0)).2.2.1) ∧ (quads l)[k * 4 + 3]? = some (.int .i64 (l[k]?.getD (0, 0, 0, 0)).2.2.2) := by
  induction l generalizing k with
  | nil => simp at hk
  | cons q l ih =>
    have e : quads (q :: l) = [.int .i64 q.1, .int .i64 q.2.1, .int .i64 q.2.2.1, .int .i64 q.2.2.2] ++ quads l := rfl
    rw [e]
    cases k with
    | zero => simp
    | succ k =>
      have := ih k (by simpa using hk)
      have step : ∀ i, ([.int .i64 q.1, .int .i64 q.2.1, .int .i64 q.2.2.1, .int .i64 q.2.2.2] ++ quads l)[(k + 1) * 4 + i]? = (quads l)[k * 4 + i]? := fun i => by
        rw [List.getElem?_append_right (by simp; omega)]
        congr 1
        simp
        omega
      have s0 := step 0
      simp only [Nat.add_zero] at s0
      rw [s0, step 1, step 2, step 3]
      simpa using this

set_option maxHeartbeats 2000000 in
theorem sameAhead_any (A1 A2 : Option Addr) (c1 c2 : Nat) (l : List (Int × Int × Int × Int)) (B : Nat) (w : World) (h1 : Vals w B A1 (quads l)) (h2 : Vals w B A2 (quads l)) (hl : l.length ≤ 1000000) :
    Calls Try.prog 25 #[.slice A1 l.length c1, .slice A2 l.length c2] w fun e w' => e = .returned (.bool true) ∧ Below w.heap.size w w' := by
  have H1 := Lib.hid h1
  have H2 := Lib.hid h2
  clear h1 h2
  go_enter Try.func25, Try.ntmps25
  go_wp2
  go_loopw [5] (fun i wr => ∃ k : Nat, k ≤ l.length ∧ i = .int .i64 k ∧ Hid (Below w.heap.size w wr) ∧ Hid (∀ a : Addr, wr.cell? a = w.cell? a)) (fun i _ => l.length - (intOf i).toNat)
  case atStart => exact ⟨0, Nat.zero_le _, rfl, Below.refl _ _, fun _ => rfl⟩
  case round =>
    obtain ⟨k, hk, rfl, hB, hcw⟩ := hrel
    by_cases hlt : k < l.length
    · obtain ⟨b, off, hA, _, hc⟩ := H1.out (by rw [quads_len]; omega)
      obtain ⟨b', off', hA', _, hc'⟩ := H2.out (by rw [quads_len]; omega)
      subst hA hA'
      have hp := quads_at l k hlt
      have cx0 : wr.cell? ⟨b, off + k * 4, none⟩ = _ := (hcw.out _).trans (hc _ _ hp.1)
      have cx1 : wr.cell? ⟨b, off + k * 4 + 1, none⟩ = _ := (hcw.out _).trans (hc _ _ hp.2.1)
      have cx2 : wr.cell? ⟨b, off + k * 4 + 2, none⟩ = _ := (hcw.out _).trans (hc _ _ hp.2.2.1)
      have cx3 : wr.cell? ⟨b, off + k * 4 + 3, none⟩ = _ := (hcw.out _).trans (hc _ _ hp.2.2.2)
      have cy0 : wr.cell? ⟨b', off' + k * 4, none⟩ = _ := (hcw.out _).trans (hc' _ _ hp.1)
      have cy1 : wr.cell? ⟨b', off' + k * 4 + 1, none⟩ = _ := (hcw.out _).trans (hc' _ _ hp.2.1)
      have cy2 : wr.cell? ⟨b', off' + k * 4 + 2, none⟩ = _ := (hcw.out _).trans (hc' _ _ hp.2.2.1)
      have cy3 : wr.cell? ⟨b', off' + k * 4 + 3, none⟩ = _ := (hcw.out _).trans (hc' _ _ hp.2.2.2)
      clear hc hc' hp
      generalize l[k]?.getD (0, 0, 0, 0) = x at cx0 cx1 cx2 cx3 cy0 cy1 cy2 cy3
      obtain ⟨x, x', x'', x'''⟩ := x
      simp only at cx0 cx1 cx2 cx3 cy0 cy1 cy2 cy3
      have b1 : (0 : Int) ≤ (k : Int) := by omega
      have b2 : (k : Int) < l.length := by omega
      have hq := fun W => neqAhead W x x' x'' x'''
      have hg := Try.guard65
      go_wp2
      go_quiet (fail)
      go_wp2
      go_roundw
      case rel => exact ⟨k + 1, by omega, by go_num, below_drewN hB.out _, hcw.out⟩
      case measure => simp [intOf] <;> omega
    · obtain rfl : k = l.length := by omega
      go_wp2
      go_ret
      exact ⟨rfl, hB.out⟩

end Go.Proofs.Ytanjolmelbipoaa

namespace Go.Proofs.Ytanjolmelbipoaa
open Go.RowKit

/-- A slice that reads as the ints zs, in a block from N on. -/
def SlF (N : Nat) (zs : List Int) : Fact := fun v W => ∃ A c, v = .slice A zs.length c ∧ zs.length ≤ c ∧ Ints W W.heap.size A zs ∧ ∀ a : Addr, A = some a → N ≤ a.block
theorem SlF.keep {N : Nat} {zs : List Int} {v : Value} {W W' : World} (h : SlF N zs v W) (hg : Grows W W') : SlF N zs v W' := by
  obtain ⟨A, c, hv, hc, hi, hn⟩ := h
  exact ⟨A, c, hv, hc, (hi.below hg).mono hg.size, hn⟩
/-- What a year hands back. -/
def YrF (N : Nat) (zs gs : List Int) : Fact := fun v W => ∃ A c A' c', v = .tuple #[.slice A zs.length c, .slice A' gs.length c', .bool true] ∧ zs.length ≤ c ∧ Ints W W.heap.size A zs ∧ ∀ a : Addr, A = some a → N ≤ a.block
theorem YrF.keep {N : Nat} {zs gs : List Int} {v : Value} {W W' : World} (h : YrF N zs gs v W) (hg : Grows W W') : YrF N zs gs v W' := by
  obtain ⟨A, c, A', c', hv, hc, hi, hn⟩ := h
  exact ⟨A, c, A', c', hv, hc, (hi.below hg).mono hg.size, hn⟩
theorem Ints.grown {W W' : World} {A : Option Addr} {zs : List Int} {ob : Option Nat} {N : Nat} (h : Ints W W.heap.size A zs) (hN : ∀ a : Addr, A = some a → N ≤ a.block) (hg : W.grownBy W' ob) (hob : ∀ k, ob = some k → k < N) : Ints W' W'.heap.size A zs := fun h0 => by
  obtain ⟨b, off, rfl, hlt, hc⟩ := h h0
  have hb := hN _ rfl
  refine ⟨b, off, rfl, Nat.lt_of_lt_of_le hlt hg.size, fun k hk => ?_⟩
  rw [World.cell?_of_block (w := W) (hg.block b hlt (fun e => by have := hob b e.symm; simp only at hb; omega))]
  exact hc k hk
def AnyF : Fact := fun _ _ => True

/-- A step that makes memory, and may turn a new block from Z to L. -/
structure NS (N : Nat) (Z L : Obj) (W W' : World) : Prop where
  size : W.heap.size ≤ W'.heap.size
  same : ∀ k, k < W.heap.size → W'.heap[k]? = W.heap[k]? ∨ (N ≤ k ∧ W.heap[k]? = some Z ∧ W'.heap[k]? = some L)
theorem NS.refl {N : Nat} {Z L : Obj} (W : World) : NS N Z L W W := ⟨Nat.le_refl _, fun _ _ => .inl rfl⟩
theorem NS.grows {N : Nat} {Z L : Obj} {W W' : World} (h : Grows W W') : NS N Z L W W' := ⟨h.size, fun k hk => .inl (h.block k hk)⟩
def NewN (N : Nat) (Z L : Obj) : Fact := fun v W => ∃ g, v = .pointer (some ⟨g, 0, none⟩) ∧ N ≤ g ∧ (W.heap[g]? = some Z ∨ W.heap[g]? = some L)
def OldN (N : Nat) (L : Obj) : Fact := fun v W => ∃ g, v = .pointer (some ⟨g, 0, none⟩) ∧ N ≤ g ∧ W.heap[g]? = some L
theorem OldN.keep {N : Nat} {Z L : Obj} {v : Value} {W W' : World} (h : OldN N L v W) (hs : NS N Z L W W') : OldN N L v W' := by
  obtain ⟨g, hv, hg, hm⟩ := h
  refine ⟨g, hv, hg, ?_⟩
  rcases hs.same g (lt_of_heap hm) with e | ⟨_, _, e⟩
  · exact e.trans hm
  · exact e
theorem NewN.keep {N : Nat} {Z L : Obj} {v : Value} {W W' : World} (h : NewN N Z L v W) (hs : NS N Z L W W') : NewN N Z L v W' := by
  obtain ⟨g, hv, hg, hm⟩ := h
  refine ⟨g, hv, hg, ?_⟩
  rcases hm with hm | hm
  · rcases hs.same g (lt_of_heap hm) with e | ⟨_, _, e⟩
    · exact .inl (e.trans hm)
    · exact .inr e
  · rcases hs.same g (lt_of_heap hm) with e | ⟨_, _, e⟩
    · exact .inr (e.trans hm)
    · exact .inr e
theorem NS.put {N : Nat} {Z L : Obj} {W W' : World} {g : Nat} (hp : Put W W' g) (h0 : N ≤ g) (hz : W.heap[g]? = some Z ∨ W.heap[g]? = some L) (hn : W'.heap[g]? = some L) : NS N Z L W W' :=
  ⟨Nat.le_of_eq hp.size.symm, fun k _ => by
    by_cases e : k = g
    · subst e
      rcases hz with hz | hz
      · exact .inr ⟨h0, hz, hn⟩
      · exact .inl (by rw [hz, hn])
    · exact .inl (hp.other k e)⟩

/-- What has been told so far, in the reference. -/
structure RO (w0 : World) (H : Nat) (h : Hab) (d r b : Nat) (c0 : List Int) (ps : List (Int × Int)) (zs : List Int) (k : Nat) (A : Option Addr) (c : Nat) (A1 : Option Addr) (k1 : Nat) (A2 : Option Addr) (k2 : Nat) (out : List (Int × Int × Int × Int)) (lo hi : List Int) (M : Int) (W : World) : Prop where
  own : W.ownsRow w0.heap.size 65 4 (.slice A out.length c) out.length (quads out)
  split : aheadL h r b c0 c0 (ps.zip zs) = out ++ aheadL h r b lo hi ((ps.zip zs).drop k)
  yr : Yr h d lo hi M
  mb : M ≤ 30 * 11 ^ k
  len : out.length = k
  iL : Ints W W.heap.size A1 lo
  iH : Ints W W.heap.size A2 hi
  cL : lo.length ≤ k1
  cH : hi.length ≤ k2
  hH : W.heap[H]? = some (.cells (hcells h).toArray 25 (0, 0))
  bel : Below w0.heap.size w0 W
  lH : H < w0.heap.size

theorem rowSpan : RowTy Try.prog 23 2 := ⟨⟨_, Try.underlying23, rfl⟩, by kernel_rfl⟩
theorem rowHab : RowTy Try.prog 25 6 := ⟨⟨_, Try.underlying25, rfl⟩, by kernel_rfl⟩

/-- Where a round of the reference's Look is, after its first statement: the span of shoots lies in block G. -/
structure RK (w0 wr : World) (H G : Nat) (h : Hab) (s1 s2 : Int) (W : World) : Prop where
  hH : W.heap[H]? = some (.cells (hcells h).toArray 25 (0, 0))
  hG : W.heap[G]? = some (.cells (ints [s1, s2]).toArray 23 (0, 0))
  bel : Below wr.heap.size wr W
  lG : wr.heap.size ≤ G
theorem RK.next {w0 wr : World} {H G : Nat} {h : Hab} {s1 s2 : Int} {W W' : World} (k : RK w0 wr H G h s1 s2 W) (hg : Grows W W') : RK w0 wr H G h s1 s2 W' :=
  ⟨(hg.block _ (lt_of_heap k.hH)).trans k.hH, (hg.block _ (lt_of_heap k.hG)).trans k.hG, k.bel.trans (hg.mono k.bel.size), k.lG⟩

theorem YrF.mono {N N' : Nat} {zs gs : List Int} {v : Value} {W : World} (h : YrF N' zs gs v W) (hn : N ≤ N') : YrF N zs gs v W := by
  obtain ⟨A, c, A', c', hv, hc, hi, hN⟩ := h
  exact ⟨A, c, A', c', hv, hc, hi, fun a ha => Nat.le_trans hn (hN a ha)⟩

/-- .. behind both years, where what is told grows. -/
structure RZ (w0 : World) (N H G : Nat) (h : Hab) (s1 s2 : Int) (F1 F2 : Option Addr) (lo hi : List Int) (W : World) : Prop where
  hH : W.heap[H]? = some (.cells (hcells h).toArray 25 (0, 0))
  hG : W.heap[G]? = some (.cells (ints [s1, s2]).toArray 23 (0, 0))
  bel : Below w0.heap.size w0 W
  i1 : Ints W W.heap.size F1 lo
  i2 : Ints W W.heap.size F2 hi
  lH : H < w0.heap.size
  lN : w0.heap.size ≤ N
  lG : N ≤ G
  n1 : ∀ a : Addr, F1 = some a → N ≤ a.block
  n2 : ∀ a : Addr, F2 = some a → N ≤ a.block
theorem RZ.next {w0 : World} {N H G : Nat} {h : Hab} {s1 s2 : Int} {F1 F2 : Option Addr} {lo hi : List Int} {W W' : World} (k : RZ w0 N H G h s1 s2 F1 F2 lo hi W) (hg : Grows W W') : RZ w0 N H G h s1 s2 F1 F2 lo hi W' :=
  ⟨(hg.block _ (lt_of_heap k.hH)).trans k.hH, (hg.block _ (lt_of_heap k.hG)).trans k.hG, k.bel.trans (hg.mono k.bel.size), (k.i1.below hg).mono hg.size, (k.i2.below hg).mono hg.size, k.lH, k.lN, k.lG, k.n1, k.n2⟩
theorem RZ.app {w0 : World} {N H G : Nat} {h : Hab} {s1 s2 : Int} {F1 F2 : Option Addr} {lo hi : List Int} {W W' : World} {ob : Option Nat} (k : RZ w0 N H G h s1 s2 F1 F2 lo hi W) (hob : ∀ k, ob = some k → w0.heap.size ≤ k ∧ k < N) (hg : W.grownBy W' ob) : RZ w0 N H G h s1 s2 F1 F2 lo hi W' := by
  have lH := k.lH
  have lG := k.lG
  exact ⟨(hg.block _ (lt_of_heap k.hH) (fun e => by have := hob _ e.symm; omega)).trans k.hH, (hg.block _ (lt_of_heap k.hG) (fun e => by have := hob _ e.symm; omega)).trans k.hG, k.bel.grown hg k.bel.size (fun j e => (hob j e).1),
    k.i1.grown k.n1 hg (fun j e => (hob j e).2), k.i2.grown k.n2 hg (fun j e => (hob j e).2), k.lH, k.lN, k.lG, k.n1, k.n2⟩

/-- One year of the reference, of the numbers that stand in a round. -/
theorem refYear_round {h : Hab} {d r b : Nat} (H : HabOk h d r b) {c : List Int} (hc : c.length = d + 1) {M : Int} (hb : Bnd 0 (11 * M) c) (hM : M ≤ 39930) (m0 : 30 ≤ M) {s n : Int} (s0 : 0 ≤ s) (s1 : s ≤ 11 * M) (n0 : 0 ≤ n) (n1 : n ≤ 30) {A : Option Addr} {cap : Nat} (W : World) (hz : Ints W W.heap.size A c) :
    (yearOk r c s n = false → Calls Try.prog 34 #[hv h, .slice A c.length cap, .int .i64 s, .int .i64 n] W fun e w' => e = .returned (.tuple #[.slice none 0 0, .slice none 0 0, .bool false]) ∧ Below W.heap.size W w') ∧
    (yearOk r c s n = true → Calls Try.prog 34 #[hv h, .slice A c.length cap, .int .i64 s, .int .i64 n] W fun e w' => ∃ v, e = .returned v ∧ YrF W.heap.size (yearL c s n) (goneL c s n) v w' ∧ Below W.heap.size W w') := by
  have hd := H.d6
  have hrd := H.rd
  refine ⟨fun e => refYear_no h r H.hr A cap c W.heap.size W (Nat.le_refl _) hz (by omega) (by omega) (11 * M) (by omega) hb s n s0 s1 e, fun e => ?_⟩
  refine (refYear_yes h r H.hr A cap c W.heap.size W (Nat.le_refl _) hz (by omega) (by omega) (11 * M) (by omega) hb s n s0 s1 n0 (by omega) e).mono ?_
  rintro e w' ⟨g1, c1, g2, c2, rfl, hg1, _, _, hc1, _, hI1, _, _, _, hB⟩
  exact ⟨_, rfl, ⟨_, c1, _, c2, rfl, hc1, hI1, fun a ha => by cases ha; exact hg1⟩, hB⟩

end Go.Proofs.Ytanjolmelbipoaa

