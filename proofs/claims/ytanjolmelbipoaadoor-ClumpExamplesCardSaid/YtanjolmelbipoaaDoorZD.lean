/-
  Look; the small functions of the reference that its Look calls.
-/
import Derived.Test.YtanjolmelbipoaaDoorZC
import Derived.Test.YtanjolmelbipoaaDoorZB
import Derived.Test.YtanjolmelbipoaaDoorYK
import Derived.BigQuiet
import Derived.Test.YtanjolmelbipoaaDoorYE
import Derived.Deep.LoopGhost
namespace Go.Proofs.YtanjolmelbipoaaDoor
open Go.RowKit

/-- What stands at the end of a book. -/
def lastL (g : Gr) : List Int := runL g.start g.seas
def lookErr (g : Gr) (ps : List (Int × Int)) (zs : List Int) : Int := if okGrove g = true then (if rainsOk ps = true then (if planOk zs ps.length = true then 0 else 12) else 11) else 10
def lookVal (g : Gr) (ps : List (Int × Int)) (zs : List Int) : List (Int × Int × Int × Int) :=
  if okGrove g = true ∧ rainsOk ps = true ∧ planOk zs ps.length = true then aheadL g.hab g.hab.ripe.toNat g.hab.bears.toNat (lastL g) (lastL g) (ps.zip zs) else []

def LookPost (w : World) (l : List (Int × Int × Int × Int)) (er : Int) (e : Ending) (w' : World) : Prop :=
  ∃ A c, e = .returned (.tuple #[.slice A l.length c, .int .i64 l.length, .int .i64 er]) ∧ l.length ≤ c ∧ Vals w' w'.heap.size A (quads l) ∧ Below w.heap.size w w'
theorem LookPost.nil {w w' : World} {er : Int} (h : Below w.heap.size w w') : LookPost w [] er (.returned (.tuple #[.slice none 0 0, .int .i64 0, .int .i64 er])) w' :=
  ⟨none, 0, rfl, Nat.le_refl _, fun h => by simp [quads] at h, h⟩

theorem habOk_of {g : Gr} (hok : okGrove g = true) {d r : Nat} (R : Runs g d r) : HabOk g.hab d r g.hab.bears.toNat := by
  have h1 : okHab g.hab = true := by
    simp only [okGrove, okPre, Bool.and_eq_true] at hok
    exact hok.1.1.1.1.1.1.2
  have h2 := okHab_iff.1 h1
  have hd := R.pre.hd
  exact ⟨R.pre.hd, R.pre.hr, by omega, R.pre.r1, R.pre.rd, R.pre.d6, by omega, by omega, by omega, by omega, by omega⟩

theorem lastL_pad {g : Gr} {d r : Nat} (R : Runs g d r) : stateP d r (start7 g) g.seas g.seas.length = pad7 (lastL g) := by
  have := (state_link R g.seas.length (Nat.le_refl _)).1
  rwa [List.take_length] at this
theorem lastL_len {g : Gr} {d r : Nat} (R : Runs g d r) : (lastL g).length = d + 1 := by unfold lastL; rw [runL_len, R.pre.ls]
theorem lastL_bnd {g : Gr} {d r : Nat} (R : Runs g d r) : Bnd 0 30 (lastL g) := by
  have := R.bnd g.seas.length (Nat.le_refl _)
  rwa [List.take_length] at this

set_option maxHeartbeats 4000000 in
theorem lookP_any (g : Gr) (A1 : Option Addr) (c1 : Nat) (A2 : Option Addr) (c2 : Nat) (P1 : Option Addr) (k1 : Nat) (ps : List (Int × Int)) (P2 : Option Addr) (k2 : Nat) (zs : List Int) (B : Nat) (w : World) (hB : B ≤ w.heap.size) (hG : GrAt w B g A1 c1 A2 c2)
    (hV1 : Vals w B P1 (pairs ps)) (hV2 : Ints w B P2 zs) (l1 : ps.length ≤ 9223372036854775807) (l2 : zs.length ≤ 9223372036854775807) :
    Calls Tryd.prog 9 #[grv g A1 c1 A2 c2, .slice P1 ps.length k1, .slice P2 zs.length k2] w (LookPost w (lookVal g ps zs) (lookErr g ps zs)) := by
  have HG := Lib.hid hG
  have HV := Lib.hid (And.intro hV1 hV2)
  obtain ⟨w0, hw0⟩ : ∃ w0, w.alloc (.cells (gcs g A1 c1 A2 c2) 34) = w0 := ⟨_, rfl⟩
  have hb0 : Below w.heap.size w w0 := by rw [← hw0]; exact (Below.refl _ _).alloc (Nat.le_refl _) _
  have hs0 : w0.heap.size = w.heap.size + 1 := by rw [← hw0]; simp
  have hm0 : w0.heap[w.heap.size]? = some (.cells (gcs g A1 c1 A2 c2) 34 (0, 0)) := by rw [← hw0]; exact alloc_at0 w _
  have hc0 := fun i => cell_of_row w0 w.heap.size i _ _ _ hm0
  have B0 := Lib.hid (And.intro hb0 (And.intro hm0 hw0))
  have HS0 := Lib.hid hs0
  clear hG hV1 hV2 hb0 hm0 hs0
  have stop : ∀ er W, Below w.heap.size w W → LookPost w [] er (.returned (.tuple #[.slice none 0 0, .int .i64 0, .int .i64 er])) W := fun er W h => LookPost.nil h
  have STOP := Lib.hid stop
  clear stop
  rcases Bool.eq_false_or_eq_true (okGrove g) with hok | hok
  case inr =>
    have e1 : lookErr g ps zs = 10 := by simp [lookErr, hok]
    have e2 : lookVal g ps zs = [] := by simp [lookVal, hok]
    have e3 : errG g = 10 := by simp [errG, hok]
    rw [e1, e2]
    have E3 := Lib.hid e3
    clear e1 e2 e3 hok
    unfold grv
    simp only [gcs] at hw0
    go_enter Tryd.func9, Tryd.ntmps9
    go_wp2_with
      (go_at_call 14; refine (check_any g A1 c1 A2 c2 B w0 (by have := HS0.out; omega) (HG.out.below (B0.out.1.mono hB))).mono ?_; rintro e w1 ⟨rfl, hB1⟩; rw [E3.out]; have H1 := Lib.hid hB1; clear hB1)
    go_ret3
    exact STOP.out 10 _ (B0.out.1.trans (H1.out.mono (by have := HS0.out; omega)))
  case inl =>
    have e3 : errG g = 0 := by simp [errG, hok]
    have E3 := Lib.hid e3
    clear e3
    rcases Bool.eq_false_or_eq_true (rainsOk ps) with hr | hr
    case inr =>
      have e1 : lookErr g ps zs = 11 := by simp [lookErr, hok, hr]
      have e2 : lookVal g ps zs = [] := by simp [lookVal, hok, hr]
      rw [e1, e2]
      have HR := Lib.hid hr
      clear e1 e2 hok hr
      unfold grv
      simp only [gcs] at hw0
      go_enter Tryd.func9, Tryd.ntmps9
      go_wp2_with (first
        | (go_at_call 14; refine (check_any g A1 c1 A2 c2 B w0 (by have := HS0.out; omega) (HG.out.below (B0.out.1.mono hB))).mono ?_; rintro e w1 ⟨rfl, hB1⟩; rw [E3.out]; have H1 := Lib.hid (B0.out.1.trans (hB1.mono (by have := HS0.out; omega))); clear hB1)
        | (go_at_call 20; refine (validRains_any P1 k1 ps B w1 (Nat.le_trans hB H1.out.size) (HV.out.1.below (H1.out.mono hB)) l1).mono ?_; rintro e w2 ⟨rfl, hB2⟩; rw [HR.out]; have H2 := Lib.hid (H1.out.trans (hB2.mono H1.out.size)); clear hB2))
      go_ret3
      exact STOP.out 11 _ H2.out
    case inl =>
      rcases Bool.eq_false_or_eq_true (planOk zs ps.length) with hp | hp
      case inr =>
        have e1 : lookErr g ps zs = 12 := by simp [lookErr, hok, hr, hp]
        have e2 : lookVal g ps zs = [] := by simp [lookVal, hok, hr, hp]
        rw [e1, e2]
        have HR := Lib.hid (And.intro hr hp)
        clear e1 e2 hok hr hp
        unfold grv
        simp only [gcs] at hw0
        go_enter Tryd.func9, Tryd.ntmps9
        go_wp2_with (first
          | (go_at_call 14; refine (check_any g A1 c1 A2 c2 B w0 (by have := HS0.out; omega) (HG.out.below (B0.out.1.mono hB))).mono ?_; rintro e w1 ⟨rfl, hB1⟩; rw [E3.out]; have H1 := Lib.hid (B0.out.1.trans (hB1.mono (by have := HS0.out; omega))); clear hB1)
          | (go_at_call 20; refine (validRains_any P1 k1 ps B w1 (Nat.le_trans hB H1.out.size) (HV.out.1.below (H1.out.mono hB)) l1).mono ?_; rintro e w2 ⟨rfl, hB2⟩; rw [HR.out.1]; have H2 := Lib.hid (H1.out.trans (hB2.mono H1.out.size)); clear hB2)
          | (go_at_call 21; refine (validPlan_any P2 k2 zs ps.length B w2 (Nat.le_trans hB H2.out.size) (HV.out.2.below (H2.out.mono hB)) l2).mono ?_; rintro e w3 ⟨rfl, hB3⟩; rw [HR.out.2]; have H3 := Lib.hid (H2.out.trans (hB3.mono H2.out.size)); clear hB3))
        go_ret3
        exact STOP.out 12 _ H3.out
      case inl =>
        obtain ⟨d, r, R⟩ := okGrove_runs hok
        have hab := habOk_of hok R
        have e1 : lookErr g ps zs = 0 := by simp [lookErr, hok, hr, hp]
        have e2 : lookVal g ps zs = aheadL g.hab r g.hab.bears.toNat (lastL g) (lastL g) (ps.zip zs) := by
          have : g.hab.ripe.toNat = r := by rw [R.pre.hr, Int.toNat_natCast]
          simp [lookVal, hok, hr, hp, this]
        have hat := fun W hBW hGW => atWork_any g A1 c1 A2 c2 d r R.fine B W hBW hGW
        rw [lastL_pad R] at hat
        have hlk := fun W hBW h1 h2 => look_any g.hab d r g.hab.bears.toNat hab (lastL g) (lastL_len R) (lastL_bnd R) P1 k1 ps P2 k2 zs B W hBW h1 h2 hr hp
        rw [e1, e2]
        generalize aheadL g.hab r g.hab.bears.toNat (lastL g) (lastL g) (ps.zip zs) = out at hlk ⊢
        have HA := Lib.hid hat
        have HL := Lib.hid hlk
        have HR := Lib.hid (And.intro hr hp)
        clear e1 e2 hok hr hp R hab hat hlk STOP
        unfold grv
        simp only [gcs] at hw0
        go_enter Tryd.func9, Tryd.ntmps9
        go_wp2_with (first
          | (go_at_call 14; refine (check_any g A1 c1 A2 c2 B w0 (by have := HS0.out; omega) (HG.out.below (B0.out.1.mono hB))).mono ?_; rintro e w1 ⟨rfl, hB1⟩; rw [E3.out]
             have hw1 : w.heap.size < w1.heap.size := by have := HS0.out; have := hB1.size; omega
             have hc1 := fun i => cell_of_row w1 w.heap.size i _ _ _ ((hB1.block _ (by have := HS0.out; omega)).trans B0.out.2.1)
             have H1 := Lib.hid (And.intro (B0.out.1.trans (hB1.mono (by have := HS0.out; omega))) ((hB1.block _ (by have := HS0.out; omega)).trans B0.out.2.1)); clear hB1)
          | (go_at_call 20; refine (validRains_any P1 k1 ps B w1 (Nat.le_trans hB H1.out.1.size) (HV.out.1.below (H1.out.1.mono hB)) l1).mono ?_; rintro e w2 ⟨rfl, hB2⟩; rw [HR.out.1]
             have H2 := Lib.hid (And.intro (H1.out.1.trans (hB2.mono H1.out.1.size)) ((hB2.block _ hw1).trans H1.out.2))
             have hw2 : w.heap.size < w2.heap.size := by have := hB2.size; omega
             clear hB2)
          | (go_at_call 21; refine (validPlan_any P2 k2 zs ps.length B w2 (Nat.le_trans hB H2.out.1.size) (HV.out.2.below (H2.out.1.mono hB)) l2).mono ?_; rintro e w3 ⟨rfl, hB3⟩; rw [HR.out.2]
             have H3 := Lib.hid (And.intro (H2.out.1.trans (hB3.mono H2.out.1.size)) ((hB3.block _ hw2).trans H2.out.2))
             have hc3 := fun i => cell_of_row w3 w.heap.size i _ _ _ H3.out.2
             clear hB3 hc0 hc1)
          | (go_at_call 23; refine (HA.out w3 (Nat.le_trans hB H3.out.1.size) (HG.out.below (H3.out.1.mono hB))).mono ?_; rintro e w4 ⟨rfl, hB4⟩
             have H4 := Lib.hid (H3.out.1.trans (hB4.mono H3.out.1.size)); clear hB4)
          | (go_at_call 22; refine (HL.out w4 (Nat.le_trans hB H4.out.size) (HV.out.1.below (H4.out.mono hB)) (HV.out.2.below (H4.out.mono hB))).mono ?_; rintro e w5 ⟨A, c, rfl, hc5, hV5, hB5⟩
             have H5 := Lib.hid (And.intro hc5 (And.intro hV5 (H4.out.trans (hB5.mono H4.out.size)))); clear hc5 hV5 hB5))
        go_ret3
        exact ⟨A, c, rfl, H5.out.1, H5.out.2.1, H5.out.2.2⟩

end Go.Proofs.YtanjolmelbipoaaDoor

namespace Go.Proofs.YtanjolmelbipoaaDoor
open Go.RowKit

def LastPost (w : World) (g : Gr) (e : Ending) (w' : World) : Prop :=
  ∃ g1 c1, e = .returned (.slice (some ⟨g1, 0, none⟩) (lastL g).length c1) ∧ w.heap.size ≤ g1 ∧ (lastL g).length ≤ c1 ∧ Ints w' w'.heap.size (some ⟨g1, 0, none⟩) (lastL g) ∧ Below w.heap.size w w'

end Go.Proofs.YtanjolmelbipoaaDoor

namespace Go.Proofs.YtanjolmelbipoaaDoor
open Go.RowKit

attribute [local go_sem] gives

theorem rainsOk_no1 {ps : List (Int × Int)} (h : inR ps.length 1 4 = false) : rainsOk ps = false := by simp [rainsOk, h]
theorem rainsOk_no2 {ps : List (Int × Int)} {k : Nat} (hk : k < ps.length) (h : (inR (ps[k]?.getD (0, 0)).1 0 1500 && inR (ps[k]?.getD (0, 0)).2 (ps[k]?.getD (0, 0)).1 1500) = false) : rainsOk ps = false :=
  rainsOk_no hk (by rw [okSpan_eq]; exact h)
theorem rainsOk_all {ps : List (Int × Int)} (h1 : inR ps.length 1 4 = true) (h : ∀ k, k < ps.length → (inR (ps[k]?.getD (0, 0)).1 0 1500 && inR (ps[k]?.getD (0, 0)).2 (ps[k]?.getD (0, 0)).1 1500) = true) : rainsOk ps = true := by
  rw [rainsOk_yes (fun k hk => by rw [okSpan_eq]; exact h k hk), allIn_one]
  exact h1

theorem Tryd.st47 : Tryd.prog.underlying 47 = some (.struct (Tryd.prog.fieldsOf 47)) := by kernel_rfl
theorem Tryd.held47 : Tryd.prog.stoodInHeld 47 = false := by kernel_rfl
theorem Tryd.guard47 : Tryd.prog.eqGuardType Tryd.prog.depth 47 = false := by kernel_rfl

theorem neqAhead (w : World) (a b c d : Int) : (binOp .neq 47 (.agg #[.int .i64 a, .int .i64 b, .int .i64 c, .int .i64 d]) (.agg #[.int .i64 a, .int .i64 b, .int .i64 c, .int .i64 d])).run Tryd.prog w = .ok (.bool false) w := by
  rw [run_neq_struct, run_equalIn_agg _ _ _ _ _ Tryd.st47 Tryd.held47]
  simp [Program.fieldsOf, Tryd.underlying47, Op.eqFields, go_sem]

end Go.Proofs.YtanjolmelbipoaaDoor

namespace Go.Proofs.YtanjolmelbipoaaDoor
open Go.RowKit

theorem quads_at (l : List (Int × Int × Int × Int)) (k : Nat) (hk : k < l.length) :
    (quads l)[k * 4]? = some (.int .i64 (l[k]?.getD (0, 0, 0, 0)).1) ∧ (quads l)[k * 4 + 1]? = some (.int .i64 (l[k]?.getD (0, 0, 0, 0)).2.1) ∧
    (quads l)[k * 4 + 2]? = some (.int .i64 (l[k]?.getD (0, 0, 0, 0)).2.2.1) ∧ (quads l)[k * 4 + 3]? = some (.int .i64 (l[k]?.getD (0, 0, 0, 0)).2.2.2) := by
  induction l generalizing k with
  | nil => simp at hk
  | cons q l ih =>
    have e : quads (q :: l) = [.int .i64 q.1, .int .i64 q.2.1, .int .i64 q.2.2.1, .int .i64 q.2.2.2] ++ quads l := rfl
    rw [e]
    cases k with
    | zero => simp
    | succ k =>
      have := ih k (by simpa using hk)
      have step : ∀ i, ([.int .i64 q.1, .int .i64 q.2.1, .int .i64 q.2.2.1, .int .i64 q.2.2.2] ++ quads l)[(k + 1) * 4 + i]? = (quads l)[k * 4 + i]? := fun i => by
        rw [List.getElem?_append_right (by simp; omega)]
        congr 1
        simp
        omega
      have s0 := step 0
      simp only [Nat.add_zero] at s0
      rw [s0, step 1, step 2, step 3]
      simpa using this

set_option maxHeartbeats 2000000 in
theorem sameAhead_any (A1 A2 : Option Addr) (c1 c2 : Nat) (l : List (Int × Int × Int × Int)) (B : Nat) (w : World) (h1 : Vals w B A1 (quads l)) (h2 : Vals w B A2 (quads l)) (hl : l.length ≤ 1000000) :
    Calls Tryd.prog 12 #[.slice A1 l.length c1, .slice A2 l.length c2] w fun e w' => e = .returned (.bool true) ∧ Below w.heap.size w w' := by
  have H1 := Lib.hid h1
  have H2 := Lib.hid h2
  clear h1 h2
  go_enter Tryd.func12, Tryd.ntmps12
  go_wp2
  go_loopw [5] (fun i wr => ∃ k : Nat, k ≤ l.length ∧ i = .int .i64 k ∧ Hid (Below w.heap.size w wr) ∧ Hid (∀ a : Addr, wr.cell? a = w.cell? a)) (fun i _ => l.length - (intOf i).toNat)
  case atStart => exact ⟨0, Nat.zero_le _, rfl, Below.refl _ _, fun _ => rfl⟩
  case round =>
    obtain ⟨k, hk, rfl, hB, hcw⟩ := hrel
    by_cases hlt : k < l.length
    · obtain ⟨b, off, hA, _, hc⟩ := H1.out (by rw [quads_len]; omega)
      obtain ⟨b', off', hA', _, hc'⟩ := H2.out (by rw [quads_len]; omega)
      subst hA hA'
      have hp := quads_at l k hlt
      have cx0 : wr.cell? ⟨b, off + k * 4, none⟩ = _ := (hcw.out _).trans (hc _ _ hp.1)
      have cx1 : wr.cell? ⟨b, off + k * 4 + 1, none⟩ = _ := (hcw.out _).trans (hc _ _ hp.2.1)
      have cx2 : wr.cell? ⟨b, off + k * 4 + 2, none⟩ = _ := (hcw.out _).trans (hc _ _ hp.2.2.1)
      have cx3 : wr.cell? ⟨b, off + k * 4 + 3, none⟩ = _ := (hcw.out _).trans (hc _ _ hp.2.2.2)
      have cy0 : wr.cell? ⟨b', off' + k * 4, none⟩ = _ := (hcw.out _).trans (hc' _ _ hp.1)
      have cy1 : wr.cell? ⟨b', off' + k * 4 + 1, none⟩ = _ := (hcw.out _).trans (hc' _ _ hp.2.1)
      have cy2 : wr.cell? ⟨b', off' + k * 4 + 2, none⟩ = _ := (hcw.out _).trans (hc' _ _ hp.2.2.1)
      have cy3 : wr.cell? ⟨b', off' + k * 4 + 3, none⟩ = _ := (hcw.out _).trans (hc' _ _ hp.2.2.2)
      clear hc hc' hp
      generalize l[k]?.getD (0, 0, 0, 0) = x at cx0 cx1 cx2 cx3 cy0 cy1 cy2 cy3
      obtain ⟨x, x', x'', x'''⟩ := x
      simp only at cx0 cx1 cx2 cx3 cy0 cy1 cy2 cy3
      have b1 : (0 : Int) ≤ (k : Int) := by omega
      have b2 : (k : Int) < l.length := by omega
      have hq := fun W => neqAhead W x x' x'' x'''
      have hg := Tryd.guard47
      go_wp2
      go_quiet (fail)
      go_wp2
      go_roundw
      case rel => exact ⟨k + 1, by omega, by go_num, below_drewN hB.out _, hcw.out⟩
      case measure => simp [intOf] <;> omega
    · obtain rfl : k = l.length := by omega
      go_wp2
      go_ret
      exact ⟨rfl, hB.out⟩

end Go.Proofs.YtanjolmelbipoaaDoor

namespace Go.Proofs.YtanjolmelbipoaaDoor
open Go.RowKit

/-- A slice that reads as the ints zs, in a block from N on. -/
def SlF (N : Nat) (zs : List Int) : Fact := fun v W => ∃ A c, v = .slice A zs.length c ∧ zs.length ≤ c ∧ Ints W W.heap.size A zs ∧ ∀ a : Addr, A = some a → N ≤ a.block
theorem SlF.keep {N : Nat} {zs : List Int} {v : Value} {W W' : World} (h : SlF N zs v W) (hg : Grows W W') : SlF N zs v W' := by
  obtain ⟨A, c, hv, hc, hi, hn⟩ := h
  exact ⟨A, c, hv, hc, (hi.below hg).mono hg.size, hn⟩
/-- What a year hands back. -/
def YrF (N : Nat) (zs gs : List Int) : Fact := fun v W => ∃ A c A' c', v = .tuple #[.slice A zs.length c, .slice A' gs.length c', .bool true] ∧ zs.length ≤ c ∧ Ints W W.heap.size A zs ∧ ∀ a : Addr, A = some a → N ≤ a.block
theorem YrF.keep {N : Nat} {zs gs : List Int} {v : Value} {W W' : World} (h : YrF N zs gs v W) (hg : Grows W W') : YrF N zs gs v W' := by
  obtain ⟨A, c, A', c', hv, hc, hi, hn⟩ := h
  exact ⟨A, c, A', c', hv, hc, (hi.below hg).mono hg.size, hn⟩
theorem Ints.grown {W W' : World} {A : Option Addr} {zs : List Int} {ob : Option Nat} {N : Nat} (h : Ints W W.heap.size A zs) (hN : ∀ a : Addr, A = some a → N ≤ a.block) (hg : W.grownBy W' ob) (hob : ∀ k, ob = some k → k < N) : Ints W' W'.heap.size A zs := fun h0 => by
  obtain ⟨b, off, rfl, hlt, hc⟩ := h h0
  have hb := hN _ rfl
  refine ⟨b, off, rfl, Nat.lt_of_lt_of_le hlt hg.size, fun k hk => ?_⟩
  rw [World.cell?_of_block (w := W) (hg.block b hlt (fun e => by have := hob b e.symm; simp only at hb; omega))]
  exact hc k hk
def AnyF : Fact := fun _ _ => True

/-- A step that makes memory, and may turn a new block from Z to L. -/
structure NS (N : Nat) (Z L : Obj) (W W' : World) : Prop where
  size : W.heap.size ≤ W'.heap.size
  same : ∀ k, k < W.heap.size → W'.heap[k]? = W.heap[k]? ∨ (N ≤ k ∧ W.heap[k]? = some Z ∧ W'.heap[k]? = some L)
theorem NS.refl {N : Nat} {Z L : Obj} (W : World) : NS N Z L W W := ⟨Nat.le_refl _, fun _ _ => .inl rfl⟩
theorem NS.grows {N : Nat} {Z L : Obj} {W W' : World} (h : Grows W W') : NS N Z L W W' := ⟨h.size, fun k hk => .inl (h.block k hk)⟩
def NewN (N : Nat) (Z L : Obj) : Fact := fun v W => ∃ g, v = .pointer (some ⟨g, 0, none⟩) ∧ N ≤ g ∧ (W.heap[g]? = some Z ∨ W.heap[g]? = some L)
def OldN (N : Nat) (L : Obj) : Fact := fun v W => ∃ g, v = .pointer (some ⟨g, 0, none⟩) ∧ N ≤ g ∧ W.heap[g]? = some L
theorem OldN.keep {N : Nat} {Z L : Obj} {v : Value} {W W' : World} (h : OldN N L v W) (hs : NS N Z L W W') : OldN N L v W' := by
  obtain ⟨g, hv, hg, hm⟩ := h
  refine ⟨g, hv, hg, ?_⟩
  rcases hs.same g (lt_of_heap hm) with e | ⟨_, _, e⟩
  · exact e.trans hm
  · exact e
theorem NewN.keep {N : Nat} {Z L : Obj} {v : Value} {W W' : World} (h : NewN N Z L v W) (hs : NS N Z L W W') : NewN N Z L v W' := by
  obtain ⟨g, hv, hg, hm⟩ := h
  refine ⟨g, hv, hg, ?_⟩
  rcases hm with hm | hm
  · rcases hs.same g (lt_of_heap hm) with e | ⟨_, _, e⟩
    · exact .inl (e.trans hm)
    · exact .inr e
  · rcases hs.same g (lt_of_heap hm) with e | ⟨_, _, e⟩
    · exact .inr (e.trans hm)
    · exact .inr e
theorem NS.put {N : Nat} {Z L : Obj} {W W' : World} {g : Nat} (hp : Put W W' g) (h0 : N ≤ g) (hz : W.heap[g]? = some Z ∨ W.heap[g]? = some L) (hn : W'.heap[g]? = some L) : NS N Z L W W' :=
  ⟨Nat.le_of_eq hp.size.symm, fun k _ => by
    by_cases e : k = g
    · subst e
      rcases hz with hz | hz
      · exact .inr ⟨h0, hz, hn⟩
      · exact .inl (by rw [hz, hn])
    · exact .inl (hp.other k e)⟩

/-- What has been told so far, in the reference. -/
structure RO (w0 : World) (H : Nat) (h : Hab) (d r b : Nat) (c0 : List Int) (ps : List (Int × Int)) (zs : List Int) (k : Nat) (A : Option Addr) (c : Nat) (A1 : Option Addr) (k1 : Nat) (A2 : Option Addr) (k2 : Nat) (out : List (Int × Int × Int × Int)) (lo hi : List Int) (M : Int) (W : World) : Prop where
  own : W.ownsRow w0.heap.size 47 4 (.slice A out.length c) out.length (quads out)
  split : aheadL h r b c0 c0 (ps.zip zs) = out ++ aheadL h r b lo hi ((ps.zip zs).drop k)
  yr : Yr h d lo hi M
  mb : M ≤ 30 * 11 ^ k
  len : out.length = k
  iL : Ints W W.heap.size A1 lo
  iH : Ints W W.heap.size A2 hi
  cL : lo.length ≤ k1
  cH : hi.length ≤ k2
  hH : W.heap[H]? = some (.cells (hcells h).toArray 31 (0, 0))
  bel : Below w0.heap.size w0 W
  lH : H < w0.heap.size

theorem rowSpan : RowTy Tryd.prog 29 2 := ⟨⟨_, Tryd.underlying29, rfl⟩, by kernel_rfl⟩
theorem rowHab : RowTy Tryd.prog 31 6 := ⟨⟨_, Tryd.underlying31, rfl⟩, by kernel_rfl⟩

/-- Where a round of the reference's Look is, after its first statement: the span of shoots lies in block G. -/
structure RK (w0 wr : World) (H G : Nat) (h : Hab) (s1 s2 : Int) (W : World) : Prop where
  hH : W.heap[H]? = some (.cells (hcells h).toArray 31 (0, 0))
  hG : W.heap[G]? = some (.cells (ints [s1, s2]).toArray 29 (0, 0))
  bel : Below wr.heap.size wr W
  lG : wr.heap.size ≤ G
theorem RK.next {w0 wr : World} {H G : Nat} {h : Hab} {s1 s2 : Int} {W W' : World} (k : RK w0 wr H G h s1 s2 W) (hg : Grows W W') : RK w0 wr H G h s1 s2 W' :=
  ⟨(hg.block _ (lt_of_heap k.hH)).trans k.hH, (hg.block _ (lt_of_heap k.hG)).trans k.hG, k.bel.trans (hg.mono k.bel.size), k.lG⟩

theorem YrF.mono {N N' : Nat} {zs gs : List Int} {v : Value} {W : World} (h : YrF N' zs gs v W) (hn : N ≤ N') : YrF N zs gs v W := by
  obtain ⟨A, c, A', c', hv, hc, hi, hN⟩ := h
  exact ⟨A, c, A', c', hv, hc, hi, fun a ha => Nat.le_trans hn (hN a ha)⟩

/-- .. behind both years, where what is told grows. -/
structure RZ (w0 : World) (N H G : Nat) (h : Hab) (s1 s2 : Int) (F1 F2 : Option Addr) (lo hi : List Int) (W : World) : Prop where
  hH : W.heap[H]? = some (.cells (hcells h).toArray 31 (0, 0))
  hG : W.heap[G]? = some (.cells (ints [s1, s2]).toArray 29 (0, 0))
  bel : Below w0.heap.size w0 W
  i1 : Ints W W.heap.size F1 lo
  i2 : Ints W W.heap.size F2 hi
  lH : H < w0.heap.size
  lN : w0.heap.size ≤ N
  lG : N ≤ G
  n1 : ∀ a : Addr, F1 = some a → N ≤ a.block
  n2 : ∀ a : Addr, F2 = some a → N ≤ a.block
theorem RZ.next {w0 : World} {N H G : Nat} {h : Hab} {s1 s2 : Int} {F1 F2 : Option Addr} {lo hi : List Int} {W W' : World} (k : RZ w0 N H G h s1 s2 F1 F2 lo hi W) (hg : Grows W W') : RZ w0 N H G h s1 s2 F1 F2 lo hi W' :=
  ⟨(hg.block _ (lt_of_heap k.hH)).trans k.hH, (hg.block _ (lt_of_heap k.hG)).trans k.hG, k.bel.trans (hg.mono k.bel.size), (k.i1.below hg).mono hg.size, (k.i2.below hg).mono hg.size, k.lH, k.lN, k.lG, k.n1, k.n2⟩
theorem RZ.app {w0 : World} {N H G : Nat} {h : Hab} {s1 s2 : Int} {F1 F2 : Option Addr} {lo hi : List Int} {W W' : World} {ob : Option Nat} (k : RZ w0 N H G h s1 s2 F1 F2 lo hi W) (hob : ∀ k, ob = some k → w0.heap.size ≤ k ∧ k < N) (hg : W.grownBy W' ob) : RZ w0 N H G h s1 s2 F1 F2 lo hi W' := by
  have lH := k.lH
  have lG := k.lG
  exact ⟨(hg.block _ (lt_of_heap k.hH) (fun e => by have := hob _ e.symm; omega)).trans k.hH, (hg.block _ (lt_of_heap k.hG) (fun e => by have := hob _ e.symm; omega)).trans k.hG, k.bel.grown hg k.bel.size (fun j e => (hob j e).1),
    k.i1.grown k.n1 hg (fun j e => (hob j e).2), k.i2.grown k.n2 hg (fun j e => (hob j e).2), k.lH, k.lN, k.lG, k.n1, k.n2⟩

end Go.Proofs.YtanjolmelbipoaaDoor

