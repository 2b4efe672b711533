/-
  The reference: sums, ages, cuts, a year.
-/
import Derived.Test.YtanjolmelbipoaaYA
import Derived.Deep.QuietTactic
import Derived.BigQuiet
import Derived.RegionTactic
import Derived.ChangeAlike
import Derived.Outline
import Derived.Deep.RegionLaw
import Derived.Deep.DeepCutAuto
namespace Go.Proofs.Ytanjolmelbipoaa
open Go.RowKit

set_option maxHeartbeats 400000 in
theorem refSum_any (A : Option Addr) (cap : Nat) (zs : List Int) (B : Nat) (w : World) (h : Ints w B A zs) (hl : zs.length ≤ 1000) (hb : Bnd 0 1000000 zs) :
    Calls Try.prog 35 #[.slice A zs.length cap] w fun e w' => e = .returned (.int .i64 zs.sum) ∧ w = w' := by
  have hbd := sum_take_bnd hb
  have hbd' := Lib.hid hbd
  have hb' := Lib.hid hb
  have h' := Lib.hid h
  clear h hb hbd
  go_enter Try.func35, Try.ntmps35
  go_wp2
  go_loop [3, 4] (fun t i => ∃ k : Nat, k ≤ zs.length ∧ i = .int .i64 k ∧ t = .int .i64 (zs.take k).sum) (fun _ i => zs.length - (intOf i).toNat)
  case atStart => exact ⟨0, Nat.zero_le _, rfl, by simp⟩
  case round =>
    obtain ⟨k, hk, rfl, rfl⟩ := hrel
    by_cases hlt : k < zs.length
    · obtain ⟨b, off, hA, _, hc⟩ := h'.out (by omega)
      subst hA
      have hcell := hc k hlt
      clear hc
      have hbk := hbd'.out k (by omega)
      have hbb := hb'.out k hlt
      have hs := sum_take_succ zs k hlt
      generalize zs[k]?.getD 0 = x at hcell hbb hs
      have hs' := Lib.hid hs
      clear hs
      go_wp2
      go_round
      case rel => exact ⟨k + 1, by omega, by go_num, by rw [hs'.out]⟩
      case measure => simp [intOf]; omega
    · go_wp2
      go_ret
      exact ⟨ret_int (by rw [List.take_of_length_le (by omega)]), rfl⟩

/-- A number is from lo to hi. -/
def inR (x lo hi : Int) : Bool := decide (lo ≤ x) && decide (x ≤ hi)
theorem inR_iff {x lo hi : Int} : inR x lo hi = true ↔ lo ≤ x ∧ x ≤ hi := by simp [inR]
theorem inR_not {x lo hi : Int} : inR x lo hi = false ↔ ¬ (lo ≤ x ∧ x ≤ hi) := by rw [← inR_iff, Bool.not_eq_true]

set_option maxHeartbeats 400000 in
theorem refWithin_any (x lo hi : Int) (w : World) :
    Calls Try.prog 54 #[.int .i64 x, .int .i64 lo, .int .i64 hi] w fun e w' => e = .returned (.bool (inR x lo hi)) ∧ w = w' := by
  by_cases h1 : lo ≤ x
  · by_cases h2 : x ≤ hi
    all_goals
      go_enter Try.func54, Try.ntmps54
      go_wp2
      go_ret
      exact ⟨by simp [inR, h1, h2] <;> omega, rfl⟩
  · go_enter Try.func54, Try.ntmps54
    go_wp2
    go_ret
    exact ⟨by simp [inR] <;> omega, rfl⟩

def hv (h : Hab) : Value := .agg #[.int .i64 h.lo, .int .i64 h.hi, .int .i64 h.bears, .int .i64 h.ripe, .int .i64 h.dies, .int .i64 h.keep]

/-- A habit is valid. -/
def okHab (h : Hab) : Bool := inR h.lo 0 1000 && inR h.hi h.lo 1000 && inR h.dies 1 6 && inR h.bears 0 h.dies && inR h.ripe 1 h.dies && inR h.keep 0 200

theorem chain6 (a b c d e f : Bool) : a = false ∨ (a = true ∧ b = false) ∨ (a = true ∧ b = true ∧ c = false) ∨ (a = true ∧ b = true ∧ c = true ∧ d = false) ∨
    (a = true ∧ b = true ∧ c = true ∧ d = true ∧ e = false) ∨ (a = true ∧ b = true ∧ c = true ∧ d = true ∧ e = true ∧ f = false) ∨ (a = true ∧ b = true ∧ c = true ∧ d = true ∧ e = true ∧ f = true) := by
  cases a <;> cases b <;> cases c <;> cases d <;> cases e <;> cases f <;> simp

set_option maxHeartbeats 2000000 in
theorem refHabit_any (h : Hab) (w : World) :
    Calls Try.prog 59 #[hv h] w fun e w' => e = .returned (.bool (okHab h)) ∧ Below w.heap.size w w' := by
  unfold okHab
  unfold hv
  rcases chain6 (inR h.lo 0 1000) (inR h.hi h.lo 1000) (inR h.dies 1 6) (inR h.bears 0 h.dies) (inR h.ripe 1 h.dies) (inR h.keep 0 200) with
    h1 | ⟨h1, h2⟩ | ⟨h1, h2, h3⟩ | ⟨h1, h2, h3, h4⟩ | ⟨h1, h2, h3, h4, h5⟩ | ⟨h1, h2, h3, h4, h5, h6⟩ | ⟨h1, h2, h3, h4, h5, h6⟩
  all_goals
    go_enter Try.func59, Try.ntmps59
    go_wp2_with (go_at_call 54; refine (refWithin_any _ _ _ _).mono ?_; rintro e w' ⟨rfl, rfl⟩)
    go_ret
    exact ⟨by simp [*], (Below.refl _ _).alloc (Nat.le_refl _) _⟩

end Go.Proofs.Ytanjolmelbipoaa

namespace Go.Proofs.Ytanjolmelbipoaa
open Go.RowKit

theorem Try.info3 : (Try.prog.info? 3).map (fun i => (i.zero, i.size, i.bytes)) = some (some (.int .i64 0), 1, 8) := by kernel_rfl

/-- What a call hands back: a new slice of the ints zs, of its own. -/
def NewInts (w : World) (zs : List Int) (e : Ending) (w' : World) : Prop :=
  ∃ g cap, e = .returned (.slice (some ⟨g, 0, none⟩) zs.length cap) ∧ zs.length ≤ cap ∧ w.heap.size ≤ g ∧ w'.heap[g]? = some (.cells (ints zs).toArray 3 (0, 0)) ∧ Below w.heap.size w w'

/-- A year later: none is of the age 0. -/
def ageL (l : List Int) : List Int := (0 :: l).take l.length

theorem ageL_len (l : List Int) : (ageL l).length = l.length := by simp [ageL]
def ageTo (l : List Int) (k : Nat) : List Int := (0 :: l).take k ++ List.replicate (l.length - k) 0
theorem ageTo_len (l : List Int) (k : Nat) (hk : k ≤ l.length) : (ageTo l k).length = l.length := by simp [ageTo]; omega
theorem ageTo_succ (l : List Int) (k : Nat) (h1 : 1 ≤ k) (hk : k < l.length) : (ageTo l k).set k (l[k - 1]?.getD 0) = ageTo l (k + 1) := by
  apply List.ext_getElem?
  intro i
  unfold ageTo
  by_cases hik : k = i
  · subst hik
    rw [List.getElem?_set_self (by simp; omega)]
    rw [List.getElem?_append_left (by simp; omega), List.getElem?_take]
    rw [if_pos (by omega)]
    obtain ⟨m, rfl⟩ : ∃ m, k = m + 1 := ⟨k - 1, by omega⟩
    simp [show m < l.length by omega]
  · rw [List.getElem?_set_ne hik]
    by_cases h2 : i < k
    · rw [List.getElem?_append_left (by simp; omega), List.getElem?_append_left (by simp; omega), List.getElem?_take, List.getElem?_take, if_pos h2, if_pos (by omega)]
    · rw [List.getElem?_append_right (by simp; omega), List.getElem?_append_right (by simp; omega)]
      simp only [List.length_take, List.length_cons, List.getElem?_replicate]
      by_cases h3 : i < l.length
      · rw [if_pos (by omega), if_pos (by omega)]
      · rw [if_neg (by omega), if_neg (by omega)]

set_option maxHeartbeats 1000000 in
theorem refAge_any (A : Option Addr) (cap : Nat) (zs : List Int) (B : Nat) (w : World) (hB : B ≤ w.heap.size) (h : Ints w B A zs) (hl1 : 1 ≤ zs.length) (hl : zs.length ≤ 1000) :
    Calls Try.prog 55 #[.slice A zs.length cap] w (NewInts w (ageL zs)) := by
  obtain ⟨i0, hi, hz0, hz1, hz2⟩ := info_parts Try.info3
  have hmk := fun W => run_make_ints (P := Try.prog) 26 3 i0 Try.underlying26 hi hz0 hz1 hz2 zs.length (by omega) W
  have h' := Lib.hid h
  clear h hi hz0 hz1 hz2
  go_enter Try.func55, Try.ntmps55
  go_wp2
  go_loopw [4] (fun i wr => ∃ j : Nat, j < zs.length ∧ i = .int .i64 ((j : Int) + 1) ∧ wr.heap[w.heap.size]? = some (.cells (ints (ageTo zs (j + 1))).toArray 3 (0, 0)) ∧ Below w.heap.size w wr)
    (fun i _ => zs.length - (intOf i).toNat)
  case atStart =>
    refine ⟨0, by omega, rfl, ?_, (Below.refl _ _).alloc (Nat.le_refl _) _⟩
    rw [alloc_at0]
    congr 3
    cases zs with
    | nil => simp at hl1
    | cons z zs => simp [ageTo, List.replicate_succ]
  case round =>
    obtain ⟨j, hj, rfl, hG, hBel⟩ := hrel
    by_cases hlt : j + 1 < zs.length
    · obtain ⟨b, off, hA, hbB, hc⟩ := h'.out (by omega)
      subst hA
      have hcell : wr.cell? ⟨b, off + j, none⟩ = _ := (hBel.cell (p := ⟨b, off + j, none⟩) (by simp; omega)).trans (hc j (by omega))
      clear hc
      have hlen := ageTo_len zs (j + 1) (by omega)
      have cg : wr.cell? ⟨w.heap.size, j + 1, none⟩ = _ := (cell_of_row wr _ _ _ _ _ hG).trans (ints_at _ (j + 1) (by omega))
      have fg := frozen_of_row wr _ (j + 1) _ _ hG
      have hs := ageTo_succ zs (j + 1) (by omega) hlt
      simp only [Nat.add_sub_cancel] at hs
      generalize zs[j]?.getD 0 = x at hcell hs
      have hst := heap_setCell_same wr w.heap.size (j + 1) _ _ (.int .i64 x) hG
      rw [ints_set, hs] at hst
      have HS := Lib.hid hst
      have HB := Lib.hid (hBel.setCell (p := ⟨w.heap.size, j + 1, none⟩) (Nat.le_refl _) (.int .i64 x))
      have hlt' : (j : Int) + 1 < zs.length := by omega
      clear hG hBel hs hlen hst h'
      go_wp2
      go_roundw
      case rel => exact ⟨j + 1, by omega, by simp, HS.out, HB.out⟩
      case measure => simp [intOf]; omega
    · have e : zs.length = j + 1 := by omega
      have hf : ageTo zs (j + 1) = ageL zs := by rw [← e]; simp [ageTo, ageL]
      rw [hf] at hG
      have HG := Lib.hid hG
      have HB := Lib.hid hBel
      have hlt' : (zs.length : Int) ≤ (j : Int) + 1 := by omega
      clear hG hBel e hf h' hmk
      go_wp2
      go_ret
      exact ⟨w.heap.size, zs.length, by rw [ageL_len]; rfl, by rw [ageL_len]; exact Nat.le_refl _, Nat.le_refl _, HG.out, HB.out⟩

end Go.Proofs.Ytanjolmelbipoaa

namespace Go.Proofs.Ytanjolmelbipoaa
open Go.RowKit

/-- What a cut hands back: two new slices. -/
def NewTwo (w : World) (xs ys : List Int) (e : Ending) (w' : World) : Prop :=
  ∃ g1 c1 g2 c2, e = .returned (.tuple #[.slice (some ⟨g1, 0, none⟩) xs.length c1, .slice (some ⟨g2, 0, none⟩) ys.length c2]) ∧ w.heap.size ≤ g1 ∧ w.heap.size ≤ g2 ∧ g1 ≠ g2 ∧ ys.length ≤ c2 ∧
    w'.ownsRow w.heap.size 3 1 (.slice (some ⟨g1, 0, none⟩) xs.length c1) xs.length (ints xs) ∧ w'.heap[g2]? = some (.cells (ints ys).toArray 3 (0, 0)) ∧ Below w.heap.size w w'

/-- A store into a new row, and one into an owned one. -/
theorem own_set2 {w : World} {base g1 g2 i j n cap : Nat} {xs ys : List Int} (h : w.ownsRow base 3 1 (.slice (some ⟨g1, 0, none⟩) n cap) n (ints xs)) (hG : w.heap[g2]? = some (.cells (ints ys).toArray 3 (0, 0))) (hne : g1 ≠ g2) (u v : Int) :
    ((w.setCell ⟨g2, j, none⟩ (.int .i64 u)).setCell ⟨g1, i, none⟩ (.int .i64 v)).ownsRow base 3 1 (.slice (some ⟨g1, 0, none⟩) n cap) n (ints (xs.set i v)) ∧
    ((w.setCell ⟨g2, j, none⟩ (.int .i64 u)).setCell ⟨g1, i, none⟩ (.int .i64 v)).heap[g2]? = some (.cells (ints (ys.set j u)).toArray 3 (0, 0)) := by
  refine ⟨?_, ?_⟩
  · have h2 := (own_far h (p := ⟨g2, j, none⟩) hne (.int .i64 u)).stored i (.int .i64 v)
    rw [show ints (xs.set i v) = (ints xs).set i (.int .i64 v) from by simp [ints, List.map_set]]
    exact h2.1
  · refine (heap_setCell_other _ _ _ _ hne.symm).trans ?_
    rw [heap_setCell_same w g2 j _ _ _ hG, ints_set]

set_option maxHeartbeats 2000000 in
theorem refCut_any (A : Option Addr) (cap : Nat) (zs : List Int) (B : Nat) (w : World) (hB : B ≤ w.heap.size) (h : Ints w B A zs) (hl1 : 1 ≤ zs.length) (hl : zs.length ≤ 1000) (M : Int) (hM : M ≤ 1000000) (hb : Bnd 0 M zs) (n : Int) (hn : 0 ≤ n) (hn2 : n ≤ M) :
    Calls Try.prog 57 #[.slice A zs.length cap, .int .i64 n] w (NewTwo w (cutTo zs n (zs.length - 1) zs.length).1 (cutTo zs n (zs.length - 1) zs.length).2.1) := by
  obtain ⟨i0, hi, hz0, hz1, hz2⟩ := info_parts Try.info3
  have hmk := fun W => run_make_ints (P := Try.prog) 26 3 i0 Try.underlying26 hi hz0 hz1 hz2 zs.length (by omega) W
  have hv := (h.vals).mono hB
  have h1 := oneCells_ints zs
  have Hb := Lib.hid hb
  have HV := Lib.hid hv
  have HI := Lib.hid hi
  have HZ := Lib.hid (And.intro hz0 (And.intro hz1 hz2))
  clear h hi hz0 hz1 hz2 hb hv
  go_enter Try.func57, Try.ntmps57
  go_upto_region 1 with fail
  go_cut [6, 7] (fun s6 s7 wx => ∃ g1 c1 g2, s6 = .slice (some ⟨g1, 0, none⟩) zs.length c1 ∧ s7 = .slice (some ⟨g2, 0, none⟩) zs.length zs.length ∧ w.heap.size ≤ g1 ∧ w.heap.size ≤ g2 ∧ g1 ≠ g2 ∧
    wx.ownsRow w.heap.size 3 1 (.slice (some ⟨g1, 0, none⟩) zs.length c1) zs.length (ints zs) ∧ wx.heap[g2]? = some (.cells (ints (List.replicate zs.length 0)).toArray 3 (0, 0)) ∧ Below w.heap.size w wx)
  case first =>
    go_region_law
      ((refine step_clone (by rfl) (.tmp 9) (.tmp 10) _ (by rfl) w.heap.size 3 i0 _ 1 8 Try.underlying26 HI.out HZ.out.1 HZ.out.2.1 HZ.out.2.2 rfl (by omega) _ (by rfl)
          (by first | exact alloc_at0 _ _ | exact alloc2_at0 _ _ _ | exact alloc2_at1 _ _ _) (by simp)
          w.heap.size A zs.length cap (ints zs) (by rfl)
          (HV.out.below (by first | exact (((Below.refl _ w).alloc (Nat.le_refl _) _).alloc (by simp) _).drew | exact ((Below.refl _ w).alloc (Nat.le_refl _) _).drew)) (by simp [ints]) h1 (by simp only [maxLen]; omega) (by omega) ?_
        intro g1 c1 w1 hown hgrow hat hg1 hg1s))
    all_goals
      go_wp2_with fail
      go_meet
      simp only [World.size_alloc, World.drew] at hat
      first
        | exact ⟨g1, c1, w1.heap.size, rfl, rfl, hg1, by have := hgrow.size; simp [World.drew] at this; omega, by omega, hown.alloc _, alloc_at0 _ _,
            (Below.ofGrown ((Below.refl _ w).alloc (Nat.le_refl _) _).drew hgrow (by simp [World.drew]) (by omega)).alloc (by have := hgrow.size; simp [World.drew] at this; omega) _⟩
        | exact ⟨g1, c1, w.heap.size + 1, rfl, rfl, hg1, by omega, by omega, hown, (hgrow.block _ (by simp [World.drew]) (by simp)).trans (alloc2_at1 _ _ _),
            Below.ofGrown (((Below.refl _ w).alloc (Nat.le_refl _) _).alloc (by simp) _).drew hgrow (by simp [World.drew]; omega) (by omega)⟩
        | exact ⟨g1, c1, w.heap.size, rfl, rfl, hg1, by omega, by omega, hown, (hgrow.block _ (by simp [World.drew]; omega) (by simp)).trans (alloc2_at0 _ _ _),
            Below.ofGrown (((Below.refl _ w).alloc (Nat.le_refl _) _).alloc (by simp) _).drew hgrow (by simp [World.drew]; omega) (by omega)⟩
  case rest =>
    obtain ⟨g1, c1, g2, rfl, rfl, hg1, hg2, hne, hown, hG, hBel⟩ := hcut
    have HO := Lib.hid hown
    have HG := Lib.hid hG
    have HB := Lib.hid hBel
    clear hown hG hBel hmk h1
    go_wp2
    go_loopw [1, 8] (fun m i wr => ∃ k : Nat, k ≤ zs.length ∧ i = .int .i64 ((zs.length : Int) - 1 - k) ∧ m = .int .i64 (cutTo zs n (zs.length - 1) k).2.2 ∧
        wr.ownsRow w.heap.size 3 1 (.slice (some ⟨g1, 0, none⟩) zs.length c1) zs.length (ints (cutTo zs n (zs.length - 1) k).1) ∧
        wr.heap[g2]? = some (.cells (ints (cutTo zs n (zs.length - 1) k).2.1).toArray 3 (0, 0)) ∧ Below w.heap.size w wr)
      (fun _ i _ => (intOf i + 1).toNat)
    case atStart => exact ⟨0, Nat.zero_le _, by simp, rfl, HO.out, HG.out, HB.out⟩
    case round =>
      obtain ⟨k, hk, rfl, rfl, hO, hG, hBel⟩ := hrel
      by_cases hlt : k < zs.length
      · obtain ⟨a, ha⟩ : ∃ a : Nat, a = zs.length - 1 - k := ⟨_, rfl⟩
        have e1 : ((zs.length : Int) - 1 - k) = (a : Int) := by omega
        have hlen := cutTo_len zs n (zs.length - 1) k
        have hbk := cutTo_bnd Hb.out hn hn2 (zs.length - 1) (by omega) k (by omega)
        have hx := hbk.1 a (by omega)
        have hm := hbk.2.2
        have hstep := fun t u v => @cutTo_succ zs n (zs.length - 1) k a ha _ _ rfl rfl t u v
        have cx : wr.cell? ⟨g1, a, none⟩ = _ := (hO.cellAt a (by omega)).trans (ints_atL _ a (by omega))
        have cg : wr.cell? ⟨g2, a, none⟩ = _ := (cell_of_row wr _ _ _ _ _ hG).trans (ints_at _ a (by omega))
        have fx := hO.frozenAt a
        have fg := frozen_of_row wr _ a _ _ hG
        generalize hmm : (cutTo zs n (zs.length - 1) k).2.2 = m at hm hstep ⊢
        generalize (cutTo zs n (zs.length - 1) k).1[a]?.getD 0 = x at cx hx hstep
        generalize (cutTo zs n (zs.length - 1) k).2.1[a]?.getD 0 = y at cg
        rw [e1]
        have Hs := Lib.hid hstep
        have HO := Lib.hid hO
        have HG := Lib.hid hG
        have HBel := Lib.hid hBel
        have hak : (a : Int) - 1 = (zs.length : Int) - 1 - ((k + 1 : Nat) : Int) := by omega
        have Hak := Lib.hid hak
        have hal : (a : Int) < zs.length := by omega
        clear hstep hO hG hBel e1 hbk hlen ha hmm hak
        have hne' := hne.symm
        rcases Int.lt_or_le x m with hmx | hmx
        · have hs := own_set2 (i := a) (j := a) HO.out HG.out hne x 0
          have hBel2 := (HBel.out.setCell (p := ⟨g2, a, none⟩) hg2 (.int .i64 x)).setCell (p := ⟨g1, a, none⟩) hg1 (.int .i64 0)
          have e2 := Hs.out x 0 (m - x) (by omega) (by omega) rfl
          have HS := Lib.hid hs
          have HB := Lib.hid hBel2
          have HE := Lib.hid e2
          clear hs hBel2 e2
          go_wp2
          go_region
          go_wp2
          go_roundw
          case rel =>
            have e2 := HE.out
            exact ⟨k + 1, by omega, by rw [Hak.out], by rw [e2], by rw [e2]; exact HS.out.1, by rw [e2]; exact HS.out.2, HB.out.drew⟩
          case measure => simp [intOf] <;> omega
        · have hs := own_set2 (i := a) (j := a) HO.out HG.out hne m (x - m)
          have hBel2 := (HBel.out.setCell (p := ⟨g2, a, none⟩) hg2 (.int .i64 m)).setCell (p := ⟨g1, a, none⟩) hg1 (.int .i64 (x - m))
          have e2 := Hs.out m (x - m) 0 (by omega) rfl (by omega)
          have HS := Lib.hid hs
          have HB := Lib.hid hBel2
          have HE := Lib.hid e2
          clear hs hBel2 e2
          go_wp2
          go_region
          go_wp2
          go_roundw
          case rel =>
            have e2 := HE.out
            exact ⟨k + 1, by omega, by rw [Hak.out], by rw [e2], by rw [e2]; exact HS.out.1, by rw [e2]; exact HS.out.2, HB.out.drew⟩
          case measure => simp [intOf] <;> omega
      · obtain rfl : k = zs.length := by omega
        have e1 : ((zs.length : Int) - 1 - zs.length) = -1 := by omega
        rw [e1]
        have hlen := cutTo_len zs n (zs.length - 1) zs.length
        have HO := Lib.hid hO
        have HG := Lib.hid hG
        have HBel := Lib.hid hBel
        have HL := Lib.hid hlen
        clear hO hG hBel e1 hlen
        go_wp2
        go_ret2
        exact ⟨g1, c1, g2, zs.length, by rw [HL.out.1, HL.out.2]; rfl, hg1, hg2, hne, by rw [HL.out.2]; exact Nat.le_refl _, by rw [HL.out.1]; exact HO.out, HG.out, HBel.out⟩

end Go.Proofs.Ytanjolmelbipoaa

namespace Go.Proofs.Ytanjolmelbipoaa
open Go.RowKit

set_option maxHeartbeats 400000 in
theorem refRipe_any (h : Hab) (r : Nat) (hr : h.ripe = r) (A : Option Addr) (cap : Nat) (zs : List Int) (B : Nat) (w : World) (hB : B ≤ w.heap.size) (hz : Ints w B A zs) (hrl : r < zs.length) (hcap : zs.length ≤ cap) (hl : zs.length ≤ 1000) (hb : Bnd 0 1000000 zs) :
    Calls Try.prog 56 #[hv h, .slice A zs.length cap] w fun e w' => e = .returned (.int .i64 (zs.drop r).sum) ∧ Below w.heap.size w w' := by
  obtain ⟨lo, hi, be, ri, di, ke⟩ := h
  simp only at hr
  subst hr
  obtain ⟨b, off, rfl, hbB, hc⟩ := hz (by omega)
  have hI : Ints (w.alloc (.cells #[.int .i64 lo, .int .i64 hi, .int .i64 be, .int .i64 r, .int .i64 di, .int .i64 ke] 25)) B (some ⟨b, off + r, none⟩) (zs.drop r) := fun _ => by
    refine ⟨b, off + r, rfl, hbB, fun k hk => ?_⟩
    simp only [List.length_drop] at hk
    rw [World.cell?_alloc_lt _ _ _ (by simp; omega), Nat.add_assoc, hc (r + k) (by omega)]
    simp [List.getElem?_drop]
  have H := refSum_any (some ⟨b, off + r, none⟩) (cap - r) (zs.drop r) B _ hI (by simp; omega) (fun k hk => by
    simp only [List.length_drop] at hk
    have := hb (r + k) (by omega)
    simpa [List.getElem?_drop] using this)
  rw [List.length_drop] at H
  have HH := Lib.hid H
  have hrc : (r : Int) ≤ zs.length := by omega
  have hzc : (zs.length : Int) ≤ cap := by omega
  have hne : ¬ cap = r := by omega
  clear H hI hc hb hz
  unfold hv
  simp only
  go_enter Try.func56, Try.ntmps56
  go_wp2_with (go_at_call 35; refine (HH.out).mono ?_; rintro e w' ⟨rfl, rfl⟩)
  go_ret
  exact ⟨rfl, (Below.refl _ _).alloc (Nat.le_refl _) _⟩

/-- What stands before a cut. -/
def nowL (l : List Int) (s : Int) : List Int := (ageL l).set 0 s
theorem nowL_len (l : List Int) (s : Int) : (nowL l s).length = l.length := by simp [nowL, ageL_len]
theorem ageL_bnd {M : Int} {l : List Int} (h : Bnd 0 M l) (hM : 0 ≤ M) : Bnd 0 M (ageL l) := fun k hk => by
  rw [ageL_len] at hk
  unfold ageL
  rw [List.getElem?_take, if_pos hk]
  cases k with
  | zero => simp [hM]
  | succ k => simp only [List.getElem?_cons_succ]; exact h k (by omega)
theorem nowL_bnd {M s : Int} {l : List Int} (h : Bnd 0 M l) (hs : 0 ≤ s) (hM : s ≤ M) : Bnd 0 M (nowL l s) := (ageL_bnd h (by omega)).set 0 hs hM

def yearL (l : List Int) (s n : Int) : List Int := (cutTo (nowL l s) n (l.length - 1) l.length).1
def goneL (l : List Int) (s n : Int) : List Int := (cutTo (nowL l s) n (l.length - 1) l.length).2.1

/-- What a year hands back, where enough are ripe. -/
def NewYear (w : World) (xs ys : List Int) (e : Ending) (w' : World) : Prop :=
  ∃ g1 c1 g2 c2, e = .returned (.tuple #[.slice (some ⟨g1, 0, none⟩) xs.length c1, .slice (some ⟨g2, 0, none⟩) ys.length c2, .bool true]) ∧ w.heap.size ≤ g1 ∧ w.heap.size ≤ g2 ∧ g1 ≠ g2 ∧ xs.length ≤ c1 ∧ ys.length ≤ c2 ∧
    Ints w' w'.heap.size (some ⟨g1, 0, none⟩) xs ∧ Ints w' w'.heap.size (some ⟨g2, 0, none⟩) ys ∧ (∀ k, w'.frozen? ⟨g1, k, none⟩ = false) ∧ (∀ k, w'.frozen? ⟨g2, k, none⟩ = false) ∧ Below w.heap.size w w'

/-- A year in which no more are cut than are ripe. -/
def yearOk (r : Nat) (l : List Int) (s n : Int) : Bool := decide (n ≤ ((nowL l s).drop r).sum)

set_option maxHeartbeats 1000000 in
theorem refYear_no (h : Hab) (r : Nat) (hr : h.ripe = r) (A : Option Addr) (cap : Nat) (zs : List Int) (B : Nat) (w : World) (hB : B ≤ w.heap.size) (hz : Ints w B A zs) (hrl : r < zs.length) (hl : zs.length ≤ 1000) (M : Int) (hM : M ≤ 1000000) (hb : Bnd 0 M zs)
    (s n : Int) (hs : 0 ≤ s) (hs2 : s ≤ M) (hok : yearOk r zs s n = false) :
    Calls Try.prog 34 #[hv h, .slice A zs.length cap, .int .i64 s, .int .i64 n] w fun e w' => e = .returned (.tuple #[.slice none 0 0, .slice none 0 0, .bool false]) ∧ Below w.heap.size w w' := by
  have hok' : ((nowL zs s).drop r).sum < n := by simpa [yearOk] using hok
  have hnb : Bnd 0 1000000 (nowL zs s) := fun k hk => by have := nowL_bnd hb hs hs2 k hk; omega
  have Hnb := Lib.hid hnb
  have Hz := Lib.hid hz
  have Hr := Lib.hid hr
  have Hb := Lib.hid hb
  clear hok hnb hz hb hr
  rw [show hv h = .agg #[.int .i64 h.lo, .int .i64 h.hi, .int .i64 h.bears, .int .i64 h.ripe, .int .i64 h.dies, .int .i64 h.keep] from rfl]
  go_enter Try.func34, Try.ntmps34
  go_wp2_with fail
  refine (refAge_any A cap zs B _ (by simp; omega) (Hz.out.below ((Below.refl B w).alloc hB _)) (by omega) hl).mono ?_
  rintro e w1 ⟨g, cg, rfl, hcg, hg, hG, hB1⟩
  rw [ageL_len] at hcg ⊢
  have c0 : w1.cell? ⟨g, 0, none⟩ = _ := (cell_of_row w1 g 0 _ _ _ hG).trans (ints_at _ 0 (by rw [ageL_len]; omega))
  have f0 := frozen_of_row w1 g 0 _ _ hG
  simp only [World.size_alloc] at hg hB1
  have cH := fun i => (hB1.cell (p := ⟨w.heap.size, i, none⟩) (by simp)).trans (cell_of_row _ w.heap.size i _ _ _ (alloc_at0 w _))
  generalize (ageL zs)[0]?.getD 0 = x at c0
  have hG2 := heap_setCell_same w1 g 0 _ _ (.int .i64 s) hG
  rw [ints_set] at hG2
  rw [show (ageL zs).set 0 s = nowL zs s from rfl] at hG2
  have hb2 := (((Below.refl _ w).alloc (Nat.le_refl _) _).trans (hB1.mono (by omega))).setCell (p := ⟨g, 0, none⟩) (by simp; omega) (.int .i64 s)
  have H2 := refRipe_any h r Hr.out (some ⟨g, 0, none⟩) cg (nowL zs s) _ _ (Nat.le_refl _) (ints_new hG2 (lt_of_heap hG2)) (by rw [nowL_len]; exact hrl) (by rw [nowL_len]; exact hcg) (by rw [nowL_len]; exact hl) Hnb.out
  rw [nowL_len] at H2
  have HG := Lib.hid hG2
  have HB := Lib.hid hb2
  have HR2 := Lib.hid H2
  have hcl : 0 < zs.length := by omega
  clear hG hB1 hG2 hb2 H2
  go_wp2_with fail
  refine HR2.out.mono ?_
  rintro e w2 ⟨rfl, hB2⟩
  have HB3 := Lib.hid (HB.out.trans (hB2.mono (by have := HB.out.size; omega)))
  clear hB2
  go_wp2_with fail
  go_ret3
  exact ⟨rfl, HB3.out⟩

set_option maxHeartbeats 1000000 in
theorem refYear_yes (h : Hab) (r : Nat) (hr : h.ripe = r) (A : Option Addr) (cap : Nat) (zs : List Int) (B : Nat) (w : World) (hB : B ≤ w.heap.size) (hz : Ints w B A zs) (hrl : r < zs.length) (hl : zs.length ≤ 1000) (M : Int) (hM : M ≤ 1000000) (hb : Bnd 0 M zs)
    (s n : Int) (hs : 0 ≤ s) (hs2 : s ≤ M) (hn : 0 ≤ n) (hn2 : n ≤ M) (hok : yearOk r zs s n = true) :
    Calls Try.prog 34 #[hv h, .slice A zs.length cap, .int .i64 s, .int .i64 n] w (NewYear w (yearL zs s n) (goneL zs s n)) := by
  have hok' : n ≤ ((nowL zs s).drop r).sum := by simpa [yearOk] using hok
  have hnb : Bnd 0 1000000 (nowL zs s) := fun k hk => by have := nowL_bnd hb hs hs2 k hk; omega
  have Hnb := Lib.hid hnb
  have Hz := Lib.hid hz
  have Hr := Lib.hid hr
  have Hb := Lib.hid hb
  clear hok hnb hz hb hr
  rw [show hv h = .agg #[.int .i64 h.lo, .int .i64 h.hi, .int .i64 h.bears, .int .i64 h.ripe, .int .i64 h.dies, .int .i64 h.keep] from rfl]
  go_enter Try.func34, Try.ntmps34
  go_wp2_with fail
  refine (refAge_any A cap zs B _ (by simp; omega) (Hz.out.below ((Below.refl B w).alloc hB _)) (by omega) hl).mono ?_
  rintro e w1 ⟨g, cg, rfl, hcg, hg, hG, hB1⟩
  rw [ageL_len] at hcg ⊢
  have c0 : w1.cell? ⟨g, 0, none⟩ = _ := (cell_of_row w1 g 0 _ _ _ hG).trans (ints_at _ 0 (by rw [ageL_len]; omega))
  have f0 := frozen_of_row w1 g 0 _ _ hG
  simp only [World.size_alloc] at hg hB1
  have cH := fun i => (hB1.cell (p := ⟨w.heap.size, i, none⟩) (by simp)).trans (cell_of_row _ w.heap.size i _ _ _ (alloc_at0 w _))
  generalize (ageL zs)[0]?.getD 0 = x at c0
  have hG2 := heap_setCell_same w1 g 0 _ _ (.int .i64 s) hG
  rw [ints_set] at hG2
  rw [show (ageL zs).set 0 s = nowL zs s from rfl] at hG2
  have hb2 := (((Below.refl _ w).alloc (Nat.le_refl _) _).trans (hB1.mono (by omega))).setCell (p := ⟨g, 0, none⟩) (by simp; omega) (.int .i64 s)
  have H2 := refRipe_any h r Hr.out (some ⟨g, 0, none⟩) cg (nowL zs s) _ _ (Nat.le_refl _) (ints_new hG2 (lt_of_heap hG2)) (by rw [nowL_len]; exact hrl) (by rw [nowL_len]; exact hcg) (by rw [nowL_len]; exact hl) Hnb.out
  rw [nowL_len] at H2
  have HG := Lib.hid hG2
  have HB := Lib.hid hb2
  have HR2 := Lib.hid H2
  have hcl : 0 < zs.length := by omega
  clear hG hB1 hG2 hb2 H2
  go_wp2_with fail
  refine HR2.out.mono ?_
  rintro e w2 ⟨rfl, hB2⟩
  have hG2 := (hB2.block g (lt_of_heap HG.out)).trans HG.out
  have H3 := refCut_any (some ⟨g, 0, none⟩) cg (nowL zs s) _ w2 (Nat.le_refl _) (ints_new hG2 (lt_of_heap hG2)) (by rw [nowL_len]; omega) (by rw [nowL_len]; exact hl) M hM (nowL_bnd Hb.out hs hs2) n hn hn2
  rw [nowL_len] at H3
  have HR3 := Lib.hid H3
  have HB3 := Lib.hid (HB.out.trans (hB2.mono (by have := HB.out.size; omega)))
  clear hB2 H3 hG2
  go_wp2_with fail
  refine HR3.out.mono ?_
  rintro e w3 ⟨g1, c1, g2, c2, rfl, hg1, hg2, hne, hc2, hown, hG3, hB4⟩
  have HO := Lib.hid hown
  have HG3 := Lib.hid hG3
  have HB4 := Lib.hid (HB3.out.trans (hB4.mono HB3.out.size))
  have hws := HB3.out.size
  clear hown hG3 hB4
  go_wp2_with fail
  go_ret3
  exact ⟨g1, c1, g2, c2, rfl, by omega, by omega, hne, own_cap HO.out, hc2, (Vals.own HO.out).ints, ints_new HG3.out (lt_of_heap HG3.out), fun k => HO.out.frozenAt k, fun k => frozen_of_row w3 _ k _ _ HG3.out, HB4.out⟩

end Go.Proofs.Ytanjolmelbipoaa

