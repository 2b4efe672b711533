/-
  The reference's Check, Stand and Taken.
-/
import Derived.Deep.QuietTactic
import Derived.BigQuiet
import Derived.RegionTactic
import Derived.ChangeAlike
import Derived.Outline
import Derived.Deep.RegionLaw
import Derived.Deep.DeepCutAuto
import Derived.Test.YtpnnlmaipcjkmaaGreatQV1
import Derived.Deep.RegionHeld3
import Derived.Deep.DrawnRows
set_option linter.all false
namespace Go.Proofs.YtpnnlmaipcjkmaaGreat

def cutTo (c : List Int) (n : Int) (hi : Nat) : Nat → List Int × List Int × Int
  | 0 => (c, List.replicate c.length 0, n)
  | k + 1 =>
    let s := cutTo c n hi k
    let t := min s.2.2 (s.1[hi - k]?.getD 0)
    (s.1.set (hi - k) (s.1[hi - k]?.getD 0 - t), s.2.1.set (hi - k) t, s.2.2 - t)

theorem cutTo_succ {c : List Int} {n : Int} {hi k a : Nat} (ha : a = hi - k) {x m : Int} (hx : (cutTo c n hi k).1[a]?.getD 0 = x) (hm : (cutTo c n hi k).2.2 = m) {t u v : Int} (ht : min m x = t) (hu : x - t = u) (hv : m - t = v) :
    cutTo c n hi (k + 1) = ((cutTo c n hi k).1.set a u, (cutTo c n hi k).2.1.set a t, v) := by
  subst ha hx hm ht hu hv; rfl

theorem cutTo_len (c : List Int) (n : Int) (hi k : Nat) : (cutTo c n hi k).1.length = c.length ∧ (cutTo c n hi k).2.1.length = c.length := by
  induction k with
  | zero => simp [cutTo]
  | succ k ih => simp [cutTo, ih]

theorem Bnd.set {lo hi : Int} {c : List Int} (h : Bnd lo hi c) (a : Nat) {x : Int} (h1 : lo ≤ x) (h2 : x ≤ hi) : Bnd lo hi (c.set a x) := fun k hk => by
  rw [List.length_set] at hk
  by_cases e : a = k
  · subst e; simp [hk, h1, h2]
  · rw [List.getElem?_set_ne e]; exact h k hk

theorem Bnd.replicate {lo hi x : Int} (n : Nat) (h1 : lo ≤ x) (h2 : x ≤ hi) : Bnd lo hi (List.replicate n x) := fun k hk => by
  rw [List.length_replicate] at hk
  simp [hk, h1, h2]

theorem cutTo_bnd {c : List Int} {n M : Int} (hc : Bnd 0 M c) (hn : 0 ≤ n) (hM : n ≤ M) (hi : Nat) (hh : hi < c.length) : ∀ k, k ≤ hi + 1 →
    Bnd 0 M (cutTo c n hi k).1 ∧ Bnd 0 M (cutTo c n hi k).2.1 ∧ 0 ≤ (cutTo c n hi k).2.2 ∧ (cutTo c n hi k).2.2 ≤ M := by
  intro k
  induction k with
  | zero => intro _; exact ⟨hc, Bnd.replicate _ (by omega) (by omega), hn, hM⟩
  | succ k ih =>
    intro hk
    obtain ⟨h1, h2, h3, h4⟩ := ih (by omega)
    have h5 := h1 (hi - k) (by rw [(cutTo_len c n hi k).1]; omega)
    simp only [cutTo]
    generalize (cutTo c n hi k).1[hi - k]?.getD 0 = x at *
    refine ⟨h1.set _ (by omega) (by omega), h2.set _ (by omega) (by omega), by omega, by omega⟩

def laterP (d : Nat) (c : List Int) (s : Int) : List Int := s :: (c.take d ++ List.replicate (6 - d) 0)

theorem laterP_len {d : Nat} {c : List Int} (s : Int) (hd : d ≤ 6) (hc : c.length = 7) : (laterP d c s).length = 7 := by simp [laterP, hc]; omega

theorem laterP_succ {k : Nat} {c : List Int} (s : Int) (hk : k < 6) (hc : c.length = 7) : (laterP k c s).set (k + 1) (c[k]?.getD 0) = laterP (k + 1) c s := by
  obtain ⟨c0, c1, c2, c3, c4, c5, c6, rfl⟩ := len7 hc
  match k, hk with
  | 0, _ => rfl
  | 1, _ => rfl
  | 2, _ => rfl
  | 3, _ => rfl
  | 4, _ => rfl
  | 5, _ => rfl

end Go.Proofs.YtpnnlmaipcjkmaaGreat

namespace Go.Proofs.YtpnnlmaipcjkmaaGreat
open Go.RowKit

set_option maxHeartbeats 400000 in
theorem refSum_any (A : Option Addr) (cap : Nat) (zs : List Int) (B : Nat) (w : World) (h : Ints w B A zs) (hl : zs.length ≤ 1000) (hb : Bnd 0 1000000 zs) :
    Calls Tryz.prog 181 #[.slice A zs.length cap] w fun e w' => e = .returned (.int .i64 zs.sum) ∧ w = w' := by
  have hbd := sum_take_bnd hb
  have hbd' := Lib.hid hbd
  have hb' := Lib.hid hb
  have h' := Lib.hid h
  clear h hb hbd
  go_enter Tryz.func181, Tryz.ntmps181
  go_wp2
  go_loop [3, 4] (fun t i => ∃ k : Nat, k ≤ zs.length ∧ i = .int .i64 k ∧ t = .int .i64 (zs.take k).sum) (fun _ i => zs.length - (intOf i).toNat)
  case atStart => exact ⟨0, Nat.zero_le _, rfl, by simp⟩
  case round =>
    obtain ⟨k, hk, rfl, rfl⟩ := hrel
    by_cases hlt : k < zs.length
    · obtain ⟨b, off, hA, _, hc⟩ := h'.out (by omega)
      subst hA
      have hcell := hc k hlt
      clear hc
      have hbk := hbd'.out k (by omega)
      have hbb := hb'.out k hlt
      have hs := sum_take_succ zs k hlt
      generalize zs[k]?.getD 0 = x at hcell hbb hs
      have hs' := Lib.hid hs
      clear hs
      go_wp2
      go_round
      case rel => exact ⟨k + 1, by omega, by go_num, by rw [hs'.out]⟩
      case measure => simp [intOf]; omega
    · go_wp2
      go_ret
      exact ⟨ret_int (by rw [List.take_of_length_le (by omega)]), rfl⟩

theorem inR_not {x lo hi : Int} : inR x lo hi = false ↔ ¬ (lo ≤ x ∧ x ≤ hi) := by rw [← inR_iff, Bool.not_eq_true]

set_option maxHeartbeats 400000 in
theorem refWithin_anyL1 (x lo hi : Int) (w : World) :
    Calls Tryz.prog 147 #[.int .i64 x, .int .i64 lo, .int .i64 hi] w fun e w' => e = .returned (.bool (inR x lo hi)) ∧ w = w' := by
  by_cases h1 : lo ≤ x
  · by_cases h2 : x ≤ hi
    all_goals
      go_enter Tryz.func147, Tryz.ntmps147
      go_wp2
      go_ret
      exact ⟨by simp [inR, h1, h2] <;> omega, rfl⟩
  · go_enter Tryz.func147, Tryz.ntmps147
    go_wp2
    go_ret
    exact ⟨by simp [inR] <;> omega, rfl⟩

def hv (h : Hab) : Value := .agg #[.int .i64 h.lo, .int .i64 h.hi, .int .i64 h.bears, .int .i64 h.ripe, .int .i64 h.dies, .int .i64 h.keep]

def okHab (h : Hab) : Bool := inR h.lo 0 1000 && inR h.hi h.lo 1000 && inR h.dies 1 6 && inR h.bears 0 h.dies && inR h.ripe 1 h.dies && inR h.keep 0 200

theorem chain6 (a b c d e f : Bool) : a = false ∨ (a = true ∧ b = false) ∨ (a = true ∧ b = true ∧ c = false) ∨ (a = true ∧ b = true ∧ c = true ∧ d = false) ∨
    (a = true ∧ b = true ∧ c = true ∧ d = true ∧ e = false) ∨ (a = true ∧ b = true ∧ c = true ∧ d = true ∧ e = true ∧ f = false) ∨ (a = true ∧ b = true ∧ c = true ∧ d = true ∧ e = true ∧ f = true) := by
  cases a <;> cases b <;> cases c <;> cases d <;> cases e <;> cases f <;> simp

set_option maxHeartbeats 2000000 in
theorem refHabit_any (h : Hab) (w : World) :
    Calls Tryz.prog 148 #[hv h] w fun e w' => e = .returned (.bool (okHab h)) ∧ Below w.heap.size w w' := by
  unfold okHab
  unfold hv
  rcases chain6 (inR h.lo 0 1000) (inR h.hi h.lo 1000) (inR h.dies 1 6) (inR h.bears 0 h.dies) (inR h.ripe 1 h.dies) (inR h.keep 0 200) with
    h1 | ⟨h1, h2⟩ | ⟨h1, h2, h3⟩ | ⟨h1, h2, h3, h4⟩ | ⟨h1, h2, h3, h4, h5⟩ | ⟨h1, h2, h3, h4, h5, h6⟩ | ⟨h1, h2, h3, h4, h5, h6⟩
  all_goals
    go_enter Tryz.func148, Tryz.ntmps148
    go_wp2_with (go_at_call 147; refine (refWithin_anyL1 _ _ _ _).mono ?_; rintro e w' ⟨rfl, rfl⟩)
    go_ret
    exact ⟨by simp [*], (Below.refl _ _).alloc (Nat.le_refl _) _⟩

end Go.Proofs.YtpnnlmaipcjkmaaGreat

namespace Go.Proofs.YtpnnlmaipcjkmaaGreat
open Go.RowKit

theorem Tryz.info3 : (Tryz.prog.info? 3).map (fun i => (i.zero, i.size, i.bytes)) = some (some (.int .i64 0), 1, 8) := by kernel_rfl

def NewInts (w : World) (zs : List Int) (e : Ending) (w' : World) : Prop :=
  ∃ g cap, e = .returned (.slice (some ⟨g, 0, none⟩) zs.length cap) ∧ zs.length ≤ cap ∧ w.heap.size ≤ g ∧ w'.heap[g]? = some (.cells (ints zs).toArray 3 (0, 0)) ∧ Below w.heap.size w w'

def ageL (l : List Int) : List Int := (0 :: l).take l.length

theorem ageL_len (l : List Int) : (ageL l).length = l.length := by simp [ageL]
def ageTo (l : List Int) (k : Nat) : List Int := (0 :: l).take k ++ List.replicate (l.length - k) 0
theorem ageTo_len (l : List Int) (k : Nat) (hk : k ≤ l.length) : (ageTo l k).length = l.length := by simp [ageTo]; omega
theorem ageTo_succ (l : List Int) (k : Nat) (h1 : 1 ≤ k) (hk : k < l.length) : (ageTo l k).set k (l[k - 1]?.getD 0) = ageTo l (k + 1) := by
  apply List.ext_getElem?
  intro i
  unfold ageTo
  by_cases hik : k = i
  · subst hik
    rw [List.getElem?_set_self (by simp; omega)]
    rw [List.getElem?_append_left (by simp; omega), List.getElem?_take]
    rw [if_pos (by omega)]
    obtain ⟨m, rfl⟩ : ∃ m, k = m + 1 := ⟨k - 1, by omega⟩
    simp [show m < l.length by omega]
  · rw [List.getElem?_set_ne hik]
    by_cases h2 : i < k
    · rw [List.getElem?_append_left (by simp; omega), List.getElem?_append_left (by simp; omega), List.getElem?_take, List.getElem?_take, if_pos h2, if_pos (by omega)]
    · rw [List.getElem?_append_right (by simp; omega), List.getElem?_append_right (by simp; omega)]
      simp only [List.length_take, List.length_cons, List.getElem?_replicate]
      by_cases h3 : i < l.length
      · rw [if_pos (by omega), if_pos (by omega)]
      · rw [if_neg (by omega), if_neg (by omega)]

set_option maxHeartbeats 1000000 in
theorem refAge_any (A : Option Addr) (cap : Nat) (zs : List Int) (B : Nat) (w : World) (hB : B ≤ w.heap.size) (h : Ints w B A zs) (hl1 : 1 ≤ zs.length) (hl : zs.length ≤ 1000) :
    Calls Tryz.prog 173 #[.slice A zs.length cap] w (NewInts w (ageL zs)) := by
  obtain ⟨i0, hi, hz0, hz1, hz2⟩ := info_parts Tryz.info3
  have hmk := fun W => run_make_ints (P := Tryz.prog) 59 3 i0 Tryz.underlying59 hi hz0 hz1 hz2 zs.length (by omega) W
  have h' := Lib.hid h
  clear h hi hz0 hz1 hz2
  go_enter Tryz.func173, Tryz.ntmps173
  go_wp2
  go_loopw [4] (fun i wr => ∃ j : Nat, j < zs.length ∧ i = .int .i64 ((j : Int) + 1) ∧ wr.heap[w.heap.size]? = some (.cells (ints (ageTo zs (j + 1))).toArray 3 (0, 0)) ∧ Below w.heap.size w wr)
    (fun i _ => zs.length - (intOf i).toNat)
  case atStart =>
    refine ⟨0, by omega, rfl, ?_, (Below.refl _ _).alloc (Nat.le_refl _) _⟩
    rw [alloc_at0]
    congr 3
    cases zs with
    | nil => simp at hl1
    | cons z zs => simp [ageTo, List.replicate_succ]
  case round =>
    obtain ⟨j, hj, rfl, hG, hBel⟩ := hrel
    by_cases hlt : j + 1 < zs.length
    · obtain ⟨b, off, hA, hbB, hc⟩ := h'.out (by omega)
      subst hA
      have hcell : wr.cell? ⟨b, off + j, none⟩ = _ := (hBel.cell (p := ⟨b, off + j, none⟩) (by simp; omega)).trans (hc j (by omega))
      clear hc
      have hlen := ageTo_len zs (j + 1) (by omega)
      have cg : wr.cell? ⟨w.heap.size, j + 1, none⟩ = _ := (cell_of_row wr _ _ _ _ _ hG).trans (ints_at _ (j + 1) (by omega))
      have fg := frozen_of_row wr _ (j + 1) _ _ hG
      have hs := ageTo_succ zs (j + 1) (by omega) hlt
      simp only [Nat.add_sub_cancel] at hs
      generalize zs[j]?.getD 0 = x at hcell hs
      have hst := heap_setCell_same wr w.heap.size (j + 1) _ _ (.int .i64 x) hG
      rw [ints_set, hs] at hst
      have HS := Lib.hid hst
      have HB := Lib.hid (hBel.setCell (p := ⟨w.heap.size, j + 1, none⟩) (Nat.le_refl _) (.int .i64 x))
      have hlt' : (j : Int) + 1 < zs.length := by omega
      clear hG hBel hs hlen hst h'
      go_wp2
      go_roundw
      case rel => exact ⟨j + 1, by omega, by simp, HS.out, HB.out⟩
      case measure => simp [intOf]; omega
    · have e : zs.length = j + 1 := by omega
      have hf : ageTo zs (j + 1) = ageL zs := by rw [← e]; simp [ageTo, ageL]
      rw [hf] at hG
      have HG := Lib.hid hG
      have HB := Lib.hid hBel
      have hlt' : (zs.length : Int) ≤ (j : Int) + 1 := by omega
      clear hG hBel e hf h' hmk
      go_wp2
      go_ret
      exact ⟨w.heap.size, zs.length, by rw [ageL_len]; rfl, by rw [ageL_len]; exact Nat.le_refl _, Nat.le_refl _, HG.out, HB.out⟩

end Go.Proofs.YtpnnlmaipcjkmaaGreat

namespace Go.Proofs.YtpnnlmaipcjkmaaGreat
open Go.RowKit

def NewTwo (w : World) (xs ys : List Int) (e : Ending) (w' : World) : Prop :=
  ∃ g1 c1 g2 c2, e = .returned (.tuple #[.slice (some ⟨g1, 0, none⟩) xs.length c1, .slice (some ⟨g2, 0, none⟩) ys.length c2]) ∧ w.heap.size ≤ g1 ∧ w.heap.size ≤ g2 ∧ g1 ≠ g2 ∧ ys.length ≤ c2 ∧
    w'.ownsRow w.heap.size 3 1 (.slice (some ⟨g1, 0, none⟩) xs.length c1) xs.length (ints xs) ∧ w'.heap[g2]? = some (.cells (ints ys).toArray 3 (0, 0)) ∧ Below w.heap.size w w'

theorem own_set2 {w : World} {base g1 g2 i j n cap : Nat} {xs ys : List Int} (h : w.ownsRow base 3 1 (.slice (some ⟨g1, 0, none⟩) n cap) n (ints xs)) (hG : w.heap[g2]? = some (.cells (ints ys).toArray 3 (0, 0))) (hne : g1 ≠ g2) (u v : Int) :
    ((w.setCell ⟨g2, j, none⟩ (.int .i64 u)).setCell ⟨g1, i, none⟩ (.int .i64 v)).ownsRow base 3 1 (.slice (some ⟨g1, 0, none⟩) n cap) n (ints (xs.set i v)) ∧
    ((w.setCell ⟨g2, j, none⟩ (.int .i64 u)).setCell ⟨g1, i, none⟩ (.int .i64 v)).heap[g2]? = some (.cells (ints (ys.set j u)).toArray 3 (0, 0)) := by
  refine ⟨?_, ?_⟩
  · have h2 := (own_far h (p := ⟨g2, j, none⟩) hne (.int .i64 u)).stored i (.int .i64 v)
    rw [show ints (xs.set i v) = (ints xs).set i (.int .i64 v) from by simp [ints, List.map_set]]
    exact h2.1
  · refine (heap_setCell_other _ _ _ _ hne.symm).trans ?_
    rw [heap_setCell_same w g2 j _ _ _ hG, ints_set]

set_option maxHeartbeats 2000000 in
theorem refCut_any (A : Option Addr) (cap : Nat) (zs : List Int) (B : Nat) (w : World) (hB : B ≤ w.heap.size) (h : Ints w B A zs) (hl1 : 1 ≤ zs.length) (hl : zs.length ≤ 1000) (M : Int) (hM : M ≤ 1000000) (hb : Bnd 0 M zs) (n : Int) (hn : 0 ≤ n) (hn2 : n ≤ M) :
    Calls Tryz.prog 175 #[.slice A zs.length cap, .int .i64 n] w (NewTwo w (cutTo zs n (zs.length - 1) zs.length).1 (cutTo zs n (zs.length - 1) zs.length).2.1) := by
  obtain ⟨i0, hi, hz0, hz1, hz2⟩ := info_parts Tryz.info3
  have hmk := fun W => run_make_ints (P := Tryz.prog) 59 3 i0 Tryz.underlying59 hi hz0 hz1 hz2 zs.length (by omega) W
  have hv := (h.vals).mono hB
  have h1 := oneCells_ints zs
  have Hb := Lib.hid hb
  have HV := Lib.hid hv
  have HI := Lib.hid hi
  have HZ := Lib.hid (And.intro hz0 (And.intro hz1 hz2))
  clear h hi hz0 hz1 hz2 hb hv
  go_enter Tryz.func175, Tryz.ntmps175
  go_upto_region 1 with fail
  go_cut [6, 7] (fun s6 s7 wx => ∃ g1 c1 g2, s6 = .slice (some ⟨g1, 0, none⟩) zs.length c1 ∧ s7 = .slice (some ⟨g2, 0, none⟩) zs.length zs.length ∧ w.heap.size ≤ g1 ∧ w.heap.size ≤ g2 ∧ g1 ≠ g2 ∧
    wx.ownsRow w.heap.size 3 1 (.slice (some ⟨g1, 0, none⟩) zs.length c1) zs.length (ints zs) ∧ wx.heap[g2]? = some (.cells (ints (List.replicate zs.length 0)).toArray 3 (0, 0)) ∧ Below w.heap.size w wx)
  case first =>
    go_region_law
      ((refine step_clone (by rfl) (.tmp 9) (.tmp 10) _ (by rfl) w.heap.size 3 i0 _ 1 8 Tryz.underlying59 HI.out HZ.out.1 HZ.out.2.1 HZ.out.2.2 rfl (by omega) _ (by rfl)
          (by first | exact alloc_at0 _ _ | exact alloc2_at0 _ _ _ | exact alloc2_at1 _ _ _) (by simp)
          w.heap.size A zs.length cap (ints zs) (by rfl)
          (HV.out.below (by first | exact (((Below.refl _ w).alloc (Nat.le_refl _) _).alloc (by simp) _).drew | exact ((Below.refl _ w).alloc (Nat.le_refl _) _).drew)) (by simp [ints]) h1 (by simp only [maxLen]; omega) (by omega) ?_
        intro g1 c1 w1 hown hgrow hat hg1 hg1s))
    all_goals
      go_wp2_with fail
      go_meet
      simp only [World.size_alloc, World.drew] at hat
      first
        | exact ⟨g1, c1, w1.heap.size, rfl, rfl, hg1, by have := hgrow.size; simp [World.drew] at this; omega, by omega, hown.alloc _, alloc_at0 _ _,
            (Below.ofGrown ((Below.refl _ w).alloc (Nat.le_refl _) _).drew hgrow (by simp [World.drew]) (by omega)).alloc (by have := hgrow.size; simp [World.drew] at this; omega) _⟩
        | exact ⟨g1, c1, w.heap.size + 1, rfl, rfl, hg1, by omega, by omega, hown, (hgrow.block _ (by simp [World.drew]) (by simp)).trans (alloc2_at1 _ _ _),
            Below.ofGrown (((Below.refl _ w).alloc (Nat.le_refl _) _).alloc (by simp) _).drew hgrow (by simp [World.drew]; omega) (by omega)⟩
        | exact ⟨g1, c1, w.heap.size, rfl, rfl, hg1, by omega, by omega, hown, (hgrow.block _ (by simp [World.drew]; omega) (by simp)).trans (alloc2_at0 _ _ _),
            Below.ofGrown (((Below.refl _ w).alloc (Nat.le_refl _) _).alloc (by simp) _).drew hgrow (by simp [World.drew]; omega) (by omega)⟩
  case rest =>
    obtain ⟨g1, c1, g2, rfl, rfl, hg1, hg2, hne, hown, hG, hBel⟩ := hcut
    have HO := Lib.hid hown
    have HG := Lib.hid hG
    have HB := Lib.hid hBel
    clear hown hG hBel hmk h1
    go_wp2
    go_loopw [1, 8] (fun m i wr => ∃ k : Nat, k ≤ zs.length ∧ i = .int .i64 ((zs.length : Int) - 1 - k) ∧ m = .int .i64 (cutTo zs n (zs.length - 1) k).2.2 ∧
        wr.ownsRow w.heap.size 3 1 (.slice (some ⟨g1, 0, none⟩) zs.length c1) zs.length (ints (cutTo zs n (zs.length - 1) k).1) ∧
        wr.heap[g2]? = some (.cells (ints (cutTo zs n (zs.length - 1) k).2.1).toArray 3 (0, 0)) ∧ Below w.heap.size w wr)
      (fun _ i _ => (intOf i + 1).toNat)
    case atStart => exact ⟨0, Nat.zero_le _, by simp, rfl, HO.out, HG.out, HB.out⟩
    case round =>
      obtain ⟨k, hk, rfl, rfl, hO, hG, hBel⟩ := hrel
      by_cases hlt : k < zs.length
      · obtain ⟨a, ha⟩ : ∃ a : Nat, a = zs.length - 1 - k := ⟨_, rfl⟩
        have e1 : ((zs.length : Int) - 1 - k) = (a : Int) := by omega
        have hlen := cutTo_len zs n (zs.length - 1) k
        have hbk := cutTo_bnd Hb.out hn hn2 (zs.length - 1) (by omega) k (by omega)
        have hx := hbk.1 a (by omega)
        have hm := hbk.2.2
        have hstep := fun t u v => @cutTo_succ zs n (zs.length - 1) k a ha _ _ rfl rfl t u v
        have cx : wr.cell? ⟨g1, a, none⟩ = _ := (hO.cellAt a (by omega)).trans (ints_atL _ a (by omega))
        have cg : wr.cell? ⟨g2, a, none⟩ = _ := (cell_of_row wr _ _ _ _ _ hG).trans (ints_at _ a (by omega))
        have fx := hO.frozenAt a
        have fg := frozen_of_row wr _ a _ _ hG
        generalize hmm : (cutTo zs n (zs.length - 1) k).2.2 = m at hm hstep ⊢
        generalize (cutTo zs n (zs.length - 1) k).1[a]?.getD 0 = x at cx hx hstep
        generalize (cutTo zs n (zs.length - 1) k).2.1[a]?.getD 0 = y at cg
        rw [e1]
        have Hs := Lib.hid hstep
        have HO := Lib.hid hO
        have HG := Lib.hid hG
        have HBel := Lib.hid hBel
        have hak : (a : Int) - 1 = (zs.length : Int) - 1 - ((k + 1 : Nat) : Int) := by omega
        have Hak := Lib.hid hak
        have hal : (a : Int) < zs.length := by omega
        clear hstep hO hG hBel e1 hbk hlen ha hmm hak
        have hne' := hne.symm
        rcases Int.lt_or_le x m with hmx | hmx
        · have hs := own_set2 (i := a) (j := a) HO.out HG.out hne x 0
          have hBel2 := (HBel.out.setCell (p := ⟨g2, a, none⟩) hg2 (.int .i64 x)).setCell (p := ⟨g1, a, none⟩) hg1 (.int .i64 0)
          have e2 := Hs.out x 0 (m - x) (by omega) (by omega) rfl
          have HS := Lib.hid hs
          have HB := Lib.hid hBel2
          have HE := Lib.hid e2
          clear hs hBel2 e2
          go_wp2
          go_region
          go_wp2
          go_roundw
          case rel =>
            have e2 := HE.out
            exact ⟨k + 1, by omega, by rw [Hak.out], by rw [e2], by rw [e2]; exact HS.out.1, by rw [e2]; exact HS.out.2, HB.out.drew⟩
          case measure => simp [intOf] <;> omega
        · have hs := own_set2 (i := a) (j := a) HO.out HG.out hne m (x - m)
          have hBel2 := (HBel.out.setCell (p := ⟨g2, a, none⟩) hg2 (.int .i64 m)).setCell (p := ⟨g1, a, none⟩) hg1 (.int .i64 (x - m))
          have e2 := Hs.out m (x - m) 0 (by omega) rfl (by omega)
          have HS := Lib.hid hs
          have HB := Lib.hid hBel2
          have HE := Lib.hid e2
          clear hs hBel2 e2
          go_wp2
          go_region
          go_wp2
          go_roundw
          case rel =>
            have e2 := HE.out
            exact ⟨k + 1, by omega, by rw [Hak.out], by rw [e2], by rw [e2]; exact HS.out.1, by rw [e2]; exact HS.out.2, HB.out.drew⟩
          case measure => simp [intOf] <;> omega
      · obtain rfl : k = zs.length := by omega
        have e1 : ((zs.length : Int) - 1 - zs.length) = -1 := by omega
        rw [e1]
        have hlen := cutTo_len zs n (zs.length - 1) zs.length
        have HO := Lib.hid hO
        have HG := Lib.hid hG
        have HBel := Lib.hid hBel
        have HL := Lib.hid hlen
        clear hO hG hBel e1 hlen
        go_wp2
        go_ret2
        exact ⟨g1, c1, g2, zs.length, by rw [HL.out.1, HL.out.2]; rfl, hg1, hg2, hne, by rw [HL.out.2]; exact Nat.le_refl _, by rw [HL.out.1]; exact HO.out, HG.out, HBel.out⟩

end Go.Proofs.YtpnnlmaipcjkmaaGreat

namespace Go.Proofs.YtpnnlmaipcjkmaaGreat
open Go.RowKit

set_option maxHeartbeats 400000 in
theorem refRipe_any (h : Hab) (r : Nat) (hr : h.ripe = r) (A : Option Addr) (cap : Nat) (zs : List Int) (B : Nat) (w : World) (hB : B ≤ w.heap.size) (hz : Ints w B A zs) (hrl : r < zs.length) (hcap : zs.length ≤ cap) (hl : zs.length ≤ 1000) (hb : Bnd 0 1000000 zs) :
    Calls Tryz.prog 174 #[hv h, .slice A zs.length cap] w fun e w' => e = .returned (.int .i64 (zs.drop r).sum) ∧ Below w.heap.size w w' := by
  obtain ⟨lo, hi, be, ri, di, ke⟩ := h
  simp only at hr
  subst hr
  obtain ⟨b, off, rfl, hbB, hc⟩ := hz (by omega)
  have hI : Ints (w.alloc (.cells #[.int .i64 lo, .int .i64 hi, .int .i64 be, .int .i64 r, .int .i64 di, .int .i64 ke] 71)) B (some ⟨b, off + r, none⟩) (zs.drop r) := fun _ => by
    refine ⟨b, off + r, rfl, hbB, fun k hk => ?_⟩
    simp only [List.length_drop] at hk
    rw [World.cell?_alloc_lt _ _ _ (by simp; omega), Nat.add_assoc, hc (r + k) (by omega)]
    simp [List.getElem?_drop]
  have H := refSum_any (some ⟨b, off + r, none⟩) (cap - r) (zs.drop r) B _ hI (by simp; omega) (fun k hk => by
    simp only [List.length_drop] at hk
    have := hb (r + k) (by omega)
    simpa [List.getElem?_drop] using this)
  rw [List.length_drop] at H
  have HH := Lib.hid H
  have hrc : (r : Int) ≤ zs.length := by omega
  have hzc : (zs.length : Int) ≤ cap := by omega
  have hne : ¬ cap = r := by omega
  clear H hI hc hb hz
  unfold hv
  simp only
  go_enter Tryz.func174, Tryz.ntmps174
  go_wp2_with (go_at_call 181; refine (HH.out).mono ?_; rintro e w' ⟨rfl, rfl⟩)
  go_ret
  exact ⟨rfl, (Below.refl _ _).alloc (Nat.le_refl _) _⟩

def nowLL1 (l : List Int) (s : Int) : List Int := (ageL l).set 0 s
theorem nowL_lenL1 (l : List Int) (s : Int) : (nowLL1 l s).length = l.length := by simp [nowLL1, ageL_len]
theorem ageL_bnd {M : Int} {l : List Int} (h : Bnd 0 M l) (hM : 0 ≤ M) : Bnd 0 M (ageL l) := fun k hk => by
  rw [ageL_len] at hk
  unfold ageL
  rw [List.getElem?_take, if_pos hk]
  cases k with
  | zero => simp [hM]
  | succ k => simp only [List.getElem?_cons_succ]; exact h k (by omega)
theorem nowL_bnd {M s : Int} {l : List Int} (h : Bnd 0 M l) (hs : 0 ≤ s) (hM : s ≤ M) : Bnd 0 M (nowLL1 l s) := (ageL_bnd h (by omega)).set 0 hs hM

def yearL (l : List Int) (s n : Int) : List Int := (cutTo (nowLL1 l s) n (l.length - 1) l.length).1
def goneL (l : List Int) (s n : Int) : List Int := (cutTo (nowLL1 l s) n (l.length - 1) l.length).2.1

def NewYear (w : World) (xs ys : List Int) (e : Ending) (w' : World) : Prop :=
  ∃ g1 c1 g2 c2, e = .returned (.tuple #[.slice (some ⟨g1, 0, none⟩) xs.length c1, .slice (some ⟨g2, 0, none⟩) ys.length c2, .bool true]) ∧ w.heap.size ≤ g1 ∧ w.heap.size ≤ g2 ∧ g1 ≠ g2 ∧ xs.length ≤ c1 ∧ ys.length ≤ c2 ∧
    Ints w' w'.heap.size (some ⟨g1, 0, none⟩) xs ∧ Ints w' w'.heap.size (some ⟨g2, 0, none⟩) ys ∧ (∀ k, w'.frozen? ⟨g1, k, none⟩ = false) ∧ (∀ k, w'.frozen? ⟨g2, k, none⟩ = false) ∧ Below w.heap.size w w'

def yearOk (r : Nat) (l : List Int) (s n : Int) : Bool := decide (n ≤ ((nowLL1 l s).drop r).sum)

set_option maxHeartbeats 1000000 in
theorem refYear_no (h : Hab) (r : Nat) (hr : h.ripe = r) (A : Option Addr) (cap : Nat) (zs : List Int) (B : Nat) (w : World) (hB : B ≤ w.heap.size) (hz : Ints w B A zs) (hrl : r < zs.length) (hl : zs.length ≤ 1000) (M : Int) (hM : M ≤ 1000000) (hb : Bnd 0 M zs)
    (s n : Int) (hs : 0 ≤ s) (hs2 : s ≤ M) (hok : yearOk r zs s n = false) :
    Calls Tryz.prog 149 #[hv h, .slice A zs.length cap, .int .i64 s, .int .i64 n] w fun e w' => e = .returned (.tuple #[.slice none 0 0, .slice none 0 0, .bool false]) ∧ Below w.heap.size w w' := by
  have hok' : ((nowLL1 zs s).drop r).sum < n := by simpa [yearOk] using hok
  have hnb : Bnd 0 1000000 (nowLL1 zs s) := fun k hk => by have := nowL_bnd hb hs hs2 k hk; omega
  have Hnb := Lib.hid hnb
  have Hz := Lib.hid hz
  have Hr := Lib.hid hr
  have Hb := Lib.hid hb
  clear hok hnb hz hb hr
  rw [show hv h = .agg #[.int .i64 h.lo, .int .i64 h.hi, .int .i64 h.bears, .int .i64 h.ripe, .int .i64 h.dies, .int .i64 h.keep] from rfl]
  go_enter Tryz.func149, Tryz.ntmps149
  go_wp2_with fail
  refine (refAge_any A cap zs B _ (by simp; omega) (Hz.out.below ((Below.refl B w).alloc hB _)) (by omega) hl).mono ?_
  rintro e w1 ⟨g, cg, rfl, hcg, hg, hG, hB1⟩
  rw [ageL_len] at hcg ⊢
  have c0 : w1.cell? ⟨g, 0, none⟩ = _ := (cell_of_row w1 g 0 _ _ _ hG).trans (ints_at _ 0 (by rw [ageL_len]; omega))
  have f0 := frozen_of_row w1 g 0 _ _ hG
  simp only [World.size_alloc] at hg hB1
  have cH := fun i => (hB1.cell (p := ⟨w.heap.size, i, none⟩) (by simp)).trans (cell_of_row _ w.heap.size i _ _ _ (alloc_at0 w _))
  generalize (ageL zs)[0]?.getD 0 = x at c0
  have hG2 := heap_setCell_same w1 g 0 _ _ (.int .i64 s) hG
  rw [ints_set] at hG2
  rw [show (ageL zs).set 0 s = nowLL1 zs s from rfl] at hG2
  have hb2 := (((Below.refl _ w).alloc (Nat.le_refl _) _).trans (hB1.mono (by omega))).setCell (p := ⟨g, 0, none⟩) (by simp; omega) (.int .i64 s)
  have H2 := refRipe_any h r Hr.out (some ⟨g, 0, none⟩) cg (nowLL1 zs s) _ _ (Nat.le_refl _) (ints_new hG2 (lt_of_heap hG2)) (by rw [nowL_lenL1]; exact hrl) (by rw [nowL_lenL1]; exact hcg) (by rw [nowL_lenL1]; exact hl) Hnb.out
  rw [nowL_lenL1] at H2
  have HG := Lib.hid hG2
  have HB := Lib.hid hb2
  have HR2 := Lib.hid H2
  have hcl : 0 < zs.length := by omega
  clear hG hB1 hG2 hb2 H2
  go_wp2_with fail
  refine HR2.out.mono ?_
  rintro e w2 ⟨rfl, hB2⟩
  have HB3 := Lib.hid (HB.out.trans (hB2.mono (by have := HB.out.size; omega)))
  clear hB2
  go_wp2_with fail
  go_ret3
  exact ⟨rfl, HB3.out⟩

set_option maxHeartbeats 1000000 in
theorem refYear_yes (h : Hab) (r : Nat) (hr : h.ripe = r) (A : Option Addr) (cap : Nat) (zs : List Int) (B : Nat) (w : World) (hB : B ≤ w.heap.size) (hz : Ints w B A zs) (hrl : r < zs.length) (hl : zs.length ≤ 1000) (M : Int) (hM : M ≤ 1000000) (hb : Bnd 0 M zs)
    (s n : Int) (hs : 0 ≤ s) (hs2 : s ≤ M) (hn : 0 ≤ n) (hn2 : n ≤ M) (hok : yearOk r zs s n = true) :
    Calls Tryz.prog 149 #[hv h, .slice A zs.length cap, .int .i64 s, .int .i64 n] w (NewYear w (yearL zs s n) (goneL zs s n)) := by
  have hok' : n ≤ ((nowLL1 zs s).drop r).sum := by simpa [yearOk] using hok
  have hnb : Bnd 0 1000000 (nowLL1 zs s) := fun k hk => by have := nowL_bnd hb hs hs2 k hk; omega
  have Hnb := Lib.hid hnb
  have Hz := Lib.hid hz
  have Hr := Lib.hid hr
  have Hb := Lib.hid hb
  clear hok hnb hz hb hr
  rw [show hv h = .agg #[.int .i64 h.lo, .int .i64 h.hi, .int .i64 h.bears, .int .i64 h.ripe, .int .i64 h.dies, .int .i64 h.keep] from rfl]
  go_enter Tryz.func149, Tryz.ntmps149
  go_wp2_with fail
  refine (refAge_any A cap zs B _ (by simp; omega) (Hz.out.below ((Below.refl B w).alloc hB _)) (by omega) hl).mono ?_
  rintro e w1 ⟨g, cg, rfl, hcg, hg, hG, hB1⟩
  rw [ageL_len] at hcg ⊢
  have c0 : w1.cell? ⟨g, 0, none⟩ = _ := (cell_of_row w1 g 0 _ _ _ hG).trans (ints_at _ 0 (by rw [ageL_len]; omega))
  have f0 := frozen_of_row w1 g 0 _ _ hG
  simp only [World.size_alloc] at hg hB1
  have cH := fun i => (hB1.cell (p := ⟨w.heap.size, i, none⟩) (by simp)).trans (cell_of_row _ w.heap.size i _ _ _ (alloc_at0 w _))
  generalize (ageL zs)[0]?.getD 0 = x at c0
  have hG2 := heap_setCell_same w1 g 0 _ _ (.int .i64 s) hG
  rw [ints_set] at hG2
  rw [show (ageL zs).set 0 s = nowLL1 zs s from rfl] at hG2
  have hb2 := (((Below.refl _ w).alloc (Nat.le_refl _) _).trans (hB1.mono (by omega))).setCell (p := ⟨g, 0, none⟩) (by simp; omega) (.int .i64 s)
  have H2 := refRipe_any h r Hr.out (some ⟨g, 0, none⟩) cg (nowLL1 zs s) _ _ (Nat.le_refl _) (ints_new hG2 (lt_of_heap hG2)) (by rw [nowL_lenL1]; exact hrl) (by rw [nowL_lenL1]; exact hcg) (by rw [nowL_lenL1]; exact hl) Hnb.out
  rw [nowL_lenL1] at H2
  have HG := Lib.hid hG2
  have HB := Lib.hid hb2
  have HR2 := Lib.hid H2
  have hcl : 0 < zs.length := by omega
  clear hG hB1 hG2 hb2 H2
  go_wp2_with fail
  refine HR2.out.mono ?_
  rintro e w2 ⟨rfl, hB2⟩
  have hG2 := (hB2.block g (lt_of_heap HG.out)).trans HG.out
  have H3 := refCut_any (some ⟨g, 0, none⟩) cg (nowLL1 zs s) _ w2 (Nat.le_refl _) (ints_new hG2 (lt_of_heap hG2)) (by rw [nowL_lenL1]; omega) (by rw [nowL_lenL1]; exact hl) M hM (nowL_bnd Hb.out hs hs2) n hn hn2
  rw [nowL_lenL1] at H3
  have HR3 := Lib.hid H3
  have HB3 := Lib.hid (HB.out.trans (hB2.mono (by have := HB.out.size; omega)))
  clear hB2 H3 hG2
  go_wp2_with fail
  refine HR3.out.mono ?_
  rintro e w3 ⟨g1, c1, g2, c2, rfl, hg1, hg2, hne, hc2, hown, hG3, hB4⟩
  have HO := Lib.hid hown
  have HG3 := Lib.hid hG3
  have HB4 := Lib.hid (HB3.out.trans (hB4.mono HB3.out.size))
  have hws := HB3.out.size
  clear hown hG3 hB4
  go_wp2_with fail
  go_ret3
  exact ⟨g1, c1, g2, c2, rfl, by omega, by omega, hne, own_cap HO.out, hc2, (Vals.own HO.out).ints, ints_new HG3.out (lt_of_heap HG3.out), fun k => HO.out.frozenAt k, fun k => frozen_of_row w3 _ k _ _ HG3.out, HB4.out⟩

end Go.Proofs.YtpnnlmaipcjkmaaGreat

namespace Go.Proofs.YtpnnlmaipcjkmaaGreat
open Go.RowKit

structure Gr where
  id : Int
  hab : Hab
  first : Int
  start : List Int
  seas : List (Int × Int)

def grv (g : Gr) (A1 : Option Addr) (c1 : Nat) (A2 : Option Addr) (c2 : Nat) : Value :=
  .agg #[.int .i64 g.id, .int .i64 g.hab.lo, .int .i64 g.hab.hi, .int .i64 g.hab.bears, .int .i64 g.hab.ripe, .int .i64 g.hab.dies, .int .i64 g.hab.keep, .int .i64 g.first, .slice A1 g.start.length c1, .slice A2 g.seas.length c2]

structure GrAt (w : World) (B : Nat) (g : Gr) (A1 : Option Addr) (c1 : Nat) (A2 : Option Addr) (c2 : Nat) : Prop where
  st : Ints w B A1 g.start
  se : Vals w B A2 (pairs g.seas)
  cap1 : g.start.length ≤ c1
  cap2 : g.seas.length ≤ c2
  len1 : g.start.length ≤ 9223372036854775807
  len2 : g.seas.length ≤ 9223372036854775807

theorem GrAt.below {w w' : World} {B : Nat} {g : Gr} {A1 A2 : Option Addr} {c1 c2 : Nat} (h : GrAt w B g A1 c1 A2 c2) (hb : Below B w w') : GrAt w' B g A1 c1 A2 c2 := ⟨h.st.below hb, h.se.below hb, h.cap1, h.cap2, h.len1, h.len2⟩
theorem GrAt.mono {w : World} {B B' : Nat} {g : Gr} {A1 A2 : Option Addr} {c1 c2 : Nat} (h : GrAt w B g A1 c1 A2 c2) (hb : B ≤ B') : GrAt w B' g A1 c1 A2 c2 := ⟨h.st.mono hb, h.se.mono hb, h.cap1, h.cap2, h.len1, h.len2⟩

def greatL1 (g : Gr) : Bool := decide (20 < g.start.length) || decide (80 < g.seas.length)

set_option maxHeartbeats 400000 in
theorem refGreat_anyL1 (g : Gr) (A1 : Option Addr) (c1 : Nat) (A2 : Option Addr) (c2 : Nat) (w : World) :
    Calls Tryz.prog 42 #[grv g A1 c1 A2 c2] w fun e w' => e = .returned (.bool (greatL1 g)) ∧ Below w.heap.size w w' := by
  unfold grv
  by_cases h1 : 20 < g.start.length
  · have e : greatL1 g = true := by simp [greatL1, h1]
    rw [e]
    clear e
    go_enter Tryz.func42, Tryz.ntmps42
    go_wp2
    go_ret
    exact ⟨by simp; try omega, (Below.refl _ _).alloc (Nat.le_refl _) _⟩
  · by_cases h2 : 80 < g.seas.length
    · have e : greatL1 g = true := by simp [greatL1, h2]
      rw [e]
      clear e
      go_enter Tryz.func42, Tryz.ntmps42
      go_wp2
      go_ret
      exact ⟨by simp; try omega, (Below.refl _ _).alloc (Nat.le_refl _) _⟩
    · have e : greatL1 g = false := by simp [greatL1]; omega
      rw [e]
      clear e
      go_enter Tryz.func42, Tryz.ntmps42
      go_wp2
      go_ret
      exact ⟨by simp; try omega, (Below.refl _ _).alloc (Nat.le_refl _) _⟩

end Go.Proofs.YtpnnlmaipcjkmaaGreat

namespace Go.Proofs.YtpnnlmaipcjkmaaGreat
open Go.RowKit

def seasOk (r : Nat) : List Int → List (Int × Int) → Bool
  | _, [] => true
  | l, p :: ss => inR p.1 0 30 && inR p.2 0 30 && yearOk r l p.1 p.2 && seasOk r (yearL l p.1 p.2) ss

def runL (l : List Int) (ss : List (Int × Int)) : List Int := ss.foldl (fun l p => yearL l p.1 p.2) l

def okPre (g : Gr) : Bool := inR g.id 0 9999 && okHab g.hab && inR g.first 0 3000 && decide ((g.start.length : Int) = g.hab.dies + 1) && decide (g.seas.length ≤ 60) && decide (g.first + g.seas.length ≤ 3000)
def okStart (g : Gr) : Bool := g.start.all fun x => inR x 0 9
def okGrove (g : Gr) : Bool := okPre g && okStart g && seasOk g.hab.ripe.toNat g.start g.seas

theorem okHab_iff {h : Hab} : okHab h = true ↔ (0 ≤ h.lo ∧ h.lo ≤ 1000) ∧ (h.lo ≤ h.hi ∧ h.hi ≤ 1000) ∧ (1 ≤ h.dies ∧ h.dies ≤ 6) ∧ (0 ≤ h.bears ∧ h.bears ≤ h.dies) ∧ (1 ≤ h.ripe ∧ h.ripe ≤ h.dies) ∧ (0 ≤ h.keep ∧ h.keep ≤ 200) := by
  simp only [okHab, Bool.and_eq_true, inR_iff, and_assoc]

theorem okStart_at {g : Gr} (h : okStart g = true) : Bnd 0 9 g.start := fun k hk => by
  simp only [okStart, List.all_eq_true] at h
  have := h g.start[k] (List.getElem_mem hk)
  rw [inR_iff] at this
  simpa [hk] using this
theorem okStart_not {g : Gr} {k : Nat} (hk : k < g.start.length) (h : inR (g.start[k]?.getD 0) 0 9 = false) : okStart g = false := by
  simp only [okStart, List.all_eq_false]
  exact ⟨g.start[k], List.getElem_mem hk, by simpa [hk] using h⟩
theorem okStart_all {g : Gr} (h : ∀ k, k < g.start.length → inR (g.start[k]?.getD 0) 0 9 = true) : okStart g = true := by
  simp only [okStart, List.all_eq_true]
  intro x hx
  obtain ⟨k, hk, rfl⟩ := List.mem_iff_getElem.1 hx
  simpa [hk] using h k hk

theorem yearL_len (l : List Int) (s n : Int) : (yearL l s n).length = l.length := by unfold yearL; rw [(cutTo_len _ _ _ _).1, nowL_lenL1]
theorem goneL_len (l : List Int) (s n : Int) : (goneL l s n).length = l.length := by unfold goneL; rw [(cutTo_len _ _ _ _).2, nowL_lenL1]
theorem yearL_bnd {M s n : Int} {l : List Int} (h : Bnd 0 M l) (hl : 1 ≤ l.length) (hs : 0 ≤ s) (hM : s ≤ M) (hn : 0 ≤ n) (hn2 : n ≤ M) : Bnd 0 M (yearL l s n) :=
  (cutTo_bnd (nowL_bnd h hs hM) hn hn2 (l.length - 1) (by rw [nowL_lenL1]; omega) l.length (by omega)).1

theorem seasOk_step {r : Nat} {l : List Int} {ss : List (Int × Int)} {i : Nat} (hi : i < ss.length) :
    seasOk r l (ss.drop i) = (inR (ss[i]?.getD (0, 0)).1 0 30 && inR (ss[i]?.getD (0, 0)).2 0 30 && yearOk r l (ss[i]?.getD (0, 0)).1 (ss[i]?.getD (0, 0)).2 && seasOk r (yearL l (ss[i]?.getD (0, 0)).1 (ss[i]?.getD (0, 0)).2) (ss.drop (i + 1))) := by
  rw [List.drop_eq_getElem_cons hi]
  simp [seasOk, hi]

end Go.Proofs.YtpnnlmaipcjkmaaGreat

namespace Go.Proofs.YtpnnlmaipcjkmaaGreat
open Go.RowKit

theorem chainPre (g : Gr) : (inR g.id 0 9999 = false) ∨ (inR g.id 0 9999 = true ∧ okHab g.hab = false) ∨ (inR g.id 0 9999 = true ∧ okHab g.hab = true ∧ inR g.first 0 3000 = false) ∨
    (inR g.id 0 9999 = true ∧ okHab g.hab = true ∧ inR g.first 0 3000 = true ∧ (g.start.length : Int) < g.hab.dies + 1) ∨
    (inR g.id 0 9999 = true ∧ okHab g.hab = true ∧ inR g.first 0 3000 = true ∧ g.hab.dies + 1 < (g.start.length : Int)) ∨
    (inR g.id 0 9999 = true ∧ okHab g.hab = true ∧ inR g.first 0 3000 = true ∧ (g.start.length : Int) ≤ g.hab.dies + 1 ∧ g.hab.dies + 1 ≤ (g.start.length : Int) ∧ 60 < g.seas.length) ∨
    (inR g.id 0 9999 = true ∧ okHab g.hab = true ∧ inR g.first 0 3000 = true ∧ (g.start.length : Int) ≤ g.hab.dies + 1 ∧ g.hab.dies + 1 ≤ (g.start.length : Int) ∧ g.seas.length ≤ 60 ∧ 3000 < g.first + g.seas.length) ∨
    (inR g.id 0 9999 = true ∧ okHab g.hab = true ∧ inR g.first 0 3000 = true ∧ (g.start.length : Int) ≤ g.hab.dies + 1 ∧ g.hab.dies + 1 ≤ (g.start.length : Int) ∧ g.seas.length ≤ 60 ∧ g.first + g.seas.length ≤ 3000) := by
  cases inR g.id 0 9999 <;> cases okHab g.hab <;> cases inR g.first 0 3000 <;> simp
  omega

set_option maxHeartbeats 4000000 in
theorem refGrove_pre (g : Gr) (A1 : Option Addr) (c1 : Nat) (A2 : Option Addr) (c2 : Nat) (B : Nat) (w : World) (hG : GrAt w B g A1 c1 A2 c2) (hp : okPre g = false) :
    Calls Tryz.prog 112 #[grv g A1 c1 A2 c2] w fun e w' => e = .returned (.bool false) ∧ Below w.heap.size w w' := by
  have hl1 := hG.len1
  have hl2 := hG.len2
  clear hG
  have Hp := Lib.hid hp
  clear hp
  unfold grv
  rcases chainPre g with h1 | ⟨h1, h2⟩ | ⟨h1, h2, h3⟩ | ⟨h1, h2, h3, h4⟩ | ⟨h1, h2, h3, h4⟩ | ⟨h1, h2, h3, h4, h4', h5⟩ | ⟨h1, h2, h3, h4, h4', h5, h6⟩ | ⟨h1, h2, h3, h4, h4', h5, h6⟩
  case inr.inr.inr.inr.inr.inr.inr =>
    exfalso
    have := Hp.out
    simp [okPre, h1, h2, h3] at this
    omega
  all_goals
    try have k2 := (okHab_iff.1 h2).2.2.1
    try have k3 := inR_iff.1 h3
    go_enter Tryz.func112, Tryz.ntmps112
    go_wp2_with (first
      | (go_at_call 147; refine (refWithin_anyL1 _ _ _ _).mono ?_; rintro e w' ⟨rfl, rfl⟩)
      | (go_at_call 148; refine (refHabit_any g.hab _).mono ?_; rintro e w' ⟨rfl, hB⟩
         have cB := fun i => (hB.cell (p := ⟨w.heap.size, i, none⟩) (by simp)).trans (cell_of_row _ w.heap.size i _ _ _ (alloc_at0 w _))
         have HB := Lib.hid hB
         clear hB))
    go_ret
    first
      | exact ⟨rfl, (Below.refl _ _).alloc (Nat.le_refl _) _⟩
      | exact ⟨rfl, ((Below.refl _ _).alloc (Nat.le_refl _) _).trans (HB.out.mono (by simp))⟩

end Go.Proofs.YtpnnlmaipcjkmaaGreat

namespace Go.Proofs.YtpnnlmaipcjkmaaGreat
open Go.RowKit

structure Pre (g : Gr) (d r : Nat) : Prop where
  hd : g.hab.dies = d
  hr : g.hab.ripe = r
  d1 : 1 ≤ d
  d6 : d ≤ 6
  r1 : 1 ≤ r
  rd : r ≤ d
  ls : g.start.length = d + 1
  l60 : g.seas.length ≤ 60
  f0 : 0 ≤ g.first
  f1 : g.first ≤ 3000
  fl : g.first + g.seas.length ≤ 3000

theorem okPre_pre {g : Gr} (h : okPre g = true) : ∃ d r, Pre g d r := by
  simp only [okPre, Bool.and_eq_true, decide_eq_true_eq, inR_iff, okHab_iff] at h
  obtain ⟨⟨⟨⟨⟨h1, h2⟩, h3⟩, h4⟩, h5⟩, h6⟩ := h
  exact ⟨g.hab.dies.toNat, g.hab.ripe.toNat, by omega, by omega, by omega, by omega, by omega, by omega, by omega, by omega, by omega, by omega, by omega⟩

theorem runL_succ (l : List Int) (ss : List (Int × Int)) (i : Nat) (hi : i < ss.length) : runL l (ss.take (i + 1)) = yearL (runL l (ss.take i)) (ss[i]?.getD (0, 0)).1 (ss[i]?.getD (0, 0)).2 := by
  unfold runL
  rw [List.take_add_one, List.foldl_append]
  simp [hi]

set_option maxHeartbeats 4000000 in
theorem refGrove_start (g : Gr) (A1 : Option Addr) (c1 : Nat) (A2 : Option Addr) (c2 : Nat) (B : Nat) (w : World) (hB : B ≤ w.heap.size) (hG : GrAt w B g A1 c1 A2 c2) (hp : okPre g = true) :
    Calls Tryz.prog 112 #[grv g A1 c1 A2 c2] w fun e w' => e = .returned (.bool (okStart g && seasOk g.hab.ripe.toNat g.start g.seas)) ∧ Below w.heap.size w w' := by
  obtain ⟨d, r, P⟩ := okPre_pre hp
  obtain ⟨hd, hr, d1, d6, r1, rd, ls, l60, f0, f1, fl⟩ := P
  have h0 : inR g.id 0 9999 = true ∧ okHab g.hab = true ∧ inR g.first 0 3000 = true := by
    simp only [okPre, Bool.and_eq_true] at hp; exact ⟨hp.1.1.1.1.1, hp.1.1.1.1.2, hp.1.1.1.2⟩
  obtain ⟨hi1, hi2, hi3⟩ := h0
  have h4 : (g.start.length : Int) ≤ g.hab.dies + 1 := by omega
  have h4' : g.hab.dies + 1 ≤ (g.start.length : Int) := by omega
  have k2 : 1 ≤ g.hab.dies ∧ g.hab.dies ≤ 6 := by omega
  have hG' := Lib.hid hG
  have Hd := Lib.hid hd
  have Hr := Lib.hid hr
  have Hls := Lib.hid ls
  have Hp := Lib.hid hp
  clear hG hd hr ls hp
  unfold grv
  go_enter Tryz.func112, Tryz.ntmps112
  go_wp2_with (first
      | (go_at_call 147; refine (refWithin_anyL1 _ _ _ _).mono ?_; rintro e w' ⟨rfl, rfl⟩)
      | (go_at_call 148; refine (refHabit_any g.hab _).mono ?_; rintro e w' ⟨rfl, hB⟩
         have cB := fun i => (hB.cell (p := ⟨w.heap.size, i, none⟩) (by simp)).trans (cell_of_row _ w.heap.size i _ _ _ (alloc_at0 w _))
         have HB := Lib.hid hB
         clear hB))
  have HCB := Lib.hid cB
  have hBw := Lib.hid (((Below.refl _ _).alloc (Nat.le_refl w.heap.size) _).trans (HB.out.mono (by simp)))
  have hsz : w.heap.size < w'.heap.size := by have := HB.out.size; simp at this; omega
  go_loop [3] (fun i => ∃ k : Nat, k ≤ g.start.length ∧ i = .int .i64 k ∧ Hid (∀ j, j < k → inR (g.start[j]?.getD 0) 0 9 = true)) (fun i => g.start.length - (intOf i).toNat)
  case atStart => exact ⟨0, Nat.zero_le _, rfl, fun j hj => absurd hj (by omega)⟩
  case round =>
    obtain ⟨k, hk, rfl, hall⟩ := hrel
    by_cases hlt : k < g.start.length
    · obtain ⟨b, off, hA, hbB, hc⟩ := hG'.out.st (by omega)
      subst hA
      have hcell : w'.cell? ⟨b, off + k, none⟩ = _ := (hBw.out.cell (p := ⟨b, off + k, none⟩) (by simp; omega)).trans (hc k hlt)
      clear hc
      have hno := fun h => okStart_not (g := g) hlt h
      generalize hx : g.start[k]?.getD 0 = x at hcell hno
      have Hx := Lib.hid hx
      have Hno := Lib.hid hno
      clear hx hno
      rcases Bool.eq_false_or_eq_true (inR x 0 9) with hin | hin
      · go_wp2_with (go_at_call 147; refine (refWithin_anyL1 _ _ _ _).mono ?_; rintro e w' ⟨rfl, rfl⟩)
        go_round
        case rel => exact ⟨k + 1, by omega, by go_num, fun j hj => by
          rcases Nat.lt_or_ge j k with h | h
          · exact hall.out j h
          · obtain rfl : j = k := by omega
            rw [Hx.out]; exact hin⟩
        case measure => simp [intOf] <;> omega
      · go_wp2_with (go_at_call 147; refine (refWithin_anyL1 _ _ _ _).mono ?_; rintro e w' ⟨rfl, rfl⟩)
        go_ret
        exact ⟨by rw [Hno.out hin]; rfl, hBw.out⟩
    · obtain rfl : k = g.start.length := by omega
      have HS := Lib.hid (okStart_all hall.out)
      clear hall hlt hk
      go_wp2
      go_loopw [4, 5] (fun v i wr => ∃ (k : Nat) (A : Option Addr) (c : Nat), k ≤ g.seas.length ∧ i = .int .i64 k ∧ v = .slice A g.start.length c ∧ Hid (g.start.length ≤ c) ∧ Hid (Ints wr wr.heap.size A (runL g.start (g.seas.take k))) ∧
          Hid ((runL g.start (g.seas.take k)).length = g.start.length) ∧ Hid (Bnd 0 30 (runL g.start (g.seas.take k))) ∧
          Hid (seasOk r g.start g.seas = seasOk r (runL g.start (g.seas.take k)) (g.seas.drop k)) ∧ Hid (Below w'.heap.size w' wr))
        (fun _ i _ => g.seas.length - (intOf i).toNat)
      case atStart => exact ⟨0, A1, c1, Nat.zero_le _, rfl, rfl, hG'.out.cap1, (hG'.out.st.below (hBw.out.mono hB)).mono (by omega), rfl, fun j hj => by
          have h := okStart_at HS.out j (by simpa [runL] using hj)
          simp only [runL, List.take_zero, List.foldl_nil]
          omega, rfl, Below.refl _ _⟩
      case round =>
        obtain ⟨k, A, c, hk, rfl, rfl, hcap, hI, hL, hBd, hS, hBr⟩ := hrel
        have cBr := fun i => (hBr.out.cell (p := ⟨w.heap.size, i, none⟩) hsz).trans (HCB.out i)
        have hszr : w.heap.size < wr.heap.size := by have := hBr.out.size; omega
        by_cases hlt : k < g.seas.length
        · obtain ⟨b, off, hA, hbB, hc⟩ := hG'.out.se (by rw [pairs_len]; omega)
          subst hA
          have hbw : b < wr.heap.size := by omega
          have hpa := pairs_at g.seas k hlt
          have hc0 : wr.cell? ⟨b, off + k * 2, none⟩ = _ := (hBr.out.cell (p := ⟨b, off + k * 2, none⟩) (by simp; omega)).trans ((hBw.out.cell (p := ⟨b, off + k * 2, none⟩) (by simp; omega)).trans (hc _ _ hpa.1))
          have hc1 : wr.cell? ⟨b, off + k * 2 + 1, none⟩ = _ := (hBr.out.cell (p := ⟨b, off + k * 2 + 1, none⟩) (by simp; omega)).trans ((hBw.out.cell (p := ⟨b, off + k * 2 + 1, none⟩) (by simp; omega)).trans (hc _ _ hpa.2))
          have hstep := seasOk_step (r := r) (l := runL g.start (g.seas.take k)) hlt
          have hsucc := runL_succ g.start g.seas k hlt
          generalize (g.seas[k]?.getD (0, 0)).1 = s at hc0 hstep hsucc
          generalize (g.seas[k]?.getD (0, 0)).2 = n at hc1 hstep hsucc
          generalize hrl : runL g.start (g.seas.take k) = l at hI hL hBd hS hstep hsucc
          have Hst := Lib.hid hstep
          have Hsu := Lib.hid hsucc
          clear hstep hsucc hrl hc hpa
          have hfalse : (inR s 0 30 = false ∨ inR n 0 30 = false ∨ yearOk r l s n = false) → (okStart g && seasOk g.hab.ripe.toNat g.start g.seas) = false := by
            intro h
            rw [HS.out, Hr.out, Int.toNat_natCast, hS.out, Hst.out]
            rcases h with h | h | h <;> simp [h]
          have HF := Lib.hid hfalse
          have hba := Lib.hid (hBw.out.trans (hBr.out.mono (by omega)))
          clear hfalse
          rcases Bool.eq_false_or_eq_true (inR s 0 30) with hs | hs
          · rcases Bool.eq_false_or_eq_true (inR n 0 30) with hn | hn
            · have ks := inR_iff.1 hs
              have kn := inR_iff.1 hn
              have Hs := Lib.hid hs
              have Hn := Lib.hid hn
              have hIa := (hI.out.below ((Below.refl wr.heap.size wr).alloc (Nat.le_refl _) (.cells #[.int .i64 s, .int .i64 n] 130)))
              rcases Bool.eq_false_or_eq_true (yearOk r l s n) with hy | hy
              · have H := refYear_yes g.hab r Hr.out A c l wr.heap.size (wr.alloc (.cells #[.int .i64 s, .int .i64 n] 130)) (by simp) hIa (by have := Hls.out; rw [hL.out]; omega) (by have := Hls.out; rw [hL.out]; omega) 30 (by omega) hBd.out s n ks.1 ks.2 kn.1 kn.2 hy
                rw [hL.out] at H
                have HY := Lib.hid H
                have Hy := Lib.hid hy
                clear H hIa hy
                go_wp2_with (first
                  | (go_at_call 147; refine (refWithin_anyL1 _ _ _ _).mono ?_; rintro e w' ⟨rfl, rfl⟩)
                  | (go_at_call 149; refine HY.out.mono ?_; rintro e w3 ⟨p1, q1, p2, q2, rfl, hp1, hp2, hne, hq1, hq2, hI1, hI2, hf1, hf2, hB3⟩
                     rw [yearL_len, goneL_len, hL.out]
                     have HI1 := Lib.hid hI1
                     have HB3 := Lib.hid hB3
                     have HQ1 := Lib.hid hq1
                     clear hI1 hI2 hf1 hf2 hB3 hq1 hq2))
                go_roundw
                case rel => exact ⟨k + 1, some ⟨p1, 0, none⟩, q1, by omega, by go_num, rfl, by have h := HQ1.out; rw [yearL_len, hL.out] at h; exact h, by rw [Hsu.out]; exact HI1.out, by rw [Hsu.out]; exact (yearL_len _ _ _).trans hL.out,
                  by rw [Hsu.out]; exact yearL_bnd hBd.out (by have := Hls.out; rw [hL.out]; omega) ks.1 ks.2 kn.1 kn.2,
                  by rw [hS.out, Hst.out, Hs.out, Hn.out, Hy.out, Hsu.out]; rfl,
                  hBr.out.trans (((Below.refl _ _).alloc (Nat.le_refl _) _).trans (HB3.out.mono (by simp)) |>.mono hBr.out.size)⟩
                case measure => simp [intOf] <;> omega
              · have H := refYear_no g.hab r Hr.out A c l wr.heap.size (wr.alloc (.cells #[.int .i64 s, .int .i64 n] 130)) (by simp) hIa (by have := Hls.out; rw [hL.out]; omega) (by have := Hls.out; rw [hL.out]; omega) 30 (by omega) hBd.out s n ks.1 ks.2 hy
                rw [hL.out] at H
                have HY := Lib.hid H
                have Hy := Lib.hid hy
                clear H hIa hy
                go_wp2_with (first
                  | (go_at_call 147; refine (refWithin_anyL1 _ _ _ _).mono ?_; rintro e w' ⟨rfl, rfl⟩)
                  | (go_at_call 149; refine HY.out.mono ?_; rintro e w3 ⟨rfl, hB3⟩
                     have HB3 := Lib.hid hB3
                     clear hB3))
                go_ret
                exact ⟨by rw [HF.out (Or.inr (Or.inr Hy.out))]; rfl, hba.out.trans (((Below.refl _ _).alloc (Nat.le_refl _) _).trans (HB3.out.mono (by simp)) |>.mono (by omega))⟩
            · go_wp2_with (go_at_call 147; refine (refWithin_anyL1 _ _ _ _).mono ?_; rintro e w' ⟨rfl, rfl⟩)
              go_ret
              exact ⟨by rw [HF.out (Or.inr (Or.inl hn))]; rfl, hba.out.alloc (by omega) _⟩
          · go_wp2_with (go_at_call 147; refine (refWithin_anyL1 _ _ _ _).mono ?_; rintro e w' ⟨rfl, rfl⟩)
            go_ret
            exact ⟨by rw [HF.out (Or.inl hs)]; rfl, hba.out.alloc (by omega) _⟩
        · obtain rfl : k = g.seas.length := by omega
          have hfin : (okStart g && seasOk g.hab.ripe.toNat g.start g.seas) = true := by
            rw [HS.out, Hr.out, Int.toNat_natCast, hS.out]
            simp [seasOk]
          have HF := Lib.hid hfin
          have hba := Lib.hid (hBw.out.trans (hBr.out.mono (by omega)))
          clear hfin
          go_wp2
          go_ret
          exact ⟨by rw [HF.out]; rfl, hba.out⟩

end Go.Proofs.YtpnnlmaipcjkmaaGreat

namespace Go.Proofs.YtpnnlmaipcjkmaaGreat
open Go.RowKit

theorem refGrove_any (g : Gr) (A1 : Option Addr) (c1 : Nat) (A2 : Option Addr) (c2 : Nat) (B : Nat) (w : World) (hB : B ≤ w.heap.size) (hG : GrAt w B g A1 c1 A2 c2) :
    Calls Tryz.prog 112 #[grv g A1 c1 A2 c2] w fun e w' => e = .returned (.bool (okGrove g)) ∧ Below w.heap.size w w' := by
  rcases Bool.eq_false_or_eq_true (okPre g) with hp | hp
  · have e : okGrove g = (okStart g && seasOk g.hab.ripe.toNat g.start g.seas) := by simp [okGrove, hp]
    rw [e]
    exact refGrove_start g A1 c1 A2 c2 B w hB hG hp
  · have e : okGrove g = false := by simp [okGrove, hp]
    rw [e]
    exact refGrove_pre g A1 c1 A2 c2 B w hG hp

def errG (g : Gr) : Int := if okGrove g = true then 0 else 10

set_option maxHeartbeats 1000000 in
theorem refCheck_anyL1 (g : Gr) (A1 : Option Addr) (c1 : Nat) (A2 : Option Addr) (c2 : Nat) (B : Nat) (w : World) (hB : B ≤ w.heap.size) (hG : GrAt w B g A1 c1 A2 c2) :
    Calls Tryz.prog 63 #[grv g A1 c1 A2 c2] w fun e w' => e = .returned (.int .i64 (errG g)) ∧ Below w.heap.size w w' := by
  have H := refGrove_any g A1 c1 A2 c2 B (w.alloc (.cells #[.int .i64 g.id, .int .i64 g.hab.lo, .int .i64 g.hab.hi, .int .i64 g.hab.bears, .int .i64 g.hab.ripe, .int .i64 g.hab.dies, .int .i64 g.hab.keep, .int .i64 g.first, .slice A1 g.start.length c1, .slice A2 g.seas.length c2] 74))
    (by simp; omega) (hG.below ((Below.refl _ _).alloc hB _))
  have HH := Lib.hid H
  clear H hG
  unfold errG
  rcases Bool.eq_false_or_eq_true (okGrove g) with hp | hp
  all_goals
    rw [hp] at HH ⊢
    rw [show grv g A1 c1 A2 c2 = .agg #[.int .i64 g.id, .int .i64 g.hab.lo, .int .i64 g.hab.hi, .int .i64 g.hab.bears, .int .i64 g.hab.ripe, .int .i64 g.hab.dies, .int .i64 g.hab.keep, .int .i64 g.first, .slice A1 g.start.length c1, .slice A2 g.seas.length c2] from rfl]
    clear hp
    go_enter Tryz.func63, Tryz.ntmps63
    go_wp2_with (go_at_call 112; refine HH.out.mono ?_; rintro e w1 ⟨rfl, hB1⟩; have HB := Lib.hid hB1; clear hB1)
    go_ret
    exact ⟨rfl, ((Below.refl _ _).alloc (Nat.le_refl _) _).trans (HB.out.mono (by simp))⟩

def hasY (g : Gr) (y : Int) : Bool := inR y g.first (g.first + g.seas.length)

def goneAt (g : Gr) : Nat → List Int
  | 0 => List.replicate g.start.length 0
  | m + 1 => goneL (runL g.start (g.seas.take m)) (g.seas[m]?.getD (0, 0)).1 (g.seas[m]?.getD (0, 0)).2

theorem seasOk_all {r : Nat} : ∀ {ss : List (Int × Int)} {l : List Int}, seasOk r l ss = true → ∀ k, k < ss.length →
    inR (ss[k]?.getD (0, 0)).1 0 30 = true ∧ inR (ss[k]?.getD (0, 0)).2 0 30 = true ∧ yearOk r (runL l (ss.take k)) (ss[k]?.getD (0, 0)).1 (ss[k]?.getD (0, 0)).2 = true := by
  intro ss
  induction ss with
  | nil => intro l _ k hk; simp at hk
  | cons p ss ih =>
    intro l h k hk
    simp only [seasOk, Bool.and_eq_true] at h
    cases k with
    | zero => simpa [runL] using ⟨h.1.1.1, h.1.1.2, h.1.2⟩
    | succ k =>
      have := ih h.2 k (by simpa using hk)
      simpa [runL] using this

structure Runs (g : Gr) (d r : Nat) : Prop where
  pre : Pre g d r
  b9 : Bnd 0 9 g.start
  yr : ∀ k, k < g.seas.length → (0 ≤ (g.seas[k]?.getD (0, 0)).1 ∧ (g.seas[k]?.getD (0, 0)).1 ≤ 30) ∧ (0 ≤ (g.seas[k]?.getD (0, 0)).2 ∧ (g.seas[k]?.getD (0, 0)).2 ≤ 30) ∧
    yearOk r (runL g.start (g.seas.take k)) (g.seas[k]?.getD (0, 0)).1 (g.seas[k]?.getD (0, 0)).2 = true

theorem okGrove_runs {g : Gr} (h : okGrove g = true) : ∃ d r, Runs g d r := by
  simp only [okGrove, Bool.and_eq_true] at h
  obtain ⟨d, r, P⟩ := okPre_pre h.1.1
  refine ⟨d, r, P, okStart_at h.1.2, fun k hk => ?_⟩
  have := seasOk_all h.2 k hk
  rw [P.hr, Int.toNat_natCast] at this
  exact ⟨inR_iff.1 this.1, inR_iff.1 this.2.1, this.2.2⟩

theorem runL_len (l : List Int) (ss : List (Int × Int)) : (runL l ss).length = l.length := by
  induction ss generalizing l with
  | nil => rfl
  | cons p ss ih => simp only [runL, List.foldl_cons] at ih ⊢; rw [ih, yearL_len]

theorem Runs.bnd {g : Gr} {d r : Nat} (R : Runs g d r) : ∀ k, k ≤ g.seas.length → Bnd 0 30 (runL g.start (g.seas.take k)) := by
  intro k
  induction k with
  | zero => intro _ j hj; have := R.b9 j (by simpa [runL] using hj); simp only [runL, List.take_zero, List.foldl_nil]; omega
  | succ k ih =>
    intro hk
    have h1 := ih (by omega)
    have h2 := R.yr k (by omega)
    rw [runL_succ _ _ _ (by omega)]
    exact yearL_bnd h1 (by rw [runL_len, R.pre.ls]; omega) h2.1.1 h2.1.2 h2.2.1.1 h2.2.1.2

end Go.Proofs.YtpnnlmaipcjkmaaGreat

namespace Go.Proofs.YtpnnlmaipcjkmaaGreat
open Go.RowKit

def standErr (g : Gr) (y : Int) : Int := if okGrove g = true then (if hasY g y = true then 0 else 6) else 10
def standVal (g : Gr) (y : Int) : List Int := if okGrove g = true ∧ hasY g y = true then runL g.start (g.seas.take (y - g.first).toNat) else []

end Go.Proofs.YtpnnlmaipcjkmaaGreat

namespace Go.Proofs.YtpnnlmaipcjkmaaGreat
open Go.RowKit

def takesTo (y : Int) (gone : List Int) : Nat → List (Int × Int)
  | 0 => []
  | k + 1 => takesTo y gone k ++ (if 0 < gone[gone.length - 1 - k]?.getD 0 then [(y - ((gone.length - 1 - k : Nat) : Int), gone[gone.length - 1 - k]?.getD 0)] else [])
theorem takesTo_len (y : Int) (gone : List Int) (k : Nat) : (takesTo y gone k).length ≤ k := by
  induction k with
  | zero => simp [takesTo]
  | succ k ih =>
    simp only [takesTo, List.length_append]
    split <;> simp <;> omega
def takenVal (g : Gr) (y : Int) : List (Int × Int) := if okGrove g = true ∧ hasY g y = true then takesTo y (goneAt g (y - g.first).toNat) g.start.length else []

def TakePost (w : World) (ts : List (Int × Int)) (er : Int) (e : Ending) (w' : World) : Prop :=
  ∃ A c, e = .returned (.tuple #[.slice A ts.length c, .int .i64 er]) ∧ Vals w' w'.heap.size A (pairs ts) ∧ Below w.heap.size w w'
theorem TakePost.nil {w w' : World} {er : Int} (h : Below w.heap.size w w') : TakePost w [] er (.returned (.tuple #[.slice none 0 0, .int .i64 er])) w' :=
  ⟨none, 0, rfl, fun h => by simp [pairs] at h, h⟩

theorem Tryz.info101 : (Tryz.prog.info? 101).map (fun i => (i.zero, i.size, i.bytes)) = some (some (.agg #[.int .i64 0, .int .i64 0]), 2, 16) := by kernel_rfl

theorem goneAt_len {g : Gr} (m : Nat) : (goneAt g m).length = g.start.length := by
  cases m with
  | zero => simp [goneAt]
  | succ m => simp only [goneAt]; rw [goneL_len, runL_len]
theorem goneAt_bnd {g : Gr} {d r : Nat} (R : Runs g d r) (m : Nat) (hm : m ≤ g.seas.length) : Bnd 0 30 (goneAt g m) := by
  cases m with
  | zero => exact Bnd.replicate _ (by omega) (by omega)
  | succ m =>
    have h2 := R.yr m (by omega)
    simp only [goneAt]
    exact (cutTo_bnd (nowL_bnd (R.bnd m (by omega)) h2.1.1 h2.1.2) h2.2.1.1 h2.2.1.2 _ (by rw [nowL_lenL1, runL_len, R.pre.ls]; omega) _ (by omega)).2.1

end Go.Proofs.YtpnnlmaipcjkmaaGreat
