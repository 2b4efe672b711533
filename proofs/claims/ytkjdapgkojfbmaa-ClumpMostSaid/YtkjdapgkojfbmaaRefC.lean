/-
  The reference's cut, and its year.
-/
import Derived.Test.YtkjdapgkojfbmaaRefB
import Derived.Test.YtkjdapgkojfbmaaBasics3
import Derived.Deep.RegionLaw
import Derived.Deep.DeepCutAuto
namespace Go.Proofs.Ytkjdapgkojfbmaa
open Go.RowKit

/-- What a cut hands back: two new slices. -/
def NewTwo (w : World) (xs ys : List Int) (e : Ending) (w' : World) : Prop :=
  ∃ g1 c1 g2 c2, e = .returned (.tuple #[.slice (some ⟨g1, 0, none⟩) xs.length c1, .slice (some ⟨g2, 0, none⟩) ys.length c2]) ∧ w.heap.size ≤ g1 ∧ w.heap.size ≤ g2 ∧ g1 ≠ g2 ∧ ys.length ≤ c2 ∧
    w'.ownsRow w.heap.size 3 1 (.slice (some ⟨g1, 0, none⟩) xs.length c1) xs.length (ints xs) ∧ w'.heap[g2]? = some (.cells (ints ys).toArray 3 (0, 0)) ∧ Below w.heap.size w w'

/-- A store into a new row, and one into an owned one. -/
theorem own_set2 {w : World} {base g1 g2 i j n cap : Nat} {xs ys : List Int} (h : w.ownsRow base 3 1 (.slice (some ⟨g1, 0, none⟩) n cap) n (ints xs)) (hG : w.heap[g2]? = some (.cells (ints ys).toArray 3 (0, 0))) (hne : g1 ≠ g2) (u v : Int) :
    ((w.setCell ⟨g2, j, none⟩ (.int .i64 u)).setCell ⟨g1, i, none⟩ (.int .i64 v)).ownsRow base 3 1 (.slice (some ⟨g1, 0, none⟩) n cap) n (ints (xs.set i v)) ∧
    ((w.setCell ⟨g2, j, none⟩ (.int .i64 u)).setCell ⟨g1, i, none⟩ (.int .i64 v)).heap[g2]? = some (.cells (ints (ys.set j u)).toArray 3 (0, 0)) := by
  refine ⟨?_, ?_⟩
  · have h2 := (own_far h (p := ⟨g2, j, none⟩) hne (.int .i64 u)).stored i (.int .i64 v)
    rw [show ints (xs.set i v) = (ints xs).set i (.int .i64 v) from by simp [ints, List.map_set]]
    exact h2.1
  · refine (heap_setCell_other _ _ _ _ hne.symm).trans ?_
    rw [heap_setCell_same w g2 j _ _ _ hG, ints_set]

set_option maxHeartbeats 2000000 in
theorem refCut_any (A : Option Addr) (cap : Nat) (zs : List Int) (B : Nat) (w : World) (hB : B ≤ w.heap.size) (h : Ints w B A zs) (hl1 : 1 ≤ zs.length) (hl : zs.length ≤ 1000) (M : Int) (hM : M ≤ 1000000) (hb : Bnd 0 M zs) (n : Int) (hn : 0 ≤ n) (hn2 : n ≤ M) :
    Calls Try.prog 57 #[.slice A zs.length cap, .int .i64 n] w (NewTwo w (cutTo zs n (zs.length - 1) zs.length).1 (cutTo zs n (zs.length - 1) zs.length).2.1) := by
  obtain ⟨i0, hi, hz0, hz1, hz2⟩ := info_parts Try.info3
  have hmk := fun W => run_make_ints (P := Try.prog) 26 3 i0 Try.underlying26 hi hz0 hz1 hz2 zs.length (by omega) W
  have hv := (h.vals).mono hB
  have h1 := oneCells_ints zs
  have Hb := Lib.hid hb
  have HV := Lib.hid hv
  have HI := Lib.hid hi
  have HZ := Lib.hid (And.intro hz0 (And.intro hz1 hz2))
  clear h hi hz0 hz1 hz2 hb hv
  go_enter Try.func57, Try.ntmps57
  go_upto_region 1 with fail
  go_cut [6, 7] (fun s6 s7 wx => ∃ g1 c1 g2, s6 = .slice (some ⟨g1, 0, none⟩) zs.length c1 ∧ s7 = .slice (some ⟨g2, 0, none⟩) zs.length zs.length ∧ w.heap.size ≤ g1 ∧ w.heap.size ≤ g2 ∧ g1 ≠ g2 ∧
    wx.ownsRow w.heap.size 3 1 (.slice (some ⟨g1, 0, none⟩) zs.length c1) zs.length (ints zs) ∧ wx.heap[g2]? = some (.cells (ints (List.replicate zs.length 0)).toArray 3 (0, 0)) ∧ Below w.heap.size w wx)
  case first =>
    go_region_law
      ((refine step_clone (by rfl) (.tmp 9) (.tmp 10) _ (by rfl) w.heap.size 3 i0 _ 1 8 Try.underlying26 HI.out HZ.out.1 HZ.out.2.1 HZ.out.2.2 rfl (by omega) _ (by rfl)
          (by first | exact alloc_at0 _ _ | exact alloc2_at0 _ _ _ | exact alloc2_at1 _ _ _) (by simp)
          w.heap.size A zs.length cap (ints zs) (by rfl)
          (HV.out.below (by first | exact (((Below.refl _ w).alloc (Nat.le_refl _) _).alloc (by simp) _).drew | exact ((Below.refl _ w).alloc (Nat.le_refl _) _).drew)) (by simp [ints]) h1 (by simp only [maxLen]; omega) (by omega) ?_
        intro g1 c1 w1 hown hgrow hat hg1 hg1s))
    all_goals
      go_wp2_with fail
      go_meet
      simp only [World.size_alloc, World.drew] at hat
      first
        | exact ⟨g1, c1, w1.heap.size, rfl, rfl, hg1, by have := hgrow.size; simp [World.drew] at this; omega, by omega, hown.alloc _, alloc_at0 _ _,
            (Below.ofGrown ((Below.refl _ w).alloc (Nat.le_refl _) _).drew hgrow (by simp [World.drew]) (by omega)).alloc (by have := hgrow.size; simp [World.drew] at this; omega) _⟩
        | exact ⟨g1, c1, w.heap.size + 1, rfl, rfl, hg1, by omega, by omega, hown, (hgrow.block _ (by simp [World.drew]) (by simp)).trans (alloc2_at1 _ _ _),
            Below.ofGrown (((Below.refl _ w).alloc (Nat.le_refl _) _).alloc (by simp) _).drew hgrow (by simp [World.drew]; omega) (by omega)⟩
        | exact ⟨g1, c1, w.heap.size, rfl, rfl, hg1, by omega, by omega, hown, (hgrow.block _ (by simp [World.drew]; omega) (by simp)).trans (alloc2_at0 _ _ _),
            Below.ofGrown (((Below.refl _ w).alloc (Nat.le_refl _) _).alloc (by simp) _).drew hgrow (by simp [World.drew]; omega) (by omega)⟩
  case rest =>
    obtain ⟨g1, c1, g2, rfl, rfl, hg1, hg2, hne, hown, hG, hBel⟩ := hcut
    have HO := Lib.hid hown
    have HG := Lib.hid hG
    have HB := Lib.hid hBel
    clear hown hG hBel hmk h1
    go_wp2
    go_loopw [1, 8] (fun m i wr => ∃ k : Nat, k ≤ zs.length ∧ i = .int .i64 ((zs.length : Int) - 1 - k) ∧ m = .int .i64 (cutTo zs n (zs.length - 1) k).2.2 ∧
        wr.ownsRow w.heap.size 3 1 (.slice (some ⟨g1, 0, none⟩) zs.length c1) zs.length (ints (cutTo zs n (zs.length - 1) k).1) ∧
        wr.heap[g2]? = some (.cells (ints (cutTo zs n (zs.length - 1) k).2.1).toArray 3 (0, 0)) ∧ Below w.heap.size w wr)
      (fun _ i _ => (intOf i + 1).toNat)
    case atStart => exact ⟨0, Nat.zero_le _, by simp, rfl, HO.out, HG.out, HB.out⟩
    case round =>
      obtain ⟨k, hk, rfl, rfl, hO, hG, hBel⟩ := hrel
      by_cases hlt : k < zs.length
      · obtain ⟨a, ha⟩ : ∃ a : Nat, a = zs.length - 1 - k := ⟨_, rfl⟩
        have e1 : ((zs.length : Int) - 1 - k) = (a : Int) := by omega
        have hlen := cutTo_len zs n (zs.length - 1) k
        have hbk := cutTo_bnd Hb.out hn hn2 (zs.length - 1) (by omega) k (by omega)
        have hx := hbk.1 a (by omega)
        have hm := hbk.2.2
        have hstep := fun t u v => @cutTo_succ zs n (zs.length - 1) k a ha _ _ rfl rfl t u v
        have cx : wr.cell? ⟨g1, a, none⟩ = _ := (hO.cellAt a (by omega)).trans (ints_atL _ a (by omega))
        have cg : wr.cell? ⟨g2, a, none⟩ = _ := (cell_of_row wr _ _ _ _ _ hG).trans (ints_at _ a (by omega))
        have fx := hO.frozenAt a
        have fg := frozen_of_row wr _ a _ _ hG
        generalize hmm : (cutTo zs n (zs.length - 1) k).2.2 = m at hm hstep ⊢
        generalize (cutTo zs n (zs.length - 1) k).1[a]?.getD 0 = x at cx hx hstep
        generalize (cutTo zs n (zs.length - 1) k).2.1[a]?.getD 0 = y at cg
        rw [e1]
        have Hs := Lib.hid hstep
        have HO := Lib.hid hO
        have HG := Lib.hid hG
        have HBel := Lib.hid hBel
        have hak : (a : Int) - 1 = (zs.length : Int) - 1 - ((k + 1 : Nat) : Int) := by omega
        have Hak := Lib.hid hak
        have hal : (a : Int) < zs.length := by omega
        clear hstep hO hG hBel e1 hbk hlen ha hmm hak
        have hne' := hne.symm
        rcases Int.lt_or_le x m with hmx | hmx
        · have hs := own_set2 (i := a) (j := a) HO.out HG.out hne x 0
          have hBel2 := (HBel.out.setCell (p := ⟨g2, a, none⟩) hg2 (.int .i64 x)).setCell (p := ⟨g1, a, none⟩) hg1 (.int .i64 0)
          have e2 := Hs.out x 0 (m - x) (by omega) (by omega) rfl
          have HS := Lib.hid hs
          have HB := Lib.hid hBel2
          have HE := Lib.hid e2
          clear hs hBel2 e2
          go_wp2
          go_region
          go_wp2
          go_roundw
          case rel =>
            have e2 := HE.out
            exact ⟨k + 1, by omega, by rw [Hak.out], by rw [e2], by rw [e2]; exact HS.out.1, by rw [e2]; exact HS.out.2, HB.out.drew⟩
          case measure => simp [intOf] <;> omega
        · have hs := own_set2 (i := a) (j := a) HO.out HG.out hne m (x - m)
          have hBel2 := (HBel.out.setCell (p := ⟨g2, a, none⟩) hg2 (.int .i64 m)).setCell (p := ⟨g1, a, none⟩) hg1 (.int .i64 (x - m))
          have e2 := Hs.out m (x - m) 0 (by omega) rfl (by omega)
          have HS := Lib.hid hs
          have HB := Lib.hid hBel2
          have HE := Lib.hid e2
          clear hs hBel2 e2
          go_wp2
          go_region
          go_wp2
          go_roundw
          case rel =>
            have e2 := HE.out
            exact ⟨k + 1, by omega, by rw [Hak.out], by rw [e2], by rw [e2]; exact HS.out.1, by rw [e2]; exact HS.out.2, HB.out.drew⟩
          case measure => simp [intOf] <;> omega
      · obtain rfl : k = zs.length := by omega
        have e1 : ((zs.length : Int) - 1 - zs.length) = -1 := by omega
        rw [e1]
        have hlen := cutTo_len zs n (zs.length - 1) zs.length
        have HO := Lib.hid hO
        have HG := Lib.hid hG
        have HBel := Lib.hid hBel
        have HL := Lib.hid hlen
        clear hO hG hBel e1 hlen
        go_wp2
        go_ret2
        exact ⟨g1, c1, g2, zs.length, by rw [HL.out.1, HL.out.2]; rfl, hg1, hg2, hne, by rw [HL.out.2]; exact Nat.le_refl _, by rw [HL.out.1]; exact HO.out, HG.out, HBel.out⟩

end Go.Proofs.Ytkjdapgkojfbmaa
