/-
  The reference's year.
-/
import Derived.Test.YtkjdapgkojfbmaaRefC
namespace Go.Proofs.Ytkjdapgkojfbmaa
open Go.RowKit

set_option maxHeartbeats 400000 in
theorem refRipe_any (h : Hab) (r : Nat) (hr : h.ripe = r) (A : Option Addr) (cap : Nat) (zs : List Int) (B : Nat) (w : World) (hB : B ≤ w.heap.size) (hz : Ints w B A zs) (hrl : r < zs.length) (hcap : zs.length ≤ cap) (hl : zs.length ≤ 1000) (hb : Bnd 0 1000000 zs) :
    Calls Try.prog 56 #[hv h, .slice A zs.length cap] w fun e w' => e = .returned (.int .i64 (zs.drop r).sum) ∧ Below w.heap.size w w' := by
  obtain ⟨lo, hi, be, ri, di, ke⟩ := h
  simp only at hr
  subst hr
  obtain ⟨b, off, rfl, hbB, hc⟩ := hz (by omega)
  have hI : Ints (w.alloc (.cells #[.int .i64 lo, .int .i64 hi, .int .i64 be, .int .i64 r, .int .i64 di, .int .i64 ke] 25)) B (some ⟨b, off + r, none⟩) (zs.drop r) := fun _ => by
    refine ⟨b, off + r, rfl, hbB, fun k hk => ?_⟩
    simp only [List.length_drop] at hk
    rw [World.cell?_alloc_lt _ _ _ (by simp; omega), Nat.add_assoc, hc (r + k) (by omega)]
    simp [List.getElem?_drop]
  have H := refSum_any (some ⟨b, off + r, none⟩) (cap - r) (zs.drop r) B _ hI (by simp; omega) (fun k hk => by
    simp only [List.length_drop] at hk
    have := hb (r + k) (by omega)
    simpa [List.getElem?_drop] using this)
  rw [List.length_drop] at H
  have HH := Lib.hid H
  have hrc : (r : Int) ≤ zs.length := by omega
  have hzc : (zs.length : Int) ≤ cap := by omega
  have hne : ¬ cap = r := by omega
  clear H hI hc hb hz
  unfold hv
  simp only
  go_enter Try.func56, Try.ntmps56
  go_wp2_with (go_at_call 35; refine (HH.out).mono ?_; rintro e w' ⟨rfl, rfl⟩)
  go_ret
  exact ⟨rfl, (Below.refl _ _).alloc (Nat.le_refl _) _⟩

/-- What stands before a cut. -/
def nowL (l : List Int) (s : Int) : List Int := (ageL l).set 0 s
theorem nowL_len (l : List Int) (s : Int) : (nowL l s).length = l.length := by simp [nowL, ageL_len]
theorem ageL_bnd {M : Int} {l : List Int} (h : Bnd 0 M l) (hM : 0 ≤ M) : Bnd 0 M (ageL l) := fun k hk => by
  rw [ageL_len] at hk
  unfold ageL
  rw [List.getElem?_take, if_pos hk]
  cases k with
  | zero => simp [hM]
  | succ k => simp only [List.getElem?_cons_succ]; exact h k (by omega)
theorem nowL_bnd {M s : Int} {l : List Int} (h : Bnd 0 M l) (hs : 0 ≤ s) (hM : s ≤ M) : Bnd 0 M (nowL l s) := (ageL_bnd h (by omega)).set 0 hs hM

def yearL (l : List Int) (s n : Int) : List Int := (cutTo (nowL l s) n (l.length - 1) l.length).1
def goneL (l : List Int) (s n : Int) : List Int := (cutTo (nowL l s) n (l.length - 1) l.length).2.1

/-- What a year hands back, where enough are ripe. -/
def NewYear (w : World) (xs ys : List Int) (e : Ending) (w' : World) : Prop :=
  ∃ g1 c1 g2 c2, e = .returned (.tuple #[.slice (some ⟨g1, 0, none⟩) xs.length c1, .slice (some ⟨g2, 0, none⟩) ys.length c2, .bool true]) ∧ w.heap.size ≤ g1 ∧ w.heap.size ≤ g2 ∧ g1 ≠ g2 ∧ xs.length ≤ c1 ∧ ys.length ≤ c2 ∧
    Ints w' w'.heap.size (some ⟨g1, 0, none⟩) xs ∧ Ints w' w'.heap.size (some ⟨g2, 0, none⟩) ys ∧ (∀ k, w'.frozen? ⟨g1, k, none⟩ = false) ∧ (∀ k, w'.frozen? ⟨g2, k, none⟩ = false) ∧ Below w.heap.size w w'

/-- A year in which no more are cut than are ripe. -/
def yearOk (r : Nat) (l : List Int) (s n : Int) : Bool := decide (n ≤ ((nowL l s).drop r).sum)

set_option maxHeartbeats 1000000 in
theorem refYear_no (h : Hab) (r : Nat) (hr : h.ripe = r) (A : Option Addr) (cap : Nat) (zs : List Int) (B : Nat) (w : World) (hB : B ≤ w.heap.size) (hz : Ints w B A zs) (hrl : r < zs.length) (hl : zs.length ≤ 1000) (M : Int) (hM : M ≤ 1000000) (hb : Bnd 0 M zs)
    (s n : Int) (hs : 0 ≤ s) (hs2 : s ≤ M) (hok : yearOk r zs s n = false) :
    Calls Try.prog 34 #[hv h, .slice A zs.length cap, .int .i64 s, .int .i64 n] w fun e w' => e = .returned (.tuple #[.slice none 0 0, .slice none 0 0, .bool false]) ∧ Below w.heap.size w w' := by
  have hok' : ((nowL zs s).drop r).sum < n := by simpa [yearOk] using hok
  have hnb : Bnd 0 1000000 (nowL zs s) := fun k hk => by have := nowL_bnd hb hs hs2 k hk; omega
  have Hnb := Lib.hid hnb
  have Hz := Lib.hid hz
  have Hr := Lib.hid hr
  have Hb := Lib.hid hb
  clear hok hnb hz hb hr
  rw [show hv h = .agg #[.int .i64 h.lo, .int .i64 h.hi, .int .i64 h.bears, .int .i64 h.ripe, .int .i64 h.dies, .int .i64 h.keep] from rfl]
  go_enter Try.func34, Try.ntmps34
  go_wp2_with fail
  refine (refAge_any A cap zs B _ (by simp; omega) (Hz.out.below ((Below.refl B w).alloc hB _)) (by omega) hl).mono ?_
  rintro e w1 ⟨g, cg, rfl, hcg, hg, hG, hB1⟩
  rw [ageL_len] at hcg ⊢
  have c0 : w1.cell? ⟨g, 0, none⟩ = _ := (cell_of_row w1 g 0 _ _ _ hG).trans (ints_at _ 0 (by rw [ageL_len]; omega))
  have f0 := frozen_of_row w1 g 0 _ _ hG
  simp only [World.size_alloc] at hg hB1
  have cH := fun i => (hB1.cell (p := ⟨w.heap.size, i, none⟩) (by simp)).trans (cell_of_row _ w.heap.size i _ _ _ (alloc_at0 w _))
  generalize (ageL zs)[0]?.getD 0 = x at c0
  have hG2 := heap_setCell_same w1 g 0 _ _ (.int .i64 s) hG
  rw [ints_set] at hG2
  rw [show (ageL zs).set 0 s = nowL zs s from rfl] at hG2
  have hb2 := (((Below.refl _ w).alloc (Nat.le_refl _) _).trans (hB1.mono (by omega))).setCell (p := ⟨g, 0, none⟩) (by simp; omega) (.int .i64 s)
  have H2 := refRipe_any h r Hr.out (some ⟨g, 0, none⟩) cg (nowL zs s) _ _ (Nat.le_refl _) (ints_new hG2 (lt_of_heap hG2)) (by rw [nowL_len]; exact hrl) (by rw [nowL_len]; exact hcg) (by rw [nowL_len]; exact hl) Hnb.out
  rw [nowL_len] at H2
  have HG := Lib.hid hG2
  have HB := Lib.hid hb2
  have HR2 := Lib.hid H2
  have hcl : 0 < zs.length := by omega
  clear hG hB1 hG2 hb2 H2
  go_wp2_with fail
  refine HR2.out.mono ?_
  rintro e w2 ⟨rfl, hB2⟩
  have HB3 := Lib.hid (HB.out.trans (hB2.mono (by have := HB.out.size; omega)))
  clear hB2
  go_wp2_with fail
  go_ret3
  exact ⟨rfl, HB3.out⟩

set_option maxHeartbeats 1000000 in
theorem refYear_yes (h : Hab) (r : Nat) (hr : h.ripe = r) (A : Option Addr) (cap : Nat) (zs : List Int) (B : Nat) (w : World) (hB : B ≤ w.heap.size) (hz : Ints w B A zs) (hrl : r < zs.length) (hl : zs.length ≤ 1000) (M : Int) (hM : M ≤ 1000000) (hb : Bnd 0 M zs)
    (s n : Int) (hs : 0 ≤ s) (hs2 : s ≤ M) (hn : 0 ≤ n) (hn2 : n ≤ M) (hok : yearOk r zs s n = true) :
    Calls Try.prog 34 #[hv h, .slice A zs.length cap, .int .i64 s, .int .i64 n] w (NewYear w (yearL zs s n) (goneL zs s n)) := by
  have hok' : n ≤ ((nowL zs s).drop r).sum := by simpa [yearOk] using hok
  have hnb : Bnd 0 1000000 (nowL zs s) := fun k hk => by have := nowL_bnd hb hs hs2 k hk; omega
  have Hnb := Lib.hid hnb
  have Hz := Lib.hid hz
  have Hr := Lib.hid hr
  have Hb := Lib.hid hb
  clear hok hnb hz hb hr
  rw [show hv h = .agg #[.int .i64 h.lo, .int .i64 h.hi, .int .i64 h.bears, .int .i64 h.ripe, .int .i64 h.dies, .int .i64 h.keep] from rfl]
  go_enter Try.func34, Try.ntmps34
  go_wp2_with fail
  refine (refAge_any A cap zs B _ (by simp; omega) (Hz.out.below ((Below.refl B w).alloc hB _)) (by omega) hl).mono ?_
  rintro e w1 ⟨g, cg, rfl, hcg, hg, hG, hB1⟩
  rw [ageL_len] at hcg ⊢
  have c0 : w1.cell? ⟨g, 0, none⟩ = _ := (cell_of_row w1 g 0 _ _ _ hG).trans (ints_at _ 0 (by rw [ageL_len]; omega))
  have f0 := frozen_of_row w1 g 0 _ _ hG
  simp only [World.size_alloc] at hg hB1
  have cH := fun i => (hB1.cell (p := ⟨w.heap.size, i, none⟩) (by simp)).trans (cell_of_row _ w.heap.size i _ _ _ (alloc_at0 w _))
  generalize (ageL zs)[0]?.getD 0 = x at c0
  have hG2 := heap_setCell_same w1 g 0 _ _ (.int .i64 s) hG
  rw [ints_set] at hG2
  rw [show (ageL zs).set 0 s = nowL zs s from rfl] at hG2
  have hb2 := (((Below.refl _ w).alloc (Nat.le_refl _) _).trans (hB1.mono (by omega))).setCell (p := ⟨g, 0, none⟩) (by simp; omega) (.int .i64 s)
  have H2 := refRipe_any h r Hr.out (some ⟨g, 0, none⟩) cg (nowL zs s) _ _ (Nat.le_refl _) (ints_new hG2 (lt_of_heap hG2)) (by rw [nowL_len]; exact hrl) (by rw [nowL_len]; exact hcg) (by rw [nowL_len]; exact hl) Hnb.out
  rw [nowL_len] at H2
  have HG := Lib.hid hG2
  have HB := Lib.hid hb2
  have HR2 := Lib.hid H2
  have hcl : 0 < zs.length := by omega
  clear hG hB1 hG2 hb2 H2
  go_wp2_with fail
  refine HR2.out.mono ?_
  rintro e w2 ⟨rfl, hB2⟩
  have hG2 := (hB2.block g (lt_of_heap HG.out)).trans HG.out
  have H3 := refCut_any (some ⟨g, 0, none⟩) cg (nowL zs s) _ w2 (Nat.le_refl _) (ints_new hG2 (lt_of_heap hG2)) (by rw [nowL_len]; omega) (by rw [nowL_len]; exact hl) M hM (nowL_bnd Hb.out hs hs2) n hn hn2
  rw [nowL_len] at H3
  have HR3 := Lib.hid H3
  have HB3 := Lib.hid (HB.out.trans (hB2.mono (by have := HB.out.size; omega)))
  clear hB2 H3 hG2
  go_wp2_with fail
  refine HR3.out.mono ?_
  rintro e w3 ⟨g1, c1, g2, c2, rfl, hg1, hg2, hne, hc2, hown, hG3, hB4⟩
  have HO := Lib.hid hown
  have HG3 := Lib.hid hG3
  have HB4 := Lib.hid (HB3.out.trans (hB4.mono HB3.out.size))
  have hws := HB3.out.size
  clear hown hG3 hB4
  go_wp2_with fail
  go_ret3
  exact ⟨g1, c1, g2, c2, rfl, by omega, by omega, hne, own_cap HO.out, hc2, (Vals.own HO.out).ints, ints_new HG3.out (lt_of_heap HG3.out), fun k => HO.out.frozenAt k, fun k => frozen_of_row w3 _ k _ _ HG3.out, HB4.out⟩

end Go.Proofs.Ytkjdapgkojfbmaa
