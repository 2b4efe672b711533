/-
  The program's Stand, of a year of the book.
-/
import Derived.Test.YtkjdapgkojfbmaaRecF
namespace Go.Proofs.Ytkjdapgkojfbmaa
open Go.RowKit Go.Shelf

set_option maxRecDepth 100000 in
set_option maxHeartbeats 2000000 in
theorem stand_in (g : Gr) (y : Int) (A1 : Option Addr) (c1 : Nat) (A2 : Option Addr) (c2 : Nat) (B : Nat) (w : World) (hB : B ≤ w.heap.size) (hG : GrAt w B g A1 c1 A2 c2) (hok : okGrove g = true) (hy : hasY g y = true) :
    Calls Try.prog 14 #[grv g A1 c1 A2 c2, .int .i64 y] w (ListPost w (standVal g y) (standErr g y)) := by
  obtain ⟨d, r, R⟩ := okGrove_runs hok
  obtain ⟨m, hm, hym, eR, eE, eV, -⟩ := recR_in R hok hy
  have hf := R.fine
  have hst := state_link R m hm
  have hrl := runL_len g.start (g.seas.take m)
  rw [hf.st] at hrl
  obtain ⟨t0, t1, t2, t3, t4, t5, t6, ht⟩ := len7 (goneK_len hf hm)
  obtain ⟨f0, f1, f2, f3, f4, f5, f6, hff⟩ := len7 (state_len hf hm)
  have hrA : recA g d r m = [.int .i64 (shotK g m), .int .i64 (cutK g m), .int .i64 (ripeK g d r m), .int .i64 t0, .int .i64 t1, .int .i64 t2, .int .i64 t3, .int .i64 t4, .int .i64 t5, .int .i64 t6, .int .i64 f0, .int .i64 f1, .int .i64 f2, .int .i64 f3, .int .i64 f4, .int .i64 f5, .int .i64 f6] := by
    simp only [recA, ht, hff]; rfl
  have hd6 := hf.d6
  have hcells : ∀ k, k < (runL g.start (g.seas.take m)).length → (recA g d r m).toArray[10 + k]? = some (.int .i64 ((runL g.start (g.seas.take m))[k]?.getD 0)) := fun k hk => by
    have h2 := (recC_at (p := (shotK g m, cutK g m)) (x := ripeK g d r m) (goneK_len hf hm) (b := stateP d r (start7 g) g.seas m) (k := k)).2 (by rw [state_len hf hm]; omega)
    rw [List.getElem?_toArray]
    refine h2.trans ?_
    rw [hst.1, pad7_at hk]
  have H := recordOf_any g y A1 c1 A2 c2 B (w.alloc (.cells (gcs g A1 c1 A2 c2) 29)) (by simp; omega) (hG.below ((Below.refl _ _).alloc hB _))
  rw [eR, eE, hrA] at H
  rw [hrA] at hcells
  rw [eV, eE]
  generalize runL g.start (g.seas.take m) = zs at hcells hrl ⊢
  have hdd := hf.hd
  simp only [grv, gcs] at H
  rw [hdd] at H
  have hcl : ∀ (W : World) (S : Nat), Ints W W.heap.size (some ⟨S, 10, none⟩) zs → Calls Try.prog 38 #[.slice (some ⟨S, 10, none⟩) (d + 1) 7] W (ClonePost W zs) := fun W S h => by
    have := clone_any S 10 7 zs W.heap.size W (Nat.le_refl _) (by omega) h
    rw [hrl] at this
    exact this
  have HH := Lib.hid H
  have HC := Lib.hid hcells
  have HCl := Lib.hid hcl
  have HZ := Lib.hid hrl
  clear H hcells R hok hy hym eR eE eV hf hst ht hff hrA hG hrl hcl
  unfold grv
  rw [hdd]
  clear hdd
  have b1 : (0 : Int) ≤ (d : Int) + 1 := by omega
  have b2 : (d : Int) + 1 ≤ 7 := by omega
  have b3 : ((d : Int) + 1).toNat = d + 1 := by omega
  go_enter Try.func14, Try.ntmps14
  go_wp2_with (first
    | (go_at_call 37
       refine HH.out.mono ?_
       rintro e w1 ⟨rfl, hB1⟩
       have hs1 := hB1.size
       simp only [World.size_alloc] at hs1
       have hcG : ∀ X i, (w1.alloc X).cell? ⟨w.heap.size, i, none⟩ = _ := fun X i => cell_of_row _ w.heap.size i _ _ _ ((Below.heap_alloc _ _ _ (by omega)).trans ((hB1.block _ (by simp)).trans (alloc_at0 w _)))
       have B1 := Lib.hid (((Below.refl _ w).alloc (Nat.le_refl _) _).trans (hB1.mono (by simp)))
       clear hB1)
    | (go_at_call 38
       refine (HCl.out _ _ (fun _ => ⟨_, _, rfl, by simp, fun k hk => (cell_of_row _ w1.heap.size (10 + k) _ _ _ (alloc_at0 w1 _)).trans (HC.out k hk)⟩)).mono ?_
       rintro e w2 ⟨g1, q1, rfl, hq1, hg1, hI2, hf2, hB2⟩
       have H2 := Lib.hid (And.intro hq1 (And.intro hg1 (And.intro hI2 (And.intro hf2 hB2))))
       clear hq1 hg1 hI2 hf2 hB2))
  go_ret2
  have hg1 := H2.out.2.1
  simp at hg1
  exact ⟨some ⟨g1, 0, none⟩, q1, rfl, H2.out.1, H2.out.2.2.1, fun _ => ⟨g1, rfl, by omega, H2.out.2.2.2.1⟩,
    (B1.out.alloc (by omega) _).trans (H2.out.2.2.2.2.mono (by simp; omega))⟩

theorem stand_any (g : Gr) (y : Int) (A1 : Option Addr) (c1 : Nat) (A2 : Option Addr) (c2 : Nat) (B : Nat) (w : World) (hB : B ≤ w.heap.size) (hG : GrAt w B g A1 c1 A2 c2) :
    Calls Try.prog 14 #[grv g A1 c1 A2 c2, .int .i64 y] w (ListPost w (standVal g y) (standErr g y)) := by
  by_cases h : okGrove g = true ∧ hasY g y = true
  · exact stand_in g y A1 c1 A2 c2 B w hB hG h.1 h.2
  · exact stand_out g y A1 c1 A2 c2 B w hB hG h

end Go.Proofs.Ytkjdapgkojfbmaa
