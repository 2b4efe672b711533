/-
  The reference's Stand and Taken.
-/
import Derived.Test.YtkjdapgkojfbmaaRefH
namespace Go.Proofs.Ytkjdapgkojfbmaa
open Go.RowKit

def standErr (g : Gr) (y : Int) : Int := if okGrove g = true then (if hasY g y = true then 0 else 6) else 10
def standVal (g : Gr) (y : Int) : List Int := if okGrove g = true ∧ hasY g y = true then runL g.start (g.seas.take (y - g.first).toNat) else []

/-- A list of ints and an error are handed back: the list in new memory. -/
def ListPost (w : World) (xs : List Int) (er : Int) (e : Ending) (w' : World) : Prop :=
  ∃ A c, e = .returned (.tuple #[.slice A xs.length c, .int .i64 er]) ∧ xs.length ≤ c ∧ Ints w' w'.heap.size A xs ∧
    (0 < xs.length → ∃ g, A = some ⟨g, 0, none⟩ ∧ w.heap.size ≤ g ∧ ∀ k, w'.frozen? ⟨g, k, none⟩ = false) ∧ Below w.heap.size w w'

theorem ListPost.nil {w w' : World} {er : Int} (h : Below w.heap.size w w') : ListPost w [] er (.returned (.tuple #[.slice none 0 0, .int .i64 er])) w' :=
  ⟨none, 0, rfl, Nat.le_refl _, fun h => by simp at h, fun h => by simp at h, h⟩

set_option maxHeartbeats 2000000 in
theorem refStand_any (g : Gr) (y : Int) (A1 : Option Addr) (c1 : Nat) (A2 : Option Addr) (c2 : Nat) (B : Nat) (w : World) (hB : B ≤ w.heap.size) (hG : GrAt w B g A1 c1 A2 c2) :
    Calls Try.prog 15 #[grv g A1 c1 A2 c2, .int .i64 y] w (ListPost w (standVal g y) (standErr g y)) := by
  have HG := Lib.hid hG
  clear hG
  have hb0 : Below w.heap.size w (w.alloc (.cells #[.int .i64 g.id, .int .i64 g.hab.lo, .int .i64 g.hab.hi, .int .i64 g.hab.bears, .int .i64 g.hab.ripe, .int .i64 g.hab.dies, .int .i64 g.hab.keep, .int .i64 g.first, .slice A1 g.start.length c1, .slice A2 g.seas.length c2] 29)) := (Below.refl _ _).alloc (Nat.le_refl _) _
  have H := refGrove_any g A1 c1 A2 c2 B _ (by simp; omega) (HG.out.below (hb0.mono hB))
  have HH := Lib.hid H
  have Hb0 := Lib.hid hb0
  clear H hb0
  rw [show grv g A1 c1 A2 c2 = .agg #[.int .i64 g.id, .int .i64 g.hab.lo, .int .i64 g.hab.hi, .int .i64 g.hab.bears, .int .i64 g.hab.ripe, .int .i64 g.hab.dies, .int .i64 g.hab.keep, .int .i64 g.first, .slice A1 g.start.length c1, .slice A2 g.seas.length c2] from rfl]
  rcases Bool.eq_false_or_eq_true (okGrove g) with hp | hp
  · obtain ⟨d, r, R⟩ := okGrove_runs hp
    have f0 := R.pre.f0
    have f1 := R.pre.f1
    have l60 := R.pre.l60
    clear R
    rcases Bool.eq_false_or_eq_true (hasY g y) with hy | hy
    · have hy' := hy
      simp only [hasY, inR_iff] at hy'
      obtain ⟨m, hm⟩ : ∃ m : Nat, y = g.first + m := ⟨(y - g.first).toNat, by omega⟩
      subst hm
      have hv : standVal g (g.first + m) = runL g.start (g.seas.take m) := by
        simp only [standVal, hp, hy, and_self, if_true]
        congr 2
        omega
      have he : standErr g (g.first + m) = 0 := by simp [standErr, hp, hy]
      rw [hv, he]
      have hml : m ≤ g.seas.length := by omega
      have HP := Lib.hid hp
      have HYs := Lib.hid hy
      have hrl := Lib.hid (runL_len g.start (g.seas.take m))
      rw [hp] at HH
      clear hp hy hv he hy'
      go_enter Try.func15, Try.ntmps15
      go_wp2_with (first
        | (go_at_call 39; refine HH.out.mono ?_; rintro e w1 ⟨rfl, hB1⟩
           have cB1 := box_cells rfl hB1
           have HB1 := Lib.hid (Hb0.out.trans (hB1.mono (by simp)))
           have hw1 : w.heap.size < w1.heap.size := by have := hB1.size; simp at this; omega
           clear hB1)
        | (go_at_call 40; refine (refHas_any g _ A1 c1 A2 c2 _ f0 f1 l60).mono ?_; rintro e w2 ⟨rfl, hB2⟩
           rw [HYs.out]
           have cB2 := fun i => (hB2.cell (p := ⟨w.heap.size, i, none⟩) hw1).trans (cB1 i)
           have HB2 := Lib.hid (HB1.out.trans (hB2.mono (by omega)))
           have hw2 : w.heap.size < w2.heap.size := by have := hB2.size; omega
           clear hB2)
        | (go_at_call 41; refine (refAt_any g m A1 c1 A2 c2 B _ (by omega) (HG.out.below (HB2.out.mono hB)) HP.out hml).mono ?_; rintro e w3 ⟨p1, q1, p2, q2, rfl, hp1, hp2, hq1, hq2, hI1, hI2, hf1, hB3⟩
           have HI := Lib.hid (And.intro hI1 (And.intro hf1 (And.intro hq1 hB3)))
           clear hI1 hI2 hf1 hB3 hq1 hq2))
      go_ret2
      exact ⟨some ⟨p1, 0, none⟩, q1, by rw [hrl.out]; rfl, by rw [hrl.out]; exact HI.out.2.2.1, HI.out.1, fun _ => ⟨p1, rfl, by omega, HI.out.2.1⟩, HB2.out.trans (HI.out.2.2.2.mono (by omega))⟩
    · have hv : standVal g y = [] := by simp [standVal, hp, hy]
      have he : standErr g y = 6 := by simp [standErr, hp, hy]
      rw [hv, he]
      have HYs := Lib.hid hy
      rw [hp] at HH
      clear hp hy hv he
      go_enter Try.func15, Try.ntmps15
      go_wp2_with (first
        | (go_at_call 39; refine HH.out.mono ?_; rintro e w1 ⟨rfl, hB1⟩
           have cB1 := box_cells rfl hB1
           have HB1 := Lib.hid (Hb0.out.trans (hB1.mono (by simp)))
           have hw1 : w.heap.size < w1.heap.size := by have := hB1.size; simp at this; omega
           clear hB1)
        | (go_at_call 40; refine (refHas_any g _ A1 c1 A2 c2 _ f0 f1 l60).mono ?_; rintro e w2 ⟨rfl, hB2⟩
           rw [HYs.out]
           have HB2 := Lib.hid (HB1.out.trans (hB2.mono (by omega)))
           clear hB2))
      go_ret2
      exact ListPost.nil HB2.out
  · have hv : standVal g y = [] := by simp [standVal, hp]
    have he : standErr g y = 10 := by simp [standErr, hp]
    rw [hv, he]
    rw [hp] at HH
    clear hp hv he
    go_enter Try.func15, Try.ntmps15
    go_wp2_with (first
      | (go_at_call 39; refine HH.out.mono ?_; rintro e w1 ⟨rfl, hB1⟩
         have HB1 := Lib.hid (Hb0.out.trans (hB1.mono (by simp)))
         clear hB1))
    go_ret2
    exact ListPost.nil HB1.out

end Go.Proofs.Ytkjdapgkojfbmaa
