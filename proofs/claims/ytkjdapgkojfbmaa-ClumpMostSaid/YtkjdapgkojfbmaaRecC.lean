/-
  The program's Check.
-/
import Derived.Test.YtkjdapgkojfbmaaLink2
namespace Go.Proofs.Ytkjdapgkojfbmaa
open Go.RowKit

set_option maxHeartbeats 1000000 in
theorem check_any (g : Gr) (A1 : Option Addr) (c1 : Nat) (A2 : Option Addr) (c2 : Nat) (B : Nat) (w : World) (hB : B ≤ w.heap.size) (hG : GrAt w B g A1 c1 A2 c2) :
    Calls Try.prog 18 #[grv g A1 c1 A2 c2] w fun e w' => e = .returned (.int .i64 (errG g)) ∧ Below w.heap.size w w' := by
  obtain ⟨W0, hW0⟩ : ∃ W0, w.alloc (.cells (gcs g A1 c1 A2 c2) 29) = W0 := ⟨_, rfl⟩
  have hb0 : Below w.heap.size w W0 := by rw [← hW0]; exact (Below.refl _ _).alloc (Nat.le_refl _) _
  have hs0 : W0.heap.size = w.heap.size + 1 := by rw [← hW0]; simp
  have hG0 := hG.below (hb0.mono hB)
  have h1 := validBounds_any g A1 c1 A2 c2 B W0 (by omega) hG0
  have hbox := box_cells (A := .cells (gcs g A1 c1 A2 c2) 29) (w := w) rfl (w' := W0) (by rw [hW0]; exact Below.refl _ _)
  have H1 := Lib.hid h1
  have HG := Lib.hid hG0
  have Hb := Lib.hid hb0
  clear h1 hG hG0 hb0
  rcases Bool.eq_false_or_eq_true (okPre g && okStart g && seasR g.seas) with hv | hv
  · obtain ⟨d, r, hf, -⟩ := fine_of hv
    have hl := okGrove_link hf hv
    rw [hv] at H1
    unfold errG
    rw [hl]
    have HF := Lib.hid hf
    clear hf hv hl
    rcases Bool.eq_false_or_eq_true (cutsP g d r) with hc | hc
    all_goals
      have hc' := Lib.hid hc
      rw [hc]
      clear hc
      unfold grv
      go_enter Try.func18, Try.ntmps18
      go_wp2_with (first
        | (go_at_call 43
           try rw [show w.alloc (.cells #[.int .i64 g.id, .int .i64 g.hab.lo, .int .i64 g.hab.hi, .int .i64 g.hab.bears, .int .i64 g.hab.ripe, .int .i64 g.hab.dies, .int .i64 g.hab.keep, .int .i64 g.first, .slice A1 g.start.length c1, .slice A2 g.seas.length c2] 29) = W0 from hW0]
           refine H1.out.mono ?_
           rintro e w1 ⟨rfl, hB1⟩
           have hbox1 : ∀ i, w1.cell? ⟨w.heap.size, i, none⟩ = _ := fun i => (hB1.cell (p := ⟨w.heap.size, i, none⟩) (by simp; omega)).trans (hbox i)
           have HB1 := Lib.hid hB1
           clear hB1)
        | (go_at_call 44
           refine (validCuts_any g A1 c1 A2 c2 d r HF.out B _ (by have := HB1.out.size; omega) (HG.out.below (HB1.out.mono (by omega)))).mono ?_
           rintro e w2 ⟨rfl, hB2⟩
           rw [hc'.out]
           have HB2 := Lib.hid hB2
           clear hB2))
      go_ret
      exact ⟨rfl, (Hb.out.trans (HB1.out.mono (by omega))).trans (HB2.out.mono (by have := HB1.out.size; omega))⟩
  · have hl := okGrove_not hv
    rw [hv] at H1
    unfold errG
    rw [hl]
    clear hl hv
    unfold grv
    go_enter Try.func18, Try.ntmps18
    go_wp2_with
      (go_at_call 43
       try rw [show w.alloc (.cells #[.int .i64 g.id, .int .i64 g.hab.lo, .int .i64 g.hab.hi, .int .i64 g.hab.bears, .int .i64 g.hab.ripe, .int .i64 g.hab.dies, .int .i64 g.hab.keep, .int .i64 g.first, .slice A1 g.start.length c1, .slice A2 g.seas.length c2] 29) = W0 from hW0]
       refine H1.out.mono ?_
       rintro e w1 ⟨rfl, hB1⟩
       have HB1 := Lib.hid hB1
       clear hB1)
    go_ret
    exact ⟨rfl, Hb.out.trans (HB1.out.mono (by omega))⟩

end Go.Proofs.Ytkjdapgkojfbmaa
