/-
  The law ClumpWider: where nothing is asked; the rain made wider.
-/
import Derived.Test.YtanjolmelbipoaaWidN
import Derived.Test.YtanjolmelbipoaaZM
import Derived.Test.YtanjolmelbipoaaZK
namespace Go.Proofs.Ytanjolmelbipoaa
open Go.RowKit Go.Shelf

attribute [local go_sem] gives

set_option maxRecDepth 100000 in
set_option maxHeartbeats 4000000 in
theorem clumpWider_idle (g : Gr) (ps : List (Int × Int)) (A1 : Option Addr) (c1 : Nat) (A2 : Option Addr) (c2 : Nat) (P1 : Option Addr) (k1 : Nat) (P3 : Option Addr) (k3 n3 : Nat) (w : World) (hG : GrAt w w.heap.size g A1 c1 A2 c2)
    (hV1 : Vals w w.heap.size P1 (pairs ps)) (l1 : ps.length ≤ 9223372036854775807) (h : readyB g ps = false) :
    Calls Try.prog 10 #[grv g A1 c1 A2 c2, .slice P1 ps.length k1, .slice P3 n3 k3] w fun e w' => e = .returned (.bool true) ∧ Below w.heap.size w w' := by
  have HG := Lib.hid hG
  have HV := Lib.hid hV1
  obtain ⟨w0, hw0⟩ : ∃ w0, w.alloc (.cells (gcs g A1 c1 A2 c2) 29) = w0 := ⟨_, rfl⟩
  have hb0 : Below w.heap.size w w0 := by rw [← hw0]; exact (Below.refl _ _).alloc (Nat.le_refl _) _
  have hs0 : w0.heap.size = w.heap.size + 1 := by rw [← hw0]; simp
  have hm0 : w0.heap[w.heap.size]? = some (.cells (gcs g A1 c1 A2 c2) 29 (0, 0)) := by rw [← hw0]; exact alloc_at0 w _
  have B0 := Lib.hid (And.intro hb0 (And.intro hm0 hs0))
  have HR := Lib.hid h
  clear hG hV1 hb0 hm0 hs0 h
  simp only [gcs] at hw0
  unfold grv
  go_enter Try.func10, Try.ntmps10
  go_wp2_with (first
    | (go_at_call 28; refine (alive_any w0).mono ?_; rintro e w1 ⟨rfl, hB1⟩
       have hc1 := fun i => cell_of_row w1 w.heap.size i _ _ _ ((hB1.block _ (by have := B0.out.2.2; omega)).trans B0.out.2.1)
       have H1 := Lib.hid (B0.out.1.trans (hB1.mono (by have := B0.out.2.2; omega))); clear hB1)
    | (go_at_call 29; refine (ready_any g A1 c1 A2 c2 P1 k1 ps w.heap.size w1 H1.out.size (HG.out.below H1.out) (HV.out.below H1.out) l1).mono ?_; rintro e w2 ⟨rfl, hB2⟩; rw [HR.out]
       have H2 := Lib.hid (H1.out.trans (hB2.mono H1.out.size)); clear hB2))
  go_ret
  exact ⟨rfl, H2.out⟩

end Go.Proofs.Ytanjolmelbipoaa
