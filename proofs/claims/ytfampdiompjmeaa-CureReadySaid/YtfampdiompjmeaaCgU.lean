/-
  The law CureReady.
-/
import Derived.Test.YtfampdiompjmeaaCgS0
import Derived.Test.YtfampdiompjmeaaCgS6
namespace Go.Proofs.Ytfampdiompjmeaa
open Go.RowKit Go.Shelf

attribute [local go_sem] gives

set_option maxRecDepth 100000 in
set_option maxHeartbeats 8000000 in
theorem cureReady_no (t : Bt) (A : Option Addr) (cap : Nat) (l : List Sl) (s : Int) (w : World) (hz : Rows w w.heap.size A l) (hll : l.length ≤ 9223372036854775807) (hl : ∀ s ∈ l, s.zs.length ≤ 9223372036854775807) (hno : okBatch t (rws l) = false) :
    Calls Try.prog 9 #[.agg (btcells t (.slice A l.length cap)), .int .u8 s] w fun e w' => e = .returned (.bool true) ∧ Below w.heap.size w w' := by
  have hrd := fun W (hW : Below w.heap.size w W) => ready4_any t A cap l w.heap.size W hW.size (hz.below hW) hll hl
  rw [hno] at hrd
  have h0 := BoxW.start w (btcells t (.slice A l.length cap))
  have HRD := Lib.hid hrd
  have H0 := Lib.hid h0
  clear hrd hz hll hl hno h0
  unfold btcells at H0 HRD ⊢
  go_enter Try.func9, Try.ntmps9
  go_wp2_with (first
    | (go_at_call 14; refine (alive_any _).mono ?_; rintro e w2 ⟨rfl, hB2⟩
       have h2 := H0.out.next hB2
       have hc2 := fun i => cell_of_row w2 w.heap.size i _ _ _ h2.b0
       have H2 := Lib.hid h2; clear hB2 h2)
    | (go_at_call 36; refine (HRD.out w2 H2.out.bel).mono ?_; rintro e w3 ⟨rfl, hB3⟩; have H3 := Lib.hid (H2.out.next hB3); clear hB3))
  go_ret
  exact ⟨rfl, H3.out.bel⟩

theorem cureReady_law (t : Bt) (A : Option Addr) (cap : Nat) (l : List Sl) (s : Int) (w : World) (hz : Rows w w.heap.size A l) (hll : l.length ≤ 9223372036854775807) (hl : ∀ s ∈ l, s.zs.length ≤ 9223372036854775807) (s0 : 0 ≤ s) (s1 : s < 256) :
    Calls Try.prog 9 #[.agg (btcells t (.slice A l.length cap)), .int .u8 s] w fun e w' => e = .returned (.bool true) ∧ Below w.heap.size w w' := by
  cases hb : okBatch t (rws l) with
  | false => exact cureReady_no t A cap l s w hz hll hl hb
  | true =>
    obtain ⟨last, hR⟩ := rdyIs_of hb
    rcases hR.ok with he | he
    · exact cureReady_0 t A cap l s last w hz hb hR he s0 s1
    · have h3 := (hR.v0 he).2
      subst h3
      exact cureReady_6 t A cap l s w hz hb hR he s0 s1

end Go.Proofs.Ytfampdiompjmeaa
