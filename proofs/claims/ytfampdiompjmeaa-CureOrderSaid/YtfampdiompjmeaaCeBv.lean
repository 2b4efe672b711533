/-
  Which batches are valid: all together.
-/
import Derived.Test.YtfampdiompjmeaaCeB1
import Derived.Test.YtfampdiompjmeaaCeB2
import Derived.Test.YtfampdiompjmeaaCeB3
import Derived.Test.YtfampdiompjmeaaCeB4
import Derived.Test.YtfampdiompjmeaaCeB5
import Derived.Test.YtfampdiompjmeaaCeB6
namespace Go.Proofs.Ytfampdiompjmeaa
open Go.RowKit
open R6 (done done_ne done_me upd_ne upd_me)

attribute [local go_sem] gives

theorem validBatch_any (t : Bt) (A : Option Addr) (cap : Nat) (l : List Sl) (B : Nat) (w : World) (hB : B ≤ w.heap.size) (hz : Rows w B A l) (hl : shortL l) :
    Calls Try.prog 60 #[.agg (btcells t (.slice A l.length cap))] w fun e w' => e = .returned (.bool (okBatch t (rws l))) ∧ Below w.heap.size w w' := by
  have hn : (rws l).length = l.length := by simp [rws]
  unfold okBatch okHead
  rw [hn]
  cases h1 : allB 10 10000 [t.water] with
  | false => simp only [Bool.false_and]; exact validBatch_1 t A cap l w h1
  | true =>
  cases h2 : allB 0 100000 [t.borax] with
  | false => simp only [Bool.true_and, Bool.false_and]; exact validBatch_2 t A cap l w h1 h2
  | true =>
  cases h3 : allB 1 4 [(l.length : Int)] with
  | false => simp only [Bool.true_and, Bool.false_and]; exact validBatch_3 t A cap l w h1 h2 h3
  | true =>
  cases h4 : (rws l).all okPole with
  | false => simp only [Bool.true_and, Bool.false_and]; exact validBatch_4 t A cap l B w hB hz hl h1 h2 h3 h4
  | true =>
  cases h5 : okS t.lo t.hi 1 250 with
  | false => simp only [Bool.true_and, Bool.false_and]; exact validBatch_5 t A cap l B w hB hz hl h1 h2 h3 h4 h5
  | true =>
  simp only [Bool.true_and]
  exact validBatch_6 t A cap l B w hB hz hl _ h1 h2 h3 h4 h5 rfl

def checkE (t : Bt) (ws : List (List Int)) : Int := if okBatch t ws = true then 0 else 40
theorem check_any (t : Bt) (A : Option Addr) (cap : Nat) (l : List Sl) (B : Nat) (w : World) (hB : B ≤ w.heap.size) (hz : Rows w B A l) (hl : shortL l) :
    Calls Try.prog 23 #[.agg (btcells t (.slice A l.length cap))] w fun e w' => e = .returned (.int .i64 (checkE t (rws l))) ∧ Below w.heap.size w w' := by
  have H := fun W (h : Below w.heap.size w W) => validBatch_any t A cap l B W (Nat.le_trans hB h.size) (hz.below (h.mono hB)) hl
  unfold checkE
  unfold btcells at H ⊢
  cases h : okBatch t (rws l)
  all_goals
    rw [h] at H
    have HH := Lib.hid H
    clear H h hz hl
    go_enter Try.func23, Try.ntmps23
    go_wp2_with (go_at_call 60; refine (HH.out _ (grow1 w _)).mono ?_; rintro e w1 ⟨rfl, hB1⟩; have H1 := Lib.hid ((grow1 w _).trans (hB1.mono (by simp))); clear hB1)
    go_ret
    exact ⟨rfl, H1.out⟩

end Go.Proofs.Ytfampdiompjmeaa
