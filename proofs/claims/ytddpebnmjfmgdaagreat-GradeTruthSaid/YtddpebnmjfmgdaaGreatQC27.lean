/-
  What comes in, opened; lists compared. It speaks of no layer.
-/
import Derived.ProofKit
import Derived.ReadAgain
import Derived.Deep.SlicePairs
import Derived.Deep.QuietTactic
import Derived.BigQuiet
import Derived.Test.YtddpebnmjfmgdaaGreatQC1
set_option linter.all false
namespace Go.Proofs.YtddpebnmjfmgdaaGreat
open Go.ChangeShapes Go.WideShapes Go.ChangeAt Go.RowKit Go.Deep

section
variable {H : Type} {enc : TypeId × Value → H} {w : World} {base : Nat} {spare : Nat → Bool} {held : Bool}

theorem open_int_raw {fuel : Nat} {c : Value} {x : DataW H × List MemPlace} (h : DataW.trod enc Tryz.prog w base spare held fuel 3 [c] = some x) : ∃ n : Int, c = .int .i64 n := by
  obtain ⟨n, hc, _, _⟩ := DataW.trod_int Tryz.underlying3 h
  simp only [List.cons.injEq, and_true] at hc
  exact ⟨n, hc⟩

theorem lt_of_cell {w : World} {a : Addr} {v : Value} (h : w.cell? a = some v) : a.block < w.heap.size := by
  obtain ⟨o, ho, _⟩ := cells_of_cell h
  exact (Array.getElem?_eq_some_iff.1 ho).1

theorem cellsI : Tryz.prog.cellsOf 3 = 1 := by kernel_rfl

theorem open_span_raw {fuel : Nat} {c0 c1 : Value} {x : DataW H × List MemPlace} (h : DataW.trod enc Tryz.prog w base spare held fuel 50 [c0, c1] = some x) :
    ∃ lo hi : Int, c0 = .int .i64 lo ∧ c1 = .int .i64 hi := by
  obtain ⟨zs, n', _, _, _, hlen', hg'⟩ := DataW.trod_struct Tryz.underlying50 h
  have at2 : ∀ i, i < zs.length → ∃ y, zs[i]? = some y := fun i hi => ⟨_, List.getElem?_eq_getElem hi⟩
  have hlen2 : zs.length = 2 := hlen'
  obtain ⟨z0, hz0⟩ := at2 0 (by omega)
  obtain ⟨z1, hz1⟩ := at2 1 (by omega)
  have k0 : DataW.trod enc Tryz.prog w base spare held n' 3 ((List.drop 0 [c0, c1]).take (Tryz.prog.cellsOf 3)) = some z0 := (hg' 0 _ rfl).trans hz0
  have k1 : DataW.trod enc Tryz.prog w base spare held n' 3 ((List.drop 1 [c0, c1]).take (Tryz.prog.cellsOf 3)) = some z1 := (hg' 1 _ rfl).trans hz1
  simp only [cellsI, List.drop_zero, List.drop_succ_cons, List.take_succ_cons, List.take_zero] at k0 k1
  obtain ⟨lo, rfl⟩ := open_int_raw k0
  obtain ⟨hi, rfl⟩ := open_int_raw k1
  exact ⟨lo, hi, rfl, rfl⟩
end

end Go.Proofs.YtddpebnmjfmgdaaGreat

namespace Go.Proofs.YtddpebnmjfmgdaaGreat
open Go.RowKit

end Go.Proofs.YtddpebnmjfmgdaaGreat
