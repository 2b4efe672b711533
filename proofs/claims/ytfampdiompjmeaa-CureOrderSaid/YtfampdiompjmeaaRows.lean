/-
  No cell of these rows narrows 'for every input' (looked for: loops, veiled, ifaces, maps, wideKeys, modest, calm, conditions, laid).
  DERIVED. THE GIVEN ROWS OF THIS SEAT. 11 by the template 'for every input the law returns true; each argument reads behind the call as it read before'; 0 by the template 'total and deterministic' (their statements: YtfampdiompjmeaaTotals.lean).
  GIVEN WITH THE SEED: the statements are not yours to turn. If you find one false, say at which input.
  Laid BY PROGRAM, IN A SANDBOX (cutbox-rows.mjs): the forced cells as the released guide's own fill.sh prints them over the translation 44b096efb9f60da4… (all of the seat's roots in one cut). By AI agents, Wed Nov 11 2026. No macro, syntax, notation, axiom, sorry.
-/
import Derived.Test.YtfampdiompjmeaaChecked
import GoSem.Claim
import GoSem.ClaimJoined
import GoSem.ClaimMapViews
import Derived.JoinedTies
import Derived.KernelRfl
namespace Go.Proofs.Ytfampdiompjmeaa
/- THE CELL 'sum', in the pinned program and in every row, IS THE sha256 OF THE DUMP (.gsa) THAT YtfampdiompjmeaaProg.lean LOADS. Nothing in Lean hashes anything: it is a label: what it is worth is what the hold of that sum in a sandbox is worth. -/
noncomputable def Try.pinned : Pinned := { name := "ytfampdiompjmeaa", sum := "44b096efb9f60da4518ae7be62c5369f143f507b3d8c34e008d4d94b2c930c97", checked := Try.checked }
namespace Rows
def none {H : Type} : Left H := { results := [], args := [] }

/-- 'canebrakelaw04.CureExamples': WHATEVER THE INPUT: true; the input reads as it did. -/
def cureExamplesSpec : ChangeSpec := { name := "cureExamples", fn := fun _ => fun
  | [] => { results := [.lit (.bool true)], args := [] }
  | _ => none }
def cureExamplesRow : OpenClaim := { program := "ytfampdiompjmeaa", sum := "44b096efb9f60da4518ae7be62c5369f143f507b3d8c34e008d4d94b2c930c97", func := "canebrake/canebrakelaw04.CureExamples", spec := "cureExamples", unfollowed := true, recurses := true, apart := false }
def CureExamplesSaid : Prop := cureExamplesRow.holds Try.pinned (OpenSpec.ofChange cureExamplesSpec)

/-- ITS FALSE NEIGHBOUR: 'it returns false'. Refute it at one input. -/
def cureExamplesWrong : ChangeSpec := { name := "cureExamples", fn := fun _ => fun
  | [] => { results := [.lit (.bool false)], args := [] }
  | _ => none }
def CureExamplesWrongFalsely : Prop := cureExamplesRow.holds Try.pinned (OpenSpec.ofChange cureExamplesWrong)

/-- 'canebrakelaw04.CureRuns': WHATEVER THE INPUT: true; the input reads as it did. -/
def cureRunsSpec : ChangeSpec := { name := "cureRuns", fn := fun _ => fun
  | [d1, d2, d3] => { results := [.lit (.bool true)], args := [d1, d2, d3] }
  | _ => none }
def cureRunsRow : OpenClaim := { program := "ytfampdiompjmeaa", sum := "44b096efb9f60da4518ae7be62c5369f143f507b3d8c34e008d4d94b2c930c97", func := "canebrake/canebrakelaw04.CureRuns", spec := "cureRuns", unfollowed := true, recurses := true, apart := false }
def CureRunsSaid : Prop := cureRunsRow.holds Try.pinned (OpenSpec.ofChange cureRunsSpec)

/-- ITS FALSE NEIGHBOUR: 'it returns false'. Refute it at one input. -/
def cureRunsWrong : ChangeSpec := { name := "cureRuns", fn := fun _ => fun
  | [d1, d2, d3] => { results := [.lit (.bool false)], args := [d1, d2, d3] }
  | _ => none }
def CureRunsWrongFalsely : Prop := cureRunsRow.holds Try.pinned (OpenSpec.ofChange cureRunsWrong)

/-- 'canebrakelaw04.CureTreats': WHATEVER THE INPUT: true; the input reads as it did. -/
def cureTreatsSpec : ChangeSpec := { name := "cureTreats", fn := fun _ => fun
  | [d1, d2] => { results := [.lit (.bool true)], args := [d1, d2] }
  | _ => none }
def cureTreatsRow : OpenClaim := { program := "ytfampdiompjmeaa", sum := "44b096efb9f60da4518ae7be62c5369f143f507b3d8c34e008d4d94b2c930c97", func := "canebrake/canebrakelaw04.CureTreats", spec := "cureTreats", unfollowed := true, recurses := true, apart := false }
def CureTreatsSaid : Prop := cureTreatsRow.holds Try.pinned (OpenSpec.ofChange cureTreatsSpec)

/-- ITS FALSE NEIGHBOUR: 'it returns false'. Refute it at one input. -/
def cureTreatsWrong : ChangeSpec := { name := "cureTreats", fn := fun _ => fun
  | [d1, d2] => { results := [.lit (.bool false)], args := [d1, d2] }
  | _ => none }
def CureTreatsWrongFalsely : Prop := cureTreatsRow.holds Try.pinned (OpenSpec.ofChange cureTreatsWrong)

/-- 'canebrakelaw04.CureDries': WHATEVER THE INPUT: true; the input reads as it did. -/
def cureDriesSpec : ChangeSpec := { name := "cureDries", fn := fun _ => fun
  | [d1, d2, d3] => { results := [.lit (.bool true)], args := [d1, d2, d3] }
  | _ => none }
def cureDriesRow : OpenClaim := { program := "ytfampdiompjmeaa", sum := "44b096efb9f60da4518ae7be62c5369f143f507b3d8c34e008d4d94b2c930c97", func := "canebrake/canebrakelaw04.CureDries", spec := "cureDries", unfollowed := true, recurses := true, apart := false }
def CureDriesSaid : Prop := cureDriesRow.holds Try.pinned (OpenSpec.ofChange cureDriesSpec)

/-- ITS FALSE NEIGHBOUR: 'it returns false'. Refute it at one input. -/
def cureDriesWrong : ChangeSpec := { name := "cureDries", fn := fun _ => fun
  | [d1, d2, d3] => { results := [.lit (.bool false)], args := [d1, d2, d3] }
  | _ => none }
def CureDriesWrongFalsely : Prop := cureDriesRow.holds Try.pinned (OpenSpec.ofChange cureDriesWrong)

/-- 'canebrakelaw04.CureKept': WHATEVER THE INPUT: true; the input reads as it did. -/
def cureKeptSpec : ChangeSpec := { name := "cureKept", fn := fun _ => fun
  | [d1, d2, d3] => { results := [.lit (.bool true)], args := [d1, d2, d3] }
  | _ => none }
def cureKeptRow : OpenClaim := { program := "ytfampdiompjmeaa", sum := "44b096efb9f60da4518ae7be62c5369f143f507b3d8c34e008d4d94b2c930c97", func := "canebrake/canebrakelaw04.CureKept", spec := "cureKept", unfollowed := true, recurses := true, apart := false }
def CureKeptSaid : Prop := cureKeptRow.holds Try.pinned (OpenSpec.ofChange cureKeptSpec)

/-- ITS FALSE NEIGHBOUR: 'it returns false'. Refute it at one input. -/
def cureKeptWrong : ChangeSpec := { name := "cureKept", fn := fun _ => fun
  | [d1, d2, d3] => { results := [.lit (.bool false)], args := [d1, d2, d3] }
  | _ => none }
def CureKeptWrongFalsely : Prop := cureKeptRow.holds Try.pinned (OpenSpec.ofChange cureKeptWrong)

/-- 'canebrakelaw04.CureOn': WHATEVER THE INPUT: true; the input reads as it did. -/
def cureOnSpec : ChangeSpec := { name := "cureOn", fn := fun _ => fun
  | [d1, d2, d3, d4] => { results := [.lit (.bool true)], args := [d1, d2, d3, d4] }
  | _ => none }
def cureOnRow : OpenClaim := { program := "ytfampdiompjmeaa", sum := "44b096efb9f60da4518ae7be62c5369f143f507b3d8c34e008d4d94b2c930c97", func := "canebrake/canebrakelaw04.CureOn", spec := "cureOn", unfollowed := true, recurses := true, apart := false }
def CureOnSaid : Prop := cureOnRow.holds Try.pinned (OpenSpec.ofChange cureOnSpec)

/-- ITS FALSE NEIGHBOUR: 'it returns false'. Refute it at one input. -/
def cureOnWrong : ChangeSpec := { name := "cureOn", fn := fun _ => fun
  | [d1, d2, d3, d4] => { results := [.lit (.bool false)], args := [d1, d2, d3, d4] }
  | _ => none }
def CureOnWrongFalsely : Prop := cureOnRow.holds Try.pinned (OpenSpec.ofChange cureOnWrong)

/-- 'canebrakelaw04.CureReady': WHATEVER THE INPUT: true; the input reads as it did. -/
def cureReadySpec : ChangeSpec := { name := "cureReady", fn := fun _ => fun
  | [d1, d2] => { results := [.lit (.bool true)], args := [d1, d2] }
  | _ => none }
def cureReadyRow : OpenClaim := { program := "ytfampdiompjmeaa", sum := "44b096efb9f60da4518ae7be62c5369f143f507b3d8c34e008d4d94b2c930c97", func := "canebrake/canebrakelaw04.CureReady", spec := "cureReady", unfollowed := true, recurses := true, apart := false }
def CureReadySaid : Prop := cureReadyRow.holds Try.pinned (OpenSpec.ofChange cureReadySpec)

/-- ITS FALSE NEIGHBOUR: 'it returns false'. Refute it at one input. -/
def cureReadyWrong : ChangeSpec := { name := "cureReady", fn := fun _ => fun
  | [d1, d2] => { results := [.lit (.bool false)], args := [d1, d2] }
  | _ => none }
def CureReadyWrongFalsely : Prop := cureReadyRow.holds Try.pinned (OpenSpec.ofChange cureReadyWrong)

/-- 'canebrakelaw04.CureLater': WHATEVER THE INPUT: true; the input reads as it did. -/
def cureLaterSpec : ChangeSpec := { name := "cureLater", fn := fun _ => fun
  | [d1, d2, d3, d4, d5] => { results := [.lit (.bool true)], args := [d1, d2, d3, d4, d5] }
  | _ => none }
def cureLaterRow : OpenClaim := { program := "ytfampdiompjmeaa", sum := "44b096efb9f60da4518ae7be62c5369f143f507b3d8c34e008d4d94b2c930c97", func := "canebrake/canebrakelaw04.CureLater", spec := "cureLater", unfollowed := true, recurses := true, apart := false }
def CureLaterSaid : Prop := cureLaterRow.holds Try.pinned (OpenSpec.ofChange cureLaterSpec)

/-- ITS FALSE NEIGHBOUR: 'it returns false'. Refute it at one input. -/
def cureLaterWrong : ChangeSpec := { name := "cureLater", fn := fun _ => fun
  | [d1, d2, d3, d4, d5] => { results := [.lit (.bool false)], args := [d1, d2, d3, d4, d5] }
  | _ => none }
def CureLaterWrongFalsely : Prop := cureLaterRow.holds Try.pinned (OpenSpec.ofChange cureLaterWrong)

/-- 'canebrakelaw04.CureOrder': WHATEVER THE INPUT: true; the input reads as it did. -/
def cureOrderSpec : ChangeSpec := { name := "cureOrder", fn := fun _ => fun
  | [d1, d2, d3, d4] => { results := [.lit (.bool true)], args := [d1, d2, d3, d4] }
  | _ => none }
def cureOrderRow : OpenClaim := { program := "ytfampdiompjmeaa", sum := "44b096efb9f60da4518ae7be62c5369f143f507b3d8c34e008d4d94b2c930c97", func := "canebrake/canebrakelaw04.CureOrder", spec := "cureOrder", unfollowed := true, recurses := true, apart := false }
def CureOrderSaid : Prop := cureOrderRow.holds Try.pinned (OpenSpec.ofChange cureOrderSpec)

/-- ITS FALSE NEIGHBOUR: 'it returns false'. Refute it at one input. -/
def cureOrderWrong : ChangeSpec := { name := "cureOrder", fn := fun _ => fun
  | [d1, d2, d3, d4] => { results := [.lit (.bool false)], args := [d1, d2, d3, d4] }
  | _ => none }
def CureOrderWrongFalsely : Prop := cureOrderRow.holds Try.pinned (OpenSpec.ofChange cureOrderWrong)

/-- 'canebrakelaw04.CureLevels': WHATEVER THE INPUT: true; the input reads as it did. -/
def cureLevelsSpec : ChangeSpec := { name := "cureLevels", fn := fun _ => fun
  | [d1, d2, d3] => { results := [.lit (.bool true)], args := [d1, d2, d3] }
  | _ => none }
def cureLevelsRow : OpenClaim := { program := "ytfampdiompjmeaa", sum := "44b096efb9f60da4518ae7be62c5369f143f507b3d8c34e008d4d94b2c930c97", func := "canebrake/canebrakelaw04.CureLevels", spec := "cureLevels", unfollowed := true, recurses := true, apart := false }
def CureLevelsSaid : Prop := cureLevelsRow.holds Try.pinned (OpenSpec.ofChange cureLevelsSpec)

/-- ITS FALSE NEIGHBOUR: 'it returns false'. Refute it at one input. -/
def cureLevelsWrong : ChangeSpec := { name := "cureLevels", fn := fun _ => fun
  | [d1, d2, d3] => { results := [.lit (.bool false)], args := [d1, d2, d3] }
  | _ => none }
def CureLevelsWrongFalsely : Prop := cureLevelsRow.holds Try.pinned (OpenSpec.ofChange cureLevelsWrong)

/-- 'canebrakelaw04.CureDry': WHATEVER THE INPUT: true; the input reads as it did. -/
def cureDrySpec : ChangeSpec := { name := "cureDry", fn := fun _ => fun
  | [d1, d2, d3] => { results := [.lit (.bool true)], args := [d1, d2, d3] }
  | _ => none }
def cureDryRow : OpenClaim := { program := "ytfampdiompjmeaa", sum := "44b096efb9f60da4518ae7be62c5369f143f507b3d8c34e008d4d94b2c930c97", func := "canebrake/canebrakelaw04.CureDry", spec := "cureDry", unfollowed := true, recurses := true, apart := false }
def CureDrySaid : Prop := cureDryRow.holds Try.pinned (OpenSpec.ofChange cureDrySpec)

/-- ITS FALSE NEIGHBOUR: 'it returns false'. Refute it at one input. -/
def cureDryWrong : ChangeSpec := { name := "cureDry", fn := fun _ => fun
  | [d1, d2, d3] => { results := [.lit (.bool false)], args := [d1, d2, d3] }
  | _ => none }
def CureDryWrongFalsely : Prop := cureDryRow.holds Try.pinned (OpenSpec.ofChange cureDryWrong)

/- THE SECOND FORM. 'bulk': how many values and letters a reading holds, each counted each time it is reached (what is shared counts as often as it is met; a slice's spare places count too). A statement '..UptoSaid' is the law's where the arguments, and the package variables that the reading takes, are together of bulk at most 1048576: NARROWER than '..Said'. Prove '..Said' where nothing that the law and all that it calls make is longer than what came in: it says more and counts as full. Else prove '..UptoSaid'. A law counts once. -/
mutual
def uptoBulk {H : Type} : DataW H → Nat
  | .lit (.string bytes) => bytes.length + 1
  | .lit _ => 1
  | .nil => 1
  | .ptr d => uptoBulk d + 1
  | .slice elems spare => uptoBulkAll elems + uptoBulkAll spare + 1
  | .agg parts => uptoBulkAll parts + 1
  | .iface _ d => uptoBulk d + 1
  | .map entries => uptoBulkEntries entries + 1
  | .held _ => 1
def uptoBulkAll {H : Type} : List (DataW H) → Nat
  | [] => 0
  | d :: r => uptoBulk d + uptoBulkAll r
def uptoBulkEntries {H : Type} : List (Lit × DataW H) → Nat
  | [] => 0
  | x :: r => uptoBulkEntry x + uptoBulkEntries r
def uptoBulkEntry {H : Type} : Lit × DataW H → Nat
  | (.string bytes, d) => bytes.length + uptoBulk d + 1
  | (_, d) => uptoBulk d + 1
 end
def uptoSmall : (H : Type) → List (DataW H) → Bool := fun _ ds => decide (uptoBulkAll ds ≤ 1048576)
def OpenSpec.upto (s : _root_.Go.ChangeSpec) : _root_.Go.OpenSpec := { _root_.Go.OpenSpec.ofChange s with cond := some uptoSmall }

/-- 'canebrakelaw04.CureExamples', WHERE WHAT IT READS IS OF BULK AT MOST 1048576: true; the input reads as it did. -/
def cureExamplesUptoRow : OpenClaim := { program := "ytfampdiompjmeaa", sum := "44b096efb9f60da4518ae7be62c5369f143f507b3d8c34e008d4d94b2c930c97", func := "canebrake/canebrakelaw04.CureExamples", spec := "cureExamples", unfollowed := true, recurses := true, apart := false, narrowed := true }
def CureExamplesUptoSaid : Prop := cureExamplesUptoRow.holds Try.pinned (OpenSpec.upto cureExamplesSpec)

/-- 'canebrakelaw04.CureRuns', WHERE WHAT IT READS IS OF BULK AT MOST 1048576: true; the input reads as it did. -/
def cureRunsUptoRow : OpenClaim := { program := "ytfampdiompjmeaa", sum := "44b096efb9f60da4518ae7be62c5369f143f507b3d8c34e008d4d94b2c930c97", func := "canebrake/canebrakelaw04.CureRuns", spec := "cureRuns", unfollowed := true, recurses := true, apart := false, narrowed := true }
def CureRunsUptoSaid : Prop := cureRunsUptoRow.holds Try.pinned (OpenSpec.upto cureRunsSpec)

/-- 'canebrakelaw04.CureTreats', WHERE WHAT IT READS IS OF BULK AT MOST 1048576: true; the input reads as it did. -/
def cureTreatsUptoRow : OpenClaim := { program := "ytfampdiompjmeaa", sum := "44b096efb9f60da4518ae7be62c5369f143f507b3d8c34e008d4d94b2c930c97", func := "canebrake/canebrakelaw04.CureTreats", spec := "cureTreats", unfollowed := true, recurses := true, apart := false, narrowed := true }
def CureTreatsUptoSaid : Prop := cureTreatsUptoRow.holds Try.pinned (OpenSpec.upto cureTreatsSpec)

/-- 'canebrakelaw04.CureDries', WHERE WHAT IT READS IS OF BULK AT MOST 1048576: true; the input reads as it did. -/
def cureDriesUptoRow : OpenClaim := { program := "ytfampdiompjmeaa", sum := "44b096efb9f60da4518ae7be62c5369f143f507b3d8c34e008d4d94b2c930c97", func := "canebrake/canebrakelaw04.CureDries", spec := "cureDries", unfollowed := true, recurses := true, apart := false, narrowed := true }
def CureDriesUptoSaid : Prop := cureDriesUptoRow.holds Try.pinned (OpenSpec.upto cureDriesSpec)

/-- 'canebrakelaw04.CureKept', WHERE WHAT IT READS IS OF BULK AT MOST 1048576: true; the input reads as it did. -/
def cureKeptUptoRow : OpenClaim := { program := "ytfampdiompjmeaa", sum := "44b096efb9f60da4518ae7be62c5369f143f507b3d8c34e008d4d94b2c930c97", func := "canebrake/canebrakelaw04.CureKept", spec := "cureKept", unfollowed := true, recurses := true, apart := false, narrowed := true }
def CureKeptUptoSaid : Prop := cureKeptUptoRow.holds Try.pinned (OpenSpec.upto cureKeptSpec)

/-- 'canebrakelaw04.CureOn', WHERE WHAT IT READS IS OF BULK AT MOST 1048576: true; the input reads as it did. -/
def cureOnUptoRow : OpenClaim := { program := "ytfampdiompjmeaa", sum := "44b096efb9f60da4518ae7be62c5369f143f507b3d8c34e008d4d94b2c930c97", func := "canebrake/canebrakelaw04.CureOn", spec := "cureOn", unfollowed := true, recurses := true, apart := false, narrowed := true }
def CureOnUptoSaid : Prop := cureOnUptoRow.holds Try.pinned (OpenSpec.upto cureOnSpec)

/-- 'canebrakelaw04.CureReady', WHERE WHAT IT READS IS OF BULK AT MOST 1048576: true; the input reads as it did. -/
def cureReadyUptoRow : OpenClaim := { program := "ytfampdiompjmeaa", sum := "44b096efb9f60da4518ae7be62c5369f143f507b3d8c34e008d4d94b2c930c97", func := "canebrake/canebrakelaw04.CureReady", spec := "cureReady", unfollowed := true, recurses := true, apart := false, narrowed := true }
def CureReadyUptoSaid : Prop := cureReadyUptoRow.holds Try.pinned (OpenSpec.upto cureReadySpec)

/-- 'canebrakelaw04.CureLater', WHERE WHAT IT READS IS OF BULK AT MOST 1048576: true; the input reads as it did. -/
def cureLaterUptoRow : OpenClaim := { program := "ytfampdiompjmeaa", sum := "44b096efb9f60da4518ae7be62c5369f143f507b3d8c34e008d4d94b2c930c97", func := "canebrake/canebrakelaw04.CureLater", spec := "cureLater", unfollowed := true, recurses := true, apart := false, narrowed := true }
def CureLaterUptoSaid : Prop := cureLaterUptoRow.holds Try.pinned (OpenSpec.upto cureLaterSpec)

/-- 'canebrakelaw04.CureOrder', WHERE WHAT IT READS IS OF BULK AT MOST 1048576: true; the input reads as it did. -/
def cureOrderUptoRow : OpenClaim := { program := "ytfampdiompjmeaa", sum := "44b096efb9f60da4518ae7be62c5369f143f507b3d8c34e008d4d94b2c930c97", func := "canebrake/canebrakelaw04.CureOrder", spec := "cureOrder", unfollowed := true, recurses := true, apart := false, narrowed := true }
def CureOrderUptoSaid : Prop := cureOrderUptoRow.holds Try.pinned (OpenSpec.upto cureOrderSpec)

/-- 'canebrakelaw04.CureLevels', WHERE WHAT IT READS IS OF BULK AT MOST 1048576: true; the input reads as it did. -/
def cureLevelsUptoRow : OpenClaim := { program := "ytfampdiompjmeaa", sum := "44b096efb9f60da4518ae7be62c5369f143f507b3d8c34e008d4d94b2c930c97", func := "canebrake/canebrakelaw04.CureLevels", spec := "cureLevels", unfollowed := true, recurses := true, apart := false, narrowed := true }
def CureLevelsUptoSaid : Prop := cureLevelsUptoRow.holds Try.pinned (OpenSpec.upto cureLevelsSpec)

/-- 'canebrakelaw04.CureDry', WHERE WHAT IT READS IS OF BULK AT MOST 1048576: true; the input reads as it did. -/
def cureDryUptoRow : OpenClaim := { program := "ytfampdiompjmeaa", sum := "44b096efb9f60da4518ae7be62c5369f143f507b3d8c34e008d4d94b2c930c97", func := "canebrake/canebrakelaw04.CureDry", spec := "cureDry", unfollowed := true, recurses := true, apart := false, narrowed := true }
def CureDryUptoSaid : Prop := cureDryUptoRow.holds Try.pinned (OpenSpec.upto cureDrySpec)

end Rows
end Go.Proofs.Ytfampdiompjmeaa
