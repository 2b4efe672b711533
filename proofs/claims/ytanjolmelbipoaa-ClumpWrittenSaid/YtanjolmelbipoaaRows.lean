/-
  No cell of these rows narrows 'for every input' (looked for: loops, veiled, ifaces, maps, wideKeys, modest, calm, conditions, laid).
  DERIVED. THE GIVEN ROWS OF THIS SEAT. 9 by the template 'for every input the law returns true; each argument reads behind the call as it read before'; 0 by the template 'total and deterministic' (their statements: YtanjolmelbipoaaTotals.lean).
  GIVEN WITH THE SEED: the statements are not yours to turn. If you find one false, say at which input.
  Laid BY PROGRAM, IN A SANDBOX (cutbox-rows.mjs): the forced cells as the released guide's own fill.sh prints them over the translation 2bc246b000578d6a… (all of the seat's roots in one cut). By AI agents, Wed Nov 11 2026. No macro, syntax, notation, axiom, sorry.
-/
import Derived.Test.YtanjolmelbipoaaChecked
import GoSem.Claim
import GoSem.ClaimJoined
import GoSem.ClaimMapViews
import Derived.JoinedTies
import Derived.KernelRfl
namespace Go.Proofs.Ytanjolmelbipoaa
/- THE CELL 'sum', in the pinned program and in every row, IS THE sha256 OF THE DUMP (.gsa) THAT YtanjolmelbipoaaProg.lean LOADS. Nothing in Lean hashes anything: it is a label: what it is worth is what the hold of that sum in a sandbox is worth. -/
noncomputable def Try.pinned : Pinned := { name := "ytanjolmelbipoaa", sum := "2bc246b000578d6ae4233663075a6416ff631ef8892b86465aabeb85c42204ba", checked := Try.checked }
namespace Rows
def none {H : Type} : Left H := { results := [], args := [] }

/-- 'canebrakelaw01.ClumpStands': WHATEVER THE INPUT: true; the input reads as it did. -/
def clumpStandsSpec : ChangeSpec := { name := "clumpStands", fn := fun _ => fun
  | [d1, d2] => { results := [.lit (.bool true)], args := [d1, d2] }
  | _ => none }
def clumpStandsRow : OpenClaim := { program := "ytanjolmelbipoaa", sum := "2bc246b000578d6ae4233663075a6416ff631ef8892b86465aabeb85c42204ba", func := "canebrake/canebrakelaw01.ClumpStands", spec := "clumpStands", unfollowed := true, recurses := true, plainKeys := false, apart := false }
def ClumpStandsSaid : Prop := clumpStandsRow.holds Try.pinned (OpenSpec.ofChange clumpStandsSpec)

/-- ITS FALSE NEIGHBOUR: 'it returns false'. Refute it at one input. -/
def clumpStandsWrong : ChangeSpec := { name := "clumpStands", fn := fun _ => fun
  | [d1, d2] => { results := [.lit (.bool false)], args := [d1, d2] }
  | _ => none }
def ClumpStandsWrongFalsely : Prop := clumpStandsRow.holds Try.pinned (OpenSpec.ofChange clumpStandsWrong)

/-- 'canebrakelaw01.ClumpLooks': WHATEVER THE INPUT: true; the input reads as it did. -/
def clumpLooksSpec : ChangeSpec := { name := "clumpLooks", fn := fun _ => fun
  | [d1, d2, d3] => { results := [.lit (.bool true)], args := [d1, d2, d3] }
  | _ => none }
def clumpLooksRow : OpenClaim := { program := "ytanjolmelbipoaa", sum := "2bc246b000578d6ae4233663075a6416ff631ef8892b86465aabeb85c42204ba", func := "canebrake/canebrakelaw01.ClumpLooks", spec := "clumpLooks", unfollowed := true, recurses := true, plainKeys := false, apart := false }
def ClumpLooksSaid : Prop := clumpLooksRow.holds Try.pinned (OpenSpec.ofChange clumpLooksSpec)

/-- ITS FALSE NEIGHBOUR: 'it returns false'. Refute it at one input. -/
def clumpLooksWrong : ChangeSpec := { name := "clumpLooks", fn := fun _ => fun
  | [d1, d2, d3] => { results := [.lit (.bool false)], args := [d1, d2, d3] }
  | _ => none }
def ClumpLooksWrongFalsely : Prop := clumpLooksRow.holds Try.pinned (OpenSpec.ofChange clumpLooksWrong)

/-- 'canebrakelaw01.ClumpMosts': WHATEVER THE INPUT: true; the input reads as it did. -/
def clumpMostsSpec : ChangeSpec := { name := "clumpMosts", fn := fun _ => fun
  | [d1, d2] => { results := [.lit (.bool true)], args := [d1, d2] }
  | _ => none }
def clumpMostsRow : OpenClaim := { program := "ytanjolmelbipoaa", sum := "2bc246b000578d6ae4233663075a6416ff631ef8892b86465aabeb85c42204ba", func := "canebrake/canebrakelaw01.ClumpMosts", spec := "clumpMosts", unfollowed := true, recurses := true, plainKeys := false, apart := false }
def ClumpMostsSaid : Prop := clumpMostsRow.holds Try.pinned (OpenSpec.ofChange clumpMostsSpec)

/-- ITS FALSE NEIGHBOUR: 'it returns false'. Refute it at one input. -/
def clumpMostsWrong : ChangeSpec := { name := "clumpMosts", fn := fun _ => fun
  | [d1, d2] => { results := [.lit (.bool false)], args := [d1, d2] }
  | _ => none }
def ClumpMostsWrongFalsely : Prop := clumpMostsRow.holds Try.pinned (OpenSpec.ofChange clumpMostsWrong)

/-- 'canebrakelaw01.ClumpTrue': WHATEVER THE INPUT: true; the input reads as it did. -/
def clumpTrueSpec : ChangeSpec := { name := "clumpTrue", fn := fun _ => fun
  | [d1, d2, d3, d4] => { results := [.lit (.bool true)], args := [d1, d2, d3, d4] }
  | _ => none }
def clumpTrueRow : OpenClaim := { program := "ytanjolmelbipoaa", sum := "2bc246b000578d6ae4233663075a6416ff631ef8892b86465aabeb85c42204ba", func := "canebrake/canebrakelaw01.ClumpTrue", spec := "clumpTrue", unfollowed := true, recurses := true, plainKeys := false, apart := false }
def ClumpTrueSaid : Prop := clumpTrueRow.holds Try.pinned (OpenSpec.ofChange clumpTrueSpec)

/-- ITS FALSE NEIGHBOUR: 'it returns false'. Refute it at one input. -/
def clumpTrueWrong : ChangeSpec := { name := "clumpTrue", fn := fun _ => fun
  | [d1, d2, d3, d4] => { results := [.lit (.bool false)], args := [d1, d2, d3, d4] }
  | _ => none }
def ClumpTrueWrongFalsely : Prop := clumpTrueRow.holds Try.pinned (OpenSpec.ofChange clumpTrueWrong)

/-- 'canebrakelaw01.ClumpReached': WHATEVER THE INPUT: true; the input reads as it did. -/
def clumpReachedSpec : ChangeSpec := { name := "clumpReached", fn := fun _ => fun
  | [d1, d2, d3] => { results := [.lit (.bool true)], args := [d1, d2, d3] }
  | _ => none }
def clumpReachedRow : OpenClaim := { program := "ytanjolmelbipoaa", sum := "2bc246b000578d6ae4233663075a6416ff631ef8892b86465aabeb85c42204ba", func := "canebrake/canebrakelaw01.ClumpReached", spec := "clumpReached", unfollowed := true, recurses := true, plainKeys := false, apart := false }
def ClumpReachedSaid : Prop := clumpReachedRow.holds Try.pinned (OpenSpec.ofChange clumpReachedSpec)

/-- ITS FALSE NEIGHBOUR: 'it returns false'. Refute it at one input. -/
def clumpReachedWrong : ChangeSpec := { name := "clumpReached", fn := fun _ => fun
  | [d1, d2, d3] => { results := [.lit (.bool false)], args := [d1, d2, d3] }
  | _ => none }
def ClumpReachedWrongFalsely : Prop := clumpReachedRow.holds Try.pinned (OpenSpec.ofChange clumpReachedWrong)

/-- 'canebrakelaw01.ClumpMost': WHATEVER THE INPUT: true; the input reads as it did. -/
def clumpMostSpec : ChangeSpec := { name := "clumpMost", fn := fun _ => fun
  | [d1, d2, d3] => { results := [.lit (.bool true)], args := [d1, d2, d3] }
  | _ => none }
def clumpMostRow : OpenClaim := { program := "ytanjolmelbipoaa", sum := "2bc246b000578d6ae4233663075a6416ff631ef8892b86465aabeb85c42204ba", func := "canebrake/canebrakelaw01.ClumpMost", spec := "clumpMost", unfollowed := true, recurses := true, plainKeys := false, apart := false }
def ClumpMostSaid : Prop := clumpMostRow.holds Try.pinned (OpenSpec.ofChange clumpMostSpec)

/-- ITS FALSE NEIGHBOUR: 'it returns false'. Refute it at one input. -/
def clumpMostWrong : ChangeSpec := { name := "clumpMost", fn := fun _ => fun
  | [d1, d2, d3] => { results := [.lit (.bool false)], args := [d1, d2, d3] }
  | _ => none }
def ClumpMostWrongFalsely : Prop := clumpMostRow.holds Try.pinned (OpenSpec.ofChange clumpMostWrong)

/-- 'canebrakelaw01.ClumpKept': WHATEVER THE INPUT: true; the input reads as it did. -/
def clumpKeptSpec : ChangeSpec := { name := "clumpKept", fn := fun _ => fun
  | [d1, d2] => { results := [.lit (.bool true)], args := [d1, d2] }
  | _ => none }
def clumpKeptRow : OpenClaim := { program := "ytanjolmelbipoaa", sum := "2bc246b000578d6ae4233663075a6416ff631ef8892b86465aabeb85c42204ba", func := "canebrake/canebrakelaw01.ClumpKept", spec := "clumpKept", unfollowed := true, recurses := true, plainKeys := false, apart := false }
def ClumpKeptSaid : Prop := clumpKeptRow.holds Try.pinned (OpenSpec.ofChange clumpKeptSpec)

/-- ITS FALSE NEIGHBOUR: 'it returns false'. Refute it at one input. -/
def clumpKeptWrong : ChangeSpec := { name := "clumpKept", fn := fun _ => fun
  | [d1, d2] => { results := [.lit (.bool false)], args := [d1, d2] }
  | _ => none }
def ClumpKeptWrongFalsely : Prop := clumpKeptRow.holds Try.pinned (OpenSpec.ofChange clumpKeptWrong)

/-- 'canebrakelaw01.ClumpWider': WHATEVER THE INPUT: true; the input reads as it did. -/
def clumpWiderSpec : ChangeSpec := { name := "clumpWider", fn := fun _ => fun
  | [d1, d2, d3] => { results := [.lit (.bool true)], args := [d1, d2, d3] }
  | _ => none }
def clumpWiderRow : OpenClaim := { program := "ytanjolmelbipoaa", sum := "2bc246b000578d6ae4233663075a6416ff631ef8892b86465aabeb85c42204ba", func := "canebrake/canebrakelaw01.ClumpWider", spec := "clumpWider", unfollowed := true, recurses := true, plainKeys := false, apart := false }
def ClumpWiderSaid : Prop := clumpWiderRow.holds Try.pinned (OpenSpec.ofChange clumpWiderSpec)

/-- ITS FALSE NEIGHBOUR: 'it returns false'. Refute it at one input. -/
def clumpWiderWrong : ChangeSpec := { name := "clumpWider", fn := fun _ => fun
  | [d1, d2, d3] => { results := [.lit (.bool false)], args := [d1, d2, d3] }
  | _ => none }
def ClumpWiderWrongFalsely : Prop := clumpWiderRow.holds Try.pinned (OpenSpec.ofChange clumpWiderWrong)

/-- 'canebrakelaw01.ClumpWritten': WHATEVER THE INPUT: true; the input reads as it did. -/
def clumpWrittenSpec : ChangeSpec := { name := "clumpWritten", fn := fun _ => fun
  | [d1, d2, d3, d4] => { results := [.lit (.bool true)], args := [d1, d2, d3, d4] }
  | _ => none }
def clumpWrittenRow : OpenClaim := { program := "ytanjolmelbipoaa", sum := "2bc246b000578d6ae4233663075a6416ff631ef8892b86465aabeb85c42204ba", func := "canebrake/canebrakelaw01.ClumpWritten", spec := "clumpWritten", unfollowed := true, recurses := true, plainKeys := false, apart := false }
def ClumpWrittenSaid : Prop := clumpWrittenRow.holds Try.pinned (OpenSpec.ofChange clumpWrittenSpec)

/-- ITS FALSE NEIGHBOUR: 'it returns false'. Refute it at one input. -/
def clumpWrittenWrong : ChangeSpec := { name := "clumpWritten", fn := fun _ => fun
  | [d1, d2, d3, d4] => { results := [.lit (.bool false)], args := [d1, d2, d3, d4] }
  | _ => none }
def ClumpWrittenWrongFalsely : Prop := clumpWrittenRow.holds Try.pinned (OpenSpec.ofChange clumpWrittenWrong)

/- THE SECOND FORM. 'bulk': how many values and letters a reading holds, each counted each time it is reached (what is shared counts as often as it is met; a slice's spare places count too). A statement '..UptoSaid' is the law's where the arguments, and the package variables that the reading takes, are together of bulk at most 1048576: NARROWER than '..Said'. Prove '..Said' where nothing that the law and all that it calls make is longer than what came in: it says more and counts as full. Else prove '..UptoSaid'. A law counts once. -/
mutual
def uptoBulk {H : Type} : DataW H → Nat
  | .lit (.string bytes) => bytes.length + 1
  | .lit _ => 1
  | .nil => 1
  | .ptr d => uptoBulk d + 1
  | .slice elems spare => uptoBulkAll elems + uptoBulkAll spare + 1
  | .agg parts => uptoBulkAll parts + 1
  | .iface _ d => uptoBulk d + 1
  | .map entries => uptoBulkEntries entries + 1
  | .held _ => 1
def uptoBulkAll {H : Type} : List (DataW H) → Nat
  | [] => 0
  | d :: r => uptoBulk d + uptoBulkAll r
def uptoBulkEntries {H : Type} : List (Lit × DataW H) → Nat
  | [] => 0
  | x :: r => uptoBulkEntry x + uptoBulkEntries r
def uptoBulkEntry {H : Type} : Lit × DataW H → Nat
  | (.string bytes, d) => bytes.length + uptoBulk d + 1
  | (_, d) => uptoBulk d + 1
 end
def uptoSmall : (H : Type) → List (DataW H) → Bool := fun _ ds => decide (uptoBulkAll ds ≤ 1048576)
def OpenSpec.upto (s : _root_.Go.ChangeSpec) : _root_.Go.OpenSpec := { _root_.Go.OpenSpec.ofChange s with cond := some uptoSmall }

/-- 'canebrakelaw01.ClumpStands', WHERE WHAT IT READS IS OF BULK AT MOST 1048576: true; the input reads as it did. -/
def clumpStandsUptoRow : OpenClaim := { program := "ytanjolmelbipoaa", sum := "2bc246b000578d6ae4233663075a6416ff631ef8892b86465aabeb85c42204ba", func := "canebrake/canebrakelaw01.ClumpStands", spec := "clumpStands", unfollowed := true, recurses := true, plainKeys := false, apart := false, narrowed := true }
def ClumpStandsUptoSaid : Prop := clumpStandsUptoRow.holds Try.pinned (OpenSpec.upto clumpStandsSpec)

/-- 'canebrakelaw01.ClumpLooks', WHERE WHAT IT READS IS OF BULK AT MOST 1048576: true; the input reads as it did. -/
def clumpLooksUptoRow : OpenClaim := { program := "ytanjolmelbipoaa", sum := "2bc246b000578d6ae4233663075a6416ff631ef8892b86465aabeb85c42204ba", func := "canebrake/canebrakelaw01.ClumpLooks", spec := "clumpLooks", unfollowed := true, recurses := true, plainKeys := false, apart := false, narrowed := true }
def ClumpLooksUptoSaid : Prop := clumpLooksUptoRow.holds Try.pinned (OpenSpec.upto clumpLooksSpec)

/-- 'canebrakelaw01.ClumpMosts', WHERE WHAT IT READS IS OF BULK AT MOST 1048576: true; the input reads as it did. -/
def clumpMostsUptoRow : OpenClaim := { program := "ytanjolmelbipoaa", sum := "2bc246b000578d6ae4233663075a6416ff631ef8892b86465aabeb85c42204ba", func := "canebrake/canebrakelaw01.ClumpMosts", spec := "clumpMosts", unfollowed := true, recurses := true, plainKeys := false, apart := false, narrowed := true }
def ClumpMostsUptoSaid : Prop := clumpMostsUptoRow.holds Try.pinned (OpenSpec.upto clumpMostsSpec)

/-- 'canebrakelaw01.ClumpTrue', WHERE WHAT IT READS IS OF BULK AT MOST 1048576: true; the input reads as it did. -/
def clumpTrueUptoRow : OpenClaim := { program := "ytanjolmelbipoaa", sum := "2bc246b000578d6ae4233663075a6416ff631ef8892b86465aabeb85c42204ba", func := "canebrake/canebrakelaw01.ClumpTrue", spec := "clumpTrue", unfollowed := true, recurses := true, plainKeys := false, apart := false, narrowed := true }
def ClumpTrueUptoSaid : Prop := clumpTrueUptoRow.holds Try.pinned (OpenSpec.upto clumpTrueSpec)

/-- 'canebrakelaw01.ClumpReached', WHERE WHAT IT READS IS OF BULK AT MOST 1048576: true; the input reads as it did. -/
def clumpReachedUptoRow : OpenClaim := { program := "ytanjolmelbipoaa", sum := "2bc246b000578d6ae4233663075a6416ff631ef8892b86465aabeb85c42204ba", func := "canebrake/canebrakelaw01.ClumpReached", spec := "clumpReached", unfollowed := true, recurses := true, plainKeys := false, apart := false, narrowed := true }
def ClumpReachedUptoSaid : Prop := clumpReachedUptoRow.holds Try.pinned (OpenSpec.upto clumpReachedSpec)

/-- 'canebrakelaw01.ClumpMost', WHERE WHAT IT READS IS OF BULK AT MOST 1048576: true; the input reads as it did. -/
def clumpMostUptoRow : OpenClaim := { program := "ytanjolmelbipoaa", sum := "2bc246b000578d6ae4233663075a6416ff631ef8892b86465aabeb85c42204ba", func := "canebrake/canebrakelaw01.ClumpMost", spec := "clumpMost", unfollowed := true, recurses := true, plainKeys := false, apart := false, narrowed := true }
def ClumpMostUptoSaid : Prop := clumpMostUptoRow.holds Try.pinned (OpenSpec.upto clumpMostSpec)

/-- 'canebrakelaw01.ClumpKept', WHERE WHAT IT READS IS OF BULK AT MOST 1048576: true; the input reads as it did. -/
def clumpKeptUptoRow : OpenClaim := { program := "ytanjolmelbipoaa", sum := "2bc246b000578d6ae4233663075a6416ff631ef8892b86465aabeb85c42204ba", func := "canebrake/canebrakelaw01.ClumpKept", spec := "clumpKept", unfollowed := true, recurses := true, plainKeys := false, apart := false, narrowed := true }
def ClumpKeptUptoSaid : Prop := clumpKeptUptoRow.holds Try.pinned (OpenSpec.upto clumpKeptSpec)

/-- 'canebrakelaw01.ClumpWider', WHERE WHAT IT READS IS OF BULK AT MOST 1048576: true; the input reads as it did. -/
def clumpWiderUptoRow : OpenClaim := { program := "ytanjolmelbipoaa", sum := "2bc246b000578d6ae4233663075a6416ff631ef8892b86465aabeb85c42204ba", func := "canebrake/canebrakelaw01.ClumpWider", spec := "clumpWider", unfollowed := true, recurses := true, plainKeys := false, apart := false, narrowed := true }
def ClumpWiderUptoSaid : Prop := clumpWiderUptoRow.holds Try.pinned (OpenSpec.upto clumpWiderSpec)

/-- 'canebrakelaw01.ClumpWritten', WHERE WHAT IT READS IS OF BULK AT MOST 1048576: true; the input reads as it did. -/
def clumpWrittenUptoRow : OpenClaim := { program := "ytanjolmelbipoaa", sum := "2bc246b000578d6ae4233663075a6416ff631ef8892b86465aabeb85c42204ba", func := "canebrake/canebrakelaw01.ClumpWritten", spec := "clumpWritten", unfollowed := true, recurses := true, plainKeys := false, apart := false, narrowed := true }
def ClumpWrittenUptoSaid : Prop := clumpWrittenUptoRow.holds Try.pinned (OpenSpec.upto clumpWrittenSpec)

end Rows
end Go.Proofs.Ytanjolmelbipoaa
