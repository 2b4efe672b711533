/-
  No cell of these rows narrows 'for every input' (looked for: loops, veiled, ifaces, maps, wideKeys, modest, calm, conditions, laid).
  DERIVED. THE GIVEN ROWS OF THIS SEAT. 8 by the template 'for every input the law returns true; each argument reads behind the call as it read before'; 0 by the template 'total and deterministic' (their statements: YtepkkhdfobhhjaaTotals.lean).
  GIVEN WITH THE SEED: the statements are not yours to turn. If you find one false, say at which input.
  Laid BY PROGRAM, IN A SANDBOX (cutbox-rows.mjs): the forced cells as the released guide's own fill.sh prints them over the translation b2b38eaf91d67479… (all of the seat's roots in one cut). By AI agents, Wed Nov 11 2026. No macro, syntax, notation, axiom, sorry.
-/
import Derived.Test.YtepkkhdfobhhjaaChecked
import GoSem.Claim
import GoSem.ClaimJoined
import GoSem.ClaimMapViews
import Derived.JoinedTies
import Derived.KernelRfl
namespace Go.Proofs.Ytepkkhdfobhhjaa
/- THE CELL 'sum', in the pinned program and in every row, IS THE sha256 OF THE DUMP (.gsa) THAT YtepkkhdfobhhjaaProg.lean LOADS. Nothing in Lean hashes anything: it is a label: what it is worth is what the hold of that sum in a sandbox is worth. -/
noncomputable def Try.pinned : Pinned := { name := "ytepkkhdfobhhjaa", sum := "b2b38eaf91d67479782fbea9bc4aad4eebbc4f89303e4179221e087db6381626", checked := Try.checked }
namespace Rows
def none {H : Type} : Left H := { results := [], args := [] }

/-- 'canebrakelaw07.StockSaws': WHATEVER THE INPUT: true; the input reads as it did. -/
def stockSawsSpec : ChangeSpec := { name := "stockSaws", fn := fun _ => fun
  | [d1, d2] => { results := [.lit (.bool true)], args := [d1, d2] }
  | _ => none }
def stockSawsRow : OpenClaim := { program := "ytepkkhdfobhhjaa", sum := "b2b38eaf91d67479782fbea9bc4aad4eebbc4f89303e4179221e087db6381626", func := "canebrake/canebrakelaw07.StockSaws", spec := "stockSaws", unfollowed := true, recurses := true, plainKeys := false, apart := false }
def StockSawsSaid : Prop := stockSawsRow.holds Try.pinned (OpenSpec.ofChange stockSawsSpec)

/-- ITS FALSE NEIGHBOUR: 'it returns false'. Refute it at one input. -/
def stockSawsWrong : ChangeSpec := { name := "stockSaws", fn := fun _ => fun
  | [d1, d2] => { results := [.lit (.bool false)], args := [d1, d2] }
  | _ => none }
def StockSawsWrongFalsely : Prop := stockSawsRow.holds Try.pinned (OpenSpec.ofChange stockSawsWrong)

/-- 'canebrakelaw07.StockLeasts': WHATEVER THE INPUT: true; the input reads as it did. -/
def stockLeastsSpec : ChangeSpec := { name := "stockLeasts", fn := fun _ => fun
  | [d1, d2, d3] => { results := [.lit (.bool true)], args := [d1, d2, d3] }
  | _ => none }
def stockLeastsRow : OpenClaim := { program := "ytepkkhdfobhhjaa", sum := "b2b38eaf91d67479782fbea9bc4aad4eebbc4f89303e4179221e087db6381626", func := "canebrake/canebrakelaw07.StockLeasts", spec := "stockLeasts", unfollowed := true, recurses := true, plainKeys := false, apart := false }
def StockLeastsSaid : Prop := stockLeastsRow.holds Try.pinned (OpenSpec.ofChange stockLeastsSpec)

/-- ITS FALSE NEIGHBOUR: 'it returns false'. Refute it at one input. -/
def stockLeastsWrong : ChangeSpec := { name := "stockLeasts", fn := fun _ => fun
  | [d1, d2, d3] => { results := [.lit (.bool false)], args := [d1, d2, d3] }
  | _ => none }
def StockLeastsWrongFalsely : Prop := stockLeastsRow.holds Try.pinned (OpenSpec.ofChange stockLeastsWrong)

/-- 'canebrakelaw07.StockExamples': WHATEVER THE INPUT: true; the input reads as it did. -/
def stockExamplesSpec : ChangeSpec := { name := "stockExamples", fn := fun _ => fun
  | [] => { results := [.lit (.bool true)], args := [] }
  | _ => none }
def stockExamplesRow : OpenClaim := { program := "ytepkkhdfobhhjaa", sum := "b2b38eaf91d67479782fbea9bc4aad4eebbc4f89303e4179221e087db6381626", func := "canebrake/canebrakelaw07.StockExamples", spec := "stockExamples", unfollowed := true, recurses := true, plainKeys := false, apart := false }
def StockExamplesSaid : Prop := stockExamplesRow.holds Try.pinned (OpenSpec.ofChange stockExamplesSpec)

/-- ITS FALSE NEIGHBOUR: 'it returns false'. Refute it at one input. -/
def stockExamplesWrong : ChangeSpec := { name := "stockExamples", fn := fun _ => fun
  | [] => { results := [.lit (.bool false)], args := [] }
  | _ => none }
def StockExamplesWrongFalsely : Prop := stockExamplesRow.holds Try.pinned (OpenSpec.ofChange stockExamplesWrong)

/-- 'canebrakelaw07.StockLeast': WHATEVER THE INPUT: true; the input reads as it did. -/
def stockLeastSpec : ChangeSpec := { name := "stockLeast", fn := fun _ => fun
  | [d1, d2, d3] => { results := [.lit (.bool true)], args := [d1, d2, d3] }
  | _ => none }
def stockLeastRow : OpenClaim := { program := "ytepkkhdfobhhjaa", sum := "b2b38eaf91d67479782fbea9bc4aad4eebbc4f89303e4179221e087db6381626", func := "canebrake/canebrakelaw07.StockLeast", spec := "stockLeast", unfollowed := true, recurses := true, plainKeys := false, apart := false }
def StockLeastSaid : Prop := stockLeastRow.holds Try.pinned (OpenSpec.ofChange stockLeastSpec)

/-- ITS FALSE NEIGHBOUR: 'it returns false'. Refute it at one input. -/
def stockLeastWrong : ChangeSpec := { name := "stockLeast", fn := fun _ => fun
  | [d1, d2, d3] => { results := [.lit (.bool false)], args := [d1, d2, d3] }
  | _ => none }
def StockLeastWrongFalsely : Prop := stockLeastRow.holds Try.pinned (OpenSpec.ofChange stockLeastWrong)

/-- 'canebrakelaw07.StockProof': WHATEVER THE INPUT: true; the input reads as it did. -/
def stockProofSpec : ChangeSpec := { name := "stockProof", fn := fun _ => fun
  | [d1, d2, d3] => { results := [.lit (.bool true)], args := [d1, d2, d3] }
  | _ => none }
def stockProofRow : OpenClaim := { program := "ytepkkhdfobhhjaa", sum := "b2b38eaf91d67479782fbea9bc4aad4eebbc4f89303e4179221e087db6381626", func := "canebrake/canebrakelaw07.StockProof", spec := "stockProof", unfollowed := true, recurses := true, plainKeys := false, apart := false }
def StockProofSaid : Prop := stockProofRow.holds Try.pinned (OpenSpec.ofChange stockProofSpec)

/-- ITS FALSE NEIGHBOUR: 'it returns false'. Refute it at one input. -/
def stockProofWrong : ChangeSpec := { name := "stockProof", fn := fun _ => fun
  | [d1, d2, d3] => { results := [.lit (.bool false)], args := [d1, d2, d3] }
  | _ => none }
def StockProofWrongFalsely : Prop := stockProofRow.holds Try.pinned (OpenSpec.ofChange stockProofWrong)

/-- 'canebrakelaw07.StockMore': WHATEVER THE INPUT: true; the input reads as it did. -/
def stockMoreSpec : ChangeSpec := { name := "stockMore", fn := fun _ => fun
  | [d1, d2, d3, d4, d5] => { results := [.lit (.bool true)], args := [d1, d2, d3, d4, d5] }
  | _ => none }
def stockMoreRow : OpenClaim := { program := "ytepkkhdfobhhjaa", sum := "b2b38eaf91d67479782fbea9bc4aad4eebbc4f89303e4179221e087db6381626", func := "canebrake/canebrakelaw07.StockMore", spec := "stockMore", unfollowed := true, recurses := true, plainKeys := false, apart := false }
def StockMoreSaid : Prop := stockMoreRow.holds Try.pinned (OpenSpec.ofChange stockMoreSpec)

/-- ITS FALSE NEIGHBOUR: 'it returns false'. Refute it at one input. -/
def stockMoreWrong : ChangeSpec := { name := "stockMore", fn := fun _ => fun
  | [d1, d2, d3, d4, d5] => { results := [.lit (.bool false)], args := [d1, d2, d3, d4, d5] }
  | _ => none }
def StockMoreWrongFalsely : Prop := stockMoreRow.holds Try.pinned (OpenSpec.ofChange stockMoreWrong)

/-- 'canebrakelaw07.StockTurned': WHATEVER THE INPUT: true; the input reads as it did. -/
def stockTurnedSpec : ChangeSpec := { name := "stockTurned", fn := fun _ => fun
  | [d1, d2, d3] => { results := [.lit (.bool true)], args := [d1, d2, d3] }
  | _ => none }
def stockTurnedRow : OpenClaim := { program := "ytepkkhdfobhhjaa", sum := "b2b38eaf91d67479782fbea9bc4aad4eebbc4f89303e4179221e087db6381626", func := "canebrake/canebrakelaw07.StockTurned", spec := "stockTurned", unfollowed := true, recurses := true, plainKeys := false, apart := false }
def StockTurnedSaid : Prop := stockTurnedRow.holds Try.pinned (OpenSpec.ofChange stockTurnedSpec)

/-- ITS FALSE NEIGHBOUR: 'it returns false'. Refute it at one input. -/
def stockTurnedWrong : ChangeSpec := { name := "stockTurned", fn := fun _ => fun
  | [d1, d2, d3] => { results := [.lit (.bool false)], args := [d1, d2, d3] }
  | _ => none }
def StockTurnedWrongFalsely : Prop := stockTurnedRow.holds Try.pinned (OpenSpec.ofChange stockTurnedWrong)

/-- 'canebrakelaw07.StockSawn': WHATEVER THE INPUT: true; the input reads as it did. -/
def stockSawnSpec : ChangeSpec := { name := "stockSawn", fn := fun _ => fun
  | [d1, d2] => { results := [.lit (.bool true)], args := [d1, d2] }
  | _ => none }
def stockSawnRow : OpenClaim := { program := "ytepkkhdfobhhjaa", sum := "b2b38eaf91d67479782fbea9bc4aad4eebbc4f89303e4179221e087db6381626", func := "canebrake/canebrakelaw07.StockSawn", spec := "stockSawn", unfollowed := true, recurses := true, plainKeys := false, apart := false }
def StockSawnSaid : Prop := stockSawnRow.holds Try.pinned (OpenSpec.ofChange stockSawnSpec)

/-- ITS FALSE NEIGHBOUR: 'it returns false'. Refute it at one input. -/
def stockSawnWrong : ChangeSpec := { name := "stockSawn", fn := fun _ => fun
  | [d1, d2] => { results := [.lit (.bool false)], args := [d1, d2] }
  | _ => none }
def StockSawnWrongFalsely : Prop := stockSawnRow.holds Try.pinned (OpenSpec.ofChange stockSawnWrong)

/- THE SECOND FORM. 'bulk': how many values and letters a reading holds, each counted each time it is reached (what is shared counts as often as it is met; a slice's spare places count too). A statement '..UptoSaid' is the law's where the arguments, and the package variables that the reading takes, are together of bulk at most 1048576: NARROWER than '..Said'. Prove '..Said' where nothing that the law and all that it calls make is longer than what came in: it says more and counts as full. Else prove '..UptoSaid'. A law counts once. -/
mutual
def uptoBulk {H : Type} : DataW H → Nat
  | .lit (.string bytes) => bytes.length + 1
  | .lit _ => 1
  | .nil => 1
  | .ptr d => uptoBulk d + 1
  | .slice elems spare => uptoBulkAll elems + uptoBulkAll spare + 1
  | .agg parts => uptoBulkAll parts + 1
  | .iface _ d => uptoBulk d + 1
  | .map entries => uptoBulkEntries entries + 1
  | .held _ => 1
def uptoBulkAll {H : Type} : List (DataW H) → Nat
  | [] => 0
  | d :: r => uptoBulk d + uptoBulkAll r
def uptoBulkEntries {H : Type} : List (Lit × DataW H) → Nat
  | [] => 0
  | x :: r => uptoBulkEntry x + uptoBulkEntries r
def uptoBulkEntry {H : Type} : Lit × DataW H → Nat
  | (.string bytes, d) => bytes.length + uptoBulk d + 1
  | (_, d) => uptoBulk d + 1
 end
def uptoSmall : (H : Type) → List (DataW H) → Bool := fun _ ds => decide (uptoBulkAll ds ≤ 1048576)
def OpenSpec.upto (s : _root_.Go.ChangeSpec) : _root_.Go.OpenSpec := { _root_.Go.OpenSpec.ofChange s with cond := some uptoSmall }

/-- 'canebrakelaw07.StockSaws', WHERE WHAT IT READS IS OF BULK AT MOST 1048576: true; the input reads as it did. -/
def stockSawsUptoRow : OpenClaim := { program := "ytepkkhdfobhhjaa", sum := "b2b38eaf91d67479782fbea9bc4aad4eebbc4f89303e4179221e087db6381626", func := "canebrake/canebrakelaw07.StockSaws", spec := "stockSaws", unfollowed := true, recurses := true, plainKeys := false, apart := false, narrowed := true }
def StockSawsUptoSaid : Prop := stockSawsUptoRow.holds Try.pinned (OpenSpec.upto stockSawsSpec)

/-- 'canebrakelaw07.StockLeasts', WHERE WHAT IT READS IS OF BULK AT MOST 1048576: true; the input reads as it did. -/
def stockLeastsUptoRow : OpenClaim := { program := "ytepkkhdfobhhjaa", sum := "b2b38eaf91d67479782fbea9bc4aad4eebbc4f89303e4179221e087db6381626", func := "canebrake/canebrakelaw07.StockLeasts", spec := "stockLeasts", unfollowed := true, recurses := true, plainKeys := false, apart := false, narrowed := true }
def StockLeastsUptoSaid : Prop := stockLeastsUptoRow.holds Try.pinned (OpenSpec.upto stockLeastsSpec)

/-- 'canebrakelaw07.StockExamples', WHERE WHAT IT READS IS OF BULK AT MOST 1048576: true; the input reads as it did. -/
def stockExamplesUptoRow : OpenClaim := { program := "ytepkkhdfobhhjaa", sum := "b2b38eaf91d67479782fbea9bc4aad4eebbc4f89303e4179221e087db6381626", func := "canebrake/canebrakelaw07.StockExamples", spec := "stockExamples", unfollowed := true, recurses := true, plainKeys := false, apart := false, narrowed := true }
def StockExamplesUptoSaid : Prop := stockExamplesUptoRow.holds Try.pinned (OpenSpec.upto stockExamplesSpec)

/-- 'canebrakelaw07.StockLeast', WHERE WHAT IT READS IS OF BULK AT MOST 1048576: true; the input reads as it did. -/
def stockLeastUptoRow : OpenClaim := { program := "ytepkkhdfobhhjaa", sum := "b2b38eaf91d67479782fbea9bc4aad4eebbc4f89303e4179221e087db6381626", func := "canebrake/canebrakelaw07.StockLeast", spec := "stockLeast", unfollowed := true, recurses := true, plainKeys := false, apart := false, narrowed := true }
def StockLeastUptoSaid : Prop := stockLeastUptoRow.holds Try.pinned (OpenSpec.upto stockLeastSpec)

/-- 'canebrakelaw07.StockProof', WHERE WHAT IT READS IS OF BULK AT MOST 1048576: true; the input reads as it did. -/
def stockProofUptoRow : OpenClaim := { program := "ytepkkhdfobhhjaa", sum := "b2b38eaf91d67479782fbea9bc4aad4eebbc4f89303e4179221e087db6381626", func := "canebrake/canebrakelaw07.StockProof", spec := "stockProof", unfollowed := true, recurses := true, plainKeys := false, apart := false, narrowed := true }
def StockProofUptoSaid : Prop := stockProofUptoRow.holds Try.pinned (OpenSpec.upto stockProofSpec)

/-- 'canebrakelaw07.StockMore', WHERE WHAT IT READS IS OF BULK AT MOST 1048576: true; the input reads as it did. -/
def stockMoreUptoRow : OpenClaim := { program := "ytepkkhdfobhhjaa", sum := "b2b38eaf91d67479782fbea9bc4aad4eebbc4f89303e4179221e087db6381626", func := "canebrake/canebrakelaw07.StockMore", spec := "stockMore", unfollowed := true, recurses := true, plainKeys := false, apart := false, narrowed := true }
def StockMoreUptoSaid : Prop := stockMoreUptoRow.holds Try.pinned (OpenSpec.upto stockMoreSpec)

/-- 'canebrakelaw07.StockTurned', WHERE WHAT IT READS IS OF BULK AT MOST 1048576: true; the input reads as it did. -/
def stockTurnedUptoRow : OpenClaim := { program := "ytepkkhdfobhhjaa", sum := "b2b38eaf91d67479782fbea9bc4aad4eebbc4f89303e4179221e087db6381626", func := "canebrake/canebrakelaw07.StockTurned", spec := "stockTurned", unfollowed := true, recurses := true, plainKeys := false, apart := false, narrowed := true }
def StockTurnedUptoSaid : Prop := stockTurnedUptoRow.holds Try.pinned (OpenSpec.upto stockTurnedSpec)

/-- 'canebrakelaw07.StockSawn', WHERE WHAT IT READS IS OF BULK AT MOST 1048576: true; the input reads as it did. -/
def stockSawnUptoRow : OpenClaim := { program := "ytepkkhdfobhhjaa", sum := "b2b38eaf91d67479782fbea9bc4aad4eebbc4f89303e4179221e087db6381626", func := "canebrake/canebrakelaw07.StockSawn", spec := "stockSawn", unfollowed := true, recurses := true, plainKeys := false, apart := false, narrowed := true }
def StockSawnUptoSaid : Prop := stockSawnUptoRow.holds Try.pinned (OpenSpec.upto stockSawnSpec)

end Rows
end Go.Proofs.Ytepkkhdfobhhjaa
