/-
  No cell of these rows narrows 'for every input' (looked for: loops, veiled, ifaces, maps, wideKeys, modest, calm, conditions, laid).
  DERIVED. THE GIVEN ROWS OF THIS SEAT. 8 by the template 'for every input the law returns true; each argument reads behind the call as it read before'; 0 by the template 'total and deterministic' (their statements: YtpnnlmaipcjkmaaGreatTotals.lean).
  GIVEN WITH THE SEED: the statements are not yours to turn. If you find one false, say at which input.
  Laid BY PROGRAM, IN A SANDBOX (cutbox-rows.mjs): the forced cells as the released guide's own fill.sh prints them over the translation 0b29a226d18d7c05… (all of the seat's roots in one cut). By AI agents, Wed Nov 11 2026. No macro, syntax, notation, axiom, sorry.
-/
import Derived.Test.YtpnnlmaipcjkmaaGreatChecked
import GoSem.Claim
import GoSem.ClaimJoined
import GoSem.ClaimMapViews
import Derived.JoinedTies
import Derived.KernelRfl
namespace Go.Proofs.YtpnnlmaipcjkmaaGreat
/- THE CELL 'sum', in the pinned program and in every row, IS THE sha256 OF THE DUMP (.gsa) THAT YtpnnlmaipcjkmaaGreatProg.lean LOADS. Nothing in Lean hashes anything: it is a label: what it is worth is what the hold of that sum in a sandbox is worth. -/
noncomputable def Tryz.pinned : Pinned := { name := "ytpnnlmaipcjkmaagreat", sum := "0b29a226d18d7c0501be35387dab952b405722769d9e1bc053f2ae44d1d81c7d", checked := Tryz.checked }
namespace Rows
def none {H : Type} : Left H := { results := [], args := [] }

/-- 'canebrakelaw05.GradeTraces': WHATEVER THE INPUT: true; the input reads as it did. -/
def gradeTracesSpec : ChangeSpec := { name := "gradeTraces", fn := fun _ => fun
  | [d1, d2, d3, d4] => { results := [.lit (.bool true)], args := [d1, d2, d3, d4] }
  | _ => none }
def gradeTracesRow : OpenClaim := { program := "ytpnnlmaipcjkmaagreat", sum := "0b29a226d18d7c0501be35387dab952b405722769d9e1bc053f2ae44d1d81c7d", func := "canebrake/canebrakelaw05.GradeTraces", spec := "gradeTraces", unfollowed := true, recurses := true, plainKeys := false, apart := false }
def GradeTracesSaid : Prop := gradeTracesRow.holds Tryz.pinned (OpenSpec.ofChange gradeTracesSpec)

/-- ITS FALSE NEIGHBOUR: 'it returns false'. Refute it at one input. -/
def gradeTracesWrong : ChangeSpec := { name := "gradeTraces", fn := fun _ => fun
  | [d1, d2, d3, d4] => { results := [.lit (.bool false)], args := [d1, d2, d3, d4] }
  | _ => none }
def GradeTracesWrongFalsely : Prop := gradeTracesRow.holds Tryz.pinned (OpenSpec.ofChange gradeTracesWrong)

/-- 'canebrakelaw05.GradeExamples': WHATEVER THE INPUT: true; the input reads as it did. -/
def gradeExamplesSpec : ChangeSpec := { name := "gradeExamples", fn := fun _ => fun
  | [] => { results := [.lit (.bool true)], args := [] }
  | _ => none }
def gradeExamplesRow : OpenClaim := { program := "ytpnnlmaipcjkmaagreat", sum := "0b29a226d18d7c0501be35387dab952b405722769d9e1bc053f2ae44d1d81c7d", func := "canebrake/canebrakelaw05.GradeExamples", spec := "gradeExamples", unfollowed := true, recurses := true, plainKeys := false, apart := false }
def GradeExamplesSaid : Prop := gradeExamplesRow.holds Tryz.pinned (OpenSpec.ofChange gradeExamplesSpec)

/-- ITS FALSE NEIGHBOUR: 'it returns false'. Refute it at one input. -/
def gradeExamplesWrong : ChangeSpec := { name := "gradeExamples", fn := fun _ => fun
  | [] => { results := [.lit (.bool false)], args := [] }
  | _ => none }
def GradeExamplesWrongFalsely : Prop := gradeExamplesRow.holds Tryz.pinned (OpenSpec.ofChange gradeExamplesWrong)

/-- 'canebrakelaw05.GradeTruth': WHATEVER THE INPUT: true; the input reads as it did. -/
def gradeTruthSpec : ChangeSpec := { name := "gradeTruth", fn := fun _ => fun
  | [d1, d2, d3] => { results := [.lit (.bool true)], args := [d1, d2, d3] }
  | _ => none }
def gradeTruthRow : OpenClaim := { program := "ytpnnlmaipcjkmaagreat", sum := "0b29a226d18d7c0501be35387dab952b405722769d9e1bc053f2ae44d1d81c7d", func := "canebrake/canebrakelaw05.GradeTruth", spec := "gradeTruth", unfollowed := true, recurses := true, plainKeys := false, apart := false }
def GradeTruthSaid : Prop := gradeTruthRow.holds Tryz.pinned (OpenSpec.ofChange gradeTruthSpec)

/-- ITS FALSE NEIGHBOUR: 'it returns false'. Refute it at one input. -/
def gradeTruthWrong : ChangeSpec := { name := "gradeTruth", fn := fun _ => fun
  | [d1, d2, d3] => { results := [.lit (.bool false)], args := [d1, d2, d3] }
  | _ => none }
def GradeTruthWrongFalsely : Prop := gradeTruthRow.holds Tryz.pinned (OpenSpec.ofChange gradeTruthWrong)

/-- 'canebrakelaw05.GradeEnds': WHATEVER THE INPUT: true; the input reads as it did. -/
def gradeEndsSpec : ChangeSpec := { name := "gradeEnds", fn := fun _ => fun
  | [d1, d2, d3, d4, d5] => { results := [.lit (.bool true)], args := [d1, d2, d3, d4, d5] }
  | _ => none }
def gradeEndsRow : OpenClaim := { program := "ytpnnlmaipcjkmaagreat", sum := "0b29a226d18d7c0501be35387dab952b405722769d9e1bc053f2ae44d1d81c7d", func := "canebrake/canebrakelaw05.GradeEnds", spec := "gradeEnds", unfollowed := true, recurses := true, plainKeys := false, apart := false }
def GradeEndsSaid : Prop := gradeEndsRow.holds Tryz.pinned (OpenSpec.ofChange gradeEndsSpec)

/-- ITS FALSE NEIGHBOUR: 'it returns false'. Refute it at one input. -/
def gradeEndsWrong : ChangeSpec := { name := "gradeEnds", fn := fun _ => fun
  | [d1, d2, d3, d4, d5] => { results := [.lit (.bool false)], args := [d1, d2, d3, d4, d5] }
  | _ => none }
def GradeEndsWrongFalsely : Prop := gradeEndsRow.holds Tryz.pinned (OpenSpec.ofChange gradeEndsWrong)

/-- 'canebrakelaw05.GradeMore': WHATEVER THE INPUT: true; the input reads as it did. -/
def gradeMoreSpec : ChangeSpec := { name := "gradeMore", fn := fun _ => fun
  | [d1, d2, d3, d4, d5] => { results := [.lit (.bool true)], args := [d1, d2, d3, d4, d5] }
  | _ => none }
def gradeMoreRow : OpenClaim := { program := "ytpnnlmaipcjkmaagreat", sum := "0b29a226d18d7c0501be35387dab952b405722769d9e1bc053f2ae44d1d81c7d", func := "canebrake/canebrakelaw05.GradeMore", spec := "gradeMore", unfollowed := true, recurses := true, plainKeys := false, apart := false }
def GradeMoreSaid : Prop := gradeMoreRow.holds Tryz.pinned (OpenSpec.ofChange gradeMoreSpec)

/-- ITS FALSE NEIGHBOUR: 'it returns false'. Refute it at one input. -/
def gradeMoreWrong : ChangeSpec := { name := "gradeMore", fn := fun _ => fun
  | [d1, d2, d3, d4, d5] => { results := [.lit (.bool false)], args := [d1, d2, d3, d4, d5] }
  | _ => none }
def GradeMoreWrongFalsely : Prop := gradeMoreRow.holds Tryz.pinned (OpenSpec.ofChange gradeMoreWrong)

/-- 'canebrakelaw05.GradeClash': WHATEVER THE INPUT: true; the input reads as it did. -/
def gradeClashSpec : ChangeSpec := { name := "gradeClash", fn := fun _ => fun
  | [d1, d2, d3, d4] => { results := [.lit (.bool true)], args := [d1, d2, d3, d4] }
  | _ => none }
def gradeClashRow : OpenClaim := { program := "ytpnnlmaipcjkmaagreat", sum := "0b29a226d18d7c0501be35387dab952b405722769d9e1bc053f2ae44d1d81c7d", func := "canebrake/canebrakelaw05.GradeClash", spec := "gradeClash", unfollowed := true, recurses := true, plainKeys := false, apart := false }
def GradeClashSaid : Prop := gradeClashRow.holds Tryz.pinned (OpenSpec.ofChange gradeClashSpec)

/-- ITS FALSE NEIGHBOUR: 'it returns false'. Refute it at one input. -/
def gradeClashWrong : ChangeSpec := { name := "gradeClash", fn := fun _ => fun
  | [d1, d2, d3, d4] => { results := [.lit (.bool false)], args := [d1, d2, d3, d4] }
  | _ => none }
def GradeClashWrongFalsely : Prop := gradeClashRow.holds Tryz.pinned (OpenSpec.ofChange gradeClashWrong)

/-- 'canebrakelaw05.GradeTraced': WHATEVER THE INPUT: true; the input reads as it did. -/
def gradeTracedSpec : ChangeSpec := { name := "gradeTraced", fn := fun _ => fun
  | [d1, d2, d3, d4, d5] => { results := [.lit (.bool true)], args := [d1, d2, d3, d4, d5] }
  | _ => none }
def gradeTracedRow : OpenClaim := { program := "ytpnnlmaipcjkmaagreat", sum := "0b29a226d18d7c0501be35387dab952b405722769d9e1bc053f2ae44d1d81c7d", func := "canebrake/canebrakelaw05.GradeTraced", spec := "gradeTraced", unfollowed := true, recurses := true, plainKeys := false, apart := false }
def GradeTracedSaid : Prop := gradeTracedRow.holds Tryz.pinned (OpenSpec.ofChange gradeTracedSpec)

/-- ITS FALSE NEIGHBOUR: 'it returns false'. Refute it at one input. -/
def gradeTracedWrong : ChangeSpec := { name := "gradeTraced", fn := fun _ => fun
  | [d1, d2, d3, d4, d5] => { results := [.lit (.bool false)], args := [d1, d2, d3, d4, d5] }
  | _ => none }
def GradeTracedWrongFalsely : Prop := gradeTracedRow.holds Tryz.pinned (OpenSpec.ofChange gradeTracedWrong)

/-- 'canebrakelaw05.GradeFit': WHATEVER THE INPUT: true; the input reads as it did. -/
def gradeFitSpec : ChangeSpec := { name := "gradeFit", fn := fun _ => fun
  | [d1, d2, d3, d4, d5] => { results := [.lit (.bool true)], args := [d1, d2, d3, d4, d5] }
  | _ => none }
def gradeFitRow : OpenClaim := { program := "ytpnnlmaipcjkmaagreat", sum := "0b29a226d18d7c0501be35387dab952b405722769d9e1bc053f2ae44d1d81c7d", func := "canebrake/canebrakelaw05.GradeFit", spec := "gradeFit", unfollowed := true, recurses := true, plainKeys := false, apart := false }
def GradeFitSaid : Prop := gradeFitRow.holds Tryz.pinned (OpenSpec.ofChange gradeFitSpec)

/-- ITS FALSE NEIGHBOUR: 'it returns false'. Refute it at one input. -/
def gradeFitWrong : ChangeSpec := { name := "gradeFit", fn := fun _ => fun
  | [d1, d2, d3, d4, d5] => { results := [.lit (.bool false)], args := [d1, d2, d3, d4, d5] }
  | _ => none }
def GradeFitWrongFalsely : Prop := gradeFitRow.holds Tryz.pinned (OpenSpec.ofChange gradeFitWrong)

/- THE SECOND FORM. 'bulk': how many values and letters a reading holds, each counted each time it is reached (what is shared counts as often as it is met; a slice's spare places count too). A statement '..UptoSaid' is the law's where the arguments, and the package variables that the reading takes, are together of bulk at most 1048576: NARROWER than '..Said'. Prove '..Said' where nothing that the law and all that it calls make is longer than what came in: it says more and counts as full. Else prove '..UptoSaid'. A law counts once. -/
mutual
def uptoBulk {H : Type} : DataW H → Nat
  | .lit (.string bytes) => bytes.length + 1
  | .lit _ => 1
  | .nil => 1
  | .ptr d => uptoBulk d + 1
  | .slice elems spare => uptoBulkAll elems + uptoBulkAll spare + 1
  | .agg parts => uptoBulkAll parts + 1
  | .iface _ d => uptoBulk d + 1
  | .map entries => uptoBulkEntries entries + 1
  | .held _ => 1
def uptoBulkAll {H : Type} : List (DataW H) → Nat
  | [] => 0
  | d :: r => uptoBulk d + uptoBulkAll r
def uptoBulkEntries {H : Type} : List (Lit × DataW H) → Nat
  | [] => 0
  | x :: r => uptoBulkEntry x + uptoBulkEntries r
def uptoBulkEntry {H : Type} : Lit × DataW H → Nat
  | (.string bytes, d) => bytes.length + uptoBulk d + 1
  | (_, d) => uptoBulk d + 1
 end
def uptoSmall : (H : Type) → List (DataW H) → Bool := fun _ ds => decide (uptoBulkAll ds ≤ 1048576)
def OpenSpec.upto (s : _root_.Go.ChangeSpec) : _root_.Go.OpenSpec := { _root_.Go.OpenSpec.ofChange s with cond := some uptoSmall }

/-- 'canebrakelaw05.GradeTraces', WHERE WHAT IT READS IS OF BULK AT MOST 1048576: true; the input reads as it did. -/
def gradeTracesUptoRow : OpenClaim := { program := "ytpnnlmaipcjkmaagreat", sum := "0b29a226d18d7c0501be35387dab952b405722769d9e1bc053f2ae44d1d81c7d", func := "canebrake/canebrakelaw05.GradeTraces", spec := "gradeTraces", unfollowed := true, recurses := true, plainKeys := false, apart := false, narrowed := true }
def GradeTracesUptoSaid : Prop := gradeTracesUptoRow.holds Tryz.pinned (OpenSpec.upto gradeTracesSpec)

/-- 'canebrakelaw05.GradeExamples', WHERE WHAT IT READS IS OF BULK AT MOST 1048576: true; the input reads as it did. -/
def gradeExamplesUptoRow : OpenClaim := { program := "ytpnnlmaipcjkmaagreat", sum := "0b29a226d18d7c0501be35387dab952b405722769d9e1bc053f2ae44d1d81c7d", func := "canebrake/canebrakelaw05.GradeExamples", spec := "gradeExamples", unfollowed := true, recurses := true, plainKeys := false, apart := false, narrowed := true }
def GradeExamplesUptoSaid : Prop := gradeExamplesUptoRow.holds Tryz.pinned (OpenSpec.upto gradeExamplesSpec)

/-- 'canebrakelaw05.GradeTruth', WHERE WHAT IT READS IS OF BULK AT MOST 1048576: true; the input reads as it did. -/
def gradeTruthUptoRow : OpenClaim := { program := "ytpnnlmaipcjkmaagreat", sum := "0b29a226d18d7c0501be35387dab952b405722769d9e1bc053f2ae44d1d81c7d", func := "canebrake/canebrakelaw05.GradeTruth", spec := "gradeTruth", unfollowed := true, recurses := true, plainKeys := false, apart := false, narrowed := true }
def GradeTruthUptoSaid : Prop := gradeTruthUptoRow.holds Tryz.pinned (OpenSpec.upto gradeTruthSpec)

/-- 'canebrakelaw05.GradeEnds', WHERE WHAT IT READS IS OF BULK AT MOST 1048576: true; the input reads as it did. -/
def gradeEndsUptoRow : OpenClaim := { program := "ytpnnlmaipcjkmaagreat", sum := "0b29a226d18d7c0501be35387dab952b405722769d9e1bc053f2ae44d1d81c7d", func := "canebrake/canebrakelaw05.GradeEnds", spec := "gradeEnds", unfollowed := true, recurses := true, plainKeys := false, apart := false, narrowed := true }
def GradeEndsUptoSaid : Prop := gradeEndsUptoRow.holds Tryz.pinned (OpenSpec.upto gradeEndsSpec)

/-- 'canebrakelaw05.GradeMore', WHERE WHAT IT READS IS OF BULK AT MOST 1048576: true; the input reads as it did. -/
def gradeMoreUptoRow : OpenClaim := { program := "ytpnnlmaipcjkmaagreat", sum := "0b29a226d18d7c0501be35387dab952b405722769d9e1bc053f2ae44d1d81c7d", func := "canebrake/canebrakelaw05.GradeMore", spec := "gradeMore", unfollowed := true, recurses := true, plainKeys := false, apart := false, narrowed := true }
def GradeMoreUptoSaid : Prop := gradeMoreUptoRow.holds Tryz.pinned (OpenSpec.upto gradeMoreSpec)

/-- 'canebrakelaw05.GradeClash', WHERE WHAT IT READS IS OF BULK AT MOST 1048576: true; the input reads as it did. -/
def gradeClashUptoRow : OpenClaim := { program := "ytpnnlmaipcjkmaagreat", sum := "0b29a226d18d7c0501be35387dab952b405722769d9e1bc053f2ae44d1d81c7d", func := "canebrake/canebrakelaw05.GradeClash", spec := "gradeClash", unfollowed := true, recurses := true, plainKeys := false, apart := false, narrowed := true }
def GradeClashUptoSaid : Prop := gradeClashUptoRow.holds Tryz.pinned (OpenSpec.upto gradeClashSpec)

/-- 'canebrakelaw05.GradeTraced', WHERE WHAT IT READS IS OF BULK AT MOST 1048576: true; the input reads as it did. -/
def gradeTracedUptoRow : OpenClaim := { program := "ytpnnlmaipcjkmaagreat", sum := "0b29a226d18d7c0501be35387dab952b405722769d9e1bc053f2ae44d1d81c7d", func := "canebrake/canebrakelaw05.GradeTraced", spec := "gradeTraced", unfollowed := true, recurses := true, plainKeys := false, apart := false, narrowed := true }
def GradeTracedUptoSaid : Prop := gradeTracedUptoRow.holds Tryz.pinned (OpenSpec.upto gradeTracedSpec)

/-- 'canebrakelaw05.GradeFit', WHERE WHAT IT READS IS OF BULK AT MOST 1048576: true; the input reads as it did. -/
def gradeFitUptoRow : OpenClaim := { program := "ytpnnlmaipcjkmaagreat", sum := "0b29a226d18d7c0501be35387dab952b405722769d9e1bc053f2ae44d1d81c7d", func := "canebrake/canebrakelaw05.GradeFit", spec := "gradeFit", unfollowed := true, recurses := true, plainKeys := false, apart := false, narrowed := true }
def GradeFitUptoSaid : Prop := gradeFitUptoRow.holds Tryz.pinned (OpenSpec.upto gradeFitSpec)

end Rows
end Go.Proofs.YtpnnlmaipcjkmaaGreat
