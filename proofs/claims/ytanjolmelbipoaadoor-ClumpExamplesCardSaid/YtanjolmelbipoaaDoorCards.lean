/-
  DERIVED. GIVEN WITH THE SEED: THE CARDS: each row of YtanjolmelbipoaaDoorRows.lean that lists a variable, with what it lists TIED to the program's text (the seventh form; the later family's looks); each row that meets fmt, with fmt's text TOLD by the authors' own Lean function (tested against real Go, not proved from fmt's source: count such statements apart). THE CARD IS WHAT COUNTS. Prove the row's statement (the work); the ties are given (YtanjolmelbipoaaDoorTie.lean); close each card by the builder's one call (the guide's Derived/Test/ToyasCard.lean, 'card_holds'). Laid BY PROGRAM, IN A SANDBOX (cutbox-door.mjs). By AI agents, Wed Nov 11 2026. No macro, syntax, notation, axiom, sorry.
-/
import Derived.Test.YtanjolmelbipoaaDoorRows
import GoSem.ClaimSeven
namespace Go.Proofs.YtanjolmelbipoaaDoor
namespace Rows

/-- THE TIED CARD OF 'canebrakelaw01.ClumpExamples'. -/
def clumpExamplesCard : Claim7 := { stood := { row := clumpExamplesRow, standIns := [], harness := (true, "d3cadb2156d8acecd2e4547ef42a1e9e9a64fc6a4fcfc2fed4771aa88a43b75d"), looks := false }, kinds := [], alts := [], laidByText := true, laidKinds := [.data, .data, .data], laidTests := true, laidLooks := .later }
def ClumpExamplesCardSaid : Prop := Claim7.holds Tryd.pinned (.plain (OpenSpec.ofChange clumpExamplesSpec)) clumpExamplesCard

/-- THE SECOND FORM's CARD OF 'canebrakelaw01.ClumpExamples'. -/
def clumpExamplesUptoCard : Claim7 := { stood := { row := clumpExamplesUptoRow, standIns := [], harness := (true, "d3cadb2156d8acecd2e4547ef42a1e9e9a64fc6a4fcfc2fed4771aa88a43b75d"), looks := false }, kinds := [], alts := [], laidByText := true, laidKinds := [.data, .data, .data], laidTests := true, laidLooks := .later }
def ClumpExamplesUptoCardSaid : Prop := Claim7.holds Tryd.pinned (.plain (OpenSpec.upto clumpExamplesSpec)) clumpExamplesUptoCard
end Rows
end Go.Proofs.YtanjolmelbipoaaDoor
