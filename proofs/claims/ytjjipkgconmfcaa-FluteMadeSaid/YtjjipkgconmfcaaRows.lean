/-
  No cell of these rows narrows 'for every input' (looked for: loops, veiled, ifaces, maps, wideKeys, modest, calm, conditions, laid).
  DERIVED. THE GIVEN ROWS OF THIS SEAT. 10 by the template 'for every input the law returns true; each argument reads behind the call as it read before'; 0 by the template 'total and deterministic' (their statements: YtjjipkgconmfcaaTotals.lean).
  GIVEN WITH THE SEED: the statements are not yours to turn. If you find one false, say at which input.
  Laid BY PROGRAM, IN A SANDBOX (cutbox-rows.mjs): the forced cells as the released guide's own fill.sh prints them over the translation 6d664bdf779e6205… (all of the seat's roots in one cut). By AI agents, Wed Nov 11 2026. No macro, syntax, notation, axiom, sorry.
-/
import Derived.Test.YtjjipkgconmfcaaChecked
import GoSem.Claim
import GoSem.ClaimJoined
import GoSem.ClaimMapViews
import Derived.JoinedTies
import Derived.KernelRfl
namespace Go.Proofs.Ytjjipkgconmfcaa
/- THE CELL 'sum', in the pinned program and in every row, IS THE sha256 OF THE DUMP (.gsa) THAT YtjjipkgconmfcaaProg.lean LOADS. Nothing in Lean hashes anything: it is a label: what it is worth is what the hold of that sum in a sandbox is worth. -/
noncomputable def Try.pinned : Pinned := { name := "ytjjipkgconmfcaa", sum := "6d664bdf779e62054274e732cfd30b1e9ed25e711d38d870af4702b590a9e3ca", checked := Try.checked }
namespace Rows
def none {H : Type} : Left H := { results := [], args := [] }

/-- 'canebrakelaw09.FluteExamples': WHATEVER THE INPUT: true; the input reads as it did. -/
def fluteExamplesSpec : ChangeSpec := { name := "fluteExamples", fn := fun _ => fun
  | [] => { results := [.lit (.bool true)], args := [] }
  | _ => none }
def fluteExamplesRow : OpenClaim := { program := "ytjjipkgconmfcaa", sum := "6d664bdf779e62054274e732cfd30b1e9ed25e711d38d870af4702b590a9e3ca", func := "canebrake/canebrakelaw09.FluteExamples", spec := "fluteExamples", unfollowed := true, recurses := true, apart := false }
def FluteExamplesSaid : Prop := fluteExamplesRow.holds Try.pinned (OpenSpec.ofChange fluteExamplesSpec)

/-- ITS FALSE NEIGHBOUR: 'it returns false'. Refute it at one input. -/
def fluteExamplesWrong : ChangeSpec := { name := "fluteExamples", fn := fun _ => fun
  | [] => { results := [.lit (.bool false)], args := [] }
  | _ => none }
def FluteExamplesWrongFalsely : Prop := fluteExamplesRow.holds Try.pinned (OpenSpec.ofChange fluteExamplesWrong)

/-- 'canebrakelaw09.FluteFingers': WHATEVER THE INPUT: true; the input reads as it did. -/
def fluteFingersSpec : ChangeSpec := { name := "fluteFingers", fn := fun _ => fun
  | [d1, d2] => { results := [.lit (.bool true)], args := [d1, d2] }
  | _ => none }
def fluteFingersRow : OpenClaim := { program := "ytjjipkgconmfcaa", sum := "6d664bdf779e62054274e732cfd30b1e9ed25e711d38d870af4702b590a9e3ca", func := "canebrake/canebrakelaw09.FluteFingers", spec := "fluteFingers", unfollowed := true, recurses := true, apart := false }
def FluteFingersSaid : Prop := fluteFingersRow.holds Try.pinned (OpenSpec.ofChange fluteFingersSpec)

/-- ITS FALSE NEIGHBOUR: 'it returns false'. Refute it at one input. -/
def fluteFingersWrong : ChangeSpec := { name := "fluteFingers", fn := fun _ => fun
  | [d1, d2] => { results := [.lit (.bool false)], args := [d1, d2] }
  | _ => none }
def FluteFingersWrongFalsely : Prop := fluteFingersRow.holds Try.pinned (OpenSpec.ofChange fluteFingersWrong)

/-- 'canebrakelaw09.FluteDrills': WHATEVER THE INPUT: true; the input reads as it did. -/
def fluteDrillsSpec : ChangeSpec := { name := "fluteDrills", fn := fun _ => fun
  | [d1, d2, d3] => { results := [.lit (.bool true)], args := [d1, d2, d3] }
  | _ => none }
def fluteDrillsRow : OpenClaim := { program := "ytjjipkgconmfcaa", sum := "6d664bdf779e62054274e732cfd30b1e9ed25e711d38d870af4702b590a9e3ca", func := "canebrake/canebrakelaw09.FluteDrills", spec := "fluteDrills", unfollowed := true, recurses := true, apart := false }
def FluteDrillsSaid : Prop := fluteDrillsRow.holds Try.pinned (OpenSpec.ofChange fluteDrillsSpec)

/-- ITS FALSE NEIGHBOUR: 'it returns false'. Refute it at one input. -/
def fluteDrillsWrong : ChangeSpec := { name := "fluteDrills", fn := fun _ => fun
  | [d1, d2, d3] => { results := [.lit (.bool false)], args := [d1, d2, d3] }
  | _ => none }
def FluteDrillsWrongFalsely : Prop := fluteDrillsRow.holds Try.pinned (OpenSpec.ofChange fluteDrillsWrong)

/-- 'canebrakelaw09.FluteTrue': WHATEVER THE INPUT: true; the input reads as it did. -/
def fluteTrueSpec : ChangeSpec := { name := "fluteTrue", fn := fun _ => fun
  | [d1, d2, d3, d4] => { results := [.lit (.bool true)], args := [d1, d2, d3, d4] }
  | _ => none }
def fluteTrueRow : OpenClaim := { program := "ytjjipkgconmfcaa", sum := "6d664bdf779e62054274e732cfd30b1e9ed25e711d38d870af4702b590a9e3ca", func := "canebrake/canebrakelaw09.FluteTrue", spec := "fluteTrue", unfollowed := true, recurses := true, apart := false }
def FluteTrueSaid : Prop := fluteTrueRow.holds Try.pinned (OpenSpec.ofChange fluteTrueSpec)

/-- ITS FALSE NEIGHBOUR: 'it returns false'. Refute it at one input. -/
def fluteTrueWrong : ChangeSpec := { name := "fluteTrue", fn := fun _ => fun
  | [d1, d2, d3, d4] => { results := [.lit (.bool false)], args := [d1, d2, d3, d4] }
  | _ => none }
def FluteTrueWrongFalsely : Prop := fluteTrueRow.holds Try.pinned (OpenSpec.ofChange fluteTrueWrong)

/-- 'canebrakelaw09.FluteAll': WHATEVER THE INPUT: true; the input reads as it did. -/
def fluteAllSpec : ChangeSpec := { name := "fluteAll", fn := fun _ => fun
  | [d1, d2] => { results := [.lit (.bool true)], args := [d1, d2] }
  | _ => none }
def fluteAllRow : OpenClaim := { program := "ytjjipkgconmfcaa", sum := "6d664bdf779e62054274e732cfd30b1e9ed25e711d38d870af4702b590a9e3ca", func := "canebrake/canebrakelaw09.FluteAll", spec := "fluteAll", unfollowed := true, recurses := true, apart := false }
def FluteAllSaid : Prop := fluteAllRow.holds Try.pinned (OpenSpec.ofChange fluteAllSpec)

/-- ITS FALSE NEIGHBOUR: 'it returns false'. Refute it at one input. -/
def fluteAllWrong : ChangeSpec := { name := "fluteAll", fn := fun _ => fun
  | [d1, d2] => { results := [.lit (.bool false)], args := [d1, d2] }
  | _ => none }
def FluteAllWrongFalsely : Prop := fluteAllRow.holds Try.pinned (OpenSpec.ofChange fluteAllWrong)

/-- 'canebrakelaw09.FluteMade': WHATEVER THE INPUT: true; the input reads as it did. -/
def fluteMadeSpec : ChangeSpec := { name := "fluteMade", fn := fun _ => fun
  | [d1, d2] => { results := [.lit (.bool true)], args := [d1, d2] }
  | _ => none }
def fluteMadeRow : OpenClaim := { program := "ytjjipkgconmfcaa", sum := "6d664bdf779e62054274e732cfd30b1e9ed25e711d38d870af4702b590a9e3ca", func := "canebrake/canebrakelaw09.FluteMade", spec := "fluteMade", unfollowed := true, recurses := true, apart := false }
def FluteMadeSaid : Prop := fluteMadeRow.holds Try.pinned (OpenSpec.ofChange fluteMadeSpec)

/-- ITS FALSE NEIGHBOUR: 'it returns false'. Refute it at one input. -/
def fluteMadeWrong : ChangeSpec := { name := "fluteMade", fn := fun _ => fun
  | [d1, d2] => { results := [.lit (.bool false)], args := [d1, d2] }
  | _ => none }
def FluteMadeWrongFalsely : Prop := fluteMadeRow.holds Try.pinned (OpenSpec.ofChange fluteMadeWrong)

/-- 'canebrakelaw09.FluteFurthest': WHATEVER THE INPUT: true; the input reads as it did. -/
def fluteFurthestSpec : ChangeSpec := { name := "fluteFurthest", fn := fun _ => fun
  | [d1, d2, d3] => { results := [.lit (.bool true)], args := [d1, d2, d3] }
  | _ => none }
def fluteFurthestRow : OpenClaim := { program := "ytjjipkgconmfcaa", sum := "6d664bdf779e62054274e732cfd30b1e9ed25e711d38d870af4702b590a9e3ca", func := "canebrake/canebrakelaw09.FluteFurthest", spec := "fluteFurthest", unfollowed := true, recurses := true, apart := false }
def FluteFurthestSaid : Prop := fluteFurthestRow.holds Try.pinned (OpenSpec.ofChange fluteFurthestSpec)

/-- ITS FALSE NEIGHBOUR: 'it returns false'. Refute it at one input. -/
def fluteFurthestWrong : ChangeSpec := { name := "fluteFurthest", fn := fun _ => fun
  | [d1, d2, d3] => { results := [.lit (.bool false)], args := [d1, d2, d3] }
  | _ => none }
def FluteFurthestWrongFalsely : Prop := fluteFurthestRow.holds Try.pinned (OpenSpec.ofChange fluteFurthestWrong)

/-- 'canebrakelaw09.FluteWider': WHATEVER THE INPUT: true; the input reads as it did. -/
def fluteWiderSpec : ChangeSpec := { name := "fluteWider", fn := fun _ => fun
  | [d1, d2, d3, d4, d5] => { results := [.lit (.bool true)], args := [d1, d2, d3, d4, d5] }
  | _ => none }
def fluteWiderRow : OpenClaim := { program := "ytjjipkgconmfcaa", sum := "6d664bdf779e62054274e732cfd30b1e9ed25e711d38d870af4702b590a9e3ca", func := "canebrake/canebrakelaw09.FluteWider", spec := "fluteWider", unfollowed := true, recurses := true, apart := false }
def FluteWiderSaid : Prop := fluteWiderRow.holds Try.pinned (OpenSpec.ofChange fluteWiderSpec)

/-- ITS FALSE NEIGHBOUR: 'it returns false'. Refute it at one input. -/
def fluteWiderWrong : ChangeSpec := { name := "fluteWider", fn := fun _ => fun
  | [d1, d2, d3, d4, d5] => { results := [.lit (.bool false)], args := [d1, d2, d3, d4, d5] }
  | _ => none }
def FluteWiderWrongFalsely : Prop := fluteWiderRow.holds Try.pinned (OpenSpec.ofChange fluteWiderWrong)

/-- 'canebrakelaw09.FluteAfter': WHATEVER THE INPUT: true; the input reads as it did. -/
def fluteAfterSpec : ChangeSpec := { name := "fluteAfter", fn := fun _ => fun
  | [d1, d2, d3] => { results := [.lit (.bool true)], args := [d1, d2, d3] }
  | _ => none }
def fluteAfterRow : OpenClaim := { program := "ytjjipkgconmfcaa", sum := "6d664bdf779e62054274e732cfd30b1e9ed25e711d38d870af4702b590a9e3ca", func := "canebrake/canebrakelaw09.FluteAfter", spec := "fluteAfter", unfollowed := true, recurses := true, apart := false }
def FluteAfterSaid : Prop := fluteAfterRow.holds Try.pinned (OpenSpec.ofChange fluteAfterSpec)

/-- ITS FALSE NEIGHBOUR: 'it returns false'. Refute it at one input. -/
def fluteAfterWrong : ChangeSpec := { name := "fluteAfter", fn := fun _ => fun
  | [d1, d2, d3] => { results := [.lit (.bool false)], args := [d1, d2, d3] }
  | _ => none }
def FluteAfterWrongFalsely : Prop := fluteAfterRow.holds Try.pinned (OpenSpec.ofChange fluteAfterWrong)

/-- 'canebrakelaw09.FluteMore': WHATEVER THE INPUT: true; the input reads as it did. -/
def fluteMoreSpec : ChangeSpec := { name := "fluteMore", fn := fun _ => fun
  | [d1, d2, d3] => { results := [.lit (.bool true)], args := [d1, d2, d3] }
  | _ => none }
def fluteMoreRow : OpenClaim := { program := "ytjjipkgconmfcaa", sum := "6d664bdf779e62054274e732cfd30b1e9ed25e711d38d870af4702b590a9e3ca", func := "canebrake/canebrakelaw09.FluteMore", spec := "fluteMore", unfollowed := true, recurses := true, apart := false }
def FluteMoreSaid : Prop := fluteMoreRow.holds Try.pinned (OpenSpec.ofChange fluteMoreSpec)

/-- ITS FALSE NEIGHBOUR: 'it returns false'. Refute it at one input. -/
def fluteMoreWrong : ChangeSpec := { name := "fluteMore", fn := fun _ => fun
  | [d1, d2, d3] => { results := [.lit (.bool false)], args := [d1, d2, d3] }
  | _ => none }
def FluteMoreWrongFalsely : Prop := fluteMoreRow.holds Try.pinned (OpenSpec.ofChange fluteMoreWrong)

/- THE SECOND FORM. 'bulk': how many values and letters a reading holds, each counted each time it is reached (what is shared counts as often as it is met; a slice's spare places count too). A statement '..UptoSaid' is the law's where the arguments, and the package variables that the reading takes, are together of bulk at most 1048576: NARROWER than '..Said'. Prove '..Said' where nothing that the law and all that it calls make is longer than what came in: it says more and counts as full. Else prove '..UptoSaid'. A law counts once. -/
mutual
def uptoBulk {H : Type} : DataW H → Nat
  | .lit (.string bytes) => bytes.length + 1
  | .lit _ => 1
  | .nil => 1
  | .ptr d => uptoBulk d + 1
  | .slice elems spare => uptoBulkAll elems + uptoBulkAll spare + 1
  | .agg parts => uptoBulkAll parts + 1
  | .iface _ d => uptoBulk d + 1
  | .map entries => uptoBulkEntries entries + 1
  | .held _ => 1
def uptoBulkAll {H : Type} : List (DataW H) → Nat
  | [] => 0
  | d :: r => uptoBulk d + uptoBulkAll r
def uptoBulkEntries {H : Type} : List (Lit × DataW H) → Nat
  | [] => 0
  | x :: r => uptoBulkEntry x + uptoBulkEntries r
def uptoBulkEntry {H : Type} : Lit × DataW H → Nat
  | (.string bytes, d) => bytes.length + uptoBulk d + 1
  | (_, d) => uptoBulk d + 1
 end
def uptoSmall : (H : Type) → List (DataW H) → Bool := fun _ ds => decide (uptoBulkAll ds ≤ 1048576)
def OpenSpec.upto (s : _root_.Go.ChangeSpec) : _root_.Go.OpenSpec := { _root_.Go.OpenSpec.ofChange s with cond := some uptoSmall }

/-- 'canebrakelaw09.FluteExamples', WHERE WHAT IT READS IS OF BULK AT MOST 1048576: true; the input reads as it did. -/
def fluteExamplesUptoRow : OpenClaim := { program := "ytjjipkgconmfcaa", sum := "6d664bdf779e62054274e732cfd30b1e9ed25e711d38d870af4702b590a9e3ca", func := "canebrake/canebrakelaw09.FluteExamples", spec := "fluteExamples", unfollowed := true, recurses := true, apart := false, narrowed := true }
def FluteExamplesUptoSaid : Prop := fluteExamplesUptoRow.holds Try.pinned (OpenSpec.upto fluteExamplesSpec)

/-- 'canebrakelaw09.FluteFingers', WHERE WHAT IT READS IS OF BULK AT MOST 1048576: true; the input reads as it did. -/
def fluteFingersUptoRow : OpenClaim := { program := "ytjjipkgconmfcaa", sum := "6d664bdf779e62054274e732cfd30b1e9ed25e711d38d870af4702b590a9e3ca", func := "canebrake/canebrakelaw09.FluteFingers", spec := "fluteFingers", unfollowed := true, recurses := true, apart := false, narrowed := true }
def FluteFingersUptoSaid : Prop := fluteFingersUptoRow.holds Try.pinned (OpenSpec.upto fluteFingersSpec)

/-- 'canebrakelaw09.FluteDrills', WHERE WHAT IT READS IS OF BULK AT MOST 1048576: true; the input reads as it did. -/
def fluteDrillsUptoRow : OpenClaim := { program := "ytjjipkgconmfcaa", sum := "6d664bdf779e62054274e732cfd30b1e9ed25e711d38d870af4702b590a9e3ca", func := "canebrake/canebrakelaw09.FluteDrills", spec := "fluteDrills", unfollowed := true, recurses := true, apart := false, narrowed := true }
def FluteDrillsUptoSaid : Prop := fluteDrillsUptoRow.holds Try.pinned (OpenSpec.upto fluteDrillsSpec)

/-- 'canebrakelaw09.FluteTrue', WHERE WHAT IT READS IS OF BULK AT MOST 1048576: true; the input reads as it did. -/
def fluteTrueUptoRow : OpenClaim := { program := "ytjjipkgconmfcaa", sum := "6d664bdf779e62054274e732cfd30b1e9ed25e711d38d870af4702b590a9e3ca", func := "canebrake/canebrakelaw09.FluteTrue", spec := "fluteTrue", unfollowed := true, recurses := true, apart := false, narrowed := true }
def FluteTrueUptoSaid : Prop := fluteTrueUptoRow.holds Try.pinned (OpenSpec.upto fluteTrueSpec)

/-- 'canebrakelaw09.FluteAll', WHERE WHAT IT READS IS OF BULK AT MOST 1048576: true; the input reads as it did. -/
def fluteAllUptoRow : OpenClaim := { program := "ytjjipkgconmfcaa", sum := "6d664bdf779e62054274e732cfd30b1e9ed25e711d38d870af4702b590a9e3ca", func := "canebrake/canebrakelaw09.FluteAll", spec := "fluteAll", unfollowed := true, recurses := true, apart := false, narrowed := true }
def FluteAllUptoSaid : Prop := fluteAllUptoRow.holds Try.pinned (OpenSpec.upto fluteAllSpec)

/-- 'canebrakelaw09.FluteMade', WHERE WHAT IT READS IS OF BULK AT MOST 1048576: true; the input reads as it did. -/
def fluteMadeUptoRow : OpenClaim := { program := "ytjjipkgconmfcaa", sum := "6d664bdf779e62054274e732cfd30b1e9ed25e711d38d870af4702b590a9e3ca", func := "canebrake/canebrakelaw09.FluteMade", spec := "fluteMade", unfollowed := true, recurses := true, apart := false, narrowed := true }
def FluteMadeUptoSaid : Prop := fluteMadeUptoRow.holds Try.pinned (OpenSpec.upto fluteMadeSpec)

/-- 'canebrakelaw09.FluteFurthest', WHERE WHAT IT READS IS OF BULK AT MOST 1048576: true; the input reads as it did. -/
def fluteFurthestUptoRow : OpenClaim := { program := "ytjjipkgconmfcaa", sum := "6d664bdf779e62054274e732cfd30b1e9ed25e711d38d870af4702b590a9e3ca", func := "canebrake/canebrakelaw09.FluteFurthest", spec := "fluteFurthest", unfollowed := true, recurses := true, apart := false, narrowed := true }
def FluteFurthestUptoSaid : Prop := fluteFurthestUptoRow.holds Try.pinned (OpenSpec.upto fluteFurthestSpec)

/-- 'canebrakelaw09.FluteWider', WHERE WHAT IT READS IS OF BULK AT MOST 1048576: true; the input reads as it did. -/
def fluteWiderUptoRow : OpenClaim := { program := "ytjjipkgconmfcaa", sum := "6d664bdf779e62054274e732cfd30b1e9ed25e711d38d870af4702b590a9e3ca", func := "canebrake/canebrakelaw09.FluteWider", spec := "fluteWider", unfollowed := true, recurses := true, apart := false, narrowed := true }
def FluteWiderUptoSaid : Prop := fluteWiderUptoRow.holds Try.pinned (OpenSpec.upto fluteWiderSpec)

/-- 'canebrakelaw09.FluteAfter', WHERE WHAT IT READS IS OF BULK AT MOST 1048576: true; the input reads as it did. -/
def fluteAfterUptoRow : OpenClaim := { program := "ytjjipkgconmfcaa", sum := "6d664bdf779e62054274e732cfd30b1e9ed25e711d38d870af4702b590a9e3ca", func := "canebrake/canebrakelaw09.FluteAfter", spec := "fluteAfter", unfollowed := true, recurses := true, apart := false, narrowed := true }
def FluteAfterUptoSaid : Prop := fluteAfterUptoRow.holds Try.pinned (OpenSpec.upto fluteAfterSpec)

/-- 'canebrakelaw09.FluteMore', WHERE WHAT IT READS IS OF BULK AT MOST 1048576: true; the input reads as it did. -/
def fluteMoreUptoRow : OpenClaim := { program := "ytjjipkgconmfcaa", sum := "6d664bdf779e62054274e732cfd30b1e9ed25e711d38d870af4702b590a9e3ca", func := "canebrake/canebrakelaw09.FluteMore", spec := "fluteMore", unfollowed := true, recurses := true, apart := false, narrowed := true }
def FluteMoreUptoSaid : Prop := fluteMoreUptoRow.holds Try.pinned (OpenSpec.upto fluteMoreSpec)

end Rows
end Go.Proofs.Ytjjipkgconmfcaa
