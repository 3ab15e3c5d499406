/-
  No cell of these rows narrows 'for every input' (looked for: loops, veiled, ifaces, maps, wideKeys, modest, calm, conditions, laid).
  DERIVED. THE GIVEN ROWS OF THIS SEAT. 6 by the template 'for every input the law returns true; each argument reads behind the call as it read before'; 0 by the template 'total and deterministic' (their statements: YtbhkpjcflghgbaaTotals.lean).
  GIVEN WITH THE SEED: the statements are not yours to turn. If you find one false, say at which input.
  Laid BY PROGRAM, IN A SANDBOX (cutbox-rows.mjs): the forced cells as the released guide's own fill.sh prints them over the translation 1f678104a98cfc71… (all of the seat's roots in one cut). By AI agents, Wed Nov 11 2026. No macro, syntax, notation, axiom, sorry.
-/
import Derived.Test.YtbhkpjcflghgbaaChecked
import GoSem.Claim
import GoSem.ClaimJoined
import GoSem.ClaimMapViews
import Derived.JoinedTies
import Derived.KernelRfl
namespace Go.Proofs.Ytbhkpjcflghgbaa
/- THE CELL 'sum', in the pinned program and in every row, IS THE sha256 OF THE DUMP (.gsa) THAT YtbhkpjcflghgbaaProg.lean LOADS. Nothing in Lean hashes anything: it is a label: what it is worth is what the hold of that sum in a sandbox is worth. -/
noncomputable def Try.pinned : Pinned := { name := "ytbhkpjcflghgbaa", sum := "1f678104a98cfc7115326af041d6036e4fd82eb92e20a21acfb29d1ba85f8267", checked := Try.checked }
namespace Rows
def none {H : Type} : Left H := { results := [], args := [] }

/-- 'laws.FnEvalVars': WHATEVER THE INPUT: true; the input reads as it did. -/
def fnEvalVarsSpec : ChangeSpec := { name := "fnEvalVars", fn := fun _ => fun
  | [d] => { results := [.lit (.bool true)], args := [d] }
  | _ => none }
def fnEvalVarsRow : OpenClaim := { program := "ytbhkpjcflghgbaa", sum := "1f678104a98cfc7115326af041d6036e4fd82eb92e20a21acfb29d1ba85f8267", func := "loop.example/fpgatoolchain/laws.FnEvalVars", spec := "fnEvalVars", apart := false }
def FnEvalVarsSaid : Prop := fnEvalVarsRow.holds Try.pinned (OpenSpec.ofChange fnEvalVarsSpec)

/-- ITS FALSE NEIGHBOUR: 'it returns false'. Refute it at one input. -/
def fnEvalVarsWrong : ChangeSpec := { name := "fnEvalVars", fn := fun _ => fun
  | [d] => { results := [.lit (.bool false)], args := [d] }
  | _ => none }
def FnEvalVarsWrongFalsely : Prop := fnEvalVarsRow.holds Try.pinned (OpenSpec.ofChange fnEvalVarsWrong)

/-- 'laws.FnStep': WHATEVER THE INPUT: true; the input reads as it did. -/
def fnStepSpec : ChangeSpec := { name := "fnStep", fn := fun _ => fun
  | [d] => { results := [.lit (.bool true)], args := [d] }
  | _ => none }
def fnStepRow : OpenClaim := { program := "ytbhkpjcflghgbaa", sum := "1f678104a98cfc7115326af041d6036e4fd82eb92e20a21acfb29d1ba85f8267", func := "loop.example/fpgatoolchain/laws.FnStep", spec := "fnStep", apart := false }
def FnStepSaid : Prop := fnStepRow.holds Try.pinned (OpenSpec.ofChange fnStepSpec)

/-- ITS FALSE NEIGHBOUR: 'it returns false'. Refute it at one input. -/
def fnStepWrong : ChangeSpec := { name := "fnStep", fn := fun _ => fun
  | [d] => { results := [.lit (.bool false)], args := [d] }
  | _ => none }
def FnStepWrongFalsely : Prop := fnStepRow.holds Try.pinned (OpenSpec.ofChange fnStepWrong)

/-- 'laws.FnSimulate': WHATEVER THE INPUT: true; the input reads as it did. -/
def fnSimulateSpec : ChangeSpec := { name := "fnSimulate", fn := fun _ => fun
  | [d] => { results := [.lit (.bool true)], args := [d] }
  | _ => none }
def fnSimulateRow : OpenClaim := { program := "ytbhkpjcflghgbaa", sum := "1f678104a98cfc7115326af041d6036e4fd82eb92e20a21acfb29d1ba85f8267", func := "loop.example/fpgatoolchain/laws.FnSimulate", spec := "fnSimulate", apart := false }
def FnSimulateSaid : Prop := fnSimulateRow.holds Try.pinned (OpenSpec.ofChange fnSimulateSpec)

/-- ITS FALSE NEIGHBOUR: 'it returns false'. Refute it at one input. -/
def fnSimulateWrong : ChangeSpec := { name := "fnSimulate", fn := fun _ => fun
  | [d] => { results := [.lit (.bool false)], args := [d] }
  | _ => none }
def FnSimulateWrongFalsely : Prop := fnSimulateRow.holds Try.pinned (OpenSpec.ofChange fnSimulateWrong)

/-- 'laws.FnExactEvalVars': WHATEVER THE INPUT: true; the input reads as it did. -/
def fnExactEvalVarsSpec : ChangeSpec := { name := "fnExactEvalVars", fn := fun _ => fun
  | [d1, d2, d3] => { results := [.lit (.bool true)], args := [d1, d2, d3] }
  | _ => none }
def fnExactEvalVarsRow : OpenClaim := { program := "ytbhkpjcflghgbaa", sum := "1f678104a98cfc7115326af041d6036e4fd82eb92e20a21acfb29d1ba85f8267", func := "loop.example/fpgatoolchain/laws.FnExactEvalVars", spec := "fnExactEvalVars", apart := false }
def FnExactEvalVarsSaid : Prop := fnExactEvalVarsRow.holds Try.pinned (OpenSpec.ofChange fnExactEvalVarsSpec)

/-- ITS FALSE NEIGHBOUR: 'it returns false'. Refute it at one input. -/
def fnExactEvalVarsWrong : ChangeSpec := { name := "fnExactEvalVars", fn := fun _ => fun
  | [d1, d2, d3] => { results := [.lit (.bool false)], args := [d1, d2, d3] }
  | _ => none }
def FnExactEvalVarsWrongFalsely : Prop := fnExactEvalVarsRow.holds Try.pinned (OpenSpec.ofChange fnExactEvalVarsWrong)

/-- 'laws.FnExactStep': WHATEVER THE INPUT: true; the input reads as it did. -/
def fnExactStepSpec : ChangeSpec := { name := "fnExactStep", fn := fun _ => fun
  | [d1, d2, d3] => { results := [.lit (.bool true)], args := [d1, d2, d3] }
  | _ => none }
def fnExactStepRow : OpenClaim := { program := "ytbhkpjcflghgbaa", sum := "1f678104a98cfc7115326af041d6036e4fd82eb92e20a21acfb29d1ba85f8267", func := "loop.example/fpgatoolchain/laws.FnExactStep", spec := "fnExactStep", apart := false }
def FnExactStepSaid : Prop := fnExactStepRow.holds Try.pinned (OpenSpec.ofChange fnExactStepSpec)

/-- ITS FALSE NEIGHBOUR: 'it returns false'. Refute it at one input. -/
def fnExactStepWrong : ChangeSpec := { name := "fnExactStep", fn := fun _ => fun
  | [d1, d2, d3] => { results := [.lit (.bool false)], args := [d1, d2, d3] }
  | _ => none }
def FnExactStepWrongFalsely : Prop := fnExactStepRow.holds Try.pinned (OpenSpec.ofChange fnExactStepWrong)

/-- 'laws.FnExactSimulate': WHATEVER THE INPUT: true; the input reads as it did. -/
def fnExactSimulateSpec : ChangeSpec := { name := "fnExactSimulate", fn := fun _ => fun
  | [d1, d2] => { results := [.lit (.bool true)], args := [d1, d2] }
  | _ => none }
def fnExactSimulateRow : OpenClaim := { program := "ytbhkpjcflghgbaa", sum := "1f678104a98cfc7115326af041d6036e4fd82eb92e20a21acfb29d1ba85f8267", func := "loop.example/fpgatoolchain/laws.FnExactSimulate", spec := "fnExactSimulate", apart := false }
def FnExactSimulateSaid : Prop := fnExactSimulateRow.holds Try.pinned (OpenSpec.ofChange fnExactSimulateSpec)

/-- ITS FALSE NEIGHBOUR: 'it returns false'. Refute it at one input. -/
def fnExactSimulateWrong : ChangeSpec := { name := "fnExactSimulate", fn := fun _ => fun
  | [d1, d2] => { results := [.lit (.bool false)], args := [d1, d2] }
  | _ => none }
def FnExactSimulateWrongFalsely : Prop := fnExactSimulateRow.holds Try.pinned (OpenSpec.ofChange fnExactSimulateWrong)

/- THE SECOND FORM. 'bulk': how many values and letters a reading holds, each counted each time it is reached (what is shared counts as often as it is met; a slice's spare places count too). A statement '..UptoSaid' is the law's where the arguments, and the package variables that the reading takes, are together of bulk at most 1048576: NARROWER than '..Said'. Prove '..Said' where nothing that the law and all that it calls make is longer than what came in: it says more and counts as full. Else prove '..UptoSaid'. A law counts once. -/
mutual
def uptoBulk {H : Type} : DataW H → Nat
  | .lit (.string bytes) => bytes.length + 1
  | .lit _ => 1
  | .nil => 1
  | .ptr d => uptoBulk d + 1
  | .slice elems spare => uptoBulkAll elems + uptoBulkAll spare + 1
  | .agg parts => uptoBulkAll parts + 1
  | .iface _ d => uptoBulk d + 1
  | .map entries => uptoBulkEntries entries + 1
  | .held _ => 1
def uptoBulkAll {H : Type} : List (DataW H) → Nat
  | [] => 0
  | d :: r => uptoBulk d + uptoBulkAll r
def uptoBulkEntries {H : Type} : List (Lit × DataW H) → Nat
  | [] => 0
  | x :: r => uptoBulkEntry x + uptoBulkEntries r
def uptoBulkEntry {H : Type} : Lit × DataW H → Nat
  | (.string bytes, d) => bytes.length + uptoBulk d + 1
  | (_, d) => uptoBulk d + 1
 end
def uptoSmall : (H : Type) → List (DataW H) → Bool := fun _ ds => decide (uptoBulkAll ds ≤ 1048576)
def OpenSpec.upto (s : _root_.Go.ChangeSpec) : _root_.Go.OpenSpec := { _root_.Go.OpenSpec.ofChange s with cond := some uptoSmall }

/-- 'laws.FnEvalVars', WHERE WHAT IT READS IS OF BULK AT MOST 1048576: true; the input reads as it did. -/
def fnEvalVarsUptoRow : OpenClaim := { program := "ytbhkpjcflghgbaa", sum := "1f678104a98cfc7115326af041d6036e4fd82eb92e20a21acfb29d1ba85f8267", func := "loop.example/fpgatoolchain/laws.FnEvalVars", spec := "fnEvalVars", apart := false, narrowed := true }
def FnEvalVarsUptoSaid : Prop := fnEvalVarsUptoRow.holds Try.pinned (OpenSpec.upto fnEvalVarsSpec)

/-- 'laws.FnStep', WHERE WHAT IT READS IS OF BULK AT MOST 1048576: true; the input reads as it did. -/
def fnStepUptoRow : OpenClaim := { program := "ytbhkpjcflghgbaa", sum := "1f678104a98cfc7115326af041d6036e4fd82eb92e20a21acfb29d1ba85f8267", func := "loop.example/fpgatoolchain/laws.FnStep", spec := "fnStep", apart := false, narrowed := true }
def FnStepUptoSaid : Prop := fnStepUptoRow.holds Try.pinned (OpenSpec.upto fnStepSpec)

/-- 'laws.FnSimulate', WHERE WHAT IT READS IS OF BULK AT MOST 1048576: true; the input reads as it did. -/
def fnSimulateUptoRow : OpenClaim := { program := "ytbhkpjcflghgbaa", sum := "1f678104a98cfc7115326af041d6036e4fd82eb92e20a21acfb29d1ba85f8267", func := "loop.example/fpgatoolchain/laws.FnSimulate", spec := "fnSimulate", apart := false, narrowed := true }
def FnSimulateUptoSaid : Prop := fnSimulateUptoRow.holds Try.pinned (OpenSpec.upto fnSimulateSpec)

/-- 'laws.FnExactEvalVars', WHERE WHAT IT READS IS OF BULK AT MOST 1048576: true; the input reads as it did. -/
def fnExactEvalVarsUptoRow : OpenClaim := { program := "ytbhkpjcflghgbaa", sum := "1f678104a98cfc7115326af041d6036e4fd82eb92e20a21acfb29d1ba85f8267", func := "loop.example/fpgatoolchain/laws.FnExactEvalVars", spec := "fnExactEvalVars", apart := false, narrowed := true }
def FnExactEvalVarsUptoSaid : Prop := fnExactEvalVarsUptoRow.holds Try.pinned (OpenSpec.upto fnExactEvalVarsSpec)

/-- 'laws.FnExactStep', WHERE WHAT IT READS IS OF BULK AT MOST 1048576: true; the input reads as it did. -/
def fnExactStepUptoRow : OpenClaim := { program := "ytbhkpjcflghgbaa", sum := "1f678104a98cfc7115326af041d6036e4fd82eb92e20a21acfb29d1ba85f8267", func := "loop.example/fpgatoolchain/laws.FnExactStep", spec := "fnExactStep", apart := false, narrowed := true }
def FnExactStepUptoSaid : Prop := fnExactStepUptoRow.holds Try.pinned (OpenSpec.upto fnExactStepSpec)

/-- 'laws.FnExactSimulate', WHERE WHAT IT READS IS OF BULK AT MOST 1048576: true; the input reads as it did. -/
def fnExactSimulateUptoRow : OpenClaim := { program := "ytbhkpjcflghgbaa", sum := "1f678104a98cfc7115326af041d6036e4fd82eb92e20a21acfb29d1ba85f8267", func := "loop.example/fpgatoolchain/laws.FnExactSimulate", spec := "fnExactSimulate", apart := false, narrowed := true }
def FnExactSimulateUptoSaid : Prop := fnExactSimulateUptoRow.holds Try.pinned (OpenSpec.upto fnExactSimulateSpec)

end Rows
end Go.Proofs.Ytbhkpjcflghgbaa
