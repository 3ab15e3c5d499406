/-
  No cell of these rows narrows 'for every input' (looked for: loops, veiled, ifaces, maps, wideKeys, modest, calm, conditions, laid).
  DERIVED. THE GIVEN ROWS OF THIS SEAT. 11 by the template 'for every input the law returns true; each argument reads behind the call as it read before'; 0 by the template 'total and deterministic' (their statements: YthpiddpkcmecfaaTotals.lean).
  GIVEN WITH THE SEED: the statements are not yours to turn. If you find one false, say at which input.
  Laid BY PROGRAM, IN A SANDBOX (cutbox-rows.mjs): the forced cells as the released guide's own fill.sh prints them over the translation bfaf1ed5554f8706… (all of the seat's roots in one cut). By AI agents, Wed Nov 11 2026. No macro, syntax, notation, axiom, sorry.
-/
import Derived.Test.YthpiddpkcmecfaaChecked
import GoSem.Claim
import GoSem.ClaimJoined
import GoSem.ClaimMapViews
import Derived.JoinedTies
import Derived.KernelRfl
namespace Go.Proofs.Ythpiddpkcmecfaa
/- THE CELL 'sum', in the pinned program and in every row, IS THE sha256 OF THE DUMP (.gsa) THAT YthpiddpkcmecfaaProg.lean LOADS. Nothing in Lean hashes anything: it is a label: what it is worth is what the hold of that sum in a sandbox is worth. -/
noncomputable def Try.pinned : Pinned := { name := "ythpiddpkcmecfaa", sum := "bfaf1ed5554f870685183f856738ceefb6c27b76bc2eed3b81c8d027b185194f", checked := Try.checked }
namespace Rows
def none {H : Type} : Left H := { results := [], args := [] }

/-- 'laws.FnOptimize': WHATEVER THE INPUT: true; the input reads as it did. -/
def fnOptimizeSpec : ChangeSpec := { name := "fnOptimize", fn := fun _ => fun
  | [d] => { results := [.lit (.bool true)], args := [d] }
  | _ => none }
def fnOptimizeRow : OpenClaim := { program := "ythpiddpkcmecfaa", sum := "bfaf1ed5554f870685183f856738ceefb6c27b76bc2eed3b81c8d027b185194f", func := "loop.example/fpgatoolchain/laws.FnOptimize", spec := "fnOptimize", plainKeys := false, apart := false }
def FnOptimizeSaid : Prop := fnOptimizeRow.holds Try.pinned (OpenSpec.ofChange fnOptimizeSpec)

/-- ITS FALSE NEIGHBOUR: 'it returns false'. Refute it at one input. -/
def fnOptimizeWrong : ChangeSpec := { name := "fnOptimize", fn := fun _ => fun
  | [d] => { results := [.lit (.bool false)], args := [d] }
  | _ => none }
def FnOptimizeWrongFalsely : Prop := fnOptimizeRow.holds Try.pinned (OpenSpec.ofChange fnOptimizeWrong)

/-- 'laws.FnOptimizeSmall': WHATEVER THE INPUT: true; the input reads as it did. -/
def fnOptimizeSmallSpec : ChangeSpec := { name := "fnOptimizeSmall", fn := fun _ => fun
  | [d] => { results := [.lit (.bool true)], args := [d] }
  | _ => none }
def fnOptimizeSmallRow : OpenClaim := { program := "ythpiddpkcmecfaa", sum := "bfaf1ed5554f870685183f856738ceefb6c27b76bc2eed3b81c8d027b185194f", func := "loop.example/fpgatoolchain/laws.FnOptimizeSmall", spec := "fnOptimizeSmall", plainKeys := false, apart := false }
def FnOptimizeSmallSaid : Prop := fnOptimizeSmallRow.holds Try.pinned (OpenSpec.ofChange fnOptimizeSmallSpec)

/-- ITS FALSE NEIGHBOUR: 'it returns false'. Refute it at one input. -/
def fnOptimizeSmallWrong : ChangeSpec := { name := "fnOptimizeSmall", fn := fun _ => fun
  | [d] => { results := [.lit (.bool false)], args := [d] }
  | _ => none }
def FnOptimizeSmallWrongFalsely : Prop := fnOptimizeSmallRow.holds Try.pinned (OpenSpec.ofChange fnOptimizeSmallWrong)

/-- 'laws.FnOptimizeForm': WHATEVER THE INPUT: true; the input reads as it did. -/
def fnOptimizeFormSpec : ChangeSpec := { name := "fnOptimizeForm", fn := fun _ => fun
  | [d] => { results := [.lit (.bool true)], args := [d] }
  | _ => none }
def fnOptimizeFormRow : OpenClaim := { program := "ythpiddpkcmecfaa", sum := "bfaf1ed5554f870685183f856738ceefb6c27b76bc2eed3b81c8d027b185194f", func := "loop.example/fpgatoolchain/laws.FnOptimizeForm", spec := "fnOptimizeForm", plainKeys := false, apart := false }
def FnOptimizeFormSaid : Prop := fnOptimizeFormRow.holds Try.pinned (OpenSpec.ofChange fnOptimizeFormSpec)

/-- ITS FALSE NEIGHBOUR: 'it returns false'. Refute it at one input. -/
def fnOptimizeFormWrong : ChangeSpec := { name := "fnOptimizeForm", fn := fun _ => fun
  | [d] => { results := [.lit (.bool false)], args := [d] }
  | _ => none }
def FnOptimizeFormWrongFalsely : Prop := fnOptimizeFormRow.holds Try.pinned (OpenSpec.ofChange fnOptimizeFormWrong)

/-- 'laws.FnSameInterface': WHATEVER THE INPUT: true; the input reads as it did. -/
def fnSameInterfaceSpec : ChangeSpec := { name := "fnSameInterface", fn := fun _ => fun
  | [d] => { results := [.lit (.bool true)], args := [d] }
  | _ => none }
def fnSameInterfaceRow : OpenClaim := { program := "ythpiddpkcmecfaa", sum := "bfaf1ed5554f870685183f856738ceefb6c27b76bc2eed3b81c8d027b185194f", func := "loop.example/fpgatoolchain/laws.FnSameInterface", spec := "fnSameInterface", plainKeys := false, apart := false }
def FnSameInterfaceSaid : Prop := fnSameInterfaceRow.holds Try.pinned (OpenSpec.ofChange fnSameInterfaceSpec)

/-- ITS FALSE NEIGHBOUR: 'it returns false'. Refute it at one input. -/
def fnSameInterfaceWrong : ChangeSpec := { name := "fnSameInterface", fn := fun _ => fun
  | [d] => { results := [.lit (.bool false)], args := [d] }
  | _ => none }
def FnSameInterfaceWrongFalsely : Prop := fnSameInterfaceRow.holds Try.pinned (OpenSpec.ofChange fnSameInterfaceWrong)

/-- 'laws.FnFindDifference': WHATEVER THE INPUT: true; the input reads as it did. -/
def fnFindDifferenceSpec : ChangeSpec := { name := "fnFindDifference", fn := fun _ => fun
  | [d] => { results := [.lit (.bool true)], args := [d] }
  | _ => none }
def fnFindDifferenceRow : OpenClaim := { program := "ythpiddpkcmecfaa", sum := "bfaf1ed5554f870685183f856738ceefb6c27b76bc2eed3b81c8d027b185194f", func := "loop.example/fpgatoolchain/laws.FnFindDifference", spec := "fnFindDifference", unfollowed := true, recurses := true, plainKeys := false, apart := false }
def FnFindDifferenceSaid : Prop := fnFindDifferenceRow.holds Try.pinned (OpenSpec.ofChange fnFindDifferenceSpec)

/-- ITS FALSE NEIGHBOUR: 'it returns false'. Refute it at one input. -/
def fnFindDifferenceWrong : ChangeSpec := { name := "fnFindDifference", fn := fun _ => fun
  | [d] => { results := [.lit (.bool false)], args := [d] }
  | _ => none }
def FnFindDifferenceWrongFalsely : Prop := fnFindDifferenceRow.holds Try.pinned (OpenSpec.ofChange fnFindDifferenceWrong)

/-- 'laws.FnEquivalent': WHATEVER THE INPUT: true; the input reads as it did. -/
def fnEquivalentSpec : ChangeSpec := { name := "fnEquivalent", fn := fun _ => fun
  | [d] => { results := [.lit (.bool true)], args := [d] }
  | _ => none }
def fnEquivalentRow : OpenClaim := { program := "ythpiddpkcmecfaa", sum := "bfaf1ed5554f870685183f856738ceefb6c27b76bc2eed3b81c8d027b185194f", func := "loop.example/fpgatoolchain/laws.FnEquivalent", spec := "fnEquivalent", unfollowed := true, recurses := true, plainKeys := false, apart := false }
def FnEquivalentSaid : Prop := fnEquivalentRow.holds Try.pinned (OpenSpec.ofChange fnEquivalentSpec)

/-- ITS FALSE NEIGHBOUR: 'it returns false'. Refute it at one input. -/
def fnEquivalentWrong : ChangeSpec := { name := "fnEquivalent", fn := fun _ => fun
  | [d] => { results := [.lit (.bool false)], args := [d] }
  | _ => none }
def FnEquivalentWrongFalsely : Prop := fnEquivalentRow.holds Try.pinned (OpenSpec.ofChange fnEquivalentWrong)

/-- 'laws.FnEquivalentRuns': WHATEVER THE INPUT: true; the input reads as it did. -/
def fnEquivalentRunsSpec : ChangeSpec := { name := "fnEquivalentRuns", fn := fun _ => fun
  | [d1, d2] => { results := [.lit (.bool true)], args := [d1, d2] }
  | _ => none }
def fnEquivalentRunsRow : OpenClaim := { program := "ythpiddpkcmecfaa", sum := "bfaf1ed5554f870685183f856738ceefb6c27b76bc2eed3b81c8d027b185194f", func := "loop.example/fpgatoolchain/laws.FnEquivalentRuns", spec := "fnEquivalentRuns", unfollowed := true, recurses := true, plainKeys := false, apart := false }
def FnEquivalentRunsSaid : Prop := fnEquivalentRunsRow.holds Try.pinned (OpenSpec.ofChange fnEquivalentRunsSpec)

/-- ITS FALSE NEIGHBOUR: 'it returns false'. Refute it at one input. -/
def fnEquivalentRunsWrong : ChangeSpec := { name := "fnEquivalentRuns", fn := fun _ => fun
  | [d1, d2] => { results := [.lit (.bool false)], args := [d1, d2] }
  | _ => none }
def FnEquivalentRunsWrongFalsely : Prop := fnEquivalentRunsRow.holds Try.pinned (OpenSpec.ofChange fnEquivalentRunsWrong)

/-- 'laws.FnExactOptimize': WHATEVER THE INPUT: true; the input reads as it did. -/
def fnExactOptimizeSpec : ChangeSpec := { name := "fnExactOptimize", fn := fun _ => fun
  | [d] => { results := [.lit (.bool true)], args := [d] }
  | _ => none }
def fnExactOptimizeRow : OpenClaim := { program := "ythpiddpkcmecfaa", sum := "bfaf1ed5554f870685183f856738ceefb6c27b76bc2eed3b81c8d027b185194f", func := "loop.example/fpgatoolchain/laws.FnExactOptimize", spec := "fnExactOptimize", plainKeys := false, apart := false }
def FnExactOptimizeSaid : Prop := fnExactOptimizeRow.holds Try.pinned (OpenSpec.ofChange fnExactOptimizeSpec)

/-- ITS FALSE NEIGHBOUR: 'it returns false'. Refute it at one input. -/
def fnExactOptimizeWrong : ChangeSpec := { name := "fnExactOptimize", fn := fun _ => fun
  | [d] => { results := [.lit (.bool false)], args := [d] }
  | _ => none }
def FnExactOptimizeWrongFalsely : Prop := fnExactOptimizeRow.holds Try.pinned (OpenSpec.ofChange fnExactOptimizeWrong)

/-- 'laws.FnExactSameInterface': WHATEVER THE INPUT: true; the input reads as it did. -/
def fnExactSameInterfaceSpec : ChangeSpec := { name := "fnExactSameInterface", fn := fun _ => fun
  | [d1, d2] => { results := [.lit (.bool true)], args := [d1, d2] }
  | _ => none }
def fnExactSameInterfaceRow : OpenClaim := { program := "ythpiddpkcmecfaa", sum := "bfaf1ed5554f870685183f856738ceefb6c27b76bc2eed3b81c8d027b185194f", func := "loop.example/fpgatoolchain/laws.FnExactSameInterface", spec := "fnExactSameInterface", plainKeys := false, apart := false }
def FnExactSameInterfaceSaid : Prop := fnExactSameInterfaceRow.holds Try.pinned (OpenSpec.ofChange fnExactSameInterfaceSpec)

/-- ITS FALSE NEIGHBOUR: 'it returns false'. Refute it at one input. -/
def fnExactSameInterfaceWrong : ChangeSpec := { name := "fnExactSameInterface", fn := fun _ => fun
  | [d1, d2] => { results := [.lit (.bool false)], args := [d1, d2] }
  | _ => none }
def FnExactSameInterfaceWrongFalsely : Prop := fnExactSameInterfaceRow.holds Try.pinned (OpenSpec.ofChange fnExactSameInterfaceWrong)

/-- 'laws.FnExactFindDifference': WHATEVER THE INPUT: true; the input reads as it did. -/
def fnExactFindDifferenceSpec : ChangeSpec := { name := "fnExactFindDifference", fn := fun _ => fun
  | [d1, d2] => { results := [.lit (.bool true)], args := [d1, d2] }
  | _ => none }
def fnExactFindDifferenceRow : OpenClaim := { program := "ythpiddpkcmecfaa", sum := "bfaf1ed5554f870685183f856738ceefb6c27b76bc2eed3b81c8d027b185194f", func := "loop.example/fpgatoolchain/laws.FnExactFindDifference", spec := "fnExactFindDifference", unfollowed := true, recurses := true, plainKeys := false, apart := false }
def FnExactFindDifferenceSaid : Prop := fnExactFindDifferenceRow.holds Try.pinned (OpenSpec.ofChange fnExactFindDifferenceSpec)

/-- ITS FALSE NEIGHBOUR: 'it returns false'. Refute it at one input. -/
def fnExactFindDifferenceWrong : ChangeSpec := { name := "fnExactFindDifference", fn := fun _ => fun
  | [d1, d2] => { results := [.lit (.bool false)], args := [d1, d2] }
  | _ => none }
def FnExactFindDifferenceWrongFalsely : Prop := fnExactFindDifferenceRow.holds Try.pinned (OpenSpec.ofChange fnExactFindDifferenceWrong)

/-- 'laws.FnExactEquivalent': WHATEVER THE INPUT: true; the input reads as it did. -/
def fnExactEquivalentSpec : ChangeSpec := { name := "fnExactEquivalent", fn := fun _ => fun
  | [d1, d2] => { results := [.lit (.bool true)], args := [d1, d2] }
  | _ => none }
def fnExactEquivalentRow : OpenClaim := { program := "ythpiddpkcmecfaa", sum := "bfaf1ed5554f870685183f856738ceefb6c27b76bc2eed3b81c8d027b185194f", func := "loop.example/fpgatoolchain/laws.FnExactEquivalent", spec := "fnExactEquivalent", unfollowed := true, recurses := true, plainKeys := false, apart := false }
def FnExactEquivalentSaid : Prop := fnExactEquivalentRow.holds Try.pinned (OpenSpec.ofChange fnExactEquivalentSpec)

/-- ITS FALSE NEIGHBOUR: 'it returns false'. Refute it at one input. -/
def fnExactEquivalentWrong : ChangeSpec := { name := "fnExactEquivalent", fn := fun _ => fun
  | [d1, d2] => { results := [.lit (.bool false)], args := [d1, d2] }
  | _ => none }
def FnExactEquivalentWrongFalsely : Prop := fnExactEquivalentRow.holds Try.pinned (OpenSpec.ofChange fnExactEquivalentWrong)

/- THE SECOND FORM. 'bulk': how many values and letters a reading holds, each counted each time it is reached (what is shared counts as often as it is met; a slice's spare places count too). A statement '..UptoSaid' is the law's where the arguments, and the package variables that the reading takes, are together of bulk at most 1048576: NARROWER than '..Said'. Prove '..Said' where nothing that the law and all that it calls make is longer than what came in: it says more and counts as full. Else prove '..UptoSaid'. A law counts once. -/
mutual
def uptoBulk {H : Type} : DataW H → Nat
  | .lit (.string bytes) => bytes.length + 1
  | .lit _ => 1
  | .nil => 1
  | .ptr d => uptoBulk d + 1
  | .slice elems spare => uptoBulkAll elems + uptoBulkAll spare + 1
  | .agg parts => uptoBulkAll parts + 1
  | .iface _ d => uptoBulk d + 1
  | .map entries => uptoBulkEntries entries + 1
  | .held _ => 1
def uptoBulkAll {H : Type} : List (DataW H) → Nat
  | [] => 0
  | d :: r => uptoBulk d + uptoBulkAll r
def uptoBulkEntries {H : Type} : List (Lit × DataW H) → Nat
  | [] => 0
  | x :: r => uptoBulkEntry x + uptoBulkEntries r
def uptoBulkEntry {H : Type} : Lit × DataW H → Nat
  | (.string bytes, d) => bytes.length + uptoBulk d + 1
  | (_, d) => uptoBulk d + 1
 end
def uptoSmall : (H : Type) → List (DataW H) → Bool := fun _ ds => decide (uptoBulkAll ds ≤ 1048576)
def OpenSpec.upto (s : _root_.Go.ChangeSpec) : _root_.Go.OpenSpec := { _root_.Go.OpenSpec.ofChange s with cond := some uptoSmall }

/-- 'laws.FnOptimize', WHERE WHAT IT READS IS OF BULK AT MOST 1048576: true; the input reads as it did. -/
def fnOptimizeUptoRow : OpenClaim := { program := "ythpiddpkcmecfaa", sum := "bfaf1ed5554f870685183f856738ceefb6c27b76bc2eed3b81c8d027b185194f", func := "loop.example/fpgatoolchain/laws.FnOptimize", spec := "fnOptimize", plainKeys := false, apart := false, narrowed := true }
def FnOptimizeUptoSaid : Prop := fnOptimizeUptoRow.holds Try.pinned (OpenSpec.upto fnOptimizeSpec)

/-- 'laws.FnOptimizeSmall', WHERE WHAT IT READS IS OF BULK AT MOST 1048576: true; the input reads as it did. -/
def fnOptimizeSmallUptoRow : OpenClaim := { program := "ythpiddpkcmecfaa", sum := "bfaf1ed5554f870685183f856738ceefb6c27b76bc2eed3b81c8d027b185194f", func := "loop.example/fpgatoolchain/laws.FnOptimizeSmall", spec := "fnOptimizeSmall", plainKeys := false, apart := false, narrowed := true }
def FnOptimizeSmallUptoSaid : Prop := fnOptimizeSmallUptoRow.holds Try.pinned (OpenSpec.upto fnOptimizeSmallSpec)

/-- 'laws.FnOptimizeForm', WHERE WHAT IT READS IS OF BULK AT MOST 1048576: true; the input reads as it did. -/
def fnOptimizeFormUptoRow : OpenClaim := { program := "ythpiddpkcmecfaa", sum := "bfaf1ed5554f870685183f856738ceefb6c27b76bc2eed3b81c8d027b185194f", func := "loop.example/fpgatoolchain/laws.FnOptimizeForm", spec := "fnOptimizeForm", plainKeys := false, apart := false, narrowed := true }
def FnOptimizeFormUptoSaid : Prop := fnOptimizeFormUptoRow.holds Try.pinned (OpenSpec.upto fnOptimizeFormSpec)

/-- 'laws.FnSameInterface', WHERE WHAT IT READS IS OF BULK AT MOST 1048576: true; the input reads as it did. -/
def fnSameInterfaceUptoRow : OpenClaim := { program := "ythpiddpkcmecfaa", sum := "bfaf1ed5554f870685183f856738ceefb6c27b76bc2eed3b81c8d027b185194f", func := "loop.example/fpgatoolchain/laws.FnSameInterface", spec := "fnSameInterface", plainKeys := false, apart := false, narrowed := true }
def FnSameInterfaceUptoSaid : Prop := fnSameInterfaceUptoRow.holds Try.pinned (OpenSpec.upto fnSameInterfaceSpec)

/-- 'laws.FnFindDifference', WHERE WHAT IT READS IS OF BULK AT MOST 1048576: true; the input reads as it did. -/
def fnFindDifferenceUptoRow : OpenClaim := { program := "ythpiddpkcmecfaa", sum := "bfaf1ed5554f870685183f856738ceefb6c27b76bc2eed3b81c8d027b185194f", func := "loop.example/fpgatoolchain/laws.FnFindDifference", spec := "fnFindDifference", unfollowed := true, recurses := true, plainKeys := false, apart := false, narrowed := true }
def FnFindDifferenceUptoSaid : Prop := fnFindDifferenceUptoRow.holds Try.pinned (OpenSpec.upto fnFindDifferenceSpec)

/-- 'laws.FnEquivalent', WHERE WHAT IT READS IS OF BULK AT MOST 1048576: true; the input reads as it did. -/
def fnEquivalentUptoRow : OpenClaim := { program := "ythpiddpkcmecfaa", sum := "bfaf1ed5554f870685183f856738ceefb6c27b76bc2eed3b81c8d027b185194f", func := "loop.example/fpgatoolchain/laws.FnEquivalent", spec := "fnEquivalent", unfollowed := true, recurses := true, plainKeys := false, apart := false, narrowed := true }
def FnEquivalentUptoSaid : Prop := fnEquivalentUptoRow.holds Try.pinned (OpenSpec.upto fnEquivalentSpec)

/-- 'laws.FnEquivalentRuns', WHERE WHAT IT READS IS OF BULK AT MOST 1048576: true; the input reads as it did. -/
def fnEquivalentRunsUptoRow : OpenClaim := { program := "ythpiddpkcmecfaa", sum := "bfaf1ed5554f870685183f856738ceefb6c27b76bc2eed3b81c8d027b185194f", func := "loop.example/fpgatoolchain/laws.FnEquivalentRuns", spec := "fnEquivalentRuns", unfollowed := true, recurses := true, plainKeys := false, apart := false, narrowed := true }
def FnEquivalentRunsUptoSaid : Prop := fnEquivalentRunsUptoRow.holds Try.pinned (OpenSpec.upto fnEquivalentRunsSpec)

/-- 'laws.FnExactOptimize', WHERE WHAT IT READS IS OF BULK AT MOST 1048576: true; the input reads as it did. -/
def fnExactOptimizeUptoRow : OpenClaim := { program := "ythpiddpkcmecfaa", sum := "bfaf1ed5554f870685183f856738ceefb6c27b76bc2eed3b81c8d027b185194f", func := "loop.example/fpgatoolchain/laws.FnExactOptimize", spec := "fnExactOptimize", plainKeys := false, apart := false, narrowed := true }
def FnExactOptimizeUptoSaid : Prop := fnExactOptimizeUptoRow.holds Try.pinned (OpenSpec.upto fnExactOptimizeSpec)

/-- 'laws.FnExactSameInterface', WHERE WHAT IT READS IS OF BULK AT MOST 1048576: true; the input reads as it did. -/
def fnExactSameInterfaceUptoRow : OpenClaim := { program := "ythpiddpkcmecfaa", sum := "bfaf1ed5554f870685183f856738ceefb6c27b76bc2eed3b81c8d027b185194f", func := "loop.example/fpgatoolchain/laws.FnExactSameInterface", spec := "fnExactSameInterface", plainKeys := false, apart := false, narrowed := true }
def FnExactSameInterfaceUptoSaid : Prop := fnExactSameInterfaceUptoRow.holds Try.pinned (OpenSpec.upto fnExactSameInterfaceSpec)

/-- 'laws.FnExactFindDifference', WHERE WHAT IT READS IS OF BULK AT MOST 1048576: true; the input reads as it did. -/
def fnExactFindDifferenceUptoRow : OpenClaim := { program := "ythpiddpkcmecfaa", sum := "bfaf1ed5554f870685183f856738ceefb6c27b76bc2eed3b81c8d027b185194f", func := "loop.example/fpgatoolchain/laws.FnExactFindDifference", spec := "fnExactFindDifference", unfollowed := true, recurses := true, plainKeys := false, apart := false, narrowed := true }
def FnExactFindDifferenceUptoSaid : Prop := fnExactFindDifferenceUptoRow.holds Try.pinned (OpenSpec.upto fnExactFindDifferenceSpec)

/-- 'laws.FnExactEquivalent', WHERE WHAT IT READS IS OF BULK AT MOST 1048576: true; the input reads as it did. -/
def fnExactEquivalentUptoRow : OpenClaim := { program := "ythpiddpkcmecfaa", sum := "bfaf1ed5554f870685183f856738ceefb6c27b76bc2eed3b81c8d027b185194f", func := "loop.example/fpgatoolchain/laws.FnExactEquivalent", spec := "fnExactEquivalent", unfollowed := true, recurses := true, plainKeys := false, apart := false, narrowed := true }
def FnExactEquivalentUptoSaid : Prop := fnExactEquivalentUptoRow.holds Try.pinned (OpenSpec.upto fnExactEquivalentSpec)

end Rows
end Go.Proofs.Ythpiddpkcmecfaa
