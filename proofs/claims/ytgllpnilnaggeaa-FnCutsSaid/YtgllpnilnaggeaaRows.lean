/-
  No cell of these rows narrows 'for every input' (looked for: loops, veiled, ifaces, maps, wideKeys, modest, calm, conditions, laid).
  DERIVED. THE GIVEN ROWS OF THIS SEAT. 6 by the template 'for every input the law returns true; each argument reads behind the call as it read before'; 0 by the template 'total and deterministic' (their statements: YtgllpnilnaggeaaTotals.lean).
  GIVEN WITH THE SEED: the statements are not yours to turn. If you find one false, say at which input.
  Laid BY PROGRAM, IN A SANDBOX (cutbox-rows.mjs): the forced cells as the released guide's own fill.sh prints them over the translation 512514248265aa6c… (all of the seat's roots in one cut). By AI agents, Wed Nov 11 2026. No macro, syntax, notation, axiom, sorry.
-/
import Derived.Test.YtgllpnilnaggeaaChecked
import GoSem.Claim
import GoSem.ClaimJoined
import GoSem.ClaimMapViews
import Derived.JoinedTies
import Derived.KernelRfl
namespace Go.Proofs.Ytgllpnilnaggeaa
/- THE CELL 'sum', in the pinned program and in every row, IS THE sha256 OF THE DUMP (.gsa) THAT YtgllpnilnaggeaaProg.lean LOADS. Nothing in Lean hashes anything: it is a label: what it is worth is what the hold of that sum in a sandbox is worth. -/
noncomputable def Try.pinned : Pinned := { name := "ytgllpnilnaggeaa", sum := "512514248265aa6c6aef4574a8548d6f44f1c8aa3d17d15bf16b674445e12f1d", checked := Try.checked }
namespace Rows
def none {H : Type} : Left H := { results := [], args := [] }

/-- 'laws.FnCuts': WHATEVER THE INPUT: true; the input reads as it did. -/
def fnCutsSpec : ChangeSpec := { name := "fnCuts", fn := fun _ => fun
  | [d] => { results := [.lit (.bool true)], args := [d] }
  | _ => none }
def fnCutsRow : OpenClaim := { program := "ytgllpnilnaggeaa", sum := "512514248265aa6c6aef4574a8548d6f44f1c8aa3d17d15bf16b674445e12f1d", func := "loop.example/fpgatoolchain/laws.FnCuts", spec := "fnCuts", inPlace := ["slices.overlaps[[]int]"], unfollowed := true, recurses := true, apart := false }
def FnCutsSaid : Prop := fnCutsRow.holds Try.pinned (OpenSpec.ofChange fnCutsSpec)

/-- ITS FALSE NEIGHBOUR: 'it returns false'. Refute it at one input. -/
def fnCutsWrong : ChangeSpec := { name := "fnCuts", fn := fun _ => fun
  | [d] => { results := [.lit (.bool false)], args := [d] }
  | _ => none }
def FnCutsWrongFalsely : Prop := fnCutsRow.holds Try.pinned (OpenSpec.ofChange fnCutsWrong)

/-- 'laws.FnMapLuts': WHATEVER THE INPUT: true; the input reads as it did. -/
def fnMapLutsSpec : ChangeSpec := { name := "fnMapLuts", fn := fun _ => fun
  | [d] => { results := [.lit (.bool true)], args := [d] }
  | _ => none }
def fnMapLutsRow : OpenClaim := { program := "ytgllpnilnaggeaa", sum := "512514248265aa6c6aef4574a8548d6f44f1c8aa3d17d15bf16b674445e12f1d", func := "loop.example/fpgatoolchain/laws.FnMapLuts", spec := "fnMapLuts", inPlace := ["slices.overlaps[[]int]"], unfollowed := true, recurses := true, apart := false }
def FnMapLutsSaid : Prop := fnMapLutsRow.holds Try.pinned (OpenSpec.ofChange fnMapLutsSpec)

/-- ITS FALSE NEIGHBOUR: 'it returns false'. Refute it at one input. -/
def fnMapLutsWrong : ChangeSpec := { name := "fnMapLuts", fn := fun _ => fun
  | [d] => { results := [.lit (.bool false)], args := [d] }
  | _ => none }
def FnMapLutsWrongFalsely : Prop := fnMapLutsRow.holds Try.pinned (OpenSpec.ofChange fnMapLutsWrong)

/-- 'laws.FnMappedDepth': WHATEVER THE INPUT: true; the input reads as it did. -/
def fnMappedDepthSpec : ChangeSpec := { name := "fnMappedDepth", fn := fun _ => fun
  | [d] => { results := [.lit (.bool true)], args := [d] }
  | _ => none }
def fnMappedDepthRow : OpenClaim := { program := "ytgllpnilnaggeaa", sum := "512514248265aa6c6aef4574a8548d6f44f1c8aa3d17d15bf16b674445e12f1d", func := "loop.example/fpgatoolchain/laws.FnMappedDepth", spec := "fnMappedDepth", inPlace := ["slices.overlaps[[]int]"], unfollowed := true, recurses := true, apart := false }
def FnMappedDepthSaid : Prop := fnMappedDepthRow.holds Try.pinned (OpenSpec.ofChange fnMappedDepthSpec)

/-- ITS FALSE NEIGHBOUR: 'it returns false'. Refute it at one input. -/
def fnMappedDepthWrong : ChangeSpec := { name := "fnMappedDepth", fn := fun _ => fun
  | [d] => { results := [.lit (.bool false)], args := [d] }
  | _ => none }
def FnMappedDepthWrongFalsely : Prop := fnMappedDepthRow.holds Try.pinned (OpenSpec.ofChange fnMappedDepthWrong)

/-- 'laws.FnExactCuts': WHATEVER THE INPUT: true; the input reads as it did. -/
def fnExactCutsSpec : ChangeSpec := { name := "fnExactCuts", fn := fun _ => fun
  | [d] => { results := [.lit (.bool true)], args := [d] }
  | _ => none }
def fnExactCutsRow : OpenClaim := { program := "ytgllpnilnaggeaa", sum := "512514248265aa6c6aef4574a8548d6f44f1c8aa3d17d15bf16b674445e12f1d", func := "loop.example/fpgatoolchain/laws.FnExactCuts", spec := "fnExactCuts", inPlace := ["slices.overlaps[[]int]"], unfollowed := true, recurses := true, apart := false }
def FnExactCutsSaid : Prop := fnExactCutsRow.holds Try.pinned (OpenSpec.ofChange fnExactCutsSpec)

/-- ITS FALSE NEIGHBOUR: 'it returns false'. Refute it at one input. -/
def fnExactCutsWrong : ChangeSpec := { name := "fnExactCuts", fn := fun _ => fun
  | [d] => { results := [.lit (.bool false)], args := [d] }
  | _ => none }
def FnExactCutsWrongFalsely : Prop := fnExactCutsRow.holds Try.pinned (OpenSpec.ofChange fnExactCutsWrong)

/-- 'laws.FnExactMapLuts': WHATEVER THE INPUT: true; the input reads as it did. -/
def fnExactMapLutsSpec : ChangeSpec := { name := "fnExactMapLuts", fn := fun _ => fun
  | [d] => { results := [.lit (.bool true)], args := [d] }
  | _ => none }
def fnExactMapLutsRow : OpenClaim := { program := "ytgllpnilnaggeaa", sum := "512514248265aa6c6aef4574a8548d6f44f1c8aa3d17d15bf16b674445e12f1d", func := "loop.example/fpgatoolchain/laws.FnExactMapLuts", spec := "fnExactMapLuts", inPlace := ["slices.overlaps[[]int]"], unfollowed := true, recurses := true, apart := false }
def FnExactMapLutsSaid : Prop := fnExactMapLutsRow.holds Try.pinned (OpenSpec.ofChange fnExactMapLutsSpec)

/-- ITS FALSE NEIGHBOUR: 'it returns false'. Refute it at one input. -/
def fnExactMapLutsWrong : ChangeSpec := { name := "fnExactMapLuts", fn := fun _ => fun
  | [d] => { results := [.lit (.bool false)], args := [d] }
  | _ => none }
def FnExactMapLutsWrongFalsely : Prop := fnExactMapLutsRow.holds Try.pinned (OpenSpec.ofChange fnExactMapLutsWrong)

/-- 'laws.FnExactMappedDepth': WHATEVER THE INPUT: true; the input reads as it did. -/
def fnExactMappedDepthSpec : ChangeSpec := { name := "fnExactMappedDepth", fn := fun _ => fun
  | [d] => { results := [.lit (.bool true)], args := [d] }
  | _ => none }
def fnExactMappedDepthRow : OpenClaim := { program := "ytgllpnilnaggeaa", sum := "512514248265aa6c6aef4574a8548d6f44f1c8aa3d17d15bf16b674445e12f1d", func := "loop.example/fpgatoolchain/laws.FnExactMappedDepth", spec := "fnExactMappedDepth", inPlace := ["slices.overlaps[[]int]"], unfollowed := true, recurses := true, apart := false }
def FnExactMappedDepthSaid : Prop := fnExactMappedDepthRow.holds Try.pinned (OpenSpec.ofChange fnExactMappedDepthSpec)

/-- ITS FALSE NEIGHBOUR: 'it returns false'. Refute it at one input. -/
def fnExactMappedDepthWrong : ChangeSpec := { name := "fnExactMappedDepth", fn := fun _ => fun
  | [d] => { results := [.lit (.bool false)], args := [d] }
  | _ => none }
def FnExactMappedDepthWrongFalsely : Prop := fnExactMappedDepthRow.holds Try.pinned (OpenSpec.ofChange fnExactMappedDepthWrong)

/- THE SECOND FORM. 'bulk': how many values and letters a reading holds, each counted each time it is reached (what is shared counts as often as it is met; a slice's spare places count too). A statement '..UptoSaid' is the law's where the arguments, and the package variables that the reading takes, are together of bulk at most 1048576: NARROWER than '..Said'. Prove '..Said' where nothing that the law and all that it calls make is longer than what came in: it says more and counts as full. Else prove '..UptoSaid'. A law counts once. -/
mutual
def uptoBulk {H : Type} : DataW H → Nat
  | .lit (.string bytes) => bytes.length + 1
  | .lit _ => 1
  | .nil => 1
  | .ptr d => uptoBulk d + 1
  | .slice elems spare => uptoBulkAll elems + uptoBulkAll spare + 1
  | .agg parts => uptoBulkAll parts + 1
  | .iface _ d => uptoBulk d + 1
  | .map entries => uptoBulkEntries entries + 1
  | .held _ => 1
def uptoBulkAll {H : Type} : List (DataW H) → Nat
  | [] => 0
  | d :: r => uptoBulk d + uptoBulkAll r
def uptoBulkEntries {H : Type} : List (Lit × DataW H) → Nat
  | [] => 0
  | x :: r => uptoBulkEntry x + uptoBulkEntries r
def uptoBulkEntry {H : Type} : Lit × DataW H → Nat
  | (.string bytes, d) => bytes.length + uptoBulk d + 1
  | (_, d) => uptoBulk d + 1
 end
def uptoSmall : (H : Type) → List (DataW H) → Bool := fun _ ds => decide (uptoBulkAll ds ≤ 1048576)
def OpenSpec.upto (s : _root_.Go.ChangeSpec) : _root_.Go.OpenSpec := { _root_.Go.OpenSpec.ofChange s with cond := some uptoSmall }

/-- 'laws.FnCuts', WHERE WHAT IT READS IS OF BULK AT MOST 1048576: true; the input reads as it did. -/
def fnCutsUptoRow : OpenClaim := { program := "ytgllpnilnaggeaa", sum := "512514248265aa6c6aef4574a8548d6f44f1c8aa3d17d15bf16b674445e12f1d", func := "loop.example/fpgatoolchain/laws.FnCuts", spec := "fnCuts", inPlace := ["slices.overlaps[[]int]"], unfollowed := true, recurses := true, apart := false, narrowed := true }
def FnCutsUptoSaid : Prop := fnCutsUptoRow.holds Try.pinned (OpenSpec.upto fnCutsSpec)

/-- 'laws.FnMapLuts', WHERE WHAT IT READS IS OF BULK AT MOST 1048576: true; the input reads as it did. -/
def fnMapLutsUptoRow : OpenClaim := { program := "ytgllpnilnaggeaa", sum := "512514248265aa6c6aef4574a8548d6f44f1c8aa3d17d15bf16b674445e12f1d", func := "loop.example/fpgatoolchain/laws.FnMapLuts", spec := "fnMapLuts", inPlace := ["slices.overlaps[[]int]"], unfollowed := true, recurses := true, apart := false, narrowed := true }
def FnMapLutsUptoSaid : Prop := fnMapLutsUptoRow.holds Try.pinned (OpenSpec.upto fnMapLutsSpec)

/-- 'laws.FnMappedDepth', WHERE WHAT IT READS IS OF BULK AT MOST 1048576: true; the input reads as it did. -/
def fnMappedDepthUptoRow : OpenClaim := { program := "ytgllpnilnaggeaa", sum := "512514248265aa6c6aef4574a8548d6f44f1c8aa3d17d15bf16b674445e12f1d", func := "loop.example/fpgatoolchain/laws.FnMappedDepth", spec := "fnMappedDepth", inPlace := ["slices.overlaps[[]int]"], unfollowed := true, recurses := true, apart := false, narrowed := true }
def FnMappedDepthUptoSaid : Prop := fnMappedDepthUptoRow.holds Try.pinned (OpenSpec.upto fnMappedDepthSpec)

/-- 'laws.FnExactCuts', WHERE WHAT IT READS IS OF BULK AT MOST 1048576: true; the input reads as it did. -/
def fnExactCutsUptoRow : OpenClaim := { program := "ytgllpnilnaggeaa", sum := "512514248265aa6c6aef4574a8548d6f44f1c8aa3d17d15bf16b674445e12f1d", func := "loop.example/fpgatoolchain/laws.FnExactCuts", spec := "fnExactCuts", inPlace := ["slices.overlaps[[]int]"], unfollowed := true, recurses := true, apart := false, narrowed := true }
def FnExactCutsUptoSaid : Prop := fnExactCutsUptoRow.holds Try.pinned (OpenSpec.upto fnExactCutsSpec)

/-- 'laws.FnExactMapLuts', WHERE WHAT IT READS IS OF BULK AT MOST 1048576: true; the input reads as it did. -/
def fnExactMapLutsUptoRow : OpenClaim := { program := "ytgllpnilnaggeaa", sum := "512514248265aa6c6aef4574a8548d6f44f1c8aa3d17d15bf16b674445e12f1d", func := "loop.example/fpgatoolchain/laws.FnExactMapLuts", spec := "fnExactMapLuts", inPlace := ["slices.overlaps[[]int]"], unfollowed := true, recurses := true, apart := false, narrowed := true }
def FnExactMapLutsUptoSaid : Prop := fnExactMapLutsUptoRow.holds Try.pinned (OpenSpec.upto fnExactMapLutsSpec)

/-- 'laws.FnExactMappedDepth', WHERE WHAT IT READS IS OF BULK AT MOST 1048576: true; the input reads as it did. -/
def fnExactMappedDepthUptoRow : OpenClaim := { program := "ytgllpnilnaggeaa", sum := "512514248265aa6c6aef4574a8548d6f44f1c8aa3d17d15bf16b674445e12f1d", func := "loop.example/fpgatoolchain/laws.FnExactMappedDepth", spec := "fnExactMappedDepth", inPlace := ["slices.overlaps[[]int]"], unfollowed := true, recurses := true, apart := false, narrowed := true }
def FnExactMappedDepthUptoSaid : Prop := fnExactMappedDepthUptoRow.holds Try.pinned (OpenSpec.upto fnExactMappedDepthSpec)

end Rows
end Go.Proofs.Ytgllpnilnaggeaa
