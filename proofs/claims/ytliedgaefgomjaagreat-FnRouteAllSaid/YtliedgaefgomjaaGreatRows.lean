/-
  No cell of these rows narrows 'for every input' (looked for: loops, veiled, ifaces, maps, wideKeys, modest, calm, conditions, laid).
  DERIVED. THE GIVEN ROWS OF THIS SEAT. 3 by the template 'for every input the law returns true; each argument reads behind the call as it read before'; 0 by the template 'total and deterministic' (their statements: YtliedgaefgomjaaGreatTotals.lean).
  GIVEN WITH THE SEED: the statements are not yours to turn. If you find one false, say at which input.
  Laid BY PROGRAM, IN A SANDBOX (cutbox-rows.mjs): the forced cells as the released guide's own fill.sh prints them over the translation 393bed1ea4f49947… (all of the seat's roots in one cut). By AI agents, Wed Nov 11 2026. No macro, syntax, notation, axiom, sorry.
-/
import Derived.Test.YtliedgaefgomjaaGreatChecked
import GoSem.Claim
import GoSem.ClaimJoined
import GoSem.ClaimMapViews
import Derived.JoinedTies
import Derived.KernelRfl
namespace Go.Proofs.YtliedgaefgomjaaGreat
/- THE CELL 'sum', in the pinned program and in every row, IS THE sha256 OF THE DUMP (.gsa) THAT YtliedgaefgomjaaGreatProg.lean LOADS. Nothing in Lean hashes anything: it is a label: what it is worth is what the hold of that sum in a sandbox is worth. -/
noncomputable def Tryz.pinned : Pinned := { name := "ytliedgaefgomjaagreat", sum := "393bed1ea4f499476ccde459876cdab32cc30028f3f8d5a1cbb2dfb5b2b2db24", checked := Tryz.checked }
namespace Rows
def none {H : Type} : Left H := { results := [], args := [] }

/-- 'laws.FnRoute': WHATEVER THE INPUT: true; the input reads as it did. -/
def fnRouteSpec : ChangeSpec := { name := "fnRoute", fn := fun _ => fun
  | [d] => { results := [.lit (.bool true)], args := [d] }
  | _ => none }
def fnRouteRow : OpenClaim := { program := "ytliedgaefgomjaagreat", sum := "393bed1ea4f499476ccde459876cdab32cc30028f3f8d5a1cbb2dfb5b2b2db24", func := "loop.example/fpgatoolchain/laws.FnRoute", spec := "fnRoute", inPlace := ["slices.overlaps[[]int]"], unfollowed := true, recurses := true, apart := false }
def FnRouteSaid : Prop := fnRouteRow.holds Tryz.pinned (OpenSpec.ofChange fnRouteSpec)

/-- ITS FALSE NEIGHBOUR: 'it returns false'. Refute it at one input. -/
def fnRouteWrong : ChangeSpec := { name := "fnRoute", fn := fun _ => fun
  | [d] => { results := [.lit (.bool false)], args := [d] }
  | _ => none }
def FnRouteWrongFalsely : Prop := fnRouteRow.holds Tryz.pinned (OpenSpec.ofChange fnRouteWrong)

/-- 'laws.FnRouteAll': WHATEVER THE INPUT: true; the input reads as it did. -/
def fnRouteAllSpec : ChangeSpec := { name := "fnRouteAll", fn := fun _ => fun
  | [d] => { results := [.lit (.bool true)], args := [d] }
  | _ => none }
def fnRouteAllRow : OpenClaim := { program := "ytliedgaefgomjaagreat", sum := "393bed1ea4f499476ccde459876cdab32cc30028f3f8d5a1cbb2dfb5b2b2db24", func := "loop.example/fpgatoolchain/laws.FnRouteAll", spec := "fnRouteAll", inPlace := ["slices.overlaps[[]int]"], unfollowed := true, recurses := true, apart := false }
def FnRouteAllSaid : Prop := fnRouteAllRow.holds Tryz.pinned (OpenSpec.ofChange fnRouteAllSpec)

/-- ITS FALSE NEIGHBOUR: 'it returns false'. Refute it at one input. -/
def fnRouteAllWrong : ChangeSpec := { name := "fnRouteAll", fn := fun _ => fun
  | [d] => { results := [.lit (.bool false)], args := [d] }
  | _ => none }
def FnRouteAllWrongFalsely : Prop := fnRouteAllRow.holds Tryz.pinned (OpenSpec.ofChange fnRouteAllWrong)

/-- 'laws.FnExactRoute': WHATEVER THE INPUT: true; the input reads as it did. -/
def fnExactRouteSpec : ChangeSpec := { name := "fnExactRoute", fn := fun _ => fun
  | [d1, d2] => { results := [.lit (.bool true)], args := [d1, d2] }
  | _ => none }
def fnExactRouteRow : OpenClaim := { program := "ytliedgaefgomjaagreat", sum := "393bed1ea4f499476ccde459876cdab32cc30028f3f8d5a1cbb2dfb5b2b2db24", func := "loop.example/fpgatoolchain/laws.FnExactRoute", spec := "fnExactRoute", inPlace := ["slices.overlaps[[]int]"], unfollowed := true, recurses := true, apart := false }
def FnExactRouteSaid : Prop := fnExactRouteRow.holds Tryz.pinned (OpenSpec.ofChange fnExactRouteSpec)

/-- ITS FALSE NEIGHBOUR: 'it returns false'. Refute it at one input. -/
def fnExactRouteWrong : ChangeSpec := { name := "fnExactRoute", fn := fun _ => fun
  | [d1, d2] => { results := [.lit (.bool false)], args := [d1, d2] }
  | _ => none }
def FnExactRouteWrongFalsely : Prop := fnExactRouteRow.holds Tryz.pinned (OpenSpec.ofChange fnExactRouteWrong)

/- THE SECOND FORM. 'bulk': how many values and letters a reading holds, each counted each time it is reached (what is shared counts as often as it is met; a slice's spare places count too). A statement '..UptoSaid' is the law's where the arguments, and the package variables that the reading takes, are together of bulk at most 1048576: NARROWER than '..Said'. Prove '..Said' where nothing that the law and all that it calls make is longer than what came in: it says more and counts as full. Else prove '..UptoSaid'. A law counts once. -/
mutual
def uptoBulk {H : Type} : DataW H → Nat
  | .lit (.string bytes) => bytes.length + 1
  | .lit _ => 1
  | .nil => 1
  | .ptr d => uptoBulk d + 1
  | .slice elems spare => uptoBulkAll elems + uptoBulkAll spare + 1
  | .agg parts => uptoBulkAll parts + 1
  | .iface _ d => uptoBulk d + 1
  | .map entries => uptoBulkEntries entries + 1
  | .held _ => 1
def uptoBulkAll {H : Type} : List (DataW H) → Nat
  | [] => 0
  | d :: r => uptoBulk d + uptoBulkAll r
def uptoBulkEntries {H : Type} : List (Lit × DataW H) → Nat
  | [] => 0
  | x :: r => uptoBulkEntry x + uptoBulkEntries r
def uptoBulkEntry {H : Type} : Lit × DataW H → Nat
  | (.string bytes, d) => bytes.length + uptoBulk d + 1
  | (_, d) => uptoBulk d + 1
 end
def uptoSmall : (H : Type) → List (DataW H) → Bool := fun _ ds => decide (uptoBulkAll ds ≤ 1048576)
def OpenSpec.upto (s : _root_.Go.ChangeSpec) : _root_.Go.OpenSpec := { _root_.Go.OpenSpec.ofChange s with cond := some uptoSmall }

/-- 'laws.FnRoute', WHERE WHAT IT READS IS OF BULK AT MOST 1048576: true; the input reads as it did. -/
def fnRouteUptoRow : OpenClaim := { program := "ytliedgaefgomjaagreat", sum := "393bed1ea4f499476ccde459876cdab32cc30028f3f8d5a1cbb2dfb5b2b2db24", func := "loop.example/fpgatoolchain/laws.FnRoute", spec := "fnRoute", inPlace := ["slices.overlaps[[]int]"], unfollowed := true, recurses := true, apart := false, narrowed := true }
def FnRouteUptoSaid : Prop := fnRouteUptoRow.holds Tryz.pinned (OpenSpec.upto fnRouteSpec)

/-- 'laws.FnRouteAll', WHERE WHAT IT READS IS OF BULK AT MOST 1048576: true; the input reads as it did. -/
def fnRouteAllUptoRow : OpenClaim := { program := "ytliedgaefgomjaagreat", sum := "393bed1ea4f499476ccde459876cdab32cc30028f3f8d5a1cbb2dfb5b2b2db24", func := "loop.example/fpgatoolchain/laws.FnRouteAll", spec := "fnRouteAll", inPlace := ["slices.overlaps[[]int]"], unfollowed := true, recurses := true, apart := false, narrowed := true }
def FnRouteAllUptoSaid : Prop := fnRouteAllUptoRow.holds Tryz.pinned (OpenSpec.upto fnRouteAllSpec)

/-- 'laws.FnExactRoute', WHERE WHAT IT READS IS OF BULK AT MOST 1048576: true; the input reads as it did. -/
def fnExactRouteUptoRow : OpenClaim := { program := "ytliedgaefgomjaagreat", sum := "393bed1ea4f499476ccde459876cdab32cc30028f3f8d5a1cbb2dfb5b2b2db24", func := "loop.example/fpgatoolchain/laws.FnExactRoute", spec := "fnExactRoute", inPlace := ["slices.overlaps[[]int]"], unfollowed := true, recurses := true, apart := false, narrowed := true }
def FnExactRouteUptoSaid : Prop := fnExactRouteUptoRow.holds Tryz.pinned (OpenSpec.upto fnExactRouteSpec)

end Rows
end Go.Proofs.YtliedgaefgomjaaGreat
