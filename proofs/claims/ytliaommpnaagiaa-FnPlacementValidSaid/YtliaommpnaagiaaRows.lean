/-
  No cell of these rows narrows 'for every input' (looked for: loops, veiled, ifaces, maps, wideKeys, modest, calm, conditions, laid).
  DERIVED. THE GIVEN ROWS OF THIS SEAT. 2 by the template 'for every input the law returns true; each argument reads behind the call as it read before'; 0 by the template 'total and deterministic' (their statements: YtliaommpnaagiaaTotals.lean).
  GIVEN WITH THE SEED: the statements are not yours to turn. If you find one false, say at which input.
  Laid BY PROGRAM, IN A SANDBOX (cutbox-rows.mjs): the forced cells as the released guide's own fill.sh prints them over the translation 2ad9fb2c57aa34ea… (all of the seat's roots in one cut). By AI agents, Wed Nov 11 2026. No macro, syntax, notation, axiom, sorry.
-/
import Derived.Test.YtliaommpnaagiaaChecked
import GoSem.Claim
import GoSem.ClaimJoined
import GoSem.ClaimMapViews
import Derived.JoinedTies
import Derived.KernelRfl
namespace Go.Proofs.Ytliaommpnaagiaa
/- THE CELL 'sum', in the pinned program and in every row, IS THE sha256 OF THE DUMP (.gsa) THAT YtliaommpnaagiaaProg.lean LOADS. Nothing in Lean hashes anything: it is a label: what it is worth is what the hold of that sum in a sandbox is worth. -/
noncomputable def Try.pinned : Pinned := { name := "ytliaommpnaagiaa", sum := "2ad9fb2c57aa34ea91d60435259dd0f61783627631a8bcb6ea1eff47fe2a9ac2", checked := Try.checked }
namespace Rows
def none {H : Type} : Left H := { results := [], args := [] }

/-- 'laws.FnPlacementValid': WHATEVER THE INPUT: true; the input reads as it did. -/
def fnPlacementValidSpec : ChangeSpec := { name := "fnPlacementValid", fn := fun _ => fun
  | [d] => { results := [.lit (.bool true)], args := [d] }
  | _ => none }
def fnPlacementValidRow : OpenClaim := { program := "ytliaommpnaagiaa", sum := "2ad9fb2c57aa34ea91d60435259dd0f61783627631a8bcb6ea1eff47fe2a9ac2", func := "loop.example/fpgatoolchain/laws.FnPlacementValid", spec := "fnPlacementValid", inPlace := ["slices.overlaps[[]int]"], unfollowed := true, recurses := true, apart := false }
def FnPlacementValidSaid : Prop := fnPlacementValidRow.holds Try.pinned (OpenSpec.ofChange fnPlacementValidSpec)

/-- ITS FALSE NEIGHBOUR: 'it returns false'. Refute it at one input. -/
def fnPlacementValidWrong : ChangeSpec := { name := "fnPlacementValid", fn := fun _ => fun
  | [d] => { results := [.lit (.bool false)], args := [d] }
  | _ => none }
def FnPlacementValidWrongFalsely : Prop := fnPlacementValidRow.holds Try.pinned (OpenSpec.ofChange fnPlacementValidWrong)

/-- 'laws.FnExactPlacementValid': WHATEVER THE INPUT: true; the input reads as it did. -/
def fnExactPlacementValidSpec : ChangeSpec := { name := "fnExactPlacementValid", fn := fun _ => fun
  | [d1, d2] => { results := [.lit (.bool true)], args := [d1, d2] }
  | _ => none }
def fnExactPlacementValidRow : OpenClaim := { program := "ytliaommpnaagiaa", sum := "2ad9fb2c57aa34ea91d60435259dd0f61783627631a8bcb6ea1eff47fe2a9ac2", func := "loop.example/fpgatoolchain/laws.FnExactPlacementValid", spec := "fnExactPlacementValid", inPlace := ["slices.overlaps[[]int]"], unfollowed := true, recurses := true, apart := false }
def FnExactPlacementValidSaid : Prop := fnExactPlacementValidRow.holds Try.pinned (OpenSpec.ofChange fnExactPlacementValidSpec)

/-- ITS FALSE NEIGHBOUR: 'it returns false'. Refute it at one input. -/
def fnExactPlacementValidWrong : ChangeSpec := { name := "fnExactPlacementValid", fn := fun _ => fun
  | [d1, d2] => { results := [.lit (.bool false)], args := [d1, d2] }
  | _ => none }
def FnExactPlacementValidWrongFalsely : Prop := fnExactPlacementValidRow.holds Try.pinned (OpenSpec.ofChange fnExactPlacementValidWrong)

/- THE SECOND FORM. 'bulk': how many values and letters a reading holds, each counted each time it is reached (what is shared counts as often as it is met; a slice's spare places count too). A statement '..UptoSaid' is the law's where the arguments, and the package variables that the reading takes, are together of bulk at most 1048576: NARROWER than '..Said'. Prove '..Said' where nothing that the law and all that it calls make is longer than what came in: it says more and counts as full. Else prove '..UptoSaid'. A law counts once. -/
mutual
def uptoBulk {H : Type} : DataW H → Nat
  | .lit (.string bytes) => bytes.length + 1
  | .lit _ => 1
  | .nil => 1
  | .ptr d => uptoBulk d + 1
  | .slice elems spare => uptoBulkAll elems + uptoBulkAll spare + 1
  | .agg parts => uptoBulkAll parts + 1
  | .iface _ d => uptoBulk d + 1
  | .map entries => uptoBulkEntries entries + 1
  | .held _ => 1
def uptoBulkAll {H : Type} : List (DataW H) → Nat
  | [] => 0
  | d :: r => uptoBulk d + uptoBulkAll r
def uptoBulkEntries {H : Type} : List (Lit × DataW H) → Nat
  | [] => 0
  | x :: r => uptoBulkEntry x + uptoBulkEntries r
def uptoBulkEntry {H : Type} : Lit × DataW H → Nat
  | (.string bytes, d) => bytes.length + uptoBulk d + 1
  | (_, d) => uptoBulk d + 1
 end
def uptoSmall : (H : Type) → List (DataW H) → Bool := fun _ ds => decide (uptoBulkAll ds ≤ 1048576)
def OpenSpec.upto (s : _root_.Go.ChangeSpec) : _root_.Go.OpenSpec := { _root_.Go.OpenSpec.ofChange s with cond := some uptoSmall }

/-- 'laws.FnPlacementValid', WHERE WHAT IT READS IS OF BULK AT MOST 1048576: true; the input reads as it did. -/
def fnPlacementValidUptoRow : OpenClaim := { program := "ytliaommpnaagiaa", sum := "2ad9fb2c57aa34ea91d60435259dd0f61783627631a8bcb6ea1eff47fe2a9ac2", func := "loop.example/fpgatoolchain/laws.FnPlacementValid", spec := "fnPlacementValid", inPlace := ["slices.overlaps[[]int]"], unfollowed := true, recurses := true, apart := false, narrowed := true }
def FnPlacementValidUptoSaid : Prop := fnPlacementValidUptoRow.holds Try.pinned (OpenSpec.upto fnPlacementValidSpec)

/-- 'laws.FnExactPlacementValid', WHERE WHAT IT READS IS OF BULK AT MOST 1048576: true; the input reads as it did. -/
def fnExactPlacementValidUptoRow : OpenClaim := { program := "ytliaommpnaagiaa", sum := "2ad9fb2c57aa34ea91d60435259dd0f61783627631a8bcb6ea1eff47fe2a9ac2", func := "loop.example/fpgatoolchain/laws.FnExactPlacementValid", spec := "fnExactPlacementValid", inPlace := ["slices.overlaps[[]int]"], unfollowed := true, recurses := true, apart := false, narrowed := true }
def FnExactPlacementValidUptoSaid : Prop := fnExactPlacementValidUptoRow.holds Try.pinned (OpenSpec.upto fnExactPlacementValidSpec)

end Rows
end Go.Proofs.Ytliaommpnaagiaa
