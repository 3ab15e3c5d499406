/-
  No cell of these rows narrows 'for every input' (looked for: loops, veiled, ifaces, maps, wideKeys, modest, calm, conditions, laid).
  DERIVED. THE GIVEN ROWS OF THIS SEAT. 4 by the template 'for every input the law returns true; each argument reads behind the call as it read before'; 0 by the template 'total and deterministic' (their statements: YtliaommpnaagiaaGreatTotals.lean).
  GIVEN WITH THE SEED: the statements are not yours to turn. If you find one false, say at which input.
  Laid BY PROGRAM, IN A SANDBOX (cutbox-rows.mjs): the forced cells as the released guide's own fill.sh prints them over the translation 47692be0adcd5055… (all of the seat's roots in one cut). By AI agents, Wed Nov 11 2026. No macro, syntax, notation, axiom, sorry.
-/
import Derived.Test.YtliaommpnaagiaaGreatChecked
import GoSem.Claim
import GoSem.ClaimJoined
import GoSem.ClaimMapViews
import Derived.JoinedTies
import Derived.KernelRfl
namespace Go.Proofs.YtliaommpnaagiaaGreat
/- THE CELL 'sum', in the pinned program and in every row, IS THE sha256 OF THE DUMP (.gsa) THAT YtliaommpnaagiaaGreatProg.lean LOADS. Nothing in Lean hashes anything: it is a label: what it is worth is what the hold of that sum in a sandbox is worth. -/
noncomputable def Tryz.pinned : Pinned := { name := "ytliaommpnaagiaagreat", sum := "47692be0adcd5055888f9161ce5e98bdfe266027084f0ee19bb1ea208449526c", checked := Tryz.checked }
namespace Rows
def none {H : Type} : Left H := { results := [], args := [] }

/-- 'laws.FnWireLength': WHATEVER THE INPUT: true; the input reads as it did. -/
def fnWireLengthSpec : ChangeSpec := { name := "fnWireLength", fn := fun _ => fun
  | [d] => { results := [.lit (.bool true)], args := [d] }
  | _ => none }
def fnWireLengthRow : OpenClaim := { program := "ytliaommpnaagiaagreat", sum := "47692be0adcd5055888f9161ce5e98bdfe266027084f0ee19bb1ea208449526c", func := "loop.example/fpgatoolchain/laws.FnWireLength", spec := "fnWireLength", inPlace := ["slices.overlaps[[]int]"], unfollowed := true, recurses := true, apart := false }
def FnWireLengthSaid : Prop := fnWireLengthRow.holds Tryz.pinned (OpenSpec.ofChange fnWireLengthSpec)

/-- ITS FALSE NEIGHBOUR: 'it returns false'. Refute it at one input. -/
def fnWireLengthWrong : ChangeSpec := { name := "fnWireLength", fn := fun _ => fun
  | [d] => { results := [.lit (.bool false)], args := [d] }
  | _ => none }
def FnWireLengthWrongFalsely : Prop := fnWireLengthRow.holds Tryz.pinned (OpenSpec.ofChange fnWireLengthWrong)

/-- 'laws.FnPlace': WHATEVER THE INPUT: true; the input reads as it did. -/
def fnPlaceSpec : ChangeSpec := { name := "fnPlace", fn := fun _ => fun
  | [d] => { results := [.lit (.bool true)], args := [d] }
  | _ => none }
def fnPlaceRow : OpenClaim := { program := "ytliaommpnaagiaagreat", sum := "47692be0adcd5055888f9161ce5e98bdfe266027084f0ee19bb1ea208449526c", func := "loop.example/fpgatoolchain/laws.FnPlace", spec := "fnPlace", inPlace := ["slices.overlaps[[]int]"], unfollowed := true, recurses := true, apart := false }
def FnPlaceSaid : Prop := fnPlaceRow.holds Tryz.pinned (OpenSpec.ofChange fnPlaceSpec)

/-- ITS FALSE NEIGHBOUR: 'it returns false'. Refute it at one input. -/
def fnPlaceWrong : ChangeSpec := { name := "fnPlace", fn := fun _ => fun
  | [d] => { results := [.lit (.bool false)], args := [d] }
  | _ => none }
def FnPlaceWrongFalsely : Prop := fnPlaceRow.holds Tryz.pinned (OpenSpec.ofChange fnPlaceWrong)

/-- 'laws.FnExactWireLength': WHATEVER THE INPUT: true; the input reads as it did. -/
def fnExactWireLengthSpec : ChangeSpec := { name := "fnExactWireLength", fn := fun _ => fun
  | [d1, d2] => { results := [.lit (.bool true)], args := [d1, d2] }
  | _ => none }
def fnExactWireLengthRow : OpenClaim := { program := "ytliaommpnaagiaagreat", sum := "47692be0adcd5055888f9161ce5e98bdfe266027084f0ee19bb1ea208449526c", func := "loop.example/fpgatoolchain/laws.FnExactWireLength", spec := "fnExactWireLength", inPlace := ["slices.overlaps[[]int]"], unfollowed := true, recurses := true, apart := false }
def FnExactWireLengthSaid : Prop := fnExactWireLengthRow.holds Tryz.pinned (OpenSpec.ofChange fnExactWireLengthSpec)

/-- ITS FALSE NEIGHBOUR: 'it returns false'. Refute it at one input. -/
def fnExactWireLengthWrong : ChangeSpec := { name := "fnExactWireLength", fn := fun _ => fun
  | [d1, d2] => { results := [.lit (.bool false)], args := [d1, d2] }
  | _ => none }
def FnExactWireLengthWrongFalsely : Prop := fnExactWireLengthRow.holds Tryz.pinned (OpenSpec.ofChange fnExactWireLengthWrong)

/-- 'laws.FnExactPlace': WHATEVER THE INPUT: true; the input reads as it did. -/
def fnExactPlaceSpec : ChangeSpec := { name := "fnExactPlace", fn := fun _ => fun
  | [d] => { results := [.lit (.bool true)], args := [d] }
  | _ => none }
def fnExactPlaceRow : OpenClaim := { program := "ytliaommpnaagiaagreat", sum := "47692be0adcd5055888f9161ce5e98bdfe266027084f0ee19bb1ea208449526c", func := "loop.example/fpgatoolchain/laws.FnExactPlace", spec := "fnExactPlace", inPlace := ["slices.overlaps[[]int]"], unfollowed := true, recurses := true, apart := false }
def FnExactPlaceSaid : Prop := fnExactPlaceRow.holds Tryz.pinned (OpenSpec.ofChange fnExactPlaceSpec)

/-- ITS FALSE NEIGHBOUR: 'it returns false'. Refute it at one input. -/
def fnExactPlaceWrong : ChangeSpec := { name := "fnExactPlace", fn := fun _ => fun
  | [d] => { results := [.lit (.bool false)], args := [d] }
  | _ => none }
def FnExactPlaceWrongFalsely : Prop := fnExactPlaceRow.holds Tryz.pinned (OpenSpec.ofChange fnExactPlaceWrong)

/- THE SECOND FORM. 'bulk': how many values and letters a reading holds, each counted each time it is reached (what is shared counts as often as it is met; a slice's spare places count too). A statement '..UptoSaid' is the law's where the arguments, and the package variables that the reading takes, are together of bulk at most 1048576: NARROWER than '..Said'. Prove '..Said' where nothing that the law and all that it calls make is longer than what came in: it says more and counts as full. Else prove '..UptoSaid'. A law counts once. -/
mutual
def uptoBulk {H : Type} : DataW H → Nat
  | .lit (.string bytes) => bytes.length + 1
  | .lit _ => 1
  | .nil => 1
  | .ptr d => uptoBulk d + 1
  | .slice elems spare => uptoBulkAll elems + uptoBulkAll spare + 1
  | .agg parts => uptoBulkAll parts + 1
  | .iface _ d => uptoBulk d + 1
  | .map entries => uptoBulkEntries entries + 1
  | .held _ => 1
def uptoBulkAll {H : Type} : List (DataW H) → Nat
  | [] => 0
  | d :: r => uptoBulk d + uptoBulkAll r
def uptoBulkEntries {H : Type} : List (Lit × DataW H) → Nat
  | [] => 0
  | x :: r => uptoBulkEntry x + uptoBulkEntries r
def uptoBulkEntry {H : Type} : Lit × DataW H → Nat
  | (.string bytes, d) => bytes.length + uptoBulk d + 1
  | (_, d) => uptoBulk d + 1
 end
def uptoSmall : (H : Type) → List (DataW H) → Bool := fun _ ds => decide (uptoBulkAll ds ≤ 1048576)
def OpenSpec.upto (s : _root_.Go.ChangeSpec) : _root_.Go.OpenSpec := { _root_.Go.OpenSpec.ofChange s with cond := some uptoSmall }

/-- 'laws.FnWireLength', WHERE WHAT IT READS IS OF BULK AT MOST 1048576: true; the input reads as it did. -/
def fnWireLengthUptoRow : OpenClaim := { program := "ytliaommpnaagiaagreat", sum := "47692be0adcd5055888f9161ce5e98bdfe266027084f0ee19bb1ea208449526c", func := "loop.example/fpgatoolchain/laws.FnWireLength", spec := "fnWireLength", inPlace := ["slices.overlaps[[]int]"], unfollowed := true, recurses := true, apart := false, narrowed := true }
def FnWireLengthUptoSaid : Prop := fnWireLengthUptoRow.holds Tryz.pinned (OpenSpec.upto fnWireLengthSpec)

/-- 'laws.FnPlace', WHERE WHAT IT READS IS OF BULK AT MOST 1048576: true; the input reads as it did. -/
def fnPlaceUptoRow : OpenClaim := { program := "ytliaommpnaagiaagreat", sum := "47692be0adcd5055888f9161ce5e98bdfe266027084f0ee19bb1ea208449526c", func := "loop.example/fpgatoolchain/laws.FnPlace", spec := "fnPlace", inPlace := ["slices.overlaps[[]int]"], unfollowed := true, recurses := true, apart := false, narrowed := true }
def FnPlaceUptoSaid : Prop := fnPlaceUptoRow.holds Tryz.pinned (OpenSpec.upto fnPlaceSpec)

/-- 'laws.FnExactWireLength', WHERE WHAT IT READS IS OF BULK AT MOST 1048576: true; the input reads as it did. -/
def fnExactWireLengthUptoRow : OpenClaim := { program := "ytliaommpnaagiaagreat", sum := "47692be0adcd5055888f9161ce5e98bdfe266027084f0ee19bb1ea208449526c", func := "loop.example/fpgatoolchain/laws.FnExactWireLength", spec := "fnExactWireLength", inPlace := ["slices.overlaps[[]int]"], unfollowed := true, recurses := true, apart := false, narrowed := true }
def FnExactWireLengthUptoSaid : Prop := fnExactWireLengthUptoRow.holds Tryz.pinned (OpenSpec.upto fnExactWireLengthSpec)

/-- 'laws.FnExactPlace', WHERE WHAT IT READS IS OF BULK AT MOST 1048576: true; the input reads as it did. -/
def fnExactPlaceUptoRow : OpenClaim := { program := "ytliaommpnaagiaagreat", sum := "47692be0adcd5055888f9161ce5e98bdfe266027084f0ee19bb1ea208449526c", func := "loop.example/fpgatoolchain/laws.FnExactPlace", spec := "fnExactPlace", inPlace := ["slices.overlaps[[]int]"], unfollowed := true, recurses := true, apart := false, narrowed := true }
def FnExactPlaceUptoSaid : Prop := fnExactPlaceUptoRow.holds Tryz.pinned (OpenSpec.upto fnExactPlaceSpec)

end Rows
end Go.Proofs.YtliaommpnaagiaaGreat
