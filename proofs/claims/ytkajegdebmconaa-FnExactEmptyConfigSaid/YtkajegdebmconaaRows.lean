/-
  No cell of these rows narrows 'for every input' (looked for: loops, veiled, ifaces, maps, wideKeys, modest, calm, conditions, laid).
  DERIVED. THE GIVEN ROWS OF THIS SEAT. 7 by the template 'for every input the law returns true; each argument reads behind the call as it read before'; 0 by the template 'total and deterministic' (their statements: YtkajegdebmconaaTotals.lean).
  GIVEN WITH THE SEED: the statements are not yours to turn. If you find one false, say at which input.
  Laid BY PROGRAM, IN A SANDBOX (cutbox-rows.mjs): the forced cells as the released guide's own fill.sh prints them over the translation 713a0d380f8071e5… (all of the seat's roots in one cut). By AI agents, Wed Nov 11 2026. No macro, syntax, notation, axiom, sorry.
-/
import Derived.Test.YtkajegdebmconaaChecked
import GoSem.Claim
import GoSem.ClaimJoined
import GoSem.ClaimMapViews
import Derived.JoinedTies
import Derived.KernelRfl
namespace Go.Proofs.Ytkajegdebmconaa
/- THE CELL 'sum', in the pinned program and in every row, IS THE sha256 OF THE DUMP (.gsa) THAT YtkajegdebmconaaProg.lean LOADS. Nothing in Lean hashes anything: it is a label: what it is worth is what the hold of that sum in a sandbox is worth. -/
noncomputable def Try.pinned : Pinned := { name := "ytkajegdebmconaa", sum := "713a0d380f8071e5c4df44f37309534f4a32a16f4ef2186dac6af8f6f7d5943f", checked := Try.checked }
namespace Rows
def none {H : Type} : Left H := { results := [], args := [] }

/-- 'laws.FnConfigValid': WHATEVER THE INPUT: true; the input reads as it did. -/
def fnConfigValidSpec : ChangeSpec := { name := "fnConfigValid", fn := fun _ => fun
  | [d] => { results := [.lit (.bool true)], args := [d] }
  | _ => none }
def fnConfigValidRow : OpenClaim := { program := "ytkajegdebmconaa", sum := "713a0d380f8071e5c4df44f37309534f4a32a16f4ef2186dac6af8f6f7d5943f", func := "loop.example/fpgatoolchain/laws.FnConfigValid", spec := "fnConfigValid", unfollowed := true, recurses := true, apart := false }
def FnConfigValidSaid : Prop := fnConfigValidRow.holds Try.pinned (OpenSpec.ofChange fnConfigValidSpec)

/-- ITS FALSE NEIGHBOUR: 'it returns false'. Refute it at one input. -/
def fnConfigValidWrong : ChangeSpec := { name := "fnConfigValid", fn := fun _ => fun
  | [d] => { results := [.lit (.bool false)], args := [d] }
  | _ => none }
def FnConfigValidWrongFalsely : Prop := fnConfigValidRow.holds Try.pinned (OpenSpec.ofChange fnConfigValidWrong)

/-- 'laws.FnEncode': WHATEVER THE INPUT: true; the input reads as it did. -/
def fnEncodeSpec : ChangeSpec := { name := "fnEncode", fn := fun _ => fun
  | [d1, d2] => { results := [.lit (.bool true)], args := [d1, d2] }
  | _ => none }
def fnEncodeRow : OpenClaim := { program := "ytkajegdebmconaa", sum := "713a0d380f8071e5c4df44f37309534f4a32a16f4ef2186dac6af8f6f7d5943f", func := "loop.example/fpgatoolchain/laws.FnEncode", spec := "fnEncode", unfollowed := true, recurses := true, apart := false }
def FnEncodeSaid : Prop := fnEncodeRow.holds Try.pinned (OpenSpec.ofChange fnEncodeSpec)

/-- ITS FALSE NEIGHBOUR: 'it returns false'. Refute it at one input. -/
def fnEncodeWrong : ChangeSpec := { name := "fnEncode", fn := fun _ => fun
  | [d1, d2] => { results := [.lit (.bool false)], args := [d1, d2] }
  | _ => none }
def FnEncodeWrongFalsely : Prop := fnEncodeRow.holds Try.pinned (OpenSpec.ofChange fnEncodeWrong)

/-- 'laws.FnEncodeByte': WHATEVER THE INPUT: true; the input reads as it did. -/
def fnEncodeByteSpec : ChangeSpec := { name := "fnEncodeByte", fn := fun _ => fun
  | [d] => { results := [.lit (.bool true)], args := [d] }
  | _ => none }
def fnEncodeByteRow : OpenClaim := { program := "ytkajegdebmconaa", sum := "713a0d380f8071e5c4df44f37309534f4a32a16f4ef2186dac6af8f6f7d5943f", func := "loop.example/fpgatoolchain/laws.FnEncodeByte", spec := "fnEncodeByte", unfollowed := true, recurses := true, apart := false }
def FnEncodeByteSaid : Prop := fnEncodeByteRow.holds Try.pinned (OpenSpec.ofChange fnEncodeByteSpec)

/-- ITS FALSE NEIGHBOUR: 'it returns false'. Refute it at one input. -/
def fnEncodeByteWrong : ChangeSpec := { name := "fnEncodeByte", fn := fun _ => fun
  | [d] => { results := [.lit (.bool false)], args := [d] }
  | _ => none }
def FnEncodeByteWrongFalsely : Prop := fnEncodeByteRow.holds Try.pinned (OpenSpec.ofChange fnEncodeByteWrong)

/-- 'laws.FnExactConfigValid': WHATEVER THE INPUT: true; the input reads as it did. -/
def fnExactConfigValidSpec : ChangeSpec := { name := "fnExactConfigValid", fn := fun _ => fun
  | [d] => { results := [.lit (.bool true)], args := [d] }
  | _ => none }
def fnExactConfigValidRow : OpenClaim := { program := "ytkajegdebmconaa", sum := "713a0d380f8071e5c4df44f37309534f4a32a16f4ef2186dac6af8f6f7d5943f", func := "loop.example/fpgatoolchain/laws.FnExactConfigValid", spec := "fnExactConfigValid", unfollowed := true, recurses := true, apart := false }
def FnExactConfigValidSaid : Prop := fnExactConfigValidRow.holds Try.pinned (OpenSpec.ofChange fnExactConfigValidSpec)

/-- ITS FALSE NEIGHBOUR: 'it returns false'. Refute it at one input. -/
def fnExactConfigValidWrong : ChangeSpec := { name := "fnExactConfigValid", fn := fun _ => fun
  | [d] => { results := [.lit (.bool false)], args := [d] }
  | _ => none }
def FnExactConfigValidWrongFalsely : Prop := fnExactConfigValidRow.holds Try.pinned (OpenSpec.ofChange fnExactConfigValidWrong)

/-- 'laws.FnExactEmptyConfig': WHATEVER THE INPUT: true; the input reads as it did. -/
def fnExactEmptyConfigSpec : ChangeSpec := { name := "fnExactEmptyConfig", fn := fun _ => fun
  | [] => { results := [.lit (.bool true)], args := [] }
  | _ => none }
def fnExactEmptyConfigRow : OpenClaim := { program := "ytkajegdebmconaa", sum := "713a0d380f8071e5c4df44f37309534f4a32a16f4ef2186dac6af8f6f7d5943f", func := "loop.example/fpgatoolchain/laws.FnExactEmptyConfig", spec := "fnExactEmptyConfig", apart := false }
def FnExactEmptyConfigSaid : Prop := fnExactEmptyConfigRow.holds Try.pinned (OpenSpec.ofChange fnExactEmptyConfigSpec)

/-- ITS FALSE NEIGHBOUR: 'it returns false'. Refute it at one input. -/
def fnExactEmptyConfigWrong : ChangeSpec := { name := "fnExactEmptyConfig", fn := fun _ => fun
  | [] => { results := [.lit (.bool false)], args := [] }
  | _ => none }
def FnExactEmptyConfigWrongFalsely : Prop := fnExactEmptyConfigRow.holds Try.pinned (OpenSpec.ofChange fnExactEmptyConfigWrong)

/-- 'laws.FnExactEncodeConfig': WHATEVER THE INPUT: true; the input reads as it did. -/
def fnExactEncodeConfigSpec : ChangeSpec := { name := "fnExactEncodeConfig", fn := fun _ => fun
  | [d] => { results := [.lit (.bool true)], args := [d] }
  | _ => none }
def fnExactEncodeConfigRow : OpenClaim := { program := "ytkajegdebmconaa", sum := "713a0d380f8071e5c4df44f37309534f4a32a16f4ef2186dac6af8f6f7d5943f", func := "loop.example/fpgatoolchain/laws.FnExactEncodeConfig", spec := "fnExactEncodeConfig", unfollowed := true, recurses := true, apart := false }
def FnExactEncodeConfigSaid : Prop := fnExactEncodeConfigRow.holds Try.pinned (OpenSpec.ofChange fnExactEncodeConfigSpec)

/-- ITS FALSE NEIGHBOUR: 'it returns false'. Refute it at one input. -/
def fnExactEncodeConfigWrong : ChangeSpec := { name := "fnExactEncodeConfig", fn := fun _ => fun
  | [d] => { results := [.lit (.bool false)], args := [d] }
  | _ => none }
def FnExactEncodeConfigWrongFalsely : Prop := fnExactEncodeConfigRow.holds Try.pinned (OpenSpec.ofChange fnExactEncodeConfigWrong)

/-- 'laws.FnExactDecodeConfig': WHATEVER THE INPUT: true; the input reads as it did. -/
def fnExactDecodeConfigSpec : ChangeSpec := { name := "fnExactDecodeConfig", fn := fun _ => fun
  | [d] => { results := [.lit (.bool true)], args := [d] }
  | _ => none }
def fnExactDecodeConfigRow : OpenClaim := { program := "ytkajegdebmconaa", sum := "713a0d380f8071e5c4df44f37309534f4a32a16f4ef2186dac6af8f6f7d5943f", func := "loop.example/fpgatoolchain/laws.FnExactDecodeConfig", spec := "fnExactDecodeConfig", unfollowed := true, recurses := true, apart := false }
def FnExactDecodeConfigSaid : Prop := fnExactDecodeConfigRow.holds Try.pinned (OpenSpec.ofChange fnExactDecodeConfigSpec)

/-- ITS FALSE NEIGHBOUR: 'it returns false'. Refute it at one input. -/
def fnExactDecodeConfigWrong : ChangeSpec := { name := "fnExactDecodeConfig", fn := fun _ => fun
  | [d] => { results := [.lit (.bool false)], args := [d] }
  | _ => none }
def FnExactDecodeConfigWrongFalsely : Prop := fnExactDecodeConfigRow.holds Try.pinned (OpenSpec.ofChange fnExactDecodeConfigWrong)

/- THE SECOND FORM. 'bulk': how many values and letters a reading holds, each counted each time it is reached (what is shared counts as often as it is met; a slice's spare places count too). A statement '..UptoSaid' is the law's where the arguments, and the package variables that the reading takes, are together of bulk at most 1048576: NARROWER than '..Said'. Prove '..Said' where nothing that the law and all that it calls make is longer than what came in: it says more and counts as full. Else prove '..UptoSaid'. A law counts once. -/
mutual
def uptoBulk {H : Type} : DataW H → Nat
  | .lit (.string bytes) => bytes.length + 1
  | .lit _ => 1
  | .nil => 1
  | .ptr d => uptoBulk d + 1
  | .slice elems spare => uptoBulkAll elems + uptoBulkAll spare + 1
  | .agg parts => uptoBulkAll parts + 1
  | .iface _ d => uptoBulk d + 1
  | .map entries => uptoBulkEntries entries + 1
  | .held _ => 1
def uptoBulkAll {H : Type} : List (DataW H) → Nat
  | [] => 0
  | d :: r => uptoBulk d + uptoBulkAll r
def uptoBulkEntries {H : Type} : List (Lit × DataW H) → Nat
  | [] => 0
  | x :: r => uptoBulkEntry x + uptoBulkEntries r
def uptoBulkEntry {H : Type} : Lit × DataW H → Nat
  | (.string bytes, d) => bytes.length + uptoBulk d + 1
  | (_, d) => uptoBulk d + 1
 end
def uptoSmall : (H : Type) → List (DataW H) → Bool := fun _ ds => decide (uptoBulkAll ds ≤ 1048576)
def OpenSpec.upto (s : _root_.Go.ChangeSpec) : _root_.Go.OpenSpec := { _root_.Go.OpenSpec.ofChange s with cond := some uptoSmall }

/-- 'laws.FnConfigValid', WHERE WHAT IT READS IS OF BULK AT MOST 1048576: true; the input reads as it did. -/
def fnConfigValidUptoRow : OpenClaim := { program := "ytkajegdebmconaa", sum := "713a0d380f8071e5c4df44f37309534f4a32a16f4ef2186dac6af8f6f7d5943f", func := "loop.example/fpgatoolchain/laws.FnConfigValid", spec := "fnConfigValid", unfollowed := true, recurses := true, apart := false, narrowed := true }
def FnConfigValidUptoSaid : Prop := fnConfigValidUptoRow.holds Try.pinned (OpenSpec.upto fnConfigValidSpec)

/-- 'laws.FnEncode', WHERE WHAT IT READS IS OF BULK AT MOST 1048576: true; the input reads as it did. -/
def fnEncodeUptoRow : OpenClaim := { program := "ytkajegdebmconaa", sum := "713a0d380f8071e5c4df44f37309534f4a32a16f4ef2186dac6af8f6f7d5943f", func := "loop.example/fpgatoolchain/laws.FnEncode", spec := "fnEncode", unfollowed := true, recurses := true, apart := false, narrowed := true }
def FnEncodeUptoSaid : Prop := fnEncodeUptoRow.holds Try.pinned (OpenSpec.upto fnEncodeSpec)

/-- 'laws.FnEncodeByte', WHERE WHAT IT READS IS OF BULK AT MOST 1048576: true; the input reads as it did. -/
def fnEncodeByteUptoRow : OpenClaim := { program := "ytkajegdebmconaa", sum := "713a0d380f8071e5c4df44f37309534f4a32a16f4ef2186dac6af8f6f7d5943f", func := "loop.example/fpgatoolchain/laws.FnEncodeByte", spec := "fnEncodeByte", unfollowed := true, recurses := true, apart := false, narrowed := true }
def FnEncodeByteUptoSaid : Prop := fnEncodeByteUptoRow.holds Try.pinned (OpenSpec.upto fnEncodeByteSpec)

/-- 'laws.FnExactConfigValid', WHERE WHAT IT READS IS OF BULK AT MOST 1048576: true; the input reads as it did. -/
def fnExactConfigValidUptoRow : OpenClaim := { program := "ytkajegdebmconaa", sum := "713a0d380f8071e5c4df44f37309534f4a32a16f4ef2186dac6af8f6f7d5943f", func := "loop.example/fpgatoolchain/laws.FnExactConfigValid", spec := "fnExactConfigValid", unfollowed := true, recurses := true, apart := false, narrowed := true }
def FnExactConfigValidUptoSaid : Prop := fnExactConfigValidUptoRow.holds Try.pinned (OpenSpec.upto fnExactConfigValidSpec)

/-- 'laws.FnExactEmptyConfig', WHERE WHAT IT READS IS OF BULK AT MOST 1048576: true; the input reads as it did. -/
def fnExactEmptyConfigUptoRow : OpenClaim := { program := "ytkajegdebmconaa", sum := "713a0d380f8071e5c4df44f37309534f4a32a16f4ef2186dac6af8f6f7d5943f", func := "loop.example/fpgatoolchain/laws.FnExactEmptyConfig", spec := "fnExactEmptyConfig", apart := false, narrowed := true }
def FnExactEmptyConfigUptoSaid : Prop := fnExactEmptyConfigUptoRow.holds Try.pinned (OpenSpec.upto fnExactEmptyConfigSpec)

/-- 'laws.FnExactEncodeConfig', WHERE WHAT IT READS IS OF BULK AT MOST 1048576: true; the input reads as it did. -/
def fnExactEncodeConfigUptoRow : OpenClaim := { program := "ytkajegdebmconaa", sum := "713a0d380f8071e5c4df44f37309534f4a32a16f4ef2186dac6af8f6f7d5943f", func := "loop.example/fpgatoolchain/laws.FnExactEncodeConfig", spec := "fnExactEncodeConfig", unfollowed := true, recurses := true, apart := false, narrowed := true }
def FnExactEncodeConfigUptoSaid : Prop := fnExactEncodeConfigUptoRow.holds Try.pinned (OpenSpec.upto fnExactEncodeConfigSpec)

/-- 'laws.FnExactDecodeConfig', WHERE WHAT IT READS IS OF BULK AT MOST 1048576: true; the input reads as it did. -/
def fnExactDecodeConfigUptoRow : OpenClaim := { program := "ytkajegdebmconaa", sum := "713a0d380f8071e5c4df44f37309534f4a32a16f4ef2186dac6af8f6f7d5943f", func := "loop.example/fpgatoolchain/laws.FnExactDecodeConfig", spec := "fnExactDecodeConfig", unfollowed := true, recurses := true, apart := false, narrowed := true }
def FnExactDecodeConfigUptoSaid : Prop := fnExactDecodeConfigUptoRow.holds Try.pinned (OpenSpec.upto fnExactDecodeConfigSpec)

end Rows
end Go.Proofs.Ytkajegdebmconaa
