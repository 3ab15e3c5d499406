/-
  No cell of these rows narrows 'for every input' (looked for: loops, veiled, ifaces, maps, wideKeys, modest, calm, conditions, laid).
  DERIVED. THE GIVEN ROWS OF THIS SEAT. 6 by the template 'for every input the law returns true; each argument reads behind the call as it read before'; 0 by the template 'total and deterministic' (their statements: YtdadokcodklfgaaTotals.lean).
  GIVEN WITH THE SEED: the statements are not yours to turn. If you find one false, say at which input.
  Laid BY PROGRAM, IN A SANDBOX (cutbox-rows.mjs): the forced cells as the released guide's own fill.sh prints them over the translation 2ffa85b4008df3bd… (all of the seat's roots in one cut). By AI agents, Wed Nov 11 2026. No macro, syntax, notation, axiom, sorry.
-/
import Derived.Test.YtdadokcodklfgaaChecked
import GoSem.Claim
import GoSem.ClaimJoined
import GoSem.ClaimMapViews
import Derived.JoinedTies
import Derived.KernelRfl
namespace Go.Proofs.Ytdadokcodklfgaa
/- THE CELL 'sum', in the pinned program and in every row, IS THE sha256 OF THE DUMP (.gsa) THAT YtdadokcodklfgaaProg.lean LOADS. Nothing in Lean hashes anything: it is a label: what it is worth is what the hold of that sum in a sandbox is worth. -/
noncomputable def Try.pinned : Pinned := { name := "ytdadokcodklfgaa", sum := "2ffa85b4008df3bd6afe78644a33614c5e89fe546599c4581d19768dfb24b964", checked := Try.checked }
namespace Rows
def none {H : Type} : Left H := { results := [], args := [] }

/-- 'laws.FnConfigValid': WHATEVER THE INPUT: true; the input reads as it did. -/
def fnConfigValidSpec : ChangeSpec := { name := "fnConfigValid", fn := fun _ => fun
  | [d] => { results := [.lit (.bool true)], args := [d] }
  | _ => none }
def fnConfigValidRow : OpenClaim := { program := "ytdadokcodklfgaa", sum := "2ffa85b4008df3bd6afe78644a33614c5e89fe546599c4581d19768dfb24b964", func := "loop.example/fpgatoolchain/laws.FnConfigValid", spec := "fnConfigValid", unfollowed := true, recurses := true, apart := false }
def FnConfigValidSaid : Prop := fnConfigValidRow.holds Try.pinned (OpenSpec.ofChange fnConfigValidSpec)

/-- ITS FALSE NEIGHBOUR: 'it returns false'. Refute it at one input. -/
def fnConfigValidWrong : ChangeSpec := { name := "fnConfigValid", fn := fun _ => fun
  | [d] => { results := [.lit (.bool false)], args := [d] }
  | _ => none }
def FnConfigValidWrongFalsely : Prop := fnConfigValidRow.holds Try.pinned (OpenSpec.ofChange fnConfigValidWrong)

/-- 'laws.FnEncode': WHATEVER THE INPUT: true; the input reads as it did. -/
def fnEncodeSpec : ChangeSpec := { name := "fnEncode", fn := fun _ => fun
  | [d1, d2] => { results := [.lit (.bool true)], args := [d1, d2] }
  | _ => none }
def fnEncodeRow : OpenClaim := { program := "ytdadokcodklfgaa", sum := "2ffa85b4008df3bd6afe78644a33614c5e89fe546599c4581d19768dfb24b964", func := "loop.example/fpgatoolchain/laws.FnEncode", spec := "fnEncode", unfollowed := true, recurses := true, apart := false }
def FnEncodeSaid : Prop := fnEncodeRow.holds Try.pinned (OpenSpec.ofChange fnEncodeSpec)

/-- ITS FALSE NEIGHBOUR: 'it returns false'. Refute it at one input. -/
def fnEncodeWrong : ChangeSpec := { name := "fnEncode", fn := fun _ => fun
  | [d1, d2] => { results := [.lit (.bool false)], args := [d1, d2] }
  | _ => none }
def FnEncodeWrongFalsely : Prop := fnEncodeRow.holds Try.pinned (OpenSpec.ofChange fnEncodeWrong)

/-- 'laws.FnEncodeByte': WHATEVER THE INPUT: true; the input reads as it did. -/
def fnEncodeByteSpec : ChangeSpec := { name := "fnEncodeByte", fn := fun _ => fun
  | [d] => { results := [.lit (.bool true)], args := [d] }
  | _ => none }
def fnEncodeByteRow : OpenClaim := { program := "ytdadokcodklfgaa", sum := "2ffa85b4008df3bd6afe78644a33614c5e89fe546599c4581d19768dfb24b964", func := "loop.example/fpgatoolchain/laws.FnEncodeByte", spec := "fnEncodeByte", unfollowed := true, recurses := true, apart := false }
def FnEncodeByteSaid : Prop := fnEncodeByteRow.holds Try.pinned (OpenSpec.ofChange fnEncodeByteSpec)

/-- ITS FALSE NEIGHBOUR: 'it returns false'. Refute it at one input. -/
def fnEncodeByteWrong : ChangeSpec := { name := "fnEncodeByte", fn := fun _ => fun
  | [d] => { results := [.lit (.bool false)], args := [d] }
  | _ => none }
def FnEncodeByteWrongFalsely : Prop := fnEncodeByteRow.holds Try.pinned (OpenSpec.ofChange fnEncodeByteWrong)

/-- 'laws.FnExactStepFabric': WHATEVER THE INPUT: true; the input reads as it did. -/
def fnExactStepFabricSpec : ChangeSpec := { name := "fnExactStepFabric", fn := fun _ => fun
  | [d1, d2, d3] => { results := [.lit (.bool true)], args := [d1, d2, d3] }
  | _ => none }
def fnExactStepFabricRow : OpenClaim := { program := "ytdadokcodklfgaa", sum := "2ffa85b4008df3bd6afe78644a33614c5e89fe546599c4581d19768dfb24b964", func := "loop.example/fpgatoolchain/laws.FnExactStepFabric", spec := "fnExactStepFabric", unfollowed := true, recurses := true, apart := false }
def FnExactStepFabricSaid : Prop := fnExactStepFabricRow.holds Try.pinned (OpenSpec.ofChange fnExactStepFabricSpec)

/-- ITS FALSE NEIGHBOUR: 'it returns false'. Refute it at one input. -/
def fnExactStepFabricWrong : ChangeSpec := { name := "fnExactStepFabric", fn := fun _ => fun
  | [d1, d2, d3] => { results := [.lit (.bool false)], args := [d1, d2, d3] }
  | _ => none }
def FnExactStepFabricWrongFalsely : Prop := fnExactStepFabricRow.holds Try.pinned (OpenSpec.ofChange fnExactStepFabricWrong)

/-- 'laws.FnExactRunFabric': WHATEVER THE INPUT: true; the input reads as it did. -/
def fnExactRunFabricSpec : ChangeSpec := { name := "fnExactRunFabric", fn := fun _ => fun
  | [d1, d2] => { results := [.lit (.bool true)], args := [d1, d2] }
  | _ => none }
def fnExactRunFabricRow : OpenClaim := { program := "ytdadokcodklfgaa", sum := "2ffa85b4008df3bd6afe78644a33614c5e89fe546599c4581d19768dfb24b964", func := "loop.example/fpgatoolchain/laws.FnExactRunFabric", spec := "fnExactRunFabric", unfollowed := true, recurses := true, apart := false }
def FnExactRunFabricSaid : Prop := fnExactRunFabricRow.holds Try.pinned (OpenSpec.ofChange fnExactRunFabricSpec)

/-- ITS FALSE NEIGHBOUR: 'it returns false'. Refute it at one input. -/
def fnExactRunFabricWrong : ChangeSpec := { name := "fnExactRunFabric", fn := fun _ => fun
  | [d1, d2] => { results := [.lit (.bool false)], args := [d1, d2] }
  | _ => none }
def FnExactRunFabricWrongFalsely : Prop := fnExactRunFabricRow.holds Try.pinned (OpenSpec.ofChange fnExactRunFabricWrong)

/-- 'laws.FnExactRunBitstream': WHATEVER THE INPUT: true; the input reads as it did. -/
def fnExactRunBitstreamSpec : ChangeSpec := { name := "fnExactRunBitstream", fn := fun _ => fun
  | [d1, d2] => { results := [.lit (.bool true)], args := [d1, d2] }
  | _ => none }
def fnExactRunBitstreamRow : OpenClaim := { program := "ytdadokcodklfgaa", sum := "2ffa85b4008df3bd6afe78644a33614c5e89fe546599c4581d19768dfb24b964", func := "loop.example/fpgatoolchain/laws.FnExactRunBitstream", spec := "fnExactRunBitstream", unfollowed := true, recurses := true, apart := false }
def FnExactRunBitstreamSaid : Prop := fnExactRunBitstreamRow.holds Try.pinned (OpenSpec.ofChange fnExactRunBitstreamSpec)

/-- ITS FALSE NEIGHBOUR: 'it returns false'. Refute it at one input. -/
def fnExactRunBitstreamWrong : ChangeSpec := { name := "fnExactRunBitstream", fn := fun _ => fun
  | [d1, d2] => { results := [.lit (.bool false)], args := [d1, d2] }
  | _ => none }
def FnExactRunBitstreamWrongFalsely : Prop := fnExactRunBitstreamRow.holds Try.pinned (OpenSpec.ofChange fnExactRunBitstreamWrong)

/- THE SECOND FORM. 'bulk': how many values and letters a reading holds, each counted each time it is reached (what is shared counts as often as it is met; a slice's spare places count too). A statement '..UptoSaid' is the law's where the arguments, and the package variables that the reading takes, are together of bulk at most 1048576: NARROWER than '..Said'. Prove '..Said' where nothing that the law and all that it calls make is longer than what came in: it says more and counts as full. Else prove '..UptoSaid'. A law counts once. -/
mutual
def uptoBulk {H : Type} : DataW H → Nat
  | .lit (.string bytes) => bytes.length + 1
  | .lit _ => 1
  | .nil => 1
  | .ptr d => uptoBulk d + 1
  | .slice elems spare => uptoBulkAll elems + uptoBulkAll spare + 1
  | .agg parts => uptoBulkAll parts + 1
  | .iface _ d => uptoBulk d + 1
  | .map entries => uptoBulkEntries entries + 1
  | .held _ => 1
def uptoBulkAll {H : Type} : List (DataW H) → Nat
  | [] => 0
  | d :: r => uptoBulk d + uptoBulkAll r
def uptoBulkEntries {H : Type} : List (Lit × DataW H) → Nat
  | [] => 0
  | x :: r => uptoBulkEntry x + uptoBulkEntries r
def uptoBulkEntry {H : Type} : Lit × DataW H → Nat
  | (.string bytes, d) => bytes.length + uptoBulk d + 1
  | (_, d) => uptoBulk d + 1
 end
def uptoSmall : (H : Type) → List (DataW H) → Bool := fun _ ds => decide (uptoBulkAll ds ≤ 1048576)
def OpenSpec.upto (s : _root_.Go.ChangeSpec) : _root_.Go.OpenSpec := { _root_.Go.OpenSpec.ofChange s with cond := some uptoSmall }

/-- 'laws.FnConfigValid', WHERE WHAT IT READS IS OF BULK AT MOST 1048576: true; the input reads as it did. -/
def fnConfigValidUptoRow : OpenClaim := { program := "ytdadokcodklfgaa", sum := "2ffa85b4008df3bd6afe78644a33614c5e89fe546599c4581d19768dfb24b964", func := "loop.example/fpgatoolchain/laws.FnConfigValid", spec := "fnConfigValid", unfollowed := true, recurses := true, apart := false, narrowed := true }
def FnConfigValidUptoSaid : Prop := fnConfigValidUptoRow.holds Try.pinned (OpenSpec.upto fnConfigValidSpec)

/-- 'laws.FnEncode', WHERE WHAT IT READS IS OF BULK AT MOST 1048576: true; the input reads as it did. -/
def fnEncodeUptoRow : OpenClaim := { program := "ytdadokcodklfgaa", sum := "2ffa85b4008df3bd6afe78644a33614c5e89fe546599c4581d19768dfb24b964", func := "loop.example/fpgatoolchain/laws.FnEncode", spec := "fnEncode", unfollowed := true, recurses := true, apart := false, narrowed := true }
def FnEncodeUptoSaid : Prop := fnEncodeUptoRow.holds Try.pinned (OpenSpec.upto fnEncodeSpec)

/-- 'laws.FnEncodeByte', WHERE WHAT IT READS IS OF BULK AT MOST 1048576: true; the input reads as it did. -/
def fnEncodeByteUptoRow : OpenClaim := { program := "ytdadokcodklfgaa", sum := "2ffa85b4008df3bd6afe78644a33614c5e89fe546599c4581d19768dfb24b964", func := "loop.example/fpgatoolchain/laws.FnEncodeByte", spec := "fnEncodeByte", unfollowed := true, recurses := true, apart := false, narrowed := true }
def FnEncodeByteUptoSaid : Prop := fnEncodeByteUptoRow.holds Try.pinned (OpenSpec.upto fnEncodeByteSpec)

/-- 'laws.FnExactStepFabric', WHERE WHAT IT READS IS OF BULK AT MOST 1048576: true; the input reads as it did. -/
def fnExactStepFabricUptoRow : OpenClaim := { program := "ytdadokcodklfgaa", sum := "2ffa85b4008df3bd6afe78644a33614c5e89fe546599c4581d19768dfb24b964", func := "loop.example/fpgatoolchain/laws.FnExactStepFabric", spec := "fnExactStepFabric", unfollowed := true, recurses := true, apart := false, narrowed := true }
def FnExactStepFabricUptoSaid : Prop := fnExactStepFabricUptoRow.holds Try.pinned (OpenSpec.upto fnExactStepFabricSpec)

/-- 'laws.FnExactRunFabric', WHERE WHAT IT READS IS OF BULK AT MOST 1048576: true; the input reads as it did. -/
def fnExactRunFabricUptoRow : OpenClaim := { program := "ytdadokcodklfgaa", sum := "2ffa85b4008df3bd6afe78644a33614c5e89fe546599c4581d19768dfb24b964", func := "loop.example/fpgatoolchain/laws.FnExactRunFabric", spec := "fnExactRunFabric", unfollowed := true, recurses := true, apart := false, narrowed := true }
def FnExactRunFabricUptoSaid : Prop := fnExactRunFabricUptoRow.holds Try.pinned (OpenSpec.upto fnExactRunFabricSpec)

/-- 'laws.FnExactRunBitstream', WHERE WHAT IT READS IS OF BULK AT MOST 1048576: true; the input reads as it did. -/
def fnExactRunBitstreamUptoRow : OpenClaim := { program := "ytdadokcodklfgaa", sum := "2ffa85b4008df3bd6afe78644a33614c5e89fe546599c4581d19768dfb24b964", func := "loop.example/fpgatoolchain/laws.FnExactRunBitstream", spec := "fnExactRunBitstream", unfollowed := true, recurses := true, apart := false, narrowed := true }
def FnExactRunBitstreamUptoSaid : Prop := fnExactRunBitstreamUptoRow.holds Try.pinned (OpenSpec.upto fnExactRunBitstreamSpec)

end Rows
end Go.Proofs.Ytdadokcodklfgaa
