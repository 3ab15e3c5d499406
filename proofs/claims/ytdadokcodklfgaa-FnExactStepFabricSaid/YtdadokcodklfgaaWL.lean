/- The model's pins of a net. -/
import Derived.Test.YtdadokcodklfgaaNS
import Derived.Test.YtdadokcodklfgaaPV
import Derived.Test.YtdadokcodklfgaaNP
import Derived.Deep.DeepCutAuto
namespace Plc
end Plc
namespace Go.Proofs.Ytdadokcodklfgaa
open Go.RowKit Go.Deep Cut Plc

end Go.Proofs.Ytdadokcodklfgaa
/- The wire length: what the pins of a net have to do with the model's; sums. -/
namespace Plc
/-- What is known of a circuit's nets. -/
structure NetOk (m n N : Nat) (ce : List Ce) (ou : List Nat) : Prop where
  len : ce.length = n
  n17 : n ≤ 17
  m4 : m ≤ 4
  N25 : N ≤ 25
  mN : m < N
  ol : ou.length ≤ 3
  ov : ∀ k, k < ou.length → ou.getD k 0 / 2 < N
  net : ∀ k, k < n → m < (ce.getD k (0, [], 0, false)).1 ∧ (ce.getD k (0, [], 0, false)).1 < N
  up : ∀ j k, j < k → k < n → (ce.getD j (0, [], 0, false)).1 < (ce.getD k (0, [], 0, false)).1
  inp : ∀ k, k < n → ∀ l, l ∈ (ce.getD k (0, [], 0, false)).2.1 → 0 < l ∧ l < N
  il : ∀ k, k < n → (ce.getD k (0, [], 0, false)).2.1.length ≤ 3
  once : ∀ k, k < n → Cut.Once (ce.getD k (0, [], 0, false)).2.1
/-- The sum of the first k. -/
def sumB (d : Nat → Nat) : Nat → Nat
  | 0 => 0
  | k + 1 => sumB d k + d k
end Plc
namespace Go.Proofs.Ytdadokcodklfgaa
open Go.RowKit Go.Deep Cut Plc

end Go.Proofs.Ytdadokcodklfgaa
/- WireLength of the program and of the model. -/
namespace Go.Proofs.Ytdadokcodklfgaa
open Go.RowKit Go.Deep Cut Plc

end Go.Proofs.Ytdadokcodklfgaa
