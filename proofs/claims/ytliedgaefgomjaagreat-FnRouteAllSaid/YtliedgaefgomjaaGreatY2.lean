/- The contracts of SameInterface and of the comparisons of lists of values. -/
import Derived.Test.YtliedgaefgomjaaGreatQA
import Derived.Test.YtliedgaefgomjaaGreatW3
import Derived.Test.YtliedgaefgomjaaGreatB1a
import Derived.Test.YtliedgaefgomjaaGreatB9
namespace Circ
end Circ
namespace Go.Proofs.YtliedgaefgomjaaGreat
open Go.RowKit Go.Deep
end Go.Proofs.YtliedgaefgomjaaGreat
/- The contracts of the bits of a number. -/
namespace Go.Proofs.YtliedgaefgomjaaGreat
open Go.RowKit Go.Deep
theorem shr_nat (x k : Nat) : (x : Int) / 2 ^ k = ((x / 2 ^ k : Nat) : Int) := by simp

theorem odd_eq (x k : Nat) (_hk : k ≤ 64) : ((x : Int) / 2 ^ k % 2 == 1) = (x / 2 ^ k % 2 == 1) := by
  rw [shr_nat]
  rcases Nat.mod_two_eq_zero_or_one (x / 2 ^ k) with e | e
  · rw [e, show (((x / 2 ^ k : Nat) : Int) % 2) = ((x / 2 ^ k % 2 : Nat) : Int) by omega, e]; rfl
  · rw [e, show (((x / 2 ^ k : Nat) : Int) % 2) = ((x / 2 ^ k % 2 : Nat) : Int) by omega, e]; rfl

end Go.Proofs.YtliedgaefgomjaaGreat
