/- The contracts of the test of an assignment and of the set of true variables. -/
import Derived.Test.YtkkkkalgfmddbaaB1
namespace Go.Proofs.Ytkkkkalgfmddbaa
open Go.RowKit Go.Deep

def assignB (i : Int) (ns : List Int) (gs : List (Int × Int)) (os : List Int) (sl il : Nat) : Bool := Circ.validB i ns gs os && (decide (sl = ns.length) && decide ((il : Int) = i))
theorem assign_inv {i : Int} {ns : List Int} {gs : List (Int × Int)} {os : List Int} {sl il : Nat} (h : assignB i ns gs os sl il = true) : Circ.validB i ns gs os = true ∧ sl = ns.length ∧ (il : Int) = i := by
  simpa [assignB] using h

end Go.Proofs.Ytkkkkalgfmddbaa
