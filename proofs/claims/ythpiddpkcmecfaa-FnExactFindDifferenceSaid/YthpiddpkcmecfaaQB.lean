/- Plain mathematics of FindDifference: what it answers; no program. -/
import Derived.Test.YthpiddpkcmecfaaQA
namespace Circ
/-- What FindDifference answers: whether there is a difference, the state and the inputs. -/
def fdV (i : Int) (ns : List Int) (gs : List (Int × Int)) (os : List Int) (i' : Int) (ns' : List Int) (gs' : List (Int × Int)) (os' : List Int) : Bool × List Bool × List Bool :=
  if sameIf i ns gs os i' ns' gs' os' = true then
    match firstD i.toNat ns.length ns gs os ns' gs' os' with
    | none => (false, [], [])
    | some x => (true, bitsN (x / 2 ^ i.toNat) ns.length, bitsN x i.toNat)
  else (false, [], [])
section
variable {i : Int} {ns : List Int} {gs : List (Int × Int)} {os : List Int} {i' : Int} {ns' : List Int} {gs' : List (Int × Int)} {os' : List Int}
theorem fdV_f (h : sameIf i ns gs os i' ns' gs' os' = false) : fdV i ns gs os i' ns' gs' os' = (false, [], []) := by
  unfold fdV
  rw [if_neg (by rw [h]; decide)]
theorem fdV_none (h : ∀ y, y < 2 ^ (i.toNat + ns.length) → differB i.toNat ns.length ns gs os ns' gs' os' y = false) : fdV i ns gs os i' ns' gs' os' = (false, [], []) := by
  unfold fdV
  split
  · have : firstD i.toNat ns.length ns gs os ns' gs' os' = none := by
      unfold firstD
      rw [List.find?_eq_none]
      intro y hy
      rw [h y (List.mem_range.mp hy)]
      decide
    rw [this]
  · rfl
theorem fdV_some (hs : sameIf i ns gs os i' ns' gs' os' = true) {x : Nat} (hx : x < 2 ^ (i.toNat + ns.length)) (h : ∀ y, y < x → differB i.toNat ns.length ns gs os ns' gs' os' y = false) (hd : differB i.toNat ns.length ns gs os ns' gs' os' x = true) :
    fdV i ns gs os i' ns' gs' os' = (true, bitsN (x / 2 ^ i.toNat) ns.length, bitsN x i.toNat) := by
  unfold fdV
  rw [if_pos hs]
  have : firstD i.toNat ns.length ns gs os ns' gs' os' = some x := by
    unfold firstD
    rw [List.find?_range_eq_some]
    exact ⟨hd, List.mem_range.mpr hx, fun y hy => by rw [h y hy]; decide⟩
  rw [this]
end
end Circ
