/- The contracts of SameInterface and of the comparisons of lists of values. -/
import Derived.Test.YtkkkkalgfmddbaaQA
import Derived.Test.YtkkkkalgfmddbaaW3
import Derived.Test.YtkkkkalgfmddbaaB1a
import Derived.Test.YtkkkkalgfmddbaaB9
namespace Circ
theorem take_same {xs ys : List Bool} {k : Nat} (hx : k < xs.length) (hy : k < ys.length) (h : xs.take k = ys.take k) (he : xs.getD k false = ys.getD k false) : xs.take (k + 1) = ys.take (k + 1) := by
  rw [List.take_succ_eq_append_getElem hx, List.take_succ_eq_append_getElem hy, h]
  congr 2
  simpa [List.getD_eq_getElem?_getD, hx, hy] using he
theorem beq_ne {xs ys : List Bool} {k : Nat} (he : xs.getD k false ≠ ys.getD k false) : (xs == ys) = false := by
  cases h : xs == ys
  · rfl
  · rw [beq_iff_eq] at h
    rw [h] at he
    exact absurd rfl he
theorem beq_len {xs ys : List Bool} (he : xs.length ≠ ys.length) : (xs == ys) = false := by
  cases h : xs == ys
  · rfl
  · rw [beq_iff_eq] at h
    rw [h] at he
    exact absurd rfl he
end Circ
namespace Go.Proofs.Ytkkkkalgfmddbaa
open Go.RowKit Go.Deep
end Go.Proofs.Ytkkkkalgfmddbaa
/- The contracts of the bits of a number. -/
namespace Go.Proofs.Ytkkkkalgfmddbaa
open Go.RowKit Go.Deep
set_option maxRecDepth 100000

theorem digit_eq (x k : Nat) (hx : x < 1000000) (_hk : k ≤ 64) : (bits .and .i64 ((x : Int) / 2 ^ k) 1 == 1) = (x / 2 ^ k % 2 == 1) := by
  have h : (x : Int) / 2 ^ k = ((x / 2 ^ k : Nat) : Int) := by simp
  have hlt : x / 2 ^ k < 9223372036854775808 := Nat.lt_of_le_of_lt (Nat.div_le_self _ _) (by omega)
  rw [h, i64_odd _ hlt]
  rcases Nat.mod_two_eq_zero_or_one (x / 2 ^ k) with e | e <;> rw [e] <;> rfl
theorem shr_nat (x k : Nat) : (x : Int) / 2 ^ k = ((x / 2 ^ k : Nat) : Int) := by simp

theorem odd_eq (x k : Nat) (_hk : k ≤ 64) : ((x : Int) / 2 ^ k % 2 == 1) = (x / 2 ^ k % 2 == 1) := by
  rw [shr_nat]
  rcases Nat.mod_two_eq_zero_or_one (x / 2 ^ k) with e | e
  · rw [e, show (((x / 2 ^ k : Nat) : Int) % 2) = ((x / 2 ^ k % 2 : Nat) : Int) by omega, e]; rfl
  · rw [e, show (((x / 2 ^ k : Nat) : Int) % 2) = ((x / 2 ^ k % 2 : Nat) : Int) by omega, e]; rfl

end Go.Proofs.Ytkkkkalgfmddbaa
