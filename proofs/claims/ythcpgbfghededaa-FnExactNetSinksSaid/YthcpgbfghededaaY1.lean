/- The contracts of SameInterface and of the comparisons of lists of values. -/
import Derived.Test.YthcpgbfghededaaQA
import Derived.Test.YthcpgbfghededaaW3
import Derived.Test.YthcpgbfghededaaB1a
import Derived.Test.YthcpgbfghededaaB5
namespace Circ
theorem take_same {xs ys : List Bool} {k : Nat} (hx : k < xs.length) (hy : k < ys.length) (h : xs.take k = ys.take k) (he : xs.getD k false = ys.getD k false) : xs.take (k + 1) = ys.take (k + 1) := by
  rw [List.take_succ_eq_append_getElem hx, List.take_succ_eq_append_getElem hy, h]
  congr 2
  simpa [List.getD_eq_getElem?_getD, hx, hy] using he
theorem beq_ne {xs ys : List Bool} {k : Nat} (he : xs.getD k false ≠ ys.getD k false) : (xs == ys) = false := by
  cases h : xs == ys
  · rfl
  · rw [beq_iff_eq] at h
    rw [h] at he
    exact absurd rfl he
theorem beq_len {xs ys : List Bool} (he : xs.length ≠ ys.length) : (xs == ys) = false := by
  cases h : xs == ys
  · rfl
  · rw [beq_iff_eq] at h
    rw [h] at he
    exact absurd rfl he
end Circ
namespace Go.Proofs.Ythcpgbfghededaa
open Go.RowKit Go.Deep
end Go.Proofs.Ythcpgbfghededaa
