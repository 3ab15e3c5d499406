/- The draws of the netlist. -/
import Derived.Test.YtliedgaefgomjaaGreatR4
import Derived.Test.YtliedgaefgomjaaGreatW3
namespace Go.Proofs.YtliedgaefgomjaaGreat
open Go.RowKit Go.Deep

theorem CircAt.grownF {w w' : World} {R lo : Nat} {nA gA oA : Option Addr} {ns : List Int} {gs : List (Int × Int)} {os : List Int} (h : CircAt w w.heap.size nA gA oA ns gs os) (hg : w.grownBy w' (some R)) (hR : R < lo) (h1 : FreshA lo nA) (h2 : FreshA lo gA) (h3 : FreshA lo oA) : CircAt w' w'.heap.size nA gA oA ns gs os := by
  have hz := hg.size
  have ints : ∀ (A : Option Addr) (xs : List Int), FreshA lo A → IntsAt w w.heap.size A xs → IntsAt w' w'.heap.size A xs := fun A xs hf hx k hk => by
    obtain ⟨b, off, e, hlt, hc⟩ := hx k hk
    have hb := hf b off e
    exact ⟨b, off, e, Nat.lt_of_lt_of_le hlt hz, hg.cell hc (by intro x; injection x with x; simp at x; omega)⟩
  refine ⟨ints _ _ h1 h.next, fun k hk => ?_, ints _ _ h3 h.outs, h.nl, h.gl, h.ol⟩
  obtain ⟨b, off, e, hlt, hc, hd⟩ := h.gates k hk
  have hb := h2 b off e
  exact ⟨b, off, e, Nat.lt_of_lt_of_le hlt hz, hg.cell hc (by intro x; injection x with x; simp at x; omega), hg.cell hd (by intro x; injection x with x; simp at x; omega)⟩

end Go.Proofs.YtliedgaefgomjaaGreat
