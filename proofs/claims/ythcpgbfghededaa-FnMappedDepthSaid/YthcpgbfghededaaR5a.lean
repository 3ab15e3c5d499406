/- What a draw of a circuit answers. -/
import Derived.Test.YthcpgbfghededaaR4
import Derived.Test.YthcpgbfghededaaW3
namespace Go.Proofs.Ythcpgbfghededaa
open Go.RowKit Go.Deep

def DrawOut (w : World) (e : Ending) (w' : World) : Prop :=
  ∃ (i : Int) (nA gA oA : Option Addr) (nc gc oc : Nat) (ns : List Int) (gs : List (Int × Int)) (os : List Int),
    e = .returned (.agg #[.int .i64 i, .slice nA ns.length nc, .slice gA gs.length gc, .slice oA os.length oc]) ∧ CircAt w' w'.heap.size nA gA oA ns gs os ∧ ns.length ≤ 10 ∧ gs.length ≤ 20 ∧ os.length ≤ 10 ∧ gs.length ≤ gc ∧ Below w.heap.size w w'

theorem below_grown {w w' w0 : World} {R : Nat} (h : Below w0.heap.size w0 w) (hg : w.grownBy w' (some R)) (hR : w0.heap.size ≤ R) : Below w0.heap.size w0 w' :=
  h.grown hg h.size (fun k hk => by injection hk; omega)
theorem CircAt.farF {w : World} {D : Nat} {nA gA oA : Option Addr} {ns : List Int} {gs : List (Int × Int)} {os : List Int} (h : CircAt w w.heap.size nA gA oA ns gs os) (j : Nat) (u : Value) {B : Nat} (hD : D < B) (h1 : FreshA B nA) (h2 : FreshA B gA) (h3 : FreshA B oA) :
    CircAt (w.setCell ⟨D, j, none⟩ u) (w.setCell ⟨D, j, none⟩ u).heap.size nA gA oA ns gs os :=
  ⟨h.next.farS _ u (fun b off e => by have := h1 b off e; simp; omega), h.gates.farS _ u (fun b off e => by have := h2 b off e; simp; omega), h.outs.farS _ u (fun b off e => by have := h3 b off e; simp; omega), h.nl, h.gl, h.ol⟩

end Go.Proofs.Ythcpgbfghededaa
