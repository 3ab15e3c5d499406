/- The contracts of size and marks of tables of truth values. -/
import Derived.Test.YthpiddpkcmecfaaB15
namespace Go.Proofs.Ythpiddpkcmecfaa
open Go.RowKit Go.Deep

/-- The table whose rows bear marks, numbered on from K. -/
def MRow (w : World) (g : Nat) (cs : Array Value) (bs : List Nat) (rs : List (List Bool)) (K : Nat) : Prop :=
  Row w g 33 cs ∧ (∀ j, j < rs.length → cs[j]? = some (.slice (some ⟨bs.getD j 0, 0, none⟩) (rs.getD j []).length (rs.getD j []).length)) ∧ (∀ j, j < rs.length → BRow w (bs.getD j 0) (mk3 (offs K rs j) (rs.getD j []).length))
theorem MRow.on {w w' : World} {g K : Nat} {cs : Array Value} {bs : List Nat} {rs : List (List Bool)} (h : MRow w g cs bs rs K) (hb : Below w.heap.size w w') : MRow w' g cs bs rs K :=
  ⟨h.1.below hb h.1.lt, h.2.1, fun j hj => (h.2.2 j hj).on hb⟩

end Go.Proofs.Ythpiddpkcmecfaa
