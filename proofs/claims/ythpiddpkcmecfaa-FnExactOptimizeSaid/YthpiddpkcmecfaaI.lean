/- Small facts: cells that make lays, and integer rows of the call's own. -/
import Derived.Test.YthpiddpkcmecfaaW3
import Derived.Test.YthpiddpkcmecfaaW4
import Derived.Test.YthpiddpkcmecfaaK
import Derived.StillTailTactics
namespace Go.Proofs.Ythpiddpkcmecfaa
open Go.RowKit Go.Deep

theorem made_int (n j : Nat) (hj : j < n) : (madeCells #[.int .i64 0] n)[j]? = some (.int .i64 0) := by
  simp [madeCells, hj, Nat.mod_one]
theorem FilledI.made {L : List Int} {n f : Nat} (hl : L.length = n) (hf : f ≤ n) (h0 : ∀ j, j < f → L.getD j 0 = 0) : FilledI (madeCells #[.int .i64 0] n) L f :=
  ⟨by rw [size_madeCells, hl], fun j hj => by rw [made_int n j (by omega), h0 j hj]⟩

def ivs (xs : List Int) : List Value := xs.map (Value.int .i64)
theorem ivs_len (xs : List Int) : (ivs xs).length = xs.length := by simp [ivs]
theorem ivs_get {xs : List Int} {k : Nat} (hk : k < xs.length) : (ivs xs)[k]? = some (.int .i64 (xs.getD k 0)) := by
  simp [ivs, List.getD_eq_getElem?_getD, hk]
theorem ivs_take_snoc {xs : List Int} {k : Nat} (hk : k < xs.length) : ivs (xs.take (k + 1)) = ivs (xs.take k) ++ [.int .i64 (xs.getD k 0)] := by
  unfold ivs
  rw [List.take_succ_eq_append_getElem hk, List.map_append]
  simp only [List.getD_eq_getElem?_getD, List.getElem?_eq_getElem hk, Option.getD_some, List.map_cons, List.map_nil]
theorem own_ints {w : World} {base g n cap : Nat} {xs : List Int} (h : w.ownsRow base 3 1 (.slice (some ⟨g, 0, none⟩) n cap) n (ivs xs)) (hn : xs.length = n) : IntsAt w w.heap.size (some ⟨g, 0, none⟩) xs := fun k hk => by
  refine ⟨g, 0, rfl, (h.lt g rfl).2, ?_⟩
  rw [Nat.zero_add, h.cellAt k (by omega)]
  exact ivs_get hk
theorem Row.grown {w w' : World} {row : Option Nat} {g : Nat} {t : TypeId} {cs : Array Value} (h : Row w g t cs) (hb : w.grownBy w' row) (hg : some g ≠ row) : Row w' g t cs := (hb.block g h.lt hg).trans h

end Go.Proofs.Ythpiddpkcmecfaa
