/- The contracts of the model's values of all variables. -/
import Derived.Test.YthcpgbfghededaaB5
import Derived.Test.YthcpgbfghededaaK
import Derived.Test.YthcpgbfghededaaR1
namespace Go.Proofs.Ythcpgbfghededaa
open Go.RowKit Go.Deep

def bvs (xs : List Bool) : List Value := xs.map Value.bool
theorem bvs_len (xs : List Bool) : (bvs xs).length = xs.length := by simp [bvs]
theorem bvs_get {xs : List Bool} {k : Nat} (hk : k < xs.length) : (bvs xs)[k]? = some (.bool (xs.getD k false)) := by
  simp [bvs, List.getD_eq_getElem?_getD, hk]
theorem bvs_append (a b : List Bool) : bvs (a ++ b) = bvs a ++ bvs b := by simp [bvs]
theorem bvs_one (xs : List Bool) : ∀ u ∈ bvs xs, u.oneCell' = true := by
  intro u hu
  simp only [bvs, List.mem_map] at hu
  obtain ⟨n, _, rfl⟩ := hu
  rfl
theorem bools_src {w : World} {B : Nat} {A : Option Addr} {xs : List Bool} (h : BoolsAt w B A xs) : ∀ j u, (bvs xs)[j]? = some u → ∃ ad, A = some ad ∧ w.cell? (ad.add j) = some u := by
  intro j u hu
  have hj : j < xs.length := by have := (List.getElem?_eq_some_iff.1 hu).1; rwa [bvs_len] at this
  obtain ⟨b, off, e, _, hc⟩ := h j hj
  rw [bvs_get hj] at hu
  injection hu with hu
  subst hu
  exact ⟨_, e, by rw [← hc]; unfold Addr.add; split <;> simp_all⟩
theorem own_bools {w : World} {base g n cap : Nat} {xs : List Bool} (h : w.ownsRow base 4 1 (.slice (some ⟨g, 0, none⟩) n cap) n (bvs xs)) (hn : xs.length = n) : BoolsAt w w.heap.size (some ⟨g, 0, none⟩) xs := fun k hk => by
  refine ⟨g, 0, rfl, (h.lt g rfl).2, ?_⟩
  rw [Nat.zero_add, h.cellAt k (by omega)]
  exact bvs_get hk

end Go.Proofs.Ythcpgbfghededaa
