/- MapLuts of any circuit, both sides; contains. -/
import Derived.Test.YtkkkkalgfmddbaaN4
import Derived.Test.YtkkkkalgfmddbaaN7
import Derived.Test.YtkkkkalgfmddbaaQD
namespace Go.Proofs.Ytkkkkalgfmddbaa
open Go.RowKit Go.Deep Cut

/-- The lookup tables of any circuit. -/
def mapV (i : Int) (ns : List Int) (gs : List (Int × Int)) (os : List Int) : List Lt := if Circ.validB i ns gs os = true then lutsV (Opt.fst i ns) (Opt.natG gs) (Opt.natL ns) (Opt.natL os) else []
theorem mapV_k {i : Int} {ns : List Int} {gs : List (Int × Int)} {os : List Int} (hv : Circ.validB i ns gs os = true) : LutK (Opt.fst i ns) (Opt.natG gs) (Opt.natL ns) (Opt.natL os) (mapV i ns gs os) := by
  obtain ⟨k0, k1⟩ := Opt.natC_ok hv
  unfold mapV
  rw [hv, if_pos rfl]
  exact lutsV_k k0 k1.ord (fun r hr => k1.root r hr)
theorem mapV_f {i : Int} {ns : List Int} {gs : List (Int × Int)} {os : List Int} (hv : Circ.validB i ns gs os = false) : mapV i ns gs os = [] := by
  unfold mapV
  rw [hv, if_neg (by simp)]
theorem mapV_bd (i : Int) (ns : List Int) (gs : List (Int × Int)) (os : List Int) : (mapV i ns gs os).length ≤ 14 ∧ ∀ k, k < (mapV i ns gs os).length → ((mapV i ns gs os).getD k (0, [], 0)).1 ≤ 22 ∧ ((mapV i ns gs os).getD k (0, [], 0)).2.1.length ≤ 3 ∧ ((mapV i ns gs os).getD k (0, [], 0)).2.2 < 256 := by
  cases hv : Circ.validB i ns gs os
  · rw [mapV_f hv]; exact ⟨by simp, fun k hk => absurd hk (by simp)⟩
  · have K := mapV_k hv
    obtain ⟨h0, h1, h2, h3, h4⟩ := Circ.valid_within hv
    have hgl : (Opt.natG gs).length = gs.length := Opt.natG_len gs
    have hf : Opt.fst i ns ≤ 8 := by unfold Opt.fst; omega
    exact ⟨by have := K.len; omega, fun k hk => by have := K.bd k hk; omega⟩

end Go.Proofs.Ytkkkkalgfmddbaa
