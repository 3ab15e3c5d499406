/- A valid circuit in natural numbers. -/
import Derived.Test.YtkkkkalgfmddbaaT3
namespace Go.Proofs.Ytkkkkalgfmddbaa
open Go.RowKit Go.Deep
theorem natG_int {gs : List (Int × Int)} {f : Int} (h : Circ.gatesOk gs f = true) : Opt.intG (Opt.natG gs) = gs := by
  unfold Opt.intG Opt.natG
  rw [List.map_map]
  refine (List.map_congr_left (fun g hg => ?_)).trans (List.map_id gs)
  obtain ⟨k, hk, rfl⟩ := List.mem_iff_getElem.mp hg
  obtain ⟨a, b⟩ := Circ.gatesOk_get h hk
  have e : gs.getD k (0, 0) = gs[k] := by simp [List.getD_eq_getElem?_getD, hk]
  rw [e] at a b
  have a' := Circ.litOk_inv a
  have b' := Circ.litOk_inv b
  refine Prod.ext ?_ ?_
  · show ((gs[k].1.toNat : Nat) : Int) = gs[k].1; omega
  · show ((gs[k].2.toNat : Nat) : Int) = gs[k].2; omega
section
variable {i : Int} {ns : List Int} {gs : List (Int × Int)} {os : List Int}
theorem natC_ints (h : Circ.validB i ns gs os = true) : Opt.intL (Opt.natC ns gs os).ns = ns ∧ Opt.intG (Opt.natC ns gs os).gs = gs ∧ Opt.intL (Opt.natC ns gs os).os = os :=
  ⟨natL_int (Circ.valid_next h), natG_int (Circ.valid_gates h), natL_int (Circ.valid_outs h)⟩
theorem natC_fits (h : Circ.validB i ns gs os = true) : Fits i (Opt.fst i ns) ns.length gs.length os.length (Opt.natC ns gs os) := by
  have hw := Circ.valid_within h
  exact ⟨hw.1, hw.2.1, Opt.natL_len ns, Opt.natG_len gs, Opt.natL_len os, hw.2.2.1, hw.2.2.2.1, hw.2.2.2.2, by unfold Opt.fst; omega, (Opt.natC_ok h).2⟩
end
end Go.Proofs.Ytkkkkalgfmddbaa
