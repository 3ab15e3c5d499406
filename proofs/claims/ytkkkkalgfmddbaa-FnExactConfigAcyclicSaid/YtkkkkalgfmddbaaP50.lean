/- The law FnExactConfigAcyclic returns true for every configuration (whatever can be read; nil slices and shared memory let in), and leaves its argument as it was: ConfigAcyclic answers as the reference model and writes into no argument. No condition beyond what the statement itself asks. -/
import Derived.Test.YtkkkkalgfmddbaaO5
import Derived.Test.YtkkkkalgfmddbaaX27
namespace Go.Proofs.Ytkkkkalgfmddbaa
open Go.ChangeShapes Go.WideShapes Go.ChangeAt Go.RowKit Go.Deep Go.Joins

set_option maxRecDepth 100000 in
set_option maxHeartbeats 1000000 in
theorem fnExactConfigAcyclic_lifted (os : Os) (started : os.Started) (H : Type) (enc : TypeId × Value → H) :
    ReturnsInHanded {} Try.checked os 7 .any (Rows.fnExactConfigAcyclicSpec.pre6 enc Try.prog Try.f7 Rows.fnExactConfigAcyclicRow.domain false) (Rows.fnExactConfigAcyclicSpec.post enc Try.prog Try.f7 false true false false) := by
  refine returnsInHanded_of_change (C := Try.checked) Try.own started (by kernel_rfl) Try.func7
    (ChangeSpec.witness6 (enc := enc) (C := Try.checked) false ⟨#[], #[.agg #[.slice none 0 0, .slice none 0 0]], []⟩ 8 (by kernel_rfl) (by kernel_rfl) (by kernel_rfl) (by kernel_rfl)) ?_
  intro W base args ds gs before hval0 hW hcnd _
  have hval : ∀ (j : Nat) t v, Try.f7.params[j]? = some t → args[j]? = some v → Value.okWide Try.prog W .any base t v := hval0
  have hW' := hW
  obtain ⟨p, q, hA0, hV, rfl, hfz, hnd⟩ := hW
  have hA : DataW.TrodAll enc Try.prog W 0 (fun _ => true) true Try.f7.params.toList args.toList ds p := hA0
  rw [Try.params7] at hA hval
  obtain ⟨v0, vs0, d0, ds0, p0, q0, hargs0, rfl, rfl, h0, r0⟩ := trodAll_cons hA
  obtain ⟨rfl, rfl, rfl⟩ := trodAll_nil r0
  obtain rfl : args = #[v0] := by cases args; simp_all
  obtain ⟨rfl, rfl⟩ := trodVars_none hV
  have k0 := h0
  have lt0 : ∀ x ∈ p0, x.block < W.heap.size := by obtain ⟨m, hm⟩ := k0; exact DataW.trod_lt m _ _ _ hm
  obtain ⟨c0, c1, y0, y1, m, rfl, hd, hp, g0, g1⟩ := open_agg2 Try.underlying50 (by kernel_rfl) (by kernel_rfl) (hval 0 50 v0 rfl rfl) h0
  obtain ⟨tA, ts, tc, rfl, ht1, ht2, ht3⟩ := open_tilesAt Try.underlying47 Try.underlying150 (by kernel_rfl) Try.underlying3 Try.underlying31 Try.underlying4 Try.underlying31 Try.underlying3 (by kernel_rfl) rfl rfl rfl rfl (by kernel_rfl) (by kernel_rfl) (by kernel_rfl) (by kernel_rfl) g0
  obtain ⟨pA, ps, pc, rfl, hp1, hp2⟩ := open_padsAt Try.underlying48 Try.underlying155 (by kernel_rfl) Try.underlying3 Try.underlying4 rfl rfl (by kernel_rfl) (by kernel_rfl) g1
  clear hA0 hval0
  refine (xacy_walk tA pA _ tc _ pc ts ps W ht1 hp1 rfl rfl ht2 ht3 hp2).mono fun e W' ⟨he, bel⟩ => ?_
  subst he
  exact ⟨_, rfl, _, _, _, [], _, [], hW', trodAll_mk1 (shut_bool Try.underlying4 _), (trodAll_cons_mk (Below.trod Try.laidOut (by kernel_rfl) (of_decide_eq_true (by kernel_rfl)) k0 bel lt0) trodAll_mk0), rfl, bel.frame _, fun h => by cases h⟩

theorem fnExactConfigAcyclic_holds : Rows.FnExactConfigAcyclicSaid :=
  OpenClaim.holds_of_wide 7 Try.f7 rfl rfl rfl rfl rfl rfl rfl ⟨rfl, rfl, rfl, rfl, rfl⟩ rfl rfl rfl rfl rfl (by kernel_rfl) Try.func7 (by kernel_rfl)
    (of_decide_eq_true (by kernel_rfl)) (by unfold Func.isWrapper; first | (rw [if_pos (by decide +kernel)]; kernel_rfl) | (rw [if_neg (by decide +kernel)]; exact ⟨rfl, rfl⟩))
    (fun os started H enc _ => fnExactConfigAcyclic_lifted os started H enc)

#print axioms fnExactConfigAcyclic_holds
end Go.Proofs.Ytkkkkalgfmddbaa
