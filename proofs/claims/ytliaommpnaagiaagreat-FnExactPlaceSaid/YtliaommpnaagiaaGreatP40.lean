/- The law FnExactPlace returns true for every circuit (every struct of an integer, two slices of integers and a slice of pairs of integers that can be read, nil slices and shared memory let in), and leaves its argument as it was: Place answers as the reference model (the tile of every cell, in order; nothing for an invalid circuit), leaves its argument unmodified, and answers memory that it shares neither with its argument nor with the answer of another call. No condition beyond what the statement itself asks. -/
import Derived.Test.YtliaommpnaagiaaGreatO
import Derived.Test.YtliaommpnaagiaaGreatX19
namespace Go.Proofs.YtliaommpnaagiaaGreat
open Go.ChangeShapes Go.WideShapes Go.ChangeAt Go.RowKit Go.Deep Go.Joins

theorem xplace_walk (i : Int) (nA gA oA : Option Addr) (nc gc oc : Nat) (ns : List Int) (gs : List (Int × Int)) (os : List Int) (w : World) (hc : CircAt w w.heap.size nA gA oA ns gs os) :
    Calls Tryz.prog 6 #[.agg #[.int .i64 i, .slice nA ns.length nc, .slice gA gs.length gc, .slice oA os.length oc]] w fun e w' => e = .returned (.bool true) ∧ Below w.heap.size w w' := by
  cases hv : Circ.validB i ns gs os
  · exact xplace_walk_f i nA gA oA nc gc oc ns gs os w hc hv
  · exact xplace_walk_t i nA gA oA nc gc oc ns gs os w hc hv

set_option maxRecDepth 100000 in
theorem fnExactPlace_lifted (os : Os) (started : os.Started) (H : Type) (enc : TypeId × Value → H) :
    ReturnsInHanded {} Tryz.checked os 6 .any (Rows.fnExactPlaceSpec.pre6 enc Tryz.prog Tryz.f6 Rows.fnExactPlaceRow.domain false) (Rows.fnExactPlaceSpec.post enc Tryz.prog Tryz.f6 false true false false) := by
  refine returnsInHanded_of_change (C := Tryz.checked) Tryz.own started (by kernel_rfl) Tryz.func6
    (ChangeSpec.witness6 (enc := enc) (C := Tryz.checked) false ⟨#[], #[.agg #[.int .i64 0, .slice none 0 0, .slice none 0 0, .slice none 0 0]], []⟩ 8 (by kernel_rfl) (by kernel_rfl) (by kernel_rfl) (by kernel_rfl)) ?_
  intro W base args ds gs before hval0 hW hcnd _
  have hval : ∀ (j : Nat) t v, Tryz.f6.params[j]? = some t → args[j]? = some v → Value.okWide Tryz.prog W .any base t v := hval0
  have hW' := hW
  obtain ⟨p, q, hA0, hV, rfl, hfz, hnd⟩ := hW
  have hA : DataW.TrodAll enc Tryz.prog W 0 (fun _ => true) true Tryz.f6.params.toList args.toList ds p := hA0
  rw [Tryz.params6] at hA hval
  obtain ⟨v0, vs0, d0, ds0, p0, q0, hargs, rfl, rfl, h0, r0⟩ := trodAll_cons hA
  obtain ⟨rfl, rfl, rfl⟩ := trodAll_nil r0
  obtain rfl : args = #[v0] := by cases args; simp_all
  obtain ⟨rfl, rfl⟩ := trodVars_none hV
  have k0 := h0
  have lt0 : ∀ x ∈ p0, x.block < W.heap.size := by obtain ⟨m, hm⟩ := k0; exact DataW.trod_lt m _ _ _ hm
  obtain ⟨c0, c1, c2, c3, y0, y1, y2, y3, m, rfl, hd, hp, g0, g1, g2, g3⟩ := open_agg4 Tryz.underlying40 (by kernel_rfl) (by kernel_rfl) (hval 0 40 v0 rfl rfl) h0
  obtain ⟨i0, e0, _, _⟩ := DataW.trod_int Tryz.underlying3 g0
  simp at e0
  subst e0
  obtain ⟨nA, ns, nc, rfl, hn1, hn2⟩ := open_intsAt Tryz.underlying23 Tryz.underlying3 (by kernel_rfl) g1
  obtain ⟨gA, gts, gc, rfl, hg1, hg2⟩ := open_gatesAt Tryz.underlying38 Tryz.underlying105 (by kernel_rfl) Tryz.underlying3 Tryz.underlying3 rfl rfl (by kernel_rfl) (by kernel_rfl) g2
  obtain ⟨oA, ots, oc, rfl, ho1, ho2⟩ := open_intsAt Tryz.underlying23 Tryz.underlying3 (by kernel_rfl) g3
  clear hA0 hval0
  refine (xplace_walk i0 nA gA oA nc gc oc ns gts ots W ⟨hn1, hg1, ho1, hn2, hg2, ho2⟩).mono fun e W' ⟨he, bel⟩ => ?_
  subst he
  exact ⟨_, rfl, _, _, _, [], _, [], hW', trodAll_mk1 (shut_bool Tryz.underlying4 _), (trodAll_cons_mk (Below.trod Tryz.laidOut (by kernel_rfl) (of_decide_eq_true (by kernel_rfl)) k0 bel lt0) trodAll_mk0), rfl, bel.frame _, fun h => by cases h⟩

theorem fnExactPlace_holds : Rows.FnExactPlaceSaid :=
  OpenClaim.holds_of_wide 6 Tryz.f6 rfl rfl rfl rfl rfl rfl rfl ⟨rfl, rfl, rfl, rfl, rfl⟩ rfl rfl rfl rfl rfl (by kernel_rfl) Tryz.func6 (by kernel_rfl)
    (of_decide_eq_true (by kernel_rfl)) (by unfold Func.isWrapper; first | (rw [if_pos (by decide +kernel)]; kernel_rfl) | (rw [if_neg (by decide +kernel)]; exact ⟨rfl, rfl⟩))
    (fun os started H enc _ => fnExactPlace_lifted os started H enc)

#print axioms fnExactPlace_holds
end Go.Proofs.YtliaommpnaagiaaGreat
