/- The law FnExactRoute returns true for every circuit and every list of tiles (whatever can be read: a struct of an integer, two slices of integers and a slice of pairs of integers, and a slice of integers; nil slices and shared memory let in), and leaves its arguments as they were: Route answers as the reference model in every route and every hop and in its second result, writes into no argument, and returns memory that no argument and no later call shares. No condition beyond what the statement itself asks. -/
import Derived.Test.YtliedgaefgomjaaGreatO
import Derived.Test.YtliedgaefgomjaaGreatX20
namespace Go.Proofs.YtliedgaefgomjaaGreat
open Go.ChangeShapes Go.WideShapes Go.ChangeAt Go.RowKit Go.Deep Go.Joins

set_option maxRecDepth 100000 in
set_option maxHeartbeats 1000000 in
theorem fnExactRoute_lifted (os : Os) (started : os.Started) (H : Type) (enc : TypeId × Value → H) :
    ReturnsInHanded {} Tryz.checked os 5 .any (Rows.fnExactRouteSpec.pre6 enc Tryz.prog Tryz.f5 Rows.fnExactRouteRow.domain false) (Rows.fnExactRouteSpec.post enc Tryz.prog Tryz.f5 false true false false) := by
  refine returnsInHanded_of_change (C := Tryz.checked) Tryz.own started (by kernel_rfl) Tryz.func5
    (ChangeSpec.witness6 (enc := enc) (C := Tryz.checked) false ⟨#[], #[.agg #[.int .i64 0, .slice none 0 0, .slice none 0 0, .slice none 0 0], .slice none 0 0], []⟩ 8 (by kernel_rfl) (by kernel_rfl) (by kernel_rfl) (by kernel_rfl)) ?_
  intro W base args ds gs before hval0 hW hcnd _
  have hval : ∀ (j : Nat) t v, Tryz.f5.params[j]? = some t → args[j]? = some v → Value.okWide Tryz.prog W .any base t v := hval0
  have hW' := hW
  obtain ⟨p, q, hA0, hV, rfl, hfz, hnd⟩ := hW
  have hA : DataW.TrodAll enc Tryz.prog W 0 (fun _ => true) true Tryz.f5.params.toList args.toList ds p := hA0
  rw [Tryz.params5] at hA hval
  obtain ⟨v0, vs0, d0, ds0, p0, q0, hargs0, rfl, rfl, h0, r0⟩ := trodAll_cons hA
  obtain ⟨v1, vs1, d1, ds1, p1, q1, hargs1, rfl, rfl, h1, r1⟩ := trodAll_cons r0
  obtain ⟨rfl, rfl, rfl⟩ := trodAll_nil r1
  obtain rfl : args = #[v0, v1] := by cases args; simp_all
  obtain ⟨rfl, rfl⟩ := trodVars_none hV
  have k0 := h0
  have k1 := h1
  have lt0 : ∀ x ∈ p0, x.block < W.heap.size := by obtain ⟨m, hm⟩ := k0; exact DataW.trod_lt m _ _ _ hm
  have lt1 : ∀ x ∈ p1, x.block < W.heap.size := by obtain ⟨m, hm⟩ := k1; exact DataW.trod_lt m _ _ _ hm
  obtain ⟨a1, len1, cap1, rfl⟩ := okWide_slice Tryz.underlying23 (hval 1 23 v1 rfl rfl)
  obtain ⟨pA, pts, pc, epl, hp1, hp2⟩ : ∃ (pA : Option Addr) (pts : List Int) (pc : Nat), Value.slice a1 len1 cap1 = .slice pA pts.length pc ∧ IntsAt W W.heap.size pA pts ∧ pts.length ≤ maxLen := by
    obtain ⟨fuel, hf⟩ := h1
    exact open_intsAt Tryz.underlying23 Tryz.underlying3 (by kernel_rfl) (by simpa [Value.cells] using hf)
  injection epl with e1 e2 e3
  subst e1 e2 e3
  obtain ⟨c0, c1, c2, c3, y0, y1, y2, y3, m, rfl, hd, hp, g0, g1, g2, g3⟩ := open_agg4 Tryz.underlying48 (by kernel_rfl) (by kernel_rfl) (hval 0 48 v0 rfl rfl) h0
  obtain ⟨i0, e0, _, _⟩ := DataW.trod_int Tryz.underlying3 g0
  simp at e0
  subst e0
  obtain ⟨nA, ns, nc, rfl, hn1, hn2⟩ := open_intsAt Tryz.underlying23 Tryz.underlying3 (by kernel_rfl) g1
  obtain ⟨gA, gts, gc, rfl, hg1, hg2⟩ := open_gatesAt Tryz.underlying46 Tryz.underlying115 (by kernel_rfl) Tryz.underlying3 Tryz.underlying3 rfl rfl (by kernel_rfl) (by kernel_rfl) g2
  obtain ⟨oA, ots, oc, rfl, ho1, ho2⟩ := open_intsAt Tryz.underlying23 Tryz.underlying3 (by kernel_rfl) g3
  clear hA0 hval0
  refine (xroute_walk i0 nA gA oA a1 nc gc oc cap1 ns gts ots pts W ⟨hn1, hg1, ho1, hn2, hg2, ho2⟩ hp1 hp2).mono fun e W' ⟨he, bel⟩ => ?_
  subst he
  exact ⟨_, rfl, _, _, _, [], _, [], hW', trodAll_mk1 (shut_bool Tryz.underlying4 _), (trodAll_cons_mk (Below.trod Tryz.laidOut (by kernel_rfl) (of_decide_eq_true (by kernel_rfl)) k0 bel lt0) (trodAll_cons_mk (Below.trod Tryz.laidOut (by kernel_rfl) (of_decide_eq_true (by kernel_rfl)) k1 bel lt1) trodAll_mk0)), rfl, bel.frame _, fun h => by cases h⟩

theorem fnExactRoute_holds : Rows.FnExactRouteSaid :=
  OpenClaim.holds_of_wide 5 Tryz.f5 rfl rfl rfl rfl rfl rfl rfl ⟨rfl, rfl, rfl, rfl, rfl⟩ rfl rfl rfl rfl rfl (by kernel_rfl) Tryz.func5 (by kernel_rfl)
    (of_decide_eq_true (by kernel_rfl)) (by unfold Func.isWrapper; first | (rw [if_pos (by decide +kernel)]; kernel_rfl) | (rw [if_neg (by decide +kernel)]; exact ⟨rfl, rfl⟩))
    (fun os started H enc _ => fnExactRoute_lifted os started H enc)

#print axioms fnExactRoute_holds
end Go.Proofs.YtliedgaefgomjaaGreat
