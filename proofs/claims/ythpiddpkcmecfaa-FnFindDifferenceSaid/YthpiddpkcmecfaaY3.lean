/- The optimization as one contract for valid and invalid circuits: the circuit that is answered, and that both sides answer it. -/
import Derived.Test.YthpiddpkcmecfaaE6
import Derived.Test.YthpiddpkcmecfaaE4
import Derived.Test.YthpiddpkcmecfaaQA
namespace Circ
open Opt
def zI (i : Int) (ns : List Int) (gs : List (Int × Int)) (os : List Int) : Int := if validB i ns gs os = true then i else 0
def zN (i : Int) (ns : List Int) (gs : List (Int × Int)) (os : List Int) : List Int := if validB i ns gs os = true then optN i ns gs os else []
def zG (i : Int) (ns : List Int) (gs : List (Int × Int)) (os : List Int) : List (Int × Int) := if validB i ns gs os = true then optG i ns gs os else []
def zO (i : Int) (ns : List Int) (gs : List (Int × Int)) (os : List Int) : List Int := if validB i ns gs os = true then optO i ns gs os else []
section
variable {i : Int} {ns : List Int} {gs : List (Int × Int)} {os : List Int}
theorem z_t (h : validB i ns gs os = true) : zI i ns gs os = i ∧ zN i ns gs os = optN i ns gs os ∧ zG i ns gs os = optG i ns gs os ∧ zO i ns gs os = optO i ns gs os := ⟨if_pos h, if_pos h, if_pos h, if_pos h⟩
theorem z_f (h : validB i ns gs os = false) : zI i ns gs os = 0 ∧ zN i ns gs os = [] ∧ zG i ns gs os = [] ∧ zO i ns gs os = [] := by
  have h' : ¬ validB i ns gs os = true := by rw [h]; decide
  exact ⟨if_neg h', if_neg h', if_neg h', if_neg h'⟩
theorem z_le : (zN i ns gs os).length ≤ 3 ∧ (zG i ns gs os).length ≤ 14 ∧ (zO i ns gs os).length ≤ 3 := by
  cases h : validB i ns gs os
  · obtain ⟨_, b, c, d⟩ := z_f h
    rw [b, c, d]; simp
  · obtain ⟨_, b, c, d⟩ := z_t h
    have hw := valid_within h
    have hg := optG_len h
    rw [b, c, d, optN_len h, optO_len h]
    omega
theorem z_valid : validB (zI i ns gs os) (zN i ns gs os) (zG i ns gs os) (zO i ns gs os) = true := by
  cases h : validB i ns gs os
  · obtain ⟨a, b, c, d⟩ := z_f h
    rw [a, b, c, d]; rfl
  · obtain ⟨a, b, c, d⟩ := z_t h
    rw [a, b, c, d]; exact opt_valid h
end
end Circ
namespace Go.Proofs.Ythpiddpkcmecfaa
open Go.RowKit Go.Deep
set_option maxRecDepth 100000

def OptRes (w : World) (i : Int) (ns : List Int) (gs : List (Int × Int)) (os : List Int) (e : Ending) (w' : World) : Prop :=
  ∃ (nA gA oA : Option Addr) (nc gc oc : Nat), e = .returned (.agg #[.int .i64 (Circ.zI i ns gs os), .slice nA (Circ.zN i ns gs os).length nc, .slice gA (Circ.zG i ns gs os).length gc, .slice oA (Circ.zO i ns gs os).length oc]) ∧ CircAt w' w'.heap.size nA gA oA (Circ.zN i ns gs os) (Circ.zG i ns gs os) (Circ.zO i ns gs os) ∧ Below w.heap.size w w'

theorem circ_nil (w : World) (B : Nat) : CircAt w B none none none [] [] [] := ⟨fun k hk => absurd hk (by simp), fun k hk => absurd hk (by simp), fun k hk => absurd hk (by simp), by simp, by simp, by simp⟩
theorem OptRes.zero {w w' : World} {i : Int} {ns : List Int} {gs : List (Int × Int)} {os : List Int} {e : Ending} (h : Circ.validB i ns gs os = false) (hz : ZeroOut w e w') : OptRes w i ns gs os e w' := by
  obtain ⟨a, b, c, d⟩ := Circ.z_f h
  refine ⟨none, none, none, 0, 0, 0, ?_, ?_, hz.2⟩
  · rw [a, b, c, d]; exact hz.1
  · rw [b, c, d]; exact circ_nil _ _
theorem OptRes.mk {w w' : World} {i : Int} {ns : List Int} {gs : List (Int × Int)} {os : List Int} {e : Ending} (h : Circ.validB i ns gs os = true) {nA gA oA : Option Addr} {nc gc oc : Nat} (he : e = .returned (.agg #[.int .i64 i, .slice nA ns.length nc, .slice gA (Opt.optC i ns gs os).gs.length gc, .slice oA os.length oc]))
    (hC : CircAt w' w'.heap.size nA gA oA (Opt.intL (Opt.optC i ns gs os).ns) (Opt.intG (Opt.optC i ns gs os).gs) (Opt.intL (Opt.optC i ns gs os).os)) (hb : Below w.heap.size w w') : OptRes w i ns gs os e w' := by
  obtain ⟨a, b, c, d⟩ := Circ.z_t h
  refine ⟨nA, gA, oA, nc, gc, oc, ?_, ?_, hb⟩
  · rw [a, b, c, d, Opt.optN_len h, Opt.optO_len h, show (Opt.optG i ns gs os).length = (Opt.optC i ns gs os).gs.length from Opt.intG_len _]
    exact he
  · rw [b, c, d]; exact hC
theorem spec_opt_any (i : Int) (nA gA oA : Option Addr) (nc gc oc : Nat) (ns : List Int) (gs : List (Int × Int)) (os : List Int) (w : World) (hc : CircAt w w.heap.size nA gA oA ns gs os) :
    Calls Try.prog 17 #[.agg #[.int .i64 i, .slice nA ns.length nc, .slice gA gs.length gc, .slice oA os.length oc]] w (OptRes w i ns gs os) := by
  cases hv : Circ.validB i ns gs os
  · exact (spec_opt_f i nA gA oA nc gc oc ns gs os w hc hv).mono fun _ _ h => OptRes.zero hv h
  · exact (spec_opt_t i nA gA oA nc gc oc ns gs os w hc hv).mono fun _ _ ⟨_, _, _, _, _, _, he, hC, _, _, _, hb⟩ => OptRes.mk hv he hC hb
theorem impl_opt_any (i : Int) (nA gA oA : Option Addr) (nc gc oc : Nat) (ns : List Int) (gs : List (Int × Int)) (os : List Int) (w : World) (hc : CircAt w w.heap.size nA gA oA ns gs os) :
    Calls Try.prog 15 #[.agg #[.int .i64 i, .slice nA ns.length nc, .slice gA gs.length gc, .slice oA os.length oc]] w (OptRes w i ns gs os) := by
  cases hv : Circ.validB i ns gs os
  · exact (impl_opt_f i nA gA oA nc gc oc ns gs os w hc hv).mono fun _ _ h => OptRes.zero hv h
  · refine (impl_opt_t i nA gA oA nc gc oc ns gs os w hc hv).mono fun e w' ⟨g1, g3, vG, he, hO, hb⟩ => ?_
    obtain ⟨_, hrg, hro, hrn⟩ := Opt.optC_form hv
    have hw := Circ.valid_within hv
    obtain ⟨A, cap, rfl, hC⟩ := hO.circ (by unfold maxLen; omega) (by unfold maxLen; omega) (by unfold maxLen; omega)
    exact OptRes.mk hv he hC hb
end Go.Proofs.Ythpiddpkcmecfaa
