/- The contract of the model's Cuts. -/
import Derived.Test.YtgllpnilnaggeaaC4
import Derived.Test.YtgllpnilnaggeaaNC
namespace Go.Proofs.Ytgllpnilnaggeaa
open Go.RowKit Go.Deep Cut

set_option maxHeartbeats 400000 in
theorem scuts_t (i : Int) (nA gA oA : Option Addr) (nc gc oc : Nat) (ns : List Int) (gs : List (Int × Int)) (os : List Int) (w : World) (hc : CircAt w w.heap.size nA gA oA ns gs os) (hv : Circ.validB i ns gs os = true) :
    Calls Try.prog 11 #[.agg #[.int .i64 i, .slice nA ns.length nc, .slice gA gs.length gc, .slice oA os.length oc]] w (CutsOut w (Opt.fst i ns) (Opt.natG gs)) := by
  have HF1 := Lib.hid (natC_fits hv)
  obtain ⟨e1, e2, e3⟩ := natC_ints hv
  have HC := Lib.hid hc
  have HC1 : Hid (CircAt w w.heap.size nA gA oA (Opt.intL (Opt.natC ns gs os).ns) (Opt.intG (Opt.natC ns gs os).gs) (Opt.intL (Opt.natC ns gs os).os)) := Lib.hid (by rw [e1, e2, e3]; exact hc)
  have HG : Hid (Opt.natG gs = (Opt.natC ns gs os).gs) := Lib.hid rfl
  have HV := Lib.hid hv
  clear e1 e2 e3 hc hv
  rw [HG.out]
  generalize Opt.fst i ns = f at *
  generalize Opt.natC ns gs os = c at *
  have HB0 := Lib.hid (Boxed.new w i nA gA oA ns.length nc gs.length gc os.length oc 26)
  have HW0 : Hid (Below w.heap.size w (w.alloc (.cells #[.int .i64 i, .slice nA ns.length nc, .slice gA gs.length gc, .slice oA os.length oc] 26))) := Lib.hid ((Below.refl _ _).alloc (Nat.le_refl _) _)
  have hsz0 : (w.alloc (.cells #[.int .i64 i, .slice nA ns.length nc, .slice gA gs.length gc, .slice oA os.length oc] 26)).heap.size = w.heap.size + 1 := by simp
  have HZ0 := Lib.hid hsz0
  clear hsz0
  go_enter Try.func11, Try.ntmps11
  go_wp2_with fail
  refine (svalid_any i nA gA oA nc gc oc ns gs os _ ((HC.out.below HW0.out).mono HW0.out.size)).mono ?_
  rintro e w1 ⟨rfl, hb1⟩
  rw [HV.out]
  generalize w.alloc (.cells #[.int .i64 i, .slice nA ns.length nc, .slice gA gs.length gc, .slice oA os.length oc] 26) = w0 at *
  rw [HZ0.out] at hb1
  have HL1 := Lib.hid hb1
  have hX := HB0.out.below hb1 (by omega)
  have q0 := hX.c0
  have q1 := hX.c1
  have q2 := hX.c2
  have q3 := hX.c3
  have hz1 : w.heap.size + 1 ≤ w1.heap.size := by have := hb1.size; rw [HZ0.out] at this; exact this
  clear hb1 hX
  go_wp2_with fail
  refine (l5Cuts_any i nA gA oA nc gc oc ns.length gs.length os.length f c _ (((HC1.out.below HW0.out).below (HL1.out.mono (by omega))).mono (by omega)) HF1.out).mono ?_
  rintro e w2 ⟨g, cap, HH, rfl, hA, hb2⟩
  have HA := Lib.hid (hA.mono (by omega : w.heap.size ≤ w1.heap.size))
  have HL2 := Lib.hid (HW0.out.trans ((HL1.out.trans (hb2.mono hz1)).mono (by omega)))
  clear q0 q1 q2 q3 hA hb2
  go_wp2
  go_ret
  exact ⟨g, cap, HH, rfl, HA.out, HL2.out⟩

set_option maxHeartbeats 400000 in
theorem scuts_f (i : Int) (nA gA oA : Option Addr) (nc gc oc : Nat) (ns : List Int) (gs : List (Int × Int)) (os : List Int) (w : World) (hc : CircAt w w.heap.size nA gA oA ns gs os) (hv : Circ.validB i ns gs os = false) :
    Calls Try.prog 11 #[.agg #[.int .i64 i, .slice nA ns.length nc, .slice gA gs.length gc, .slice oA os.length oc]] w fun e w' => (∃ A cap, e = .returned (.slice A 0 cap)) ∧ Below w.heap.size w w' := by
  have HC := Lib.hid hc
  have HV := Lib.hid hv
  clear hc hv
  have HW0 : Hid (Below w.heap.size w (w.alloc (.cells #[.int .i64 i, .slice nA ns.length nc, .slice gA gs.length gc, .slice oA os.length oc] 26))) := Lib.hid ((Below.refl _ _).alloc (Nat.le_refl _) _)
  go_enter Try.func11, Try.ntmps11
  go_wp2_with fail
  refine (svalid_any i nA gA oA nc gc oc ns gs os _ ((HC.out.below HW0.out).mono HW0.out.size)).mono ?_
  rintro e w1 ⟨rfl, hb1⟩
  rw [HV.out]
  have HL1 := Lib.hid (HW0.out.trans (hb1.mono (by simp)))
  clear hb1
  go_wp2
  go_ret
  exact ⟨⟨_, _, rfl⟩, HL1.out.alloc HL1.out.size _⟩
end Go.Proofs.Ytgllpnilnaggeaa
