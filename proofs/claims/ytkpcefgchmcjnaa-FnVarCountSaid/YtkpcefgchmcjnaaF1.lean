/- The walk of the law FnVarCount. -/
import Derived.Test.YtkpcefgchmcjnaaR5
import Derived.Test.YtkpcefgchmcjnaaW7
namespace Go.Proofs.Ytkpcefgchmcjnaa
open Go.RowKit Go.Deep

set_option maxHeartbeats 800000 in
theorem fvarCount_walk (A : Option Addr) (bl bc : Nat) (w : World) (hb : CodeAt w A bl) (hbl : bl ≤ bc) (hbc : bc ≤ maxLen) :
    Calls Try.prog 4 #[.slice A bl bc] w fun e w' => e = .returned (.bool true) ∧ Below w.heap.size w w' := by
  have HB := Lib.hid hb
  have HBC := Lib.hid hbc
  unfold maxLen at hbc
  clear hb
  by_cases hsz : 1048576 < bl
  · go_enter Try.func4, Try.ntmps4
    go_wp2
    go_ret
    exact ⟨rfl, Below.refl _ _⟩
  · go_enter Try.func4, Try.ntmps4
    go_wp2_with fail
    refine (draw13 A bl bc _ HB.out hbl HBC.out).mono ?_
    rintro e w1 ⟨i, nA, gA, oA, nc, gc, oc, ns, gs, os, rfl, hC1, hn, hg, ho, hgc, hb1⟩
    have hbB : Below w1.heap.size w1 (w1.alloc (.cells #[.int .i64 i, .slice nA ns.length nc, .slice gA gs.length gc, .slice oA os.length oc] 26)) := (Below.refl _ _).alloc (Nat.le_refl _) _
    have HC2 := Lib.hid ((hC1.below hbB).mono hbB.size)
    have HL2 := Lib.hid (hb1.trans (hbB.mono hb1.size))
    have HR2 := Lib.hid (show Row (w1.alloc (.cells #[.int .i64 i, .slice nA ns.length nc, .slice gA gs.length gc, .slice oA os.length oc] 26)) w1.heap.size 26 #[.int .i64 i, .slice nA ns.length nc, .slice gA gs.length gc, .slice oA os.length oc] from heap_alloc_new w1 _)
    clear hC1 hb1 hbB HB HBC hbc
    go_wp2_with fail
    refine (varCount_any i nA gA oA nc gc oc ns gs os _ HC2.out).mono ?_
    rintro e w3 ⟨rfl, hb3⟩
    have HC3 := Lib.hid ((HC2.out.below hb3).mono hb3.size)
    have HR3 := Lib.hid (HR2.out.below hb3 HR2.out.lt)
    have HL3 := Lib.hid (HL2.out.trans (hb3.mono HL2.out.size))
    clear hb3 HC2 HR2 HL2
    have q0 := HR3.out.cell 0
    have q1 := HR3.out.cell 1
    have q2 := HR3.out.cell 2
    have q3 := HR3.out.cell 3
    simp at q0 q1 q2 q3
    generalize w1.heap.size = cb at *
    go_wp2_with fail
    refine (svarCount_any i nA gA oA nc gc oc ns gs os _ HC3.out).mono ?_
    rintro e w4 ⟨rfl, hb4⟩
    have HC4 := Lib.hid ((HC3.out.below hb4).mono hb4.size)
    have HR4 := Lib.hid (HR3.out.below hb4 HR3.out.lt)
    have HL4 := Lib.hid (HL3.out.trans (hb4.mono HL3.out.size))
    clear hb4 HC3 HR3 HL3 q0 q1 q2 q3
    have q0 := HR4.out.cell 0
    have q1 := HR4.out.cell 1
    have q2 := HR4.out.cell 2
    have q3 := HR4.out.cell 3
    simp at q0 q1 q2 q3
    go_wp2_with fail
    refine (svalid_any i nA gA oA nc gc oc ns gs os _ HC4.out).mono ?_
    rintro e w5 ⟨rfl, hb5⟩
    have HR5 := Lib.hid (HR4.out.below hb5 HR4.out.lt)
    have HL5 := Lib.hid (HL4.out.trans (hb5.mono HL4.out.size))
    clear hb5 HC4 HR4 HL4 q0 q1 q2 q3
    have q0 := HR5.out.cell 0
    have q1 := HR5.out.cell 1
    have q2 := HR5.out.cell 2
    simp at q0 q1 q2
    cases hv : Circ.validB i ns gs os
    · have hz := Circ.varCount_f hv
      clear hv
      rw [hz]
      clear hz
      go_wp2_with (go_at_call 12; refine (alive_any _).mono ?_; rintro e w6 ⟨rfl, hb6⟩)
      go_ret
      exact ⟨rfl, HL5.out.trans (hb6.mono HL5.out.size)⟩
    · obtain ⟨h0, h1, h2, h3, h4⟩ := Circ.valid_within hv
      have hz := Circ.varCount_t hv
      clear hv
      rw [hz]
      clear hz
      go_wp2
      go_ret
      exact ⟨ret_bool (by simp), HL5.out⟩
end Go.Proofs.Ytkpcefgchmcjnaa
