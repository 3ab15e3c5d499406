/- The contract of Equivalent of the model. -/
import Derived.Test.YthpiddpkcmecfaaY5
import Derived.Test.YthpiddpkcmecfaaY10
namespace Go.Proofs.Ythpiddpkcmecfaa
open Go.RowKit Go.Deep
set_option maxRecDepth 100000

set_option maxHeartbeats 1000000 in
theorem sequiv_any (i : Int) (nA gA oA : Option Addr) (nc gc oc : Nat) (ns : List Int) (gs : List (Int × Int)) (os : List Int) (i' : Int) (nA' gA' oA' : Option Addr) (nc' gc' oc' : Nat) (ns' : List Int) (gs' : List (Int × Int)) (os' : List Int) (w : World) (hc : CircAt w w.heap.size nA gA oA ns gs os) (hd : CircAt w w.heap.size nA' gA' oA' ns' gs' os') :
    Calls Try.prog 36 #[.agg #[.int .i64 i, .slice nA ns.length nc, .slice gA gs.length gc, .slice oA os.length oc], .agg #[.int .i64 i', .slice nA' ns'.length nc', .slice gA' gs'.length gc', .slice oA' os'.length oc']] w fun e w' => e = .returned (.bool (Circ.equivB i ns gs os i' ns' gs' os')) ∧ Below w.heap.size w w' := by
  have HC := Lib.hid hc
  have HD := Lib.hid hd
  clear hc hd
  have hb0 : Below w.heap.size w ((w.alloc (.cells #[.int .i64 i, .slice nA ns.length nc, .slice gA gs.length gc, .slice oA os.length oc] 26)).alloc (.cells #[.int .i64 i', .slice nA' ns'.length nc', .slice gA' gs'.length gc', .slice oA' os'.length oc'] 26)) := ((Below.refl _ _).alloc (Nat.le_refl _) _).alloc (by simp) _
  have r1 : Row ((w.alloc (.cells #[.int .i64 i, .slice nA ns.length nc, .slice gA gs.length gc, .slice oA os.length oc] 26)).alloc (.cells #[.int .i64 i', .slice nA' ns'.length nc', .slice gA' gs'.length gc', .slice oA' os'.length oc'] 26)) w.heap.size 26 #[.int .i64 i, .slice nA ns.length nc, .slice gA gs.length gc, .slice oA os.length oc] := (Below.heap_alloc _ _ _ (by simp)).trans (heap_alloc_new w _)
  have r2 : Row ((w.alloc (.cells #[.int .i64 i, .slice nA ns.length nc, .slice gA gs.length gc, .slice oA os.length oc] 26)).alloc (.cells #[.int .i64 i', .slice nA' ns'.length nc', .slice gA' gs'.length gc', .slice oA' os'.length oc'] 26)) (w.heap.size + 1) 26 #[.int .i64 i', .slice nA' ns'.length nc', .slice gA' gs'.length gc', .slice oA' os'.length oc'] := by
    have := heap_alloc_new (w.alloc (.cells #[.int .i64 i, .slice nA ns.length nc, .slice gA gs.length gc, .slice oA os.length oc] 26)) (.cells #[.int .i64 i', .slice nA' ns'.length nc', .slice gA' gs'.length gc', .slice oA' os'.length oc'] 26)
    simpa [Row] using this
  have HL0 := Lib.hid hb0
  have HR0 := Lib.hid r1
  have HQ0 := Lib.hid r2
  clear hb0 r1 r2
  go_enter Try.func36, Try.ntmps36
  go_wp2_with fail
  refine (ssameIf_any i nA gA oA nc gc oc ns gs os i' nA' gA' oA' nc' gc' oc' ns' gs' os' _ ((HC.out.below HL0.out).mono HL0.out.size) ((HD.out.below HL0.out).mono HL0.out.size)).mono ?_
  rintro e w1 ⟨rfl, hb1⟩
  have HL1 := Lib.hid (HL0.out.trans (hb1.mono HL0.out.size))
  have HR1 := Lib.hid (HR0.out.below hb1 HR0.out.lt)
  have HQ1 := Lib.hid (HQ0.out.below hb1 HQ0.out.lt)
  clear hb1 HL0 HR0 HQ0
  have q0 := HR1.out.cell 0
  have q1 := HR1.out.cell 1
  have q2 := HR1.out.cell 2
  have q3 := HR1.out.cell 3
  have p0 := HQ1.out.cell 0
  have p1 := HQ1.out.cell 1
  have p2 := HQ1.out.cell 2
  have p3 := HQ1.out.cell 3
  simp at q0 q1 q2 q3 p0 p1 p2 p3
  cases hs : Circ.sameIf i ns gs os i' ns' gs' os'
  · have HE : Hid (Circ.equivB i ns gs os i' ns' gs' os' = false) := Lib.hid (by unfold Circ.equivB; rw [hs]; rfl)
    clear hs
    go_wp2
    go_ret
    exact ⟨by rw [HE.out]; rfl, HL1.out⟩
  · have HE := Lib.hid (Circ.equiv_fd hs)
    clear hs
    go_wp2_with fail
    refine (sfind_any i nA gA oA nc gc oc ns gs os i' nA' gA' oA' nc' gc' oc' ns' gs' os' _ ((HC.out.below HL1.out).mono HL1.out.size) ((HD.out.below HL1.out).mono HL1.out.size)).mono ?_
    rintro e w2 ⟨A1, A2, c1, c2, rfl, hp, _, hb2⟩
    have HL2 := Lib.hid (HL1.out.trans (hb2.mono HL1.out.size))
    clear hb2 hp
    generalize Circ.fdV i ns gs os i' ns' gs' os' = fd at *
    have hfd := fun W => Try.found_field fd.1 A1 A2 fd.2.1.length c1 fd.2.2.length c2 W
    go_wp2
    go_ret
    exact ⟨by rw [HE.out]; rfl, HL2.out⟩
end Go.Proofs.Ythpiddpkcmecfaa
