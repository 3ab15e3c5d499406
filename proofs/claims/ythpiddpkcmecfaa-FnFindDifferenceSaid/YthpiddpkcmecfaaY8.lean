/- The contract of the comparison of two circuits at an assignment. -/
import Derived.Test.YthpiddpkcmecfaaY7
import Derived.Deep.DeepCutAuto
import Derived.Deep.CutBlock
namespace Go.Proofs.Ythpiddpkcmecfaa
open Go.RowKit Go.Deep
set_option maxRecDepth 100000

set_option maxHeartbeats 2000000 in
theorem differFor_any (i : Int) (nA gA oA : Option Addr) (nc gc oc : Nat) (ns : List Int) (gs : List (Int × Int)) (os : List Int) (i' : Int) (nA' gA' oA' : Option Addr) (nc' gc' oc' : Nat) (ns' : List Int) (gs' : List (Int × Int)) (os' : List Int) (sA iA : Option Addr) (sl il sc ic : Nat) (st ins : List Bool) (w : World)
    (hc : CircAt w w.heap.size nA gA oA ns gs os) (hd : CircAt w w.heap.size nA' gA' oA' ns' gs' os') (hs : BoolsAt w w.heap.size sA st) (hi : BoolsAt w w.heap.size iA ins) (hsl : st.length = sl) (hil : ins.length = il) (hv : assignB i ns gs os sl il = true) (hv' : assignB i' ns' gs' os' sl il = true)
    (b1 b2 : Bool) (hb1 : (Circ.outV gs os st ins == Circ.outV gs' os' st ins) = b1) (hb2 : (Circ.outV gs ns st ins == Circ.outV gs' ns' st ins) = b2) :
    Calls Try.prog 65 #[.agg #[.int .i64 i, .slice nA ns.length nc, .slice gA gs.length gc, .slice oA os.length oc], .agg #[.int .i64 i', .slice nA' ns'.length nc', .slice gA' gs'.length gc', .slice oA' os'.length oc'], .agg #[.slice sA sl sc, .slice iA il ic]] w fun e w' => e = .returned (.bool (!(b1 && b2))) ∧ Below w.heap.size w w' := by
  have HC := Lib.hid hc
  have HD := Lib.hid hd
  have HS := Lib.hid hs
  have HI := Lib.hid hi
  have HSL := Lib.hid hsl
  have HIL := Lib.hid hil
  have HV := Lib.hid hv
  have HV' := Lib.hid hv'
  have HB1 := Lib.hid hb1
  have HB2 := Lib.hid hb2
  obtain ⟨a0, a1, a2, a3, a4⟩ := Circ.valid_within (assign_inv hv).1
  obtain ⟨d0, d1, d2, d3, d4⟩ := Circ.valid_within (assign_inv hv').1
  clear hc hd hs hi hsl hil hv hv' hb1 hb2
  have hb0 : Below w.heap.size w (((w.alloc (.cells #[.int .i64 i, .slice nA ns.length nc, .slice gA gs.length gc, .slice oA os.length oc] 26)).alloc (.cells #[.int .i64 i', .slice nA' ns'.length nc', .slice gA' gs'.length gc', .slice oA' os'.length oc'] 26)).alloc (.cells #[.slice sA sl sc, .slice iA il ic] 80)) := (((Below.refl _ _).alloc (Nat.le_refl _) _).alloc (by simp) _).alloc (by simp; omega) _
  have r2 : Row (((w.alloc (.cells #[.int .i64 i, .slice nA ns.length nc, .slice gA gs.length gc, .slice oA os.length oc] 26)).alloc (.cells #[.int .i64 i', .slice nA' ns'.length nc', .slice gA' gs'.length gc', .slice oA' os'.length oc'] 26)).alloc (.cells #[.slice sA sl sc, .slice iA il ic] 80)) (w.heap.size + 1) 26 #[.int .i64 i', .slice nA' ns'.length nc', .slice gA' gs'.length gc', .slice oA' os'.length oc'] := (Below.heap_alloc _ _ _ (by simp)).trans (by
    have := heap_alloc_new (w.alloc (.cells #[.int .i64 i, .slice nA ns.length nc, .slice gA gs.length gc, .slice oA os.length oc] 26)) (.cells #[.int .i64 i', .slice nA' ns'.length nc', .slice gA' gs'.length gc', .slice oA' os'.length oc'] 26)
    simpa using this)
  have r3 : Row (((w.alloc (.cells #[.int .i64 i, .slice nA ns.length nc, .slice gA gs.length gc, .slice oA os.length oc] 26)).alloc (.cells #[.int .i64 i', .slice nA' ns'.length nc', .slice gA' gs'.length gc', .slice oA' os'.length oc'] 26)).alloc (.cells #[.slice sA sl sc, .slice iA il ic] 80)) (w.heap.size + 1 + 1) 80 #[.slice sA sl sc, .slice iA il ic] := by
    have := heap_alloc_new ((w.alloc (.cells #[.int .i64 i, .slice nA ns.length nc, .slice gA gs.length gc, .slice oA os.length oc] 26)).alloc (.cells #[.int .i64 i', .slice nA' ns'.length nc', .slice gA' gs'.length gc', .slice oA' os'.length oc'] 26)) (.cells #[.slice sA sl sc, .slice iA il ic] 80)
    simpa [Row] using this
  have HL0 := Lib.hid hb0
  have HQ0 := Lib.hid r2
  have HZ0 := Lib.hid r3
  clear hb0 r2 r3
  go_enter Try.func65, Try.ntmps65
  go_wp2_with fail
  refine (stepValid_ln i nA gA oA sA iA nc gc oc sl il sc ic ns gs os st ins _ HSL.out HIL.out ((HC.out.below HL0.out).mono HL0.out.size) (HS.out.on HL0.out) (HI.out.on HL0.out) HV.out).mono ?_
  rintro e w1 ⟨y1, y2, rfl, hy1, hy2, hx1, hx2, hb1⟩
  have hbA : Below w1.heap.size w1 (w1.alloc (.cells #[.slice (some ⟨y1, 0, none⟩) os.length os.length, .slice (some ⟨y2, 0, none⟩) ns.length ns.length] 35)) := (Below.refl _ _).alloc (Nat.le_refl _) _
  have hb1' := hb1.trans (hbA.mono hb1.size)
  have HL1 := Lib.hid (HL0.out.trans (hb1'.mono HL0.out.size))
  have HQ1 := Lib.hid (HQ0.out.below hb1' HQ0.out.lt)
  have HZ1 := Lib.hid (HZ0.out.below hb1' HZ0.out.lt)
  have HY1 := Lib.hid (hx1.on hbA)
  have HY2 := Lib.hid (hx2.on hbA)
  have HP1 := Lib.hid (show Row (w1.alloc (.cells #[.slice (some ⟨y1, 0, none⟩) os.length os.length, .slice (some ⟨y2, 0, none⟩) ns.length ns.length] 35)) w1.heap.size 35 #[.slice (some ⟨y1, 0, none⟩) os.length os.length, .slice (some ⟨y2, 0, none⟩) ns.length ns.length] from heap_alloc_new w1 _)
  clear hbA hb1' hb1 hx1 hx2 HL0 HQ0 HZ0
  have q0 := HQ1.out.cell 0
  have q1 := HQ1.out.cell 1
  have q2 := HQ1.out.cell 2
  have q3 := HQ1.out.cell 3
  have z0 := HZ1.out.cell 0
  have z1 := HZ1.out.cell 1
  simp at q0 q1 q2 q3 z0 z1
  go_upto_region 2 with fail
  generalize w1.alloc (.cells #[.slice (some ⟨y1, 0, none⟩) os.length os.length, .slice (some ⟨y2, 0, none⟩) ns.length ns.length] 35) = wa at *
  generalize w1.heap.size = P1 at *
  go_wp2_with fail
  refine (stepValid_ln i' nA' gA' oA' sA iA nc' gc' oc' sl il sc ic ns' gs' os' st ins _ HSL.out HIL.out ((HD.out.below HL1.out).mono HL1.out.size) (HS.out.on HL1.out) (HI.out.on HL1.out) HV'.out).mono ?_
  rintro e w2 ⟨u1, u2, rfl, hu1, hu2, hx1, hx2, hb2⟩
  have hbA : Below w2.heap.size w2 (w2.alloc (.cells #[.slice (some ⟨u1, 0, none⟩) os'.length os'.length, .slice (some ⟨u2, 0, none⟩) ns'.length ns'.length] 35)) := (Below.refl _ _).alloc (Nat.le_refl _) _
  have hb2' := hb2.trans (hbA.mono hb2.size)
  have HL2 := Lib.hid (HL1.out.trans (hb2'.mono HL1.out.size))
  have HP2 := Lib.hid (HP1.out.below hb2' HP1.out.lt)
  have HY1b := Lib.hid (HY1.out.on hb2').bools
  have HY2b := Lib.hid (HY2.out.on hb2').bools
  have HU1 := Lib.hid (hx1.on hbA).bools
  have HU2 := Lib.hid (hx2.on hbA).bools
  have HS2 := Lib.hid (show Row (w2.alloc (.cells #[.slice (some ⟨u1, 0, none⟩) os'.length os'.length, .slice (some ⟨u2, 0, none⟩) ns'.length ns'.length] 35)) w2.heap.size 35 #[.slice (some ⟨u1, 0, none⟩) os'.length os'.length, .slice (some ⟨u2, 0, none⟩) ns'.length ns'.length] from heap_alloc_new w2 _)
  clear hbA hb2' hb2 hx1 hx2 HL1 HQ1 HZ1 HP1 HY1 HY2 q0 q1 q2 q3 z0 z1
  go_upto_region 3 with fail
  generalize w2.alloc (.cells #[.slice (some ⟨u1, 0, none⟩) os'.length os'.length, .slice (some ⟨u2, 0, none⟩) ns'.length ns'.length] 35) = wb at *
  generalize w2.heap.size = P2 at *
  have p0 := HP2.out.cell 0
  have p1 := HP2.out.cell 1
  have s0 := HS2.out.cell 0
  have s1 := HS2.out.cell 1
  simp at p0 p1 s0 s1
  go_wp2_with fail
  refine (eqSl_len (some ⟨y1, 0, none⟩) (some ⟨u1, 0, none⟩) os.length os'.length _ _ (Circ.litsV (Circ.valsOf gs st ins) os) (Circ.litsV (Circ.valsOf gs' st ins) os') _ (by simp [Circ.litsV]) (by simp [Circ.litsV]) HY1b.out HU1.out (by omega) (by omega)).mono ?_
  rintro e w3 ⟨he, hb3⟩
  have he1 : (Circ.litsV (Circ.valsOf gs st ins) os == Circ.litsV (Circ.valsOf gs' st ins) os') = b1 := HB1.out
  rw [he1] at he
  subst he
  have HL3 := Lib.hid (HL2.out.trans (hb3.mono HL2.out.size))
  have p1' := (HP2.out.below hb3 HP2.out.lt).cell 1
  have s1' := (HS2.out.below hb3 HS2.out.lt).cell 1
  simp at p1' s1'
  have HY3 := Lib.hid (HY2b.out.on hb3)
  have HU3 := Lib.hid (HU2.out.on hb3)
  clear he1 hb3 p0 p1 s0 s1 HL2 HP2 HS2 HY1b HU1
  cases b1
  · go_wp2
    go_ret
    exact ⟨rfl, HL3.out⟩
  · go_wp2_with fail
    refine (eqSl_len (some ⟨y2, 0, none⟩) (some ⟨u2, 0, none⟩) ns.length ns'.length _ _ (Circ.litsV (Circ.valsOf gs st ins) ns) (Circ.litsV (Circ.valsOf gs' st ins) ns') _ (by simp [Circ.litsV]) (by simp [Circ.litsV]) HY3.out HU3.out (by omega) (by omega)).mono ?_
    rintro e w4 ⟨he, hb4⟩
    have he2 : (Circ.litsV (Circ.valsOf gs st ins) ns == Circ.litsV (Circ.valsOf gs' st ins) ns') = b2 := HB2.out
    rw [he2] at he
    subst he
    have HL4 := Lib.hid (HL3.out.trans (hb4.mono HL3.out.size))
    clear he2 hb4 p1' s1'
    go_wp2
    go_ret
    exact ⟨by cases b2 <;> rfl, HL4.out⟩
end Go.Proofs.Ythpiddpkcmecfaa
