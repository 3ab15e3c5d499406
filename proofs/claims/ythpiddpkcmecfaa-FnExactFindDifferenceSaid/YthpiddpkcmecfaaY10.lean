/- The contracts of the assignment with a number, and of the comparison of two circuits at an assignment. -/
import Derived.Test.YthpiddpkcmecfaaY2
import Derived.Test.YthpiddpkcmecfaaB9
import Derived.Deep.DeepCutAuto
import Derived.Deep.CutBlock
import Derived.Test.YthpiddpkcmecfaaRG
import Derived.RangeFuncNested
import Derived.RangeFuncBound
import Derived.RangeFuncCalls
import Derived.RangeFuncLeaves
import Derived.Shelf.Abstract
import Derived.Shelf.RegionOpen
import Derived.WalkKit
import Derived.OwnWalkIn
import Derived.TacticsInMore
import Derived.LoopNIn
import Derived.LoopIn
import Derived.Test.YthpiddpkcmecfaaQB
namespace Go.Proofs.Ythpiddpkcmecfaa
open Go.RowKit Go.Deep
set_option maxRecDepth 100000

theorem eqSl_len (A A' : Option Addr) (n n' cap cap' : Nat) (xs ys : List Bool) (w : World) (hn : xs.length = n) (hn' : ys.length = n') (hx : BoolsAt w w.heap.size A xs) (hy : BoolsAt w w.heap.size A' ys) (hl : n ≤ 2000000) (hl' : n' ≤ 2000000) :
    Calls Try.prog 100 #[.slice A n cap, .slice A' n' cap'] w fun e w' => e = .returned (.bool (xs == ys)) ∧ Below w.heap.size w w' := by
  subst hn hn'
  exact eqSl_any A A' cap cap' xs ys w hx hy hl hl'

theorem digits_ex (x n : Nat) (w : World) (hx : x < 1000000) (hn : n ≤ 60) :
    Calls Try.prog 112 #[.int .i64 (x : Int), .int .i64 (n : Int)] w fun e w' => ∃ z : Nat, e = .returned (.slice (some ⟨z, 0, none⟩) n n) ∧ w.heap.size ≤ z ∧ z < w'.heap.size ∧ Below w.heap.size w w' ∧ BRow w' z (Circ.bitsN x n) :=
  (digits_any x n w hx hn).mono fun _ _ ⟨he, hb, hr⟩ => ⟨w.heap.size, he, Nat.le_refl _, hr.lt, hb, hr⟩

def AsgOut (w : World) (st ins : List Bool) (sl il : Nat) (e : Ending) (w' : World) : Prop :=
  ∃ z1 z2 : Nat, e = .returned (.agg #[.slice (some ⟨z1, 0, none⟩) sl sl, .slice (some ⟨z2, 0, none⟩) il il]) ∧ w.heap.size ≤ z1 ∧ z1 < z2 ∧ BRow w' z1 st ∧ BRow w' z2 ins ∧ Below w.heap.size w w'

set_option maxHeartbeats 1000000 in
theorem assignOf_any (m x : Nat) (nA gA oA : Option Addr) (nl gl ol nc gc oc : Nat) (w : World) (hx : x < 1000000) (hm : m ≤ 60) (hnl : nl ≤ 60) :
    Calls Try.prog 99 #[.agg #[.int .i64 (m : Int), .slice nA nl nc, .slice gA gl gc, .slice oA ol oc], .int .i64 (x : Int)] w (AsgOut w (Circ.bitsN (x / 2 ^ m) nl) (Circ.bitsN x m) nl m) := by
  obtain ⟨kd, hkd, hkd1, HKD⟩ : ∃ kd : Nat, (x : Int) / 2 ^ m = (kd : Int) ∧ kd ≤ x ∧ Hid (x / 2 ^ m = kd) := ⟨x / 2 ^ m, shr_nat x m, Nat.div_le_self _ _, Lib.hid rfl⟩
  rw [HKD.out]
  have hkd0 : (0 : Int) ≤ (x : Int) / 2 ^ m := by omega
  have hbw : Below w.heap.size w ((w.alloc (.cells #[.int .i64 (m : Int), .slice nA nl nc, .slice gA gl gc, .slice oA ol oc] 26)).alloc (.cells #[.slice none 0 0, .slice none 0 0] 80)) := ((Below.refl _ _).alloc (Nat.le_refl _) _).alloc (by simp) _
  have r0 : Row ((w.alloc (.cells #[.int .i64 (m : Int), .slice nA nl nc, .slice gA gl gc, .slice oA ol oc] 26)).alloc (.cells #[.slice none 0 0, .slice none 0 0] 80)) w.heap.size 26 #[.int .i64 (m : Int), .slice nA nl nc, .slice gA gl gc, .slice oA ol oc] := (Below.heap_alloc _ _ _ (by simp)).trans (heap_alloc_new w _)
  have r1 : Row ((w.alloc (.cells #[.int .i64 (m : Int), .slice nA nl nc, .slice gA gl gc, .slice oA ol oc] 26)).alloc (.cells #[.slice none 0 0, .slice none 0 0] 80)) (w.heap.size + 1) 80 #[.slice none 0 0, .slice none 0 0] := by
    have h := heap_alloc_new (w.alloc (.cells #[.int .i64 (m : Int), .slice nA nl nc, .slice gA gl gc, .slice oA ol oc] 26)) (.cells #[.slice none 0 0, .slice none 0 0] 80)
    simpa [Row] using h
  have HL1 := Lib.hid hbw
  have HR1 := Lib.hid r0
  have HQ1 := Lib.hid r1
  clear hbw r0 r1
  go_enter Try.func99, Try.ntmps99
  go_wp2_with fail
  generalize (w.alloc (.cells #[.int .i64 (m : Int), .slice nA nl nc, .slice gA gl gc, .slice oA ol oc] 26)).alloc (.cells #[.slice none 0 0, .slice none 0 0] 80) = w1 at *
  have q0 := HR1.out.cell 0
  have q1 := HR1.out.cell 1
  have p0 := HQ1.out.cell 0
  have p1 := HQ1.out.cell 1
  have f0 := HQ1.out.frozen 0
  have f1 := HQ1.out.frozen 1
  simp at q0 q1 p0 p1
  have hqz := HQ1.out.lt
  go_region_held3 (fun w' => w'.cell? ⟨w.heap.size, 0, none⟩ = some (.int .i64 (m : Int)) ∧ w'.cell? ⟨w.heap.size, 1, none⟩ = some (.slice nA nl nc))
    (first | go_keep | (have _t := hb4; refine ⟨?_, ?_⟩; (exact (hc4 _ _ (by omega)).trans ((hc3 _ _ (by simp; omega)).trans q0)); (exact (hc4 _ _ (by omega)).trans ((hc3 _ _ (by simp; omega)).trans q1))) | (have _t := hb3; refine ⟨?_, ?_⟩; (exact (hc3 _ _ (by simp; omega)).trans q0); (exact (hc3 _ _ (by simp; omega)).trans q1)))
    (first
      | (go_at_call 112; have _t := hb3; refine (digits_ex x m _ ?_ ?_).mono ?_; (exact hx); (exact hm); rintro e w4 ⟨z2, rfl, hz2, hz2w, hb4, hx4⟩; obtain ⟨hc4, hf4⟩ := bcell hb4; have s0 := (hc4 (w.heap.size + 1) 0 (by omega)).trans ((hc3 _ _ (by simp; omega)).trans p0); have s1 := (hc4 (w.heap.size + 1) 1 (by omega)).trans ((hc3 _ _ (by simp; omega)).trans p1); have t0 := (hf4 (w.heap.size + 1) 0 (by omega)).trans ((hf3 _ _ (by simp; omega)).trans f0); have t1 := (hf4 (w.heap.size + 1) 1 (by omega)).trans ((hf3 _ _ (by simp; omega)).trans f1))
      | (go_at_call 112; refine (digits_ex kd nl _ ?_ ?_).mono ?_; (omega); (exact hnl); rintro e w3 ⟨z1, rfl, hz1, hz1w, hb3, hx3⟩; obtain ⟨hc3, hf3⟩ := bcell hb3; have hz3 : w1.heap.size ≤ w3.heap.size := hb3.size))
  have hbd : Below w1.heap.size w1 w3 := (Below.refl _ w1).drew.trans hb3
  have hz34 : w3.heap.size ≤ w4.heap.size := hb4.size
  have hz1' : w1.heap.size ≤ z1 := hz1
  have X3 := Lib.hid (hx3.on hb4)
  have X4 := Lib.hid hx4
  have HL4 := Lib.hid ((HL1.out.trans (hbd.mono HL1.out.size)).trans (hb4.mono (Nat.le_trans HL1.out.size hz3)))
  clear hbd hc3 hf3 hc4 hf4 hx3 hx4 hb3 hb4 q0 q1 p0 p1 f0 f1
  go_wp2
  refine bodyPost_ret (v := .agg #[.slice (some ⟨z1, 0, none⟩) nl nl, .slice (some ⟨z2, 0, none⟩) m m]) (by simp [results, Try.results99, go_sem, s0, s1]) rfl ⟨z1, z2, rfl, by omega, by omega, ?_, ?_, ?_⟩
  · exact (X3.out.far _ _ (by simp; omega)).far _ _ (by simp; omega)
  · exact (X4.out.far _ _ (by simp; omega)).far _ _ (by simp; omega)
  · exact (HL4.out.setCell (by simp) _).setCell (by simp) _

theorem stepValid_ln (i : Int) (nA gA oA sA iA : Option Addr) (nc gc oc sl il sc ic : Nat) (ns : List Int) (gs : List (Int × Int)) (os : List Int) (st ins : List Bool) (w : World) (hsl : st.length = sl) (hil : ins.length = il) (hc : CircAt w w.heap.size nA gA oA ns gs os)
    (hs : BoolsAt w w.heap.size sA st) (hin : BoolsAt w w.heap.size iA ins) (hv : assignB i ns gs os sl il = true) :
    Calls Try.prog 56 #[.agg #[.int .i64 i, .slice nA ns.length nc, .slice gA gs.length gc, .slice oA os.length oc], .slice sA sl sc, .slice iA il ic] w (StepOut w (Circ.valsOf gs st ins) ns os) := by
  subst hsl hil
  exact stepValid_any i nA gA oA sA iA nc gc oc sc ic ns gs os st ins w hc hs hin hv
end Go.Proofs.Ythpiddpkcmecfaa
/- The contract of the comparison of two circuits at an assignment. -/
namespace Go.Proofs.Ythpiddpkcmecfaa
open Go.RowKit Go.Deep
set_option maxRecDepth 100000

set_option maxHeartbeats 2000000 in
theorem differFor_any (i : Int) (nA gA oA : Option Addr) (nc gc oc : Nat) (ns : List Int) (gs : List (Int × Int)) (os : List Int) (i' : Int) (nA' gA' oA' : Option Addr) (nc' gc' oc' : Nat) (ns' : List Int) (gs' : List (Int × Int)) (os' : List Int) (sA iA : Option Addr) (sl il sc ic : Nat) (st ins : List Bool) (w : World)
    (hc : CircAt w w.heap.size nA gA oA ns gs os) (hd : CircAt w w.heap.size nA' gA' oA' ns' gs' os') (hs : BoolsAt w w.heap.size sA st) (hi : BoolsAt w w.heap.size iA ins) (hsl : st.length = sl) (hil : ins.length = il) (hv : assignB i ns gs os sl il = true) (hv' : assignB i' ns' gs' os' sl il = true)
    (b1 b2 : Bool) (hb1 : (Circ.outV gs os st ins == Circ.outV gs' os' st ins) = b1) (hb2 : (Circ.outV gs ns st ins == Circ.outV gs' ns' st ins) = b2) :
    Calls Try.prog 65 #[.agg #[.int .i64 i, .slice nA ns.length nc, .slice gA gs.length gc, .slice oA os.length oc], .agg #[.int .i64 i', .slice nA' ns'.length nc', .slice gA' gs'.length gc', .slice oA' os'.length oc'], .agg #[.slice sA sl sc, .slice iA il ic]] w fun e w' => e = .returned (.bool (!(b1 && b2))) ∧ Below w.heap.size w w' := by
  have HC := Lib.hid hc
  have HD := Lib.hid hd
  have HS := Lib.hid hs
  have HI := Lib.hid hi
  have HSL := Lib.hid hsl
  have HIL := Lib.hid hil
  have HV := Lib.hid hv
  have HV' := Lib.hid hv'
  have HB1 := Lib.hid hb1
  have HB2 := Lib.hid hb2
  obtain ⟨a0, a1, a2, a3, a4⟩ := Circ.valid_within (assign_inv hv).1
  obtain ⟨d0, d1, d2, d3, d4⟩ := Circ.valid_within (assign_inv hv').1
  clear hc hd hs hi hsl hil hv hv' hb1 hb2
  have hb0 : Below w.heap.size w (((w.alloc (.cells #[.int .i64 i, .slice nA ns.length nc, .slice gA gs.length gc, .slice oA os.length oc] 26)).alloc (.cells #[.int .i64 i', .slice nA' ns'.length nc', .slice gA' gs'.length gc', .slice oA' os'.length oc'] 26)).alloc (.cells #[.slice sA sl sc, .slice iA il ic] 80)) := (((Below.refl _ _).alloc (Nat.le_refl _) _).alloc (by simp) _).alloc (by simp; omega) _
  have r2 : Row (((w.alloc (.cells #[.int .i64 i, .slice nA ns.length nc, .slice gA gs.length gc, .slice oA os.length oc] 26)).alloc (.cells #[.int .i64 i', .slice nA' ns'.length nc', .slice gA' gs'.length gc', .slice oA' os'.length oc'] 26)).alloc (.cells #[.slice sA sl sc, .slice iA il ic] 80)) (w.heap.size + 1) 26 #[.int .i64 i', .slice nA' ns'.length nc', .slice gA' gs'.length gc', .slice oA' os'.length oc'] := (Below.heap_alloc _ _ _ (by simp)).trans (by
    have := heap_alloc_new (w.alloc (.cells #[.int .i64 i, .slice nA ns.length nc, .slice gA gs.length gc, .slice oA os.length oc] 26)) (.cells #[.int .i64 i', .slice nA' ns'.length nc', .slice gA' gs'.length gc', .slice oA' os'.length oc'] 26)
    simpa using this)
  have r3 : Row (((w.alloc (.cells #[.int .i64 i, .slice nA ns.length nc, .slice gA gs.length gc, .slice oA os.length oc] 26)).alloc (.cells #[.int .i64 i', .slice nA' ns'.length nc', .slice gA' gs'.length gc', .slice oA' os'.length oc'] 26)).alloc (.cells #[.slice sA sl sc, .slice iA il ic] 80)) (w.heap.size + 1 + 1) 80 #[.slice sA sl sc, .slice iA il ic] := by
    have := heap_alloc_new ((w.alloc (.cells #[.int .i64 i, .slice nA ns.length nc, .slice gA gs.length gc, .slice oA os.length oc] 26)).alloc (.cells #[.int .i64 i', .slice nA' ns'.length nc', .slice gA' gs'.length gc', .slice oA' os'.length oc'] 26)) (.cells #[.slice sA sl sc, .slice iA il ic] 80)
    simpa [Row] using this
  have HL0 := Lib.hid hb0
  have HQ0 := Lib.hid r2
  have HZ0 := Lib.hid r3
  clear hb0 r2 r3
  go_enter Try.func65, Try.ntmps65
  go_wp2_with fail
  refine (stepValid_ln i nA gA oA sA iA nc gc oc sl il sc ic ns gs os st ins _ HSL.out HIL.out ((HC.out.below HL0.out).mono HL0.out.size) (HS.out.on HL0.out) (HI.out.on HL0.out) HV.out).mono ?_
  rintro e w1 ⟨y1, y2, rfl, hy1, hy2, hx1, hx2, hb1⟩
  have hbA : Below w1.heap.size w1 (w1.alloc (.cells #[.slice (some ⟨y1, 0, none⟩) os.length os.length, .slice (some ⟨y2, 0, none⟩) ns.length ns.length] 35)) := (Below.refl _ _).alloc (Nat.le_refl _) _
  have hb1' := hb1.trans (hbA.mono hb1.size)
  have HL1 := Lib.hid (HL0.out.trans (hb1'.mono HL0.out.size))
  have HQ1 := Lib.hid (HQ0.out.below hb1' HQ0.out.lt)
  have HZ1 := Lib.hid (HZ0.out.below hb1' HZ0.out.lt)
  have HY1 := Lib.hid (hx1.on hbA)
  have HY2 := Lib.hid (hx2.on hbA)
  have HP1 := Lib.hid (show Row (w1.alloc (.cells #[.slice (some ⟨y1, 0, none⟩) os.length os.length, .slice (some ⟨y2, 0, none⟩) ns.length ns.length] 35)) w1.heap.size 35 #[.slice (some ⟨y1, 0, none⟩) os.length os.length, .slice (some ⟨y2, 0, none⟩) ns.length ns.length] from heap_alloc_new w1 _)
  clear hbA hb1' hb1 hx1 hx2 HL0 HQ0 HZ0
  have q0 := HQ1.out.cell 0
  have q1 := HQ1.out.cell 1
  have q2 := HQ1.out.cell 2
  have q3 := HQ1.out.cell 3
  have z0 := HZ1.out.cell 0
  have z1 := HZ1.out.cell 1
  simp at q0 q1 q2 q3 z0 z1
  go_upto_region 2 with fail
  generalize w1.alloc (.cells #[.slice (some ⟨y1, 0, none⟩) os.length os.length, .slice (some ⟨y2, 0, none⟩) ns.length ns.length] 35) = wa at *
  generalize w1.heap.size = P1 at *
  go_wp2_with fail
  refine (stepValid_ln i' nA' gA' oA' sA iA nc' gc' oc' sl il sc ic ns' gs' os' st ins _ HSL.out HIL.out ((HD.out.below HL1.out).mono HL1.out.size) (HS.out.on HL1.out) (HI.out.on HL1.out) HV'.out).mono ?_
  rintro e w2 ⟨u1, u2, rfl, hu1, hu2, hx1, hx2, hb2⟩
  have hbA : Below w2.heap.size w2 (w2.alloc (.cells #[.slice (some ⟨u1, 0, none⟩) os'.length os'.length, .slice (some ⟨u2, 0, none⟩) ns'.length ns'.length] 35)) := (Below.refl _ _).alloc (Nat.le_refl _) _
  have hb2' := hb2.trans (hbA.mono hb2.size)
  have HL2 := Lib.hid (HL1.out.trans (hb2'.mono HL1.out.size))
  have HP2 := Lib.hid (HP1.out.below hb2' HP1.out.lt)
  have HY1b := Lib.hid (HY1.out.on hb2').bools
  have HY2b := Lib.hid (HY2.out.on hb2').bools
  have HU1 := Lib.hid (hx1.on hbA).bools
  have HU2 := Lib.hid (hx2.on hbA).bools
  have HS2 := Lib.hid (show Row (w2.alloc (.cells #[.slice (some ⟨u1, 0, none⟩) os'.length os'.length, .slice (some ⟨u2, 0, none⟩) ns'.length ns'.length] 35)) w2.heap.size 35 #[.slice (some ⟨u1, 0, none⟩) os'.length os'.length, .slice (some ⟨u2, 0, none⟩) ns'.length ns'.length] from heap_alloc_new w2 _)
  clear hbA hb2' hb2 hx1 hx2 HL1 HQ1 HZ1 HP1 HY1 HY2 q0 q1 q2 q3 z0 z1
  go_upto_region 3 with fail
  generalize w2.alloc (.cells #[.slice (some ⟨u1, 0, none⟩) os'.length os'.length, .slice (some ⟨u2, 0, none⟩) ns'.length ns'.length] 35) = wb at *
  generalize w2.heap.size = P2 at *
  have p0 := HP2.out.cell 0
  have p1 := HP2.out.cell 1
  have s0 := HS2.out.cell 0
  have s1 := HS2.out.cell 1
  simp at p0 p1 s0 s1
  go_wp2_with fail
  refine (eqSl_len (some ⟨y1, 0, none⟩) (some ⟨u1, 0, none⟩) os.length os'.length _ _ (Circ.litsV (Circ.valsOf gs st ins) os) (Circ.litsV (Circ.valsOf gs' st ins) os') _ (by simp [Circ.litsV]) (by simp [Circ.litsV]) HY1b.out HU1.out (by omega) (by omega)).mono ?_
  rintro e w3 ⟨he, hb3⟩
  have he1 : (Circ.litsV (Circ.valsOf gs st ins) os == Circ.litsV (Circ.valsOf gs' st ins) os') = b1 := HB1.out
  rw [he1] at he
  subst he
  have HL3 := Lib.hid (HL2.out.trans (hb3.mono HL2.out.size))
  have p1' := (HP2.out.below hb3 HP2.out.lt).cell 1
  have s1' := (HS2.out.below hb3 HS2.out.lt).cell 1
  simp at p1' s1'
  have HY3 := Lib.hid (HY2b.out.on hb3)
  have HU3 := Lib.hid (HU2.out.on hb3)
  clear he1 hb3 p0 p1 s0 s1 HL2 HP2 HS2 HY1b HU1
  cases b1
  · go_wp2
    go_ret
    exact ⟨rfl, HL3.out⟩
  · go_wp2_with fail
    refine (eqSl_len (some ⟨y2, 0, none⟩) (some ⟨u2, 0, none⟩) ns.length ns'.length _ _ (Circ.litsV (Circ.valsOf gs st ins) ns) (Circ.litsV (Circ.valsOf gs' st ins) ns') _ (by simp [Circ.litsV]) (by simp [Circ.litsV]) HY3.out HU3.out (by omega) (by omega)).mono ?_
    rintro e w4 ⟨he, hb4⟩
    have he2 : (Circ.litsV (Circ.valsOf gs st ins) ns == Circ.litsV (Circ.valsOf gs' st ins) ns') = b2 := HB2.out
    rw [he2] at he
    subst he
    have HL4 := Lib.hid (HL3.out.trans (hb4.mono HL3.out.size))
    clear he2 hb4 p1' s1'
    go_wp2
    go_ret
    exact ⟨by cases b2 <;> rfl, HL4.out⟩
end Go.Proofs.Ythpiddpkcmecfaa
/- The contract of the sequence of all assignments of a circuit. -/
namespace Go.Proofs.Ythpiddpkcmecfaa
open Go.RowKit Go.Shelf
attribute [local go_sem] Oper.semAt_some

theorem gb_below {w w' : World} (hb : Below w.heap.size w w') : w.grownBy w' none := ⟨hb.os, hb.tape, hb.output, hb.size, fun k hk _ => hb.block k hk⟩
theorem keeps_below {w w' : World} (hb : Below w.heap.size w w') : KeepsOthers w w' := ⟨hb.size, fun k _ hk _ => (hb.block k (Array.getElem?_eq_some_iff.1 hk).1).trans hk⟩
/-- The value that is handed over: the state and the inputs. -/
def asgV (nl m : Nat) (x : Nat × Nat) : Array Value := #[.agg #[.slice (some ⟨x.1, 0, none⟩) nl nl, .slice (some ⟨x.2, 0, none⟩) m m]]
/-- What is known of it. -/
structure AsgGd (D m nl : Nat) (pre : List (Nat × Nat)) (x : Nat × Nat) (V : World) : Prop where
  lt : pre.length < 2 ^ (m + nl)
  d1 : D ≤ x.1
  d2 : D ≤ x.2
  ne : x.1 ≠ x.2
  st : BRow V x.1 (Circ.bitsN (pre.length / 2 ^ m) nl)
  ins : BRow V x.2 (Circ.bitsN pre.length m)

set_option maxRecDepth 100000 in
set_option maxHeartbeats 2000000 in
theorem asgSeq (n : Nat) (Bn n₀ m : Nat) (nA gA oA : Option Addr) (nl gl ol nc gc oc : Nat) (w : World) (hrow : Row w Bn 26 #[.int .i64 (m : Int), .slice nA nl nc, .slice gA gl gc, .slice oA ol oc]) (hBn : Bn < n₀) (_hn₀ : n₀ ≤ w.heap.size) (hm : m ≤ 4) (hnl : nl ≤ 3) :
    SeqGiven Fence.wide n Try.prog 98 #[.pointer (some ⟨Bn, 0, none⟩)] (asgV nl m) (Below n₀) (AsgGd w.heap.size m nl) (fun xs => xs.length = 2 ^ (m + nl)) (fun _ => True) w := fun l J Jx W hW hJ hJx hY h0 => by
  have HR0 := Lib.hid (hrow.below hW hrow.lt)
  have HZ0 := hW.size
  clear hW hrow
  obtain ⟨N, HNE, hN, hN1⟩ : ∃ N : Nat, Hid (N = 2 ^ (m + nl)) ∧ wrap64 (2 ^ (m + nl)) = (N : Int) ∧ N ≤ 128 := by
    have h128 : 2 ^ (m + nl) ≤ 2 ^ 7 := Nat.pow_le_pow_right (by decide) (by omega)
    have e : ((2 : Int) ^ (m + nl)) = ((2 ^ (m + nl) : Nat) : Int) := by simp
    refine ⟨2 ^ (m + nl), Lib.hid rfl, ?_, by simpa using h128⟩
    rw [e]
    have key : ∀ N : Nat, N ≤ 128 → wrap64 (N : Int) = N := fun N h => IntWalk.wrap64_in _ (by omega)
    exact key _ (by simpa using h128)
  have q0 := HR0.out.cell 0
  have q1 := HR0.out.cell 1
  simp at q0 q1
  refine callsIn_of_wp Try.func98 rfl trivial ?_ rfl
  simp only [Try.ntmps98, List.size_toArray, List.length_cons, List.length_nil, Nat.reduceAdd, Nat.reduceSub, Array.replicate_succ, Array.replicate_zero, List.push_toArray, List.append_toArray, List.nil_append, List.cons_append]
  gi_wp2
  simp only [hN]
  clear hN
  gi_loopw [11] (fun kv wr => ∃ (pre : List (Nat × Nat)), pre.length ≤ N ∧ kv = .int .i64 (pre.length : Int) ∧ Hid (Row wr Bn 26 #[.int .i64 (m : Int), .slice nA nl nc, .slice gA gl gc, .slice oA ol oc]) ∧ w.heap.size ≤ wr.heap.size ∧ Hid (W.heap.size ≤ wr.heap.size) ∧ J pre wr) (fun kv _ => ((N : Int) - intOf kv).toNat)
  case atStart => exact ⟨[], Nat.zero_le _, rfl, HR0, HZ0, Lib.hid (Nat.le_refl _), h0⟩
  case round =>
    clear HR0 q0 q1 h0 HZ0
    obtain ⟨pre, hk, rfl, HR, hz, HW, hJp⟩ := hrel
    by_cases hlt : pre.length < N
    · have q0 := HR.out.cell 0
      have q1 := HR.out.cell 1
      have q2 := HR.out.cell 2
      have q3 := HR.out.cell 3
      simp at q0 q1 q2 q3
      gi_wp2_with fail
      refine ⟨trivial, (fun h => by cases h), (callsIn_wide.2 (assignOf_any m pre.length nA gA oA nl gl ol nc gc oc _ (by omega) (by omega) (by omega))).mono ?_⟩
      rintro e w1 ⟨z1, z2, rfl, hz1, hz2, hx1, hx2, hb1⟩
      obtain ⟨fn, tmps, assign, body, hy, hR⟩ := hY pre (z1, z2) w1 (hJ pre _ _ none hJp (gb_below hb1) (fun r e => by cases e)) ⟨by rw [← HNE.out]; exact hlt, by show _ ≤ z1; omega, by show _ ≤ z2; omega, by show z1 ≠ z2; omega, hx1, hx2⟩
      dsimp only [asgV] at hy
      gi_wp2
      refine ⟨(fun h => by cases h), hR.mono ?_⟩
      rintro e W3 (⟨rfl, hJ3, hk3⟩ | ⟨rfl, hJx3⟩)
      · have HR3 := Lib.hid ((HR.out.below hb1 HR.out.lt).below hk3 hBn)
        have hz3 : wr.heap.size ≤ W3.heap.size := Nat.le_trans hb1.size hk3.size
        clear hx1 hx2 hb1 hk3 hR hy q0 q1 q2 q3 hJp
        gi_wp2
        go_roundw
        case rel => exact ⟨pre ++ [(z1, z2)], by simp; omega, by simp, HR3, by omega, Lib.hid (Nat.le_trans HW.out hz3), hJ3⟩
        case measure => simp [intOf]; omega
      · clear hx1 hx2 hb1 hR hy q0 q1 q2 q3 hJp
        gi_wp2
        refine bodyPost_ret (results_none rfl _ _ _) rfl ?_
        exact ⟨⟨_, rfl⟩, .inr ⟨_, trivial, hJx3⟩⟩
    · gi_wp2
      go_end0
      exact ⟨⟨_, rfl⟩, .inl ⟨pre, by rw [← HNE.out]; omega, hJp⟩⟩
end Go.Proofs.Ythpiddpkcmecfaa
/- The contract of FindDifference of the program. -/
namespace Go.Proofs.Ythpiddpkcmecfaa
open Go.RowKit Go.Shelf

set_option maxHeartbeats 400000 in
theorem assignments_any (a0 a1 a2 a3 : Value) (w : World) :
    Calls Try.prog 64 #[.agg #[a0, a1, a2, a3]] w fun e w' => e = .returned (.func (.func 98) #[] #[.pointer (some ⟨w.heap.size, 0, none⟩)]) ∧ w.alloc (.cells #[a0, a1, a2, a3] 26) = w' := by
  go_enter Try.func64, Try.ntmps64
  go_wp2
  go_ret
  exact ⟨rfl, rfl⟩

def FDOutI (w : World) (fd : Bool × List Bool × List Bool) (e : Ending) (w' : World) : Prop :=
  ∃ (A1 A2 : Option Addr), e = .returned (.agg #[.bool fd.1, .slice A1 fd.2.1.length fd.2.1.length, .slice A2 fd.2.2.length fd.2.2.length]) ∧ BPair w' w.heap.size A1 A2 fd.2.1 fd.2.2 ∧ Below w.heap.size w w'

/-- What lies in cells lies so behind a turn of what is no cells. -/
theorem Row.turn {W W' : World} {B b : Nat} {t : TypeId} {cs : Array Value} {row : Option Nat} (h : Row W b t cs) (hg : W.grownBy W' row) (hr : ∀ r, row = some r → B ≤ r ∧ ∃ o : Obj, W.heap[r]? = some o ∧ o.isCells = false) : Row W' b t cs :=
  h.grown hg (fun e => by
    obtain ⟨_, o, ho, hc⟩ := hr b e.symm
    have h' := h
    unfold Row at h'
    rw [h'] at ho
    cases ho
    cases hc)
theorem BRow.turn {W W' : World} {B b : Nat} {xs : List Bool} {row : Option Nat} (h : BRow W b xs) (hg : W.grownBy W' row) (hr : ∀ r, row = some r → B ≤ r ∧ ∃ o : Obj, W.heap[r]? = some o ∧ o.isCells = false) : BRow W' b xs := by
  obtain ⟨cs, h1, h2⟩ := h
  exact ⟨cs, h1.turn hg hr, h2⟩
theorem AsgGd.on {D m nl : Nat} {pre : List (Nat × Nat)} {x : Nat × Nat} {V V' : World} (h : AsgGd D m nl pre x V) (hb : Below V.heap.size V V') : AsgGd D m nl pre x V' := ⟨h.lt, h.d1, h.d2, h.ne, h.st.on hb, h.ins.on hb⟩
theorem AsgGd.turn {D m nl B : Nat} {pre : List (Nat × Nat)} {x : Nat × Nat} {W W' : World} {row : Option Nat} (h : AsgGd D m nl pre x W) (hg : W.grownBy W' row) (hr : ∀ r, row = some r → B ≤ r ∧ ∃ o : Obj, W.heap[r]? = some o ∧ o.isCells = false) : AsgGd D m nl pre x W' := ⟨h.lt, h.d1, h.d2, h.ne, h.st.turn hg hr, h.ins.turn hg hr⟩
/-- The counterexample lies in the result. -/
structure Found (w : World) (P lo m nl : Nat) (d : Nat → Bool) (k : Nat) (x : Nat × Nat) (W : World) : Prop where
  lt : k < 2 ^ (m + nl)
  no : ∀ y, y < k → d y = false
  yes : d k = true
  row : Row W P 50 #[.bool true, .slice (some ⟨x.1, 0, none⟩) nl nl, .slice (some ⟨x.2, 0, none⟩) m m]
  d1 : lo ≤ x.1
  d2 : lo ≤ x.2
  ne : x.1 ≠ x.2
  st : BRow W x.1 (Circ.bitsN (k / 2 ^ m) nl)
  ins : BRow W x.2 (Circ.bitsN k m)
  bel : Below w.heap.size w W
theorem Found.turn {w : World} {P lo m nl B : Nat} {d : Nat → Bool} {k : Nat} {x : Nat × Nat} {W W' : World} {row : Option Nat} (h : Found w P lo m nl d k x W) (hg : W.grownBy W' row) (hB : w.heap.size ≤ B) (hr : ∀ r, row = some r → B ≤ r ∧ ∃ o : Obj, W.heap[r]? = some o ∧ o.isCells = false) : Found w P lo m nl d k x W' :=
  ⟨h.lt, h.no, h.yes, h.row.turn hg hr, h.d1, h.d2, h.ne, h.st.turn hg hr, h.ins.turn hg hr, h.bel.grown hg h.bel.size (fun r e => Nat.le_trans hB (hr r e).1)⟩

attribute [local go_sem] Oper.semAt_some
set_option maxRecDepth 100000 in
set_option maxHeartbeats 4000000 in
theorem find_any (i : Int) (nA gA oA : Option Addr) (nc gc oc : Nat) (ns : List Int) (gs : List (Int × Int)) (os : List Int) (i' : Int) (nA' gA' oA' : Option Addr) (nc' gc' oc' : Nat) (ns' : List Int) (gs' : List (Int × Int)) (os' : List Int) (w : World) (hc : CircAt w w.heap.size nA gA oA ns gs os) (hd : CircAt w w.heap.size nA' gA' oA' ns' gs' os') :
    Calls Try.prog 32 #[.agg #[.int .i64 i, .slice nA ns.length nc, .slice gA gs.length gc, .slice oA os.length oc], .agg #[.int .i64 i', .slice nA' ns'.length nc', .slice gA' gs'.length gc', .slice oA' os'.length oc']] w (FDOutI w (Circ.fdV i ns gs os i' ns' gs' os')) := by
  have HC := Lib.hid hc
  have HD := Lib.hid hd
  clear hc hd
  have hb0 : Below w.heap.size w (((w.alloc (.cells #[.int .i64 i, .slice nA ns.length nc, .slice gA gs.length gc, .slice oA os.length oc] 26)).alloc (.cells #[.int .i64 i', .slice nA' ns'.length nc', .slice gA' gs'.length gc', .slice oA' os'.length oc'] 26)).alloc (.cells #[.bool false, .slice none 0 0, .slice none 0 0] 50)) := (((Below.refl _ _).alloc (Nat.le_refl _) _).alloc (by simp) _).alloc (by simp; omega) _
  have r1 : Row (((w.alloc (.cells #[.int .i64 i, .slice nA ns.length nc, .slice gA gs.length gc, .slice oA os.length oc] 26)).alloc (.cells #[.int .i64 i', .slice nA' ns'.length nc', .slice gA' gs'.length gc', .slice oA' os'.length oc'] 26)).alloc (.cells #[.bool false, .slice none 0 0, .slice none 0 0] 50)) w.heap.size 26 #[.int .i64 i, .slice nA ns.length nc, .slice gA gs.length gc, .slice oA os.length oc] := (Below.heap_alloc _ _ _ (by simp; omega)).trans ((Below.heap_alloc _ _ _ (by simp)).trans (heap_alloc_new w _))
  have r2 : Row (((w.alloc (.cells #[.int .i64 i, .slice nA ns.length nc, .slice gA gs.length gc, .slice oA os.length oc] 26)).alloc (.cells #[.int .i64 i', .slice nA' ns'.length nc', .slice gA' gs'.length gc', .slice oA' os'.length oc'] 26)).alloc (.cells #[.bool false, .slice none 0 0, .slice none 0 0] 50)) (w.heap.size + 1) 26 #[.int .i64 i', .slice nA' ns'.length nc', .slice gA' gs'.length gc', .slice oA' os'.length oc'] := (Below.heap_alloc _ _ _ (by simp)).trans (by
    have := heap_alloc_new (w.alloc (.cells #[.int .i64 i, .slice nA ns.length nc, .slice gA gs.length gc, .slice oA os.length oc] 26)) (.cells #[.int .i64 i', .slice nA' ns'.length nc', .slice gA' gs'.length gc', .slice oA' os'.length oc'] 26)
    simpa using this)
  have r3 : Row (((w.alloc (.cells #[.int .i64 i, .slice nA ns.length nc, .slice gA gs.length gc, .slice oA os.length oc] 26)).alloc (.cells #[.int .i64 i', .slice nA' ns'.length nc', .slice gA' gs'.length gc', .slice oA' os'.length oc'] 26)).alloc (.cells #[.bool false, .slice none 0 0, .slice none 0 0] 50)) (w.heap.size + 1 + 1) 50 #[.bool false, .slice none 0 0, .slice none 0 0] := by
    have := heap_alloc_new ((w.alloc (.cells #[.int .i64 i, .slice nA ns.length nc, .slice gA gs.length gc, .slice oA os.length oc] 26)).alloc (.cells #[.int .i64 i', .slice nA' ns'.length nc', .slice gA' gs'.length gc', .slice oA' os'.length oc'] 26)) (.cells #[.bool false, .slice none 0 0, .slice none 0 0] 50)
    simpa [Row] using this
  have HL0 := Lib.hid hb0
  have HR0 := Lib.hid r1
  have HQ0 := Lib.hid r2
  have HZ0 := Lib.hid r3
  clear hb0 r1 r2 r3
  refine (callsIn_wide (n := 3)).1 ?_
  refine callsIn_of_wp_marks Try.func32 rfl trivial ?_ rfl
  simp only [Try.ntmps32, List.size_toArray, List.length_cons, List.length_nil, Nat.reduceAdd, Nat.reduceSub, Array.replicate_succ, Array.replicate_zero, List.push_toArray, List.append_toArray, List.nil_append, List.cons_append]
  gi_wp2_with fail
  refine ⟨trivial, (callsIn_wide.2 (sameIf_any i nA gA oA nc gc oc ns gs os i' nA' gA' oA' nc' gc' oc' ns' gs' os' _ ((HC.out.below HL0.out).mono HL0.out.size) ((HD.out.below HL0.out).mono HL0.out.size))).mono ?_⟩
  rintro e w1 ⟨rfl, hb1⟩
  have HL1 := Lib.hid (HL0.out.trans (hb1.mono HL0.out.size))
  have HR1 := Lib.hid (HR0.out.below hb1 HR0.out.lt)
  have HQ1 := Lib.hid (HQ0.out.below hb1 HQ0.out.lt)
  have HZ1 := Lib.hid (HZ0.out.below hb1 HZ0.out.lt)
  clear hb1 HL0 HR0 HQ0 HZ0
  have z0 := HZ1.out.cell 0
  have z1 := HZ1.out.cell 1
  have z2 := HZ1.out.cell 2
  have y0 := HZ1.out.frozen 0
  have y1 := HZ1.out.frozen 1
  have y2 := HZ1.out.frozen 2
  simp at z0 z1 z2
  cases hs : Circ.sameIf i ns gs os i' ns' gs' os'
  · have HF := Lib.hid (Circ.fdV_f hs)
    clear hs
    gi_wp2
    have hrow := ((HZ1.out.set 0 (.bool false)).set 1 (.slice none 0 0)).set 2 (.slice none 0 0)
    have c0 := hrow.cell 0
    have c1 := hrow.cell 1
    have c2 := hrow.cell 2
    simp at c0 c1 c2
    refine ⟨.agg #[.bool false, .slice none 0 0, .slice none 0 0], by simp [results, Try.results32, go_sem, c0, c1, c2], none, none, by rw [HF.out]; rfl, ?_, ?_⟩
    · rw [HF.out]; exact ⟨.inl ⟨rfl, rfl⟩, .inl ⟨rfl, rfl⟩, fun g e => by cases e⟩
    · exact ((HL1.out.setCell (p := ⟨w.heap.size + 1 + 1, 0, none⟩) (by show w.heap.size ≤ w.heap.size + 1 + 1; omega) _).setCell (p := ⟨w.heap.size + 1 + 1, 1, none⟩) (by show w.heap.size ≤ w.heap.size + 1 + 1; omega) _).setCell (p := ⟨w.heap.size + 1 + 1, 2, none⟩) (by show w.heap.size ≤ w.heap.size + 1 + 1; omega) _
  · obtain ⟨hv, hv', hie, hne, hoe⟩ := Circ.sameIf_inv hs
    have HS := Lib.hid hs
    have HV := Lib.hid hv
    have HV' := Lib.hid hv'
    obtain ⟨hi0, hi4, hn3, hg14, ho3⟩ := Circ.valid_within hv
    subst hie
    obtain ⟨m, rfl⟩ := Int.eq_ofNat_of_zero_le hi0
    have HNE := Lib.hid hne
    have HOE := Lib.hid hoe
    clear hs hv hv' hne hoe
    have q0 := HR1.out.cell 0
    have q1 := HR1.out.cell 1
    have q2 := HR1.out.cell 2
    have q3 := HR1.out.cell 3
    simp at q0 q1 q2 q3
    gi_wp2_with fail
    refine ⟨trivial, (callsIn_wide.2 (assignments_any _ _ _ _ _)).mono ?_⟩
    rintro e w2 ⟨rfl, hw2⟩
    have hb2 : Below w1.heap.size w1 w2 := by rw [← hw2]; exact (Below.refl _ _).alloc (Nat.le_refl _) _
    have HK2 : Hid (Row w2 w1.heap.size 26 #[.int .i64 (m : Int), .slice nA ns.length nc, .slice gA gs.length gc, .slice oA os.length oc]) := Lib.hid (by rw [← hw2]; exact heap_alloc_new w1 _)
    have HL2 := Lib.hid (HL1.out.trans (hb2.mono HL1.out.size))
    have HR2 := Lib.hid (HR1.out.below hb2 HR1.out.lt)
    have HQ2 := Lib.hid (HQ1.out.below hb2 HQ1.out.lt)
    have HZ2 := Lib.hid (HZ1.out.below hb2 HZ1.out.lt)
    have HC2 := Lib.hid ((HC.out.below HL2.out).mono HL2.out.size)
    have HD2 := Lib.hid ((HD.out.below HL2.out).mono HL2.out.size)
    have hPz := HZ2.out.lt
    clear hw2 hb2 HL1 HR1 HQ1 HZ1 q0 q1 q2 q3 z0 z1 z2 y0 y1 y2
    gi_wp2
    generalize w1.heap.size = Bn at *
    obtain ⟨d, hd⟩ : ∃ d, Circ.differB m ns.length ns gs os ns' gs' os' = d := ⟨_, rfl⟩
    have HDD := Lib.hid hd
    clear hd
    refine wpIn_rangeFunc_given rfl (by omega) (gf := 98) (lb := #[.pointer (some ⟨Bn, 0, none⟩)]) rfl trivial (enters_of Try.func98 (by kernel_rfl) rfl)
      (asgSeq _ Bn w2.heap.size m nA gA oA ns.length gs.length os.length nc gc oc w2 HK2.out HK2.out.lt (Nat.le_refl _) (by omega) (by omega)) (Nat.le_refl _) (fun x => rfl)
      (fun pre W => (∀ y, y < pre.length → d y = false) ∧ Below w2.heap.size w2 W)
      (fun _ W => ∃ k x, Found w (w.heap.size + 1 + 1) w2.heap.size m ns.length d k x W)
      (fun s W W' row hs hg hr => ⟨hs.1, hs.2.grown hg hs.2.size (fun k e => (hr k e).1)⟩)
      (fun s W W' row hs hg hr => by
        obtain ⟨k, x, h⟩ := hs
        exact ⟨k, x, h.turn hg HL2.out.size hr⟩)
      ⟨fun y hy => absurd hy (by simp), Below.refl _ _⟩
      (fun pre x a' W => AsgGd w2.heap.size m ns.length pre x W ∧ ∃ Bx, w2.heap.size ≤ Bx ∧ Bx ≠ x.1 ∧ Bx ≠ x.2 ∧ Row W Bx 80 #[.slice (some ⟨x.1, 0, none⟩) ns.length ns.length, .slice (some ⟨x.2, 0, none⟩) m m] ∧
        a' = { tmps := #[.agg #[.int .i64 (m : Int), .slice nA ns.length nc, .slice gA gs.length gc, .slice oA os.length oc], .agg #[.int .i64 (m : Int), .slice nA' ns'.length nc', .slice gA' gs'.length gc', .slice oA' os'.length oc'], .pointer (some ⟨w.heap.size, 0, none⟩), .pointer (some ⟨w.heap.size + 1, 0, none⟩), .pointer (some ⟨w.heap.size + 1 + 1, 0, none⟩), .pointer (some ⟨Bx, 0, none⟩), .agg #[.int .i64 (m : Int), .slice nA ns.length nc, .slice gA gs.length gc, .slice oA os.length oc], .agg #[.int .i64 (m : Int), .slice nA' ns'.length nc', .slice gA' gs'.length gc', .slice oA' os'.length oc'], .bool true, .bool false, undef, .agg #[.int .i64 (m : Int), .slice nA ns.length nc, .slice gA gs.length gc, .slice oA os.length oc], .func (.func 98) #[] #[.pointer (some ⟨Bn, 0, none⟩)], .agg #[.slice (some ⟨x.1, 0, none⟩) ns.length ns.length, .slice (some ⟨x.2, 0, none⟩) m m], undef, undef, undef, undef, undef, undef, undef, undef, undef, undef], defers := [] })
      (fun pre x a' V V' l o h hl ho hc hg => by
        obtain ⟨h1, Bx, h2, h3, h4, h5, h6⟩ := h
        have hr : ∀ r, some l = some r → w2.heap.size ≤ r ∧ ∃ o : Obj, V.heap[r]? = some o ∧ o.isCells = false := fun r e => by cases e; exact ⟨hl, o, ho, hc⟩
        exact ⟨h1.turn hg hr, Bx, h2, h3, h4, h5.turn hg hr, h6⟩) ?assign ?body ?done ?stop
    case assign =>
      rintro l pre x W K ⟨hno, hB⟩ hgd hK
      simp only [asgV]
      gi_wp2
      have hz := hB.size
      have hx1 := hgd.st.lt
      have hx2 := hgd.ins.lt
      exact hK _ _ (KeepsOthers.alloc _ _) ((Below.refl _ W).alloc hB.size _) ⟨hno, hB.alloc hB.size _⟩ ⟨hgd.on ((Below.refl _ W).alloc (Nat.le_refl _) _), W.heap.size, hz, by omega, by omega, heap_alloc_new W _, rfl⟩
    case body =>
      rintro l pre x a' W ⟨hno, hB⟩ ⟨hgd, Bx, hBx, hBx1, hBx2, hrow, rfl⟩
      have hR := HR2.out.below hB HR2.out.lt
      have hQ := HQ2.out.below hB HQ2.out.lt
      have hZ := HZ2.out.below hB HZ2.out.lt
      have q0 := hR.cell 0
      have q1 := hR.cell 1
      have q2 := hR.cell 2
      have q3 := hR.cell 3
      have p0 := hQ.cell 0
      have p1 := hQ.cell 1
      have p2 := hQ.cell 2
      have p3 := hQ.cell 3
      have g0 := hrow.cell 0
      have g1 := hrow.cell 1
      simp at q0 q1 q2 q3 p0 p1 p2 p3 g0 g1
      have HRW := Lib.hid hrow
      have HGD := Lib.hid hgd
      have HB := Lib.hid hB
      have HZZ := Lib.hid hZ
      have HNO := Lib.hid hno
      have hx1 := hgd.d1
      have hx2 := hgd.d2
      have HA1 : Hid (assignB (m : Int) ns gs os ns.length m = true) := Lib.hid (by unfold assignB; rw [HV.out]; simp)
      have HA2 : Hid (assignB (m : Int) ns' gs' os' ns.length m = true) := Lib.hid (by unfold assignB; rw [HV'.out, HNE.out]; simp)
      have HCW := Lib.hid ((HC2.out.below hB).mono hB.size)
      have HDW := Lib.hid ((HD2.out.below hB).mono hB.size)
      clear hrow hgd hR hQ hZ hB hno
      gi_wp2_with fail
      refine ⟨trivial, (CallsIn.inRound l (callsIn_wide.2 (differFor_any (m : Int) nA gA oA nc gc oc ns gs os (m : Int) nA' gA' oA' nc' gc' oc' ns' gs' os' (some ⟨x.1, 0, none⟩) (some ⟨x.2, 0, none⟩) ns.length m ns.length m (Circ.bitsN (pre.length / 2 ^ m) ns.length) (Circ.bitsN pre.length m) W HCW.out HDW.out HGD.out.st.bools HGD.out.ins.bools (Circ.bitsN_len _ _) (Circ.bitsN_len _ _) HA1.out HA2.out _ _ rfl rfl))).mono ?_⟩
      rintro e W3 ⟨he, hb3⟩
      have hdk : (!((Circ.outV gs os (Circ.bitsN (pre.length / 2 ^ m) ns.length) (Circ.bitsN pre.length m) == Circ.outV gs' os' (Circ.bitsN (pre.length / 2 ^ m) ns.length) (Circ.bitsN pre.length m)) && (Circ.outV gs ns (Circ.bitsN (pre.length / 2 ^ m) ns.length) (Circ.bitsN pre.length m) == Circ.outV gs' ns' (Circ.bitsN (pre.length / 2 ^ m) ns.length) (Circ.bitsN pre.length m)))) = d pre.length := by rw [← HDD.out]; rfl
      rw [hdk] at he
      clear hdk
      subst he
      have HB3 := Lib.hid hb3
      have HRW3 := Lib.hid (HRW.out.below hb3 HRW.out.lt)
      have HGD3 := Lib.hid (HGD.out.on hb3)
      have HZ3 := Lib.hid (HZZ.out.below hb3 HZZ.out.lt)
      clear hb3 q0 q1 q2 q3 p0 p1 p2 p3 g0 g1
      cases hdd : d pre.length
      · have HD1 := Lib.hid hdd
        clear hdd
        gi_wp2
        exact ⟨keeps_below HB3.out, HB3.out.mono HB.out.size, fun y hy => by
          rw [List.length_append, List.length_singleton] at hy
          by_cases e : y = pre.length
          · rw [e]; exact HD1.out
          · exact HNO.out y (by omega), HB.out.trans (HB3.out.mono HB.out.size)⟩
      · have HD1 := Lib.hid hdd
        clear hdd
        have g0 := HRW3.out.cell 0
        have g1 := HRW3.out.cell 1
        have z0 := HZ3.out.cell 0
        have z1 := HZ3.out.cell 1
        have z2 := HZ3.out.cell 2
        have y0 := HZ3.out.frozen 0
        have y1 := HZ3.out.frozen 1
        have y2 := HZ3.out.frozen 2
        simp at g0 g1 z0 z1 z2
        gi_wp2
        have hlw := HL2.out.size
        refine ⟨(keeps_below HB3.out).trans (((KeepsOthers.setCell _ _ _).trans (KeepsOthers.setCell _ _ _)).trans (KeepsOthers.setCell _ _ _)), pre.length, x, HGD3.out.lt, HNO.out, HD1.out, ?_, hx1, hx2, HGD3.out.ne, ?_, ?_, ?_⟩
        · have h := ((HZ3.out.set 0 (.bool true)).set 1 (.slice (some ⟨x.1, 0, none⟩) ns.length ns.length)).set 2 (.slice (some ⟨x.2, 0, none⟩) m m)
          simpa using h
        · exact ((HGD3.out.st.far _ _ (by simp; omega)).far _ _ (by simp; omega)).far _ _ (by simp; omega)
        · exact ((HGD3.out.ins.far _ _ (by simp; omega)).far _ _ (by simp; omega)).far _ _ (by simp; omega)
        · have hbb := HL2.out.trans ((HB.out.trans (HB3.out.mono HB.out.size)).mono HL2.out.size)
          exact ((hbb.setCell (p := ⟨w.heap.size + 1 + 1, 0, none⟩) (by show w.heap.size ≤ w.heap.size + 1 + 1; omega) _).setCell (p := ⟨w.heap.size + 1 + 1, 1, none⟩) (by show w.heap.size ≤ w.heap.size + 1 + 1; omega) _).setCell (p := ⟨w.heap.size + 1 + 1, 2, none⟩) (by show w.heap.size ≤ w.heap.size + 1 + 1; omega) _
    case done =>
      rintro D xs W hDz hS ⟨hno, hB⟩ hK
      have hZ := HZ2.out.below hB HZ2.out.lt
      have HZW := Lib.hid hZ
      have z0 := hZ.cell 0
      have z1 := hZ.cell 1
      have z2 := hZ.cell 2
      have y0 := hZ.frozen 0
      have y1 := hZ.frozen 1
      have y2 := hZ.frozen 2
      simp at z0 z1 z2
      have HF : Hid (Circ.fdV (m : Int) ns gs os (m : Int) ns' gs' os' = (false, [], [])) := Lib.hid (Circ.fdV_none (fun y hy => by
        rw [Int.toNat_natCast, HDD.out]
        rw [Int.toNat_natCast] at hy
        exact hno y (by rw [hS]; exact hy)))
      have HBW := Lib.hid (HL2.out.trans (hB.mono HL2.out.size))
      have HKD := Lib.hid hK
      clear hno hB hS hZ hK
      gi_wp2
      have hK' := (((KeepsOthers.setCell W ⟨w.heap.size + 1 + 1, 0, none⟩ (.bool false)).trans (KeepsOthers.setCell _ ⟨w.heap.size + 1 + 1, 1, none⟩ (.slice none 0 0))).trans (KeepsOthers.setCell _ ⟨w.heap.size + 1 + 1, 2, none⟩ (.slice none 0 0))).same D _ HKD.out rfl
      have hrow := ((HZW.out.set 0 (.bool false)).set 1 (.slice none 0 0)).set 2 (.slice none 0 0)
      refine ⟨by simp, .inl ⟨_, _, rfl, run_takeDeferred hK', ?_⟩⟩
      have hrow5 := hrow.turn (B := 0) (grownBy_putObj' _ D (.deferred none)) (fun r e => by cases e; exact ⟨Nat.zero_le _, _, hK', rfl⟩)
      have c0 := hrow5.cell 0
      have c1 := hrow5.cell 1
      have c2 := hrow5.cell 2
      simp at c0 c1 c2
      have hlw := HL2.out.size
      refine ⟨.agg #[.bool false, .slice none 0 0, .slice none 0 0], by simp [results, Try.results32, go_sem, c0, c1, c2], none, none, by rw [HF.out]; rfl, ?_, ?_⟩
      · rw [HF.out]; exact ⟨.inl ⟨rfl, rfl⟩, .inl ⟨rfl, rfl⟩, fun g e => by cases e⟩
      · exact (((HBW.out.setCell (p := ⟨w.heap.size + 1 + 1, 0, none⟩) (by show w.heap.size ≤ w.heap.size + 1 + 1; omega) _).setCell (p := ⟨w.heap.size + 1 + 1, 1, none⟩) (by show w.heap.size ≤ w.heap.size + 1 + 1; omega) _).setCell (p := ⟨w.heap.size + 1 + 1, 2, none⟩) (by show w.heap.size ≤ w.heap.size + 1 + 1; omega) _).trans (belowK_b (w := w) (Nat.le_refl _) _ D _ _ (by omega) hK' rfl rfl)
    case stop =>
      rintro D pre W hDz _ ⟨k, x, hf⟩ hK
      have HFd := Lib.hid hf
      have HKD := Lib.hid hK
      clear hf hK
      gi_wp2
      refine ⟨by simp, .inl ⟨_, _, rfl, run_takeDeferred HKD.out, ?_⟩⟩
      have hf := HFd.out.turn (B := w.heap.size) (grownBy_putObj' _ D (.deferred none)) (Nat.le_refl _) (fun r e => by cases e; exact ⟨Nat.le_trans HL2.out.size hDz, _, HKD.out, rfl⟩)
      have c0 := hf.row.cell 0
      have c1 := hf.row.cell 1
      have c2 := hf.row.cell 2
      simp at c0 c1 c2
      have hlw := HL2.out.size
      have hF : Circ.fdV (m : Int) ns gs os (m : Int) ns' gs' os' = (true, Circ.bitsN (k / 2 ^ m) ns.length, Circ.bitsN k m) := by
        have h := Circ.fdV_some (x := k) HS.out (by rw [Int.toNat_natCast]; exact hf.lt) (fun y hy => by rw [Int.toNat_natCast, HDD.out]; exact hf.no y hy) (by rw [Int.toNat_natCast, HDD.out]; exact hf.yes)
        rwa [Int.toNat_natCast] at h
      refine ⟨.agg #[.bool true, .slice (some ⟨x.1, 0, none⟩) ns.length ns.length, .slice (some ⟨x.2, 0, none⟩) m m], by simp [results, Try.results32, go_sem, c0, c1, c2], some ⟨x.1, 0, none⟩, some ⟨x.2, 0, none⟩, by rw [hF]; simp [Circ.bitsN_len], ?_, hf.bel⟩
      rw [hF]
      have hd1 := hf.d1
      have hd2 := hf.d2
      exact ⟨.inr ⟨_, rfl, by omega, hf.st⟩, .inr ⟨_, rfl, by omega, hf.ins⟩, fun g e e' => hf.ne (by injection e with e; injection e' with e'; injection e with e; injection e' with e'; rw [e, e'])⟩
end Go.Proofs.Ythpiddpkcmecfaa
/- The contract of Equivalent of the program. -/
namespace Circ
theorem equiv_fd {i : Int} {ns : List Int} {gs : List (Int × Int)} {os : List Int} {i' : Int} {ns' : List Int} {gs' : List (Int × Int)} {os' : List Int} (h : sameIf i ns gs os i' ns' gs' os' = true) :
    equivB i ns gs os i' ns' gs' os' = !(fdV i ns gs os i' ns' gs' os').1 := by
  unfold equivB fdV noDiff
  rw [h, if_pos rfl]
  cases firstD i.toNat ns.length ns gs os ns' gs' os' <;> rfl
end Circ
namespace Go.Proofs.Ythpiddpkcmecfaa
open Go.RowKit Go.Deep
set_option maxRecDepth 100000
theorem Try.found_field (b : Bool) (A1 A2 : Option Addr) (n1 c1 n2 c2 : Nat) (w : World) : (Instr.field 50 (.agg #[.bool b, .slice A1 n1 c1, .slice A2 n2 c2]) 0).run Try.prog w = .ok (.bool b) w := by kernel_rfl

set_option maxHeartbeats 1000000 in
theorem equiv_any (i : Int) (nA gA oA : Option Addr) (nc gc oc : Nat) (ns : List Int) (gs : List (Int × Int)) (os : List Int) (i' : Int) (nA' gA' oA' : Option Addr) (nc' gc' oc' : Nat) (ns' : List Int) (gs' : List (Int × Int)) (os' : List Int) (w : World) (hc : CircAt w w.heap.size nA gA oA ns gs os) (hd : CircAt w w.heap.size nA' gA' oA' ns' gs' os') :
    Calls Try.prog 35 #[.agg #[.int .i64 i, .slice nA ns.length nc, .slice gA gs.length gc, .slice oA os.length oc], .agg #[.int .i64 i', .slice nA' ns'.length nc', .slice gA' gs'.length gc', .slice oA' os'.length oc']] w fun e w' => e = .returned (.bool (Circ.equivB i ns gs os i' ns' gs' os')) ∧ Below w.heap.size w w' := by
  have HC := Lib.hid hc
  have HD := Lib.hid hd
  clear hc hd
  have hb0 : Below w.heap.size w ((w.alloc (.cells #[.int .i64 i, .slice nA ns.length nc, .slice gA gs.length gc, .slice oA os.length oc] 26)).alloc (.cells #[.int .i64 i', .slice nA' ns'.length nc', .slice gA' gs'.length gc', .slice oA' os'.length oc'] 26)) := ((Below.refl _ _).alloc (Nat.le_refl _) _).alloc (by simp) _
  have r1 : Row ((w.alloc (.cells #[.int .i64 i, .slice nA ns.length nc, .slice gA gs.length gc, .slice oA os.length oc] 26)).alloc (.cells #[.int .i64 i', .slice nA' ns'.length nc', .slice gA' gs'.length gc', .slice oA' os'.length oc'] 26)) w.heap.size 26 #[.int .i64 i, .slice nA ns.length nc, .slice gA gs.length gc, .slice oA os.length oc] := (Below.heap_alloc _ _ _ (by simp)).trans (heap_alloc_new w _)
  have r2 : Row ((w.alloc (.cells #[.int .i64 i, .slice nA ns.length nc, .slice gA gs.length gc, .slice oA os.length oc] 26)).alloc (.cells #[.int .i64 i', .slice nA' ns'.length nc', .slice gA' gs'.length gc', .slice oA' os'.length oc'] 26)) (w.heap.size + 1) 26 #[.int .i64 i', .slice nA' ns'.length nc', .slice gA' gs'.length gc', .slice oA' os'.length oc'] := by
    have := heap_alloc_new (w.alloc (.cells #[.int .i64 i, .slice nA ns.length nc, .slice gA gs.length gc, .slice oA os.length oc] 26)) (.cells #[.int .i64 i', .slice nA' ns'.length nc', .slice gA' gs'.length gc', .slice oA' os'.length oc'] 26)
    simpa [Row] using this
  have HL0 := Lib.hid hb0
  have HR0 := Lib.hid r1
  have HQ0 := Lib.hid r2
  clear hb0 r1 r2
  go_enter Try.func35, Try.ntmps35
  go_wp2_with fail
  refine (sameIf_any i nA gA oA nc gc oc ns gs os i' nA' gA' oA' nc' gc' oc' ns' gs' os' _ ((HC.out.below HL0.out).mono HL0.out.size) ((HD.out.below HL0.out).mono HL0.out.size)).mono ?_
  rintro e w1 ⟨rfl, hb1⟩
  have HL1 := Lib.hid (HL0.out.trans (hb1.mono HL0.out.size))
  have HR1 := Lib.hid (HR0.out.below hb1 HR0.out.lt)
  have HQ1 := Lib.hid (HQ0.out.below hb1 HQ0.out.lt)
  clear hb1 HL0 HR0 HQ0
  have q0 := HR1.out.cell 0
  have q1 := HR1.out.cell 1
  have q2 := HR1.out.cell 2
  have q3 := HR1.out.cell 3
  have p0 := HQ1.out.cell 0
  have p1 := HQ1.out.cell 1
  have p2 := HQ1.out.cell 2
  have p3 := HQ1.out.cell 3
  simp at q0 q1 q2 q3 p0 p1 p2 p3
  cases hs : Circ.sameIf i ns gs os i' ns' gs' os'
  · have HE : Hid (Circ.equivB i ns gs os i' ns' gs' os' = false) := Lib.hid (by unfold Circ.equivB; rw [hs]; rfl)
    clear hs
    go_wp2
    go_ret
    exact ⟨by rw [HE.out]; rfl, HL1.out⟩
  · have HE := Lib.hid (Circ.equiv_fd hs)
    clear hs
    go_wp2_with fail
    refine (find_any i nA gA oA nc gc oc ns gs os i' nA' gA' oA' nc' gc' oc' ns' gs' os' _ ((HC.out.below HL1.out).mono HL1.out.size) ((HD.out.below HL1.out).mono HL1.out.size)).mono ?_
    rintro e w2 ⟨A1, A2, rfl, hp, hb2⟩
    have HL2 := Lib.hid (HL1.out.trans (hb2.mono HL1.out.size))
    clear hb2 hp
    generalize Circ.fdV i ns gs os i' ns' gs' os' = fd at *
    have hfd := fun W => Try.found_field fd.1 A1 A2 fd.2.1.length fd.2.1.length fd.2.2.length fd.2.2.length W
    go_wp2
    go_ret
    exact ⟨by rw [HE.out]; rfl, HL2.out⟩
end Go.Proofs.Ythpiddpkcmecfaa
