/- The contracts of the assignment with a number, and of the comparison of two circuits at an assignment. -/
import Derived.Test.YthpiddpkcmecfaaY2
import Derived.Test.YthpiddpkcmecfaaB9
namespace Go.Proofs.Ythpiddpkcmecfaa
open Go.RowKit Go.Deep
set_option maxRecDepth 100000

theorem eqSl_len (A A' : Option Addr) (n n' cap cap' : Nat) (xs ys : List Bool) (w : World) (hn : xs.length = n) (hn' : ys.length = n') (hx : BoolsAt w w.heap.size A xs) (hy : BoolsAt w w.heap.size A' ys) (hl : n ≤ 2000000) (hl' : n' ≤ 2000000) :
    Calls Try.prog 100 #[.slice A n cap, .slice A' n' cap'] w fun e w' => e = .returned (.bool (xs == ys)) ∧ Below w.heap.size w w' := by
  subst hn hn'
  exact eqSl_any A A' cap cap' xs ys w hx hy hl hl'

theorem digits_ex (x n : Nat) (w : World) (hx : x < 1000000) (hn : n ≤ 60) :
    Calls Try.prog 112 #[.int .i64 (x : Int), .int .i64 (n : Int)] w fun e w' => ∃ z : Nat, e = .returned (.slice (some ⟨z, 0, none⟩) n n) ∧ w.heap.size ≤ z ∧ z < w'.heap.size ∧ Below w.heap.size w w' ∧ BRow w' z (Circ.bitsN x n) :=
  (digits_any x n w hx hn).mono fun _ _ ⟨he, hb, hr⟩ => ⟨w.heap.size, he, Nat.le_refl _, hr.lt, hb, hr⟩

def AsgOut (w : World) (st ins : List Bool) (sl il : Nat) (e : Ending) (w' : World) : Prop :=
  ∃ z1 z2 : Nat, e = .returned (.agg #[.slice (some ⟨z1, 0, none⟩) sl sl, .slice (some ⟨z2, 0, none⟩) il il]) ∧ w.heap.size ≤ z1 ∧ z1 < z2 ∧ BRow w' z1 st ∧ BRow w' z2 ins ∧ Below w.heap.size w w'

set_option maxHeartbeats 1000000 in
theorem assignOf_any (m x : Nat) (nA gA oA : Option Addr) (nl gl ol nc gc oc : Nat) (w : World) (hx : x < 1000000) (hm : m ≤ 60) (hnl : nl ≤ 60) :
    Calls Try.prog 99 #[.agg #[.int .i64 (m : Int), .slice nA nl nc, .slice gA gl gc, .slice oA ol oc], .int .i64 (x : Int)] w (AsgOut w (Circ.bitsN (x / 2 ^ m) nl) (Circ.bitsN x m) nl m) := by
  obtain ⟨kd, hkd, hkd1, HKD⟩ : ∃ kd : Nat, (x : Int) / 2 ^ m = (kd : Int) ∧ kd ≤ x ∧ Hid (x / 2 ^ m = kd) := ⟨x / 2 ^ m, shr_nat x m, Nat.div_le_self _ _, Lib.hid rfl⟩
  rw [HKD.out]
  have hkd0 : (0 : Int) ≤ (x : Int) / 2 ^ m := by omega
  have hbw : Below w.heap.size w ((w.alloc (.cells #[.int .i64 (m : Int), .slice nA nl nc, .slice gA gl gc, .slice oA ol oc] 26)).alloc (.cells #[.slice none 0 0, .slice none 0 0] 80)) := ((Below.refl _ _).alloc (Nat.le_refl _) _).alloc (by simp) _
  have r0 : Row ((w.alloc (.cells #[.int .i64 (m : Int), .slice nA nl nc, .slice gA gl gc, .slice oA ol oc] 26)).alloc (.cells #[.slice none 0 0, .slice none 0 0] 80)) w.heap.size 26 #[.int .i64 (m : Int), .slice nA nl nc, .slice gA gl gc, .slice oA ol oc] := (Below.heap_alloc _ _ _ (by simp)).trans (heap_alloc_new w _)
  have r1 : Row ((w.alloc (.cells #[.int .i64 (m : Int), .slice nA nl nc, .slice gA gl gc, .slice oA ol oc] 26)).alloc (.cells #[.slice none 0 0, .slice none 0 0] 80)) (w.heap.size + 1) 80 #[.slice none 0 0, .slice none 0 0] := by
    have h := heap_alloc_new (w.alloc (.cells #[.int .i64 (m : Int), .slice nA nl nc, .slice gA gl gc, .slice oA ol oc] 26)) (.cells #[.slice none 0 0, .slice none 0 0] 80)
    simpa [Row] using h
  have HL1 := Lib.hid hbw
  have HR1 := Lib.hid r0
  have HQ1 := Lib.hid r1
  clear hbw r0 r1
  go_enter Try.func99, Try.ntmps99
  go_wp2_with fail
  generalize (w.alloc (.cells #[.int .i64 (m : Int), .slice nA nl nc, .slice gA gl gc, .slice oA ol oc] 26)).alloc (.cells #[.slice none 0 0, .slice none 0 0] 80) = w1 at *
  have q0 := HR1.out.cell 0
  have q1 := HR1.out.cell 1
  have p0 := HQ1.out.cell 0
  have p1 := HQ1.out.cell 1
  have f0 := HQ1.out.frozen 0
  have f1 := HQ1.out.frozen 1
  simp at q0 q1 p0 p1
  have hqz := HQ1.out.lt
  go_region_held3 (fun w' => w'.cell? ⟨w.heap.size, 0, none⟩ = some (.int .i64 (m : Int)) ∧ w'.cell? ⟨w.heap.size, 1, none⟩ = some (.slice nA nl nc))
    (first | go_keep | (have _t := hb4; refine ⟨?_, ?_⟩; (exact (hc4 _ _ (by omega)).trans ((hc3 _ _ (by simp; omega)).trans q0)); (exact (hc4 _ _ (by omega)).trans ((hc3 _ _ (by simp; omega)).trans q1))) | (have _t := hb3; refine ⟨?_, ?_⟩; (exact (hc3 _ _ (by simp; omega)).trans q0); (exact (hc3 _ _ (by simp; omega)).trans q1)))
    (first
      | (go_at_call 112; have _t := hb3; refine (digits_ex x m _ ?_ ?_).mono ?_; (exact hx); (exact hm); rintro e w4 ⟨z2, rfl, hz2, hz2w, hb4, hx4⟩; obtain ⟨hc4, hf4⟩ := bcell hb4; have s0 := (hc4 (w.heap.size + 1) 0 (by omega)).trans ((hc3 _ _ (by simp; omega)).trans p0); have s1 := (hc4 (w.heap.size + 1) 1 (by omega)).trans ((hc3 _ _ (by simp; omega)).trans p1); have t0 := (hf4 (w.heap.size + 1) 0 (by omega)).trans ((hf3 _ _ (by simp; omega)).trans f0); have t1 := (hf4 (w.heap.size + 1) 1 (by omega)).trans ((hf3 _ _ (by simp; omega)).trans f1))
      | (go_at_call 112; refine (digits_ex kd nl _ ?_ ?_).mono ?_; (omega); (exact hnl); rintro e w3 ⟨z1, rfl, hz1, hz1w, hb3, hx3⟩; obtain ⟨hc3, hf3⟩ := bcell hb3; have hz3 : w1.heap.size ≤ w3.heap.size := hb3.size))
  have hbd : Below w1.heap.size w1 w3 := (Below.refl _ w1).drew.trans hb3
  have hz34 : w3.heap.size ≤ w4.heap.size := hb4.size
  have hz1' : w1.heap.size ≤ z1 := hz1
  have X3 := Lib.hid (hx3.on hb4)
  have X4 := Lib.hid hx4
  have HL4 := Lib.hid ((HL1.out.trans (hbd.mono HL1.out.size)).trans (hb4.mono (Nat.le_trans HL1.out.size hz3)))
  clear hbd hc3 hf3 hc4 hf4 hx3 hx4 hb3 hb4 q0 q1 p0 p1 f0 f1
  go_wp2
  refine bodyPost_ret (v := .agg #[.slice (some ⟨z1, 0, none⟩) nl nl, .slice (some ⟨z2, 0, none⟩) m m]) (by simp [results, Try.results99, go_sem, s0, s1]) rfl ⟨z1, z2, rfl, by omega, by omega, ?_, ?_, ?_⟩
  · exact (X3.out.far _ _ (by simp; omega)).far _ _ (by simp; omega)
  · exact (X4.out.far _ _ (by simp; omega)).far _ _ (by simp; omega)
  · exact (HL4.out.setCell (by simp) _).setCell (by simp) _

theorem stepValid_ln (i : Int) (nA gA oA sA iA : Option Addr) (nc gc oc sl il sc ic : Nat) (ns : List Int) (gs : List (Int × Int)) (os : List Int) (st ins : List Bool) (w : World) (hsl : st.length = sl) (hil : ins.length = il) (hc : CircAt w w.heap.size nA gA oA ns gs os)
    (hs : BoolsAt w w.heap.size sA st) (hin : BoolsAt w w.heap.size iA ins) (hv : assignB i ns gs os sl il = true) :
    Calls Try.prog 56 #[.agg #[.int .i64 i, .slice nA ns.length nc, .slice gA gs.length gc, .slice oA os.length oc], .slice sA sl sc, .slice iA il ic] w (StepOut w (Circ.valsOf gs st ins) ns os) := by
  subst hsl hil
  exact stepValid_any i nA gA oA sA iA nc gc oc sc ic ns gs os st ins w hc hs hin hv
end Go.Proofs.Ythpiddpkcmecfaa
