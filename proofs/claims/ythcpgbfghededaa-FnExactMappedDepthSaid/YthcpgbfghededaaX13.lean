/- The walk of the exact law of MappedDepth. -/
import Derived.Test.YthcpgbfghededaaMD
import Derived.Test.YthcpgbfghededaaW6
namespace Go.Proofs.Ythcpgbfghededaa
open Go.RowKit Go.Deep

set_option maxHeartbeats 800000 in
theorem xmapped_walk (i : Int) (nA gA oA : Option Addr) (nc gc oc : Nat) (ns : List Int) (gs : List (Int × Int)) (os : List Int) (w : World) (hc : CircAt w w.heap.size nA gA oA ns gs os) :
    Calls Try.prog 8 #[.agg #[.int .i64 i, .slice nA ns.length nc, .slice gA gs.length gc, .slice oA os.length oc]] w fun e w' => e = .returned (.bool true) ∧ Below w.heap.size w w' := by
  have HC := Lib.hid hc
  clear hc
  by_cases hsz : (ns.length : Int) + gs.length + os.length ≤ 1048576
  · have hbw : Below w.heap.size w (w.alloc (.cells #[.int .i64 i, .slice nA ns.length nc, .slice gA gs.length gc, .slice oA os.length oc] 54)) := (Below.refl _ _).alloc (Nat.le_refl _) _
    have HL0 := Lib.hid hbw
    have r0 : Row (w.alloc (.cells #[.int .i64 i, .slice nA ns.length nc, .slice gA gs.length gc, .slice oA os.length oc] 54)) w.heap.size 54 #[.int .i64 i, .slice nA ns.length nc, .slice gA gs.length gc, .slice oA os.length oc] := heap_alloc_new w _
    have HR0 := Lib.hid r0
    clear hbw r0
    go_enter Try.func8, Try.ntmps8
    go_wp2_with fail
    refine (szCircuit_ok _ _ _ _ _ _ _ _ _ _ _ _ hsz (by omega)).mono ?_
    rintro e w1 ⟨rfl, hb1⟩
    have HR1 := Lib.hid (HR0.out.below hb1 HR0.out.lt)
    have HL1 := Lib.hid (HL0.out.trans (hb1.mono HL0.out.size))
    clear hb1 HR0 HL0
    have q0 := HR1.out.cell 0
    have q1 := HR1.out.cell 1
    have q2 := HR1.out.cell 2
    have q3 := HR1.out.cell 3
    simp at q0 q1 q2 q3
    go_wp2_with fail
    refine (toCircuit_any i nA gA oA nc gc oc ns gs os _ ((HC.out.below HL1.out).mono HL1.out.size) (by omega) (by omega) (by omega)).mono ?_
    rintro e w2 ⟨a1, a2, a3, c1, c2, c3, rfl, hC2, hb2⟩
    have HC2 := Lib.hid hC2
    have HR2 := Lib.hid (HR1.out.below hb2 HR1.out.lt)
    have HL2 := Lib.hid (HL1.out.trans (hb2.mono HL1.out.size))
    clear hb2 HR1 HL1 hC2 q0 q1 q2 q3
    go_wp2_with fail
    refine (smapped_any i a1 a2 a3 c1 c2 c3 ns gs os _ HC2.out).mono ?_
    rintro e w3 ⟨rfl, hb3⟩
    have HR3 := Lib.hid (HR2.out.below hb3 HR2.out.lt)
    have HL3 := Lib.hid (HL2.out.trans (hb3.mono HL2.out.size))
    clear hb3 HR2 HL2 HC2
    have q0 := HR3.out.cell 0
    have q1 := HR3.out.cell 1
    have q2 := HR3.out.cell 2
    have q3 := HR3.out.cell 3
    simp at q0 q1 q2 q3
    go_wp2_with fail
    refine (toCircuit_any i nA gA oA nc gc oc ns gs os _ ((HC.out.below HL3.out).mono HL3.out.size) (by omega) (by omega) (by omega)).mono ?_
    rintro e w4 ⟨b1, b2, b3, d1, d2, d3, rfl, hC4, hb4⟩
    have HR4 := Lib.hid (HR3.out.below hb4 HR3.out.lt)
    have HL4 := Lib.hid (HL3.out.trans (hb4.mono HL3.out.size))
    have hbB : Below w4.heap.size w4 (w4.alloc (.cells #[.int .i64 i, .slice b1 ns.length d1, .slice b2 gs.length d2, .slice b3 os.length d3] 26)) := (Below.refl _ _).alloc (Nat.le_refl _) _
    have HC5 := Lib.hid ((hC4.below hbB).mono hbB.size)
    have HR5 := Lib.hid (HR4.out.below hbB HR4.out.lt)
    have HL5 := Lib.hid (HL4.out.trans (hbB.mono HL4.out.size))
    have r5 : Row (w4.alloc (.cells #[.int .i64 i, .slice b1 ns.length d1, .slice b2 gs.length d2, .slice b3 os.length d3] 26)) w4.heap.size 26 #[.int .i64 i, .slice b1 ns.length d1, .slice b2 gs.length d2, .slice b3 os.length d3] := heap_alloc_new w4 _
    have HS5 := Lib.hid r5
    clear hb4 HR3 HL3 HR4 HL4 q0 q1 q2 q3 hbB r5 hC4
    go_wp2_with fail
    refine (mapped_any i b1 b2 b3 d1 d2 d3 ns gs os _ HC5.out).mono ?_
    rintro e w6 ⟨rfl, hb6⟩
    have HC6 := Lib.hid ((HC5.out.below hb6).mono hb6.size)
    have HR6 := Lib.hid (HR5.out.below hb6 HR5.out.lt)
    have HS6 := Lib.hid (HS5.out.below hb6 HS5.out.lt)
    have HL6 := Lib.hid (HL5.out.trans (hb6.mono HL5.out.size))
    clear hb6 HR5 HL5 HC5 HS5
    generalize w4.heap.size = z4 at *
    generalize mdepthZ i ns gs os = vv at *
    have q0 := HR6.out.cell 0
    have q1 := HR6.out.cell 1
    have q2 := HR6.out.cell 2
    have q3 := HR6.out.cell 3
    have p0 := HS6.out.cell 0
    have p1 := HS6.out.cell 1
    have p2 := HS6.out.cell 2
    have p3 := HS6.out.cell 3
    simp at q0 q1 q2 q3 p0 p1 p2 p3
    have hz1 := HR6.out.lt
    have hz2 := HS6.out.lt
    go_wp2
    go_region_held3 (fun w' => (w'.cell? ⟨w.heap.size, 0, none⟩ = some (.int .i64 i) ∧ w'.cell? ⟨w.heap.size, 1, none⟩ = some (.slice nA ns.length nc) ∧ w'.cell? ⟨w.heap.size, 2, none⟩ = some (.slice gA gs.length gc) ∧ w'.cell? ⟨w.heap.size, 3, none⟩ = some (.slice oA os.length oc)) ∧
        w'.cell? ⟨z4, 0, none⟩ = some (.int .i64 i) ∧ w'.cell? ⟨z4, 1, none⟩ = some (.slice b1 ns.length d1) ∧ w'.cell? ⟨z4, 2, none⟩ = some (.slice b2 gs.length d2) ∧ w'.cell? ⟨z4, 3, none⟩ = some (.slice b3 os.length d3))
      (first | go_keep | (refine ⟨⟨?_, ?_, ?_, ?_⟩, ?_, ?_, ?_, ?_⟩ <;> (rw [hc7 _ _ (by simp; omega)]; simp [*])) | (refine ⟨⟨?_, ?_, ?_, ?_⟩, ?_, ?_, ?_, ?_⟩ <;> (rw [hc8 _ _ (by omega), hc7 _ _ (by simp; omega)]; simp [*])))
      (first
        | (go_at_call 34; go_must (refine (toCircuit_any i nA gA oA nc gc oc ns gs os _ ?_ ?_ ?_ ?_).mono ?_; (exact ((HC.out.below HL6.out.drew).mono HL6.out.drew.size)); (omega); (omega); (omega); rintro e w7 ⟨e1, e2, e3, f1, f2, f3, rfl, hC7, hb7⟩; obtain ⟨hc7, hf7⟩ := bcell hb7; have hz7 : w6.heap.size ≤ w7.heap.size := hb7.size))
        | (go_at_call 36; refine (eqCircuit_any i b1 b2 b3 e1 e2 e3 d1 d2 d3 f1 f2 f3 ns gs os _ ?_ ?_ ?_ ?_ ?_).mono ?_; (exact ((HC6.out.below (Below.refl _ _).drew).below hb7).mono hb7.size); (exact hC7); (omega); (omega); (omega); rintro e w8 ⟨rfl, hb8⟩; obtain ⟨hc8, hf8⟩ := bcell hb8))
    clear hc7 hf7 hc8 hf8
    go_wp2
    go_ret
    exact ⟨rfl, (HL6.out.drew.trans (hb7.mono HL6.out.size)).trans (hb8.mono (Nat.le_trans HL6.out.size hz7))⟩
  · go_enter Try.func8, Try.ntmps8
    go_wp2_with (go_at_call 33; refine (szCircuit_no _ _ _ _ _ _ _ _ _ _ _ _ ?_ ?_ ?_ HC.out.nl HC.out.gl HC.out.ol).mono ?_; (omega); (omega); (omega); rintro e w1 ⟨rfl, hb1⟩)
    go_ret
    exact ⟨rfl, ((Below.refl _ _).alloc (Nat.le_refl _) _).trans (hb1.mono (by simp))⟩
end Go.Proofs.Ythcpgbfghededaa
