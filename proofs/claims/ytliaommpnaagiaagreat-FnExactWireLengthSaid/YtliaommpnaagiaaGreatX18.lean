/- The walk of the exact law FnExactWireLength. -/
import Derived.Test.YtliaommpnaagiaaGreatWL
import Derived.Test.YtliaommpnaagiaaGreatX16
namespace Go.Proofs.YtliaommpnaagiaaGreat
open Go.RowKit Go.Deep Cut
set_option maxRecDepth 100000

set_option maxHeartbeats 2000000 in
theorem xwire_walk (i : Int) (nA gA oA pA : Option Addr) (nc gc oc pc : Nat) (ns : List Int) (gs : List (Int × Int)) (os ps : List Int) (w : World) (hc : CircAt w w.heap.size nA gA oA ns gs os) (hp : IntsAt w w.heap.size pA ps) (hpl : ps.length ≤ maxLen) :
    Calls Tryz.prog 5 #[.agg #[.int .i64 i, .slice nA ns.length nc, .slice gA gs.length gc, .slice oA os.length oc], .slice pA ps.length pc] w fun e w' => e = .returned (.bool true) ∧ Below w.heap.size w w' := by
  have HC := Lib.hid hc
  have HP := Lib.hid hp
  unfold maxLen at hpl
  clear hc hp
  have hbw : Below w.heap.size w (w.alloc (.cells #[.int .i64 i, .slice nA ns.length nc, .slice gA gs.length gc, .slice oA os.length oc] 40)) := (Below.refl _ _).alloc (Nat.le_refl _) _
  by_cases hp1 : ps.length ≤ 1048576
  · by_cases hsz : (ns.length : Int) + gs.length + os.length ≤ 1048576
    · clear hpl
      have HL0 := Lib.hid hbw
      have r0 : Row (w.alloc (.cells #[.int .i64 i, .slice nA ns.length nc, .slice gA gs.length gc, .slice oA os.length oc] 40)) w.heap.size 40 #[.int .i64 i, .slice nA ns.length nc, .slice gA gs.length gc, .slice oA os.length oc] := heap_alloc_new w _
      have HR0 := Lib.hid r0
      clear hbw r0
      obtain ⟨V, hV⟩ : ∃ V, wireZ i ns gs os ps = V := ⟨_, rfl⟩
      have HV := Lib.hid hV
      clear hV
      go_enter Tryz.func5, Tryz.ntmps5
      go_wp2_with fail
      refine (szCircuit_ok _ _ _ _ _ _ _ _ _ _ _ _ hsz (by omega)).mono ?_
      rintro e w1 ⟨rfl, hb1⟩
      have HR1 := Lib.hid (HR0.out.below hb1 HR0.out.lt)
      have HL1 := Lib.hid (HL0.out.trans (hb1.mono HL0.out.size))
      clear hb1 HR0 HL0
      have q0 := HR1.out.cell 0
      have q1 := HR1.out.cell 1
      have q2 := HR1.out.cell 2
      have q3 := HR1.out.cell 3
      simp at q0 q1 q2 q3
      go_wp2_with fail
      refine (toCircuit_rows i nA gA oA nc gc oc ns gs os _ ((HC.out.below HL1.out).mono HL1.out.size) (by omega) (by omega) (by omega)).mono ?_
      rintro e w2 ⟨a1, a2, a3, rfl, hx2, hb2⟩
      have HX2 := Lib.hid hx2
      clear hx2 q0 q1 q2 q3
      have HR2 := Lib.hid (HR1.out.below hb2 HR1.out.lt)
      have HL2 := Lib.hid (HL1.out.trans (hb2.mono HL1.out.size))
      clear hb2 HR1 HL1
      go_wp2_with fail
      refine (toIntS_row pA pc ps _ ((HP.out.below HL2.out).mono HL2.out.size) (by omega)).mono ?_
      rintro e w3 ⟨rfl, hb3, hx3⟩
      have HY3 := Lib.hid hx3
      clear hx3
      have HR3 := Lib.hid (HR2.out.below hb3 HR2.out.lt)
      have HL3 := Lib.hid (HL2.out.trans (hb3.mono HL2.out.size))
      have HX3 := Lib.hid (HX2.out.below hb3)
      clear hb3 HR2 HL2 HX2
      go_wp2_with fail
      refine (swire_any i _ _ _ _ _ _ _ _ _ ns gs os ps _ HX3.out.at HY3.out.ints rfl (by unfold maxLen; omega) (Nat.le_refl _)).mono ?_
      rintro e w4 ⟨rfl, hb4⟩
      rw [HV.out]
      have HR4 := Lib.hid (HR3.out.below hb4 HR3.out.lt)
      have HL4 := Lib.hid (HL3.out.trans (hb4.mono HL3.out.size))
      clear hb4 HR3 HL3 HX3 HY3
      have q0 := HR4.out.cell 0
      have q1 := HR4.out.cell 1
      have q2 := HR4.out.cell 2
      have q3 := HR4.out.cell 3
      simp at q0 q1 q2 q3
      go_wp2_with fail
      refine (toCircuit_rows i nA gA oA nc gc oc ns gs os _ ((HC.out.below HL4.out).mono HL4.out.size) (by omega) (by omega) (by omega)).mono ?_
      rintro e w6 ⟨b1, b2, b3, rfl, hx6, hb6⟩
      have HX6 := Lib.hid hx6
      clear hx6 q0 q1 q2 q3
      have HR6 := Lib.hid (HR4.out.below hb6 HR4.out.lt)
      have HL6 := Lib.hid (HL4.out.trans (hb6.mono HL4.out.size))
      clear hb6 HR4 HL4
      have hbb7 : Below w6.heap.size w6 (w6.alloc (.cells #[.int .i64 i, .slice (some ⟨b1, 0, none⟩) ns.length ns.length, .slice (some ⟨b2, 0, none⟩) gs.length gs.length, .slice (some ⟨b3, 0, none⟩) os.length os.length] 26)) := (Below.refl _ _).alloc (Nat.le_refl _) _
      have HV7 : Hid (Row (w6.alloc (.cells #[.int .i64 i, .slice (some ⟨b1, 0, none⟩) ns.length ns.length, .slice (some ⟨b2, 0, none⟩) gs.length gs.length, .slice (some ⟨b3, 0, none⟩) os.length os.length] 26)) w6.heap.size 26 #[.int .i64 i, .slice (some ⟨b1, 0, none⟩) ns.length ns.length, .slice (some ⟨b2, 0, none⟩) gs.length gs.length, .slice (some ⟨b3, 0, none⟩) os.length os.length]) := Lib.hid (heap_alloc_new w6 _)
      have HR7 := Lib.hid (HR6.out.below hbb7 HR6.out.lt)
      have HL7 := Lib.hid (HL6.out.trans (hbb7.mono HL6.out.size))
      have HX7 := Lib.hid (HX6.out.below hbb7)
      clear hbb7 HR6 HL6 HX6
      go_wp2_with fail
      generalize w6.alloc (.cells #[.int .i64 i, .slice (some ⟨b1, 0, none⟩) ns.length ns.length, .slice (some ⟨b2, 0, none⟩) gs.length gs.length, .slice (some ⟨b3, 0, none⟩) os.length os.length] 26) = w7 at *
      generalize w6.heap.size = c0 at *
      refine (toIntS_row pA pc ps _ ((HP.out.below HL7.out).mono HL7.out.size) (by omega)).mono ?_
      rintro e w8 ⟨rfl, hb8, hx8⟩
      have HY8 := Lib.hid hx8
      clear hx8
      have hyc : c0 < w7.heap.size := HV7.out.lt
      have HR8 := Lib.hid (HR7.out.below hb8 HR7.out.lt)
      have HL8 := Lib.hid (HL7.out.trans (hb8.mono HL7.out.size))
      have HX8 := Lib.hid (HX7.out.below hb8)
      have HV8 := Lib.hid (HV7.out.below hb8 HV7.out.lt)
      clear hb8 HR7 HL7 HX7 HV7
      generalize w7.heap.size = y0 at *
      have p0 := HV8.out.cell 0
      have p1 := HV8.out.cell 1
      have p2 := HV8.out.cell 2
      have p3 := HV8.out.cell 3
      simp at p0 p1 p2 p3
      go_wp2_with fail
      refine (iwire_any i _ _ _ _ _ _ _ _ _ ns gs os ps _ HX8.out.at (Nat.le_refl _) HY8.out.ints rfl (by unfold maxLen; omega)).mono ?_
      rintro e w9 ⟨rfl, hb9⟩
      rw [HV.out]
      clear p0 p1 p2 p3
      have hyz : y0 < w8.heap.size := HY8.out.lt
      have HR9 := Lib.hid (HR8.out.below hb9 HR8.out.lt)
      have HL9 := Lib.hid (HL8.out.trans (hb9.mono HL8.out.size))
      have HX9 := Lib.hid (HX8.out.below hb9)
      have HV9 := Lib.hid (HV8.out.below hb9 HV8.out.lt)
      have HY9 := Lib.hid (HY8.out.below hb9 HY8.out.lt)
      clear hb9 HR8 HL8 HX8 HV8 HY8
      have q0 := HR9.out.cell 0
      have q1 := HR9.out.cell 1
      have q2 := HR9.out.cell 2
      have q3 := HR9.out.cell 3
      simp at q0 q1 q2 q3
      have p0 := HV9.out.cell 0
      have p1 := HV9.out.cell 1
      have p2 := HV9.out.cell 2
      have p3 := HV9.out.cell 3
      simp at p0 p1 p2 p3
      have hz1 := HR9.out.lt
      have hz2 := HV9.out.lt
      go_wp2
      go_region_held3 (fun w' => (w'.cell? ⟨w.heap.size, 0, none⟩ = some (.int .i64 i) ∧ w'.cell? ⟨w.heap.size, 1, none⟩ = some (.slice nA ns.length nc) ∧ w'.cell? ⟨w.heap.size, 2, none⟩ = some (.slice gA gs.length gc) ∧ w'.cell? ⟨w.heap.size, 3, none⟩ = some (.slice oA os.length oc)) ∧
          w'.cell? ⟨c0, 0, none⟩ = some (.int .i64 i) ∧ w'.cell? ⟨c0, 1, none⟩ = some (.slice (some ⟨b1, 0, none⟩) ns.length ns.length) ∧ w'.cell? ⟨c0, 2, none⟩ = some (.slice (some ⟨b2, 0, none⟩) gs.length gs.length) ∧ w'.cell? ⟨c0, 3, none⟩ = some (.slice (some ⟨b3, 0, none⟩) os.length os.length))
        (first | go_keep | (refine ⟨⟨?_, ?_, ?_, ?_⟩, ?_, ?_, ?_, ?_⟩ <;> (rw [hc7 _ _ (by simp; omega)]; simp [*])) | (refine ⟨⟨?_, ?_, ?_, ?_⟩, ?_, ?_, ?_, ?_⟩ <;> (rw [hc8 _ _ (by omega), hc7 _ _ (by simp; omega)]; simp [*])))
        (first
          | (go_at_call 20; go_must (refine (toCircuit_any i nA gA oA nc gc oc ns gs os _ ?_ ?_ ?_ ?_).mono ?_; (exact ((HC.out.below HL9.out.drew).mono HL9.out.drew.size)); (omega); (omega); (omega); rintro e u7 ⟨e1, e2, e3, f1, f2, f3, rfl, hC7, hbp⟩; obtain ⟨hc7, hf7⟩ := bcell hbp; have hzp : w9.heap.size ≤ u7.heap.size := hbp.size))
          | (go_at_call 22; refine (eqCircuit_any i _ _ _ e1 e2 e3 _ _ _ f1 f2 f3 ns gs os _ ?_ ?_ ?_ ?_ ?_).mono ?_; (exact ((HX9.out.at.below (Below.refl _ _).drew).below hbp).mono hbp.size); (exact hC7); (omega); (omega); (omega); rintro e u8 ⟨rfl, hbq⟩; obtain ⟨hc8, hf8⟩ := bcell hbq))
      clear hc7 hf7 hc8 hf8 p0 p1 p2 p3 q0 q1 q2 q3
      have hb8 : Below w9.heap.size w9 u8 := ((Below.refl _ w9).drew.trans hbp).trans (hbq.mono hzp)
      clear hbp hbq hzp hC7 hz1 hz2
      have HR10 := Lib.hid (HR9.out.below hb8 HR9.out.lt)
      have HL10 := Lib.hid (HL9.out.trans (hb8.mono HL9.out.size))
      have HY10 := Lib.hid (HY9.out.below hb8 HY9.out.lt)
      clear hb8 HR9 HL9 HX9 HV9 HY9
      rename_i _hheld
      clear _hheld
      generalize u8 = w10 at *
      go_wp2_with fail
      refine (toIntS_row pA pc ps _ ((HP.out.below HL10.out).mono HL10.out.size) (by omega)).mono ?_
      rintro e w11 ⟨rfl, hb11, hx11⟩
      have HZ11 := Lib.hid hx11
      have HY11 := Lib.hid (HY10.out.below hb11 HY10.out.lt)
      have HL11 := Lib.hid (HL10.out.trans (hb11.mono HL10.out.size))
      clear hx11 hb11 HY10 HL10 HR10
      go_wp2_with fail
      refine (eqIntS_any _ _ _ _ ps _ HY11.out.ints HZ11.out.ints (by omega)).mono ?_
      rintro e w12 ⟨rfl, hb12⟩
      go_wp2
      go_ret
      exact ⟨rfl, HL11.out.trans (hb12.mono HL11.out.size)⟩
    · clear hpl
      go_enter Tryz.func5, Tryz.ntmps5
      go_wp2_with (go_at_call 19; refine (szCircuit_no _ _ _ _ _ _ _ _ _ _ _ _ ?_ ?_ ?_ HC.out.nl HC.out.gl HC.out.ol).mono ?_; (omega); (omega); (omega); rintro e w1 ⟨rfl, hb1⟩)
      go_ret
      exact ⟨rfl, ((Below.refl _ _).alloc (Nat.le_refl _) _).trans (hb1.mono (by simp))⟩
  · have HB := Lib.hid hbw
    clear hbw
    go_enter Tryz.func5, Tryz.ntmps5
    go_wp2
    go_ret
    exact ⟨rfl, HB.out⟩
end Go.Proofs.YtliaommpnaagiaaGreat
