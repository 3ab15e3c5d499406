/- The walk of the exact law of EvalVars. -/
import Derived.Test.YtbhkpjcflghgbaaB7
import Derived.Test.YtbhkpjcflghgbaaB8
import Derived.Test.YtbhkpjcflghgbaaW6
namespace Go.Proofs.Ytbhkpjcflghgbaa
open Go.RowKit Go.Deep

set_option maxHeartbeats 2000000 in
theorem xevalVars_walk (i : Int) (nA gA oA sA iA : Option Addr) (nc gc oc sc ic : Nat) (ns : List Int) (gs : List (Int × Int)) (os : List Int) (st ins : List Bool) (w : World) (hc : CircAt w w.heap.size nA gA oA ns gs os)
    (hs : BoolsAt w w.heap.size sA st) (hin : BoolsAt w w.heap.size iA ins) (hsl : st.length ≤ maxLen) (hil : ins.length ≤ maxLen) :
    Calls Try.prog 6 #[.agg #[.int .i64 i, .slice nA ns.length nc, .slice gA gs.length gc, .slice oA os.length oc], .slice sA st.length sc, .slice iA ins.length ic] w fun e w' => e = .returned (.bool true) ∧ Below w.heap.size w w' := by
  have HC := Lib.hid hc
  have HS := Lib.hid hs
  have HI := Lib.hid hin
  unfold maxLen at hsl hil
  clear hc hs hin
  by_cases hs1 : st.length ≤ 1048576
  · by_cases hi1 : ins.length ≤ 1048576
    · by_cases hsz : (ns.length : Int) + gs.length + os.length ≤ 1048576
      · clear hsl hil
        have hbw : Below w.heap.size w (w.alloc (.cells #[.int .i64 i, .slice nA ns.length nc, .slice gA gs.length gc, .slice oA os.length oc] 48)) := (Below.refl _ _).alloc (Nat.le_refl _) _
        have HL0 := Lib.hid hbw
        have r0 : Row (w.alloc (.cells #[.int .i64 i, .slice nA ns.length nc, .slice gA gs.length gc, .slice oA os.length oc] 48)) w.heap.size 48 #[.int .i64 i, .slice nA ns.length nc, .slice gA gs.length gc, .slice oA os.length oc] := heap_alloc_new w _
        have HR0 := Lib.hid r0
        have hev := evalV_le (i := i) (ns := ns) (gs := gs) (os := os) st ins
        clear hbw r0
        go_enter Try.func6, Try.ntmps6
        go_wp2_with fail
        refine (szCircuit_ok _ _ _ _ _ _ _ _ _ _ _ _ hsz (by omega)).mono ?_
        rintro e w1 ⟨rfl, hb1⟩
        have HR1 := Lib.hid (HR0.out.below hb1 HR0.out.lt)
        have HL1 := Lib.hid (HL0.out.trans (hb1.mono HL0.out.size))
        clear hb1 HR0 HL0
        have q0 := HR1.out.cell 0
        have q1 := HR1.out.cell 1
        have q2 := HR1.out.cell 2
        have q3 := HR1.out.cell 3
        simp at q0 q1 q2 q3
        go_wp2_with fail
        refine (toCircuit_rows i nA gA oA nc gc oc ns gs os _ ((HC.out.below HL1.out).mono HL1.out.size) (by omega) (by omega) (by omega)).mono ?_
        rintro e w2 ⟨a1, a2, a3, rfl, hx2, hb2⟩
        have HX2 := Lib.hid hx2
        have hz2 := hx2.b0
        clear hx2 q0 q1 q2 q3
        have HR2 := Lib.hid (HR1.out.below hb2 HR1.out.lt)
        have HL2 := Lib.hid (HL1.out.trans (hb2.mono HL1.out.size))
        clear hb2 HR1 HL1
        go_wp2_with fail
        refine (toBoolS_any sA sc st _ ((HS.out.below HL2.out).mono HL2.out.size) (by omega)).mono ?_
        rintro e w3 ⟨rfl, hb3, hx3⟩
        have HY3 := Lib.hid hx3
        clear hx3
        have HR3 := Lib.hid (HR2.out.below hb3 HR2.out.lt)
        have HL3 := Lib.hid (HL2.out.trans (hb3.mono HL2.out.size))
        have HX3 := Lib.hid (HX2.out.below hb3)
        clear hb3 HR2 HL2 HX2
        go_wp2_with fail
        refine (toBoolS_any iA ic ins _ ((HI.out.below HL3.out).mono HL3.out.size) (by omega)).mono ?_
        rintro e w4 ⟨rfl, hb4, hx4⟩
        have HZ4 := Lib.hid hx4
        clear hx4
        have HR4 := Lib.hid (HR3.out.below hb4 HR3.out.lt)
        have HL4 := Lib.hid (HL3.out.trans (hb4.mono HL3.out.size))
        have HX4 := Lib.hid (HX3.out.below hb4)
        have HY4 := Lib.hid (HY3.out.on hb4)
        clear hb4 HR3 HL3 HX3 HY3
        go_wp2_with fail
        refine (sevalVars_any i _ _ _ _ _ _ _ _ _ _ ns gs os st ins _ HX4.out.at HY4.out.bools HZ4.out.bools).mono ?_
        rintro e w5 ⟨wA, wc, rfl, hx5, hb5⟩
        have HW5 := Lib.hid hx5
        clear hx5 HX4 HY4 HZ4 hz2
        have HR5 := Lib.hid (HR4.out.below hb5 HR4.out.lt)
        have HL5 := Lib.hid (HL4.out.trans (hb5.mono HL4.out.size))
        clear hb5 HR4 HL4
        obtain ⟨s1, hs1e⟩ : ∃ s1 : Nat, w5.heap.size = s1 := ⟨_, rfl⟩
        have hws1 : w.heap.size < s1 := by have := HR5.out.lt; omega
        have hsv5 : s1 ≤ w5.heap.size := by omega
        rw [hs1e] at HW5
        have q0 := HR5.out.cell 0
        have q1 := HR5.out.cell 1
        have q2 := HR5.out.cell 2
        have q3 := HR5.out.cell 3
        simp at q0 q1 q2 q3
        go_wp2_with fail
        refine (toCircuit_rows i nA gA oA nc gc oc ns gs os _ ((HC.out.below HL5.out).mono HL5.out.size) (by omega) (by omega) (by omega)).mono ?_
        rintro e w6 ⟨b1, b2, b3, rfl, hx6, hb6⟩
        rw [hs1e] at hx6
        have hsv6 : s1 ≤ w6.heap.size := Nat.le_trans hsv5 hb6.size
        have HX6 := Lib.hid hx6
        clear hx6 q0 q1 q2 q3
        have HR6 := Lib.hid (HR5.out.below hb6 HR5.out.lt)
        have HL6 := Lib.hid (HL5.out.trans (hb6.mono HL5.out.size))
        have HW6 := Lib.hid (HW5.out.below (hb6.mono (by omega)))
        clear hb6 HR5 HL5 HW5
        have hbb7 : Below w6.heap.size w6 (w6.alloc (.cells #[.int .i64 i, .slice (some ⟨b1, 0, none⟩) ns.length ns.length, .slice (some ⟨b2, 0, none⟩) gs.length gs.length, .slice (some ⟨b3, 0, none⟩) os.length os.length] 26)) := (Below.refl _ _).alloc (Nat.le_refl _) _
        have HV7 : Hid (Row (w6.alloc (.cells #[.int .i64 i, .slice (some ⟨b1, 0, none⟩) ns.length ns.length, .slice (some ⟨b2, 0, none⟩) gs.length gs.length, .slice (some ⟨b3, 0, none⟩) os.length os.length] 26)) w6.heap.size 26 #[.int .i64 i, .slice (some ⟨b1, 0, none⟩) ns.length ns.length, .slice (some ⟨b2, 0, none⟩) gs.length gs.length, .slice (some ⟨b3, 0, none⟩) os.length os.length]) := Lib.hid (heap_alloc_new w6 _)
        have hcz : b3 < w6.heap.size := HX6.out.outs.lt
        have hsv7 : s1 ≤ (w6.alloc (.cells #[.int .i64 i, .slice (some ⟨b1, 0, none⟩) ns.length ns.length, .slice (some ⟨b2, 0, none⟩) gs.length gs.length, .slice (some ⟨b3, 0, none⟩) os.length os.length] 26)).heap.size := Nat.le_trans hsv6 hbb7.size
        have HR7 := Lib.hid (HR6.out.below hbb7 HR6.out.lt)
        have HL7 := Lib.hid (HL6.out.trans (hbb7.mono HL6.out.size))
        have HW7 := Lib.hid (HW6.out.below (hbb7.mono (by omega)))
        have HX7 := Lib.hid (HX6.out.below hbb7)
        clear hbb7 HR6 HL6 HW6 HX6
        go_wp2_with fail
        generalize w6.alloc (.cells #[.int .i64 i, .slice (some ⟨b1, 0, none⟩) ns.length ns.length, .slice (some ⟨b2, 0, none⟩) gs.length gs.length, .slice (some ⟨b3, 0, none⟩) os.length os.length] 26) = w7 at *
        generalize w6.heap.size = c0 at *
        refine (toBoolS_any sA sc st _ ((HS.out.below HL7.out).mono HL7.out.size) (by omega)).mono ?_
        rintro e w8 ⟨rfl, hb8, hx8⟩
        have hsv8 : s1 ≤ w8.heap.size := Nat.le_trans hsv7 hb8.size
        have HY8 := Lib.hid hx8
        clear hx8
        have hyc : c0 < w7.heap.size := HV7.out.lt
        have HR8 := Lib.hid (HR7.out.below hb8 HR7.out.lt)
        have HL8 := Lib.hid (HL7.out.trans (hb8.mono HL7.out.size))
        have HW8 := Lib.hid (HW7.out.below (hb8.mono (by omega)))
        have HX8 := Lib.hid (HX7.out.below hb8)
        have HV8 := Lib.hid (HV7.out.below hb8 HV7.out.lt)
        clear hb8 HR7 HL7 HW7 HX7 HV7
        generalize w7.heap.size = y0 at *
        go_wp2_with fail
        refine (toBoolS_any iA ic ins _ ((HI.out.below HL8.out).mono HL8.out.size) (by omega)).mono ?_
        rintro e w9 ⟨rfl, hb9, hx9⟩
        have hsv9 : s1 ≤ w9.heap.size := Nat.le_trans hsv8 hb9.size
        have HZ9 := Lib.hid hx9
        clear hx9
        have hzy : y0 < w8.heap.size := HY8.out.lt
        have HR9 := Lib.hid (HR8.out.below hb9 HR8.out.lt)
        have HL9 := Lib.hid (HL8.out.trans (hb9.mono HL8.out.size))
        have HW9 := Lib.hid (HW8.out.below (hb9.mono (by omega)))
        have HX9 := Lib.hid (HX8.out.below hb9)
        have HV9 := Lib.hid (HV8.out.below hb9 HV8.out.lt)
        have HY9 := Lib.hid (HY8.out.on hb9)
        clear hb9 HR8 HL8 HW8 HX8 HV8 HY8
        generalize w8.heap.size = z0 at *
        have p0 := HV9.out.cell 0
        have p1 := HV9.out.cell 1
        have p2 := HV9.out.cell 2
        have p3 := HV9.out.cell 3
        simp at p0 p1 p2 p3
        go_wp2_with fail
        refine (evalVars_any i _ _ _ _ _ _ _ _ _ _ ns gs os st ins _ HX9.out.at HY9.out.bools HZ9.out.bools).mono ?_
        rintro e w10 ⟨eA, rfl, hx10, hb10⟩
        obtain ⟨s2, hs2e⟩ : ∃ s2 : Nat, w9.heap.size = s2 := ⟨_, rfl⟩
        have hzs2 : z0 < s2 := by have := HZ9.out.lt; omega
        rw [hs2e] at hx10
        have hsw10 : s2 ≤ w10.heap.size := by have := hb10.size; omega
        have hsv10 : s1 ≤ w10.heap.size := Nat.le_trans hsv9 hb10.size
        have HG10 := Lib.hid hx10
        clear hx10 hs2e p0 p1 p2 p3
        have HR10 := Lib.hid (HR9.out.below hb10 HR9.out.lt)
        have HL10 := Lib.hid (HL9.out.trans (hb10.mono HL9.out.size))
        have HW10 := Lib.hid (HW9.out.below (hb10.mono (by omega)))
        have HX10 := Lib.hid (HX9.out.below hb10)
        have HV10 := Lib.hid (HV9.out.below hb10 HV9.out.lt)
        have HY10 := Lib.hid (HY9.out.on hb10)
        have HZ10 := Lib.hid (HZ9.out.on hb10)
        clear hb10 HR9 HL9 HW9 HX9 HV9 HY9 HZ9
        generalize hevd : evalV i ns gs os st ins = ev at *
        have HEV := Lib.hid hevd
        clear hevd
        go_wp2_with fail
        refine (eqBoolS_any _ _ _ _ ev _ (HG10.out.bools) (HW10.out.mono hsv10) (by omega)).mono ?_
        rintro e w11 ⟨rfl, hb11⟩
        have hsv11 : s1 ≤ w11.heap.size := Nat.le_trans hsv10 hb11.size
        have hsw11 : s2 ≤ w11.heap.size := Nat.le_trans hsw10 hb11.size
        have HR11 := Lib.hid (HR10.out.below hb11 HR10.out.lt)
        have HL11 := Lib.hid (HL10.out.trans (hb11.mono HL10.out.size))
        have HW11 := Lib.hid (HW10.out.below (hb11.mono (by omega)))
        have HX11 := Lib.hid (HX10.out.below hb11)
        have HV11 := Lib.hid (HV10.out.below hb11 HV10.out.lt)
        have HY11 := Lib.hid (HY10.out.on hb11)
        have HZ11 := Lib.hid (HZ10.out.on hb11)
        have HG11 := Lib.hid (HG10.out.on hb11)
        clear hb11 HR10 HL10 HW10 HX10 HV10 HY10 HZ10 HG10
        have q0 := HR11.out.cell 0
        have q1 := HR11.out.cell 1
        have q2 := HR11.out.cell 2
        have q3 := HR11.out.cell 3
        simp at q0 q1 q2 q3
        have p0 := HV11.out.cell 0
        have p1 := HV11.out.cell 1
        have p2 := HV11.out.cell 2
        have p3 := HV11.out.cell 3
        simp at p0 p1 p2 p3
        have hz1 := HR11.out.lt
        have hz2 := HV11.out.lt
        go_wp2
        go_region_held3 (fun w' => (w'.cell? ⟨w.heap.size, 0, none⟩ = some (.int .i64 i) ∧ w'.cell? ⟨w.heap.size, 1, none⟩ = some (.slice nA ns.length nc) ∧ w'.cell? ⟨w.heap.size, 2, none⟩ = some (.slice gA gs.length gc) ∧ w'.cell? ⟨w.heap.size, 3, none⟩ = some (.slice oA os.length oc)) ∧
            w'.cell? ⟨c0, 0, none⟩ = some (.int .i64 i) ∧ w'.cell? ⟨c0, 1, none⟩ = some (.slice (some ⟨b1, 0, none⟩) ns.length ns.length) ∧ w'.cell? ⟨c0, 2, none⟩ = some (.slice (some ⟨b2, 0, none⟩) gs.length gs.length) ∧ w'.cell? ⟨c0, 3, none⟩ = some (.slice (some ⟨b3, 0, none⟩) os.length os.length))
          (first | go_keep | (refine ⟨⟨?_, ?_, ?_, ?_⟩, ?_, ?_, ?_, ?_⟩ <;> (rw [hc7 _ _ (by simp; omega)]; simp [*])) | (refine ⟨⟨?_, ?_, ?_, ?_⟩, ?_, ?_, ?_, ?_⟩ <;> (rw [hc8 _ _ (by omega), hc7 _ _ (by simp; omega)]; simp [*])))
          (first
            | (go_at_call 24; go_must (refine (toCircuit_any i nA gA oA nc gc oc ns gs os _ ?_ ?_ ?_ ?_).mono ?_; (exact ((HC.out.below HL11.out.drew).mono HL11.out.drew.size)); (omega); (omega); (omega); rintro e u7 ⟨e1, e2, e3, f1, f2, f3, rfl, hC7, hb7⟩; obtain ⟨hc7, hf7⟩ := bcell hb7; have hz7 : w11.heap.size ≤ u7.heap.size := hb7.size))
            | (go_at_call 27; refine (eqCircuit_any i _ _ _ e1 e2 e3 _ _ _ f1 f2 f3 ns gs os _ ?_ ?_ ?_ ?_ ?_).mono ?_; (exact ((HX11.out.at.below (Below.refl _ _).drew).below hb7).mono hb7.size); (exact hC7); (omega); (omega); (omega); rintro e u8 ⟨rfl, hb8⟩; obtain ⟨hc8, hf8⟩ := bcell hb8))
        clear hc7 hf7 hc8 hf8 p0 p1 p2 p3 q0 q1 q2 q3
        have hb12 : Below w11.heap.size w11 u8 := ((Below.refl _ w11).drew.trans hb7).trans (hb8.mono hz7)
        clear hb7 hb8 hz7 hC7 hz1 hz2
        have hsv12 : s1 ≤ u8.heap.size := Nat.le_trans hsv11 hb12.size
        have hsw12 : s2 ≤ u8.heap.size := Nat.le_trans hsw11 hb12.size
        have HR12 := Lib.hid (HR11.out.below hb12 HR11.out.lt)
        have HL12 := Lib.hid (HL11.out.trans (hb12.mono HL11.out.size))
        have HW12 := Lib.hid (HW11.out.below (hb12.mono (by omega)))
        have HX12 := Lib.hid (HX11.out.below hb12)
        have HV12 := Lib.hid (HV11.out.below hb12 HV11.out.lt)
        have HY12 := Lib.hid (HY11.out.on hb12)
        have HZ12 := Lib.hid (HZ11.out.on hb12)
        have HG12 := Lib.hid (HG11.out.on hb12)
        clear hb12 HR11 HL11 HW11 HX11 HV11 HY11 HZ11 HG11
        rename_i _hheld
        clear _hheld
        generalize u8 = w12 at *
        go_wp2_with fail
        refine (toBoolS_any sA sc st _ ((HS.out.below HL12.out).mono HL12.out.size) (by omega)).mono ?_
        rintro e w13 ⟨rfl, hb13, hx13⟩
        have hsv13 : s1 ≤ w13.heap.size := Nat.le_trans hsv12 hb13.size
        have hsw13 : s2 ≤ w13.heap.size := Nat.le_trans hsw12 hb13.size
        have HT13 := Lib.hid hx13
        clear hx13
        have HR13 := Lib.hid (HR12.out.below hb13 HR12.out.lt)
        have HL13 := Lib.hid (HL12.out.trans (hb13.mono HL12.out.size))
        have HW13 := Lib.hid (HW12.out.below (hb13.mono (by omega)))
        have HX13 := Lib.hid (HX12.out.below hb13)
        have HV13 := Lib.hid (HV12.out.below hb13 HV12.out.lt)
        have HY13 := Lib.hid (HY12.out.on hb13)
        have HZ13 := Lib.hid (HZ12.out.on hb13)
        have HG13 := Lib.hid (HG12.out.on hb13)
        clear hb13 HR12 HL12 HW12 HX12 HV12 HY12 HZ12 HG12
        go_wp2_with fail
        refine (eqBoolS_any _ _ _ _ st _ (HY13.out.bools) (HT13.out.bools) (by omega)).mono ?_
        rintro e w14 ⟨rfl, hb14⟩
        have hsv14 : s1 ≤ w14.heap.size := Nat.le_trans hsv13 hb14.size
        have hsw14 : s2 ≤ w14.heap.size := Nat.le_trans hsw13 hb14.size
        have HR14 := Lib.hid (HR13.out.below hb14 HR13.out.lt)
        have HL14 := Lib.hid (HL13.out.trans (hb14.mono HL13.out.size))
        have HW14 := Lib.hid (HW13.out.below (hb14.mono (by omega)))
        have HX14 := Lib.hid (HX13.out.below hb14)
        have HV14 := Lib.hid (HV13.out.below hb14 HV13.out.lt)
        have HY14 := Lib.hid (HY13.out.on hb14)
        have HZ14 := Lib.hid (HZ13.out.on hb14)
        have HG14 := Lib.hid (HG13.out.on hb14)
        clear hb14 HR13 HL13 HW13 HX13 HV13 HY13 HZ13 HG13
        clear HT13
        go_wp2_with fail
        refine (toBoolS_any iA ic ins _ ((HI.out.below HL14.out).mono HL14.out.size) (by omega)).mono ?_
        rintro e w15 ⟨rfl, hb15, hx15⟩
        have hsv15 : s1 ≤ w15.heap.size := Nat.le_trans hsv14 hb15.size
        have hsw15 : s2 ≤ w15.heap.size := Nat.le_trans hsw14 hb15.size
        have HT15 := Lib.hid hx15
        clear hx15
        have HR15 := Lib.hid (HR14.out.below hb15 HR14.out.lt)
        have HL15 := Lib.hid (HL14.out.trans (hb15.mono HL14.out.size))
        have HW15 := Lib.hid (HW14.out.below (hb15.mono (by omega)))
        have HX15 := Lib.hid (HX14.out.below hb15)
        have HV15 := Lib.hid (HV14.out.below hb15 HV14.out.lt)
        have HY15 := Lib.hid (HY14.out.on hb15)
        have HZ15 := Lib.hid (HZ14.out.on hb15)
        have HG15 := Lib.hid (HG14.out.on hb15)
        clear hb15 HR14 HL14 HW14 HX14 HV14 HY14 HZ14 HG14
        go_wp2_with fail
        refine (eqBoolS_any _ _ _ _ ins _ (HZ15.out.bools) (HT15.out.bools) (by omega)).mono ?_
        rintro e w16 ⟨rfl, hb16⟩
        have hsv16 : s1 ≤ w16.heap.size := Nat.le_trans hsv15 hb16.size
        have hsw16 : s2 ≤ w16.heap.size := Nat.le_trans hsw15 hb16.size
        have HR16 := Lib.hid (HR15.out.below hb16 HR15.out.lt)
        have HL16 := Lib.hid (HL15.out.trans (hb16.mono HL15.out.size))
        have HW16 := Lib.hid (HW15.out.below (hb16.mono (by omega)))
        have HX16 := Lib.hid (HX15.out.below hb16)
        have HV16 := Lib.hid (HV15.out.below hb16 HV15.out.lt)
        have HY16 := Lib.hid (HY15.out.on hb16)
        have HZ16 := Lib.hid (HZ15.out.on hb16)
        have HG16 := Lib.hid (HG15.out.on hb16)
        clear hb16 HR15 HL15 HW15 HX15 HV15 HY15 HZ15 HG15
        clear HT15
        have p0 := HV16.out.cell 0
        have p1 := HV16.out.cell 1
        have p2 := HV16.out.cell 2
        have p3 := HV16.out.cell 3
        simp at p0 p1 p2 p3
        go_wp2_with fail
        rw [show (1 : Int) = ((1 : Nat) : Int) from rfl]
        refine (markCircuit_any i s1 b1 b2 b3 1 ns gs os _ HX16.out (by omega) (by omega) (by omega) (by omega)).mono ?_
        rintro e w17 ⟨rfl, hm17⟩
        have hb1s : s1 ≤ b1 := HX16.out.b0
        have hb12 : b1 < b2 := HX16.out.b1
        have hb23 : b2 < b3 := HX16.out.b2
        have HR17 := Lib.hid (hm17.row HR16.out (by omega))
        have HY17 := Lib.hid (hm17.brow HY16.out (by omega))
        have HZ17 := Lib.hid (hm17.brow HZ16.out (by omega))
        have hmw17 := hm17.wide (lo' := s1) (hi' := s2) (by omega) (by omega)
        have HW17 := Lib.hid (hmw17.bools HW16.out (Nat.le_refl _) hsv16)
        have HG17 := Lib.hid (hmw17.bsl HG16.out)
        have HL17 := Lib.hid (HL16.out.trans ((hmw17.below hsv16).mono (by omega)))
        have hsv17 : s1 ≤ w17.heap.size := Nat.le_trans hsv16 hm17.size
        have hsw17 : s2 ≤ w17.heap.size := Nat.le_trans hsw16 hm17.size
        clear hm17 hmw17 HR16 HY16 HZ16 HW16 HG16 HL16 HV16 HX16 p0 p1 p2 p3
        generalize hkk : 1 + ns.length + 2 * gs.length + os.length = kk at *
        have hkb : kk ≤ 5000000 := by omega
        clear hkk
        go_wp2_with fail
        obtain ⟨cs18, hrr18, hff18⟩ := HY17.out
        refine (markB_row y0 _ kk cs18 _ hrr18 hff18.1 (by omega) (by omega)).mono ?_
        rintro e w18 ⟨rfl, _, ho18⟩
        have hmw18 := ho18.mid (lo := s1) (hi := s2) (by omega) (by omega)
        have HR18 := Lib.hid (hmw18.row HR17.out (by omega))
        have HZ18 := Lib.hid (ho18.brow HZ17.out (by intro e; injection e; omega))
        have HW18 := Lib.hid (hmw18.bools HW17.out (Nat.le_refl _) hsv17)
        have HG18 := Lib.hid (hmw18.bsl HG17.out)
        have HL18 := Lib.hid (HL17.out.trans ((hmw18.below hsv17).mono (by omega)))
        have hsv18 : s1 ≤ w18.heap.size := Nat.le_trans hsv17 hmw18.size
        have hsw18 : s2 ≤ w18.heap.size := Nat.le_trans hsw17 hmw18.size
        clear ho18 hmw18 HR17 HW17 HG17 HL17 hrr18 hff18 HZ17 HY17
        generalize hkk : kk + st.length = kk2 at *
        have hkb18 : kk2 ≤ 7000000 := by omega
        clear hkk
        go_wp2_with fail
        obtain ⟨cs19, hrr19, hff19⟩ := HZ18.out
        refine (markB_row z0 _ kk2 cs19 _ hrr19 hff19.1 (by omega) (by omega)).mono ?_
        rintro e w19 ⟨rfl, _, ho19⟩
        have hmw19 := ho19.mid (lo := s1) (hi := s2) (by omega) (by omega)
        have HR19 := Lib.hid (hmw19.row HR18.out (by omega))
        have HW19 := Lib.hid (hmw19.bools HW18.out (Nat.le_refl _) hsv18)
        have HG19 := Lib.hid (hmw19.bsl HG18.out)
        have HL19 := Lib.hid (HL18.out.trans ((hmw19.below hsv18).mono (by omega)))
        have hsv19 : s1 ≤ w19.heap.size := Nat.le_trans hsv18 hmw19.size
        have hsw19 : s2 ≤ w19.heap.size := Nat.le_trans hsw18 hmw19.size
        clear ho19 hmw19 HR18 HW18 HG18 HL18 hrr19 hff19 HZ18
        generalize hkk : kk2 + ins.length = kk3 at *
        have hkb19 : kk3 ≤ 9000000 := by omega
        clear hkk
        go_wp2_with fail
        refine (eqBoolS_any _ _ _ _ ev _ (HG19.out.bools) (HW19.out.mono hsv19) (by omega)).mono ?_
        rintro e w20 ⟨rfl, hb20⟩
        have hsv20 : s1 ≤ w20.heap.size := Nat.le_trans hsv19 hb20.size
        have hsw20 : s2 ≤ w20.heap.size := Nat.le_trans hsw19 hb20.size
        have HR20 := Lib.hid (HR19.out.below hb20 HR19.out.lt)
        have HL20 := Lib.hid (HL19.out.trans (hb20.mono HL19.out.size))
        have HW20 := Lib.hid (HW19.out.below (hb20.mono (by omega)))
        have HG20 := Lib.hid (HG19.out.on hb20)
        clear hb20 HR19 HL19 HW19 HG19
        go_wp2_with fail
        rw [show (1 : Int) = ((1 : Nat) : Int) from rfl]
        refine (markBSl_any eA s2 _ 1 ev _ HG20.out rfl (by omega) (by omega) hsw20).mono ?_
        rintro e w21 ⟨rfl, hx21, hb21, _⟩
        have HG21 := Lib.hid hx21
        have HR21 := Lib.hid (HR20.out.below hb21 (by omega))
        have HW21 := Lib.hid (HW20.out.below (hb21.mono (by omega)))
        have HL21 := Lib.hid (HL20.out.trans (hb21.mono (by omega)))
        have hsv21 : s1 ≤ w21.heap.size := Nat.le_trans hsv20 hb21.size
        have hsw21 : s2 ≤ w21.heap.size := Nat.le_trans hsw20 hb21.size
        clear hx21 hb21 HR20 HW20 HG20 HL20
        go_wp2_with fail
        refine (heldBSl_any eA s2 _ 1 _ HG21.out (by omega) (by omega)).mono ?_
        rintro e w' ⟨rfl, rfl⟩
        have q0 := HR21.out.cell 0
        have q1 := HR21.out.cell 1
        have q2 := HR21.out.cell 2
        have q3 := HR21.out.cell 3
        simp at q0 q1 q2 q3
        go_wp2_with fail
        refine (toCircuit_rows i nA gA oA nc gc oc ns gs os _ ((HC.out.below HL21.out).mono HL21.out.size) (by omega) (by omega) (by omega)).mono ?_
        rintro e w22 ⟨d1, d2, d3, rfl, hx22, hb22⟩
        have HX22 := Lib.hid hx22
        have hsv22 : s1 ≤ w22.heap.size := Nat.le_trans hsv21 hb22.size
        have hsw22 : s2 ≤ w22.heap.size := Nat.le_trans hsw21 hb22.size
        clear hx22 q0 q1 q2 q3
        have HR22 := Lib.hid (HR21.out.below hb22 HR21.out.lt)
        have HL22 := Lib.hid (HL21.out.trans (hb22.mono HL21.out.size))
        have HW22 := Lib.hid (HW21.out.below (hb22.mono (by omega)))
        have HG22 := Lib.hid (HG21.out.on hb22)
        clear hb22 HR21 HL21 HW21 HG21
        go_wp2_with fail
        refine (toBoolS_any sA sc st _ ((HS.out.below HL22.out).mono HL22.out.size) (by omega)).mono ?_
        rintro e w23 ⟨rfl, hb23, hx23⟩
        have HY23 := Lib.hid hx23
        have hsv23 : s1 ≤ w23.heap.size := Nat.le_trans hsv22 hb23.size
        have hsw23 : s2 ≤ w23.heap.size := Nat.le_trans hsw22 hb23.size
        clear hx23
        have HR23 := Lib.hid (HR22.out.below hb23 HR22.out.lt)
        have HL23 := Lib.hid (HL22.out.trans (hb23.mono HL22.out.size))
        have HW23 := Lib.hid (HW22.out.below (hb23.mono (by omega)))
        have HG23 := Lib.hid (HG22.out.on hb23)
        have HX23 := Lib.hid (HX22.out.below hb23)
        clear hb23 HR22 HL22 HW22 HG22 HX22
        go_wp2_with fail
        refine (toBoolS_any iA ic ins _ ((HI.out.below HL23.out).mono HL23.out.size) (by omega)).mono ?_
        rintro e w24 ⟨rfl, hb24, hx24⟩
        have HZ24 := Lib.hid hx24
        have hsv24 : s1 ≤ w24.heap.size := Nat.le_trans hsv23 hb24.size
        have hsw24 : s2 ≤ w24.heap.size := Nat.le_trans hsw23 hb24.size
        clear hx24
        have HR24 := Lib.hid (HR23.out.below hb24 HR23.out.lt)
        have HL24 := Lib.hid (HL23.out.trans (hb24.mono HL23.out.size))
        have HW24 := Lib.hid (HW23.out.below (hb24.mono (by omega)))
        have HG24 := Lib.hid (HG23.out.on hb24)
        have HX24 := Lib.hid (HX23.out.below hb24)
        have HY24 := Lib.hid (HY23.out.on hb24)
        clear hb24 HR23 HL23 HW23 HG23 HX23 HY23
        go_wp2_with fail
        refine (evalVars_any i _ _ _ _ _ _ _ _ _ _ ns gs os st ins _ HX24.out.at HY24.out.bools HZ24.out.bools).mono ?_
        rintro e w25 ⟨hA, rfl, hx25, hb25⟩
        rw [HEV.out] at hx25
        have HH25 := Lib.hid hx25
        have hsv25 : s1 ≤ w25.heap.size := Nat.le_trans hsv24 hb25.size
        have hsw25 : s2 ≤ w25.heap.size := Nat.le_trans hsw24 hb25.size
        rw [HEV.out]
        clear hx25 HX24 HY24 HZ24
        have HR25 := Lib.hid (HR24.out.below hb25 HR24.out.lt)
        have HL25 := Lib.hid (HL24.out.trans (hb25.mono HL24.out.size))
        have HW25 := Lib.hid (HW24.out.below (hb25.mono (by omega)))
        have HG25 := Lib.hid (HG24.out.on hb25)
        clear hb25 HR24 HL24 HW24 HG24
        go_wp2_with fail
        refine (eqBoolS_any hA wA _ _ ev _ HH25.out.bools (HW25.out.mono hsv25) (by omega)).mono ?_
        rintro e w26 ⟨rfl, hb26⟩
        have hsv26 : s1 ≤ w26.heap.size := Nat.le_trans hsv25 hb26.size
        have hsw26 : s2 ≤ w26.heap.size := Nat.le_trans hsw25 hb26.size
        have HR26 := Lib.hid (HR25.out.below hb26 HR25.out.lt)
        have HL26 := Lib.hid (HL25.out.trans (hb26.mono HL25.out.size))
        have HW26 := Lib.hid (HW25.out.below (hb26.mono (by omega)))
        have HG26 := Lib.hid (HG25.out.on hb26)
        clear hb26 HR25 HL25 HW25 HG25
        clear HH25
        go_wp2_with fail
        rw [show (1 : Int) = ((1 : Nat) : Int) from rfl]
        refine (heldBSl_any eA s2 _ 1 _ HG26.out (by omega) (by omega)).mono ?_
        rintro e w' ⟨rfl, rfl⟩
        go_wp2
        go_ret
        exact ⟨rfl, HL26.out⟩
      · go_enter Try.func6, Try.ntmps6
        go_wp2_with (go_at_call 23; refine (szCircuit_no _ _ _ _ _ _ _ _ _ _ _ _ ?_ ?_ ?_ HC.out.nl HC.out.gl HC.out.ol).mono ?_; (omega); (omega); (omega); rintro e w1 ⟨rfl, hb1⟩)
        go_ret
        exact ⟨rfl, ((Below.refl _ _).alloc (Nat.le_refl _) _).trans (hb1.mono (by simp))⟩
    · go_enter Try.func6, Try.ntmps6
      go_wp2
      go_ret
      exact ⟨rfl, (Below.refl _ _).alloc (Nat.le_refl _) _⟩
  · go_enter Try.func6, Try.ntmps6
    go_wp2
    go_ret
    exact ⟨rfl, (Below.refl _ _).alloc (Nat.le_refl _) _⟩
end Go.Proofs.Ytbhkpjcflghgbaa
