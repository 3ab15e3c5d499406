/- The walk of the exact law of Step. -/
import Derived.Test.YtbhkpjcflghgbaaB10
import Derived.Test.YtbhkpjcflghgbaaB11
import Derived.Test.YtbhkpjcflghgbaaW6
namespace Go.Proofs.Ytbhkpjcflghgbaa
open Go.RowKit Go.Deep

set_option maxHeartbeats 2000000 in
theorem xstep_walk (i : Int) (nA gA oA sA iA : Option Addr) (nc gc oc sc ic : Nat) (ns : List Int) (gs : List (Int × Int)) (os : List Int) (st ins : List Bool) (w : World) (hc : CircAt w w.heap.size nA gA oA ns gs os)
    (hs : BoolsAt w w.heap.size sA st) (hin : BoolsAt w w.heap.size iA ins) (hsl : st.length ≤ maxLen) (hil : ins.length ≤ maxLen) :
    Calls Try.prog 7 #[.agg #[.int .i64 i, .slice nA ns.length nc, .slice gA gs.length gc, .slice oA os.length oc], .slice sA st.length sc, .slice iA ins.length ic] w fun e w' => e = .returned (.bool true) ∧ Below w.heap.size w w' := by
  have HC := Lib.hid hc
  have HS := Lib.hid hs
  have HI := Lib.hid hin
  unfold maxLen at hsl hil
  clear hc hs hin
  by_cases hs1 : st.length ≤ 1048576
  · by_cases hi1 : ins.length ≤ 1048576
    · by_cases hsz : (ns.length : Int) + gs.length + os.length ≤ 1048576
      · clear hsl hil
        have hbw : Below w.heap.size w (w.alloc (.cells #[.int .i64 i, .slice nA ns.length nc, .slice gA gs.length gc, .slice oA os.length oc] 48)) := (Below.refl _ _).alloc (Nat.le_refl _) _
        have HL0 := Lib.hid hbw
        have r0 : Row (w.alloc (.cells #[.int .i64 i, .slice nA ns.length nc, .slice gA gs.length gc, .slice oA os.length oc] 48)) w.heap.size 48 #[.int .i64 i, .slice nA ns.length nc, .slice gA gs.length gc, .slice oA os.length oc] := heap_alloc_new w _
        have HR0 := Lib.hid r0
        have hevo := stepV_le (i := i) (ns := ns) (gs := gs) (os := os) st ins os (by omega)
        have hevn := stepV_le (i := i) (ns := ns) (gs := gs) (os := os) st ins ns (by omega)
        clear hbw r0
        go_enter Try.func7, Try.ntmps7
        go_wp2_with fail
        refine (szCircuit_ok _ _ _ _ _ _ _ _ _ _ _ _ hsz (by omega)).mono ?_
        rintro e w1 ⟨rfl, hb1⟩
        have HR1 := Lib.hid (HR0.out.below hb1 HR0.out.lt)
        have HL1 := Lib.hid (HL0.out.trans (hb1.mono HL0.out.size))
        clear hb1 HR0 HL0
        have q0 := HR1.out.cell 0
        have q1 := HR1.out.cell 1
        have q2 := HR1.out.cell 2
        have q3 := HR1.out.cell 3
        simp at q0 q1 q2 q3
        go_wp2_with fail
        refine (toCircuit_rows i nA gA oA nc gc oc ns gs os _ ((HC.out.below HL1.out).mono HL1.out.size) (by omega) (by omega) (by omega)).mono ?_
        rintro e w2 ⟨a1, a2, a3, rfl, hx2, hb2⟩
        clear q0 q1 q2 q3
        have HX2 := Lib.hid hx2
        clear hx2
        have HR2 := Lib.hid (HR1.out.below hb2 HR1.out.lt)
        have HL2 := Lib.hid (HL1.out.trans (hb2.mono HL1.out.size))
        clear hb2 HR1 HL1
        go_wp2_with fail
        refine (toBoolS_any sA sc st _ ((HS.out.below HL2.out).mono HL2.out.size) (by omega)).mono ?_
        rintro e w3 ⟨rfl, hb3, hx3⟩
        have HY3 := Lib.hid hx3
        clear hx3
        have HR3 := Lib.hid (HR2.out.below hb3 HR2.out.lt)
        have HL3 := Lib.hid (HL2.out.trans (hb3.mono HL2.out.size))
        have HX3 := Lib.hid (HX2.out.below hb3)
        clear hb3 HR2 HL2 HX2
        go_wp2_with fail
        refine (toBoolS_any iA ic ins _ ((HI.out.below HL3.out).mono HL3.out.size) (by omega)).mono ?_
        rintro e w4 ⟨rfl, hb4, hx4⟩
        have HZ4 := Lib.hid hx4
        clear hx4
        have HR4 := Lib.hid (HR3.out.below hb4 HR3.out.lt)
        have HL4 := Lib.hid (HL3.out.trans (hb4.mono HL3.out.size))
        have HX4 := Lib.hid (HX3.out.below hb4)
        have HY4 := Lib.hid (HY3.out.on hb4)
        clear hb4 HR3 HL3 HX3 HY3
        go_wp2_with fail
        refine (sstep_any i _ _ _ _ _ _ _ _ _ _ ns gs os st ins _ HX4.out.at HY4.out.bools HZ4.out.bools).mono ?_
        rintro e w5 ⟨wA, wB, wc, wd, rfl, hx5, hy5, hb5⟩
        generalize hevd : stepV i ns gs os st ins os = eo at *
        have HEV := Lib.hid hevd
        clear hevd
        generalize hevd : stepV i ns gs os st ins ns = en at *
        have HEN := Lib.hid hevd
        clear hevd
        have HW5 := Lib.hid hx5
        have HU5 := Lib.hid hy5
        clear hx5 hy5
        have HR5 := Lib.hid (HR4.out.below hb5 HR4.out.lt)
        have HL5 := Lib.hid (HL4.out.trans (hb5.mono HL4.out.size))
        clear hb5 HR4 HL4 HX4 HY4 HZ4
        have q0 := HR5.out.cell 0
        have q1 := HR5.out.cell 1
        have q2 := HR5.out.cell 2
        have q3 := HR5.out.cell 3
        simp at q0 q1 q2 q3
        have hb6 : Below w5.heap.size w5 (w5.alloc (.cells #[.slice wA eo.length wc, .slice wB en.length wd] 39)) := (Below.refl _ _).alloc (Nat.le_refl _) _
        have HP6 : Hid (Row (w5.alloc (.cells #[.slice wA eo.length wc, .slice wB en.length wd] 39)) w5.heap.size 39 #[.slice wA eo.length wc, .slice wB en.length wd]) := Lib.hid (heap_alloc_new w5 _)
        have hwcw : w.heap.size < w5.heap.size := HR5.out.lt
        have HR6 := Lib.hid (HR5.out.below hb6 HR5.out.lt)
        have HL6 := Lib.hid (HL5.out.trans (hb6.mono HL5.out.size))
        have HW6 := Lib.hid (HW5.out.on hb6)
        have HU6 := Lib.hid (HU5.out.on hb6)
        clear hb6 HR5 HL5 HW5 HU5
        go_wp2_with fail
        generalize w5.alloc (.cells #[.slice wA eo.length wc, .slice wB en.length wd] 39) = w6 at *
        generalize w5.heap.size = cw at *
        obtain ⟨s1, hs1e⟩ : ∃ s1 : Nat, w6.heap.size = s1 := ⟨_, rfl⟩
        have hcs1 : cw < s1 := by have := HP6.out.lt; omega
        have hsv6 : s1 ≤ w6.heap.size := by omega
        rw [hs1e] at HW6 HU6
        refine (toCircuit_rows i nA gA oA nc gc oc ns gs os _ ((HC.out.below HL6.out).mono HL6.out.size) (by omega) (by omega) (by omega)).mono ?_
        rintro e w7 ⟨b1, b2, b3, rfl, hx7, hb7⟩
        rw [hs1e] at hx7
        clear q0 q1 q2 q3
        have HX7 := Lib.hid hx7
        clear hx7
        have hsv7 : s1 ≤ w7.heap.size := Nat.le_trans hsv6 hb7.size
        have HR7 := Lib.hid (HR6.out.below hb7 HR6.out.lt)
        have HL7 := Lib.hid (HL6.out.trans (hb7.mono HL6.out.size))
        have HW7 := Lib.hid (HW6.out.below (hb7.mono (by omega)))
        have HU7 := Lib.hid (HU6.out.below (hb7.mono (by omega)))
        have HP7 := Lib.hid (HP6.out.below hb7 HP6.out.lt)
        clear hb7 HR6 HL6 HW6 HU6 HP6
        have hb8 : Below w7.heap.size w7 (w7.alloc (.cells #[.int .i64 i, .slice (some ⟨b1, 0, none⟩) ns.length ns.length, .slice (some ⟨b2, 0, none⟩) gs.length gs.length, .slice (some ⟨b3, 0, none⟩) os.length os.length] 26)) := (Below.refl _ _).alloc (Nat.le_refl _) _
        have HV8 : Hid (Row (w7.alloc (.cells #[.int .i64 i, .slice (some ⟨b1, 0, none⟩) ns.length ns.length, .slice (some ⟨b2, 0, none⟩) gs.length gs.length, .slice (some ⟨b3, 0, none⟩) os.length os.length] 26)) w7.heap.size 26 #[.int .i64 i, .slice (some ⟨b1, 0, none⟩) ns.length ns.length, .slice (some ⟨b2, 0, none⟩) gs.length gs.length, .slice (some ⟨b3, 0, none⟩) os.length os.length]) := Lib.hid (heap_alloc_new w7 _)
        have hcz : b3 < w7.heap.size := HX7.out.outs.lt
        have hsv8 : s1 ≤ (w7.alloc (.cells #[.int .i64 i, .slice (some ⟨b1, 0, none⟩) ns.length ns.length, .slice (some ⟨b2, 0, none⟩) gs.length gs.length, .slice (some ⟨b3, 0, none⟩) os.length os.length] 26)).heap.size := Nat.le_trans hsv7 hb8.size
        have HR8 := Lib.hid (HR7.out.below hb8 HR7.out.lt)
        have HL8 := Lib.hid (HL7.out.trans (hb8.mono HL7.out.size))
        have HW8 := Lib.hid (HW7.out.below (hb8.mono (by omega)))
        have HU8 := Lib.hid (HU7.out.below (hb8.mono (by omega)))
        have HP8 := Lib.hid (HP7.out.below hb8 HP7.out.lt)
        have HX8 := Lib.hid (HX7.out.below hb8)
        clear hb8 HR7 HL7 HW7 HU7 HP7 HX7
        go_wp2_with fail
        generalize w7.alloc (.cells #[.int .i64 i, .slice (some ⟨b1, 0, none⟩) ns.length ns.length, .slice (some ⟨b2, 0, none⟩) gs.length gs.length, .slice (some ⟨b3, 0, none⟩) os.length os.length] 26) = w8 at *
        generalize w7.heap.size = c0 at *
        refine (toBoolS_any sA sc st _ ((HS.out.below HL8.out).mono HL8.out.size) (by omega)).mono ?_
        rintro e w9 ⟨rfl, hb9, hx9⟩
        have hyc : c0 < w8.heap.size := HV8.out.lt
        have HY9 := Lib.hid hx9
        clear hx9
        have hsv9 : s1 ≤ w9.heap.size := Nat.le_trans hsv8 hb9.size
        have HR9 := Lib.hid (HR8.out.below hb9 HR8.out.lt)
        have HL9 := Lib.hid (HL8.out.trans (hb9.mono HL8.out.size))
        have HW9 := Lib.hid (HW8.out.below (hb9.mono (by omega)))
        have HU9 := Lib.hid (HU8.out.below (hb9.mono (by omega)))
        have HP9 := Lib.hid (HP8.out.below hb9 HP8.out.lt)
        have HX9 := Lib.hid (HX8.out.below hb9)
        have HV9 := Lib.hid (HV8.out.below hb9 HV8.out.lt)
        clear hb9 HR8 HL8 HW8 HU8 HP8 HX8 HV8
        generalize w8.heap.size = y0 at *
        go_wp2_with fail
        refine (toBoolS_any iA ic ins _ ((HI.out.below HL9.out).mono HL9.out.size) (by omega)).mono ?_
        rintro e w10 ⟨rfl, hb10, hx10⟩
        have hzy : y0 < w9.heap.size := HY9.out.lt
        have HZ10 := Lib.hid hx10
        clear hx10
        have hsv10 : s1 ≤ w10.heap.size := Nat.le_trans hsv9 hb10.size
        have HR10 := Lib.hid (HR9.out.below hb10 HR9.out.lt)
        have HL10 := Lib.hid (HL9.out.trans (hb10.mono HL9.out.size))
        have HW10 := Lib.hid (HW9.out.below (hb10.mono (by omega)))
        have HU10 := Lib.hid (HU9.out.below (hb10.mono (by omega)))
        have HP10 := Lib.hid (HP9.out.below hb10 HP9.out.lt)
        have HX10 := Lib.hid (HX9.out.below hb10)
        have HV10 := Lib.hid (HV9.out.below hb10 HV9.out.lt)
        have HY10 := Lib.hid (HY9.out.on hb10)
        clear hb10 HR9 HL9 HW9 HU9 HP9 HX9 HV9 HY9
        generalize w9.heap.size = z0 at *
        have p0 := HV10.out.cell 0
        have p1 := HV10.out.cell 1
        have p2 := HV10.out.cell 2
        have p3 := HV10.out.cell 3
        simp at p0 p1 p2 p3
        go_wp2_with fail
        refine (step_any i _ _ _ _ _ _ _ _ _ _ ns gs os st ins _ HX10.out.at HY10.out.bools HZ10.out.bools).mono ?_
        rintro e w11 ⟨eA, eB, rfl, hx11, hb11⟩
        obtain ⟨s2, hs2e⟩ : ∃ s2 : Nat, w10.heap.size = s2 := ⟨_, rfl⟩
        have hzs2 : z0 < s2 := by have := HZ10.out.lt; omega
        rw [hs2e, HEV.out, HEN.out] at hx11
        rw [HEV.out, HEN.out]
        have hsw11 : s2 ≤ w11.heap.size := by have := hb11.size; omega
        clear hs2e p0 p1 p2 p3
        have HG11 := Lib.hid hx11
        clear hx11
        have hsv11 : s1 ≤ w11.heap.size := Nat.le_trans hsv10 hb11.size
        have HR11 := Lib.hid (HR10.out.below hb11 HR10.out.lt)
        have HL11 := Lib.hid (HL10.out.trans (hb11.mono HL10.out.size))
        have HW11 := Lib.hid (HW10.out.below (hb11.mono (by omega)))
        have HU11 := Lib.hid (HU10.out.below (hb11.mono (by omega)))
        have HP11 := Lib.hid (HP10.out.below hb11 HP10.out.lt)
        have HX11 := Lib.hid (HX10.out.below hb11)
        have HV11 := Lib.hid (HV10.out.below hb11 HV10.out.lt)
        have HY11 := Lib.hid (HY10.out.on hb11)
        have HZ11 := Lib.hid (HZ10.out.on hb11)
        clear hb11 HR10 HL10 HW10 HU10 HP10 HX10 HV10 HY10 HZ10
        have HLT := Lib.hid HG11.out.lt
        have v0 := HP11.out.cell 0
        have v1 := HP11.out.cell 1
        simp at v0 v1
        have hcwl := HP11.out.lt
        have hcwn : cw ≠ w11.heap.size := by omega
        have hb12 : Below w11.heap.size w11 (w11.alloc (.cells #[.slice eA eo.length eo.length, .slice eB en.length en.length] 39)) := (Below.refl _ _).alloc (Nat.le_refl _) _
        have HK12 : Hid (Row (w11.alloc (.cells #[.slice eA eo.length eo.length, .slice eB en.length en.length] 39)) w11.heap.size 39 #[.slice eA eo.length eo.length, .slice eB en.length en.length]) := Lib.hid (heap_alloc_new w11 _)
        have hsv12 : s1 ≤ (w11.alloc (.cells #[.slice eA eo.length eo.length, .slice eB en.length en.length] 39)).heap.size := Nat.le_trans hsv11 hb12.size
        have hsw12 : s2 ≤ (w11.alloc (.cells #[.slice eA eo.length eo.length, .slice eB en.length en.length] 39)).heap.size := Nat.le_trans hsw11 hb12.size
        have HR12 := Lib.hid (HR11.out.below hb12 HR11.out.lt)
        have HL12 := Lib.hid (HL11.out.trans (hb12.mono HL11.out.size))
        have HW12 := Lib.hid (HW11.out.below (hb12.mono (by omega)))
        have HU12 := Lib.hid (HU11.out.below (hb12.mono (by omega)))
        have HP12 := Lib.hid (HP11.out.below hb12 HP11.out.lt)
        have HX12 := Lib.hid (HX11.out.below hb12)
        have HV12 := Lib.hid (HV11.out.below hb12 HV11.out.lt)
        have HY12 := Lib.hid (HY11.out.on hb12)
        have HZ12 := Lib.hid (HZ11.out.on hb12)
        have HG12 := Lib.hid (HG11.out.on hb12)
        clear hb12 HR11 HL11 HW11 HU11 HP11 HX11 HV11 HY11 HZ11 HG11
        go_wp2_with fail
        generalize w11.alloc (.cells #[.slice eA eo.length eo.length, .slice eB en.length en.length] 39) = w12 at *
        generalize w11.heap.size = c1 at *
        clear v0 v1 hcwl hcwn
        refine (eqStep_any eA eB wA wB _ _ _ _ eo en _ HG12.out.fst.bools HG12.out.snd.bools (HW12.out.mono hsv12) (HU12.out.mono hsv12) (by omega) (by omega)).mono ?_
        rintro e w13 ⟨rfl, hb13⟩
        have hsv13 : s1 ≤ w13.heap.size := Nat.le_trans hsv12 hb13.size
        have hsw13 : s2 ≤ w13.heap.size := Nat.le_trans hsw12 hb13.size
        have HR13 := Lib.hid (HR12.out.below hb13 HR12.out.lt)
        have HL13 := Lib.hid (HL12.out.trans (hb13.mono HL12.out.size))
        have HW13 := Lib.hid (HW12.out.below (hb13.mono (by omega)))
        have HU13 := Lib.hid (HU12.out.below (hb13.mono (by omega)))
        have HP13 := Lib.hid (HP12.out.below hb13 HP12.out.lt)
        have HX13 := Lib.hid (HX12.out.below hb13)
        have HV13 := Lib.hid (HV12.out.below hb13 HV12.out.lt)
        have HY13 := Lib.hid (HY12.out.on hb13)
        have HZ13 := Lib.hid (HZ12.out.on hb13)
        have HG13 := Lib.hid (HG12.out.on hb13)
        have HK13 := Lib.hid (HK12.out.below hb13 HK12.out.lt)
        clear hb13 HR12 HL12 HW12 HU12 HP12 HX12 HV12 HY12 HZ12 HG12 HK12
        have q0 := HR13.out.cell 0
        have q1 := HR13.out.cell 1
        have q2 := HR13.out.cell 2
        have q3 := HR13.out.cell 3
        simp at q0 q1 q2 q3
        have p0 := HV13.out.cell 0
        have p1 := HV13.out.cell 1
        have p2 := HV13.out.cell 2
        have p3 := HV13.out.cell 3
        simp at p0 p1 p2 p3
        have hz1 := HR13.out.lt
        have hz2 := HV13.out.lt
        go_wp2
        go_region_held3 (fun w' => (w'.cell? ⟨w.heap.size, 0, none⟩ = some (.int .i64 i) ∧ w'.cell? ⟨w.heap.size, 1, none⟩ = some (.slice nA ns.length nc) ∧ w'.cell? ⟨w.heap.size, 2, none⟩ = some (.slice gA gs.length gc) ∧ w'.cell? ⟨w.heap.size, 3, none⟩ = some (.slice oA os.length oc)) ∧
            w'.cell? ⟨c0, 0, none⟩ = some (.int .i64 i) ∧ w'.cell? ⟨c0, 1, none⟩ = some (.slice (some ⟨b1, 0, none⟩) ns.length ns.length) ∧ w'.cell? ⟨c0, 2, none⟩ = some (.slice (some ⟨b2, 0, none⟩) gs.length gs.length) ∧ w'.cell? ⟨c0, 3, none⟩ = some (.slice (some ⟨b3, 0, none⟩) os.length os.length))
          (first | go_keep | (refine ⟨⟨?_, ?_, ?_, ?_⟩, ?_, ?_, ?_, ?_⟩ <;> (rw [hc7 _ _ (by simp; omega)]; simp [*])) | (refine ⟨⟨?_, ?_, ?_, ?_⟩, ?_, ?_, ?_, ?_⟩ <;> (rw [hc8 _ _ (by omega), hc7 _ _ (by simp; omega)]; simp [*])))
          (first
            | (go_at_call 24; go_must (refine (toCircuit_any i nA gA oA nc gc oc ns gs os _ ?_ ?_ ?_ ?_).mono ?_; (exact ((HC.out.below HL13.out.drew).mono HL13.out.drew.size)); (omega); (omega); (omega); rintro e u7 ⟨e1, e2, e3, f1, f2, f3, rfl, hC7, hb7⟩; obtain ⟨hc7, hf7⟩ := bcell hb7; have hz7 : w13.heap.size ≤ u7.heap.size := hb7.size))
            | (go_at_call 27; refine (eqCircuit_any i _ _ _ e1 e2 e3 _ _ _ f1 f2 f3 ns gs os _ ?_ ?_ ?_ ?_ ?_).mono ?_; (exact ((HX13.out.at.below (Below.refl _ _).drew).below hb7).mono hb7.size); (exact hC7); (omega); (omega); (omega); rintro e u8 ⟨rfl, hb8⟩; obtain ⟨hc8, hf8⟩ := bcell hb8))
        clear hc7 hf7 hc8 hf8 p0 p1 p2 p3 q0 q1 q2 q3
        have hb14 : Below w13.heap.size w13 u8 := ((Below.refl _ w13).drew.trans hb7).trans (hb8.mono hz7)
        clear hb7 hb8 hz7 hC7 hz1 hz2
        have hsv14 : s1 ≤ u8.heap.size := Nat.le_trans hsv13 hb14.size
        have hsw14 : s2 ≤ u8.heap.size := Nat.le_trans hsw13 hb14.size
        have HR14 := Lib.hid (HR13.out.below hb14 HR13.out.lt)
        have HL14 := Lib.hid (HL13.out.trans (hb14.mono HL13.out.size))
        have HW14 := Lib.hid (HW13.out.below (hb14.mono (by omega)))
        have HU14 := Lib.hid (HU13.out.below (hb14.mono (by omega)))
        have HP14 := Lib.hid (HP13.out.below hb14 HP13.out.lt)
        have HX14 := Lib.hid (HX13.out.below hb14)
        have HV14 := Lib.hid (HV13.out.below hb14 HV13.out.lt)
        have HY14 := Lib.hid (HY13.out.on hb14)
        have HZ14 := Lib.hid (HZ13.out.on hb14)
        have HG14 := Lib.hid (HG13.out.on hb14)
        have HK14 := Lib.hid (HK13.out.below hb14 HK13.out.lt)
        clear hb14 HR13 HL13 HW13 HU13 HP13 HX13 HV13 HY13 HZ13 HG13 HK13
        rename_i _hheld
        clear _hheld
        generalize u8 = w14 at *
        go_wp2_with fail
        refine (toBoolS_any sA sc st _ ((HS.out.below HL14.out).mono HL14.out.size) (by omega)).mono ?_
        rintro e w15 ⟨rfl, hb15, hx15⟩
        have HT15 := Lib.hid hx15
        clear hx15
        have hsv15 : s1 ≤ w15.heap.size := Nat.le_trans hsv14 hb15.size
        have hsw15 : s2 ≤ w15.heap.size := Nat.le_trans hsw14 hb15.size
        have HR15 := Lib.hid (HR14.out.below hb15 HR14.out.lt)
        have HL15 := Lib.hid (HL14.out.trans (hb15.mono HL14.out.size))
        have HW15 := Lib.hid (HW14.out.below (hb15.mono (by omega)))
        have HU15 := Lib.hid (HU14.out.below (hb15.mono (by omega)))
        have HP15 := Lib.hid (HP14.out.below hb15 HP14.out.lt)
        have HX15 := Lib.hid (HX14.out.below hb15)
        have HV15 := Lib.hid (HV14.out.below hb15 HV14.out.lt)
        have HY15 := Lib.hid (HY14.out.on hb15)
        have HZ15 := Lib.hid (HZ14.out.on hb15)
        have HG15 := Lib.hid (HG14.out.on hb15)
        have HK15 := Lib.hid (HK14.out.below hb15 HK14.out.lt)
        clear hb15 HR14 HL14 HW14 HU14 HP14 HX14 HV14 HY14 HZ14 HG14 HK14
        go_wp2_with fail
        refine (eqBoolS_any _ _ _ _ st _ (HY15.out.bools) (HT15.out.bools) (by omega)).mono ?_
        rintro e w16 ⟨rfl, hb16⟩
        have hsv16 : s1 ≤ w16.heap.size := Nat.le_trans hsv15 hb16.size
        have hsw16 : s2 ≤ w16.heap.size := Nat.le_trans hsw15 hb16.size
        have HR16 := Lib.hid (HR15.out.below hb16 HR15.out.lt)
        have HL16 := Lib.hid (HL15.out.trans (hb16.mono HL15.out.size))
        have HW16 := Lib.hid (HW15.out.below (hb16.mono (by omega)))
        have HU16 := Lib.hid (HU15.out.below (hb16.mono (by omega)))
        have HP16 := Lib.hid (HP15.out.below hb16 HP15.out.lt)
        have HX16 := Lib.hid (HX15.out.below hb16)
        have HV16 := Lib.hid (HV15.out.below hb16 HV15.out.lt)
        have HY16 := Lib.hid (HY15.out.on hb16)
        have HZ16 := Lib.hid (HZ15.out.on hb16)
        have HG16 := Lib.hid (HG15.out.on hb16)
        have HK16 := Lib.hid (HK15.out.below hb16 HK15.out.lt)
        clear hb16 HR15 HL15 HW15 HU15 HP15 HX15 HV15 HY15 HZ15 HG15 HK15 HT15
        go_wp2_with fail
        refine (toBoolS_any iA ic ins _ ((HI.out.below HL16.out).mono HL16.out.size) (by omega)).mono ?_
        rintro e w17 ⟨rfl, hb17, hx17⟩
        have HT17 := Lib.hid hx17
        clear hx17
        have hsv17 : s1 ≤ w17.heap.size := Nat.le_trans hsv16 hb17.size
        have hsw17 : s2 ≤ w17.heap.size := Nat.le_trans hsw16 hb17.size
        have HR17 := Lib.hid (HR16.out.below hb17 HR16.out.lt)
        have HL17 := Lib.hid (HL16.out.trans (hb17.mono HL16.out.size))
        have HW17 := Lib.hid (HW16.out.below (hb17.mono (by omega)))
        have HU17 := Lib.hid (HU16.out.below (hb17.mono (by omega)))
        have HP17 := Lib.hid (HP16.out.below hb17 HP16.out.lt)
        have HX17 := Lib.hid (HX16.out.below hb17)
        have HV17 := Lib.hid (HV16.out.below hb17 HV16.out.lt)
        have HY17 := Lib.hid (HY16.out.on hb17)
        have HZ17 := Lib.hid (HZ16.out.on hb17)
        have HG17 := Lib.hid (HG16.out.on hb17)
        have HK17 := Lib.hid (HK16.out.below hb17 HK16.out.lt)
        clear hb17 HR16 HL16 HW16 HU16 HP16 HX16 HV16 HY16 HZ16 HG16 HK16
        go_wp2_with fail
        refine (eqBoolS_any _ _ _ _ ins _ (HZ17.out.bools) (HT17.out.bools) (by omega)).mono ?_
        rintro e w18 ⟨rfl, hb18⟩
        have hsv18 : s1 ≤ w18.heap.size := Nat.le_trans hsv17 hb18.size
        have hsw18 : s2 ≤ w18.heap.size := Nat.le_trans hsw17 hb18.size
        have HR18 := Lib.hid (HR17.out.below hb18 HR17.out.lt)
        have HL18 := Lib.hid (HL17.out.trans (hb18.mono HL17.out.size))
        have HW18 := Lib.hid (HW17.out.below (hb18.mono (by omega)))
        have HU18 := Lib.hid (HU17.out.below (hb18.mono (by omega)))
        have HP18 := Lib.hid (HP17.out.below hb18 HP17.out.lt)
        have HX18 := Lib.hid (HX17.out.below hb18)
        have HV18 := Lib.hid (HV17.out.below hb18 HV17.out.lt)
        have HY18 := Lib.hid (HY17.out.on hb18)
        have HZ18 := Lib.hid (HZ17.out.on hb18)
        have HG18 := Lib.hid (HG17.out.on hb18)
        have HK18 := Lib.hid (HK17.out.below hb18 HK17.out.lt)
        clear hb18 HR17 HL17 HW17 HU17 HP17 HX17 HV17 HY17 HZ17 HG17 HK17 HT17
        have p0 := HV18.out.cell 0
        have p1 := HV18.out.cell 1
        have p2 := HV18.out.cell 2
        have p3 := HV18.out.cell 3
        simp at p0 p1 p2 p3
        go_wp2_with fail
        rw [show (1 : Int) = ((1 : Nat) : Int) from rfl]
        refine (markCircuit_any i s1 b1 b2 b3 1 ns gs os _ HX18.out (by omega) (by omega) (by omega) (by omega)).mono ?_
        rintro e w19 ⟨rfl, hm19⟩
        have hb1s : s1 ≤ b1 := HX18.out.b0
        have hb12 : b1 < b2 := HX18.out.b1
        have hb23 : b2 < b3 := HX18.out.b2
        have HR19 := Lib.hid (hm19.row HR18.out (by omega))
        have HP19 := Lib.hid (hm19.row HP18.out (by omega))
        have HY19 := Lib.hid (hm19.brow HY18.out (by omega))
        have HZ19 := Lib.hid (hm19.brow HZ18.out (by omega))
        have hmw19 := hm19.wide (lo' := s1) (hi' := s2) (by omega) (by omega)
        have HK19 := Lib.hid (hmw19.row HK18.out (by omega))
        have HW19 := Lib.hid (hmw19.bools HW18.out (Nat.le_refl _) hsv18)
        have HU19 := Lib.hid (hmw19.bools HU18.out (Nat.le_refl _) hsv18)
        have HG19 := Lib.hid (hmw19.bpair HG18.out)
        have HL19 := Lib.hid (HL18.out.trans ((hmw19.below hsv18).mono (by omega)))
        have hsv19 : s1 ≤ w19.heap.size := Nat.le_trans hsv18 hmw19.size
        have hsw19 : s2 ≤ w19.heap.size := Nat.le_trans hsw18 hmw19.size
        clear hm19 hmw19 HR18 HP18 HY18 HZ18 HK18 HW18 HU18 HG18 HL18 HV18 HX18 p0 p1 p2 p3
        generalize hkk : 1 + ns.length + 2 * gs.length + os.length = kk at *
        have hkb : kk ≤ 5000000 := by omega
        clear hkk
        go_wp2_with fail
        obtain ⟨cs20, hrr20, hff20⟩ := HY19.out
        refine (markB_row y0 _ kk cs20 _ hrr20 hff20.1 (by omega) (by omega)).mono ?_
        rintro e w20 ⟨rfl, _, ho20⟩
        have hmw20 := ho20.mid (lo := s1) (hi := s2) (by omega) (by omega)
        have HR20 := Lib.hid (hmw20.row HR19.out (by omega))
        have HP20 := Lib.hid (hmw20.row HP19.out (by omega))
        have HZ20 := Lib.hid (ho20.brow HZ19.out (by intro e; injection e; omega))
        have HK20 := Lib.hid (hmw20.row HK19.out (by omega))
        have HW20 := Lib.hid (hmw20.bools HW19.out (Nat.le_refl _) hsv19)
        have HU20 := Lib.hid (hmw20.bools HU19.out (Nat.le_refl _) hsv19)
        have HG20 := Lib.hid (hmw20.bpair HG19.out)
        have HL20 := Lib.hid (HL19.out.trans ((hmw20.below hsv19).mono (by omega)))
        have hsv20 : s1 ≤ w20.heap.size := Nat.le_trans hsv19 hmw20.size
        have hsw20 : s2 ≤ w20.heap.size := Nat.le_trans hsw19 hmw20.size
        clear ho20 hmw20 HR19 HP19 HK19 HW19 HU19 HG19 HL19 hrr20 hff20 HZ19 HY19
        generalize hkk : kk + st.length = kk2 at *
        have hkb20 : kk2 ≤ 7000000 := by omega
        clear hkk
        go_wp2_with fail
        obtain ⟨cs21, hrr21, hff21⟩ := HZ20.out
        refine (markB_row z0 _ kk2 cs21 _ hrr21 hff21.1 (by omega) (by omega)).mono ?_
        rintro e w21 ⟨rfl, _, ho21⟩
        have hmw21 := ho21.mid (lo := s1) (hi := s2) (by omega) (by omega)
        have HR21 := Lib.hid (hmw21.row HR20.out (by omega))
        have HP21 := Lib.hid (hmw21.row HP20.out (by omega))
        have HK21 := Lib.hid (hmw21.row HK20.out (by omega))
        have HW21 := Lib.hid (hmw21.bools HW20.out (Nat.le_refl _) hsv20)
        have HU21 := Lib.hid (hmw21.bools HU20.out (Nat.le_refl _) hsv20)
        have HG21 := Lib.hid (hmw21.bpair HG20.out)
        have HL21 := Lib.hid (HL20.out.trans ((hmw21.below hsv20).mono (by omega)))
        have hsv21 : s1 ≤ w21.heap.size := Nat.le_trans hsv20 hmw21.size
        have hsw21 : s2 ≤ w21.heap.size := Nat.le_trans hsw20 hmw21.size
        clear ho21 hmw21 HR20 HP20 HK20 HW20 HU20 HG20 HL20 hrr21 hff21 HZ20
        generalize hkk : kk2 + ins.length = kk3 at *
        have hkb21 : kk3 ≤ 9000000 := by omega
        clear hkk
        have r0 := HK21.out.cell 0
        have r1 := HK21.out.cell 1
        simp at r0 r1
        have v0 := HP21.out.cell 0
        have v1 := HP21.out.cell 1
        simp at v0 v1
        go_wp2_with fail
        refine (eqStep_any eA eB wA wB _ _ _ _ eo en _ HG21.out.fst.bools HG21.out.snd.bools (HW21.out.mono hsv21) (HU21.out.mono hsv21) (by omega) (by omega)).mono ?_
        rintro e w22 ⟨rfl, hb22⟩
        clear r0 r1 v0 v1
        have hsv22 : s1 ≤ w22.heap.size := Nat.le_trans hsv21 hb22.size
        have hsw22 : s2 ≤ w22.heap.size := Nat.le_trans hsw21 hb22.size
        have HR22 := Lib.hid (HR21.out.below hb22 HR21.out.lt)
        have HP22 := Lib.hid (HP21.out.below hb22 HP21.out.lt)
        have HK22 := Lib.hid (HK21.out.below hb22 HK21.out.lt)
        have HL22 := Lib.hid (HL21.out.trans (hb22.mono HL21.out.size))
        have HW22 := Lib.hid (HW21.out.below (hb22.mono (by omega)))
        have HU22 := Lib.hid (HU21.out.below (hb22.mono (by omega)))
        have HG22 := Lib.hid (HG21.out.on hb22)
        clear hb22 HR21 HP21 HK21 HL21 HW21 HU21 HG21
        have r0 := HK22.out.cell 0
        have r1 := HK22.out.cell 1
        simp at r0 r1
        go_wp2_with fail
        rw [show (1 : Int) = ((1 : Nat) : Int) from rfl]
        refine (markStep_any eA eB s2 _ _ 1 eo en _ HG22.out rfl rfl (by omega) (by omega) (by omega) hsw22 c1 HLT.out).mono ?_
        rintro e w23 ⟨rfl, hx23, hm23⟩
        have hb23 := hm23.below hsw22
        have HG23 := Lib.hid hx23
        have HR23 := Lib.hid (hm23.row HR22.out (by omega))
        have HP23 := Lib.hid (hm23.row HP22.out (by omega))
        have HK23 := Lib.hid (hm23.row HK22.out (by omega))
        have HW23 := Lib.hid (HW22.out.below (hb23.mono (by omega)))
        have HU23 := Lib.hid (HU22.out.below (hb23.mono (by omega)))
        have HL23 := Lib.hid (HL22.out.trans (hb23.mono (by omega)))
        have hsv23 : s1 ≤ w23.heap.size := Nat.le_trans hsv22 hb23.size
        have hsw23 : s2 ≤ w23.heap.size := Nat.le_trans hsw22 hb23.size
        clear hx23 hb23 hm23 HR22 HP22 HK22 HW22 HU22 HG22 HL22 r0 r1
        generalize hmm : 1 + eo.length + en.length = mm at *
        have HMM := Lib.hid hmm
        have hmmb : mm ≤ 5000000 := by omega
        clear hmm
        have r0 := HK23.out.cell 0
        have r1 := HK23.out.cell 1
        simp at r0 r1
        go_wp2_with fail
        rw [show (1 : Int) = ((1 : Nat) : Int) from rfl]
        refine (heldStep_any eA eB s2 _ _ 1 _ HG23.out (by omega) (by omega) (by omega)).mono ?_
        rintro e w24 ⟨rfl, hb24⟩
        rw [HMM.out]
        clear r0 r1
        have hsv24 : s1 ≤ w24.heap.size := Nat.le_trans hsv23 hb24.size
        have hsw24 : s2 ≤ w24.heap.size := Nat.le_trans hsw23 hb24.size
        have HR24 := Lib.hid (HR23.out.below hb24 HR23.out.lt)
        have HP24 := Lib.hid (HP23.out.below hb24 HP23.out.lt)
        have HK24 := Lib.hid (HK23.out.below hb24 HK23.out.lt)
        have HL24 := Lib.hid (HL23.out.trans (hb24.mono HL23.out.size))
        have HW24 := Lib.hid (HW23.out.below (hb24.mono (by omega)))
        have HU24 := Lib.hid (HU23.out.below (hb24.mono (by omega)))
        have HG24 := Lib.hid (BPair.on HG23.out hb24)
        clear hb24 HR23 HP23 HK23 HL23 HW23 HU23 HG23
        have q0 := HR24.out.cell 0
        have q1 := HR24.out.cell 1
        have q2 := HR24.out.cell 2
        have q3 := HR24.out.cell 3
        simp at q0 q1 q2 q3
        go_wp2_with fail
        refine (toCircuit_rows i nA gA oA nc gc oc ns gs os _ ((HC.out.below HL24.out).mono HL24.out.size) (by omega) (by omega) (by omega)).mono ?_
        rintro e w25 ⟨d1, d2, d3, rfl, hx25, hb25⟩
        clear q0 q1 q2 q3
        have HX25 := Lib.hid hx25
        clear hx25
        have hsv25 : s1 ≤ w25.heap.size := Nat.le_trans hsv24 hb25.size
        have hsw25 : s2 ≤ w25.heap.size := Nat.le_trans hsw24 hb25.size
        have HR25 := Lib.hid (HR24.out.below hb25 HR24.out.lt)
        have HP25 := Lib.hid (HP24.out.below hb25 HP24.out.lt)
        have HK25 := Lib.hid (HK24.out.below hb25 HK24.out.lt)
        have HL25 := Lib.hid (HL24.out.trans (hb25.mono HL24.out.size))
        have HW25 := Lib.hid (HW24.out.below (hb25.mono (by omega)))
        have HU25 := Lib.hid (HU24.out.below (hb25.mono (by omega)))
        have HG25 := Lib.hid (BPair.on HG24.out hb25)
        clear hb25 HR24 HP24 HK24 HL24 HW24 HU24 HG24
        go_wp2_with fail
        refine (toBoolS_any sA sc st _ ((HS.out.below HL25.out).mono HL25.out.size) (by omega)).mono ?_
        rintro e w26 ⟨rfl, hb26, hx26⟩
        have HY26 := Lib.hid hx26
        clear hx26
        have hsv26 : s1 ≤ w26.heap.size := Nat.le_trans hsv25 hb26.size
        have hsw26 : s2 ≤ w26.heap.size := Nat.le_trans hsw25 hb26.size
        have HR26 := Lib.hid (HR25.out.below hb26 HR25.out.lt)
        have HP26 := Lib.hid (HP25.out.below hb26 HP25.out.lt)
        have HK26 := Lib.hid (HK25.out.below hb26 HK25.out.lt)
        have HL26 := Lib.hid (HL25.out.trans (hb26.mono HL25.out.size))
        have HW26 := Lib.hid (HW25.out.below (hb26.mono (by omega)))
        have HU26 := Lib.hid (HU25.out.below (hb26.mono (by omega)))
        have HG26 := Lib.hid (BPair.on HG25.out hb26)
        have HX26 := Lib.hid (HX25.out.below hb26)
        clear hb26 HR25 HP25 HK25 HL25 HW25 HU25 HG25 HX25
        go_wp2_with fail
        refine (toBoolS_any iA ic ins _ ((HI.out.below HL26.out).mono HL26.out.size) (by omega)).mono ?_
        rintro e w27 ⟨rfl, hb27, hx27⟩
        have HZ27 := Lib.hid hx27
        clear hx27
        have hsv27 : s1 ≤ w27.heap.size := Nat.le_trans hsv26 hb27.size
        have hsw27 : s2 ≤ w27.heap.size := Nat.le_trans hsw26 hb27.size
        have HR27 := Lib.hid (HR26.out.below hb27 HR26.out.lt)
        have HP27 := Lib.hid (HP26.out.below hb27 HP26.out.lt)
        have HK27 := Lib.hid (HK26.out.below hb27 HK26.out.lt)
        have HL27 := Lib.hid (HL26.out.trans (hb27.mono HL26.out.size))
        have HW27 := Lib.hid (HW26.out.below (hb27.mono (by omega)))
        have HU27 := Lib.hid (HU26.out.below (hb27.mono (by omega)))
        have HG27 := Lib.hid (BPair.on HG26.out hb27)
        have HX27 := Lib.hid (HX26.out.below hb27)
        have HY27 := Lib.hid (HY26.out.on hb27)
        clear hb27 HR26 HP26 HK26 HL26 HW26 HU26 HG26 HX26 HY26
        go_wp2_with fail
        refine (step_any i _ _ _ _ _ _ _ _ _ _ ns gs os st ins _ HX27.out.at HY27.out.bools HZ27.out.bools).mono ?_
        rintro e w28 ⟨hA, hB, rfl, hx28, hb28⟩
        rw [HEV.out, HEN.out] at hx28
        rw [HEV.out, HEN.out]
        have HH28 := Lib.hid hx28
        clear hx28
        have hsv28 : s1 ≤ w28.heap.size := Nat.le_trans hsv27 hb28.size
        have hsw28 : s2 ≤ w28.heap.size := Nat.le_trans hsw27 hb28.size
        have HR28 := Lib.hid (HR27.out.below hb28 HR27.out.lt)
        have HP28 := Lib.hid (HP27.out.below hb28 HP27.out.lt)
        have HK28 := Lib.hid (HK27.out.below hb28 HK27.out.lt)
        have HL28 := Lib.hid (HL27.out.trans (hb28.mono HL27.out.size))
        have HW28 := Lib.hid (HW27.out.below (hb28.mono (by omega)))
        have HU28 := Lib.hid (HU27.out.below (hb28.mono (by omega)))
        have HG28 := Lib.hid (BPair.on HG27.out hb28)
        clear hb28 HR27 HP27 HK27 HL27 HW27 HU27 HG27 HX27 HY27 HZ27
        have v0 := HP28.out.cell 0
        have v1 := HP28.out.cell 1
        simp at v0 v1
        have hcwl := HP28.out.lt
        have hcwn : cw ≠ w28.heap.size := by omega
        have hb29 : Below w28.heap.size w28 (w28.alloc (.cells #[.slice hA eo.length eo.length, .slice hB en.length en.length] 39)) := (Below.refl _ _).alloc (Nat.le_refl _) _
        have HJ29 : Hid (Row (w28.alloc (.cells #[.slice hA eo.length eo.length, .slice hB en.length en.length] 39)) w28.heap.size 39 #[.slice hA eo.length eo.length, .slice hB en.length en.length]) := Lib.hid (heap_alloc_new w28 _)
        have hsv29 : s1 ≤ (w28.alloc (.cells #[.slice hA eo.length eo.length, .slice hB en.length en.length] 39)).heap.size := Nat.le_trans hsv28 hb29.size
        have hsw29 : s2 ≤ (w28.alloc (.cells #[.slice hA eo.length eo.length, .slice hB en.length en.length] 39)).heap.size := Nat.le_trans hsw28 hb29.size
        have HR29 := Lib.hid (HR28.out.below hb29 HR28.out.lt)
        have HP29 := Lib.hid (HP28.out.below hb29 HP28.out.lt)
        have HK29 := Lib.hid (HK28.out.below hb29 HK28.out.lt)
        have HL29 := Lib.hid (HL28.out.trans (hb29.mono HL28.out.size))
        have HW29 := Lib.hid (HW28.out.below (hb29.mono (by omega)))
        have HU29 := Lib.hid (HU28.out.below (hb29.mono (by omega)))
        have HG29 := Lib.hid (BPair.on HG28.out hb29)
        have HH29 := Lib.hid (HH28.out.on hb29)
        clear hb29 HR28 HP28 HK28 HL28 HW28 HU28 HG28 HH28
        go_wp2_with fail
        generalize w28.alloc (.cells #[.slice hA eo.length eo.length, .slice hB en.length en.length] 39) = w29 at *
        generalize w28.heap.size = c2 at *
        clear v0 v1 hcwl hcwn
        refine (eqStep_any hA hB wA wB _ _ _ _ eo en _ HH29.out.fst.bools HH29.out.snd.bools (HW29.out.mono hsv29) (HU29.out.mono hsv29) (by omega) (by omega)).mono ?_
        rintro e w30 ⟨rfl, hb30⟩
        have hsv30 : s1 ≤ w30.heap.size := Nat.le_trans hsv29 hb30.size
        have hsw30 : s2 ≤ w30.heap.size := Nat.le_trans hsw29 hb30.size
        have HR30 := Lib.hid (HR29.out.below hb30 HR29.out.lt)
        have HP30 := Lib.hid (HP29.out.below hb30 HP29.out.lt)
        have HK30 := Lib.hid (HK29.out.below hb30 HK29.out.lt)
        have HL30 := Lib.hid (HL29.out.trans (hb30.mono HL29.out.size))
        have HW30 := Lib.hid (HW29.out.below (hb30.mono (by omega)))
        have HU30 := Lib.hid (HU29.out.below (hb30.mono (by omega)))
        have HG30 := Lib.hid (BPair.on HG29.out hb30)
        clear hb30 HR29 HP29 HK29 HL29 HW29 HU29 HG29 HH29 HJ29
        have r0 := HK30.out.cell 0
        have r1 := HK30.out.cell 1
        simp at r0 r1
        go_wp2_with fail
        rw [show (1 : Int) = ((1 : Nat) : Int) from rfl]
        refine (heldStep_any eA eB s2 _ _ 1 _ HG30.out (by omega) (by omega) (by omega)).mono ?_
        rintro e w31 ⟨rfl, hb31⟩
        rw [HMM.out]
        clear r0 r1
        have hsv31 : s1 ≤ w31.heap.size := Nat.le_trans hsv30 hb31.size
        have hsw31 : s2 ≤ w31.heap.size := Nat.le_trans hsw30 hb31.size
        have HR31 := Lib.hid (HR30.out.below hb31 HR30.out.lt)
        have HP31 := Lib.hid (HP30.out.below hb31 HP30.out.lt)
        have HK31 := Lib.hid (HK30.out.below hb31 HK30.out.lt)
        have HL31 := Lib.hid (HL30.out.trans (hb31.mono HL30.out.size))
        have HW31 := Lib.hid (HW30.out.below (hb31.mono (by omega)))
        have HU31 := Lib.hid (HU30.out.below (hb31.mono (by omega)))
        have HG31 := Lib.hid (BPair.on HG30.out hb31)
        clear hb31 HR30 HP30 HK30 HL30 HW30 HU30 HG30
        go_wp2
        go_ret
        exact ⟨rfl, HL31.out⟩
      · go_enter Try.func7, Try.ntmps7
        go_wp2_with (go_at_call 23; refine (szCircuit_no _ _ _ _ _ _ _ _ _ _ _ _ ?_ ?_ ?_ HC.out.nl HC.out.gl HC.out.ol).mono ?_; (omega); (omega); (omega); rintro e w1 ⟨rfl, hb1⟩)
        go_ret
        exact ⟨rfl, ((Below.refl _ _).alloc (Nat.le_refl _) _).trans (hb1.mono (by simp))⟩
    · go_enter Try.func7, Try.ntmps7
      go_wp2
      go_ret
      exact ⟨rfl, (Below.refl _ _).alloc (Nat.le_refl _) _⟩
  · go_enter Try.func7, Try.ntmps7
    go_wp2
    go_ret
    exact ⟨rfl, (Below.refl _ _).alloc (Nat.le_refl _) _⟩
end Go.Proofs.Ytbhkpjcflghgbaa
