/- The walk of the exact law of Optimize, valid circuits. -/
import Derived.Test.YthpiddpkcmecfaaX7a
namespace Go.Proofs.Ythpiddpkcmecfaa
open Go.RowKit Go.Deep
set_option maxRecDepth 100000

set_option maxHeartbeats 2000000 in
theorem xopt_walk_t (i : Int) (nA gA oA : Option Addr) (nc gc oc : Nat) (ns : List Int) (gs : List (Int × Int)) (os : List Int) (w : World) (hc : CircAt w w.heap.size nA gA oA ns gs os) (hv : Circ.validB i ns gs os = true) :
    Calls Try.prog 10 #[.agg #[.int .i64 i, .slice nA ns.length nc, .slice gA gs.length gc, .slice oA os.length oc]] w fun e w' => e = .returned (.bool true) ∧ Below w.heap.size w w' := by
  have HC := Lib.hid hc
  have HV := Lib.hid hv
  clear hc hv
  by_cases hsz : (ns.length : Int) + gs.length + os.length ≤ 1048576
  · have hbw : Below w.heap.size w (w.alloc (.cells #[.int .i64 i, .slice nA ns.length nc, .slice gA gs.length gc, .slice oA os.length oc] 55)) := (Below.refl _ _).alloc (Nat.le_refl _) _
    have HL0 := Lib.hid hbw
    have r0 : Row (w.alloc (.cells #[.int .i64 i, .slice nA ns.length nc, .slice gA gs.length gc, .slice oA os.length oc] 55)) w.heap.size 55 #[.int .i64 i, .slice nA ns.length nc, .slice gA gs.length gc, .slice oA os.length oc] := heap_alloc_new w _
    have HR0 := Lib.hid r0
    clear hbw r0
    obtain ⟨hi0, hi4, hn3, hg14, ho3⟩ := Circ.valid_within HV.out
    obtain ⟨_, hrg, hro, hrn⟩ := Opt.optC_form HV.out
    have HRO := Lib.hid hro
    have HRN := Lib.hid hrn
    have hrn1 : (Opt.optC i ns gs os).ns.length ≤ 1000 := by rw [hrn]; omega
    have hro1 : (Opt.optC i ns gs os).os.length ≤ 1000 := by rw [hro]; omega
    have hrg1 : (Opt.optC i ns gs os).gs.length ≤ 1000 := by omega
    have HIN : Hid ((Opt.intL (Opt.optC i ns gs os).ns).length = ns.length) := Lib.hid (by rw [Opt.intL_len, hrn])
    have HIO : Hid ((Opt.intL (Opt.optC i ns gs os).os).length = os.length) := Lib.hid (by rw [Opt.intL_len, hro])
    have HIG : Hid ((Opt.intG (Opt.optC i ns gs os).gs).length = (Opt.optC i ns gs os).gs.length) := Lib.hid (Opt.intG_len _)
    clear hrn hro hrg
    go_enter Try.func10, Try.ntmps10
    go_wp2_with fail
    refine (szCircuit_ok _ _ _ _ _ _ _ _ _ _ _ _ hsz (by omega)).mono ?_
    rintro e w1 ⟨rfl, hb1⟩
    have HR1 := Lib.hid (HR0.out.below hb1 HR0.out.lt)
    have HL1 := Lib.hid (HL0.out.trans (hb1.mono HL0.out.size))
    clear hb1 HR0 HL0
    have q0 := HR1.out.cell 0
    have q1 := HR1.out.cell 1
    have q2 := HR1.out.cell 2
    have q3 := HR1.out.cell 3
    simp at q0 q1 q2 q3
    go_wp2_with fail
    refine (toCircuit_rows i nA gA oA nc gc oc ns gs os _ ((HC.out.below HL1.out).mono HL1.out.size) (by omega) (by omega) (by omega)).mono ?_
    rintro e w2 ⟨a1, a2, a3, rfl, hx2, hb2⟩
    clear q0 q1 q2 q3
    have HX2 := Lib.hid hx2
    clear hx2
    have HR2 := Lib.hid (HR1.out.below hb2 HR1.out.lt)
    have HL2 := Lib.hid (HL1.out.trans (hb2.mono HL1.out.size))
    clear hb2 HR1 HL1
    go_wp2_with fail
    refine (spec_opt_t i _ _ _ _ _ _ ns gs os _ HX2.out.at HV.out).mono ?_
    rintro e w3 ⟨wN, wG, wO, wn, wg, wo, rfl, hx3, _, _, _, hb3⟩
    have HW3 := Lib.hid hx3
    clear hx3
    have HR3 := Lib.hid (HR2.out.below hb3 HR2.out.lt)
    have HL3 := Lib.hid (HL2.out.trans (hb3.mono HL2.out.size))
    clear hb3 HR2 HL2 HX2
    have q0 := HR3.out.cell 0
    have q1 := HR3.out.cell 1
    have q2 := HR3.out.cell 2
    have q3 := HR3.out.cell 3
    simp at q0 q1 q2 q3
    have hb4 : Below w3.heap.size w3 (w3.alloc (.cells #[.int .i64 i, .slice wN ns.length wn, .slice wG (Opt.optC i ns gs os).gs.length wg, .slice wO os.length wo] 26)) := (Below.refl _ _).alloc (Nat.le_refl _) _
    have HP4 : Hid (Row (w3.alloc (.cells #[.int .i64 i, .slice wN ns.length wn, .slice wG (Opt.optC i ns gs os).gs.length wg, .slice wO os.length wo] 26)) w3.heap.size 26 #[.int .i64 i, .slice wN ns.length wn, .slice wG (Opt.optC i ns gs os).gs.length wg, .slice wO os.length wo]) := Lib.hid (heap_alloc_new w3 _)
    have hwcw : w.heap.size < w3.heap.size := HR3.out.lt
    have HW4 := Lib.hid ((HW3.out.below hb4).mono hb4.size)
    clear HW3
    have HR4 := Lib.hid (HR3.out.below hb4 HR3.out.lt)
    have HL4 := Lib.hid (HL3.out.trans (hb4.mono HL3.out.size))
    clear hb4 HR3 HL3
    go_wp2_with fail
    generalize w3.alloc (.cells #[.int .i64 i, .slice wN ns.length wn, .slice wG (Opt.optC i ns gs os).gs.length wg, .slice wO os.length wo] 26) = w4 at *
    generalize w3.heap.size = cw at *
    obtain ⟨s1, hs1e⟩ : ∃ s1 : Nat, w4.heap.size = s1 := ⟨_, rfl⟩
    have hcs1 : cw < s1 := by have := HP4.out.lt; omega
    have hsv4 : s1 ≤ w4.heap.size := by omega
    rw [hs1e] at HW4
    refine (toCircuit_rows i nA gA oA nc gc oc ns gs os _ ((HC.out.below HL4.out).mono HL4.out.size) (by omega) (by omega) (by omega)).mono ?_
    rintro e w5 ⟨b1, b2, b3, rfl, hx5, hb5⟩
    rw [hs1e] at hx5
    clear q0 q1 q2 q3 hs1e
    have HX5 := Lib.hid hx5
    clear hx5
    have hsv5 : s1 ≤ w5.heap.size := Nat.le_trans hsv4 hb5.size
    have HR5 := Lib.hid (HR4.out.below hb5 HR4.out.lt)
    have HL5 := Lib.hid (HL4.out.trans (hb5.mono HL4.out.size))
    have HW5 := Lib.hid (HW4.out.below (hb5.mono (by omega)))
    have HP5 := Lib.hid (HP4.out.below hb5 HP4.out.lt)
    clear hb5 HR4 HL4 HW4 HP4
    have hb6 : Below w5.heap.size w5 (w5.alloc (.cells #[.int .i64 i, .slice (some ⟨b1, 0, none⟩) ns.length ns.length, .slice (some ⟨b2, 0, none⟩) gs.length gs.length, .slice (some ⟨b3, 0, none⟩) os.length os.length] 26)) := (Below.refl _ _).alloc (Nat.le_refl _) _
    have HV6 : Hid (Row (w5.alloc (.cells #[.int .i64 i, .slice (some ⟨b1, 0, none⟩) ns.length ns.length, .slice (some ⟨b2, 0, none⟩) gs.length gs.length, .slice (some ⟨b3, 0, none⟩) os.length os.length] 26)) w5.heap.size 26 #[.int .i64 i, .slice (some ⟨b1, 0, none⟩) ns.length ns.length, .slice (some ⟨b2, 0, none⟩) gs.length gs.length, .slice (some ⟨b3, 0, none⟩) os.length os.length]) := Lib.hid (heap_alloc_new w5 _)
    have hcz : b3 < w5.heap.size := HX5.out.outs.lt
    have hsv6 : s1 ≤ (w5.alloc (.cells #[.int .i64 i, .slice (some ⟨b1, 0, none⟩) ns.length ns.length, .slice (some ⟨b2, 0, none⟩) gs.length gs.length, .slice (some ⟨b3, 0, none⟩) os.length os.length] 26)).heap.size := Nat.le_trans hsv5 hb6.size
    have HR6 := Lib.hid (HR5.out.below hb6 HR5.out.lt)
    have HL6 := Lib.hid (HL5.out.trans (hb6.mono HL5.out.size))
    have HW6 := Lib.hid (HW5.out.below (hb6.mono (by omega)))
    have HP6 := Lib.hid (HP5.out.below hb6 HP5.out.lt)
    have HX6 := Lib.hid (HX5.out.below hb6)
    clear hb6 HR5 HL5 HW5 HP5 HX5
    go_wp2_with fail
    generalize w5.alloc (.cells #[.int .i64 i, .slice (some ⟨b1, 0, none⟩) ns.length ns.length, .slice (some ⟨b2, 0, none⟩) gs.length gs.length, .slice (some ⟨b3, 0, none⟩) os.length os.length] 26) = w6 at *
    generalize w5.heap.size = c0 at *
    refine (impl_opt_t i _ _ _ _ _ _ ns gs os _ HX6.out.at HV.out).mono ?_
    rintro e w7 ⟨g1, g3, vG, rfl, hx7, hb7⟩
    obtain ⟨s2, hs2e⟩ : ∃ s2 : Nat, w6.heap.size = s2 := ⟨_, rfl⟩
    have hzs2 : c0 < s2 := by have := HV6.out.lt; omega
    rw [hs2e] at hx7
    have hsw7 : s2 ≤ w7.heap.size := by have := hb7.size; omega
    clear hs2e
    obtain ⟨GA, gcap, rfl⟩ := hx7.shape
    have HG7 := Lib.hid hx7
    clear hx7
    have hsv7 : s1 ≤ w7.heap.size := Nat.le_trans hsv6 hb7.size
    have HR7 := Lib.hid (HR6.out.below hb7 HR6.out.lt)
    have HL7 := Lib.hid (HL6.out.trans (hb7.mono HL6.out.size))
    have HW7 := Lib.hid (HW6.out.below (hb7.mono (by omega)))
    have HP7 := Lib.hid (HP6.out.below hb7 HP6.out.lt)
    have HX7 := Lib.hid (HX6.out.below hb7)
    have HV7 := Lib.hid (HV6.out.below hb7 HV6.out.lt)
    clear hb7 HR6 HL6 HW6 HP6 HX6 HV6
    obtain ⟨ht3, htG⟩ := HG7.out.top
    have v0 := HP7.out.cell 0
    have v1 := HP7.out.cell 1
    have v2 := HP7.out.cell 2
    have v3 := HP7.out.cell 3
    simp at v0 v1 v2 v3
    have hcwl := HP7.out.lt
    have hcwn : cw ≠ w7.heap.size := by omega
    have HTG := Lib.hid htG
    clear htG
    have hb8 : Below w7.heap.size w7 (w7.alloc (.cells #[.int .i64 i, .slice (some ⟨g1, 0, none⟩) ns.length ns.length, .slice GA (Opt.optC i ns gs os).gs.length gcap, .slice (some ⟨g3, 0, none⟩) os.length os.length] 26)) := (Below.refl _ _).alloc (Nat.le_refl _) _
    have HK8 : Hid (Row (w7.alloc (.cells #[.int .i64 i, .slice (some ⟨g1, 0, none⟩) ns.length ns.length, .slice GA (Opt.optC i ns gs os).gs.length gcap, .slice (some ⟨g3, 0, none⟩) os.length os.length] 26)) w7.heap.size 26 #[.int .i64 i, .slice (some ⟨g1, 0, none⟩) ns.length ns.length, .slice GA (Opt.optC i ns gs os).gs.length gcap, .slice (some ⟨g3, 0, none⟩) os.length os.length]) := Lib.hid (heap_alloc_new w7 _)
    have hsv8 : s1 ≤ (w7.alloc (.cells #[.int .i64 i, .slice (some ⟨g1, 0, none⟩) ns.length ns.length, .slice GA (Opt.optC i ns gs os).gs.length gcap, .slice (some ⟨g3, 0, none⟩) os.length os.length] 26)).heap.size := Nat.le_trans hsv7 hb8.size
    have hsw8 : s2 ≤ (w7.alloc (.cells #[.int .i64 i, .slice (some ⟨g1, 0, none⟩) ns.length ns.length, .slice GA (Opt.optC i ns gs os).gs.length gcap, .slice (some ⟨g3, 0, none⟩) os.length os.length] 26)).heap.size := Nat.le_trans hsw7 hb8.size
    have HR8 := Lib.hid (HR7.out.below hb8 HR7.out.lt)
    have HL8 := Lib.hid (HL7.out.trans (hb8.mono HL7.out.size))
    have HW8 := Lib.hid (HW7.out.below (hb8.mono (by omega)))
    have HP8 := Lib.hid (HP7.out.below hb8 HP7.out.lt)
    have HX8 := Lib.hid (HX7.out.below hb8)
    have HV8 := Lib.hid (HV7.out.below hb8 HV7.out.lt)
    have HG8 := Lib.hid (HG7.out.on hb8)
    clear hb8 HR7 HL7 HW7 HP7 HX7 HV7 HG7
    go_wp2_with fail
    generalize w7.alloc (.cells #[.int .i64 i, .slice (some ⟨g1, 0, none⟩) ns.length ns.length, .slice GA (Opt.optC i ns gs os).gs.length gcap, .slice (some ⟨g3, 0, none⟩) os.length os.length] 26) = w8 at *
    generalize w7.heap.size = c1 at *
    clear v0 v1 v2 v3 hcwl hcwn
    refine (eqCircuit_len i _ _ _ _ _ _ _ _ _ _ _ _ _ _ _ (Opt.intL (Opt.optC i ns gs os).ns) (Opt.intG (Opt.optC i ns gs os).gs) (Opt.intL (Opt.optC i ns gs os).os) _ (HG8.out.at rfl hrn1 hrg1 hro1) (HW8.out.mono hsv8) HIN.out HIG.out HIO.out (by omega) (by omega) (by omega)).mono ?_
    rintro e w9 ⟨rfl, hb9⟩
    have hsv9 : s1 ≤ w9.heap.size := Nat.le_trans hsv8 hb9.size
    have hsw9 : s2 ≤ w9.heap.size := Nat.le_trans hsw8 hb9.size
    have HR9 := Lib.hid (HR8.out.below hb9 HR8.out.lt)
    have HL9 := Lib.hid (HL8.out.trans (hb9.mono HL8.out.size))
    have HW9 := Lib.hid (HW8.out.below (hb9.mono (by omega)))
    have HP9 := Lib.hid (HP8.out.below hb9 HP8.out.lt)
    have HX9 := Lib.hid (HX8.out.below hb9)
    have HV9 := Lib.hid (HV8.out.below hb9 HV8.out.lt)
    have HG9 := Lib.hid (HG8.out.on hb9)
    have HK9 := Lib.hid (HK8.out.below hb9 HK8.out.lt)
    clear hb9 HR8 HL8 HW8 HP8 HX8 HV8 HG8 HK8
    have q0 := HR9.out.cell 0
    have q1 := HR9.out.cell 1
    have q2 := HR9.out.cell 2
    have q3 := HR9.out.cell 3
    simp at q0 q1 q2 q3
    have p0 := HV9.out.cell 0
    have p1 := HV9.out.cell 1
    have p2 := HV9.out.cell 2
    have p3 := HV9.out.cell 3
    simp at p0 p1 p2 p3
    have hz1 := HR9.out.lt
    have hz2 := HV9.out.lt
    go_wp2
    go_region_held3 (fun w' => (w'.cell? ⟨w.heap.size, 0, none⟩ = some (.int .i64 i) ∧ w'.cell? ⟨w.heap.size, 1, none⟩ = some (.slice nA ns.length nc) ∧ w'.cell? ⟨w.heap.size, 2, none⟩ = some (.slice gA gs.length gc) ∧ w'.cell? ⟨w.heap.size, 3, none⟩ = some (.slice oA os.length oc)) ∧
        w'.cell? ⟨c0, 0, none⟩ = some (.int .i64 i) ∧ w'.cell? ⟨c0, 1, none⟩ = some (.slice (some ⟨b1, 0, none⟩) ns.length ns.length) ∧ w'.cell? ⟨c0, 2, none⟩ = some (.slice (some ⟨b2, 0, none⟩) gs.length gs.length) ∧ w'.cell? ⟨c0, 3, none⟩ = some (.slice (some ⟨b3, 0, none⟩) os.length os.length))
      (first | go_keep | (refine ⟨⟨?_, ?_, ?_, ?_⟩, ?_, ?_, ?_, ?_⟩ <;> (rw [hc7 _ _ (by simp; omega)]; simp [*])) | (refine ⟨⟨?_, ?_, ?_, ?_⟩, ?_, ?_, ?_, ?_⟩ <;> (rw [hc8 _ _ (by omega), hc7 _ _ (by simp; omega)]; simp [*])))
      (first
        | (go_at_call 38; go_must (refine (toCircuit_any i nA gA oA nc gc oc ns gs os _ ?_ ?_ ?_ ?_).mono ?_; (exact ((HC.out.below HL9.out.drew).mono HL9.out.drew.size)); (omega); (omega); (omega); rintro e u7 ⟨e1, e2, e3, f1, f2, f3, rfl, hC7, hb7⟩; obtain ⟨hc7, hf7⟩ := bcell hb7; have hz7 : w9.heap.size ≤ u7.heap.size := hb7.size))
        | (go_at_call 39; refine (eqCircuit_any i _ _ _ e1 e2 e3 _ _ _ f1 f2 f3 ns gs os _ ?_ ?_ ?_ ?_ ?_).mono ?_; (exact ((HX9.out.at.below (Below.refl _ _).drew).below hb7).mono hb7.size); (exact hC7); (omega); (omega); (omega); rintro e u8 ⟨rfl, hb8⟩; obtain ⟨hc8, hf8⟩ := bcell hb8))
    clear hc7 hf7 hc8 hf8 p0 p1 p2 p3 q0 q1 q2 q3
    have hb10 : Below w9.heap.size w9 u8 := ((Below.refl _ w9).drew.trans hb7).trans (hb8.mono hz7)
    clear hb7 hb8 hz7 hC7 hz1 hz2
    have hsv10 : s1 ≤ u8.heap.size := Nat.le_trans hsv9 hb10.size
    have hsw10 : s2 ≤ u8.heap.size := Nat.le_trans hsw9 hb10.size
    have HR10 := Lib.hid (HR9.out.below hb10 HR9.out.lt)
    have HL10 := Lib.hid (HL9.out.trans (hb10.mono HL9.out.size))
    have HW10 := Lib.hid (HW9.out.below (hb10.mono (by omega)))
    have HP10 := Lib.hid (HP9.out.below hb10 HP9.out.lt)
    have HX10 := Lib.hid (HX9.out.below hb10)
    have HV10 := Lib.hid (HV9.out.below hb10 HV9.out.lt)
    have HG10 := Lib.hid (HG9.out.on hb10)
    have HK10 := Lib.hid (HK9.out.below hb10 HK9.out.lt)
    clear hb10 HR9 HL9 HW9 HP9 HX9 HV9 HG9 HK9
    rename_i _hheld
    clear _hheld
    generalize u8 = w10 at *
    have p0 := HV10.out.cell 0
    have p1 := HV10.out.cell 1
    have p2 := HV10.out.cell 2
    have p3 := HV10.out.cell 3
    simp at p0 p1 p2 p3
    go_wp2_with fail
    rw [show (1 : Int) = ((1 : Nat) : Int) from rfl]
    refine (markCircuit_any i s1 b1 b2 b3 1 ns gs os _ HX10.out (by omega) (by omega) (by omega) (by omega)).mono ?_
    rintro e w11 ⟨rfl, hm11⟩
    have hb1s : s1 ≤ b1 := HX10.out.b0
    have hb12 : b1 < b2 := HX10.out.b1
    have hb23 : b2 < b3 := HX10.out.b2
    have HR11 := Lib.hid (hm11.row HR10.out (by omega))
    have HP11 := Lib.hid (hm11.row HP10.out (by omega))
    have hmw11 := hm11.wide (lo' := s1) (hi' := s2) (by omega) (by omega)
    have hs2c : s2 ≤ c1 := Nat.le_trans (Nat.le_trans HG10.out.b1 (Nat.le_of_lt HG10.out.b3)) (Nat.le_of_lt ht3)
    have HK11 := Lib.hid (hmw11.row HK10.out (by omega))
    have HW11 := Lib.hid (hmw11.circAt HW10.out (Nat.le_refl _) hsv10)
    have HG11 := Lib.hid (hmw11.ownC HG10.out)
    have HL11 := Lib.hid (HL10.out.trans ((hmw11.below hsv10).mono (by omega)))
    have hsv11 : s1 ≤ w11.heap.size := Nat.le_trans hsv10 hmw11.size
    have hsw11 : s2 ≤ w11.heap.size := Nat.le_trans hsw10 hmw11.size
    clear hm11 hmw11 HR10 HP10 HK10 HL10 HV10 HX10 p0 p1 p2 p3 HW10 HG10
    generalize hkk : 1 + ns.length + 2 * gs.length + os.length = kk at *
    have hkb : kk ≤ 5000000 := by omega
    clear hkk
    have r0 := HK11.out.cell 0
    have r1 := HK11.out.cell 1
    have r2 := HK11.out.cell 2
    have r3 := HK11.out.cell 3
    simp at r0 r1 r2 r3
    have v0 := HP11.out.cell 0
    have v1 := HP11.out.cell 1
    have v2 := HP11.out.cell 2
    have v3 := HP11.out.cell 3
    simp at v0 v1 v2 v3
    go_wp2_with fail
    refine (eqCircuit_len i _ _ _ _ _ _ _ _ _ _ _ _ _ _ _ (Opt.intL (Opt.optC i ns gs os).ns) (Opt.intG (Opt.optC i ns gs os).gs) (Opt.intL (Opt.optC i ns gs os).os) _ (HG11.out.at rfl hrn1 hrg1 hro1) (HW11.out.mono hsv11) HIN.out HIG.out HIO.out (by omega) (by omega) (by omega)).mono ?_
    rintro e w12 ⟨rfl, hb12⟩
    clear r0 r1 r2 r3 v0 v1 v2 v3
    have hsv12 : s1 ≤ w12.heap.size := Nat.le_trans hsv11 hb12.size
    have hsw12 : s2 ≤ w12.heap.size := Nat.le_trans hsw11 hb12.size
    have HR12 := Lib.hid (HR11.out.below hb12 HR11.out.lt)
    have HP12 := Lib.hid (HP11.out.below hb12 HP11.out.lt)
    have HK12 := Lib.hid (HK11.out.below hb12 HK11.out.lt)
    have HL12 := Lib.hid (HL11.out.trans (hb12.mono HL11.out.size))
    have HW12 := Lib.hid (HW11.out.below (hb12.mono (by omega)))
    have HG12 := Lib.hid (HG11.out.on hb12)
    clear hb12 HR11 HP11 HK11 HL11 HW11 HG11
    have r0 := HK12.out.cell 0
    have r1 := HK12.out.cell 1
    have r2 := HK12.out.cell 2
    have r3 := HK12.out.cell 3
    simp at r0 r1 r2 r3
    go_wp2_with fail
    rw [show (1 : Int) = ((1 : Nat) : Int) from rfl]
    refine (markOwn_any i s2 g1 g3 1 ns.length (Opt.optC i ns gs os).gs.length os.length _ (Opt.optC i ns gs os) _ HG12.out HRN.out rfl HRO.out (by omega) (by omega) (by omega) (by omega) c1 ht3 HTG.out).mono ?_
    rintro e w13 ⟨rfl, hx13, hm13⟩
    have hb13 := hm13.below hsw12
    have HM13 := Lib.hid hx13
    have HR13 := Lib.hid (hm13.row HR12.out (by omega))
    have HP13 := Lib.hid (hm13.row HP12.out (by omega))
    have HK13 := Lib.hid (hm13.row HK12.out (by omega))
    have HW13 := Lib.hid (HW12.out.below (hb13.mono (by omega)))
    have HL13 := Lib.hid (HL12.out.trans (hb13.mono (by omega)))
    have hsv13 : s1 ≤ w13.heap.size := Nat.le_trans hsv12 hb13.size
    have hsw13 : s2 ≤ w13.heap.size := Nat.le_trans hsw12 hb13.size
    clear hx13 hb13 hm13 HR12 HP12 HK12 HW12 HG12 HL12 r0 r1 r2 r3
    generalize hmm : 1 + ns.length + 2 * (Opt.optC i ns gs os).gs.length + os.length = mm at *
    have HMM := Lib.hid hmm
    have hmmb : mm ≤ 5000000 := by omega
    clear hmm
    have r0 := HK13.out.cell 0
    have r1 := HK13.out.cell 1
    have r2 := HK13.out.cell 2
    have r3 := HK13.out.cell 3
    simp at r0 r1 r2 r3
    go_wp2_with fail
    rw [show (1 : Int) = ((1 : Nat) : Int) from rfl]
    refine (heldOwn_any i s2 g1 g3 1 ns.length (Opt.optC i ns gs os).gs.length os.length _ _ HM13.out (by omega) (by omega) (by omega) (by omega)).mono ?_
    rintro e w14 ⟨rfl, hb14⟩
    rw [HMM.out]
    clear r0 r1 r2 r3
    have hsv14 : s1 ≤ w14.heap.size := Nat.le_trans hsv13 hb14.size
    have hsw14 : s2 ≤ w14.heap.size := Nat.le_trans hsw13 hb14.size
    have HR14 := Lib.hid (HR13.out.below hb14 HR13.out.lt)
    have HP14 := Lib.hid (HP13.out.below hb14 HP13.out.lt)
    have HK14 := Lib.hid (HK13.out.below hb14 HK13.out.lt)
    have HL14 := Lib.hid (HL13.out.trans (hb14.mono HL13.out.size))
    have HW14 := Lib.hid (HW13.out.below (hb14.mono (by omega)))
    have HM14 := Lib.hid (HM13.out.below hb14)
    clear hb14 HR13 HP13 HK13 HL13 HW13 HM13
    have q0 := HR14.out.cell 0
    have q1 := HR14.out.cell 1
    have q2 := HR14.out.cell 2
    have q3 := HR14.out.cell 3
    simp at q0 q1 q2 q3
    go_wp2_with fail
    refine (toCircuit_rows i nA gA oA nc gc oc ns gs os _ ((HC.out.below HL14.out).mono HL14.out.size) (by omega) (by omega) (by omega)).mono ?_
    rintro e w15 ⟨d1, d2, d3, rfl, hx15, hb15⟩
    clear q0 q1 q2 q3
    have HX15 := Lib.hid hx15
    clear hx15
    have hsv15 : s1 ≤ w15.heap.size := Nat.le_trans hsv14 hb15.size
    have hsw15 : s2 ≤ w15.heap.size := Nat.le_trans hsw14 hb15.size
    have HR15 := Lib.hid (HR14.out.below hb15 HR14.out.lt)
    have HP15 := Lib.hid (HP14.out.below hb15 HP14.out.lt)
    have HK15 := Lib.hid (HK14.out.below hb15 HK14.out.lt)
    have HL15 := Lib.hid (HL14.out.trans (hb15.mono HL14.out.size))
    have HW15 := Lib.hid (HW14.out.below (hb15.mono (by omega)))
    have HM15 := Lib.hid (HM14.out.below hb15)
    clear hb15 HR14 HP14 HK14 HL14 HW14 HM14
    go_wp2_with fail
    refine (impl_opt_t i _ _ _ _ _ _ ns gs os _ HX15.out.at HV.out).mono ?_
    rintro e w16 ⟨k1, k3, vH, rfl, hx16, hb16⟩
    obtain ⟨KA, kcap, rfl⟩ := hx16.shape
    have HH16 := Lib.hid hx16
    clear hx16
    have hsv16 : s1 ≤ w16.heap.size := Nat.le_trans hsv15 hb16.size
    have hsw16 : s2 ≤ w16.heap.size := Nat.le_trans hsw15 hb16.size
    have HR16 := Lib.hid (HR15.out.below hb16 HR15.out.lt)
    have HP16 := Lib.hid (HP15.out.below hb16 HP15.out.lt)
    have HK16 := Lib.hid (HK15.out.below hb16 HK15.out.lt)
    have HL16 := Lib.hid (HL15.out.trans (hb16.mono HL15.out.size))
    have HW16 := Lib.hid (HW15.out.below (hb16.mono (by omega)))
    have HM16 := Lib.hid (HM15.out.below hb16)
    clear hb16 HR15 HP15 HK15 HL15 HW15 HM15 HX15
    have v0 := HP16.out.cell 0
    have v1 := HP16.out.cell 1
    have v2 := HP16.out.cell 2
    have v3 := HP16.out.cell 3
    simp at v0 v1 v2 v3
    have hcwl := HP16.out.lt
    have hcwn : cw ≠ w16.heap.size := by omega
    have hb17 : Below w16.heap.size w16 (w16.alloc (.cells #[.int .i64 i, .slice (some ⟨k1, 0, none⟩) ns.length ns.length, .slice KA (Opt.optC i ns gs os).gs.length kcap, .slice (some ⟨k3, 0, none⟩) os.length os.length] 26)) := (Below.refl _ _).alloc (Nat.le_refl _) _
    have HJ17 : Hid (Row (w16.alloc (.cells #[.int .i64 i, .slice (some ⟨k1, 0, none⟩) ns.length ns.length, .slice KA (Opt.optC i ns gs os).gs.length kcap, .slice (some ⟨k3, 0, none⟩) os.length os.length] 26)) w16.heap.size 26 #[.int .i64 i, .slice (some ⟨k1, 0, none⟩) ns.length ns.length, .slice KA (Opt.optC i ns gs os).gs.length kcap, .slice (some ⟨k3, 0, none⟩) os.length os.length]) := Lib.hid (heap_alloc_new w16 _)
    have hsv17 : s1 ≤ (w16.alloc (.cells #[.int .i64 i, .slice (some ⟨k1, 0, none⟩) ns.length ns.length, .slice KA (Opt.optC i ns gs os).gs.length kcap, .slice (some ⟨k3, 0, none⟩) os.length os.length] 26)).heap.size := Nat.le_trans hsv16 hb17.size
    have hsw17 : s2 ≤ (w16.alloc (.cells #[.int .i64 i, .slice (some ⟨k1, 0, none⟩) ns.length ns.length, .slice KA (Opt.optC i ns gs os).gs.length kcap, .slice (some ⟨k3, 0, none⟩) os.length os.length] 26)).heap.size := Nat.le_trans hsw16 hb17.size
    have HR17 := Lib.hid (HR16.out.below hb17 HR16.out.lt)
    have HP17 := Lib.hid (HP16.out.below hb17 HP16.out.lt)
    have HK17 := Lib.hid (HK16.out.below hb17 HK16.out.lt)
    have HL17 := Lib.hid (HL16.out.trans (hb17.mono HL16.out.size))
    have HW17 := Lib.hid (HW16.out.below (hb17.mono (by omega)))
    have HM17 := Lib.hid (HM16.out.below hb17)
    have HH17 := Lib.hid (HH16.out.on hb17)
    clear hb17 HR16 HP16 HK16 HL16 HW16 HM16 HH16
    go_wp2_with fail
    generalize w16.alloc (.cells #[.int .i64 i, .slice (some ⟨k1, 0, none⟩) ns.length ns.length, .slice KA (Opt.optC i ns gs os).gs.length kcap, .slice (some ⟨k3, 0, none⟩) os.length os.length] 26) = w17 at *
    generalize w16.heap.size = c2 at *
    clear v0 v1 v2 v3 hcwl hcwn
    refine (eqCircuit_len i _ _ _ _ _ _ _ _ _ _ _ _ _ _ _ (Opt.intL (Opt.optC i ns gs os).ns) (Opt.intG (Opt.optC i ns gs os).gs) (Opt.intL (Opt.optC i ns gs os).os) _ (HH17.out.at rfl hrn1 hrg1 hro1) (HW17.out.mono hsv17) HIN.out HIG.out HIO.out (by omega) (by omega) (by omega)).mono ?_
    rintro e w18 ⟨rfl, hb18⟩
    have hsv18 : s1 ≤ w18.heap.size := Nat.le_trans hsv17 hb18.size
    have hsw18 : s2 ≤ w18.heap.size := Nat.le_trans hsw17 hb18.size
    have HR18 := Lib.hid (HR17.out.below hb18 HR17.out.lt)
    have HP18 := Lib.hid (HP17.out.below hb18 HP17.out.lt)
    have HK18 := Lib.hid (HK17.out.below hb18 HK17.out.lt)
    have HL18 := Lib.hid (HL17.out.trans (hb18.mono HL17.out.size))
    have HW18 := Lib.hid (HW17.out.below (hb18.mono (by omega)))
    have HM18 := Lib.hid (HM17.out.below hb18)
    clear hb18 HR17 HP17 HK17 HL17 HW17 HM17 HH17 HJ17
    have r0 := HK18.out.cell 0
    have r1 := HK18.out.cell 1
    have r2 := HK18.out.cell 2
    have r3 := HK18.out.cell 3
    simp at r0 r1 r2 r3
    go_wp2_with fail
    rw [show (1 : Int) = ((1 : Nat) : Int) from rfl]
    refine (heldOwn_any i s2 g1 g3 1 ns.length (Opt.optC i ns gs os).gs.length os.length _ _ HM18.out (by omega) (by omega) (by omega) (by omega)).mono ?_
    rintro e w19 ⟨rfl, hb19⟩
    rw [HMM.out]
    clear r0 r1 r2 r3
    have hsv19 : s1 ≤ w19.heap.size := Nat.le_trans hsv18 hb19.size
    have hsw19 : s2 ≤ w19.heap.size := Nat.le_trans hsw18 hb19.size
    have HR19 := Lib.hid (HR18.out.below hb19 HR18.out.lt)
    have HP19 := Lib.hid (HP18.out.below hb19 HP18.out.lt)
    have HK19 := Lib.hid (HK18.out.below hb19 HK18.out.lt)
    have HL19 := Lib.hid (HL18.out.trans (hb19.mono HL18.out.size))
    have HW19 := Lib.hid (HW18.out.below (hb19.mono (by omega)))
    have HM19 := Lib.hid (HM18.out.below hb19)
    clear hb19 HR18 HP18 HK18 HL18 HW18 HM18
    go_wp2
    go_ret
    exact ⟨rfl, HL19.out⟩
  · go_enter Try.func10, Try.ntmps10
    go_wp2_with (go_at_call 37; refine (szCircuit_no _ _ _ _ _ _ _ _ _ _ _ _ ?_ ?_ ?_ HC.out.nl HC.out.gl HC.out.ol).mono ?_; (omega); (omega); (omega); rintro e w1 ⟨rfl, hb1⟩)
    go_ret
    exact ⟨rfl, ((Below.refl _ _).alloc (Nat.le_refl _) _).trans (hb1.mono (by simp))⟩
end Go.Proofs.Ythpiddpkcmecfaa
