/- The walk of the exact law of Equivalent. -/
import Derived.Test.YthpiddpkcmecfaaY12
import Derived.Test.YthpiddpkcmecfaaW6
namespace Go.Proofs.Ythpiddpkcmecfaa
open Go.RowKit Go.Deep
set_option maxRecDepth 100000


set_option maxHeartbeats 2000000 in
theorem xequiv_walk (i : Int) (nA gA oA : Option Addr) (nc gc oc : Nat) (ns : List Int) (gs : List (Int × Int)) (os : List Int) (i' : Int) (nA' gA' oA' : Option Addr) (nc' gc' oc' : Nat) (ns' : List Int) (gs' : List (Int × Int)) (os' : List Int) (w : World) (hc : CircAt w w.heap.size nA gA oA ns gs os) (hd : CircAt w w.heap.size nA' gA' oA' ns' gs' os') :
    Calls Try.prog 13 #[.agg #[.int .i64 i, .slice nA ns.length nc, .slice gA gs.length gc, .slice oA os.length oc], .agg #[.int .i64 i', .slice nA' ns'.length nc', .slice gA' gs'.length gc', .slice oA' os'.length oc']] w fun e w' => e = .returned (.bool true) ∧ Below w.heap.size w w' := by
  have HC := Lib.hid hc
  have HD := Lib.hid hd
  clear hc hd
  by_cases hsz : (ns.length : Int) + gs.length + os.length ≤ 1048576
  · by_cases hsy : (ns'.length : Int) + gs'.length + os'.length ≤ 1048576 - (ns.length : Int) - gs.length - os.length
    · have hbw : Below w.heap.size w ((w.alloc (.cells #[.int .i64 i, .slice nA ns.length nc, .slice gA gs.length gc, .slice oA os.length oc] 55)).alloc (.cells #[.int .i64 i', .slice nA' ns'.length nc', .slice gA' gs'.length gc', .slice oA' os'.length oc'] 55)) := ((Below.refl _ _).alloc (Nat.le_refl _) _).alloc (by simp) _
      have HL0 := Lib.hid hbw
      have r0 : Row ((w.alloc (.cells #[.int .i64 i, .slice nA ns.length nc, .slice gA gs.length gc, .slice oA os.length oc] 55)).alloc (.cells #[.int .i64 i', .slice nA' ns'.length nc', .slice gA' gs'.length gc', .slice oA' os'.length oc'] 55)) w.heap.size 55 #[.int .i64 i, .slice nA ns.length nc, .slice gA gs.length gc, .slice oA os.length oc] := (Below.heap_alloc _ _ _ (by simp)).trans (heap_alloc_new w _)
      have r1 : Row ((w.alloc (.cells #[.int .i64 i, .slice nA ns.length nc, .slice gA gs.length gc, .slice oA os.length oc] 55)).alloc (.cells #[.int .i64 i', .slice nA' ns'.length nc', .slice gA' gs'.length gc', .slice oA' os'.length oc'] 55)) (w.heap.size + 1) 55 #[.int .i64 i', .slice nA' ns'.length nc', .slice gA' gs'.length gc', .slice oA' os'.length oc'] := by
        have := heap_alloc_new (w.alloc (.cells #[.int .i64 i, .slice nA ns.length nc, .slice gA gs.length gc, .slice oA os.length oc] 55)) (.cells #[.int .i64 i', .slice nA' ns'.length nc', .slice gA' gs'.length gc', .slice oA' os'.length oc'] 55)
        simpa [Row] using this
      have HR0 := Lib.hid r0
      have HS0 := Lib.hid r1
      clear hbw r0 r1
      have hl0 : (0 : Int) ≤ 1048576 - (ns.length : Int) - gs.length - os.length := by omega
      go_enter Try.func13, Try.ntmps13
      go_wp2_with fail
      refine (szCircuit_ok _ _ _ _ _ _ _ _ _ _ _ _ hsz (by omega)).mono ?_
      rintro e w1 ⟨rfl, hb1⟩
      have HR1 := Lib.hid (HR0.out.below hb1 HR0.out.lt)
      have HS1 := Lib.hid (HS0.out.below hb1 HS0.out.lt)
      have HL1 := Lib.hid (HL0.out.trans (hb1.mono HL0.out.size))
      clear hb1 HR0 HS0 HL0
      have s0 := HS1.out.cell 0
      have s1 := HS1.out.cell 1
      have s2 := HS1.out.cell 2
      have s3 := HS1.out.cell 3
      simp at s0 s1 s2 s3
      go_wp2_with fail
      refine (szCircuit_ok _ _ _ _ _ _ _ _ _ _ _ _ hsy (by omega)).mono ?_
      rintro e w2 ⟨rfl, hb2⟩
      clear s0 s1 s2 s3
      have HR2 := Lib.hid (HR1.out.below hb2 HR1.out.lt)
      have HS2 := Lib.hid (HS1.out.below hb2 HS1.out.lt)
      have HL2 := Lib.hid (HL1.out.trans (hb2.mono HL1.out.size))
      clear hb2 HR1 HS1 HL1
      have q0 := HR2.out.cell 0
      have q1 := HR2.out.cell 1
      have q2 := HR2.out.cell 2
      have q3 := HR2.out.cell 3
      simp at q0 q1 q2 q3
      have s0 := HS2.out.cell 0
      have s1 := HS2.out.cell 1
      have s2 := HS2.out.cell 2
      have s3 := HS2.out.cell 3
      simp at s0 s1 s2 s3
      have hz1 := HR2.out.lt
      have hz2 := HS2.out.lt
      go_wp2
      go_region_held3 (fun w' => (w'.cell? ⟨w.heap.size, 0, none⟩ = some (.int .i64 i) ∧ w'.cell? ⟨w.heap.size, 1, none⟩ = some (.slice nA ns.length nc) ∧ w'.cell? ⟨w.heap.size, 2, none⟩ = some (.slice gA gs.length gc) ∧ w'.cell? ⟨w.heap.size, 3, none⟩ = some (.slice oA os.length oc)) ∧ w'.cell? ⟨w.heap.size + 1, 0, none⟩ = some (.int .i64 i') ∧ w'.cell? ⟨w.heap.size + 1, 1, none⟩ = some (.slice nA' ns'.length nc') ∧ w'.cell? ⟨w.heap.size + 1, 2, none⟩ = some (.slice gA' gs'.length gc') ∧ w'.cell? ⟨w.heap.size + 1, 3, none⟩ = some (.slice oA' os'.length oc'))
        (first | go_keep | (have _t := hb9; refine ⟨⟨?_, ?_, ?_, ?_⟩, ?_, ?_, ?_, ?_⟩ <;> (rw [hc9 _ _ (by omega), hc8 _ _ (by omega), hc7 _ _ (by simp; omega)]; simp [*])) | (have _t := hb8; refine ⟨⟨?_, ?_, ?_, ?_⟩, ?_, ?_, ?_, ?_⟩ <;> (rw [hc8 _ _ (by omega), hc7 _ _ (by simp; omega)]; simp [*])) | (refine ⟨⟨?_, ?_, ?_, ?_⟩, ?_, ?_, ?_, ?_⟩ <;> (rw [hc7 _ _ (by simp; omega)]; simp [*])))
        (first
          | (go_at_call 36; have _t := hb8; refine (sequiv_any i e1 e2 e3 f1 f2 f3 ns gs os i' y1 y2 y3 z1 z2 z3 ns' gs' os' _ ?_ ?_).mono ?_; (exact (hC7.below hb8).mono hb8.size); (exact hC8); rintro e u9 ⟨rfl, hb9⟩; obtain ⟨hc9, hf9⟩ := bcell hb9; have hz9 : u8.heap.size ≤ u9.heap.size := hb9.size)
          | (go_at_call 38; have _t := hb7; refine (toCircuit_any i' nA' gA' oA' nc' gc' oc' ns' gs' os' _ ?_ ?_ ?_ ?_).mono ?_; (exact ((HD.out.below HL2.out.drew).below (hb7.mono HL2.out.size)).mono (Nat.le_trans HL2.out.size hz7)); (omega); (omega); (omega); rintro e u8 ⟨y1, y2, y3, z1, z2, z3, rfl, hC8, hb8⟩; obtain ⟨hc8, hf8⟩ := bcell hb8; have hz8 : u7.heap.size ≤ u8.heap.size := hb8.size)
          | (go_at_call 38; refine (toCircuit_any i nA gA oA nc gc oc ns gs os _ ?_ ?_ ?_ ?_).mono ?_; (exact ((HC.out.below HL2.out.drew).mono HL2.out.drew.size)); (omega); (omega); (omega); rintro e u7 ⟨e1, e2, e3, f1, f2, f3, rfl, hC7, hb7⟩; obtain ⟨hc7, hf7⟩ := bcell hb7; have hz7 : w2.heap.size ≤ u7.heap.size := hb7.size))
      clear hc7 hf7 hc8 hf8 hc9 hf9 q0 q1 q2 q3 s0 s1 s2 s3
      have hb3 : Below w2.heap.size w2 u9 := (((Below.refl _ w2).drew.trans hb7).trans (hb8.mono hz7)).trans (hb9.mono (Nat.le_trans hz7 hz8))
      clear hb7 hb8 hb9 hz7 hz8 hz9 hC7 hC8 hz1 hz2
      have HR3 := Lib.hid (HR2.out.below hb3 HR2.out.lt)
      have HS3 := Lib.hid (HS2.out.below hb3 HS2.out.lt)
      have HL3 := Lib.hid (HL2.out.trans (hb3.mono HL2.out.size))
      clear hb3 HR2 HS2 HL2
      rename_i _hheld
      clear _hheld
      generalize u9 = w3 at *
      have q0 := HR3.out.cell 0
      have q1 := HR3.out.cell 1
      have q2 := HR3.out.cell 2
      have q3 := HR3.out.cell 3
      simp at q0 q1 q2 q3
      go_wp2_with fail
      refine (toCircuit_rows i nA gA oA nc gc oc ns gs os _ ((HC.out.below HL3.out).mono HL3.out.size) (by omega) (by omega) (by omega)).mono ?_
      rintro e w4 ⟨b1, b2, b3, rfl, hx4, hb4⟩
      clear q0 q1 q2 q3
      have HX4 := Lib.hid hx4
      clear hx4
      have HR4 := Lib.hid (HR3.out.below hb4 HR3.out.lt)
      have HS4 := Lib.hid (HS3.out.below hb4 HS3.out.lt)
      have HL4 := Lib.hid (HL3.out.trans (hb4.mono HL3.out.size))
      clear hb4 HR3 HS3 HL3
      have s0 := HS4.out.cell 0
      have s1 := HS4.out.cell 1
      have s2 := HS4.out.cell 2
      have s3 := HS4.out.cell 3
      simp at s0 s1 s2 s3
      have hsl := HS4.out.lt
      have hsn : w.heap.size + 1 ≠ w4.heap.size := by omega
      have hb5 : Below w4.heap.size w4 (w4.alloc (.cells #[.int .i64 i, .slice (some ⟨b1, 0, none⟩) ns.length ns.length, .slice (some ⟨b2, 0, none⟩) gs.length gs.length, .slice (some ⟨b3, 0, none⟩) os.length os.length] 26)) := (Below.refl _ _).alloc (Nat.le_refl _) _
      have HV5 : Hid (Row (w4.alloc (.cells #[.int .i64 i, .slice (some ⟨b1, 0, none⟩) ns.length ns.length, .slice (some ⟨b2, 0, none⟩) gs.length gs.length, .slice (some ⟨b3, 0, none⟩) os.length os.length] 26)) w4.heap.size 26 #[.int .i64 i, .slice (some ⟨b1, 0, none⟩) ns.length ns.length, .slice (some ⟨b2, 0, none⟩) gs.length gs.length, .slice (some ⟨b3, 0, none⟩) os.length os.length]) := Lib.hid (heap_alloc_new w4 _)
      have HR5 := Lib.hid (HR4.out.below hb5 HR4.out.lt)
      have HS5 := Lib.hid (HS4.out.below hb5 HS4.out.lt)
      have HL5 := Lib.hid (HL4.out.trans (hb5.mono HL4.out.size))
      have HX5 := Lib.hid (HX4.out.below hb5)
      clear hb5 HR4 HS4 HL4 HX4
      go_wp2_with fail
      generalize w4.alloc (.cells #[.int .i64 i, .slice (some ⟨b1, 0, none⟩) ns.length ns.length, .slice (some ⟨b2, 0, none⟩) gs.length gs.length, .slice (some ⟨b3, 0, none⟩) os.length os.length] 26) = w5 at *
      generalize w4.heap.size = c0 at *
      clear s0 s1 s2 s3 hsl hsn
      refine (toCircuit_rows i' nA' gA' oA' nc' gc' oc' ns' gs' os' _ ((HD.out.below HL5.out).mono HL5.out.size) (by omega) (by omega) (by omega)).mono ?_
      rintro e w6 ⟨d1, d2, d3, rfl, hx6, hb6⟩
      have HY6 := Lib.hid hx6
      clear hx6
      have HR6 := Lib.hid (HR5.out.below hb6 HR5.out.lt)
      have HS6 := Lib.hid (HS5.out.below hb6 HS5.out.lt)
      have HL6 := Lib.hid (HL5.out.trans (hb6.mono HL5.out.size))
      have HX6 := Lib.hid (HX5.out.below hb6)
      have HV6 := Lib.hid (HV5.out.below hb6 HV5.out.lt)
      clear hb6 HR5 HS5 HL5 HX5 HV5
      have p0 := HV6.out.cell 0
      have p1 := HV6.out.cell 1
      have p2 := HV6.out.cell 2
      have p3 := HV6.out.cell 3
      simp at p0 p1 p2 p3
      have hsl := HV6.out.lt
      have hsn : c0 ≠ w6.heap.size := by omega
      have hb7 : Below w6.heap.size w6 (w6.alloc (.cells #[.int .i64 i', .slice (some ⟨d1, 0, none⟩) ns'.length ns'.length, .slice (some ⟨d2, 0, none⟩) gs'.length gs'.length, .slice (some ⟨d3, 0, none⟩) os'.length os'.length] 26)) := (Below.refl _ _).alloc (Nat.le_refl _) _
      have HU7 : Hid (Row (w6.alloc (.cells #[.int .i64 i', .slice (some ⟨d1, 0, none⟩) ns'.length ns'.length, .slice (some ⟨d2, 0, none⟩) gs'.length gs'.length, .slice (some ⟨d3, 0, none⟩) os'.length os'.length] 26)) w6.heap.size 26 #[.int .i64 i', .slice (some ⟨d1, 0, none⟩) ns'.length ns'.length, .slice (some ⟨d2, 0, none⟩) gs'.length gs'.length, .slice (some ⟨d3, 0, none⟩) os'.length os'.length]) := Lib.hid (heap_alloc_new w6 _)
      have HR7 := Lib.hid (HR6.out.below hb7 HR6.out.lt)
      have HS7 := Lib.hid (HS6.out.below hb7 HS6.out.lt)
      have HL7 := Lib.hid (HL6.out.trans (hb7.mono HL6.out.size))
      have HX7 := Lib.hid (HX6.out.below hb7)
      have HV7 := Lib.hid (HV6.out.below hb7 HV6.out.lt)
      have HY7 := Lib.hid (HY6.out.below hb7)
      clear hb7 HR6 HS6 HL6 HX6 HV6 HY6
      go_wp2_with fail
      generalize w6.alloc (.cells #[.int .i64 i', .slice (some ⟨d1, 0, none⟩) ns'.length ns'.length, .slice (some ⟨d2, 0, none⟩) gs'.length gs'.length, .slice (some ⟨d3, 0, none⟩) os'.length os'.length] 26) = w7 at *
      generalize w6.heap.size = c9 at *
      clear p0 p1 p2 p3 hsl hsn
      refine (equiv_any i _ _ _ _ _ _ ns gs os i' _ _ _ _ _ _ ns' gs' os' _ HX7.out.at HY7.out.at).mono ?_
      rintro e w8 ⟨rfl, hb8⟩
      generalize Circ.equivB i ns gs os i' ns' gs' os' = vv at *
      have HR8 := Lib.hid (HR7.out.below hb8 HR7.out.lt)
      have HS8 := Lib.hid (HS7.out.below hb8 HS7.out.lt)
      have HL8 := Lib.hid (HL7.out.trans (hb8.mono HL7.out.size))
      have HX8 := Lib.hid (HX7.out.below hb8)
      have HV8 := Lib.hid (HV7.out.below hb8 HV7.out.lt)
      have HY8 := Lib.hid (HY7.out.below hb8)
      have HU8 := Lib.hid (HU7.out.below hb8 HU7.out.lt)
      clear hb8 HR7 HS7 HL7 HX7 HV7 HY7 HU7
      have q0 := HR8.out.cell 0
      have q1 := HR8.out.cell 1
      have q2 := HR8.out.cell 2
      have q3 := HR8.out.cell 3
      simp at q0 q1 q2 q3
      have p0 := HV8.out.cell 0
      have p1 := HV8.out.cell 1
      have p2 := HV8.out.cell 2
      have p3 := HV8.out.cell 3
      simp at p0 p1 p2 p3
      have hz1 := HR8.out.lt
      have hz2 := HV8.out.lt
      go_wp2
      go_region_held3 (fun w' => (w'.cell? ⟨w.heap.size, 0, none⟩ = some (.int .i64 i) ∧ w'.cell? ⟨w.heap.size, 1, none⟩ = some (.slice nA ns.length nc) ∧ w'.cell? ⟨w.heap.size, 2, none⟩ = some (.slice gA gs.length gc) ∧ w'.cell? ⟨w.heap.size, 3, none⟩ = some (.slice oA os.length oc)) ∧ w'.cell? ⟨c0, 0, none⟩ = some (.int .i64 i) ∧ w'.cell? ⟨c0, 1, none⟩ = some (.slice (some ⟨b1, 0, none⟩) ns.length ns.length) ∧ w'.cell? ⟨c0, 2, none⟩ = some (.slice (some ⟨b2, 0, none⟩) gs.length gs.length) ∧ w'.cell? ⟨c0, 3, none⟩ = some (.slice (some ⟨b3, 0, none⟩) os.length os.length))
        (first | go_keep | (refine ⟨⟨?_, ?_, ?_, ?_⟩, ?_, ?_, ?_, ?_⟩ <;> (rw [hc7 _ _ (by simp; omega)]; simp [*])) | (refine ⟨⟨?_, ?_, ?_, ?_⟩, ?_, ?_, ?_, ?_⟩ <;> (rw [hc8 _ _ (by omega), hc7 _ _ (by simp; omega)]; simp [*])))
        (first
          | (go_at_call 38; go_must (refine (toCircuit_any i nA gA oA nc gc oc ns gs os _ ?_ ?_ ?_ ?_).mono ?_; (exact ((HC.out.below HL8.out.drew).mono HL8.out.drew.size)); (omega); (omega); (omega); rintro e u7 ⟨e1, e2, e3, f1, f2, f3, rfl, hC7, hb7⟩; obtain ⟨hc7, hf7⟩ := bcell hb7; have hz7 : w8.heap.size ≤ u7.heap.size := hb7.size))
          | (go_at_call 39; refine (eqCircuit_any i _ _ _ e1 e2 e3 _ _ _ f1 f2 f3 ns gs os _ ?_ ?_ ?_ ?_ ?_).mono ?_; (exact ((HX8.out.at.below (Below.refl _ _).drew).below hb7).mono hb7.size); (exact hC7); (omega); (omega); (omega); rintro e u8 ⟨rfl, hb8⟩; obtain ⟨hc8, hf8⟩ := bcell hb8))
      clear hc7 hf7 hc8 hf8 p0 p1 p2 p3 q0 q1 q2 q3
      have hb9 : Below w8.heap.size w8 u8 := ((Below.refl _ w8).drew.trans hb7).trans (hb8.mono hz7)
      clear hb7 hb8 hz7 hC7 hz1 hz2
      have HR9 := Lib.hid (HR8.out.below hb9 HR8.out.lt)
      have HS9 := Lib.hid (HS8.out.below hb9 HS8.out.lt)
      have HL9 := Lib.hid (HL8.out.trans (hb9.mono HL8.out.size))
      have HX9 := Lib.hid (HX8.out.below hb9)
      have HV9 := Lib.hid (HV8.out.below hb9 HV8.out.lt)
      have HY9 := Lib.hid (HY8.out.below hb9)
      have HU9 := Lib.hid (HU8.out.below hb9 HU8.out.lt)
      clear hb9 HR8 HS8 HL8 HX8 HV8 HY8 HU8
      rename_i _hheld
      clear _hheld
      generalize u8 = w9 at *
      have q0 := HS9.out.cell 0
      have q1 := HS9.out.cell 1
      have q2 := HS9.out.cell 2
      have q3 := HS9.out.cell 3
      simp at q0 q1 q2 q3
      have p0 := HU9.out.cell 0
      have p1 := HU9.out.cell 1
      have p2 := HU9.out.cell 2
      have p3 := HU9.out.cell 3
      simp at p0 p1 p2 p3
      have hz1 := HS9.out.lt
      have hz2 := HU9.out.lt
      go_wp2
      go_region_held3 (fun w' => (w'.cell? ⟨w.heap.size + 1, 0, none⟩ = some (.int .i64 i') ∧ w'.cell? ⟨w.heap.size + 1, 1, none⟩ = some (.slice nA' ns'.length nc') ∧ w'.cell? ⟨w.heap.size + 1, 2, none⟩ = some (.slice gA' gs'.length gc') ∧ w'.cell? ⟨w.heap.size + 1, 3, none⟩ = some (.slice oA' os'.length oc')) ∧ w'.cell? ⟨c9, 0, none⟩ = some (.int .i64 i') ∧ w'.cell? ⟨c9, 1, none⟩ = some (.slice (some ⟨d1, 0, none⟩) ns'.length ns'.length) ∧ w'.cell? ⟨c9, 2, none⟩ = some (.slice (some ⟨d2, 0, none⟩) gs'.length gs'.length) ∧ w'.cell? ⟨c9, 3, none⟩ = some (.slice (some ⟨d3, 0, none⟩) os'.length os'.length))
        (first | go_keep | (refine ⟨⟨?_, ?_, ?_, ?_⟩, ?_, ?_, ?_, ?_⟩ <;> (rw [hc7 _ _ (by simp; omega)]; simp [*])) | (refine ⟨⟨?_, ?_, ?_, ?_⟩, ?_, ?_, ?_, ?_⟩ <;> (rw [hc8 _ _ (by omega), hc7 _ _ (by simp; omega)]; simp [*])))
        (first
          | (go_at_call 38; go_must (refine (toCircuit_any i' nA' gA' oA' nc' gc' oc' ns' gs' os' _ ?_ ?_ ?_ ?_).mono ?_; (exact ((HD.out.below HL9.out.drew).mono HL9.out.drew.size)); (omega); (omega); (omega); rintro e u7 ⟨e1, e2, e3, f1, f2, f3, rfl, hC7, hb7⟩; obtain ⟨hc7, hf7⟩ := bcell hb7; have hz7 : w9.heap.size ≤ u7.heap.size := hb7.size))
          | (go_at_call 39; refine (eqCircuit_any i' _ _ _ e1 e2 e3 _ _ _ f1 f2 f3 ns' gs' os' _ ?_ ?_ ?_ ?_ ?_).mono ?_; (exact ((HY9.out.at.below (Below.refl _ _).drew).below hb7).mono hb7.size); (exact hC7); (omega); (omega); (omega); rintro e u8 ⟨rfl, hb8⟩; obtain ⟨hc8, hf8⟩ := bcell hb8))
      clear hc7 hf7 hc8 hf8 p0 p1 p2 p3 q0 q1 q2 q3
      have hb10 : Below w9.heap.size w9 u8 := ((Below.refl _ w9).drew.trans hb7).trans (hb8.mono hz7)
      clear hb7 hb8 hz7 hC7 hz1 hz2
      have HR10 := Lib.hid (HR9.out.below hb10 HR9.out.lt)
      have HS10 := Lib.hid (HS9.out.below hb10 HS9.out.lt)
      have HL10 := Lib.hid (HL9.out.trans (hb10.mono HL9.out.size))
      have HX10 := Lib.hid (HX9.out.below hb10)
      have HV10 := Lib.hid (HV9.out.below hb10 HV9.out.lt)
      have HY10 := Lib.hid (HY9.out.below hb10)
      have HU10 := Lib.hid (HU9.out.below hb10 HU9.out.lt)
      clear hb10 HR9 HS9 HL9 HX9 HV9 HY9 HU9
      rename_i _hheld
      clear _hheld
      generalize u8 = w10 at *
      go_wp2
      go_ret
      exact ⟨rfl, HL10.out⟩
    · have hl0 : (0 : Int) ≤ 1048576 - (ns.length : Int) - gs.length - os.length := by omega
      have hbw : Below w.heap.size w ((w.alloc (.cells #[.int .i64 i, .slice nA ns.length nc, .slice gA gs.length gc, .slice oA os.length oc] 55)).alloc (.cells #[.int .i64 i', .slice nA' ns'.length nc', .slice gA' gs'.length gc', .slice oA' os'.length oc'] 55)) := ((Below.refl _ _).alloc (Nat.le_refl _) _).alloc (by simp) _
      have r1 : Row ((w.alloc (.cells #[.int .i64 i, .slice nA ns.length nc, .slice gA gs.length gc, .slice oA os.length oc] 55)).alloc (.cells #[.int .i64 i', .slice nA' ns'.length nc', .slice gA' gs'.length gc', .slice oA' os'.length oc'] 55)) (w.heap.size + 1) 55 #[.int .i64 i', .slice nA' ns'.length nc', .slice gA' gs'.length gc', .slice oA' os'.length oc'] := by
        have := heap_alloc_new (w.alloc (.cells #[.int .i64 i, .slice nA ns.length nc, .slice gA gs.length gc, .slice oA os.length oc] 55)) (.cells #[.int .i64 i', .slice nA' ns'.length nc', .slice gA' gs'.length gc', .slice oA' os'.length oc'] 55)
        simpa [Row] using this
      have HL0 := Lib.hid hbw
      have HS0 := Lib.hid r1
      clear hbw r1
      go_enter Try.func13, Try.ntmps13
      go_wp2_with fail
      refine (szCircuit_ok _ _ _ _ _ _ _ _ _ _ _ _ hsz (by omega)).mono ?_
      rintro e w1 ⟨rfl, hb1⟩
      have HS1 := Lib.hid (HS0.out.below hb1 HS0.out.lt)
      have HL1 := Lib.hid (HL0.out.trans (hb1.mono HL0.out.size))
      clear hb1 HS0 HL0
      have s0 := HS1.out.cell 0
      have s1 := HS1.out.cell 1
      have s2 := HS1.out.cell 2
      have s3 := HS1.out.cell 3
      simp at s0 s1 s2 s3
      go_wp2_with (go_at_call 37; refine (szCircuit_no _ _ _ _ _ _ _ _ _ _ _ _ ?_ ?_ ?_ HD.out.nl HD.out.gl HD.out.ol).mono ?_; (omega); (omega); (omega); rintro e w2 ⟨rfl, hb2⟩)
      go_ret
      exact ⟨rfl, HL1.out.trans (hb2.mono HL1.out.size)⟩
  · go_enter Try.func13, Try.ntmps13
    go_wp2_with (go_at_call 37; refine (szCircuit_no _ _ _ _ _ _ _ _ _ _ _ _ ?_ ?_ ?_ HC.out.nl HC.out.gl HC.out.ol).mono ?_; (omega); (omega); (omega); rintro e w1 ⟨rfl, hb1⟩)
    go_ret
    exact ⟨rfl, (((Below.refl _ _).alloc (Nat.le_refl _) _).alloc (by simp) _).trans (hb1.mono (by simp; omega))⟩
end Go.Proofs.Ythpiddpkcmecfaa
