/- The walk of the exact law of Simulate. -/
import Derived.Test.YtbhkpjcflghgbaaB18
import Derived.Test.YtbhkpjcflghgbaaB19
import Derived.Test.YtbhkpjcflghgbaaW6
namespace Go.Proofs.Ytbhkpjcflghgbaa
open Go.RowKit Go.Deep

set_option maxHeartbeats 2000000 in
theorem xsimulate_walk (i : Int) (nA gA oA rA : Option Addr) (nc gc oc rc : Nat) (ns : List Int) (gs : List (Int × Int)) (os : List Int) (rs : List (List Bool)) (w : World) (hc : CircAt w w.heap.size nA gA oA ns gs os)
    (hr : RowsAt w w.heap.size rA rs) (hrl : rs.length ≤ maxLen) (hrr : ∀ k, k < rs.length → (rs.getD k []).length ≤ maxLen) :
    Calls Try.prog 8 #[.agg #[.int .i64 i, .slice nA ns.length nc, .slice gA gs.length gc, .slice oA os.length oc], .slice rA rs.length rc] w fun e w' => e = .returned (.bool true) ∧ Below w.heap.size w w' := by
  have HC := Lib.hid hc
  have HX := Lib.hid hr
  have HRL := Lib.hid hrl
  have HRR := Lib.hid hrr
  clear hc hr hrl hrr
  have hbw : Below w.heap.size w (w.alloc (.cells #[.int .i64 i, .slice nA ns.length nc, .slice gA gs.length gc, .slice oA os.length oc] 48)) := (Below.refl _ _).alloc (Nat.le_refl _) _
  have HL0 := Lib.hid hbw
  have r0 : Row (w.alloc (.cells #[.int .i64 i, .slice nA ns.length nc, .slice gA gs.length gc, .slice oA os.length oc] 48)) w.heap.size 48 #[.int .i64 i, .slice nA ns.length nc, .slice gA gs.length gc, .slice oA os.length oc] := heap_alloc_new w _
  have HR0 := Lib.hid r0
  clear hbw r0
  by_cases hsz : (ns.length : Int) + gs.length + os.length ≤ 1048576
  · by_cases htt : (rs.length : Int) + (offs 0 rs rs.length : Int) ≤ 1048576 - ns.length - gs.length - os.length
    · have hrl : rs.length ≤ 1048576 := by omega
      have hto : offs 0 rs rs.length ≤ 1048576 := by omega
      obtain ⟨hel, heo⟩ := simul_le i ns gs os rs 0
      obtain ⟨_, he1⟩ := simul_le i ns gs os rs 1
      have HTT := Lib.hid htt
      clear htt
      go_enter Try.func8, Try.ntmps8
      go_wp2_with fail
      refine (szCircuit_ok _ _ _ _ _ _ _ _ _ _ _ _ hsz (by omega)).mono ?_
      rintro e w1 ⟨rfl, hb1⟩
      have HR1 := Lib.hid (HR0.out.below hb1 HR0.out.lt)
      have HL1 := Lib.hid (HL0.out.trans (hb1.mono HL0.out.size))
      clear hb1 HR0 HL0
      go_wp2_with fail
      refine (szBoolSS_ok rA rc rs _ _ ((HX.out.below HL1.out).mono HL1.out.size) HTT.out (by omega)).mono ?_
      rintro e w' ⟨⟨zl, hzl, rfl⟩, rfl⟩
      clear HTT
      have q0 := HR1.out.cell 0
      have q1 := HR1.out.cell 1
      have q2 := HR1.out.cell 2
      have q3 := HR1.out.cell 3
      simp at q0 q1 q2 q3
      go_wp2_with fail
      refine (toCircuit_rows i nA gA oA nc gc oc ns gs os _ ((HC.out.below HL1.out).mono HL1.out.size) (by omega) (by omega) (by omega)).mono ?_
      rintro e w2 ⟨a1, a2, a3, rfl, hx2, hb2⟩
      clear q0 q1 q2 q3
      have HX02 := Lib.hid hx2
      clear hx2
      have HR2 := Lib.hid (HR1.out.below hb2 HR1.out.lt)
      have HL2 := Lib.hid (HL1.out.trans (hb2.mono HL1.out.size))
      clear hb2 HR1 HL1
      go_wp2_with fail
      refine (toBoolSS_any rA rc rs _ ((HX.out.below HL2.out).mono HL2.out.size) (by omega) (by omega)).mono ?_
      rintro e w3 ⟨rfl, hb3, hx3⟩
      have HY3 := Lib.hid hx3
      clear hx3
      have HR3 := Lib.hid (HR2.out.below hb3 HR2.out.lt)
      have HL3 := Lib.hid (HL2.out.trans (hb3.mono HL2.out.size))
      have HX03 := Lib.hid (HX02.out.below hb3)
      clear hb3 HR2 HL2 HX02
      go_wp2_with fail
      refine (ssimulate_any i _ _ _ _ _ _ _ _ ns gs os rs _ HX03.out.at HY3.out.rows HRL.out).mono ?_
      rintro e w4 ⟨wA, wc, rfl, hx4, hb4⟩
      generalize hevd : Circ.simulV i ns gs os rs = ev at *
      have HEV := Lib.hid hevd
      clear hevd
      have HW4 := Lib.hid hx4
      clear hx4
      have HR4 := Lib.hid (HR3.out.below hb4 HR3.out.lt)
      have HL4 := Lib.hid (HL3.out.trans (hb4.mono HL3.out.size))
      clear hb4 HR3 HL3 HX03 HY3
      obtain ⟨s1, hs1e⟩ : ∃ s1 : Nat, w4.heap.size = s1 := ⟨_, rfl⟩
      have hws1 : w.heap.size < s1 := by have := HR4.out.lt; omega
      have hsv4 : s1 ≤ w4.heap.size := by omega
      rw [hs1e] at HW4
      have q0 := HR4.out.cell 0
      have q1 := HR4.out.cell 1
      have q2 := HR4.out.cell 2
      have q3 := HR4.out.cell 3
      simp at q0 q1 q2 q3
      go_wp2_with fail
      refine (toCircuit_rows i nA gA oA nc gc oc ns gs os _ ((HC.out.below HL4.out).mono HL4.out.size) (by omega) (by omega) (by omega)).mono ?_
      rintro e w5 ⟨b1, b2, b3, rfl, hx5, hb5⟩
      rw [hs1e] at hx5
      clear q0 q1 q2 q3
      have HX05 := Lib.hid hx5
      clear hx5
      have hsv5 : s1 ≤ w5.heap.size := Nat.le_trans hsv4 hb5.size
      have HR5 := Lib.hid (HR4.out.below hb5 HR4.out.lt)
      have HL5 := Lib.hid (HL4.out.trans (hb5.mono HL4.out.size))
      have HW5 := Lib.hid (HW4.out.below (hb5.mono (by omega)))
      clear hb5 HR4 HL4 HW4
      have hb6 : Below w5.heap.size w5 (w5.alloc (.cells #[.int .i64 i, .slice (some ⟨b1, 0, none⟩) ns.length ns.length, .slice (some ⟨b2, 0, none⟩) gs.length gs.length, .slice (some ⟨b3, 0, none⟩) os.length os.length] 26)) := (Below.refl _ _).alloc (Nat.le_refl _) _
      have HV6 : Hid (Row (w5.alloc (.cells #[.int .i64 i, .slice (some ⟨b1, 0, none⟩) ns.length ns.length, .slice (some ⟨b2, 0, none⟩) gs.length gs.length, .slice (some ⟨b3, 0, none⟩) os.length os.length] 26)) w5.heap.size 26 #[.int .i64 i, .slice (some ⟨b1, 0, none⟩) ns.length ns.length, .slice (some ⟨b2, 0, none⟩) gs.length gs.length, .slice (some ⟨b3, 0, none⟩) os.length os.length]) := Lib.hid (heap_alloc_new w5 _)
      have hcz : b3 < w5.heap.size := HX05.out.outs.lt
      have hsv6 : s1 ≤ (w5.alloc (.cells #[.int .i64 i, .slice (some ⟨b1, 0, none⟩) ns.length ns.length, .slice (some ⟨b2, 0, none⟩) gs.length gs.length, .slice (some ⟨b3, 0, none⟩) os.length os.length] 26)).heap.size := Nat.le_trans hsv5 hb6.size
      have HR6 := Lib.hid (HR5.out.below hb6 HR5.out.lt)
      have HL6 := Lib.hid (HL5.out.trans (hb6.mono HL5.out.size))
      have HW6 := Lib.hid (HW5.out.below (hb6.mono (by omega)))
      have HX06 := Lib.hid (HX05.out.below hb6)
      clear hb6 HR5 HL5 HW5 HX05
      go_wp2_with fail
      generalize w5.alloc (.cells #[.int .i64 i, .slice (some ⟨b1, 0, none⟩) ns.length ns.length, .slice (some ⟨b2, 0, none⟩) gs.length gs.length, .slice (some ⟨b3, 0, none⟩) os.length os.length] 26) = w6 at *
      generalize w5.heap.size = c0 at *
      refine (toBoolSS_any rA rc rs _ ((HX.out.below HL6.out).mono HL6.out.size) (by omega) (by omega)).mono ?_
      rintro e w7 ⟨rfl, hb7, hx7⟩
      have hyc : c0 < w6.heap.size := HV6.out.lt
      have HY07 := Lib.hid hx7
      clear hx7
      have hsv7 : s1 ≤ w7.heap.size := Nat.le_trans hsv6 hb7.size
      have HR7 := Lib.hid (HR6.out.below hb7 HR6.out.lt)
      have HL7 := Lib.hid (HL6.out.trans (hb7.mono HL6.out.size))
      have HW7 := Lib.hid (HW6.out.below (hb7.mono (by omega)))
      have HX07 := Lib.hid (HX06.out.below hb7)
      have HV7 := Lib.hid (HV6.out.below hb7 HV6.out.lt)
      clear hb7 HR6 HL6 HW6 HX06 HV6
      generalize w6.heap.size = y0 at *
      obtain ⟨s2, hs2e⟩ : ∃ s2 : Nat, w7.heap.size = s2 := ⟨_, rfl⟩
      have hys2 : y0 < s2 := by have := HY07.out.lt; omega
      have HY7 := Lib.hid HY07.out.rin
      rw [hs2e] at HY7
      clear HY07
      have p0 := HV7.out.cell 0
      have p1 := HV7.out.cell 1
      have p2 := HV7.out.cell 2
      have p3 := HV7.out.cell 3
      simp at p0 p1 p2 p3
      go_wp2_with fail
      refine (simulate_any i _ _ _ _ _ _ _ _ ns gs os rs _ HX07.out.at HY7.out.row.rows HRL.out).mono ?_
      rintro e w8 ⟨eA, rfl, hx8, hb8⟩
      rw [hs2e, HEV.out] at hx8
      rw [HEV.out]
      have hsw8 : s2 ≤ w8.heap.size := by have := hb8.size; omega
      clear hs2e p0 p1 p2 p3
      have HG8 := Lib.hid hx8
      clear hx8
      have hsv8 : s1 ≤ w8.heap.size := Nat.le_trans hsv7 hb8.size
      have HR8 := Lib.hid (HR7.out.below hb8 HR7.out.lt)
      have HL8 := Lib.hid (HL7.out.trans (hb8.mono HL7.out.size))
      have HW8 := Lib.hid (HW7.out.below (hb8.mono (by omega)))
      have HX08 := Lib.hid (HX07.out.below hb8)
      have HV8 := Lib.hid (HV7.out.below hb8 HV7.out.lt)
      have HY8 := Lib.hid (HY7.out.on hb8)
      clear hb8 HR7 HL7 HW7 HX07 HV7 HY7
      go_wp2_with fail
      refine (eqBoolSS_any eA wA _ _ ev _ HG8.out.rows (HW8.out.mono hsv8) (by omega) (by omega)).mono ?_
      rintro e w9 ⟨rfl, hb9⟩
      have hsv9 : s1 ≤ w9.heap.size := Nat.le_trans hsv8 hb9.size
      have hsw9 : s2 ≤ w9.heap.size := Nat.le_trans hsw8 hb9.size
      have HR9 := Lib.hid (HR8.out.below hb9 HR8.out.lt)
      have HL9 := Lib.hid (HL8.out.trans (hb9.mono HL8.out.size))
      have HW9 := Lib.hid (HW8.out.below (hb9.mono (by omega)))
      have HX09 := Lib.hid (HX08.out.below hb9)
      have HV9 := Lib.hid (HV8.out.below hb9 HV8.out.lt)
      have HY9 := Lib.hid (HY8.out.on hb9)
      have HG9 := Lib.hid (HG8.out.on hb9)
      clear hb9 HR8 HL8 HW8 HX08 HV8 HY8 HG8
      have q0 := HR9.out.cell 0
      have q1 := HR9.out.cell 1
      have q2 := HR9.out.cell 2
      have q3 := HR9.out.cell 3
      simp at q0 q1 q2 q3
      have p0 := HV9.out.cell 0
      have p1 := HV9.out.cell 1
      have p2 := HV9.out.cell 2
      have p3 := HV9.out.cell 3
      simp at p0 p1 p2 p3
      have hz1 := HR9.out.lt
      have hz2 := HV9.out.lt
      go_wp2
      go_region_held3 (fun w' => (w'.cell? ⟨w.heap.size, 0, none⟩ = some (.int .i64 i) ∧ w'.cell? ⟨w.heap.size, 1, none⟩ = some (.slice nA ns.length nc) ∧ w'.cell? ⟨w.heap.size, 2, none⟩ = some (.slice gA gs.length gc) ∧ w'.cell? ⟨w.heap.size, 3, none⟩ = some (.slice oA os.length oc)) ∧
          w'.cell? ⟨c0, 0, none⟩ = some (.int .i64 i) ∧ w'.cell? ⟨c0, 1, none⟩ = some (.slice (some ⟨b1, 0, none⟩) ns.length ns.length) ∧ w'.cell? ⟨c0, 2, none⟩ = some (.slice (some ⟨b2, 0, none⟩) gs.length gs.length) ∧ w'.cell? ⟨c0, 3, none⟩ = some (.slice (some ⟨b3, 0, none⟩) os.length os.length))
        (first | go_keep | (refine ⟨⟨?_, ?_, ?_, ?_⟩, ?_, ?_, ?_, ?_⟩ <;> (rw [hc7 _ _ (by simp; omega)]; simp [*])) | (refine ⟨⟨?_, ?_, ?_, ?_⟩, ?_, ?_, ?_, ?_⟩ <;> (rw [hc8 _ _ (by omega), hc7 _ _ (by simp; omega)]; simp [*])))
        (first
          | (go_at_call 24; go_must (refine (toCircuit_any i nA gA oA nc gc oc ns gs os _ ?_ ?_ ?_ ?_).mono ?_; (exact ((HC.out.below HL9.out.drew).mono HL9.out.drew.size)); (omega); (omega); (omega); rintro e u7 ⟨e1, e2, e3, f1, f2, f3, rfl, hC7, hb7⟩; obtain ⟨hc7, hf7⟩ := bcell hb7; have hz7 : w9.heap.size ≤ u7.heap.size := hb7.size))
          | (go_at_call 27; refine (eqCircuit_any i _ _ _ e1 e2 e3 _ _ _ f1 f2 f3 ns gs os _ ?_ ?_ ?_ ?_ ?_).mono ?_; (exact ((HX09.out.at.below (Below.refl _ _).drew).below hb7).mono hb7.size); (exact hC7); (omega); (omega); (omega); rintro e u8 ⟨rfl, hb8⟩; obtain ⟨hc8, hf8⟩ := bcell hb8))
      clear hc7 hf7 hc8 hf8 p0 p1 p2 p3 q0 q1 q2 q3
      have hb10 : Below w9.heap.size w9 u8 := ((Below.refl _ w9).drew.trans hb7).trans (hb8.mono hz7)
      clear hb7 hb8 hz7 hC7 hz1 hz2
      have hsv10 : s1 ≤ u8.heap.size := Nat.le_trans hsv9 hb10.size
      have hsw10 : s2 ≤ u8.heap.size := Nat.le_trans hsw9 hb10.size
      have HR10 := Lib.hid (HR9.out.below hb10 HR9.out.lt)
      have HL10 := Lib.hid (HL9.out.trans (hb10.mono HL9.out.size))
      have HW10 := Lib.hid (HW9.out.below (hb10.mono (by omega)))
      have HX010 := Lib.hid (HX09.out.below hb10)
      have HV10 := Lib.hid (HV9.out.below hb10 HV9.out.lt)
      have HY10 := Lib.hid (HY9.out.on hb10)
      have HG10 := Lib.hid (HG9.out.on hb10)
      clear hb10 HR9 HL9 HW9 HX09 HV9 HY9 HG9
      rename_i _hheld
      clear _hheld
      generalize u8 = w10 at *
      go_wp2_with fail
      refine (toBoolSS_any rA rc rs _ ((HX.out.below HL10.out).mono HL10.out.size) (by omega) (by omega)).mono ?_
      rintro e w11 ⟨rfl, hb11, hx11⟩
      have HT11 := Lib.hid hx11
      clear hx11
      have hsv11 : s1 ≤ w11.heap.size := Nat.le_trans hsv10 hb11.size
      have hsw11 : s2 ≤ w11.heap.size := Nat.le_trans hsw10 hb11.size
      have HR11 := Lib.hid (HR10.out.below hb11 HR10.out.lt)
      have HL11 := Lib.hid (HL10.out.trans (hb11.mono HL10.out.size))
      have HW11 := Lib.hid (HW10.out.below (hb11.mono (by omega)))
      have HX011 := Lib.hid (HX010.out.below hb11)
      have HV11 := Lib.hid (HV10.out.below hb11 HV10.out.lt)
      have HY11 := Lib.hid (HY10.out.on hb11)
      have HG11 := Lib.hid (HG10.out.on hb11)
      clear hb11 HR10 HL10 HW10 HX010 HV10 HY10 HG10
      go_wp2_with fail
      refine (eqBoolSS_any _ _ _ _ rs _ HY11.out.row.rows HT11.out.rows (by omega) (by omega)).mono ?_
      rintro e w12 ⟨rfl, hb12⟩
      have hsv12 : s1 ≤ w12.heap.size := Nat.le_trans hsv11 hb12.size
      have hsw12 : s2 ≤ w12.heap.size := Nat.le_trans hsw11 hb12.size
      have HR12 := Lib.hid (HR11.out.below hb12 HR11.out.lt)
      have HL12 := Lib.hid (HL11.out.trans (hb12.mono HL11.out.size))
      have HW12 := Lib.hid (HW11.out.below (hb12.mono (by omega)))
      have HX012 := Lib.hid (HX011.out.below hb12)
      have HV12 := Lib.hid (HV11.out.below hb12 HV11.out.lt)
      have HY12 := Lib.hid (HY11.out.on hb12)
      have HG12 := Lib.hid (HG11.out.on hb12)
      clear hb12 HR11 HL11 HW11 HX011 HV11 HY11 HG11 HT11
      have p0 := HV12.out.cell 0
      have p1 := HV12.out.cell 1
      have p2 := HV12.out.cell 2
      have p3 := HV12.out.cell 3
      simp at p0 p1 p2 p3
      go_wp2_with fail
      rw [show (1 : Int) = ((1 : Nat) : Int) from rfl]
      refine (markCircuit_any i s1 b1 b2 b3 1 ns gs os _ HX012.out (by omega) (by omega) (by omega) (by omega)).mono ?_
      rintro e w13 ⟨rfl, hm13⟩
      have hb1s : s1 ≤ b1 := HX012.out.b0
      have hb12 : b1 < b2 := HX012.out.b1
      have hb23 : b2 < b3 := HX012.out.b2
      have HR13 := Lib.hid (hm13.row HR12.out (by omega))
      have HY13 := Lib.hid (hm13.rin HY12.out (by omega))
      have hmw13 := hm13.wide (lo' := s1) (hi' := s2) (by omega) (by omega)
      have HW13 := Lib.hid (hmw13.rows HW12.out (Nat.le_refl _) hsv12)
      have HG13 := Lib.hid (hmw13.rsl HG12.out)
      have HL13 := Lib.hid (HL12.out.trans ((hmw13.below hsv12).mono (by omega)))
      have hsv13 : s1 ≤ w13.heap.size := Nat.le_trans hsv12 hmw13.size
      have hsw13 : s2 ≤ w13.heap.size := Nat.le_trans hsw12 hmw13.size
      clear hm13 hmw13 HR12 HY12 HW12 HG12 HL12 HV12 HX012 p0 p1 p2 p3
      generalize hkk : 1 + ns.length + 2 * gs.length + os.length = kk at *
      have hkb : kk ≤ 5000000 := by omega
      clear hkk
      have hkt : offs kk rs rs.length ≤ 100000000 := by rw [offs_add]; omega
      go_wp2_with fail
      refine (markRIn_any y0 s2 s1 kk rs _ HY13.out (by omega) hkt (by omega) (by omega)).mono ?_
      rintro e w14 ⟨rfl, hmw14⟩
      have HR14 := Lib.hid (hmw14.row HR13.out (by omega))
      have HW14 := Lib.hid (hmw14.rows HW13.out (Nat.le_refl _) hsv13)
      have HG14 := Lib.hid (hmw14.rsl HG13.out)
      have HL14 := Lib.hid (HL13.out.trans ((hmw14.below hsv13).mono (by omega)))
      have hsv14 : s1 ≤ w14.heap.size := Nat.le_trans hsv13 hmw14.size
      have hsw14 : s2 ≤ w14.heap.size := Nat.le_trans hsw13 hmw14.size
      clear hmw14 HR13 HY13 HW13 HG13 HL13
      generalize offs kk rs rs.length = kk2 at *
      go_wp2_with fail
      refine (eqBoolSS_any eA wA _ _ ev _ HG14.out.rows (HW14.out.mono hsv14) (by omega) (by omega)).mono ?_
      rintro e w15 ⟨rfl, hb15⟩
      have hsv15 : s1 ≤ w15.heap.size := Nat.le_trans hsv14 hb15.size
      have hsw15 : s2 ≤ w15.heap.size := Nat.le_trans hsw14 hb15.size
      have HR15 := Lib.hid (HR14.out.below hb15 HR14.out.lt)
      have HL15 := Lib.hid (HL14.out.trans (hb15.mono HL14.out.size))
      have HW15 := Lib.hid (HW14.out.below (hb15.mono (by omega)))
      have HG15 := Lib.hid (HG14.out.on hb15)
      clear hb15 HR14 HL14 HW14 HG14
      go_wp2_with fail
      rw [show (1 : Int) = ((1 : Nat) : Int) from rfl]
      refine (markRSl_any eA s2 1 ev _ HG15.out (by omega) (by omega) (by omega) hsw15).mono ?_
      rintro e w16 ⟨rfl, hx16, hb16⟩
      have HG16 := Lib.hid hx16
      have HR16 := Lib.hid (HR15.out.below hb16 (by omega))
      have HW16 := Lib.hid (HW15.out.below (hb16.mono (by omega)))
      have HL16 := Lib.hid (HL15.out.trans (hb16.mono (by omega)))
      have hsv16 : s1 ≤ w16.heap.size := Nat.le_trans hsv15 hb16.size
      have hsw16 : s2 ≤ w16.heap.size := Nat.le_trans hsw15 hb16.size
      clear hx16 hb16 HR15 HW15 HG15 HL15
      go_wp2_with fail
      rw [show (1 : Int) = ((1 : Nat) : Int) from rfl]
      refine (heldMSl_any eA 1 ev _ HG16.out (by omega) (by omega) (by omega)).mono ?_
      rintro e w' ⟨rfl, rfl⟩
      have q0 := HR16.out.cell 0
      have q1 := HR16.out.cell 1
      have q2 := HR16.out.cell 2
      have q3 := HR16.out.cell 3
      simp at q0 q1 q2 q3
      go_wp2_with fail
      refine (toCircuit_rows i nA gA oA nc gc oc ns gs os _ ((HC.out.below HL16.out).mono HL16.out.size) (by omega) (by omega) (by omega)).mono ?_
      rintro e w17 ⟨d1, d2, d3, rfl, hx17, hb17⟩
      clear q0 q1 q2 q3
      have HX017 := Lib.hid hx17
      clear hx17
      have hsv17 : s1 ≤ w17.heap.size := Nat.le_trans hsv16 hb17.size
      have hsw17 : s2 ≤ w17.heap.size := Nat.le_trans hsw16 hb17.size
      have HR17 := Lib.hid (HR16.out.below hb17 HR16.out.lt)
      have HL17 := Lib.hid (HL16.out.trans (hb17.mono HL16.out.size))
      have HW17 := Lib.hid (HW16.out.below (hb17.mono (by omega)))
      have HG17 := Lib.hid (HG16.out.on hb17)
      clear hb17 HR16 HL16 HW16 HG16
      go_wp2_with fail
      refine (toBoolSS_any rA rc rs _ ((HX.out.below HL17.out).mono HL17.out.size) (by omega) (by omega)).mono ?_
      rintro e w18 ⟨rfl, hb18, hx18⟩
      have HY18 := Lib.hid hx18
      clear hx18
      have hsv18 : s1 ≤ w18.heap.size := Nat.le_trans hsv17 hb18.size
      have hsw18 : s2 ≤ w18.heap.size := Nat.le_trans hsw17 hb18.size
      have HR18 := Lib.hid (HR17.out.below hb18 HR17.out.lt)
      have HL18 := Lib.hid (HL17.out.trans (hb18.mono HL17.out.size))
      have HW18 := Lib.hid (HW17.out.below (hb18.mono (by omega)))
      have HG18 := Lib.hid (HG17.out.on hb18)
      have HX018 := Lib.hid (HX017.out.below hb18)
      clear hb18 HR17 HL17 HW17 HG17 HX017
      go_wp2_with fail
      refine (simulate_any i _ _ _ _ _ _ _ _ ns gs os rs _ HX018.out.at HY18.out.rows HRL.out).mono ?_
      rintro e w19 ⟨hA, rfl, hx19, hb19⟩
      rw [HEV.out] at hx19
      rw [HEV.out]
      have HH19 := Lib.hid hx19
      clear hx19
      have hsv19 : s1 ≤ w19.heap.size := Nat.le_trans hsv18 hb19.size
      have hsw19 : s2 ≤ w19.heap.size := Nat.le_trans hsw18 hb19.size
      have HR19 := Lib.hid (HR18.out.below hb19 HR18.out.lt)
      have HL19 := Lib.hid (HL18.out.trans (hb19.mono HL18.out.size))
      have HW19 := Lib.hid (HW18.out.below (hb19.mono (by omega)))
      have HG19 := Lib.hid (HG18.out.on hb19)
      clear hb19 HR18 HL18 HW18 HG18 HX018 HY18
      go_wp2_with fail
      refine (eqBoolSS_any hA wA _ _ ev _ HH19.out.rows (HW19.out.mono hsv19) (by omega) (by omega)).mono ?_
      rintro e w20 ⟨rfl, hb20⟩
      have hsv20 : s1 ≤ w20.heap.size := Nat.le_trans hsv19 hb20.size
      have hsw20 : s2 ≤ w20.heap.size := Nat.le_trans hsw19 hb20.size
      have HR20 := Lib.hid (HR19.out.below hb20 HR19.out.lt)
      have HL20 := Lib.hid (HL19.out.trans (hb20.mono HL19.out.size))
      have HW20 := Lib.hid (HW19.out.below (hb20.mono (by omega)))
      have HG20 := Lib.hid (HG19.out.on hb20)
      clear hb20 HR19 HL19 HW19 HG19 HH19
      go_wp2_with fail
      rw [show (1 : Int) = ((1 : Nat) : Int) from rfl]
      refine (heldMSl_any eA 1 ev _ HG20.out (by omega) (by omega) (by omega)).mono ?_
      rintro e w' ⟨rfl, rfl⟩
      go_wp2
      go_ret
      exact ⟨rfl, HL20.out⟩
    · have HNT : Hid ((1048576 : Int) - ns.length - gs.length - os.length < (rs.length : Int) + (offs 0 rs rs.length : Int)) := Lib.hid (by omega)
      clear htt
      go_enter Try.func8, Try.ntmps8
      go_wp2_with fail
      refine (szCircuit_ok _ _ _ _ _ _ _ _ _ _ _ _ hsz (by omega)).mono ?_
      rintro e w1 ⟨rfl, hb1⟩
      have HL1 := Lib.hid (HL0.out.trans (hb1.mono HL0.out.size))
      go_wp2_with fail
      refine (szBoolSS_no rA rc rs _ _ ((HX.out.below HL1.out).mono HL1.out.size) HNT.out (by omega) (by omega) HRL.out HRR.out).mono ?_
      rintro e w' ⟨rfl, rfl⟩
      go_wp2
      go_ret
      exact ⟨rfl, HL1.out⟩
  · go_enter Try.func8, Try.ntmps8
    go_wp2_with (go_at_call 23; refine (szCircuit_no _ _ _ _ _ _ _ _ _ _ _ _ ?_ ?_ ?_ HC.out.nl HC.out.gl HC.out.ol).mono ?_; (omega); (omega); (omega); rintro e w1 ⟨rfl, hb1⟩)
    go_ret
    exact ⟨rfl, ((Below.refl _ _).alloc (Nat.le_refl _) _).trans (hb1.mono (by simp))⟩
end Go.Proofs.Ytbhkpjcflghgbaa
