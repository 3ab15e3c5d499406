/- The walk of the exact law of Place. -/
import Derived.Test.YtliaommpnaagiaaGreatPU
import Derived.Test.YtliaommpnaagiaaGreatX16
namespace Go.Proofs.YtliaommpnaagiaaGreat
open Go.RowKit Go.Deep Cut
set_option maxRecDepth 100000

set_option maxHeartbeats 2000000 in
theorem xplace_walk_t (i : Int) (nA gA oA : Option Addr) (nc gc oc : Nat) (ns : List Int) (gs : List (Int × Int)) (os : List Int) (w : World) (hc : CircAt w w.heap.size nA gA oA ns gs os) (hv : Circ.validB i ns gs os = true) :
    Calls Tryz.prog 6 #[.agg #[.int .i64 i, .slice nA ns.length nc, .slice gA gs.length gc, .slice oA os.length oc]] w fun e w' => e = .returned (.bool true) ∧ Below w.heap.size w w' := by
  have HC := Lib.hid hc
  have HV := Lib.hid hv
  clear hc hv
  by_cases hsz : (ns.length : Int) + gs.length + os.length ≤ 1048576
  · have hbw : Below w.heap.size w (w.alloc (.cells #[.int .i64 i, .slice nA ns.length nc, .slice gA gs.length gc, .slice oA os.length oc] 40)) := (Below.refl _ _).alloc (Nat.le_refl _) _
    have HL0 := Lib.hid hbw
    have r0 : Row (w.alloc (.cells #[.int .i64 i, .slice nA ns.length nc, .slice gA gs.length gc, .slice oA os.length oc] 40)) w.heap.size 40 #[.int .i64 i, .slice nA ns.length nc, .slice gA gs.length gc, .slice oA os.length oc] := heap_alloc_new w _
    have HR0 := Lib.hid r0
    clear hbw r0
    obtain ⟨hi0, hi4, hn3, hg14, ho3⟩ := Circ.valid_within HV.out
    have hln : (placeV i ns gs os).length ≤ 17 := by
      rw [(placeV_ok HV.out).1.len]
      exact (cellsV_lim HV.out).1
    generalize hes : placeV i ns gs os = es at *
    have HES := Lib.hid hes
    clear hes
    obtain ⟨n, hn⟩ : ∃ n, es.length = n := ⟨_, rfl⟩
    rw [hn] at hln
    have HEN := Lib.hid hn
    clear hn
    go_enter Tryz.func6, Tryz.ntmps6
    go_wp2_with fail
    refine (szCircuit_ok _ _ _ _ _ _ _ _ _ _ _ _ hsz (by omega)).mono ?_
    rintro e w1 ⟨rfl, hb1⟩
    have HR1 := Lib.hid (HR0.out.below hb1 HR0.out.lt)
    have HL1 := Lib.hid (HL0.out.trans (hb1.mono HL0.out.size))
    clear hb1 HR0 HL0
    have q0 := HR1.out.cell 0
    have q1 := HR1.out.cell 1
    have q2 := HR1.out.cell 2
    have q3 := HR1.out.cell 3
    simp at q0 q1 q2 q3
    go_wp2_with fail
    refine (toCircuit_rows i nA gA oA nc gc oc ns gs os _ ((HC.out.below HL1.out).mono HL1.out.size) (by omega) (by omega) (by omega)).mono ?_
    rintro e w2 ⟨a1, a2, a3, rfl, hx2, hb2⟩
    clear q0 q1 q2 q3
    have HX2 := Lib.hid hx2
    clear hx2
    have HR2 := Lib.hid (HR1.out.below hb2 HR1.out.lt)
    have HL2 := Lib.hid (HL1.out.trans (hb2.mono HL1.out.size))
    clear hb2 HR1 HL1
    go_wp2_with fail
    refine (splace_t i _ _ _ _ _ _ ns gs os _ HV.out HX2.out.at).mono ?_
    rintro e w3 ⟨gw, cw, rfl, hx3, hb3⟩
    rw [HES.out, HEN.out]
    rw [HES.out] at hx3
    replace hx3 := hx3.ints
    have HW3 := Lib.hid hx3
    clear hx3
    have HR3 := Lib.hid (HR2.out.below hb3 HR2.out.lt)
    have HL3 := Lib.hid (HL2.out.trans (hb3.mono HL2.out.size))
    clear hb3 HR2 HL2 HX2
    obtain ⟨s1, hs1e⟩ : ∃ s1 : Nat, w3.heap.size = s1 := ⟨_, rfl⟩
    have hws1 : w.heap.size < s1 := by have := HR3.out.lt; omega
    have hsv3 : s1 ≤ w3.heap.size := by omega
    rw [hs1e] at HW3
    have q0 := HR3.out.cell 0
    have q1 := HR3.out.cell 1
    have q2 := HR3.out.cell 2
    have q3 := HR3.out.cell 3
    simp at q0 q1 q2 q3
    go_wp2_with fail
    refine (toCircuit_rows i nA gA oA nc gc oc ns gs os _ ((HC.out.below HL3.out).mono HL3.out.size) (by omega) (by omega) (by omega)).mono ?_
    rintro e w4 ⟨b1, b2, b3, rfl, hx4, hb4⟩
    rw [hs1e] at hx4
    clear q0 q1 q2 q3 hs1e
    have HX4 := Lib.hid hx4
    clear hx4
    have hsv4 : s1 ≤ w4.heap.size := Nat.le_trans hsv3 hb4.size
    have HR4 := Lib.hid (HR3.out.below hb4 HR3.out.lt)
    have HL4 := Lib.hid (HL3.out.trans (hb4.mono HL3.out.size))
    have HW4 := Lib.hid (HW3.out.below (hb4.mono (by omega)))
    clear hb4 HR3 HL3 HW3
    have hb5 : Below w4.heap.size w4 (w4.alloc (.cells #[.int .i64 i, .slice (some ⟨b1, 0, none⟩) ns.length ns.length, .slice (some ⟨b2, 0, none⟩) gs.length gs.length, .slice (some ⟨b3, 0, none⟩) os.length os.length] 26)) := (Below.refl _ _).alloc (Nat.le_refl _) _
    have HV05 : Hid (Row (w4.alloc (.cells #[.int .i64 i, .slice (some ⟨b1, 0, none⟩) ns.length ns.length, .slice (some ⟨b2, 0, none⟩) gs.length gs.length, .slice (some ⟨b3, 0, none⟩) os.length os.length] 26)) w4.heap.size 26 #[.int .i64 i, .slice (some ⟨b1, 0, none⟩) ns.length ns.length, .slice (some ⟨b2, 0, none⟩) gs.length gs.length, .slice (some ⟨b3, 0, none⟩) os.length os.length]) := Lib.hid (heap_alloc_new w4 _)
    have hcz : b3 < w4.heap.size := HX4.out.outs.lt
    have hsv5 : s1 ≤ (w4.alloc (.cells #[.int .i64 i, .slice (some ⟨b1, 0, none⟩) ns.length ns.length, .slice (some ⟨b2, 0, none⟩) gs.length gs.length, .slice (some ⟨b3, 0, none⟩) os.length os.length] 26)).heap.size := Nat.le_trans hsv4 hb5.size
    have HR5 := Lib.hid (HR4.out.below hb5 HR4.out.lt)
    have HL5 := Lib.hid (HL4.out.trans (hb5.mono HL4.out.size))
    have HW5 := Lib.hid (HW4.out.below (hb5.mono (by omega)))
    have HX5 := Lib.hid (HX4.out.below hb5)
    clear hb5 HR4 HL4 HW4 HX4
    go_wp2_with fail
    generalize w4.alloc (.cells #[.int .i64 i, .slice (some ⟨b1, 0, none⟩) ns.length ns.length, .slice (some ⟨b2, 0, none⟩) gs.length gs.length, .slice (some ⟨b3, 0, none⟩) os.length os.length] 26) = w5 at *
    generalize w4.heap.size = c0 at *
    have HB5 := HV05
    clear HV05
    refine (iplace_t i _ _ _ _ _ _ ns gs os _ HV.out HX5.out.at (Nat.le_refl _)).mono ?_
    rintro e w6 ⟨gg, cg, rfl, hx6, hb6⟩
    obtain ⟨s2, hs2e⟩ : ∃ s2 : Nat, w5.heap.size = s2 := ⟨_, rfl⟩
    have hzs2 : c0 < s2 := by have := HB5.out.lt; omega
    rw [HES.out, HEN.out]
    rw [HES.out, hs2e] at hx6
    have hsw6 : s2 ≤ w6.heap.size := by have := hb6.size; omega
    clear hs2e
    have HG6 := Lib.hid hx6
    clear hx6
    have hsv6 : s1 ≤ w6.heap.size := Nat.le_trans hsv5 hb6.size
    have HR6 := Lib.hid (HR5.out.below hb6 HR5.out.lt)
    have HL6 := Lib.hid (HL5.out.trans (hb6.mono HL5.out.size))
    have HW6 := Lib.hid (HW5.out.below (hb6.mono (by omega)))
    have HX6 := Lib.hid (HX5.out.below hb6)
    have HB6 := Lib.hid (HB5.out.below hb6 HB5.out.lt)
    clear hb6 HR5 HL5 HW5 HX5 HB5
    go_wp2_with fail
    refine (eqI_n _ _ n _ _ es _ HG6.out.ints (HW6.out.mono hsv6) HEN.out (by omega)).mono ?_
    rintro e w7 ⟨rfl, hb7⟩
    have hsv7 : s1 ≤ w7.heap.size := Nat.le_trans hsv6 hb7.size
    have hsw7 : s2 ≤ w7.heap.size := Nat.le_trans hsw6 hb7.size
    have HR7 := Lib.hid (HR6.out.below hb7 HR6.out.lt)
    have HL7 := Lib.hid (HL6.out.trans (hb7.mono HL6.out.size))
    have HW7 := Lib.hid (HW6.out.below (hb7.mono (by omega)))
    have HX7 := Lib.hid (HX6.out.below hb7)
    have HB7 := Lib.hid (HB6.out.below hb7 HB6.out.lt)
    have HG7 := Lib.hid (HG6.out.on hb7)
    clear hb7 HR6 HL6 HW6 HX6 HB6 HG6
    have q0 := HR7.out.cell 0
    have q1 := HR7.out.cell 1
    have q2 := HR7.out.cell 2
    have q3 := HR7.out.cell 3
    simp at q0 q1 q2 q3
    have p0 := HB7.out.cell 0
    have p1 := HB7.out.cell 1
    have p2 := HB7.out.cell 2
    have p3 := HB7.out.cell 3
    simp at p0 p1 p2 p3
    have hz1 := HR7.out.lt
    have hz2 := HB7.out.lt
    go_wp2
    go_region_held3 (fun w' => (w'.cell? ⟨w.heap.size, 0, none⟩ = some (.int .i64 i) ∧ w'.cell? ⟨w.heap.size, 1, none⟩ = some (.slice nA ns.length nc) ∧ w'.cell? ⟨w.heap.size, 2, none⟩ = some (.slice gA gs.length gc) ∧ w'.cell? ⟨w.heap.size, 3, none⟩ = some (.slice oA os.length oc)) ∧
        w'.cell? ⟨c0, 0, none⟩ = some (.int .i64 i) ∧ w'.cell? ⟨c0, 1, none⟩ = some (.slice (some ⟨b1, 0, none⟩) ns.length ns.length) ∧ w'.cell? ⟨c0, 2, none⟩ = some (.slice (some ⟨b2, 0, none⟩) gs.length gs.length) ∧ w'.cell? ⟨c0, 3, none⟩ = some (.slice (some ⟨b3, 0, none⟩) os.length os.length))
      (first | go_keep | (refine ⟨⟨?_, ?_, ?_, ?_⟩, ?_, ?_, ?_, ?_⟩ <;> (rw [hc7 _ _ (by simp; omega)]; simp [*])) | (refine ⟨⟨?_, ?_, ?_, ?_⟩, ?_, ?_, ?_, ?_⟩ <;> (rw [hc8 _ _ (by omega), hc7 _ _ (by simp; omega)]; simp [*])))
      (first
        | (go_at_call 20; go_must (refine (toCircuit_any i nA gA oA nc gc oc ns gs os _ ?_ ?_ ?_ ?_).mono ?_; (exact ((HC.out.below HL7.out.drew).mono HL7.out.drew.size)); (omega); (omega); (omega); rintro e u7 ⟨e1, e2, e3, f1, f2, f3, rfl, hC7, hbp⟩; obtain ⟨hc7, hf7⟩ := bcell hbp; have hzp : w7.heap.size ≤ u7.heap.size := hbp.size))
        | (go_at_call 22; refine (eqCircuit_any i _ _ _ e1 e2 e3 _ _ _ f1 f2 f3 ns gs os _ ?_ ?_ ?_ ?_ ?_).mono ?_; (exact ((HX7.out.at.below (Below.refl _ _).drew).below hbp).mono hbp.size); (exact hC7); (omega); (omega); (omega); rintro e u8 ⟨rfl, hbq⟩; obtain ⟨hc8, hf8⟩ := bcell hbq))
    clear hc7 hf7 hc8 hf8 p0 p1 p2 p3 q0 q1 q2 q3
    have hb8 : Below w7.heap.size w7 u8 := ((Below.refl _ w7).drew.trans hbp).trans (hbq.mono hzp)
    clear hbp hbq hzp hC7 hz1 hz2
    have hsv8 : s1 ≤ u8.heap.size := Nat.le_trans hsv7 hb8.size
    have hsw8 : s2 ≤ u8.heap.size := Nat.le_trans hsw7 hb8.size
    have HR8 := Lib.hid (HR7.out.below hb8 HR7.out.lt)
    have HL8 := Lib.hid (HL7.out.trans (hb8.mono HL7.out.size))
    have HW8 := Lib.hid (HW7.out.below (hb8.mono (by omega)))
    have HX8 := Lib.hid (HX7.out.below hb8)
    have HB8 := Lib.hid (HB7.out.below hb8 HB7.out.lt)
    have HG8 := Lib.hid (HG7.out.on hb8)
    clear hb8 HR7 HL7 HW7 HX7 HB7 HG7
    rename_i _hheld
    clear _hheld
    generalize u8 = w8 at *
    have p0 := HB8.out.cell 0
    have p1 := HB8.out.cell 1
    have p2 := HB8.out.cell 2
    have p3 := HB8.out.cell 3
    simp at p0 p1 p2 p3
    go_wp2_with fail
    rw [show (1 : Int) = ((1 : Nat) : Int) from rfl]
    refine (markCircuit_any i s1 b1 b2 b3 1 ns gs os _ HX8.out (by omega) (by omega) (by omega) (by omega)).mono ?_
    rintro e w9 ⟨rfl, hm9⟩
    have hb1s : s1 ≤ b1 := HX8.out.b0
    have hb12 : b1 < b2 := HX8.out.b1
    have hb23 : b2 < b3 := HX8.out.b2
    have HR9 := Lib.hid (hm9.row HR8.out (by omega))
    have hmw9 := hm9.wide (lo' := s1) (hi' := s2) (by omega) (by omega)
    have HW9 := Lib.hid (HW8.out.midX hmw9 (Nat.le_refl _) hsv8)
    have HG9 := Lib.hid (HG8.out.mid hmw9 (Nat.le_refl _))
    have HL9 := Lib.hid (HL8.out.trans ((hmw9.below hsv8).mono (by omega)))
    have hsv9 : s1 ≤ w9.heap.size := Nat.le_trans hsv8 hmw9.size
    have hsw9 : s2 ≤ w9.heap.size := Nat.le_trans hsw8 hmw9.size
    clear hm9 hmw9 HR8 HL8 HB8 HX8 p0 p1 p2 p3 HW8 HG8
    generalize hkk : 1 + ns.length + 2 * gs.length + os.length = kk at *
    have hkb : kk ≤ 5000000 := by omega
    clear hkk
    go_wp2_with fail
    refine (eqI_n _ _ n _ _ es _ HG9.out.ints (HW9.out.mono hsv9) HEN.out (by omega)).mono ?_
    rintro e w10 ⟨rfl, hb10⟩
    have hsv10 : s1 ≤ w10.heap.size := Nat.le_trans hsv9 hb10.size
    have hsw10 : s2 ≤ w10.heap.size := Nat.le_trans hsw9 hb10.size
    have HR10 := Lib.hid (HR9.out.below hb10 HR9.out.lt)
    have HL10 := Lib.hid (HL9.out.trans (hb10.mono HL9.out.size))
    have HW10 := Lib.hid (HW9.out.below (hb10.mono (by omega)))
    have HG10 := Lib.hid (HG9.out.on hb10)
    clear hb10 HR9 HL9 HW9 HG9
    go_wp2_with fail
    rw [show (1 : Int) = ((1 : Nat) : Int) from rfl]
    obtain ⟨cur, hrow, hcu⟩ := times_row HG10.out HEN.out
    have hgb := HG10.out.gb
    refine (markLeaf_any gg n cg 1 cur _ hrow hcu (by omega) (by omega)).mono ?_
    rintro e w11 ⟨rfl, ⟨cs11, hr11, hs11, hk11⟩, ho11⟩
    have HM11 := Lib.hid hr11
    have HT11 := Lib.hid hk11
    have hm11 : Below s2 w10 w11 := ho11.below (fun _ e => by injection e; omega) hsw10
    clear hrow hcu hgb hr11 hs11 hk11 ho11
    have HR11 := Lib.hid (HR10.out.below hm11 (by omega))
    have HW11 := Lib.hid (HW10.out.below (hm11.mono (by omega)))
    have HL11 := Lib.hid (HL10.out.trans (hm11.mono (by omega)))
    have hsv11 : s1 ≤ w11.heap.size := Nat.le_trans hsv10 hm11.size
    have hsw11 : s2 ≤ w11.heap.size := Nat.le_trans hsw10 hm11.size
    clear hm11 HR10 HW10 HG10 HL10
    have hmb : 1 + n ≤ 1000 := by omega
    generalize hmm : 1 + n = mm at *
    have HMM := Lib.hid hmm
    clear hmm
    go_wp2_with fail
    rw [show (1 : Int) = ((1 : Nat) : Int) from rfl]
    refine (heldLeaf_any gg n cg 1 cs11 _ HM11.out HT11.out (by omega) (by omega)).mono ?_
    rintro e w' ⟨rfl, rfl⟩
    rw [HMM.out]
    have q0 := HR11.out.cell 0
    have q1 := HR11.out.cell 1
    have q2 := HR11.out.cell 2
    have q3 := HR11.out.cell 3
    simp at q0 q1 q2 q3
    go_wp2_with fail
    refine (toCircuit_rows i nA gA oA nc gc oc ns gs os _ ((HC.out.below HL11.out).mono HL11.out.size) (by omega) (by omega) (by omega)).mono ?_
    rintro e w12 ⟨d1, d2, d3, rfl, hx12, hb12⟩
    clear q0 q1 q2 q3
    have HX12 := Lib.hid hx12
    clear hx12
    have hsv12 : s1 ≤ w12.heap.size := Nat.le_trans hsv11 hb12.size
    have hsw12 : s2 ≤ w12.heap.size := Nat.le_trans hsw11 hb12.size
    have HR12 := Lib.hid (HR11.out.below hb12 HR11.out.lt)
    have HL12 := Lib.hid (HL11.out.trans (hb12.mono HL11.out.size))
    have HW12 := Lib.hid (HW11.out.below (hb12.mono (by omega)))
    have HM12 := Lib.hid (HM11.out.below hb12 HM11.out.lt)
    clear hb12 HR11 HL11 HW11 HM11 
    go_wp2_with fail
    refine (iplace_t i _ _ _ _ _ _ ns gs os _ HV.out HX12.out.at (Nat.le_refl _)).mono ?_
    rintro e w13 ⟨gh, ch, rfl, hx13, hb13⟩
    rw [HES.out, HEN.out]
    rw [HES.out] at hx13
    have HG13 := Lib.hid hx13
    clear hx13
    have hsv13 : s1 ≤ w13.heap.size := Nat.le_trans hsv12 hb13.size
    have hsw13 : s2 ≤ w13.heap.size := Nat.le_trans hsw12 hb13.size
    have HR13 := Lib.hid (HR12.out.below hb13 HR12.out.lt)
    have HL13 := Lib.hid (HL12.out.trans (hb13.mono HL12.out.size))
    have HW13 := Lib.hid (HW12.out.below (hb13.mono (by omega)))
    have HM13 := Lib.hid (HM12.out.below hb13 HM12.out.lt)
    clear hb13 HR12 HL12 HW12 HM12 HX12
    go_wp2_with fail
    refine (eqI_n _ _ n _ _ es _ HG13.out.ints (HW13.out.mono hsv13) HEN.out (by omega)).mono ?_
    rintro e w14 ⟨rfl, hb14⟩
    have hsv14 : s1 ≤ w14.heap.size := Nat.le_trans hsv13 hb14.size
    have hsw14 : s2 ≤ w14.heap.size := Nat.le_trans hsw13 hb14.size
    have HR14 := Lib.hid (HR13.out.below hb14 HR13.out.lt)
    have HL14 := Lib.hid (HL13.out.trans (hb14.mono HL13.out.size))
    have HW14 := Lib.hid (HW13.out.below (hb14.mono (by omega)))
    have HM14 := Lib.hid (HM13.out.below hb14 HM13.out.lt)
    clear hb14 HR13 HL13 HW13 HM13 HG13
    go_wp2_with fail
    rw [show (1 : Int) = ((1 : Nat) : Int) from rfl]
    refine (heldLeaf_any gg n cg 1 cs11 _ HM14.out HT11.out (by omega) (by omega)).mono ?_
    rintro e w' ⟨rfl, rfl⟩
    rw [HMM.out]
    go_wp2
    go_ret
    exact ⟨rfl, HL14.out⟩
  · go_enter Tryz.func6, Tryz.ntmps6
    go_wp2_with (go_at_call 19; refine (szCircuit_no _ _ _ _ _ _ _ _ _ _ _ _ ?_ ?_ ?_ HC.out.nl HC.out.gl HC.out.ol).mono ?_; (omega); (omega); (omega); rintro e w1 ⟨rfl, hb1⟩)
    go_ret
    exact ⟨rfl, ((Below.refl _ _).alloc (Nat.le_refl _) _).trans (hb1.mono (by simp))⟩

set_option maxHeartbeats 2000000 in
theorem xplace_walk_f (i : Int) (nA gA oA : Option Addr) (nc gc oc : Nat) (ns : List Int) (gs : List (Int × Int)) (os : List Int) (w : World) (hc : CircAt w w.heap.size nA gA oA ns gs os) (hv : Circ.validB i ns gs os = false) :
    Calls Tryz.prog 6 #[.agg #[.int .i64 i, .slice nA ns.length nc, .slice gA gs.length gc, .slice oA os.length oc]] w fun e w' => e = .returned (.bool true) ∧ Below w.heap.size w w' := by
  have HC := Lib.hid hc
  have HV := Lib.hid hv
  clear hc hv
  by_cases hsz : (ns.length : Int) + gs.length + os.length ≤ 1048576
  · have hbw : Below w.heap.size w (w.alloc (.cells #[.int .i64 i, .slice nA ns.length nc, .slice gA gs.length gc, .slice oA os.length oc] 40)) := (Below.refl _ _).alloc (Nat.le_refl _) _
    have HL0 := Lib.hid hbw
    have r0 : Row (w.alloc (.cells #[.int .i64 i, .slice nA ns.length nc, .slice gA gs.length gc, .slice oA os.length oc] 40)) w.heap.size 40 #[.int .i64 i, .slice nA ns.length nc, .slice gA gs.length gc, .slice oA os.length oc] := heap_alloc_new w _
    have HR0 := Lib.hid r0
    clear hbw r0
    go_enter Tryz.func6, Tryz.ntmps6
    go_wp2_with fail
    refine (szCircuit_ok _ _ _ _ _ _ _ _ _ _ _ _ hsz (by omega)).mono ?_
    rintro e w1 ⟨rfl, hb1⟩
    have HR1 := Lib.hid (HR0.out.below hb1 HR0.out.lt)
    have HL1 := Lib.hid (HL0.out.trans (hb1.mono HL0.out.size))
    clear hb1 HR0 HL0
    have q0 := HR1.out.cell 0
    have q1 := HR1.out.cell 1
    have q2 := HR1.out.cell 2
    have q3 := HR1.out.cell 3
    simp at q0 q1 q2 q3
    go_wp2_with fail
    refine (toCircuit_rows i nA gA oA nc gc oc ns gs os _ ((HC.out.below HL1.out).mono HL1.out.size) (by omega) (by omega) (by omega)).mono ?_
    rintro e w2 ⟨a1, a2, a3, rfl, hx2, hb2⟩
    clear q0 q1 q2 q3
    have HX2 := Lib.hid hx2
    clear hx2
    have HR2 := Lib.hid (HR1.out.below hb2 HR1.out.lt)
    have HL2 := Lib.hid (HL1.out.trans (hb2.mono HL1.out.size))
    clear hb2 HR1 HL1
    go_wp2_with fail
    refine (splace_f i _ _ _ _ _ _ ns gs os _ HV.out HX2.out.at).mono ?_
    rintro e w3 ⟨⟨wA, wc, rfl⟩, hb3⟩
    have HR3 := Lib.hid (HR2.out.below hb3 HR2.out.lt)
    have HL3 := Lib.hid (HL2.out.trans (hb3.mono HL2.out.size))
    clear hb3 HR2 HL2 HX2
    obtain ⟨s1, hs1e⟩ : ∃ s1 : Nat, w3.heap.size = s1 := ⟨_, rfl⟩
    have hws1 : w.heap.size < s1 := by have := HR3.out.lt; omega
    have hsv3 : s1 ≤ w3.heap.size := by omega
    have q0 := HR3.out.cell 0
    have q1 := HR3.out.cell 1
    have q2 := HR3.out.cell 2
    have q3 := HR3.out.cell 3
    simp at q0 q1 q2 q3
    go_wp2_with fail
    refine (toCircuit_rows i nA gA oA nc gc oc ns gs os _ ((HC.out.below HL3.out).mono HL3.out.size) (by omega) (by omega) (by omega)).mono ?_
    rintro e w4 ⟨b1, b2, b3, rfl, hx4, hb4⟩
    rw [hs1e] at hx4
    clear q0 q1 q2 q3 hs1e
    have HX4 := Lib.hid hx4
    clear hx4
    have hsv4 : s1 ≤ w4.heap.size := Nat.le_trans hsv3 hb4.size
    have HR4 := Lib.hid (HR3.out.below hb4 HR3.out.lt)
    have HL4 := Lib.hid (HL3.out.trans (hb4.mono HL3.out.size))
    clear hb4 HR3 HL3
    have hb5 : Below w4.heap.size w4 (w4.alloc (.cells #[.int .i64 i, .slice (some ⟨b1, 0, none⟩) ns.length ns.length, .slice (some ⟨b2, 0, none⟩) gs.length gs.length, .slice (some ⟨b3, 0, none⟩) os.length os.length] 26)) := (Below.refl _ _).alloc (Nat.le_refl _) _
    have HV05 : Hid (Row (w4.alloc (.cells #[.int .i64 i, .slice (some ⟨b1, 0, none⟩) ns.length ns.length, .slice (some ⟨b2, 0, none⟩) gs.length gs.length, .slice (some ⟨b3, 0, none⟩) os.length os.length] 26)) w4.heap.size 26 #[.int .i64 i, .slice (some ⟨b1, 0, none⟩) ns.length ns.length, .slice (some ⟨b2, 0, none⟩) gs.length gs.length, .slice (some ⟨b3, 0, none⟩) os.length os.length]) := Lib.hid (heap_alloc_new w4 _)
    have hcz : b3 < w4.heap.size := HX4.out.outs.lt
    have hsv5 : s1 ≤ (w4.alloc (.cells #[.int .i64 i, .slice (some ⟨b1, 0, none⟩) ns.length ns.length, .slice (some ⟨b2, 0, none⟩) gs.length gs.length, .slice (some ⟨b3, 0, none⟩) os.length os.length] 26)).heap.size := Nat.le_trans hsv4 hb5.size
    have HR5 := Lib.hid (HR4.out.below hb5 HR4.out.lt)
    have HL5 := Lib.hid (HL4.out.trans (hb5.mono HL4.out.size))
    have HX5 := Lib.hid (HX4.out.below hb5)
    clear hb5 HR4 HL4 HX4
    go_wp2_with fail
    generalize w4.alloc (.cells #[.int .i64 i, .slice (some ⟨b1, 0, none⟩) ns.length ns.length, .slice (some ⟨b2, 0, none⟩) gs.length gs.length, .slice (some ⟨b3, 0, none⟩) os.length os.length] 26) = w5 at *
    generalize w4.heap.size = c0 at *
    have HB5 := HV05
    clear HV05
    refine (iplace_f i _ _ _ _ _ _ ns gs os _ HV.out HX5.out.at).mono ?_
    rintro e w6 ⟨⟨gA2, cg, rfl⟩, hb6⟩
    obtain ⟨s2, hs2e⟩ : ∃ s2 : Nat, w5.heap.size = s2 := ⟨_, rfl⟩
    have hzs2 : c0 < s2 := by have := HB5.out.lt; omega
    have hsw6 : s2 ≤ w6.heap.size := by have := hb6.size; omega
    clear hs2e
    have hsv6 : s1 ≤ w6.heap.size := Nat.le_trans hsv5 hb6.size
    have HR6 := Lib.hid (HR5.out.below hb6 HR5.out.lt)
    have HL6 := Lib.hid (HL5.out.trans (hb6.mono HL5.out.size))
    have HX6 := Lib.hid (HX5.out.below hb6)
    have HB6 := Lib.hid (HB5.out.below hb6 HB5.out.lt)
    clear hb6 HR5 HL5 HX5 HB5
    go_wp2_with fail
    refine (eqI_none _ _ _ _ _).mono ?_
    rintro e w7 ⟨rfl, hb7⟩
    have hsv7 : s1 ≤ w7.heap.size := Nat.le_trans hsv6 hb7.size
    have hsw7 : s2 ≤ w7.heap.size := Nat.le_trans hsw6 hb7.size
    have HR7 := Lib.hid (HR6.out.below hb7 HR6.out.lt)
    have HL7 := Lib.hid (HL6.out.trans (hb7.mono HL6.out.size))
    have HX7 := Lib.hid (HX6.out.below hb7)
    have HB7 := Lib.hid (HB6.out.below hb7 HB6.out.lt)
    clear hb7 HR6 HL6 HX6 HB6
    have q0 := HR7.out.cell 0
    have q1 := HR7.out.cell 1
    have q2 := HR7.out.cell 2
    have q3 := HR7.out.cell 3
    simp at q0 q1 q2 q3
    have p0 := HB7.out.cell 0
    have p1 := HB7.out.cell 1
    have p2 := HB7.out.cell 2
    have p3 := HB7.out.cell 3
    simp at p0 p1 p2 p3
    have hz1 := HR7.out.lt
    have hz2 := HB7.out.lt
    go_wp2
    go_region_held3 (fun w' => (w'.cell? ⟨w.heap.size, 0, none⟩ = some (.int .i64 i) ∧ w'.cell? ⟨w.heap.size, 1, none⟩ = some (.slice nA ns.length nc) ∧ w'.cell? ⟨w.heap.size, 2, none⟩ = some (.slice gA gs.length gc) ∧ w'.cell? ⟨w.heap.size, 3, none⟩ = some (.slice oA os.length oc)) ∧
        w'.cell? ⟨c0, 0, none⟩ = some (.int .i64 i) ∧ w'.cell? ⟨c0, 1, none⟩ = some (.slice (some ⟨b1, 0, none⟩) ns.length ns.length) ∧ w'.cell? ⟨c0, 2, none⟩ = some (.slice (some ⟨b2, 0, none⟩) gs.length gs.length) ∧ w'.cell? ⟨c0, 3, none⟩ = some (.slice (some ⟨b3, 0, none⟩) os.length os.length))
      (first | go_keep | (refine ⟨⟨?_, ?_, ?_, ?_⟩, ?_, ?_, ?_, ?_⟩ <;> (rw [hc7 _ _ (by simp; omega)]; simp [*])) | (refine ⟨⟨?_, ?_, ?_, ?_⟩, ?_, ?_, ?_, ?_⟩ <;> (rw [hc8 _ _ (by omega), hc7 _ _ (by simp; omega)]; simp [*])))
      (first
        | (go_at_call 20; go_must (refine (toCircuit_any i nA gA oA nc gc oc ns gs os _ ?_ ?_ ?_ ?_).mono ?_; (exact ((HC.out.below HL7.out.drew).mono HL7.out.drew.size)); (omega); (omega); (omega); rintro e u7 ⟨e1, e2, e3, f1, f2, f3, rfl, hC7, hbp⟩; obtain ⟨hc7, hf7⟩ := bcell hbp; have hzp : w7.heap.size ≤ u7.heap.size := hbp.size))
        | (go_at_call 22; refine (eqCircuit_any i _ _ _ e1 e2 e3 _ _ _ f1 f2 f3 ns gs os _ ?_ ?_ ?_ ?_ ?_).mono ?_; (exact ((HX7.out.at.below (Below.refl _ _).drew).below hbp).mono hbp.size); (exact hC7); (omega); (omega); (omega); rintro e u8 ⟨rfl, hbq⟩; obtain ⟨hc8, hf8⟩ := bcell hbq))
    clear hc7 hf7 hc8 hf8 p0 p1 p2 p3 q0 q1 q2 q3
    have hb8 : Below w7.heap.size w7 u8 := ((Below.refl _ w7).drew.trans hbp).trans (hbq.mono hzp)
    clear hbp hbq hzp hC7 hz1 hz2
    have hsv8 : s1 ≤ u8.heap.size := Nat.le_trans hsv7 hb8.size
    have hsw8 : s2 ≤ u8.heap.size := Nat.le_trans hsw7 hb8.size
    have HR8 := Lib.hid (HR7.out.below hb8 HR7.out.lt)
    have HL8 := Lib.hid (HL7.out.trans (hb8.mono HL7.out.size))
    have HX8 := Lib.hid (HX7.out.below hb8)
    have HB8 := Lib.hid (HB7.out.below hb8 HB7.out.lt)
    clear hb8 HR7 HL7 HX7 HB7
    rename_i _hheld
    clear _hheld
    generalize u8 = w8 at *
    have p0 := HB8.out.cell 0
    have p1 := HB8.out.cell 1
    have p2 := HB8.out.cell 2
    have p3 := HB8.out.cell 3
    simp at p0 p1 p2 p3
    go_wp2_with fail
    rw [show (1 : Int) = ((1 : Nat) : Int) from rfl]
    refine (markCircuit_any i s1 b1 b2 b3 1 ns gs os _ HX8.out (by omega) (by omega) (by omega) (by omega)).mono ?_
    rintro e w9 ⟨rfl, hm9⟩
    have hb1s : s1 ≤ b1 := HX8.out.b0
    have hb12 : b1 < b2 := HX8.out.b1
    have hb23 : b2 < b3 := HX8.out.b2
    have HR9 := Lib.hid (hm9.row HR8.out (by omega))
    have hmw9 := hm9.wide (lo' := s1) (hi' := s2) (by omega) (by omega)
    have HL9 := Lib.hid (HL8.out.trans ((hmw9.below hsv8).mono (by omega)))
    have hsv9 : s1 ≤ w9.heap.size := Nat.le_trans hsv8 hmw9.size
    have hsw9 : s2 ≤ w9.heap.size := Nat.le_trans hsw8 hmw9.size
    clear hm9 hmw9 HR8 HL8 HB8 HX8 p0 p1 p2 p3
    generalize hkk : 1 + ns.length + 2 * gs.length + os.length = kk at *
    have hkb : kk ≤ 5000000 := by omega
    clear hkk
    go_wp2_with fail
    refine (eqI_none _ _ _ _ _).mono ?_
    rintro e w10 ⟨rfl, hb10⟩
    have hsv10 : s1 ≤ w10.heap.size := Nat.le_trans hsv9 hb10.size
    have hsw10 : s2 ≤ w10.heap.size := Nat.le_trans hsw9 hb10.size
    have HR10 := Lib.hid (HR9.out.below hb10 HR9.out.lt)
    have HL10 := Lib.hid (HL9.out.trans (hb10.mono HL9.out.size))
    clear hb10 HR9 HL9
    go_wp2_with fail
    rw [show (1 : Int) = ((1 : Nat) : Int) from rfl]
    refine (markI_none _ _ 1 _).mono ?_
    rintro e w11 ⟨rfl, hb11⟩
    have hsv11 : s1 ≤ w11.heap.size := Nat.le_trans hsv10 hb11.size
    have hsw11 : s2 ≤ w11.heap.size := Nat.le_trans hsw10 hb11.size
    have HR11 := Lib.hid (HR10.out.below hb11 HR10.out.lt)
    have HL11 := Lib.hid (HL10.out.trans (hb11.mono HL10.out.size))
    clear hb11 HR10 HL10
    go_wp2_with fail
    rw [show (1 : Int) = ((1 : Nat) : Int) from rfl]
    refine (heldI_none _ _ 1 _).mono ?_
    rintro e w12 ⟨rfl, hb12⟩
    have hsv12 : s1 ≤ w12.heap.size := Nat.le_trans hsv11 hb12.size
    have hsw12 : s2 ≤ w12.heap.size := Nat.le_trans hsw11 hb12.size
    have HR12 := Lib.hid (HR11.out.below hb12 HR11.out.lt)
    have HL12 := Lib.hid (HL11.out.trans (hb12.mono HL11.out.size))
    clear hb12 HR11 HL11
    have q0 := HR12.out.cell 0
    have q1 := HR12.out.cell 1
    have q2 := HR12.out.cell 2
    have q3 := HR12.out.cell 3
    simp at q0 q1 q2 q3
    go_wp2_with fail
    refine (toCircuit_rows i nA gA oA nc gc oc ns gs os _ ((HC.out.below HL12.out).mono HL12.out.size) (by omega) (by omega) (by omega)).mono ?_
    rintro e w13 ⟨d1, d2, d3, rfl, hx13, hb13⟩
    clear q0 q1 q2 q3
    have HX13 := Lib.hid hx13
    clear hx13
    have hsv13 : s1 ≤ w13.heap.size := Nat.le_trans hsv12 hb13.size
    have hsw13 : s2 ≤ w13.heap.size := Nat.le_trans hsw12 hb13.size
    have HR13 := Lib.hid (HR12.out.below hb13 HR12.out.lt)
    have HL13 := Lib.hid (HL12.out.trans (hb13.mono HL12.out.size))
    clear hb13 HR12 HL12
    go_wp2_with fail
    refine (iplace_f i _ _ _ _ _ _ ns gs os _ HV.out HX13.out.at).mono ?_
    rintro e w14 ⟨⟨hA2, ch, rfl⟩, hb14⟩
    have hsv14 : s1 ≤ w14.heap.size := Nat.le_trans hsv13 hb14.size
    have hsw14 : s2 ≤ w14.heap.size := Nat.le_trans hsw13 hb14.size
    have HR14 := Lib.hid (HR13.out.below hb14 HR13.out.lt)
    have HL14 := Lib.hid (HL13.out.trans (hb14.mono HL13.out.size))
    clear hb14 HR13 HL13 HX13
    go_wp2_with fail
    refine (eqI_none _ _ _ _ _).mono ?_
    rintro e w15 ⟨rfl, hb15⟩
    have hsv15 : s1 ≤ w15.heap.size := Nat.le_trans hsv14 hb15.size
    have hsw15 : s2 ≤ w15.heap.size := Nat.le_trans hsw14 hb15.size
    have HR15 := Lib.hid (HR14.out.below hb15 HR14.out.lt)
    have HL15 := Lib.hid (HL14.out.trans (hb15.mono HL14.out.size))
    clear hb15 HR14 HL14
    go_wp2_with fail
    rw [show (1 : Int) = ((1 : Nat) : Int) from rfl]
    refine (heldI_none _ _ 1 _).mono ?_
    rintro e w16 ⟨rfl, hb16⟩
    have hsv16 : s1 ≤ w16.heap.size := Nat.le_trans hsv15 hb16.size
    have hsw16 : s2 ≤ w16.heap.size := Nat.le_trans hsw15 hb16.size
    have HR16 := Lib.hid (HR15.out.below hb16 HR15.out.lt)
    have HL16 := Lib.hid (HL15.out.trans (hb16.mono HL15.out.size))
    clear hb16 HR15 HL15
    go_wp2
    go_ret
    exact ⟨rfl, HL16.out⟩
  · go_enter Tryz.func6, Tryz.ntmps6
    go_wp2_with (go_at_call 19; refine (szCircuit_no _ _ _ _ _ _ _ _ _ _ _ _ ?_ ?_ ?_ HC.out.nl HC.out.gl HC.out.ol).mono ?_; (omega); (omega); (omega); rintro e w1 ⟨rfl, hb1⟩)
    go_ret
    exact ⟨rfl, ((Below.refl _ _).alloc (Nat.le_refl _) _).trans (hb1.mono (by simp))⟩
end Go.Proofs.YtliaommpnaagiaaGreat
