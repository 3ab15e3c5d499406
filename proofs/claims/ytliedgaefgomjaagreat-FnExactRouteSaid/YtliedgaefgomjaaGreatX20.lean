/- The walk of the exact law of Route. -/
import Derived.Test.YtliedgaefgomjaaGreatRR
import Derived.Test.YtliedgaefgomjaaGreatST
import Derived.Test.YtliedgaefgomjaaGreatCT
namespace Go.Proofs.YtliedgaefgomjaaGreat
open Go.RowKit Go.Deep Cut Plc Rt
set_option maxRecDepth 100000

theorem RoAt.mid {w w' : World} {B g cap lo hi : Nat} {es : List Ro} {hs : List Value} (h : RoAt w B es hs g cap) (hm : Mid lo hi w w') (hB : hi ≤ B) : RoAt w' B es hs g cap := h.keep (fun b hb hl => hm.block b hl (.inr (by omega))) hm.size
theorem RoIn.mid {w w' : World} {B lo hi : Nat} {A : Option Addr} {es : List Ro} (h : RoIn w B A es) (hm : Mid lo hi w w') (hB : B ≤ lo) (hs : lo ≤ w.heap.size) : RoIn w' B A es := h.below ((hm.below hs).mono hB)
theorem irow_mid {w w' : World} {lo hi g : Nat} {xs : List Int} (hm : Mid lo hi w w') (h : IRow w g xs) (hg : g < lo ∨ hi ≤ g) : IRow w' g xs := by
  obtain ⟨cs, hr, hf⟩ := h
  exact ⟨cs, hm.row hr hg, hf⟩
set_option maxHeartbeats 4000000 in
theorem xroute_walk_t (i : Int) (nA gA oA pA : Option Addr) (nc gc oc pc : Nat) (ns : List Int) (gs : List (Int × Int)) (os ps : List Int) (es : List Ro) (w : World) (hc : CircAt w w.heap.size nA gA oA ns gs os) (hp : IntsAt w w.heap.size pA ps) (hp1 : ps.length ≤ 1048576) (hsz : (ns.length : Int) + gs.length + os.length ≤ 1048576) (he : routesZ i ns gs os ps = some es) :
    Calls Tryz.prog 5 #[.agg #[.int .i64 i, .slice nA ns.length nc, .slice gA gs.length gc, .slice oA os.length oc], .slice pA ps.length pc] w fun e w' => e = .returned (.bool true) ∧ Below w.heap.size w w' := by
  have HC := Lib.hid hc
  have HP := Lib.hid hp
  have HES := Lib.hid he
  clear hc hp
  have hbw : Below w.heap.size w (w.alloc (.cells #[.int .i64 i, .slice nA ns.length nc, .slice gA gs.length gc, .slice oA os.length oc] 48)) := (Below.refl _ _).alloc (Nat.le_refl _) _
  obtain ⟨hln, hcb⟩ := routesZ_bd he
  obtain ⟨n, hn⟩ : ∃ n, es.length = n := ⟨_, rfl⟩
  rw [hn] at hcb hln
  have HEN := Lib.hid hn
  have HCB : Hid (RoBd es n) := Lib.hid (fun k hk => by have := hcb k hk; omega)
  have hlb3 : ∀ j, j < (lensR es).length → (lensR es).getD j 0 ≤ 25 := fun j hj => by
    rw [lensR_get]
    exact (hcb j (by simpa [lensR, hn] using hj)).2.2
  have HLB : Hid (∀ j, j < n → (lensR es).getD j 0 ≤ 1000) := Lib.hid (fun j hj => by have := hlb3 j (by simpa [lensR, hn] using hj); omega)
  have HLL : Hid ((lensR es).length = n) := Lib.hid (by simp [lensR, hn])
  have HOB : Hid (1 + ofH (lensR es) n ≤ 1000000) := Lib.hid (by have := ofH_bd hlb3 n; omega)
  clear hcb hlb3 hn he
  have HL0 := Lib.hid hbw
  have r0 : Row (w.alloc (.cells #[.int .i64 i, .slice nA ns.length nc, .slice gA gs.length gc, .slice oA os.length oc] 48)) w.heap.size 48 #[.int .i64 i, .slice nA ns.length nc, .slice gA gs.length gc, .slice oA os.length oc] := heap_alloc_new w _
  have HR0 := Lib.hid r0
  clear hbw r0
  go_enter Tryz.func5, Tryz.ntmps5
  go_wp2_with fail
  refine (szCircuit_ok _ _ _ _ _ _ _ _ _ _ _ _ hsz (by omega)).mono ?_
  rintro e w1 ⟨rfl, hb1⟩
  have HR1 := Lib.hid (HR0.out.below hb1 HR0.out.lt)
  have HL1 := Lib.hid (HL0.out.trans (hb1.mono HL0.out.size))
  clear hb1 HR0 HL0
  have q0 := HR1.out.cell 0
  have q1 := HR1.out.cell 1
  have q2 := HR1.out.cell 2
  have q3 := HR1.out.cell 3
  simp at q0 q1 q2 q3
  go_wp2_with fail
  refine (toCircuit_rows i nA gA oA nc gc oc ns gs os _ ((HC.out.below HL1.out).mono HL1.out.size) (by omega) (by omega) (by omega)).mono ?_
  rintro e w2 ⟨a1, a2, a3, rfl, hx2, hb2⟩
  have HX2 := Lib.hid hx2
  clear hx2 q0 q1 q2 q3
  have HR2 := Lib.hid (HR1.out.below hb2 HR1.out.lt)
  have HL2 := Lib.hid (HL1.out.trans (hb2.mono HL1.out.size))
  clear hb2 HR1 HL1
  go_wp2_with fail
  refine (toIntS_row pA pc ps _ ((HP.out.below HL2.out).mono HL2.out.size) (by omega)).mono ?_
  rintro e w3 ⟨rfl, hb3, hx3⟩
  have HY3 := Lib.hid hx3
  clear hx3
  have HR3 := Lib.hid (HR2.out.below hb3 HR2.out.lt)
  have HL3 := Lib.hid (HL2.out.trans (hb3.mono HL2.out.size))
  have HX3 := Lib.hid (HX2.out.below hb3)
  clear hb3 HR2 HL2 HX2
  go_wp2_with fail
  refine (sroute_any i _ _ _ _ _ _ _ _ _ ns gs os ps _ HX3.out.at HY3.out.ints rfl (by unfold maxLen; omega) (Nat.le_refl _)).mono ?_
  rintro e w4 ⟨hx4, hb4⟩
  rw [HES.out] at hx4
  obtain ⟨gw, cw, WW, rfl, hx4⟩ := hx4
  rw [HEN.out]
  replace hx4 := hx4.read
  have HW4 := Lib.hid hx4
  clear hx4
  have HR4 := Lib.hid (HR3.out.below hb4 HR3.out.lt)
  have HL4 := Lib.hid (HL3.out.trans (hb4.mono HL3.out.size))
  clear hb4 HR3 HL3 HX3 HY3
  obtain ⟨s1, hs1e⟩ : ∃ s1 : Nat, w4.heap.size = s1 := ⟨_, rfl⟩
  have hws1 : w.heap.size < s1 := by have := HR4.out.lt; omega
  have hsv4 : s1 ≤ w4.heap.size := by omega
  rw [hs1e] at HW4
  have q0 := HR4.out.cell 0
  have q1 := HR4.out.cell 1
  have q2 := HR4.out.cell 2
  have q3 := HR4.out.cell 3
  simp at q0 q1 q2 q3
  go_wp2_with fail
  refine (toCircuit_rows i nA gA oA nc gc oc ns gs os _ ((HC.out.below HL4.out).mono HL4.out.size) (by omega) (by omega) (by omega)).mono ?_
  rintro e w6 ⟨b1, b2, b3, rfl, hx6, hb6⟩
  rw [hs1e] at hx6
  clear q0 q1 q2 q3 hs1e
  have HX6 := Lib.hid hx6
  clear hx6
  have hsv6 : s1 ≤ w6.heap.size := Nat.le_trans hsv4 hb6.size
  have HR6 := Lib.hid (HR4.out.below hb6 HR4.out.lt)
  have HL6 := Lib.hid (HL4.out.trans (hb6.mono HL4.out.size))
  have HW6 := Lib.hid (HW4.out.below (hb6.mono (by omega)))
  clear hb6 HR4 HL4 HW4
  have hcz : b3 < w6.heap.size := HX6.out.outs.lt
  have hb7 : Below w6.heap.size w6 (w6.alloc (.cells #[.int .i64 i, .slice (some ⟨b1, 0, none⟩) ns.length ns.length, .slice (some ⟨b2, 0, none⟩) gs.length gs.length, .slice (some ⟨b3, 0, none⟩) os.length os.length] 26)) := (Below.refl _ _).alloc (Nat.le_refl _) _
  have HB7 : Hid (Row (w6.alloc (.cells #[.int .i64 i, .slice (some ⟨b1, 0, none⟩) ns.length ns.length, .slice (some ⟨b2, 0, none⟩) gs.length gs.length, .slice (some ⟨b3, 0, none⟩) os.length os.length] 26)) w6.heap.size 26 #[.int .i64 i, .slice (some ⟨b1, 0, none⟩) ns.length ns.length, .slice (some ⟨b2, 0, none⟩) gs.length gs.length, .slice (some ⟨b3, 0, none⟩) os.length os.length]) := Lib.hid (heap_alloc_new w6 _)
  have hsv7 : s1 ≤ (w6.alloc (.cells #[.int .i64 i, .slice (some ⟨b1, 0, none⟩) ns.length ns.length, .slice (some ⟨b2, 0, none⟩) gs.length gs.length, .slice (some ⟨b3, 0, none⟩) os.length os.length] 26)).heap.size := Nat.le_trans hsv6 hb7.size
  have HR7 := Lib.hid (HR6.out.below hb7 HR6.out.lt)
  have HL7 := Lib.hid (HL6.out.trans (hb7.mono HL6.out.size))
  have HW7 := Lib.hid (HW6.out.below (hb7.mono (by omega)))
  have HX7 := Lib.hid (HX6.out.below hb7)
  clear hb7 HR6 HL6 HW6 HX6
  go_wp2_with fail
  generalize w6.alloc (.cells #[.int .i64 i, .slice (some ⟨b1, 0, none⟩) ns.length ns.length, .slice (some ⟨b2, 0, none⟩) gs.length gs.length, .slice (some ⟨b3, 0, none⟩) os.length os.length] 26) = w7 at *
  generalize w6.heap.size = c0 at *
  refine (toIntS_row pA pc ps _ ((HP.out.below HL7.out).mono HL7.out.size) (by omega)).mono ?_
  rintro e w8 ⟨rfl, hb8, hx8⟩
  have HY8 := Lib.hid hx8
  clear hx8
  have hyc : c0 < w7.heap.size := HB7.out.lt
  have hyz : w7.heap.size < w8.heap.size := HY8.out.lt
  have hsv8 : s1 ≤ w8.heap.size := Nat.le_trans hsv7 hb8.size
  have HR8 := Lib.hid (HR7.out.below hb8 HR7.out.lt)
  have HL8 := Lib.hid (HL7.out.trans (hb8.mono HL7.out.size))
  have HW8 := Lib.hid (HW7.out.below (hb8.mono (by omega)))
  have HX8 := Lib.hid (HX7.out.below hb8)
  have HB8 := Lib.hid (HB7.out.below hb8 HB7.out.lt)
  clear hb8 HR7 HL7 HW7 HX7 HB7
  generalize w7.heap.size = y0 at *
  have p0 := HB8.out.cell 0
  have p1 := HB8.out.cell 1
  have p2 := HB8.out.cell 2
  have p3 := HB8.out.cell 3
  simp at p0 p1 p2 p3
  go_wp2_with fail
  refine (iroute_any i _ _ _ _ _ _ _ _ _ ns gs os ps _ HX8.out.at (Nat.le_refl _) HY8.out.ints rfl (by unfold maxLen; omega)).mono ?_
  rintro e w9 ⟨hx9, hb9⟩
  clear p0 p1 p2 p3
  obtain ⟨s2, hs2e⟩ : ∃ s2 : Nat, w8.heap.size = s2 := ⟨_, rfl⟩
  have hys2 : y0 < s2 := by omega
  have hsw9 : s2 ≤ w9.heap.size := by have := hb9.size; omega
  rw [HES.out] at hx9
  obtain ⟨gg, cg, HH, rfl, hx9, hd9⟩ := hx9
  rw [HEN.out]
  rw [hs2e] at hx9
  have HD := Lib.hid hd9
  have HG9 := Lib.hid hx9
  clear hx9 hd9 hs2e
  have hsv9 : s1 ≤ w9.heap.size := Nat.le_trans hsv8 hb9.size
  have HR9 := Lib.hid (HR8.out.below hb9 HR8.out.lt)
  have HL9 := Lib.hid (HL8.out.trans (hb9.mono HL8.out.size))
  have HW9 := Lib.hid (HW8.out.below (hb9.mono (by omega)))
  have HX9 := Lib.hid (HX8.out.below hb9)
  have HB9 := Lib.hid (HB8.out.below hb9 HB8.out.lt)
  have HY9 := Lib.hid (HY8.out.below hb9 HY8.out.lt)
  clear hb9 HR8 HL8 HW8 HX8 HB8 HY8
  go_wp2_with fail
  refine (eqRoS_any _ _ n _ _ es _ HG9.out.read (HW9.out.mono hsv9) HEN.out (by omega) HCB.out).mono ?_
  rintro e w10 ⟨rfl, hb10⟩
  have hsv10 : s1 ≤ w10.heap.size := Nat.le_trans hsv9 hb10.size
  have hsw10 : s2 ≤ w10.heap.size := Nat.le_trans hsw9 hb10.size
  have HR10 := Lib.hid (HR9.out.below hb10 HR9.out.lt)
  have HL10 := Lib.hid (HL9.out.trans (hb10.mono HL9.out.size))
  have HW10 := Lib.hid (HW9.out.below (hb10.mono (by omega)))
  have HX10 := Lib.hid (HX9.out.below hb10)
  have HB10 := Lib.hid (HB9.out.below hb10 HB9.out.lt)
  have HY10 := Lib.hid (HY9.out.below hb10 HY9.out.lt)
  have HG10 := Lib.hid (HG9.out.on hb10)
  clear hb10 HR9 HL9 HW9 HX9 HB9 HY9 HG9
  have q0 := HR10.out.cell 0
  have q1 := HR10.out.cell 1
  have q2 := HR10.out.cell 2
  have q3 := HR10.out.cell 3
  simp at q0 q1 q2 q3
  have p0 := HB10.out.cell 0
  have p1 := HB10.out.cell 1
  have p2 := HB10.out.cell 2
  have p3 := HB10.out.cell 3
  simp at p0 p1 p2 p3
  have hz1 := HR10.out.lt
  have hz2 := HB10.out.lt
  go_wp2
  go_region_held3 (fun w' => (w'.cell? ⟨w.heap.size, 0, none⟩ = some (.int .i64 i) ∧ w'.cell? ⟨w.heap.size, 1, none⟩ = some (.slice nA ns.length nc) ∧ w'.cell? ⟨w.heap.size, 2, none⟩ = some (.slice gA gs.length gc) ∧ w'.cell? ⟨w.heap.size, 3, none⟩ = some (.slice oA os.length oc)) ∧
          w'.cell? ⟨c0, 0, none⟩ = some (.int .i64 i) ∧ w'.cell? ⟨c0, 1, none⟩ = some (.slice (some ⟨b1, 0, none⟩) ns.length ns.length) ∧ w'.cell? ⟨c0, 2, none⟩ = some (.slice (some ⟨b2, 0, none⟩) gs.length gs.length) ∧ w'.cell? ⟨c0, 3, none⟩ = some (.slice (some ⟨b3, 0, none⟩) os.length os.length))
        (first | go_keep | (refine ⟨⟨?_, ?_, ?_, ?_⟩, ?_, ?_, ?_, ?_⟩ <;> (rw [hc7 _ _ (by simp; omega)]; simp [*])) | (refine ⟨⟨?_, ?_, ?_, ?_⟩, ?_, ?_, ?_, ?_⟩ <;> (rw [hc8 _ _ (by omega), hc7 _ _ (by simp; omega)]; simp [*])))
        (first
          | (go_at_call 15; go_must (refine (toCircuit_any i nA gA oA nc gc oc ns gs os _ ?_ ?_ ?_ ?_).mono ?_; (exact ((HC.out.below HL10.out.drew).mono HL10.out.drew.size)); (omega); (omega); (omega); rintro e u7 ⟨e1, e2, e3, f1, f2, f3, rfl, hC7, hbp⟩; obtain ⟨hc7, hf7⟩ := bcell hbp; have hzp : w10.heap.size ≤ u7.heap.size := hbp.size))
          | (go_at_call 18; refine (eqCircuit_any i _ _ _ e1 e2 e3 _ _ _ f1 f2 f3 ns gs os _ ?_ ?_ ?_ ?_ ?_).mono ?_; (exact ((HX10.out.at.below (Below.refl _ _).drew).below hbp).mono hbp.size); (exact hC7); (omega); (omega); (omega); rintro e u8 ⟨rfl, hbq⟩; obtain ⟨hc8, hf8⟩ := bcell hbq))
  clear hc7 hf7 hc8 hf8 p0 p1 p2 p3 q0 q1 q2 q3
  have hb11 : Below w10.heap.size w10 u8 := ((Below.refl _ w10).drew.trans hbp).trans (hbq.mono hzp)
  clear hbp hbq hzp hC7 hz1 hz2
  have hsv11 : s1 ≤ u8.heap.size := Nat.le_trans hsv10 hb11.size
  have hsw11 : s2 ≤ u8.heap.size := Nat.le_trans hsw10 hb11.size
  have HR11 := Lib.hid (HR10.out.below hb11 HR10.out.lt)
  have HL11 := Lib.hid (HL10.out.trans (hb11.mono HL10.out.size))
  have HW11 := Lib.hid (HW10.out.below (hb11.mono (by omega)))
  have HX11 := Lib.hid (HX10.out.below hb11)
  have HB11 := Lib.hid (HB10.out.below hb11 HB10.out.lt)
  have HY11 := Lib.hid (HY10.out.below hb11 HY10.out.lt)
  have HG11 := Lib.hid (HG10.out.on hb11)
  clear hb11 HR10 HL10 HW10 HX10 HB10 HY10 HG10
  rename_i _hheld
  clear _hheld
  generalize u8 = w11 at *
  go_wp2_with fail
  refine (toIntS_row pA pc ps _ ((HP.out.below HL11.out).mono HL11.out.size) (by omega)).mono ?_
  rintro e w12 ⟨rfl, hb12, hx12⟩
  have HZ12 := Lib.hid hx12
  clear hx12
  have hsv12 : s1 ≤ w12.heap.size := Nat.le_trans hsv11 hb12.size
  have hsw12 : s2 ≤ w12.heap.size := Nat.le_trans hsw11 hb12.size
  have HR12 := Lib.hid (HR11.out.below hb12 HR11.out.lt)
  have HL12 := Lib.hid (HL11.out.trans (hb12.mono HL11.out.size))
  have HW12 := Lib.hid (HW11.out.below (hb12.mono (by omega)))
  have HX12 := Lib.hid (HX11.out.below hb12)
  have HB12 := Lib.hid (HB11.out.below hb12 HB11.out.lt)
  have HY12 := Lib.hid (HY11.out.below hb12 HY11.out.lt)
  have HG12 := Lib.hid (HG11.out.on hb12)
  clear hb12 HR11 HL11 HW11 HX11 HB11 HY11 HG11
  go_wp2_with fail
  refine (eqIntS_any _ _ _ _ ps _ HY12.out.ints HZ12.out.ints (by omega)).mono ?_
  rintro e w13 ⟨rfl, hb13⟩
  clear HZ12
  have hsv13 : s1 ≤ w13.heap.size := Nat.le_trans hsv12 hb13.size
  have hsw13 : s2 ≤ w13.heap.size := Nat.le_trans hsw12 hb13.size
  have HR13 := Lib.hid (HR12.out.below hb13 HR12.out.lt)
  have HL13 := Lib.hid (HL12.out.trans (hb13.mono HL12.out.size))
  have HW13 := Lib.hid (HW12.out.below (hb13.mono (by omega)))
  have HX13 := Lib.hid (HX12.out.below hb13)
  have HB13 := Lib.hid (HB12.out.below hb13 HB12.out.lt)
  have HY13 := Lib.hid (HY12.out.below hb13 HY12.out.lt)
  have HG13 := Lib.hid (HG12.out.on hb13)
  clear hb13 HR12 HL12 HW12 HX12 HB12 HY12 HG12
  have p0 := HB13.out.cell 0
  have p1 := HB13.out.cell 1
  have p2 := HB13.out.cell 2
  have p3 := HB13.out.cell 3
  simp at p0 p1 p2 p3
  go_wp2_with fail
  rw [show (1 : Int) = ((1 : Nat) : Int) from rfl]
  refine (markCircuit_any i s1 b1 b2 b3 1 ns gs os _ HX13.out (by omega) (by omega) (by omega) (by omega)).mono ?_
  rintro e w14 ⟨rfl, hm14⟩
  have hb1s : s1 ≤ b1 := HX13.out.b0
  have hb12 : b1 < b2 := HX13.out.b1
  have hb23 : b2 < b3 := HX13.out.b2
  have hc0b : b3 < c0 := hcz
  have HR14 := Lib.hid (hm14.row HR13.out (by omega))
  have HY14 := Lib.hid (irow_mid hm14 HY13.out (by omega))
  have hmw14 := hm14.wide (lo' := s1) (hi' := s2) (by omega) (by omega)
  have HW14 := Lib.hid (HW13.out.mid hmw14 (Nat.le_refl _) hsv13)
  have HG14 := Lib.hid (HG13.out.mid hmw14 (Nat.le_refl _))
  have HL14 := Lib.hid (HL13.out.trans ((hmw14.below hsv13).mono (by omega)))
  have hsv14 : s1 ≤ w14.heap.size := Nat.le_trans hsv13 hmw14.size
  have hsw14 : s2 ≤ w14.heap.size := Nat.le_trans hsw13 hmw14.size
  clear hm14 hmw14 HR13 HL13 HB13 HX13 HY13 p0 p1 p2 p3 HW13 HG13
  generalize hkk : 1 + ns.length + 2 * gs.length + os.length = kk at *
  have hkb : kk ≤ 5000000 := by omega
  clear hkk
  go_wp2_with fail
  obtain ⟨cy, hry, hfy⟩ := HY14.out
  refine (markI_row y0 _ kk cy _ hry hfy.1 (by omega) (by omega)).mono ?_
  rintro e w15 ⟨rfl, ho15⟩
  have hm15 : Mid y0 (y0 + 1) w14 w15 := ho15.mid (Nat.le_refl _) (by omega)
  have HR15 := Lib.hid (hm15.row HR14.out (by omega))
  have hmw15 := hm15.wide (lo' := s1) (hi' := s2) (by omega) (by omega)
  have HW15 := Lib.hid (HW14.out.mid hmw15 (Nat.le_refl _) hsv14)
  have HG15 := Lib.hid (HG14.out.mid hmw15 (Nat.le_refl _))
  have HL15 := Lib.hid (HL14.out.trans ((hmw15.below hsv14).mono (by omega)))
  have hsv15 : s1 ≤ w15.heap.size := Nat.le_trans hsv14 hmw15.size
  have hsw15 : s2 ≤ w15.heap.size := Nat.le_trans hsw14 hmw15.size
  clear ho15 hm15 hmw15 hry hfy HR14 HL14 HY14 HW14 HG14
  generalize hkk : kk + ps.length = k2 at *
  have hkb2 : k2 ≤ 8000000 := by omega
  clear hkk
  go_wp2_with fail
  refine (eqRoS_any _ _ n _ _ es _ HG15.out.read (HW15.out.mono hsv15) HEN.out (by omega) HCB.out).mono ?_
  rintro e w16 ⟨rfl, hb16⟩
  have hsv16 : s1 ≤ w16.heap.size := Nat.le_trans hsv15 hb16.size
  have hsw16 : s2 ≤ w16.heap.size := Nat.le_trans hsw15 hb16.size
  have HR16 := Lib.hid (HR15.out.below hb16 HR15.out.lt)
  have HL16 := Lib.hid (HL15.out.trans (hb16.mono HL15.out.size))
  have HW16 := Lib.hid (HW15.out.below (hb16.mono (by omega)))
  have HG16 := Lib.hid (HG15.out.on hb16)
  clear hb16 HR15 HL15 HW15 HG15
  go_wp2_with fail
  rw [show (1 : Int) = ((1 : Nat) : Int) from rfl]
  obtain ⟨hds, hr16, hh16, hd16⟩ := HG16.out.marks HD.out 1
  have hgb := HG16.out.gb
  refine (markRo_any gg cg n 1 s2 hds (lensR es) _ hr16 hh16 hd16 HLL.out HLB.out HOB.out (by omega) hgb.1).mono ?_
  rintro e w17 ⟨rfl, hr17, hh17, hb17, hz17⟩
  have HM17 := Lib.hid hr17
  have HN17 := Lib.hid hh17
  have HR17 := Lib.hid (HR16.out.below hb17 (by omega))
  have HW17 := Lib.hid (HW16.out.below (hb17.mono (by omega)))
  have HL17 := Lib.hid (HL16.out.trans (hb17.mono (by omega)))
  have hsv17 : s1 ≤ w17.heap.size := by omega
  have hsw17 : s2 ≤ w17.heap.size := by omega
  clear hr16 hh16 hd16 hgb hr17 hh17 hb17 hz17 HR16 HW16 HL16 HG16
  have hmb := HOB.out
  generalize hmm : 1 + ofH (lensR es) n = mm at hmb ⊢
  have HMM := Lib.hid hmm
  clear hmm
  go_wp2_with fail
  rw [show (1 : Int) = ((1 : Nat) : Int) from rfl]
  refine (heldRo_any gg cg n 1 s2 hds (lensR es) _ HM17.out HN17.out HLL.out HLB.out HOB.out (by omega)).mono ?_
  rintro e w' ⟨rfl, rfl⟩
  rw [HMM.out]
  have q0 := HR17.out.cell 0
  have q1 := HR17.out.cell 1
  have q2 := HR17.out.cell 2
  have q3 := HR17.out.cell 3
  simp at q0 q1 q2 q3
  go_wp2_with fail
  refine (toCircuit_rows i nA gA oA nc gc oc ns gs os _ ((HC.out.below HL17.out).mono HL17.out.size) (by omega) (by omega) (by omega)).mono ?_
  rintro e w19 ⟨d1, d2, d3, rfl, hx19, hb19⟩
  have HX19 := Lib.hid hx19
  clear hx19 q0 q1 q2 q3
  have hsv19 : s1 ≤ w19.heap.size := Nat.le_trans hsv17 hb19.size
  have hsw19 : s2 ≤ w19.heap.size := Nat.le_trans hsw17 hb19.size
  have HR19 := Lib.hid (HR17.out.below hb19 HR17.out.lt)
  have HL19 := Lib.hid (HL17.out.trans (hb19.mono HL17.out.size))
  have HW19 := Lib.hid (HW17.out.below (hb19.mono (by omega)))
  have HM19 := Lib.hid (HM17.out.below hb19 HM17.out.lt)
  have HN19 := Lib.hid (HN17.out.on hb19)
  clear hb19 HR17 HL17 HW17 HM17 HN17
  go_wp2_with fail
  refine (toIntS_row pA pc ps _ ((HP.out.below HL19.out).mono HL19.out.size) (by omega)).mono ?_
  rintro e w20 ⟨rfl, hb20, hx20⟩
  have HY20 := Lib.hid hx20
  clear hx20
  have hsv20 : s1 ≤ w20.heap.size := Nat.le_trans hsv19 hb20.size
  have hsw20 : s2 ≤ w20.heap.size := Nat.le_trans hsw19 hb20.size
  have HR20 := Lib.hid (HR19.out.below hb20 HR19.out.lt)
  have HL20 := Lib.hid (HL19.out.trans (hb20.mono HL19.out.size))
  have HW20 := Lib.hid (HW19.out.below (hb20.mono (by omega)))
  have HM20 := Lib.hid (HM19.out.below hb20 HM19.out.lt)
  have HN20 := Lib.hid (HN19.out.on hb20)
  have HX20 := Lib.hid (HX19.out.below hb20)
  clear hb20 HR19 HL19 HW19 HM19 HN19 HX19
  go_wp2_with fail
  refine (iroute_any i _ _ _ _ _ _ _ _ _ ns gs os ps _ HX20.out.at (Nat.le_refl _) HY20.out.ints rfl (by unfold maxLen; omega)).mono ?_
  rintro e w21 ⟨hx21, hb21⟩
  rw [HES.out] at hx21
  obtain ⟨gh, ch, HH2, rfl, hx21, _⟩ := hx21
  rw [HEN.out]
  have HQ21 := Lib.hid hx21.read
  clear hx21
  have hsv21 : s1 ≤ w21.heap.size := Nat.le_trans hsv20 hb21.size
  have hsw21 : s2 ≤ w21.heap.size := Nat.le_trans hsw20 hb21.size
  have HR21 := Lib.hid (HR20.out.below hb21 HR20.out.lt)
  have HL21 := Lib.hid (HL20.out.trans (hb21.mono HL20.out.size))
  have HW21 := Lib.hid (HW20.out.below (hb21.mono (by omega)))
  have HM21 := Lib.hid (HM20.out.below hb21 HM20.out.lt)
  have HN21 := Lib.hid (HN20.out.on hb21)
  clear hb21 HR20 HL20 HW20 HM20 HN20 HX20 HY20
  go_wp2_with fail
  refine (eqRoS_any _ _ n _ _ es _ HQ21.out (HW21.out.mono hsv21) HEN.out (by omega) HCB.out).mono ?_
  rintro e w22 ⟨rfl, hb22⟩
  clear HQ21
  have hsv22 : s1 ≤ w22.heap.size := Nat.le_trans hsv21 hb22.size
  have hsw22 : s2 ≤ w22.heap.size := Nat.le_trans hsw21 hb22.size
  have HR22 := Lib.hid (HR21.out.below hb22 HR21.out.lt)
  have HL22 := Lib.hid (HL21.out.trans (hb22.mono HL21.out.size))
  have HW22 := Lib.hid (HW21.out.below (hb22.mono (by omega)))
  have HM22 := Lib.hid (HM21.out.below hb22 HM21.out.lt)
  have HN22 := Lib.hid (HN21.out.on hb22)
  clear hb22 HR21 HL21 HW21 HM21 HN21
  go_wp2_with fail
  rw [show (1 : Int) = ((1 : Nat) : Int) from rfl]
  refine (heldRo_any gg cg n 1 s2 hds (lensR es) _ HM22.out HN22.out HLL.out HLB.out HOB.out (by omega)).mono ?_
  rintro e w' ⟨rfl, rfl⟩
  rw [HMM.out]
  go_wp2
  go_ret
  exact ⟨rfl, HL22.out⟩
set_option maxHeartbeats 4000000 in
theorem xroute_walk_f (i : Int) (nA gA oA pA : Option Addr) (nc gc oc pc : Nat) (ns : List Int) (gs : List (Int × Int)) (os ps : List Int) (w : World) (hc : CircAt w w.heap.size nA gA oA ns gs os) (hp : IntsAt w w.heap.size pA ps) (hp1 : ps.length ≤ 1048576) (hsz : (ns.length : Int) + gs.length + os.length ≤ 1048576) (he : routesZ i ns gs os ps = none) :
    Calls Tryz.prog 5 #[.agg #[.int .i64 i, .slice nA ns.length nc, .slice gA gs.length gc, .slice oA os.length oc], .slice pA ps.length pc] w fun e w' => e = .returned (.bool true) ∧ Below w.heap.size w w' := by
  have HC := Lib.hid hc
  have HP := Lib.hid hp
  have HES := Lib.hid he
  clear hc hp
  have hbw : Below w.heap.size w (w.alloc (.cells #[.int .i64 i, .slice nA ns.length nc, .slice gA gs.length gc, .slice oA os.length oc] 48)) := (Below.refl _ _).alloc (Nat.le_refl _) _
  clear he
  have HL0 := Lib.hid hbw
  have r0 : Row (w.alloc (.cells #[.int .i64 i, .slice nA ns.length nc, .slice gA gs.length gc, .slice oA os.length oc] 48)) w.heap.size 48 #[.int .i64 i, .slice nA ns.length nc, .slice gA gs.length gc, .slice oA os.length oc] := heap_alloc_new w _
  have HR0 := Lib.hid r0
  clear hbw r0
  go_enter Tryz.func5, Tryz.ntmps5
  go_wp2_with fail
  refine (szCircuit_ok _ _ _ _ _ _ _ _ _ _ _ _ hsz (by omega)).mono ?_
  rintro e w1 ⟨rfl, hb1⟩
  have HR1 := Lib.hid (HR0.out.below hb1 HR0.out.lt)
  have HL1 := Lib.hid (HL0.out.trans (hb1.mono HL0.out.size))
  clear hb1 HR0 HL0
  have q0 := HR1.out.cell 0
  have q1 := HR1.out.cell 1
  have q2 := HR1.out.cell 2
  have q3 := HR1.out.cell 3
  simp at q0 q1 q2 q3
  go_wp2_with fail
  refine (toCircuit_rows i nA gA oA nc gc oc ns gs os _ ((HC.out.below HL1.out).mono HL1.out.size) (by omega) (by omega) (by omega)).mono ?_
  rintro e w2 ⟨a1, a2, a3, rfl, hx2, hb2⟩
  have HX2 := Lib.hid hx2
  clear hx2 q0 q1 q2 q3
  have HR2 := Lib.hid (HR1.out.below hb2 HR1.out.lt)
  have HL2 := Lib.hid (HL1.out.trans (hb2.mono HL1.out.size))
  clear hb2 HR1 HL1
  go_wp2_with fail
  refine (toIntS_row pA pc ps _ ((HP.out.below HL2.out).mono HL2.out.size) (by omega)).mono ?_
  rintro e w3 ⟨rfl, hb3, hx3⟩
  have HY3 := Lib.hid hx3
  clear hx3
  have HR3 := Lib.hid (HR2.out.below hb3 HR2.out.lt)
  have HL3 := Lib.hid (HL2.out.trans (hb3.mono HL2.out.size))
  have HX3 := Lib.hid (HX2.out.below hb3)
  clear hb3 HR2 HL2 HX2
  go_wp2_with fail
  refine (sroute_any i _ _ _ _ _ _ _ _ _ ns gs os ps _ HX3.out.at HY3.out.ints rfl (by unfold maxLen; omega) (Nat.le_refl _)).mono ?_
  rintro e w4 ⟨hx4, hb4⟩
  rw [HES.out] at hx4
  obtain ⟨wA, wc, rfl⟩ := hx4
  have HR4 := Lib.hid (HR3.out.below hb4 HR3.out.lt)
  have HL4 := Lib.hid (HL3.out.trans (hb4.mono HL3.out.size))
  clear hb4 HR3 HL3 HX3 HY3
  obtain ⟨s1, hs1e⟩ : ∃ s1 : Nat, w4.heap.size = s1 := ⟨_, rfl⟩
  have hws1 : w.heap.size < s1 := by have := HR4.out.lt; omega
  have hsv4 : s1 ≤ w4.heap.size := by omega
  have q0 := HR4.out.cell 0
  have q1 := HR4.out.cell 1
  have q2 := HR4.out.cell 2
  have q3 := HR4.out.cell 3
  simp at q0 q1 q2 q3
  go_wp2_with fail
  refine (toCircuit_rows i nA gA oA nc gc oc ns gs os _ ((HC.out.below HL4.out).mono HL4.out.size) (by omega) (by omega) (by omega)).mono ?_
  rintro e w6 ⟨b1, b2, b3, rfl, hx6, hb6⟩
  rw [hs1e] at hx6
  clear q0 q1 q2 q3 hs1e
  have HX6 := Lib.hid hx6
  clear hx6
  have hsv6 : s1 ≤ w6.heap.size := Nat.le_trans hsv4 hb6.size
  have HR6 := Lib.hid (HR4.out.below hb6 HR4.out.lt)
  have HL6 := Lib.hid (HL4.out.trans (hb6.mono HL4.out.size))
  clear hb6 HR4 HL4
  have hcz : b3 < w6.heap.size := HX6.out.outs.lt
  have hb7 : Below w6.heap.size w6 (w6.alloc (.cells #[.int .i64 i, .slice (some ⟨b1, 0, none⟩) ns.length ns.length, .slice (some ⟨b2, 0, none⟩) gs.length gs.length, .slice (some ⟨b3, 0, none⟩) os.length os.length] 26)) := (Below.refl _ _).alloc (Nat.le_refl _) _
  have HB7 : Hid (Row (w6.alloc (.cells #[.int .i64 i, .slice (some ⟨b1, 0, none⟩) ns.length ns.length, .slice (some ⟨b2, 0, none⟩) gs.length gs.length, .slice (some ⟨b3, 0, none⟩) os.length os.length] 26)) w6.heap.size 26 #[.int .i64 i, .slice (some ⟨b1, 0, none⟩) ns.length ns.length, .slice (some ⟨b2, 0, none⟩) gs.length gs.length, .slice (some ⟨b3, 0, none⟩) os.length os.length]) := Lib.hid (heap_alloc_new w6 _)
  have hsv7 : s1 ≤ (w6.alloc (.cells #[.int .i64 i, .slice (some ⟨b1, 0, none⟩) ns.length ns.length, .slice (some ⟨b2, 0, none⟩) gs.length gs.length, .slice (some ⟨b3, 0, none⟩) os.length os.length] 26)).heap.size := Nat.le_trans hsv6 hb7.size
  have HR7 := Lib.hid (HR6.out.below hb7 HR6.out.lt)
  have HL7 := Lib.hid (HL6.out.trans (hb7.mono HL6.out.size))
  have HX7 := Lib.hid (HX6.out.below hb7)
  clear hb7 HR6 HL6 HX6
  go_wp2_with fail
  generalize w6.alloc (.cells #[.int .i64 i, .slice (some ⟨b1, 0, none⟩) ns.length ns.length, .slice (some ⟨b2, 0, none⟩) gs.length gs.length, .slice (some ⟨b3, 0, none⟩) os.length os.length] 26) = w7 at *
  generalize w6.heap.size = c0 at *
  refine (toIntS_row pA pc ps _ ((HP.out.below HL7.out).mono HL7.out.size) (by omega)).mono ?_
  rintro e w8 ⟨rfl, hb8, hx8⟩
  have HY8 := Lib.hid hx8
  clear hx8
  have hyc : c0 < w7.heap.size := HB7.out.lt
  have hyz : w7.heap.size < w8.heap.size := HY8.out.lt
  have hsv8 : s1 ≤ w8.heap.size := Nat.le_trans hsv7 hb8.size
  have HR8 := Lib.hid (HR7.out.below hb8 HR7.out.lt)
  have HL8 := Lib.hid (HL7.out.trans (hb8.mono HL7.out.size))
  have HX8 := Lib.hid (HX7.out.below hb8)
  have HB8 := Lib.hid (HB7.out.below hb8 HB7.out.lt)
  clear hb8 HR7 HL7 HX7 HB7
  generalize w7.heap.size = y0 at *
  have p0 := HB8.out.cell 0
  have p1 := HB8.out.cell 1
  have p2 := HB8.out.cell 2
  have p3 := HB8.out.cell 3
  simp at p0 p1 p2 p3
  go_wp2_with fail
  refine (iroute_any i _ _ _ _ _ _ _ _ _ ns gs os ps _ HX8.out.at (Nat.le_refl _) HY8.out.ints rfl (by unfold maxLen; omega)).mono ?_
  rintro e w9 ⟨hx9, hb9⟩
  clear p0 p1 p2 p3
  obtain ⟨s2, hs2e⟩ : ∃ s2 : Nat, w8.heap.size = s2 := ⟨_, rfl⟩
  have hys2 : y0 < s2 := by omega
  have hsw9 : s2 ≤ w9.heap.size := by have := hb9.size; omega
  rw [HES.out] at hx9
  obtain rfl : e = .returned (.tuple #[.slice none 0 0, .bool false]) := hx9
  clear hs2e
  have hsv9 : s1 ≤ w9.heap.size := Nat.le_trans hsv8 hb9.size
  have HR9 := Lib.hid (HR8.out.below hb9 HR8.out.lt)
  have HL9 := Lib.hid (HL8.out.trans (hb9.mono HL8.out.size))
  have HX9 := Lib.hid (HX8.out.below hb9)
  have HB9 := Lib.hid (HB8.out.below hb9 HB8.out.lt)
  have HY9 := Lib.hid (HY8.out.below hb9 HY8.out.lt)
  clear hb9 HR8 HL8 HX8 HB8 HY8
  go_wp2_with fail
  refine (eqRo_none _ _ _ _ _).mono ?_
  rintro e w10 ⟨rfl, hb10⟩
  have hsv10 : s1 ≤ w10.heap.size := Nat.le_trans hsv9 hb10.size
  have hsw10 : s2 ≤ w10.heap.size := Nat.le_trans hsw9 hb10.size
  have HR10 := Lib.hid (HR9.out.below hb10 HR9.out.lt)
  have HL10 := Lib.hid (HL9.out.trans (hb10.mono HL9.out.size))
  have HX10 := Lib.hid (HX9.out.below hb10)
  have HB10 := Lib.hid (HB9.out.below hb10 HB9.out.lt)
  have HY10 := Lib.hid (HY9.out.below hb10 HY9.out.lt)
  clear hb10 HR9 HL9 HX9 HB9 HY9
  have q0 := HR10.out.cell 0
  have q1 := HR10.out.cell 1
  have q2 := HR10.out.cell 2
  have q3 := HR10.out.cell 3
  simp at q0 q1 q2 q3
  have p0 := HB10.out.cell 0
  have p1 := HB10.out.cell 1
  have p2 := HB10.out.cell 2
  have p3 := HB10.out.cell 3
  simp at p0 p1 p2 p3
  have hz1 := HR10.out.lt
  have hz2 := HB10.out.lt
  go_wp2
  go_region_held3 (fun w' => (w'.cell? ⟨w.heap.size, 0, none⟩ = some (.int .i64 i) ∧ w'.cell? ⟨w.heap.size, 1, none⟩ = some (.slice nA ns.length nc) ∧ w'.cell? ⟨w.heap.size, 2, none⟩ = some (.slice gA gs.length gc) ∧ w'.cell? ⟨w.heap.size, 3, none⟩ = some (.slice oA os.length oc)) ∧
          w'.cell? ⟨c0, 0, none⟩ = some (.int .i64 i) ∧ w'.cell? ⟨c0, 1, none⟩ = some (.slice (some ⟨b1, 0, none⟩) ns.length ns.length) ∧ w'.cell? ⟨c0, 2, none⟩ = some (.slice (some ⟨b2, 0, none⟩) gs.length gs.length) ∧ w'.cell? ⟨c0, 3, none⟩ = some (.slice (some ⟨b3, 0, none⟩) os.length os.length))
        (first | go_keep | (refine ⟨⟨?_, ?_, ?_, ?_⟩, ?_, ?_, ?_, ?_⟩ <;> (rw [hc7 _ _ (by simp; omega)]; simp [*])) | (refine ⟨⟨?_, ?_, ?_, ?_⟩, ?_, ?_, ?_, ?_⟩ <;> (rw [hc8 _ _ (by omega), hc7 _ _ (by simp; omega)]; simp [*])))
        (first
          | (go_at_call 15; go_must (refine (toCircuit_any i nA gA oA nc gc oc ns gs os _ ?_ ?_ ?_ ?_).mono ?_; (exact ((HC.out.below HL10.out.drew).mono HL10.out.drew.size)); (omega); (omega); (omega); rintro e u7 ⟨e1, e2, e3, f1, f2, f3, rfl, hC7, hbp⟩; obtain ⟨hc7, hf7⟩ := bcell hbp; have hzp : w10.heap.size ≤ u7.heap.size := hbp.size))
          | (go_at_call 18; refine (eqCircuit_any i _ _ _ e1 e2 e3 _ _ _ f1 f2 f3 ns gs os _ ?_ ?_ ?_ ?_ ?_).mono ?_; (exact ((HX10.out.at.below (Below.refl _ _).drew).below hbp).mono hbp.size); (exact hC7); (omega); (omega); (omega); rintro e u8 ⟨rfl, hbq⟩; obtain ⟨hc8, hf8⟩ := bcell hbq))
  clear hc7 hf7 hc8 hf8 p0 p1 p2 p3 q0 q1 q2 q3
  have hb11 : Below w10.heap.size w10 u8 := ((Below.refl _ w10).drew.trans hbp).trans (hbq.mono hzp)
  clear hbp hbq hzp hC7 hz1 hz2
  have hsv11 : s1 ≤ u8.heap.size := Nat.le_trans hsv10 hb11.size
  have hsw11 : s2 ≤ u8.heap.size := Nat.le_trans hsw10 hb11.size
  have HR11 := Lib.hid (HR10.out.below hb11 HR10.out.lt)
  have HL11 := Lib.hid (HL10.out.trans (hb11.mono HL10.out.size))
  have HX11 := Lib.hid (HX10.out.below hb11)
  have HB11 := Lib.hid (HB10.out.below hb11 HB10.out.lt)
  have HY11 := Lib.hid (HY10.out.below hb11 HY10.out.lt)
  clear hb11 HR10 HL10 HX10 HB10 HY10
  rename_i _hheld
  clear _hheld
  generalize u8 = w11 at *
  go_wp2_with fail
  refine (toIntS_row pA pc ps _ ((HP.out.below HL11.out).mono HL11.out.size) (by omega)).mono ?_
  rintro e w12 ⟨rfl, hb12, hx12⟩
  have HZ12 := Lib.hid hx12
  clear hx12
  have hsv12 : s1 ≤ w12.heap.size := Nat.le_trans hsv11 hb12.size
  have hsw12 : s2 ≤ w12.heap.size := Nat.le_trans hsw11 hb12.size
  have HR12 := Lib.hid (HR11.out.below hb12 HR11.out.lt)
  have HL12 := Lib.hid (HL11.out.trans (hb12.mono HL11.out.size))
  have HX12 := Lib.hid (HX11.out.below hb12)
  have HB12 := Lib.hid (HB11.out.below hb12 HB11.out.lt)
  have HY12 := Lib.hid (HY11.out.below hb12 HY11.out.lt)
  clear hb12 HR11 HL11 HX11 HB11 HY11
  go_wp2_with fail
  refine (eqIntS_any _ _ _ _ ps _ HY12.out.ints HZ12.out.ints (by omega)).mono ?_
  rintro e w13 ⟨rfl, hb13⟩
  clear HZ12
  have hsv13 : s1 ≤ w13.heap.size := Nat.le_trans hsv12 hb13.size
  have hsw13 : s2 ≤ w13.heap.size := Nat.le_trans hsw12 hb13.size
  have HR13 := Lib.hid (HR12.out.below hb13 HR12.out.lt)
  have HL13 := Lib.hid (HL12.out.trans (hb13.mono HL12.out.size))
  have HX13 := Lib.hid (HX12.out.below hb13)
  have HB13 := Lib.hid (HB12.out.below hb13 HB12.out.lt)
  have HY13 := Lib.hid (HY12.out.below hb13 HY12.out.lt)
  clear hb13 HR12 HL12 HX12 HB12 HY12
  have p0 := HB13.out.cell 0
  have p1 := HB13.out.cell 1
  have p2 := HB13.out.cell 2
  have p3 := HB13.out.cell 3
  simp at p0 p1 p2 p3
  go_wp2_with fail
  rw [show (1 : Int) = ((1 : Nat) : Int) from rfl]
  refine (markCircuit_any i s1 b1 b2 b3 1 ns gs os _ HX13.out (by omega) (by omega) (by omega) (by omega)).mono ?_
  rintro e w14 ⟨rfl, hm14⟩
  have hb1s : s1 ≤ b1 := HX13.out.b0
  have hb12 : b1 < b2 := HX13.out.b1
  have hb23 : b2 < b3 := HX13.out.b2
  have hc0b : b3 < c0 := hcz
  have HR14 := Lib.hid (hm14.row HR13.out (by omega))
  have HY14 := Lib.hid (irow_mid hm14 HY13.out (by omega))
  have hmw14 := hm14.wide (lo' := s1) (hi' := s2) (by omega) (by omega)
  have HL14 := Lib.hid (HL13.out.trans ((hmw14.below hsv13).mono (by omega)))
  have hsv14 : s1 ≤ w14.heap.size := Nat.le_trans hsv13 hmw14.size
  have hsw14 : s2 ≤ w14.heap.size := Nat.le_trans hsw13 hmw14.size
  clear hm14 hmw14 HR13 HL13 HB13 HX13 HY13 p0 p1 p2 p3
  generalize hkk : 1 + ns.length + 2 * gs.length + os.length = kk at *
  have hkb : kk ≤ 5000000 := by omega
  clear hkk
  go_wp2_with fail
  obtain ⟨cy, hry, hfy⟩ := HY14.out
  refine (markI_row y0 _ kk cy _ hry hfy.1 (by omega) (by omega)).mono ?_
  rintro e w15 ⟨rfl, ho15⟩
  have hm15 : Mid y0 (y0 + 1) w14 w15 := ho15.mid (Nat.le_refl _) (by omega)
  have HR15 := Lib.hid (hm15.row HR14.out (by omega))
  have hmw15 := hm15.wide (lo' := s1) (hi' := s2) (by omega) (by omega)
  have HL15 := Lib.hid (HL14.out.trans ((hmw15.below hsv14).mono (by omega)))
  have hsv15 : s1 ≤ w15.heap.size := Nat.le_trans hsv14 hmw15.size
  have hsw15 : s2 ≤ w15.heap.size := Nat.le_trans hsw14 hmw15.size
  clear ho15 hm15 hmw15 hry hfy HR14 HL14 HY14
  generalize hkk : kk + ps.length = k2 at *
  have hkb2 : k2 ≤ 8000000 := by omega
  clear hkk
  go_wp2_with fail
  refine (eqRo_none _ _ _ _ _).mono ?_
  rintro e w16 ⟨rfl, hb16⟩
  have hsv16 : s1 ≤ w16.heap.size := Nat.le_trans hsv15 hb16.size
  have hsw16 : s2 ≤ w16.heap.size := Nat.le_trans hsw15 hb16.size
  have HR16 := Lib.hid (HR15.out.below hb16 HR15.out.lt)
  have HL16 := Lib.hid (HL15.out.trans (hb16.mono HL15.out.size))
  clear hb16 HR15 HL15
  go_wp2_with fail
  rw [show (1 : Int) = ((1 : Nat) : Int) from rfl]
  refine (markRo_none _ _ 1 _).mono ?_
  rintro e w17 ⟨rfl, hb17⟩
  have hsv17 : s1 ≤ w17.heap.size := Nat.le_trans hsv16 hb17.size
  have hsw17 : s2 ≤ w17.heap.size := Nat.le_trans hsw16 hb17.size
  have HR17 := Lib.hid (HR16.out.below hb17 HR16.out.lt)
  have HL17 := Lib.hid (HL16.out.trans (hb17.mono HL16.out.size))
  clear hb17 HR16 HL16
  go_wp2_with fail
  rw [show (1 : Int) = ((1 : Nat) : Int) from rfl]
  refine (heldRo_none _ _ 1 _).mono ?_
  rintro e w18 ⟨rfl, hb18⟩
  have hsv18 : s1 ≤ w18.heap.size := Nat.le_trans hsv17 hb18.size
  have hsw18 : s2 ≤ w18.heap.size := Nat.le_trans hsw17 hb18.size
  have HR18 := Lib.hid (HR17.out.below hb18 HR17.out.lt)
  have HL18 := Lib.hid (HL17.out.trans (hb18.mono HL17.out.size))
  clear hb18 HR17 HL17
  have q0 := HR18.out.cell 0
  have q1 := HR18.out.cell 1
  have q2 := HR18.out.cell 2
  have q3 := HR18.out.cell 3
  simp at q0 q1 q2 q3
  go_wp2_with fail
  refine (toCircuit_rows i nA gA oA nc gc oc ns gs os _ ((HC.out.below HL18.out).mono HL18.out.size) (by omega) (by omega) (by omega)).mono ?_
  rintro e w19 ⟨d1, d2, d3, rfl, hx19, hb19⟩
  have HX19 := Lib.hid hx19
  clear hx19 q0 q1 q2 q3
  have hsv19 : s1 ≤ w19.heap.size := Nat.le_trans hsv18 hb19.size
  have hsw19 : s2 ≤ w19.heap.size := Nat.le_trans hsw18 hb19.size
  have HR19 := Lib.hid (HR18.out.below hb19 HR18.out.lt)
  have HL19 := Lib.hid (HL18.out.trans (hb19.mono HL18.out.size))
  clear hb19 HR18 HL18
  go_wp2_with fail
  refine (toIntS_row pA pc ps _ ((HP.out.below HL19.out).mono HL19.out.size) (by omega)).mono ?_
  rintro e w20 ⟨rfl, hb20, hx20⟩
  have HY20 := Lib.hid hx20
  clear hx20
  have hsv20 : s1 ≤ w20.heap.size := Nat.le_trans hsv19 hb20.size
  have hsw20 : s2 ≤ w20.heap.size := Nat.le_trans hsw19 hb20.size
  have HR20 := Lib.hid (HR19.out.below hb20 HR19.out.lt)
  have HL20 := Lib.hid (HL19.out.trans (hb20.mono HL19.out.size))
  have HX20 := Lib.hid (HX19.out.below hb20)
  clear hb20 HR19 HL19 HX19
  go_wp2_with fail
  refine (iroute_any i _ _ _ _ _ _ _ _ _ ns gs os ps _ HX20.out.at (Nat.le_refl _) HY20.out.ints rfl (by unfold maxLen; omega)).mono ?_
  rintro e w21 ⟨hx21, hb21⟩
  rw [HES.out] at hx21
  obtain rfl : e = .returned (.tuple #[.slice none 0 0, .bool false]) := hx21
  have hsv21 : s1 ≤ w21.heap.size := Nat.le_trans hsv20 hb21.size
  have hsw21 : s2 ≤ w21.heap.size := Nat.le_trans hsw20 hb21.size
  have HR21 := Lib.hid (HR20.out.below hb21 HR20.out.lt)
  have HL21 := Lib.hid (HL20.out.trans (hb21.mono HL20.out.size))
  clear hb21 HR20 HL20 HX20 HY20
  go_wp2_with fail
  refine (eqRo_none _ _ _ _ _).mono ?_
  rintro e w22 ⟨rfl, hb22⟩
  have hsv22 : s1 ≤ w22.heap.size := Nat.le_trans hsv21 hb22.size
  have hsw22 : s2 ≤ w22.heap.size := Nat.le_trans hsw21 hb22.size
  have HR22 := Lib.hid (HR21.out.below hb22 HR21.out.lt)
  have HL22 := Lib.hid (HL21.out.trans (hb22.mono HL21.out.size))
  clear hb22 HR21 HL21
  go_wp2_with fail
  rw [show (1 : Int) = ((1 : Nat) : Int) from rfl]
  refine (heldRo_none _ _ 1 _).mono ?_
  rintro e w23 ⟨rfl, hb23'⟩
  go_wp2
  go_ret
  exact ⟨rfl, HL22.out.trans (hb23'.mono HL22.out.size)⟩
set_option maxHeartbeats 1000000 in
theorem xroute_walk (i : Int) (nA gA oA pA : Option Addr) (nc gc oc pc : Nat) (ns : List Int) (gs : List (Int × Int)) (os ps : List Int) (w : World) (hc : CircAt w w.heap.size nA gA oA ns gs os) (hp : IntsAt w w.heap.size pA ps) (hpl : ps.length ≤ maxLen) :
    Calls Tryz.prog 5 #[.agg #[.int .i64 i, .slice nA ns.length nc, .slice gA gs.length gc, .slice oA os.length oc], .slice pA ps.length pc] w fun e w' => e = .returned (.bool true) ∧ Below w.heap.size w w' := by
  by_cases hp1 : ps.length ≤ 1048576
  · by_cases hsz : (ns.length : Int) + gs.length + os.length ≤ 1048576
    · cases he : routesZ i ns gs os ps with
      | none => exact xroute_walk_f i nA gA oA pA nc gc oc pc ns gs os ps w hc hp hp1 hsz he
      | some es => exact xroute_walk_t i nA gA oA pA nc gc oc pc ns gs os ps es w hc hp hp1 hsz he
    · have HC := Lib.hid hc
      clear hc hp hpl
      go_enter Tryz.func5, Tryz.ntmps5
      go_wp2_with (go_at_call 14; refine (szCircuit_no _ _ _ _ _ _ _ _ _ _ _ _ ?_ ?_ ?_ HC.out.nl HC.out.gl HC.out.ol).mono ?_; (omega); (omega); (omega); rintro e w1 ⟨rfl, hb1⟩)
      go_ret
      exact ⟨rfl, ((Below.refl _ _).alloc (Nat.le_refl _) _).trans (hb1.mono (by simp))⟩
  · have hbw : Below w.heap.size w (w.alloc (.cells #[.int .i64 i, .slice nA ns.length nc, .slice gA gs.length gc, .slice oA os.length oc] 48)) := (Below.refl _ _).alloc (Nat.le_refl _) _
    have HB := Lib.hid hbw
    unfold maxLen at hpl
    clear hbw hc hp
    go_enter Tryz.func5, Tryz.ntmps5
    go_wp2
    go_ret
    exact ⟨rfl, HB.out⟩
end Go.Proofs.YtliedgaefgomjaaGreat
