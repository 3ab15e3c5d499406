/- The law FnExactEncodeConfig walked. -/
import Derived.Test.YtkkkkalgfmddbaaKZ
import Derived.Test.YtkkkkalgfmddbaaKN
namespace Go.Proofs.Ytkkkkalgfmddbaa
open Go.RowKit Go.Deep Cut

theorem ByAt.rk3 {w w' : World} {B cap : Nat} {xs : List Nat} {A : Option Addr} (h : ByAt w B xs A cap) (hk : RKeep3 w w') : ByAt w' B xs A cap := by
  refine ⟨h.1, ?_⟩
  rcases h.2 with hv | ⟨g, c, cur, hv, h1, h2, h3⟩
  · exact .inl hv
  · exact .inr ⟨g, c, cur, hv, h1, hk g _ _ (by decide) (by decide) (by decide) h2, h3⟩
theorem encS_le (ts : List Tl) (ps : List Pd) : (encS ts ps).length ≤ 333 := by
  unfold encS
  by_cases h : cfOk ts ps = true
  · rw [if_pos h]
    obtain ⟨h1, h2, _, h4⟩ := cfOk_parts h
    have h5 := enTs_len 25 (by omega) (fun j hj => h4 j hj)
    rw [List.take_of_length_le (by omega)] at h5
    unfold enc sumB
    rw [List.length_append, List.length_append, h5, enPs_eq, h2]
    exact Nat.le_refl _
  · rw [if_neg h]
    exact Nat.zero_le _
theorem lensT_le {ts : List Tl} {n : Nat} (h : TlBd ts) (hn : ts.length = n) : ∀ j, j < 2 * n → (lensT ts).getD j 0 ≤ 2000000 := fun j hj => by
  rw [lensT_get ts (by omega)]
  have h1 := h.2 (j / 2) (by omega)
  by_cases e : j % 2 = 0
  · rw [if_pos e]; exact h1.1
  · rw [if_neg e]; exact h1.2
set_option maxRecDepth 10000 in
set_option maxHeartbeats 3200000 in
theorem xenc_walk (TA PA : Option Addr) (n tc m pc : Nat) (ts : List Tl) (ps : List Pd) (w : World) (hx : TlIn w w.heap.size TA ts) (hy : PdIn w w.heap.size PA ps) (hn : ts.length = n) (hm : ps.length = m) (hnl : n ≤ maxLen) (hr : ∀ k, k < n → (ts.getD k tl0).2.1.length ≤ maxLen ∧ (ts.getD k tl0).2.2.2.length ≤ maxLen) (hml : m ≤ maxLen) :
    Calls Try.prog 10 #[cfv TA n tc PA m pc] w fun e w' => e = .returned (.bool true) ∧ Below w.heap.size w w' := by
  have hbw : Below w.heap.size w (w.alloc (.cells #[.slice TA n tc, .slice PA m pc] 50)) := (Below.refl _ _).alloc (Nat.le_refl _) _
  have HL0 := Lib.hid hbw
  have HR0 : Hid (Row (w.alloc (.cells #[.slice TA n tc, .slice PA m pc] 50)) w.heap.size 50 #[.slice TA n tc, .slice PA m pc]) := Lib.hid (heap_alloc_new w _)
  have HSZ := Lib.hid (szConfigT_any TA PA n m tc pc ts 1048576 _ ((hx.below hbw).mono hbw.size) hn (by omega) (by omega) hnl hr hml)
  have HX := Lib.hid hx
  have HY := Lib.hid hy
  have HN := Lib.hid hn
  have HM := Lib.hid hm
  clear hx hy hn hm hbw hr hnl hml
  go_enter Try.func10, Try.ntmps10
  go_wp2_with fail
  generalize w.alloc (.cells #[.slice TA n tc, .slice PA m pc] 50) = w0 at *
  refine HSZ.out.mono ?_
  rintro e w1 ⟨⟨z, rfl, hz⟩, hb1⟩
  clear HSZ
  have HL1 := Lib.hid (HL0.out.trans (hb1.mono HL0.out.size))
  have HR1 := Lib.hid (HR0.out.below hb1 HR0.out.lt)
  clear hb1 HL0 HR0
  rcases hz with rfl | ⟨y0, y1, ⟨⟨y2, y3⟩, y4⟩, y5⟩
  · go_wp2
    go_ret
    exact ⟨rfl, HL1.out⟩
  have HTB : Hid (TlBd ts) := Lib.hid ⟨by have := y2; omega, fun k hk => by have := y3 k (by rw [← HN.out]; exact hk); omega⟩
  have hm2 : m ≤ 2000000 := by omega
  have hn1 := HN.out
  have hn2 : n ≤ 1048576 := by omega
  have HTOT : Hid (1 + ofT 1 (lensT ts) (2 * ts.length) ≤ 50000000) := Lib.hid (by rw [ofT_tot ts _ (Nat.le_refl _)]; have := HN.out; rw [this]; omega)
  clear y2 y3 y5 hn1
  obtain ⟨ES, hES⟩ : ∃ ES, ES = encS ts ps := ⟨_, rfl⟩
  obtain ⟨nE, hnE⟩ : ∃ nE, ES.length = nE := ⟨_, rfl⟩
  have hle : nE ≤ 333 := by rw [← hnE, hES]; exact encS_le ts ps
  have HES := Lib.hid hES
  have HNE := Lib.hid hnE
  clear hES hnE
  have q0 := HR1.out.cell 0
  have q1 := HR1.out.cell 1
  simp at q0 q1
  go_wp2_with fail
  refine (toConfig_any TA PA n tc m pc ts ps _ ((HX.out.below HL1.out).mono HL1.out.size) ((HY.out.below HL1.out).mono HL1.out.size) HN.out HM.out HTB.out hm2).mono ?_
  rintro e w2 ⟨g1, p1, h1, rfl, hc2, _, hb2⟩
  have HC2 := Lib.hid hc2
  clear hc2 q0 q1
  have HL2 := Lib.hid (HL1.out.trans (hb2.mono HL1.out.size))
  have HR2 := Lib.hid (HR1.out.below hb2 HR1.out.lt)
  clear hb2 HL1 HR1
  go_wp2_with fail
  refine (senc_any _ _ n n m m ts ps _ HC2.out.tl.read HC2.out.pd.read HN.out HM.out).mono ?_
  rintro e w3 ⟨⟨AW, cw, rfl, hw3⟩, hb3⟩
  clear HC2
  have HL3 := Lib.hid (HL2.out.trans (hb3.mono HL2.out.size))
  have HR3 := Lib.hid (HR2.out.below hb3 HR2.out.lt)
  clear hb3 HL2 HR2
  rw [← HES.out] at hw3
  rw [← HES.out, HNE.out]
  have HW3 := Lib.hid hw3.read
  clear hw3
  obtain ⟨s3, hs3⟩ : ∃ s3 : Nat, w3.heap.size = s3 := ⟨_, rfl⟩
  have hws : w.heap.size < s3 := by rw [← hs3]; exact HR3.out.lt
  rw [hs3] at HW3
  have hqs3 : s3 ≤ w3.heap.size := by omega
  have q0 := HR3.out.cell 0
  have q1 := HR3.out.cell 1
  simp at q0 q1
  go_wp2_with fail
  refine (toConfig_any TA PA n tc m pc ts ps _ ((HX.out.below HL3.out).mono HL3.out.size) ((HY.out.below HL3.out).mono HL3.out.size) HN.out HM.out HTB.out hm2).mono ?_
  rintro e w4 ⟨g4, p4, h4, rfl, hc4, hd4, hb4⟩
  rw [hs3] at hc4
  clear hs3
  have HG4 := Lib.hid hc4
  clear hc4 hd4 q0 q1
  have hqs34 : s3 ≤ w4.heap.size := Nat.le_trans hqs3 hb4.size
  have HL4 := Lib.hid (HL3.out.trans (hb4.mono HL3.out.size))
  have HR4 := Lib.hid (HR3.out.below hb4 HR3.out.lt)
  have HW4 := Lib.hid (HW3.out.below (hb4.mono (by omega)))
  clear hb4 HL3 HR3 HW3
  clear hqs3
  have hb5 : Below w4.heap.size w4 (w4.alloc (.cells #[.slice (some ⟨g4, 0, none⟩) n n, .slice (some ⟨p4, 0, none⟩) m m] 26)) := (Below.refl _ _).alloc (Nat.le_refl _) _
  have HB5 : Hid (Row (w4.alloc (.cells #[.slice (some ⟨g4, 0, none⟩) n n, .slice (some ⟨p4, 0, none⟩) m m] 26)) w4.heap.size 26 #[.slice (some ⟨g4, 0, none⟩) n n, .slice (some ⟨p4, 0, none⟩) m m]) := Lib.hid (heap_alloc_new w4 _)
  have hqs35 : s3 ≤ (w4.alloc (.cells #[.slice (some ⟨g4, 0, none⟩) n n, .slice (some ⟨p4, 0, none⟩) m m] 26)).heap.size := Nat.le_trans hqs34 hb5.size
  have HL5 := Lib.hid (HL4.out.trans (hb5.mono HL4.out.size))
  have HR5 := Lib.hid (HR4.out.below hb5 HR4.out.lt)
  have HW5 := Lib.hid (HW4.out.below (hb5.mono (by omega)))
  have HG5 := Lib.hid (HG4.out.on hb5)
  clear hb5 HL4 HR4 HW4 HG4 hqs34
  go_wp2_with fail
  generalize w4.alloc (.cells #[.slice (some ⟨g4, 0, none⟩) n n, .slice (some ⟨p4, 0, none⟩) m m] 26) = w5 at *
  generalize w4.heap.size = b5 at *
  refine (ienc_any _ _ n n m m ts ps _ HG5.out.tl.read HG5.out.pd.read HN.out HM.out HTB.out hm2).mono ?_
  intro e w6 hie
  obtain ⟨⟨AG, cg, rfl, hg6⟩, hb6⟩ := hie.s
  clear hie
  obtain ⟨s5, hs5⟩ : ∃ s5 : Nat, w5.heap.size = s5 := ⟨_, rfl⟩
  rw [hs5] at hg6
  have hs35 : s3 ≤ s5 := by rw [← hs5]; exact hqs35
  have hqs56 : s5 ≤ w6.heap.size := by rw [← hs5]; exact hb6.size
  clear hs5
  have hqs36 : s3 ≤ w6.heap.size := Nat.le_trans hqs35 hb6.size
  have HL6 := Lib.hid (HL5.out.trans (hb6.mono HL5.out.size))
  have HR6 := Lib.hid (HR5.out.below hb6 HR5.out.lt)
  have HW6 := Lib.hid (HW5.out.below (hb6.mono (by omega)))
  have HG6 := Lib.hid (HG5.out.on hb6)
  have HB6 := Lib.hid (HB5.out.below hb6 HB5.out.lt)
  clear hb6 HL5 HR5 HW5 HG5 HB5 hqs35
  rw [← HES.out] at hg6
  rw [← HES.out, HNE.out]
  have HY6 := Lib.hid hg6
  clear hg6
  have HE6 := HY6
  clear HY6
  go_wp2_with fail
  refine (eqBy_any _ _ nE _ _ ES _ HE6.out.read (HW6.out.mono hqs36) HNE.out (by omega)).mono ?_
  rintro e w7 ⟨rfl, hb7⟩
  have hqs37 : s3 ≤ w7.heap.size := Nat.le_trans hqs36 hb7.size
  have hqs57 : s5 ≤ w7.heap.size := Nat.le_trans hqs56 hb7.size
  have HL7 := Lib.hid (HL6.out.trans (hb7.mono HL6.out.size))
  have HR7 := Lib.hid (HR6.out.below hb7 HR6.out.lt)
  have HW7 := Lib.hid (HW6.out.below (hb7.mono (by omega)))
  have HG7 := Lib.hid (HG6.out.on hb7)
  have HB7 := Lib.hid (HB6.out.below hb7 HB6.out.lt)
  have HE7 := Lib.hid (HE6.out.on hb7)
  clear hb7 HL6 HR6 HW6 HG6 HB6 HE6 hqs36 hqs56
  have q0 := HR7.out.cell 0
  have q1 := HR7.out.cell 1
  simp at q0 q1
  have p0 := HB7.out.cell 0
  have p1 := HB7.out.cell 1
  simp at p0 p1
  have hz1 := HR7.out.lt
  have hz2 := HB7.out.lt
  go_wp2
  go_region_held3 (fun w' => (w'.cell? ⟨w.heap.size, 0, none⟩ = some (.slice TA n tc) ∧ w'.cell? ⟨w.heap.size, 1, none⟩ = some (.slice PA m pc)) ∧ w'.cell? ⟨b5, 0, none⟩ = some (.slice (some ⟨g4, 0, none⟩) n n) ∧ w'.cell? ⟨b5, 1, none⟩ = some (.slice (some ⟨p4, 0, none⟩) m m))
    (first | go_keep | (refine ⟨⟨?_, ?_⟩, ?_, ?_⟩ <;> (rw [hc7 _ _ (by simp; omega)]; simp [*])) | (refine ⟨⟨?_, ?_⟩, ?_, ?_⟩ <;> (rw [hc8 _ _ (by omega), hc7 _ _ (by simp; omega)]; simp [*])))
    (first
      | (go_at_call 32; go_must (refine (toConfig_any TA PA n tc m pc ts ps _ ?_ ?_ HN.out HM.out HTB.out hm2).mono ?_; (exact ((HX.out.below HL7.out.drew).mono HL7.out.drew.size)); (exact ((HY.out.below HL7.out.drew).mono HL7.out.drew.size)); rintro e u7 ⟨g7, p7, h7, rfl, hC7, _, hbp⟩; obtain ⟨hc7, hf7⟩ := bcell hbp; have hzp : w7.heap.size ≤ u7.heap.size := hbp.size))
      | (go_at_call 34; refine (eqConfig_any _ _ _ _ n m _ _ _ _ ts ps _ ?_ ?_ ?_ ?_ HN.out HM.out HTB.out hm2).mono ?_; (exact (HG7.out.drew.on hbp).tl.read); (exact hC7.tl.read); (exact (HG7.out.drew.on hbp).pd.read); (exact hC7.pd.read); rintro e u8 ⟨rfl, hbq⟩; obtain ⟨hc8, hf8⟩ := bcell hbq))
  clear hc7 hf7 hc8 hf8 p0 p1 q0 q1
  have hb8 : Below w7.heap.size w7 u8 := ((Below.refl _ w7).drew.trans hbp).trans (hbq.mono hzp)
  clear hbp hbq hzp hC7 hz1 hz2
  rename_i _hheld
  clear _hheld
  have hqs38 : s3 ≤ u8.heap.size := Nat.le_trans hqs37 hb8.size
  have hqs58 : s5 ≤ u8.heap.size := Nat.le_trans hqs57 hb8.size
  have HL8 := Lib.hid (HL7.out.trans (hb8.mono HL7.out.size))
  have HR8 := Lib.hid (HR7.out.below hb8 HR7.out.lt)
  have HW8 := Lib.hid (HW7.out.below (hb8.mono (by omega)))
  have HG8 := Lib.hid (HG7.out.on hb8)
  have HB8 := Lib.hid (HB7.out.below hb8 HB7.out.lt)
  have HE8 := Lib.hid (HE7.out.on hb8)
  clear hb8 HL7 HR7 HW7 HG7 HB7 HE7 hqs37 hqs57
  obtain ⟨hds, hm8⟩ := HG8.out.marks 1 (by rw [show 2 * ts.length = 2 * n by rw [HN.out]]; exact lensT_le HTB.out HN.out) HTOT.out (by rw [HN.out]; omega) (by rw [HM.out]; omega)
  rw [HN.out, HM.out] at hm8
  have HM8 := Lib.hid hm8
  clear hm8
  clear HG8
  have p0 := HB8.out.cell 0
  have p1 := HB8.out.cell 1
  simp at p0 p1
  go_wp2_with fail
  refine (markConfig_any g4 p4 n m n m 1 s3 hds _ _ HM8.out).mono ?_
  generalize hkk : 1 + ofT 1 (lensT ts) (2 * n) + m * 2 = kk
  have hkk0 : (0 : Int) ≤ (kk : Int) := Int.natCast_nonneg _
  clear hkk
  rintro e w9 ⟨rfl, _, hb9, hk9⟩
  clear HM8 p0 p1
  have HL9 := Lib.hid (HL8.out.trans (hb9.mono (by omega)))
  have HR9 := Lib.hid (HR8.out.below hb9 hws)
  have HW9 := Lib.hid (HW8.out.below hb9)
  have HE9 := Lib.hid (HE8.out.rk3 hk9)
  have hqs39 : s3 ≤ w9.heap.size := Nat.le_trans hqs38 hb9.size
  have hqs59 : s5 ≤ w9.heap.size := Nat.le_trans hqs58 hb9.size
  clear HL8 HR8 HW8 HE8 HB8 hb9 hk9 hqs38 hqs58
  go_wp2_with fail
  refine (eqBy_any _ _ nE _ _ ES _ HE9.out.read (HW9.out.mono hqs39) HNE.out (by omega)).mono ?_
  rintro e w10 ⟨rfl, hb10⟩
  have hqs310 : s3 ≤ w10.heap.size := Nat.le_trans hqs39 hb10.size
  have hqs510 : s5 ≤ w10.heap.size := Nat.le_trans hqs59 hb10.size
  have HL10 := Lib.hid (HL9.out.trans (hb10.mono HL9.out.size))
  have HR10 := Lib.hid (HR9.out.below hb10 HR9.out.lt)
  have HW10 := Lib.hid (HW9.out.below (hb10.mono (by omega)))
  have HE10 := Lib.hid (HE9.out.on hb10)
  clear hb10 HL9 HR9 HW9 HE9 hqs39 hqs59
  go_wp2_with fail
  refine (markBy_any AG s5 _ nE 1 ES _ HE10.out HNE.out (by omega) (by omega) hqs510).mono ?_
  generalize hkm : 1 + nE = km
  have hkm0 : (0 : Int) ≤ (km : Int) := Int.natCast_nonneg _
  have HKM := Lib.hid hkm
  clear hkm
  rintro e w11 ⟨rfl, hm11, hb11⟩
  have HK11 := Lib.hid hm11
  clear hm11
  have HL11 := Lib.hid (HL10.out.trans (hb11.mono (by omega)))
  have HR11 := Lib.hid (HR10.out.below hb11 (by omega))
  have HW11 := Lib.hid (HW10.out.below (hb11.mono hs35))
  have hqs311 : s3 ≤ w11.heap.size := Nat.le_trans hqs310 hb11.size
  have hqs511 : s5 ≤ w11.heap.size := Nat.le_trans hqs510 hb11.size
  clear HL10 HR10 HW10 HE10 hb11 hqs310 hqs510
  go_wp2_with fail
  refine (heldBy_any AG s5 _ nE 1 _ HK11.out (by omega) (by omega)).mono ?_
  rw [HKM.out]
  rintro e w12 ⟨rfl, rfl⟩
  have q0 := HR11.out.cell 0
  have q1 := HR11.out.cell 1
  simp at q0 q1
  go_wp2_with fail
  refine (toConfig_any TA PA n tc m pc ts ps _ ((HX.out.below HL11.out).mono HL11.out.size) ((HY.out.below HL11.out).mono HL11.out.size) HN.out HM.out HTB.out hm2).mono ?_
  rintro e w13 ⟨g13, p13, h13, rfl, hc13, _, hb13⟩
  have HC13 := Lib.hid hc13
  clear hc13 q0 q1
  have hqs313 : s3 ≤ w13.heap.size := Nat.le_trans hqs311 hb13.size
  have hqs513 : s5 ≤ w13.heap.size := Nat.le_trans hqs511 hb13.size
  have HL13 := Lib.hid (HL11.out.trans (hb13.mono HL11.out.size))
  have HR13 := Lib.hid (HR11.out.below hb13 HR11.out.lt)
  have HW13 := Lib.hid (HW11.out.below (hb13.mono (by omega)))
  have HK13 := Lib.hid (HK11.out.on hb13)
  clear hb13 HL11 HR11 HW11 HK11 hqs311 hqs511
  go_wp2_with fail
  refine (ienc_any _ _ n n m m ts ps _ HC13.out.tl.read HC13.out.pd.read HN.out HM.out HTB.out hm2).mono ?_
  intro e w14 hie
  obtain ⟨⟨AH, ch, rfl, hh14⟩, hb14⟩ := hie.s
  clear hie HC13
  have hqs314 : s3 ≤ w14.heap.size := Nat.le_trans hqs313 hb14.size
  have hqs514 : s5 ≤ w14.heap.size := Nat.le_trans hqs513 hb14.size
  have HL14 := Lib.hid (HL13.out.trans (hb14.mono HL13.out.size))
  have HR14 := Lib.hid (HR13.out.below hb14 HR13.out.lt)
  have HW14 := Lib.hid (HW13.out.below (hb14.mono (by omega)))
  have HK14 := Lib.hid (HK13.out.on hb14)
  clear hb14 HL13 HR13 HW13 HK13 hqs313 hqs513
  rw [← HES.out] at hh14
  rw [← HES.out, HNE.out]
  have HH14 := Lib.hid hh14
  clear hh14
  go_wp2_with fail
  refine (eqBy_any _ _ nE _ _ ES _ HH14.out.read (HW14.out.mono hqs314) HNE.out (by omega)).mono ?_
  rintro e w15 ⟨rfl, hb15⟩
  clear HH14
  have hqs315 : s3 ≤ w15.heap.size := Nat.le_trans hqs314 hb15.size
  have hqs515 : s5 ≤ w15.heap.size := Nat.le_trans hqs514 hb15.size
  have HL15 := Lib.hid (HL14.out.trans (hb15.mono HL14.out.size))
  have HR15 := Lib.hid (HR14.out.below hb15 HR14.out.lt)
  have HW15 := Lib.hid (HW14.out.below (hb15.mono (by omega)))
  have HK15 := Lib.hid (HK14.out.on hb15)
  clear hb15 HL14 HR14 HW14 HK14 hqs314 hqs514
  go_wp2_with fail
  refine (heldBy_any AG s5 _ nE 1 _ HK15.out (by omega) (by omega)).mono ?_
  rw [HKM.out]
  rintro e w16 ⟨rfl, rfl⟩
  go_wp2
  go_ret
  exact ⟨rfl, HL15.out⟩
end Go.Proofs.Ytkkkkalgfmddbaa
