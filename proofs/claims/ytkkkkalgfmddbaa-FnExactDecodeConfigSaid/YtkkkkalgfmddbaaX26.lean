/- The law FnExactDecodeConfig walked. -/
import Derived.Test.YtkkkkalgfmddbaaKG
import Derived.Test.YtkkkkalgfmddbaaR1
namespace Go.Proofs.Ytkkkkalgfmddbaa
open Go.RowKit Go.Deep Cut

set_option maxRecDepth 10000 in
set_option maxHeartbeats 3200000 in
theorem xdec_walk (A : Option Addr) (n c : Nat) (bs : List Nat) (w : World) (hx : BysIn w w.heap.size A bs) (hn : bs.length = n) (hnl : n ≤ maxLen) (hu : ∀ y ∈ bs, y < 256) :
    Calls Try.prog 11 #[.slice A n c] w fun e w' => e = .returned (.bool true) ∧ Below w.heap.size w w' := by
  by_cases hbig : 1048576 < n
  · unfold maxLen at hnl
    go_enter Try.func11, Try.ntmps11
    go_wp2
    go_ret
    exact ⟨rfl, Below.refl _ _⟩
  have hn2 : n ≤ 2000000 := by omega
  have hnm : n ≤ maxLen := hnl
  clear hnl
  obtain ⟨nT, hnT⟩ : ∃ nT, (dT bs).length = nT := ⟨_, rfl⟩
  obtain ⟨mP, hmP⟩ : ∃ mP, (dP bs).length = mP := ⟨_, rfl⟩
  have hmp : mP ≤ 2000000 := by
    rw [← hmP]
    unfold dP
    by_cases h : okD bs = true
    · rw [if_pos h, rdPs_len]; omega
    · rw [if_neg h]; simp
  have HX := Lib.hid hx
  have HN := Lib.hid hn
  have HU := Lib.hid hu
  have HNT := Lib.hid hnT
  have HMP := Lib.hid hmP
  clear hx hn hu hnT hmP
  go_enter Try.func11, Try.ntmps11
  go_wp2_with fail
  refine (toByteS_any A n c bs w HX.out HN.out hn2).mono ?_
  rintro e w1 ⟨rfl, hb1, hy1⟩
  have HL1 := Lib.hid hb1
  have HY1 := Lib.hid hy1
  clear hb1 hy1
  go_wp2_with fail
  refine (sdec_any _ n n bs w1 HY1.out.read HN.out ⟨Nat.le_refl _, hnm⟩ HU.out).mono ?_
  intro e w2 hsd
  obtain ⟨⟨TW, PW, tw, pw, hsw, rfl, hcw, _⟩, hb2⟩ := hsd.d
  clear hsd HY1
  have HL2 := Lib.hid (HL1.out.trans (hb2.mono HL1.out.size))
  clear hb2 HL1
  rw [HNT.out, HMP.out]
  have HT2 := Lib.hid hcw.tl.read
  have HP2 := Lib.hid hcw.pd.read
  clear hcw
  obtain ⟨s2, hs2⟩ : ∃ s2 : Nat, w2.heap.size = s2 := ⟨_, rfl⟩
  rw [hs2] at HT2 HP2
  have hws2 : w.heap.size ≤ s2 := by rw [← hs2]; exact HL2.out.size
  have hqs22 : s2 ≤ w2.heap.size := by omega
  have hb3 : Below w2.heap.size w2 (w2.alloc (.cells #[.slice TW nT tw, .slice PW mP pw] 26)) := (Below.refl _ _).alloc (Nat.le_refl _) _
  have HA3 : Hid (Row (w2.alloc (.cells #[.slice TW nT tw, .slice PW mP pw] 26)) w2.heap.size 26 #[.slice TW nT tw, .slice PW mP pw]) := Lib.hid (heap_alloc_new w2 _)
  have hzz3 : (w2.alloc (.cells #[.slice TW nT tw, .slice PW mP pw] 26)).heap.size = w2.heap.size + 1 := by simp
  have hqs23 : s2 ≤ (w2.alloc (.cells #[.slice TW nT tw, .slice PW mP pw] 26)).heap.size := Nat.le_trans hqs22 hb3.size
  have HL3 := Lib.hid (HL2.out.trans (hb3.mono HL2.out.size))
  have HT3 := Lib.hid (HT2.out.below (hb3.mono (by omega)))
  have HP3 := Lib.hid (HP2.out.below (hb3.mono (by omega)))
  clear hb3 HL2 HT2 HP2 hqs22
  go_wp2_with fail
  generalize w2.alloc (.cells #[.slice TW nT tw, .slice PW mP pw] 26) = w3 at *
  generalize ha2e : w2.heap.size = a2 at *
  subst hs2
  have hqa23 : a2 ≤ w3.heap.size := hqs23
  clear hqs23
  refine (toByteS_any A n c bs w3 ((HX.out.below HL3.out).mono HL3.out.size) HN.out hn2).mono ?_
  rintro e w4 ⟨rfl, hb4, hy4⟩
  obtain ⟨s3, hs3⟩ : ∃ s3 : Nat, w3.heap.size = s3 := ⟨_, rfl⟩
  have h23 : a2 < s3 := by omega
  have hqs34 : s3 ≤ w4.heap.size := by rw [← hs3]; exact hb4.size
  rw [hs3] at hy4
  rw [hs3]
  have HY4 := Lib.hid hy4
  clear hy4
  have hqa24 : a2 ≤ w4.heap.size := Nat.le_trans hqa23 hb4.size
  have HL4 := Lib.hid (HL3.out.trans (hb4.mono HL3.out.size))
  have HT4 := Lib.hid (HT3.out.below (hb4.mono (by omega)))
  have HP4 := Lib.hid (HP3.out.below (hb4.mono (by omega)))
  have HA4 := Lib.hid (HA3.out.below hb4 HA3.out.lt)
  clear hb4 HL3 HT3 HP3 HA3 hqa23
  clear hs3 hzz3
  go_wp2_with fail
  refine (idec_any _ n n bs w4 HY4.out.read HN.out ⟨Nat.le_refl _, hnm⟩ HU.out).mono ?_
  intro e w5 hie
  obtain ⟨⟨TG, PG, tg, pg, hsg, rfl, hcg, hdg⟩, hb5⟩ := hie.d
  clear hie
  obtain ⟨s4, hs4⟩ : ∃ s4 : Nat, w4.heap.size = s4 := ⟨_, rfl⟩
  rw [hs4] at hcg
  have h34 : s3 < s4 := by rw [← hs4]; exact HY4.out.cells.2.2.2.1
  have hqs45 : s4 ≤ w5.heap.size := by rw [← hs4]; exact hb5.size
  rw [HNT.out, HMP.out]
  have HG5 := Lib.hid hcg
  have HDG := Lib.hid hdg
  clear hcg hdg
  have hqa25 : a2 ≤ w5.heap.size := Nat.le_trans hqa24 hb5.size
  have hqs35 : s3 ≤ w5.heap.size := Nat.le_trans hqs34 hb5.size
  have HL5 := Lib.hid (HL4.out.trans (hb5.mono HL4.out.size))
  have HT5 := Lib.hid (HT4.out.below (hb5.mono (by omega)))
  have HP5 := Lib.hid (HP4.out.below (hb5.mono (by omega)))
  have HA5 := Lib.hid (HA4.out.below hb5 HA4.out.lt)
  have HY5 := Lib.hid (HY4.out.on hb5)
  clear hb5 HL4 HT4 HP4 HA4 HY4 hqa24 hqs34
  clear hs4
  have h45 : s4 ≤ w5.heap.size := hqs45
  have hb6 : Below w5.heap.size w5 (w5.alloc (.cells #[.slice TG nT tg, .slice PG mP pg] 26)) := (Below.refl _ _).alloc (Nat.le_refl _) _
  have HB6 : Hid (Row (w5.alloc (.cells #[.slice TG nT tg, .slice PG mP pg] 26)) w5.heap.size 26 #[.slice TG nT tg, .slice PG mP pg]) := Lib.hid (heap_alloc_new w5 _)
  have hzz6 : (w5.alloc (.cells #[.slice TG nT tg, .slice PG mP pg] 26)).heap.size = w5.heap.size + 1 := by simp
  have hqa26 : a2 ≤ (w5.alloc (.cells #[.slice TG nT tg, .slice PG mP pg] 26)).heap.size := Nat.le_trans hqa25 hb6.size
  have hqs36 : s3 ≤ (w5.alloc (.cells #[.slice TG nT tg, .slice PG mP pg] 26)).heap.size := Nat.le_trans hqs35 hb6.size
  have hqs46 : s4 ≤ (w5.alloc (.cells #[.slice TG nT tg, .slice PG mP pg] 26)).heap.size := Nat.le_trans hqs45 hb6.size
  have HL6 := Lib.hid (HL5.out.trans (hb6.mono HL5.out.size))
  have HT6 := Lib.hid (HT5.out.below (hb6.mono (by omega)))
  have HP6 := Lib.hid (HP5.out.below (hb6.mono (by omega)))
  have HA6 := Lib.hid (HA5.out.below hb6 HA5.out.lt)
  have HY6 := Lib.hid (HY5.out.on hb6)
  have HG6 := Lib.hid (HG5.out.on hb6)
  clear hb6 HL5 HT5 HP5 HA5 HY5 HG5 hqa25 hqs35 hqs45
  have p0 := HA6.out.cell 0
  have p1 := HA6.out.cell 1
  simp at p0 p1
  go_wp2_with fail
  generalize w5.alloc (.cells #[.slice TG nT tg, .slice PG mP pg] 26) = w6 at *
  generalize ha5e : w5.heap.size = a5 at *
  clear p0 p1
  refine (eqConfig_any _ _ _ _ nT mP _ _ _ _ (dT bs) (dP bs) _ HG6.out.tl.read (HT6.out.mono hqa26) HG6.out.pd.read (HP6.out.mono hqa26) HNT.out HMP.out (dT_bd bs) hmp).mono ?_
  rintro e w7 ⟨rfl, hb7⟩
  have hqa27 : a2 ≤ w7.heap.size := Nat.le_trans hqa26 hb7.size
  have hqs37 : s3 ≤ w7.heap.size := Nat.le_trans hqs36 hb7.size
  have hqs47 : s4 ≤ w7.heap.size := Nat.le_trans hqs46 hb7.size
  have HL7 := Lib.hid (HL6.out.trans (hb7.mono HL6.out.size))
  have HT7 := Lib.hid (HT6.out.below (hb7.mono (by omega)))
  have HP7 := Lib.hid (HP6.out.below (hb7.mono (by omega)))
  have HA7 := Lib.hid (HA6.out.below hb7 HA6.out.lt)
  have HY7 := Lib.hid (HY6.out.on hb7)
  have HG7 := Lib.hid (HG6.out.on hb7)
  have HB7 := Lib.hid (HB6.out.below hb7 HB6.out.lt)
  clear hb7 HL6 HT6 HP6 HA6 HY6 HG6 HB6 hqa26 hqs36 hqs46
  go_wp2_with fail
  refine (toByteS_any A n c bs w7 ((HX.out.below HL7.out).mono HL7.out.size) HN.out hn2).mono ?_
  rintro e w8 ⟨rfl, hb8, hy8⟩
  have HZ8 := Lib.hid hy8
  clear hy8
  have hqa28 : a2 ≤ w8.heap.size := Nat.le_trans hqa27 hb8.size
  have hqs38 : s3 ≤ w8.heap.size := Nat.le_trans hqs37 hb8.size
  have hqs48 : s4 ≤ w8.heap.size := Nat.le_trans hqs47 hb8.size
  have HL8 := Lib.hid (HL7.out.trans (hb8.mono HL7.out.size))
  have HT8 := Lib.hid (HT7.out.below (hb8.mono (by omega)))
  have HP8 := Lib.hid (HP7.out.below (hb8.mono (by omega)))
  have HA8 := Lib.hid (HA7.out.below hb8 HA7.out.lt)
  have HY8 := Lib.hid (HY7.out.on hb8)
  have HG8 := Lib.hid (HG7.out.on hb8)
  have HB8 := Lib.hid (HB7.out.below hb8 HB7.out.lt)
  clear hb8 HL7 HT7 HP7 HA7 HY7 HG7 HB7 hqa27 hqs37 hqs47
  go_wp2_with fail
  refine (eqBy_any _ _ n _ _ bs _ HY8.out.read HZ8.out.read HN.out hn2).mono ?_
  rintro e w9 ⟨rfl, hb9⟩
  clear HZ8
  have hqa29 : a2 ≤ w9.heap.size := Nat.le_trans hqa28 hb9.size
  have hqs39 : s3 ≤ w9.heap.size := Nat.le_trans hqs38 hb9.size
  have hqs49 : s4 ≤ w9.heap.size := Nat.le_trans hqs48 hb9.size
  have HL9 := Lib.hid (HL8.out.trans (hb9.mono HL8.out.size))
  have HT9 := Lib.hid (HT8.out.below (hb9.mono (by omega)))
  have HP9 := Lib.hid (HP8.out.below (hb9.mono (by omega)))
  have HA9 := Lib.hid (HA8.out.below hb9 HA8.out.lt)
  have HY9 := Lib.hid (HY8.out.on hb9)
  have HG9 := Lib.hid (HG8.out.on hb9)
  have HB9 := Lib.hid (HB8.out.below hb9 HB8.out.lt)
  clear hb9 HL8 HT8 HP8 HA8 HY8 HG8 HB8 hqa28 hqs38 hqs48
  go_wp2_with fail
  refine (markBy_at s3 s3 n n 1 bs w9 HY9.out HN.out (by omega) hn2).mono ?_
  generalize hkn : 1 + n = kn
  have hkn0 : (0 : Int) ≤ (kn : Int) := Int.natCast_nonneg _
  clear hkn
  rintro e w10 ⟨rfl, ho10⟩
  have hsz10 := ho10.size
  have hb10 : Below s3 w9 w10 := ho10.below (fun q e => by injection e with e; omega) hqs39
  have HL10 := Lib.hid (HL9.out.trans (hb10.mono (by omega)))
  have HA10 := Lib.hid (HA9.out.below hb10 h23)
  have HT10 := Lib.hid (HT9.out.below (hb10.mono (by omega)))
  have HP10 := Lib.hid (HP9.out.below (hb10.mono (by omega)))
  have HG10 := Lib.hid (HG9.out.keep (fun q h1 h2 => ho10.grown.block q h2 (fun e => by injection e with e; omega)) (by omega))
  have HB10 := Lib.hid (ho10.row HB9.out (fun e => by injection e with e; omega))
  have hqa210 : a2 ≤ w10.heap.size := by omega
  have hqs310 : s3 ≤ w10.heap.size := by omega
  have hqs410 : s4 ≤ w10.heap.size := by omega
  clear HL9 HA9 HT9 HP9 HG9 HB9 HY9 ho10 hb10 hsz10 hqa29 hqs39 hqs49
  have p0 := HA10.out.cell 0
  have p1 := HA10.out.cell 1
  simp at p0 p1
  have q0 := HB10.out.cell 0
  have q1 := HB10.out.cell 1
  simp at q0 q1
  go_wp2_with fail
  refine (eqConfig_any _ _ _ _ nT mP _ _ _ _ (dT bs) (dP bs) _ HG10.out.tl.read (HT10.out.mono hqa210) HG10.out.pd.read (HP10.out.mono hqa210) HNT.out HMP.out (dT_bd bs) hmp).mono ?_
  rintro e w11 ⟨rfl, hb11⟩
  clear p0 p1 q0 q1
  have hqa211 : a2 ≤ w11.heap.size := Nat.le_trans hqa210 hb11.size
  have hqs311 : s3 ≤ w11.heap.size := Nat.le_trans hqs310 hb11.size
  have hqs411 : s4 ≤ w11.heap.size := Nat.le_trans hqs410 hb11.size
  have HL11 := Lib.hid (HL10.out.trans (hb11.mono HL10.out.size))
  have HT11 := Lib.hid (HT10.out.below (hb11.mono (by omega)))
  have HP11 := Lib.hid (HP10.out.below (hb11.mono (by omega)))
  have HA11 := Lib.hid (HA10.out.below hb11 HA10.out.lt)
  have HG11 := Lib.hid (HG10.out.on hb11)
  have HB11 := Lib.hid (HB10.out.below hb11 HB10.out.lt)
  clear hb11 HL10 HT10 HP10 HA10 HG10 HB10 hqa210 hqs310 hqs410
  have q0 := HB11.out.cell 0
  have q1 := HB11.out.cell 1
  simp at q0 q1
  go_wp2_with fail
  refine (markCf_any bs s4 TG PG tg pg nT mP hsg w11 HG11.out HDG.out HNT.out HMP.out hqs411).mono ?_
  generalize hkk : 1 + ofT 1 (lensT (dT bs)) (2 * nT) + mP * 2 = kk
  have hkk0 : (0 : Int) ≤ (kk : Int) := Int.natCast_nonneg _
  have HKK := Lib.hid hkk
  clear hkk
  rintro e w12 ⟨rfl, hm12, hb12, hr12⟩
  have HM12 := Lib.hid hm12
  clear hm12 q0 q1
  have HL12 := Lib.hid (HL11.out.trans (hb12.mono (by omega)))
  have HA12 := Lib.hid (HA11.out.below hb12 (by omega))
  have HT12 := Lib.hid (HT11.out.below (hb12.mono (by omega)))
  have HP12 := Lib.hid (HP11.out.below (hb12.mono (by omega)))
  have HB12 := Lib.hid (hr12 _ _ _ (by decide) (by decide) (by decide) HB11.out)
  have hqa212 : a2 ≤ w12.heap.size := Nat.le_trans hqa211 hb12.size
  clear HL11 HA11 HT11 HP11 HG11 HB11 hb12 hr12 hqa211 hqs311 hqs411
  have q0 := HB12.out.cell 0
  have q1 := HB12.out.cell 1
  simp at q0 q1
  go_wp2_with fail
  refine (heldCf_any s4 TG PG tg pg nT mP _ w12 HM12.out).mono ?_
  rw [HKK.out]
  rintro e w13 ⟨rfl, hb13⟩
  clear q0 q1
  have hqa213 : a2 ≤ w13.heap.size := Nat.le_trans hqa212 hb13.size
  have HL13 := Lib.hid (HL12.out.trans (hb13.mono HL12.out.size))
  have HT13 := Lib.hid (HT12.out.below (hb13.mono (by omega)))
  have HP13 := Lib.hid (HP12.out.below (hb13.mono (by omega)))
  have HA13 := Lib.hid (HA12.out.below hb13 HA12.out.lt)
  have HB13 := Lib.hid (HB12.out.below hb13 HB12.out.lt)
  have HM13 := Lib.hid (HM12.out.on hb13)
  clear hb13 HL12 HT12 HP12 HA12 HB12 HM12 hqa212
  go_wp2_with fail
  refine (toByteS_any A n c bs w13 ((HX.out.below HL13.out).mono HL13.out.size) HN.out hn2).mono ?_
  rintro e w14 ⟨rfl, hb14, hy14⟩
  have HZ14 := Lib.hid hy14
  clear hy14
  have hqa214 : a2 ≤ w14.heap.size := Nat.le_trans hqa213 hb14.size
  have HL14 := Lib.hid (HL13.out.trans (hb14.mono HL13.out.size))
  have HT14 := Lib.hid (HT13.out.below (hb14.mono (by omega)))
  have HP14 := Lib.hid (HP13.out.below (hb14.mono (by omega)))
  have HA14 := Lib.hid (HA13.out.below hb14 HA13.out.lt)
  have HB14 := Lib.hid (HB13.out.below hb14 HB13.out.lt)
  have HM14 := Lib.hid (HM13.out.on hb14)
  clear hb14 HL13 HT13 HP13 HA13 HB13 HM13 hqa213
  go_wp2_with fail
  refine (idec_any _ n n bs w14 HZ14.out.read HN.out ⟨Nat.le_refl _, hnm⟩ HU.out).mono ?_
  intro e w15 hie
  obtain ⟨⟨TH, PH, th, ph, hsh, rfl, hch, _⟩, hb15⟩ := hie.d
  clear hie HZ14
  rw [HNT.out, HMP.out]
  have HC15 := Lib.hid hch
  clear hch
  have hqa215 : a2 ≤ w15.heap.size := Nat.le_trans hqa214 hb15.size
  have HL15 := Lib.hid (HL14.out.trans (hb15.mono HL14.out.size))
  have HT15 := Lib.hid (HT14.out.below (hb15.mono (by omega)))
  have HP15 := Lib.hid (HP14.out.below (hb15.mono (by omega)))
  have HA15 := Lib.hid (HA14.out.below hb15 HA14.out.lt)
  have HB15 := Lib.hid (HB14.out.below hb15 HB14.out.lt)
  have HM15 := Lib.hid (HM14.out.on hb15)
  clear hb15 HL14 HT14 HP14 HA14 HB14 HM14 hqa214
  have hb16 : Below w15.heap.size w15 (w15.alloc (.cells #[.slice TH nT th, .slice PH mP ph] 26)) := (Below.refl _ _).alloc (Nat.le_refl _) _
  have HD16 : Hid (Row (w15.alloc (.cells #[.slice TH nT th, .slice PH mP ph] 26)) w15.heap.size 26 #[.slice TH nT th, .slice PH mP ph]) := Lib.hid (heap_alloc_new w15 _)
  have hzz16 : (w15.alloc (.cells #[.slice TH nT th, .slice PH mP ph] 26)).heap.size = w15.heap.size + 1 := by simp
  have hqa216 : a2 ≤ (w15.alloc (.cells #[.slice TH nT th, .slice PH mP ph] 26)).heap.size := Nat.le_trans hqa215 hb16.size
  have HL16 := Lib.hid (HL15.out.trans (hb16.mono HL15.out.size))
  have HT16 := Lib.hid (HT15.out.below (hb16.mono (by omega)))
  have HP16 := Lib.hid (HP15.out.below (hb16.mono (by omega)))
  have HA16 := Lib.hid (HA15.out.below hb16 HA15.out.lt)
  have HB16 := Lib.hid (HB15.out.below hb16 HB15.out.lt)
  have HM16 := Lib.hid (HM15.out.on hb16)
  have HC16 := Lib.hid (HC15.out.on hb16)
  clear hb16 HL15 HT15 HP15 HA15 HB15 HM15 HC15 hqa215
  have p0 := HA16.out.cell 0
  have p1 := HA16.out.cell 1
  simp at p0 p1
  go_wp2_with fail
  generalize w15.alloc (.cells #[.slice TH nT th, .slice PH mP ph] 26) = w16 at *
  generalize ha15e : w15.heap.size = a15 at *
  clear p0 p1
  refine (eqConfig_any _ _ _ _ nT mP _ _ _ _ (dT bs) (dP bs) _ HC16.out.tl.read (HT16.out.mono hqa216) HC16.out.pd.read (HP16.out.mono hqa216) HNT.out HMP.out (dT_bd bs) hmp).mono ?_
  rintro e w17 ⟨rfl, hb17⟩
  clear HC16
  have hqa217 : a2 ≤ w17.heap.size := Nat.le_trans hqa216 hb17.size
  have HL17 := Lib.hid (HL16.out.trans (hb17.mono HL16.out.size))
  have HT17 := Lib.hid (HT16.out.below (hb17.mono (by omega)))
  have HP17 := Lib.hid (HP16.out.below (hb17.mono (by omega)))
  have HA17 := Lib.hid (HA16.out.below hb17 HA16.out.lt)
  have HB17 := Lib.hid (HB16.out.below hb17 HB16.out.lt)
  have HM17 := Lib.hid (HM16.out.on hb17)
  have HD17 := Lib.hid (HD16.out.below hb17 HD16.out.lt)
  clear hb17 HL16 HT16 HP16 HA16 HB16 HM16 HD16 hqa216
  have q0 := HB17.out.cell 0
  have q1 := HB17.out.cell 1
  simp at q0 q1
  go_wp2_with fail
  refine (heldCf_any s4 TG PG tg pg nT mP _ w17 HM17.out).mono ?_
  rw [HKK.out]
  rintro e w18 ⟨rfl, hb18⟩
  clear q0 q1
  have hqa218 : a2 ≤ w18.heap.size := Nat.le_trans hqa217 hb18.size
  have HL18 := Lib.hid (HL17.out.trans (hb18.mono HL17.out.size))
  have HT18 := Lib.hid (HT17.out.below (hb18.mono (by omega)))
  have HP18 := Lib.hid (HP17.out.below (hb18.mono (by omega)))
  have HA18 := Lib.hid (HA17.out.below hb18 HA17.out.lt)
  have HB18 := Lib.hid (HB17.out.below hb18 HB17.out.lt)
  have HM18 := Lib.hid (HM17.out.on hb18)
  have HD18 := Lib.hid (HD17.out.below hb18 HD17.out.lt)
  clear hb18 HL17 HT17 HP17 HA17 HB17 HM17 HD17 hqa217
  go_wp2
  go_ret
  exact ⟨rfl, HL18.out⟩
theorem CodeAt.bys {w : World} {A : Option Addr} : ∀ {n : Nat}, CodeAt w A n → ∃ bs : List Nat, bs.length = n ∧ BysIn w w.heap.size A bs ∧ ∀ y ∈ bs, y < 256
  | 0, _ => ⟨[], rfl, fun k hk => by simp at hk, fun y hy => by simp at hy⟩
  | n + 1, h => by
    obtain ⟨bs, h1, h2, h3⟩ := CodeAt.bys (n := n) (fun k hk => h k (by omega))
    obtain ⟨b, off, z, e, hb, hc, z0, z1⟩ := h n (by omega)
    obtain ⟨v, rfl⟩ := Int.eq_ofNat_of_zero_le z0
    refine ⟨bs ++ [v], by simp [h1], fun k hk => ?_, fun y hy => ?_⟩
    · by_cases hkn : k < n
      · obtain ⟨b', off', e', hb', hc'⟩ := h2 k (by omega)
        exact ⟨b', off', e', hb', by rw [getD_appL _ _ _ _ (by omega)]; exact hc'⟩
      · obtain rfl : k = n := by simp at hk; omega
        refine ⟨b, off, e, hb, ?_⟩
        have h4 := getD_appR bs [v] 0 0 k h1
        rw [Nat.add_zero] at h4
        rw [h4]
        exact hc
    · rw [List.mem_append] at hy
      rcases hy with hy | hy
      · exact h3 y hy
      · simp at hy
        omega
theorem xdec_code (A : Option Addr) (n c : Nat) (w : World) (h : CodeAt w A n) (h1 : n ≤ c) (h2 : c ≤ maxLen) :
    Calls Try.prog 11 #[.slice A n c] w fun e w' => e = .returned (.bool true) ∧ Below w.heap.size w w' := by
  obtain ⟨bs, a, b, d⟩ := h.bys
  exact xdec_walk A n c bs w b a (Nat.le_trans h1 h2) d
end Go.Proofs.Ytkkkkalgfmddbaa
