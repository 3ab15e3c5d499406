/- The law FnExactEmptyConfig walked. -/
import Derived.Test.YtkajegdebmconaaKC
namespace Go.Proofs.Ytkajegdebmconaa
open Go.RowKit Go.Deep Cut

theorem bdE : TlBd (List.replicate 25 etl) := ⟨by simp, fun k hk => by
  have hk' : k < 25 := by simpa using hk
  rw [show (List.replicate 25 etl).getD k tl0 = etl from by rw [List.getD_eq_getElem?_getD, List.getElem?_replicate, if_pos hk']; rfl]
  exact ⟨by decide, by decide⟩⟩
theorem totE : 1 + ofT 1 (lensT (List.replicate 25 etl)) (2 * 25) = 326 := by decide
theorem CfAt.marksE {w : World} {B : Nat} {hs : List Value} {g gp tc pc : Nat} (h : CfAt w B (List.replicate 25 etl) (List.replicate 3 (15, false)) hs (some ⟨g, 0, none⟩) tc (some ⟨gp, 0, none⟩) pc) : ∃ hds, CMk w B g gp 25 3 0 0 1 hds (lensT (List.replicate 25 etl)) := by
  have h1 := h.marks 1 (by decide) (by decide) (by decide) (by decide)
  rw [List.length_replicate, List.length_replicate] at h1
  exact h1
set_option maxRecDepth 10000 in
set_option maxHeartbeats 1600000 in
theorem xempty_walk (w : World) : Calls Try.prog 7 #[] w fun e w' => e = .returned (.bool true) ∧ Below w.heap.size w w' := by
  go_enter Try.func7, Try.ntmps7
  go_wp2_with fail
  refine (sempty_any _).mono ?_
  rintro e w1 ⟨gw, cw, pw, dw, hw, rfl, hc1, _, hb1⟩
  have HT1 := Lib.hid hc1.tl.read
  have HP1 := Lib.hid hc1.pd.read
  have HL1 := Lib.hid hb1
  clear hc1 hb1
  have hws1 : w.heap.size ≤ w1.heap.size := HL1.out.size
  have hb2 : Below w1.heap.size w1 (w1.alloc (.cells #[.slice (some ⟨gw, 0, none⟩) 25 cw, .slice (some ⟨pw, 0, none⟩) 3 dw] 26)) := (Below.refl _ _).alloc (Nat.le_refl _) _
  have HA2 : Hid (Row (w1.alloc (.cells #[.slice (some ⟨gw, 0, none⟩) 25 cw, .slice (some ⟨pw, 0, none⟩) 3 dw] 26)) w1.heap.size 26 #[.slice (some ⟨gw, 0, none⟩) 25 cw, .slice (some ⟨pw, 0, none⟩) 3 dw]) := Lib.hid (heap_alloc_new w1 _)
  have hz2 : w1.heap.size < (w1.alloc (.cells #[.slice (some ⟨gw, 0, none⟩) 25 cw, .slice (some ⟨pw, 0, none⟩) 3 dw] 26)).heap.size := by simp
  have HT2 := Lib.hid (HT1.out.below (hb2.mono (by omega)))
  have HP2 := Lib.hid (HP1.out.below (hb2.mono (by omega)))
  have HL2 := Lib.hid (HL1.out.trans (hb2.mono HL1.out.size))
  clear hb2 HT1 HP1 HL1
  go_wp2_with fail
  generalize w1.alloc (.cells #[.slice (some ⟨gw, 0, none⟩) 25 cw, .slice (some ⟨pw, 0, none⟩) 3 dw] 26) = w2 at *
  generalize w1.heap.size = s1 at *
  have hqs12 : s1 ≤ w2.heap.size := by omega
  refine (iempty_any _).mono ?_
  rintro e w3 ⟨gg, cg, pg, dg, hg, rfl, hc3, _, hb3⟩
  have HG3 := Lib.hid hc3
  clear hc3
  obtain ⟨s2, hs2e⟩ : ∃ s2 : Nat, w2.heap.size = s2 := ⟨_, rfl⟩
  have hs12 : s1 < s2 := by omega
  have hws2 : w.heap.size ≤ s2 := by omega
  have hqs23 : s2 ≤ w3.heap.size := by have := hb3.size; omega
  have hqs13 : s1 ≤ w3.heap.size := Nat.le_trans hqs12 hb3.size
  have HT3 := Lib.hid (HT2.out.below (hb3.mono (by omega)))
  have HP3 := Lib.hid (HP2.out.below (hb3.mono (by omega)))
  have HL3 := Lib.hid (HL2.out.trans (hb3.mono HL2.out.size))
  have HA3 := Lib.hid (HA2.out.below hb3 HA2.out.lt)
  clear hb3 HT2 HP2 HL2 HA2 hqs12
  rw [hs2e] at HG3
  clear hs2e hz2
  have hb4 : Below w3.heap.size w3 (w3.alloc (.cells #[.slice (some ⟨gg, 0, none⟩) 25 cg, .slice (some ⟨pg, 0, none⟩) 3 dg] 26)) := (Below.refl _ _).alloc (Nat.le_refl _) _
  have HB4 : Hid (Row (w3.alloc (.cells #[.slice (some ⟨gg, 0, none⟩) 25 cg, .slice (some ⟨pg, 0, none⟩) 3 dg] 26)) w3.heap.size 26 #[.slice (some ⟨gg, 0, none⟩) 25 cg, .slice (some ⟨pg, 0, none⟩) 3 dg]) := Lib.hid (heap_alloc_new w3 _)
  have hqs14 : s1 ≤ (w3.alloc (.cells #[.slice (some ⟨gg, 0, none⟩) 25 cg, .slice (some ⟨pg, 0, none⟩) 3 dg] 26)).heap.size := Nat.le_trans hqs13 hb4.size
  have hqs24 : s2 ≤ (w3.alloc (.cells #[.slice (some ⟨gg, 0, none⟩) 25 cg, .slice (some ⟨pg, 0, none⟩) 3 dg] 26)).heap.size := Nat.le_trans hqs23 hb4.size
  have HT4 := Lib.hid (HT3.out.below (hb4.mono (by omega)))
  have HP4 := Lib.hid (HP3.out.below (hb4.mono (by omega)))
  have HL4 := Lib.hid (HL3.out.trans (hb4.mono HL3.out.size))
  have HA4 := Lib.hid (HA3.out.below hb4 HA3.out.lt)
  have HG4 := Lib.hid (HG3.out.on hb4)
  clear hb4 HT3 HP3 HL3 HA3 HG3 hqs13 hqs23
  have p0 := HA4.out.cell 0
  have p1 := HA4.out.cell 1
  simp at p0 p1
  go_wp2_with fail
  generalize w3.alloc (.cells #[.slice (some ⟨gg, 0, none⟩) 25 cg, .slice (some ⟨pg, 0, none⟩) 3 dg] 26) = w4 at *
  generalize w3.heap.size = b3 at *
  refine (eqConfig_any _ _ _ _ 25 3 _ _ _ _ _ _ _ HG4.out.tl.read (HT4.out.mono hqs14) HG4.out.pd.read (HP4.out.mono hqs14) List.length_replicate List.length_replicate bdE (by omega)).mono ?_
  rintro e w5 ⟨rfl, hb5⟩
  clear p0 p1
  have hqs15 : s1 ≤ w5.heap.size := Nat.le_trans hqs14 hb5.size
  have hqs25 : s2 ≤ w5.heap.size := Nat.le_trans hqs24 hb5.size
  have HT5 := Lib.hid (HT4.out.below (hb5.mono (by omega)))
  have HP5 := Lib.hid (HP4.out.below (hb5.mono (by omega)))
  have HL5 := Lib.hid (HL4.out.trans (hb5.mono HL4.out.size))
  have HA5 := Lib.hid (HA4.out.below hb5 HA4.out.lt)
  have HG5 := Lib.hid (HG4.out.on hb5)
  have HB5 := Lib.hid (HB4.out.below hb5 HB4.out.lt)
  clear hb5 HT4 HP4 HL4 HA4 HG4 HB4 hqs14 hqs24
  obtain ⟨hds, hm5⟩ := HG5.out.marksE
  have HM5 := Lib.hid hm5
  clear hm5
  clear HG5
  have p0 := HB5.out.cell 0
  have p1 := HB5.out.cell 1
  simp at p0 p1
  go_wp2_with fail
  refine (markConfig_any gg pg 25 3 cg dg 1 s2 hds _ _ HM5.out).mono ?_
  rintro e w6 ⟨rfl, hm6, hb6, hk6⟩
  have HN6 := Lib.hid hm6
  clear hm6 HM5 p0 p1
  have hqs16 : s1 ≤ w6.heap.size := Nat.le_trans hqs15 hb6.size
  have hqs26 : s2 ≤ w6.heap.size := Nat.le_trans hqs25 hb6.size
  have HT6 := Lib.hid (HT5.out.below (hb6.mono (by omega)))
  have HP6 := Lib.hid (HP5.out.below (hb6.mono (by omega)))
  have HL6 := Lib.hid (HL5.out.trans (hb6.mono (by omega)))
  have HA6 := Lib.hid (hk6 _ _ _ (by decide) (by decide) (by decide) HA5.out)
  have HB6 := Lib.hid (hk6 _ _ _ (by decide) (by decide) (by decide) HB5.out)
  clear hb6 hk6 HT5 HP5 HL5 HA5 HB5 hqs15 hqs25
  have p0 := HB6.out.cell 0
  have p1 := HB6.out.cell 1
  simp at p0 p1
  go_wp2_with fail
  refine (heldConfig_any gg pg 25 3 cg dg 1 s2 hds _ _ HN6.out).mono ?_
  rintro e w7 ⟨rfl, hb7⟩
  clear p0 p1
  have hqs17 : s1 ≤ w7.heap.size := Nat.le_trans hqs16 hb7.size
  have hqs27 : s2 ≤ w7.heap.size := Nat.le_trans hqs26 hb7.size
  have HT7 := Lib.hid (HT6.out.below (hb7.mono (by omega)))
  have HP7 := Lib.hid (HP6.out.below (hb7.mono (by omega)))
  have HL7 := Lib.hid (HL6.out.trans (hb7.mono HL6.out.size))
  have HA7 := Lib.hid (HA6.out.below hb7 HA6.out.lt)
  have HB7 := Lib.hid (HB6.out.below hb7 HB6.out.lt)
  have HN7 := Lib.hid (HN6.out.on hb7)
  clear hb7 HT6 HP6 HL6 HA6 HB6 HN6 hqs16 hqs26
  rw [totE]
  go_wp2_with fail
  refine (iempty_any _).mono ?_
  rintro e w8 ⟨gh, ch, ph, dh, hh, rfl, hc8, _, hb8⟩
  have HH8 := Lib.hid hc8
  clear hc8
  have hqs18 : s1 ≤ w8.heap.size := Nat.le_trans hqs17 hb8.size
  have hqs28 : s2 ≤ w8.heap.size := Nat.le_trans hqs27 hb8.size
  have HT8 := Lib.hid (HT7.out.below (hb8.mono (by omega)))
  have HP8 := Lib.hid (HP7.out.below (hb8.mono (by omega)))
  have HL8 := Lib.hid (HL7.out.trans (hb8.mono HL7.out.size))
  have HA8 := Lib.hid (HA7.out.below hb8 HA7.out.lt)
  have HB8 := Lib.hid (HB7.out.below hb8 HB7.out.lt)
  have HN8 := Lib.hid (HN7.out.on hb8)
  clear hb8 HT7 HP7 HL7 HA7 HB7 HN7 hqs17 hqs27
  have hb9 : Below w8.heap.size w8 (w8.alloc (.cells #[.slice (some ⟨gh, 0, none⟩) 25 ch, .slice (some ⟨ph, 0, none⟩) 3 dh] 26)) := (Below.refl _ _).alloc (Nat.le_refl _) _
  have hqs19 : s1 ≤ (w8.alloc (.cells #[.slice (some ⟨gh, 0, none⟩) 25 ch, .slice (some ⟨ph, 0, none⟩) 3 dh] 26)).heap.size := Nat.le_trans hqs18 hb9.size
  have hqs29 : s2 ≤ (w8.alloc (.cells #[.slice (some ⟨gh, 0, none⟩) 25 ch, .slice (some ⟨ph, 0, none⟩) 3 dh] 26)).heap.size := Nat.le_trans hqs28 hb9.size
  have HT9 := Lib.hid (HT8.out.below (hb9.mono (by omega)))
  have HP9 := Lib.hid (HP8.out.below (hb9.mono (by omega)))
  have HL9 := Lib.hid (HL8.out.trans (hb9.mono HL8.out.size))
  have HA9 := Lib.hid (HA8.out.below hb9 HA8.out.lt)
  have HB9 := Lib.hid (HB8.out.below hb9 HB8.out.lt)
  have HN9 := Lib.hid (HN8.out.on hb9)
  have HH9 := Lib.hid (HH8.out.on hb9)
  clear hb9 HT8 HP8 HL8 HA8 HB8 HN8 HH8 hqs18 hqs28
  have p0 := HA9.out.cell 0
  have p1 := HA9.out.cell 1
  simp at p0 p1
  go_wp2_with fail
  generalize w8.alloc (.cells #[.slice (some ⟨gh, 0, none⟩) 25 ch, .slice (some ⟨ph, 0, none⟩) 3 dh] 26) = w9 at *
  refine (eqConfig_any _ _ _ _ 25 3 _ _ _ _ _ _ _ HH9.out.tl.read (HT9.out.mono hqs19) HH9.out.pd.read (HP9.out.mono hqs19) List.length_replicate List.length_replicate bdE (by omega)).mono ?_
  rintro e w10 ⟨rfl, hb10⟩
  clear p0 p1
  have hqs110 : s1 ≤ w10.heap.size := Nat.le_trans hqs19 hb10.size
  have hqs210 : s2 ≤ w10.heap.size := Nat.le_trans hqs29 hb10.size
  have HT10 := Lib.hid (HT9.out.below (hb10.mono (by omega)))
  have HP10 := Lib.hid (HP9.out.below (hb10.mono (by omega)))
  have HL10 := Lib.hid (HL9.out.trans (hb10.mono HL9.out.size))
  have HA10 := Lib.hid (HA9.out.below hb10 HA9.out.lt)
  have HB10 := Lib.hid (HB9.out.below hb10 HB9.out.lt)
  have HN10 := Lib.hid (HN9.out.on hb10)
  have HH10 := Lib.hid (HH9.out.on hb10)
  clear hb10 HT9 HP9 HL9 HA9 HB9 HN9 HH9 hqs19 hqs29
  have p0 := HB10.out.cell 0
  have p1 := HB10.out.cell 1
  simp at p0 p1
  go_wp2_with fail
  refine (heldConfig_any gg pg 25 3 cg dg 1 s2 hds _ _ HN10.out).mono ?_
  rintro e w11 ⟨rfl, hb11⟩
  clear p0 p1
  have hqs111 : s1 ≤ w11.heap.size := Nat.le_trans hqs110 hb11.size
  have hqs211 : s2 ≤ w11.heap.size := Nat.le_trans hqs210 hb11.size
  have HT11 := Lib.hid (HT10.out.below (hb11.mono (by omega)))
  have HP11 := Lib.hid (HP10.out.below (hb11.mono (by omega)))
  have HL11 := Lib.hid (HL10.out.trans (hb11.mono HL10.out.size))
  have HA11 := Lib.hid (HA10.out.below hb11 HA10.out.lt)
  have HB11 := Lib.hid (HB10.out.below hb11 HB10.out.lt)
  have HN11 := Lib.hid (HN10.out.on hb11)
  have HH11 := Lib.hid (HH10.out.on hb11)
  clear hb11 HT10 HP10 HL10 HA10 HB10 HN10 HH10 hqs110 hqs210
  rw [totE]
  go_wp2
  go_ret
  exact ⟨rfl, HL11.out⟩
end Go.Proofs.Ytkajegdebmconaa
