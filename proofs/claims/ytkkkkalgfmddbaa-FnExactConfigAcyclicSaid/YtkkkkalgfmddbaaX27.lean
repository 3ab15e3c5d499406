/- The law FnExactConfigAcyclic walked. -/
import Derived.Test.YtkkkkalgfmddbaaKZ
import Derived.Test.YtkkkkalgfmddbaaQT
namespace Go.Proofs.Ytkkkkalgfmddbaa
open Go.RowKit Go.Deep Cut

set_option maxRecDepth 10000 in
set_option maxHeartbeats 3200000 in
theorem xacy_walk (TA PA : Option Addr) (n tc m pc : Nat) (ts : List Tl) (ps : List Pd) (w : World) (hx : TlIn w w.heap.size TA ts) (hy : PdIn w w.heap.size PA ps) (hn : ts.length = n) (hm : ps.length = m) (hnl : n ≤ maxLen) (hr : ∀ k, k < n → (ts.getD k tl0).2.1.length ≤ maxLen ∧ (ts.getD k tl0).2.2.2.length ≤ maxLen) (hml : m ≤ maxLen) :
    Calls Try.prog 7 #[cfv TA n tc PA m pc] w fun e w' => e = .returned (.bool true) ∧ Below w.heap.size w w' := by
  have hbw : Below w.heap.size w (w.alloc (.cells #[.slice TA n tc, .slice PA m pc] 50)) := (Below.refl _ _).alloc (Nat.le_refl _) _
  have HL0 := Lib.hid hbw
  have HR0 : Hid (Row (w.alloc (.cells #[.slice TA n tc, .slice PA m pc] 50)) w.heap.size 50 #[.slice TA n tc, .slice PA m pc]) := Lib.hid (heap_alloc_new w _)
  have HSZ := Lib.hid (szConfig_any TA PA n m tc pc ts 1048576 _ ((hx.below hbw).mono hbw.size) hn (by omega) (by omega) hnl hr hml)
  have HX := Lib.hid hx
  have HY := Lib.hid hy
  have HN := Lib.hid hn
  have HM := Lib.hid hm
  clear hx hy hn hm hbw hr hnl hml
  go_enter Try.func7, Try.ntmps7
  go_wp2_with fail
  generalize w.alloc (.cells #[.slice TA n tc, .slice PA m pc] 50) = w0 at *
  refine HSZ.out.mono ?_
  rintro e w1 ⟨⟨z, rfl, hz⟩, hb1⟩
  clear HSZ
  have HL1 := Lib.hid (HL0.out.trans (hb1.mono HL0.out.size))
  have HR1 := Lib.hid (HR0.out.below hb1 HR0.out.lt)
  clear hb1 HL0 HR0
  rcases hz with rfl | ⟨y0, y1, ⟨y2, y3⟩, y4⟩
  · go_wp2
    go_ret
    exact ⟨rfl, HL1.out⟩
  have HTB : Hid (TlBd ts) := Lib.hid ⟨by have := y2; omega, fun k hk => by have := y3 k (by rw [← HN.out]; exact hk); omega⟩
  have hm2 : m ≤ 2000000 := by omega
  have hn1 := HN.out
  have hn2 : n ≤ 1048576 := by omega
  clear y2 y3 hn1
  have q0 := HR1.out.cell 0
  have q1 := HR1.out.cell 1
  simp at q0 q1
  go_wp2_with fail
  refine (toConfig_any TA PA n tc m pc ts ps _ ((HX.out.below HL1.out).mono HL1.out.size) ((HY.out.below HL1.out).mono HL1.out.size) HN.out HM.out HTB.out hm2).mono ?_
  rintro e w2 ⟨g1, p1, h1, rfl, hc2, _, hb2⟩
  have HC2 := Lib.hid hc2
  clear hc2 q0 q1
  have HL2 := Lib.hid (HL1.out.trans (hb2.mono HL1.out.size))
  have HR2 := Lib.hid (HR1.out.below hb2 HR1.out.lt)
  clear hb2 HL1 HR1
  go_wp2_with fail
  refine (sacy_any _ _ n n m m ts ps _ HC2.out.tl.read HC2.out.pd.read HN.out HM.out).mono ?_
  rintro e w3 ⟨rfl, hb3⟩
  clear HC2
  have HL3 := Lib.hid (HL2.out.trans (hb3.mono HL2.out.size))
  have HR3 := Lib.hid (HR2.out.below hb3 HR2.out.lt)
  clear hb3 HL2 HR2
  generalize hq : (cfOk ts ps && acyc ts) = q
  have HQ := Lib.hid hq
  clear hq
  have q0 := HR3.out.cell 0
  have q1 := HR3.out.cell 1
  simp at q0 q1
  go_wp2_with fail
  refine (toConfig_any TA PA n tc m pc ts ps _ ((HX.out.below HL3.out).mono HL3.out.size) ((HY.out.below HL3.out).mono HL3.out.size) HN.out HM.out HTB.out hm2).mono ?_
  rintro e w4 ⟨g4, p4, h4, rfl, hc4, _, hb4⟩
  have HG4 := Lib.hid hc4
  clear hc4 q0 q1
  have HL4 := Lib.hid (HL3.out.trans (hb4.mono HL3.out.size))
  have HR4 := Lib.hid (HR3.out.below hb4 HR3.out.lt)
  clear hb4 HL3 HR3
  have hb5 : Below w4.heap.size w4 (w4.alloc (.cells #[.slice (some ⟨g4, 0, none⟩) n n, .slice (some ⟨p4, 0, none⟩) m m] 26)) := (Below.refl _ _).alloc (Nat.le_refl _) _
  have HB5 : Hid (Row (w4.alloc (.cells #[.slice (some ⟨g4, 0, none⟩) n n, .slice (some ⟨p4, 0, none⟩) m m] 26)) w4.heap.size 26 #[.slice (some ⟨g4, 0, none⟩) n n, .slice (some ⟨p4, 0, none⟩) m m]) := Lib.hid (heap_alloc_new w4 _)
  have HL5 := Lib.hid (HL4.out.trans (hb5.mono HL4.out.size))
  have HR5 := Lib.hid (HR4.out.below hb5 HR4.out.lt)
  have HG5 := Lib.hid (HG4.out.on hb5)
  clear hb5 HL4 HR4 HG4
  go_wp2_with fail
  generalize w4.alloc (.cells #[.slice (some ⟨g4, 0, none⟩) n n, .slice (some ⟨p4, 0, none⟩) m m] 26) = w5 at *
  generalize w4.heap.size = b5 at *
  refine (iacy_any _ _ n n m m ts ps _ HG5.out.tl.read HG5.out.pd.read HN.out HM.out HTB.out hm2).mono ?_
  rintro e w6 ⟨rfl, hb6⟩
  rw [HQ.out]
  have HL6 := Lib.hid (HL5.out.trans (hb6.mono HL5.out.size))
  have HR6 := Lib.hid (HR5.out.below hb6 HR5.out.lt)
  have HG6 := Lib.hid (HG5.out.on hb6)
  have HB6 := Lib.hid (HB5.out.below hb6 HB5.out.lt)
  clear hb6 HL5 HR5 HG5 HB5
  have q0 := HR6.out.cell 0
  have q1 := HR6.out.cell 1
  simp at q0 q1
  have p0 := HB6.out.cell 0
  have p1 := HB6.out.cell 1
  simp at p0 p1
  have hz1 := HR6.out.lt
  have hz2 := HB6.out.lt
  go_wp2
  go_region_held3 (fun w' => (w'.cell? ⟨w.heap.size, 0, none⟩ = some (.slice TA n tc) ∧ w'.cell? ⟨w.heap.size, 1, none⟩ = some (.slice PA m pc)) ∧ w'.cell? ⟨b5, 0, none⟩ = some (.slice (some ⟨g4, 0, none⟩) n n) ∧ w'.cell? ⟨b5, 1, none⟩ = some (.slice (some ⟨p4, 0, none⟩) m m))
    (first | go_keep | (refine ⟨⟨?_, ?_⟩, ?_, ?_⟩ <;> (rw [hc7 _ _ (by simp; omega)]; simp [*])) | (refine ⟨⟨?_, ?_⟩, ?_, ?_⟩ <;> (rw [hc8 _ _ (by omega), hc7 _ _ (by simp; omega)]; simp [*])))
    (first
      | (go_at_call 32; go_must (refine (toConfig_any TA PA n tc m pc ts ps _ ?_ ?_ HN.out HM.out HTB.out hm2).mono ?_; (exact ((HX.out.below HL6.out.drew).mono HL6.out.drew.size)); (exact ((HY.out.below HL6.out.drew).mono HL6.out.drew.size)); rintro e u7 ⟨g7, p7, h7, rfl, hC7, _, hbp⟩; obtain ⟨hc7, hf7⟩ := bcell hbp; have hzp : w6.heap.size ≤ u7.heap.size := hbp.size))
      | (go_at_call 34; refine (eqConfig_any _ _ _ _ n m _ _ _ _ ts ps _ ?_ ?_ ?_ ?_ HN.out HM.out HTB.out hm2).mono ?_; (exact (HG6.out.drew.on hbp).tl.read); (exact hC7.tl.read); (exact (HG6.out.drew.on hbp).pd.read); (exact hC7.pd.read); rintro e u8 ⟨rfl, hbq⟩; obtain ⟨hc8, hf8⟩ := bcell hbq))
  clear hc7 hf7 hc8 hf8 p0 p1 q0 q1
  have hb8 : Below w6.heap.size w6 u8 := ((Below.refl _ w6).drew.trans hbp).trans (hbq.mono hzp)
  have HLF := Lib.hid (HL6.out.trans (hb8.mono HL6.out.size))
  clear hbp hbq hzp hC7 hz1 hz2 hb8 HR6 HL6 HG6 HB6
  rename_i _hheld
  clear _hheld
  go_wp2
  go_ret
  exact ⟨rfl, HLF.out⟩
end Go.Proofs.Ytkkkkalgfmddbaa
