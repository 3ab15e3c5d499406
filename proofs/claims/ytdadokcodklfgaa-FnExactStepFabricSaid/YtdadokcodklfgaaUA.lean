/- StepFabric, program and model, for whatever arguments. -/
import Derived.Test.YtdadokcodklfgaaVY
import Derived.Test.YtdadokcodklfgaaVW
import Derived.Test.YtdadokcodklfgaaB9
import Derived.Test.YtdadokcodklfgaaKQ
import Derived.Test.YtdadokcodklfgaaKZ
import Derived.Deep.DeepCutAuto
namespace Go.Proofs.Ytdadokcodklfgaa
open Go.RowKit Go.Deep Cut Fz

/-- Whether a step is made. -/
def stOk (ts : List Tl) (ps : List Pd) (rs ins : List Bool) : Bool := (cfOk ts ps && acyc ts) && decide (rs.length = 25) && decide (ins.length ≤ 4)
/-- Fuel that suffices. -/
def FuelOk (ts : List Tl) (ps : List Pd) (N : Nat) : Prop := (cfOk ts ps && acyc ts) = true → ∀ x, WrOk x → Wf ts N x
theorem cf_src {ts : List Tl} {ps : List Pd} (h : cfOk ts ps = true) : ∀ x, WrOk x → ∀ y ∈ srcs ts x, WrOk y := fun x hx => by
  obtain ⟨_, _, _, h4⟩ := cfOk_parts h
  exact srcs_ok hx.1 hx.2 (h4 x.1 hx.1)
theorem fuel_ex (ts : List Tl) (ps : List Pd) : ∃ N, FuelOk ts ps N := by
  by_cases h : (cfOk ts ps && acyc ts) = true
  · obtain ⟨h1, h2⟩ := Bool.and_eq_true_iff.1 h
    obtain ⟨N, hN⟩ := acyc_wf (cf_src h1) h2
    exact ⟨N, fun _ => hN⟩
  · exact ⟨0, fun h2 => absurd h2 h⟩
theorem fuel_sound {ts : List Tl} {ps : List Pd} {N : Nat} (hN : FuelOk ts ps N) (h : (cfOk ts ps && acyc ts) = true) (rs ins : List Bool) : Sound ts rs ins (valF ts N rs ins) := by
  have hw := hN h
  obtain ⟨h1, _⟩ := Bool.and_eq_true_iff.1 h
  exact ⟨fun x hx => wvF_eq (valA_in ts rs ins) (hw x hx), ⟨N, hw⟩, cf_src h1⟩
theorem ps_ok {ts : List Tl} {ps : List Pd} (h : cfOk ts ps = true) : PsOk ps := by
  intro o ho
  unfold cfOk pdsOk at h
  simp only [Bool.and_eq_true, decide_eq_true_eq, Bool.not_eq_true'] at h
  obtain ⟨⟨_, h1, h2⟩, _⟩ := h
  have h3 : unread (ps.getD o pd0).1 = false := by
    rw [Bool.eq_false_iff]
    intro e
    rw [Bool.eq_false_iff] at h2
    exact h2 (any_mem ps pd0 (fun p => unread p.1) (by omega) e)
  unfold unread at h3
  by_cases h15 : (ps.getD o pd0).1 = 15
  · rw [h15]; exact ⟨by decide, fun c => absurd rfl c⟩
  · rw [show decide ((ps.getD o pd0).1 ≠ 15) = true from decide_eq_true h15, Bool.and_true, Bool.or_eq_false_iff] at h3
    have h4 := of_decide_eq_false h3.1
    have h5 := of_decide_eq_false h3.2
    exact ⟨by omega, fun _ => by omega⟩
/-- What StepFabric of the program answers. -/
def IFOut (b : Bool) (o r : List Bool) (w : World) (e : Ending) (w' : World) : Prop := if b = true then IStOut o r w e w' else (e = .returned (.agg #[.slice none 0 0, .slice none 0 0]) ∧ Below w.heap.size w w')
def SFOut (b : Bool) (o r : List Bool) (w : World) (e : Ending) (w' : World) : Prop := if b = true then SStOut o r w e w' else (e = .returned (.agg #[.slice none 0 0, .slice none 0 0]) ∧ Below w.heap.size w w')
theorem many_any (A : Option Addr) (n c : Nat) (w : World) : Calls Try.prog 76 #[.slice A n c] w fun e w' => e = .returned (.bool (decide (4 < n))) ∧ w = w' := by
  by_cases h : 4 < n
  · have h2 : (4 : Int) < (n : Int) := by omega
    have e : decide (4 < n) = true := decide_eq_true h
    rw [e]
    go_enter Try.func76, Try.ntmps76
    go_wp2
    go_ret
    exact ⟨rfl, rfl⟩
  · have h2 : ¬ (4 : Int) < (n : Int) := by omega
    have e : decide (4 < n) = false := decide_eq_false h
    rw [e]
    go_enter Try.func76, Try.ntmps76
    go_wp2
    go_ret
    exact ⟨rfl, rfl⟩
/-- The boxes of StepFabric's arguments. -/
theorem three_boxes (w : World) (a b c : Value) (d : Value) (e : Value) : ∃ w1, w1 = ((w.alloc (.cells #[a, b] 26)).alloc (.cells #[c] 50)).alloc (.cells #[d, e] 52) ∧ Row w1 w.heap.size 26 #[a, b] ∧ Row w1 (w.heap.size + 1) 50 #[c] ∧ Row w1 (w.heap.size + 2) 52 #[d, e] ∧ Below w.heap.size w w1 ∧ w1.heap.size = w.heap.size + 3 := by
  refine ⟨_, rfl, ?_⟩
  obtain ⟨wa, ha⟩ : ∃ wa, wa = w.alloc (.cells #[a, b] 26) := ⟨_, rfl⟩
  have za : wa.heap.size = w.heap.size + 1 := by rw [ha]; simp
  have ra : Row wa w.heap.size 26 #[a, b] := by rw [ha]; exact row_new w _ _
  have la : Below w.heap.size w wa := by rw [ha]; exact (Below.refl _ _).alloc (Nat.le_refl _) _
  rw [← ha]
  obtain ⟨wb, hb⟩ : ∃ wb, wb = wa.alloc (.cells #[c] 50) := ⟨_, rfl⟩
  have zb : wb.heap.size = w.heap.size + 2 := by rw [hb]; simp; omega
  have rb : Row wb (w.heap.size + 1) 50 #[c] := by rw [hb, ← za]; exact row_new wa _ _
  have kb : ∀ b, b < wa.heap.size → wb.heap[b]? = wa.heap[b]? := fun b h => by rw [hb]; exact Below.heap_alloc _ _ _ h
  have lb : Below w.heap.size w wb := by rw [hb]; exact la.alloc (by omega) _
  rw [← hb]
  have rc : Row (wb.alloc (.cells #[d, e] 52)) (w.heap.size + 2) 52 #[d, e] := by rw [← zb]; exact row_new wb _ _
  have kc : ∀ b, b < wb.heap.size → (wb.alloc (.cells #[d, e] 52)).heap[b]? = wb.heap[b]? := fun b h => Below.heap_alloc _ _ _ h
  have lc : Below w.heap.size w (wb.alloc (.cells #[d, e] 52)) := lb.alloc (by omega) _
  have zc : (wb.alloc (.cells #[d, e] 52)).heap.size = w.heap.size + 3 := by simp; omega
  clear ha hb
  exact ⟨(kc _ (by omega)).trans ((kb _ (by omega)).trans ra), (kc _ (by omega)).trans rb, rc, lc, zc⟩
set_option maxRecDepth 10000 in
set_option maxHeartbeats 1600000 in
theorem istepf_any (TA PA RA IA : Option Addr) (n tc m pc nr rc ni ic N : Nat) (ts : List Tl) (ps : List Pd) (rs ins : List Bool) (w : World) (hN : FuelOk ts ps N) (hx : TlIn w w.heap.size TA ts) (hy : PdIn w w.heap.size PA ps) (hr : BoolsAt w w.heap.size RA rs) (hi : BoolsAt w w.heap.size IA ins) (hn : ts.length = n) (hm : ps.length = m) (hnr : rs.length = nr) (hni : ins.length = ni) (htb : TlBd ts) (hl : m ≤ 2000000) :
    Calls Try.prog 28 #[cfv TA n tc PA m pc, .agg #[.slice RA nr rc], .slice IA ni ic] w (IFOut (stOk ts ps rs ins) (outsF (valF ts N rs ins) ps) (regsF (valF ts N rs ins) ts) w) := by
  obtain ⟨w1, hw1, hk1, hs1, hr1, hb1, hz1⟩ := three_boxes w (.slice TA n tc) (.slice PA m pc) (.slice RA nr rc) (.slice none 0 0) (.slice none 0 0)
  have HX := Lib.hid ((hx.below hb1).mono hb1.size)
  have HY := Lib.hid ((hy.below hb1).mono hb1.size)
  have HR := Lib.hid ((hr.below hb1).mono hb1.size)
  have HI := Lib.hid ((hi.below hb1).mono hb1.size)
  have HNN := Lib.hid hn
  have HMM := Lib.hid hm
  have HNR := Lib.hid hnr
  have HNI := Lib.hid hni
  have HTB := Lib.hid htb
  have HB1 := Lib.hid hb1
  have HK1 := Lib.hid hk1
  have HS1 := Lib.hid hs1
  have HR1 := Lib.hid hr1
  have HFU := Lib.hid hN
  have HST : Hid (stOk ts ps rs ins = ((cfOk ts ps && acyc ts) && decide (nr = 25) && decide (ni ≤ 4))) := Lib.hid (by unfold stOk; rw [hnr, hni])
  have k0 := hk1.cell 0
  have k1 := hk1.cell 1
  simp at k0 k1
  clear hx hy hr hi hn hm hnr hni hb1 hk1 hs1 hr1 htb hN
  go_enter Try.func28, Try.ntmps28
  go_upto_region 1 with fail
  change Code.wp _ _ _ _ (((w.alloc (.cells #[.slice TA n tc, .slice PA m pc] 26)).alloc (.cells #[.slice RA nr rc] 50)).alloc (.cells #[.slice none 0 0, .slice none 0 0] 52))
  rw [← hw1]
  clear hw1
  go_wp2_with fail
  refine (iacy_any TA PA n tc m pc ts ps w1 HX.out HY.out HNN.out HMM.out HTB.out hl).mono ?_
  rintro e w2 ⟨rfl, hb2⟩
  have HK2 := Lib.hid (HK1.out.below hb2 (by omega))
  have HS2 := Lib.hid (HS1.out.below hb2 (by omega))
  have HR2 := Lib.hid (HR1.out.below hb2 (by omega))
  have HB2 := Lib.hid (HB1.out.trans (hb2.mono (by omega)))
  have HX2 := Lib.hid ((HX.out.below hb2).mono hb2.size)
  have HY2 := Lib.hid ((HY.out.below hb2).mono hb2.size)
  have HRR2 := Lib.hid ((HR.out.below hb2).mono hb2.size)
  have HI2 := Lib.hid ((HI.out.below hb2).mono hb2.size)
  have hz2 : w1.heap.size ≤ w2.heap.size := hb2.size
  clear hb2 k0 k1 HK1 HS1 HR1 HB1 HX HY HR HI
  have k0 := HK2.out.cell 0
  have k1 := HK2.out.cell 1
  have s0 := HS2.out.cell 0
  have r0 := HR2.out.cell 0
  have r1 := HR2.out.cell 1
  have f0 := HR2.out.frozen 0
  have f1 := HR2.out.frozen 1
  simp at k0 k1 s0 r0 r1
  have HFF : Hid (stOk ts ps rs ins = false → ∀ W : World, Below w.heap.size w W → IFOut (stOk ts ps rs ins) (outsF (valF ts N rs ins) ps) (regsF (valF ts N rs ins) ts) w (.returned (.agg #[.slice none 0 0, .slice none 0 0])) ((W.setCell ⟨w.heap.size + 2, 0, none⟩ (.slice none 0 0)).setCell ⟨w.heap.size + 2, 1, none⟩ (.slice none 0 0))) := Lib.hid (fun h W hW => by
    unfold IFOut
    rw [if_neg (by rw [h]; simp)]
    exact ⟨rfl, (hW.setCell (p := ⟨w.heap.size + 2, 0, none⟩) (by show w.heap.size ≤ w.heap.size + 2; omega) _).setCell (p := ⟨w.heap.size + 2, 1, none⟩) (by show w.heap.size ≤ w.heap.size + 2; omega) _⟩)
  obtain ⟨q, hq⟩ : ∃ q, (cfOk ts ps && acyc ts) = q := ⟨_, rfl⟩
  rw [hq] at HST
  rw [hq]
  have HQ := Lib.hid hq
  clear hq
  cases q
  · have hst : stOk ts ps rs ins = false := by rw [HST.out]; rfl
    have HST2 := Lib.hid hst
    clear hst HST
    go_wp2
    exact bodyPost_ret (v := .agg #[.slice none 0 0, .slice none 0 0]) (by simp [results, Try.results28, go_sem, r0, r1]) rfl (HFF.out HST2.out _ HB2.out)
  · by_cases h25 : nr = 25
    · subst h25
      have HMA := Lib.hid (many_any IA ni ic w2)
      by_cases h4 : 4 < ni
      · have hst : stOk ts ps rs ins = false := by rw [HST.out, decide_eq_false (show ¬ ni ≤ 4 by omega)]; simp
        have HST2 := Lib.hid hst
        rw [decide_eq_true h4] at HMA
        clear hst HST
        go_wp2_with fail
        refine HMA.out.mono ?_
        rintro e w3 ⟨rfl, rfl⟩
        go_wp2
        exact bodyPost_ret (v := .agg #[.slice none 0 0, .slice none 0 0]) (by simp [results, Try.results28, go_sem, r0, r1]) rfl (HFF.out HST2.out _ HB2.out)
      · have hst : stOk ts ps rs ins = true := by rw [HST.out, decide_eq_true (show ni ≤ 4 by omega)]; simp
        rw [decide_eq_false h4] at HMA
        obtain ⟨hcf, _⟩ := Bool.and_eq_true_iff.1 HQ.out
        obtain ⟨hn25, hm3, _, htk⟩ := cfOk_parts hcf
        have hn := HNN.out
        have hm := HMM.out
        rw [hn25] at hn
        rw [hm3] at hm
        subst hn hm
        have HSD := Lib.hid (istep_any ⟨TA, tc, PA, pc, RA, rc, IA, ni, ic⟩ ts ps rs ins (valF ts N rs ins) w2 (fuel_sound HFU.out HQ.out rs ins) ⟨HX2.out, HRR2.out, HI2.out, hn25, HNR.out, HNI.out, htk⟩ HY2.out hm3 (ps_ok hcf))
        have HPO : Hid (∀ e w', IStOut (outsF (valF ts N rs ins) ps) (regsF (valF ts N rs ins) ts) w e w' → IFOut (stOk ts ps rs ins) (outsF (valF ts N rs ins) ps) (regsF (valF ts N rs ins) ts) w e w') := Lib.hid (fun e w' h => by unfold IFOut; rw [if_pos hst]; exact h)
        clear HFF HST hst hcf htk HX2 HY2 HRR2 HI2 h4
        go_wp2_with fail
        refine HMA.out.mono ?_
        rintro e w3 ⟨rfl, rfl⟩
        go_wp2_with fail
        refine HSD.out.mono ?_
        rintro e w4 ⟨g1, g2, rfl, ⟨hg1, hg2, hne⟩, hB1, hB2, hb4⟩
        have hR4 := HR2.out.below hb4 (by omega)
        have r0 := hR4.cell 0
        have r1 := hR4.cell 1
        have f0 := hR4.frozen 0
        have f1 := hR4.frozen 1
        have hR5 := (hR4.set 0 (.slice (some ⟨g1, 0, none⟩) 3 3)).set 1 (.slice (some ⟨g2, 0, none⟩) 25 25)
        have y0 := hR5.cell 0
        have y1 := hR5.cell 1
        simp at r0 r1 y0 y1
        have HFIN : Hid (IStOut (outsF (valF ts N rs ins) ps) (regsF (valF ts N rs ins) ts) w (.returned (.agg #[.slice (some ⟨g1, 0, none⟩) 3 3, .slice (some ⟨g2, 0, none⟩) 25 25])) ((w4.setCell ⟨w.heap.size + 2, 0, none⟩ (.slice (some ⟨g1, 0, none⟩) 3 3)).setCell ⟨w.heap.size + 2, 1, none⟩ (.slice (some ⟨g2, 0, none⟩) 25 25))) := Lib.hid ⟨g1, g2, rfl, ⟨by omega, by omega, hne⟩, (hB1.kept (setCell_far _ _ _ (by omega))).kept (setCell_far _ _ _ (by omega)), (hB2.kept (setCell_far _ _ _ (by omega))).kept (setCell_far _ _ _ (by omega)), ((HB2.out.trans (hb4.mono (by omega))).setCell (p := ⟨w.heap.size + 2, 0, none⟩) (by show w.heap.size ≤ w.heap.size + 2; omega) _).setCell (p := ⟨w.heap.size + 2, 1, none⟩) (by show w.heap.size ≤ w.heap.size + 2; omega) _⟩
        clear hR4 hR5 hB1 hB2 hb4 k0 k1 s0 HSD HMA
        go_wp2
        exact bodyPost_ret (v := .agg #[.slice (some ⟨g1, 0, none⟩) 3 3, .slice (some ⟨g2, 0, none⟩) 25 25]) (by simp [results, Try.results28, go_sem, y0, y1]) rfl (HPO.out _ _ HFIN.out)
    · have hst : stOk ts ps rs ins = false := by rw [HST.out, decide_eq_false h25]; simp
      have HST2 := Lib.hid hst
      have hne : ((nr : Int) != 25) = true := by rw [bne_iff_ne]; omega
      clear hst HST
      go_wp2
      exact bodyPost_ret (v := .agg #[.slice none 0 0, .slice none 0 0]) (by simp [results, Try.results28, go_sem, r0, r1]) rfl (HFF.out HST2.out _ HB2.out)
end Go.Proofs.Ytdadokcodklfgaa
/- The model's StepFabric, for whatever arguments. -/
namespace Go.Proofs.Ytdadokcodklfgaa
open Go.RowKit Go.Deep Cut Fz

set_option maxRecDepth 10000 in
set_option maxHeartbeats 1600000 in
theorem sstepf_any (TA PA RA IA : Option Addr) (n tc m pc nr rc ni ic N : Nat) (ts : List Tl) (ps : List Pd) (rs ins : List Bool) (w : World) (hN : FuelOk ts ps N) (hx : TlIn w w.heap.size TA ts) (hy : PdIn w w.heap.size PA ps) (hr : BoolsAt w w.heap.size RA rs) (hi : BoolsAt w w.heap.size IA ins) (hn : ts.length = n) (hm : ps.length = m) (hnr : rs.length = nr) (hni : ins.length = ni) :
    Calls Try.prog 24 #[cfv TA n tc PA m pc, .agg #[.slice RA nr rc], .slice IA ni ic] w (SFOut (stOk ts ps rs ins) (outsF (valF ts N rs ins) ps) (regsF (valF ts N rs ins) ts) w) := by
  obtain ⟨w1, hw1, hk1, hs1, hr1, hb1, hz1⟩ := three_boxes w (.slice TA n tc) (.slice PA m pc) (.slice RA nr rc) (.slice none 0 0) (.slice none 0 0)
  have HX := Lib.hid ((hx.below hb1).mono hb1.size)
  have HY := Lib.hid ((hy.below hb1).mono hb1.size)
  have HR := Lib.hid ((hr.below hb1).mono hb1.size)
  have HI := Lib.hid ((hi.below hb1).mono hb1.size)
  have HNN := Lib.hid hn
  have HMM := Lib.hid hm
  have HNR := Lib.hid hnr
  have HNI := Lib.hid hni
  have HB1 := Lib.hid hb1
  have HK1 := Lib.hid hk1
  have HS1 := Lib.hid hs1
  have HR1 := Lib.hid hr1
  have HFU := Lib.hid hN
  have HST : Hid (stOk ts ps rs ins = ((cfOk ts ps && acyc ts) && decide (nr = 25) && decide (ni ≤ 4))) := Lib.hid (by unfold stOk; rw [hnr, hni])
  have k0 := hk1.cell 0
  have k1 := hk1.cell 1
  simp at k0 k1
  clear hx hy hr hi hn hm hnr hni hb1 hk1 hs1 hr1 hN
  go_enter Try.func24, Try.ntmps24
  go_upto_region 1 with fail
  change Code.wp _ _ _ _ (((w.alloc (.cells #[.slice TA n tc, .slice PA m pc] 26)).alloc (.cells #[.slice RA nr rc] 50)).alloc (.cells #[.slice none 0 0, .slice none 0 0] 52))
  rw [← hw1]
  clear hw1
  go_wp2_with fail
  refine (sacy_any TA PA n tc m pc ts ps w1 HX.out HY.out HNN.out HMM.out).mono ?_
  rintro e w2 ⟨rfl, hb2⟩
  have HK2 := Lib.hid (HK1.out.below hb2 (by omega))
  have HS2 := Lib.hid (HS1.out.below hb2 (by omega))
  have HR2 := Lib.hid (HR1.out.below hb2 (by omega))
  have HB2 := Lib.hid (HB1.out.trans (hb2.mono (by omega)))
  have HX2 := Lib.hid ((HX.out.below hb2).mono hb2.size)
  have HY2 := Lib.hid ((HY.out.below hb2).mono hb2.size)
  have HRR2 := Lib.hid ((HR.out.below hb2).mono hb2.size)
  have HI2 := Lib.hid ((HI.out.below hb2).mono hb2.size)
  have hz2 : w1.heap.size ≤ w2.heap.size := hb2.size
  clear hb2 k0 k1 HK1 HS1 HR1 HB1 HX HY HR HI
  have k0 := HK2.out.cell 0
  have k1 := HK2.out.cell 1
  have s0 := HS2.out.cell 0
  have r0 := HR2.out.cell 0
  have r1 := HR2.out.cell 1
  have f0 := HR2.out.frozen 0
  have f1 := HR2.out.frozen 1
  simp at k0 k1 s0 r0 r1
  have HFF : Hid (stOk ts ps rs ins = false → ∀ W : World, Below w.heap.size w W → SFOut (stOk ts ps rs ins) (outsF (valF ts N rs ins) ps) (regsF (valF ts N rs ins) ts) w (.returned (.agg #[.slice none 0 0, .slice none 0 0])) ((W.setCell ⟨w.heap.size + 2, 0, none⟩ (.slice none 0 0)).setCell ⟨w.heap.size + 2, 1, none⟩ (.slice none 0 0))) := Lib.hid (fun h W hW => by
    unfold SFOut
    rw [if_neg (by rw [h]; simp)]
    exact ⟨rfl, (hW.setCell (p := ⟨w.heap.size + 2, 0, none⟩) (by show w.heap.size ≤ w.heap.size + 2; omega) _).setCell (p := ⟨w.heap.size + 2, 1, none⟩) (by show w.heap.size ≤ w.heap.size + 2; omega) _⟩)
  obtain ⟨q, hq⟩ : ∃ q, (cfOk ts ps && acyc ts) = q := ⟨_, rfl⟩
  rw [hq] at HST
  rw [hq]
  have HQ := Lib.hid hq
  clear hq
  cases q
  · have hst : stOk ts ps rs ins = false := by rw [HST.out]; rfl
    have HST2 := Lib.hid hst
    clear hst HST
    go_wp2
    exact bodyPost_ret (v := .agg #[.slice none 0 0, .slice none 0 0]) (by simp [results, Try.results24, go_sem, r0, r1]) rfl (HFF.out HST2.out _ HB2.out)
  · by_cases h25 : nr = 25
    · subst h25
      by_cases h4 : 4 < ni
      · have hst : stOk ts ps rs ins = false := by rw [HST.out, decide_eq_false (show ¬ ni ≤ 4 by omega)]; simp
        have HST2 := Lib.hid hst
        have h4i : (4 : Int) < (ni : Int) := by omega
        clear hst HST
        go_wp2
        exact bodyPost_ret (v := .agg #[.slice none 0 0, .slice none 0 0]) (by simp [results, Try.results24, go_sem, r0, r1]) rfl (HFF.out HST2.out _ HB2.out)
      · have hst : stOk ts ps rs ins = true := by rw [HST.out, decide_eq_true (show ni ≤ 4 by omega)]; simp
        have h4i : ¬ (4 : Int) < (ni : Int) := by omega
        obtain ⟨hcf, _⟩ := Bool.and_eq_true_iff.1 HQ.out
        obtain ⟨hn25, hm3, _, htk⟩ := cfOk_parts hcf
        have hn := HNN.out
        have hm := HMM.out
        rw [hn25] at hn
        rw [hm3] at hm
        subst hn hm
        have hSo := fuel_sound HFU.out HQ.out rs ins
        have HSD := Lib.hid (sstep10_any ⟨TA, tc, PA, pc, RA, rc, IA, ni, ic⟩ ts ps rs ins (valF ts N rs ins) w2 hSo.val (fun x hx => ⟨N, HFU.out HQ.out x hx⟩) ⟨HX2.out, HRR2.out, HI2.out, hn25, HNR.out, HNI.out, htk⟩ HY2.out hm3 (ps_ok hcf))
        have HPO : Hid (∀ e w', SStOut (outsF (valF ts N rs ins) ps) (regsF (valF ts N rs ins) ts) w e w' → SFOut (stOk ts ps rs ins) (outsF (valF ts N rs ins) ps) (regsF (valF ts N rs ins) ts) w e w') := Lib.hid (fun e w' h => by unfold SFOut; rw [if_pos hst]; exact h)
        clear HFF HST hst hcf htk HX2 HY2 HRR2 HI2 h4 hSo
        go_wp2_with fail
        refine HSD.out.mono ?_
        rintro e w4 ⟨A1, A2, c1, c2, rfl, hB1, hB2, hb4⟩
        have HFIN : Hid (SStOut (outsF (valF ts N rs ins) ps) (regsF (valF ts N rs ins) ts) w (.returned (.agg #[.slice A1 3 c1, .slice A2 25 c2])) ((w4.setCell ⟨w.heap.size + 2, 0, none⟩ (.slice A1 3 c1)).setCell ⟨w.heap.size + 2, 1, none⟩ (.slice A2 25 c2))) := Lib.hid ⟨A1, A2, c1, c2, by rw [outsF_len, regsF_len], ((hB1.set ⟨w.heap.size + 2, 0, none⟩ (by show w.heap.size + 2 < w2.heap.size; omega) _).set ⟨w.heap.size + 2, 1, none⟩ (by show w.heap.size + 2 < w2.heap.size; omega) _).low (by omega), ((hB2.set ⟨w.heap.size + 2, 0, none⟩ (by show w.heap.size + 2 < w2.heap.size; omega) _).set ⟨w.heap.size + 2, 1, none⟩ (by show w.heap.size + 2 < w2.heap.size; omega) _).low (by omega), ((HB2.out.trans (hb4.mono (by omega))).setCell (p := ⟨w.heap.size + 2, 0, none⟩) (by show w.heap.size ≤ w.heap.size + 2; omega) _).setCell (p := ⟨w.heap.size + 2, 1, none⟩) (by show w.heap.size ≤ w.heap.size + 2; omega) _⟩
        rw [outsF_len, regsF_len]
        have hR4 := HR2.out.below hb4 (by omega)
        have r0 := hR4.cell 0
        have r1 := hR4.cell 1
        have f0 := hR4.frozen 0
        have f1 := hR4.frozen 1
        have hR5 := (hR4.set 0 (.slice A1 3 c1)).set 1 (.slice A2 25 c2)
        have y0 := hR5.cell 0
        have y1 := hR5.cell 1
        simp at r0 r1 y0 y1
        clear hR4 hR5 hB1 hB2 hb4 k0 k1 s0 HSD
        go_wp2
        exact bodyPost_ret (v := .agg #[.slice A1 3 c1, .slice A2 25 c2]) (by simp [results, Try.results24, go_sem, y0, y1]) rfl (HPO.out _ _ HFIN.out)
    · have hst : stOk ts ps rs ins = false := by rw [HST.out, decide_eq_false h25]; simp
      have HST2 := Lib.hid hst
      have hne : ((nr : Int) != 25) = true := by rw [bne_iff_ne]; omega
      clear hst HST
      go_wp2
      exact bodyPost_ret (v := .agg #[.slice none 0 0, .slice none 0 0]) (by simp [results, Try.results24, go_sem, r0, r1]) rfl (HFF.out HST2.out _ HB2.out)
end Go.Proofs.Ytdadokcodklfgaa
/- The contracts of size, copy, comparison and marks of a fabric's state and of what a step answers. -/
namespace Go.Proofs.Ytdadokcodklfgaa
open Go.RowKit Go.Deep Cut

set_option maxHeartbeats 400000 in
theorem szFst_any (A : Option Addr) (n cap : Nat) (l : Int) (w : World) (h0 : 0 ≤ l) (h1 : l ≤ 1048576) (hn : n ≤ maxLen) :
    Calls Try.prog 23 #[.agg #[.slice A n cap], .int .i64 l] w fun e w' => (∃ z : Int, e = .returned (.int .i64 z) ∧ (z = -1 ∨ (0 ≤ z ∧ n ≤ 1048576))) ∧ Below w.heap.size w w' := by
  have hb0 : Below w.heap.size w (w.alloc (.cells #[.slice A n cap] 47)) := (Below.refl _ _).alloc (Nat.le_refl _) _
  by_cases h : (n : Int) ≤ l
  · have hz : ¬ (l - (n : Int) < 0) := by omega
    have hr1 : (-9223372036854775808 : Int) ≤ l - n := by omega
    have hr2 : l - (n : Int) ≤ 9223372036854775807 := by omega
    have H1 := szBoolS_ok A n cap l (w.alloc (.cells #[.slice A n cap] 47)) h h1
    go_enter Try.func23, Try.ntmps23
    go_wp2_with fail
    refine H1.mono ?_
    rintro e w1 ⟨rfl, rfl⟩
    go_wp2
    go_ret
    exact ⟨⟨_, rfl, .inr ⟨by omega, by omega⟩⟩, hb0⟩
  · have H1 := szBoolS_no A n cap l (w.alloc (.cells #[.slice A n cap] 47)) (by omega) h0 h1 hn
    go_enter Try.func23, Try.ntmps23
    go_wp2_with fail
    refine H1.mono ?_
    rintro e w1 ⟨rfl, rfl⟩
    go_wp2
    go_ret
    exact ⟨⟨_, rfl, .inl rfl⟩, hb0⟩

set_option maxHeartbeats 800000 in
theorem toFst_any (A : Option Addr) (n cap : Nat) (xs : List Bool) (w : World) (hx : BoolsAt w w.heap.size A xs) (hn : xs.length = n) (hl : n ≤ 2000000) :
    Calls Try.prog 26 #[.agg #[.slice A n cap]] w fun e w' => ∃ g, e = .returned (.agg #[.slice (some ⟨g, 0, none⟩) n n]) ∧ w.heap.size ≤ g ∧ BRow w' g xs ∧ Below w.heap.size w w' := by
  subst hn
  obtain ⟨w1, hw1⟩ : ∃ w1, w1 = ((w.alloc (.cells #[.slice A xs.length cap] 47)).alloc (.cells #[.slice none 0 0] 50)).alloc (.cells #[.slice none 0 0] 50) := ⟨_, rfl⟩
  have hb1 : Below w.heap.size w w1 := by rw [hw1]; exact (((Below.refl _ _).alloc (Nat.le_refl _) _).alloc (by simp) _).alloc (by simp; omega) _
  have hz1 : w1.heap.size = w.heap.size + 3 := by rw [hw1]; simp
  have hr1 : Row w1 (w.heap.size + 1) 50 #[.slice none 0 0] := by
    rw [hw1]
    refine (Below.heap_alloc _ _ _ (by simp)).trans ?_
    have h := heap_alloc_new (w.alloc (.cells #[.slice A xs.length cap] 47)) (.cells #[.slice none 0 0] 50)
    simpa [Row] using h
  have hr2 : Row w1 (w.heap.size + 2) 50 #[.slice none 0 0] := by
    rw [hw1]
    have h := heap_alloc_new ((w.alloc (.cells #[.slice A xs.length cap] 47)).alloc (.cells #[.slice none 0 0] 50)) (.cells #[.slice none 0 0] 50)
    simpa [Row] using h
  have HX := Lib.hid ((hx.below hb1).mono hb1.size)
  have HB := Lib.hid hb1
  have HR1 := Lib.hid hr1
  have HR2 := Lib.hid hr2
  clear hx hb1 hr1 hr2
  go_enter Try.func26, Try.ntmps26
  go_upto_region 2 with fail
  change Code.wp _ _ _ _ (((w.alloc (.cells #[.slice A xs.length cap] 47)).alloc (.cells #[.slice none 0 0] 50)).alloc (.cells #[.slice none 0 0] 50))
  go_wp2_with fail
  rw [← hw1]
  clear hw1
  refine (toBoolS_any A cap xs w1 HX.out hl).mono ?_
  rintro e w2 ⟨rfl, hb2, hx2⟩
  have HX2 := Lib.hid hx2
  have HR1' := Lib.hid (HR1.out.below hb2 (by omega))
  have HR2' := Lib.hid (HR2.out.below hb2 (by omega))
  have HB2 := Lib.hid (HB.out.trans (hb2.mono (by omega)))
  have hz2 := hx2.lt
  clear hx2 hb2
  have p0 := HR1'.out.cell 0
  have q0 := HR2'.out.cell 0
  have f0 := HR1'.out.frozen 0
  have e0 := HR2'.out.frozen 0
  simp at p0 q0
  go_wp2
  refine bodyPost_ret (v := .agg #[.slice (some ⟨w1.heap.size, 0, none⟩) xs.length xs.length]) (by simp [results, Try.results26, go_sem, p0]) rfl ⟨w1.heap.size, rfl, by omega, ?_, ?_⟩
  · exact (HX2.out.far _ _ (by simp; omega)).far _ _ (by simp; omega)
  · exact (HB2.out.setCell (by simp; omega) _).setCell (by simp) _

set_option maxHeartbeats 400000 in
theorem eqFstep_any (A1 A2 C1 C2 : Option Addr) (n m a1 a2 c1 c2 : Nat) (xs ys : List Bool) (w : World) (hxn : xs.length = n) (hym : ys.length = m) (h1 : BoolsAt w w.heap.size A1 xs) (h2 : BoolsAt w w.heap.size A2 ys) (k1 : BoolsAt w w.heap.size C1 xs) (k2 : BoolsAt w w.heap.size C2 ys) (hx : n ≤ 2000000) (hy : m ≤ 2000000) :
    Calls Try.prog 29 #[.agg #[.slice A1 n a1, .slice A2 m a2], .agg #[.slice C1 n c1, .slice C2 m c2]] w fun e w' => e = .returned (.bool true) ∧ Below w.heap.size w w' := by
  subst hxn hym
  have hb0 : Below w.heap.size w ((w.alloc (.cells #[.slice A1 xs.length a1, .slice A2 ys.length a2] 52)).alloc (.cells #[.slice C1 xs.length c1, .slice C2 ys.length c2] 52)) := ((Below.refl _ _).alloc (Nat.le_refl _) _).alloc (by simp) _
  have H1 := Lib.hid (h1.on hb0)
  have H2 := Lib.hid (h2.on hb0)
  have K1 := Lib.hid (k1.on hb0)
  have K2 := Lib.hid (k2.on hb0)
  have HL0 := Lib.hid hb0
  clear h1 h2 k1 k2 hb0
  go_enter Try.func29, Try.ntmps29
  go_wp2_with fail
  refine (eqBoolS_any A1 C1 a1 c1 xs _ H1.out K1.out hx).mono ?_
  rintro e w1 ⟨rfl, hb1⟩
  have HL1 := Lib.hid (HL0.out.trans (hb1.mono HL0.out.size))
  have H21 := Lib.hid (H2.out.on hb1)
  have K21 := Lib.hid (K2.out.on hb1)
  obtain ⟨hc1, hf1⟩ := bcell hb1
  go_wp2_with fail
  refine (eqFst_any A2 C2 ys.length a2 c2 ys _ rfl H21.out K21.out hy).mono ?_
  rintro e w2 ⟨rfl, hb2⟩
  clear hc1 hf1
  go_wp2
  go_ret
  exact ⟨rfl, HL1.out.trans (hb2.mono HL1.out.size)⟩

set_option maxHeartbeats 400000 in
theorem markFstB_any (A : Option Addr) (lo n k : Nat) (xs : List Bool) (w : World) (h : BSl w lo A xs) (hx : xs.length = n) (hn : n ≤ 2000000) (hk : k ≤ 100000000) (hlo : lo ≤ w.heap.size) :
    Calls Try.prog 34 #[.agg #[.slice A n n], .int .i64 k] w fun e w' => e = .returned (.int .i64 ((k + n : Nat) : Int)) ∧ BSl w' lo A (mk3 k n) ∧ Below lo w w' ∧ ∀ b, b < w.heap.size → some b ≠ A.map Addr.block → w'.heap[b]? = w.heap[b]? := by
  have hb1 : Below w.heap.size w (w.alloc (.cells #[.slice A n n] 50)) := (Below.refl _ _).alloc (Nat.le_refl _) _
  have hz : w.heap.size ≤ (w.alloc (.cells #[.slice A n n] 50)).heap.size := by simp
  have HH := Lib.hid (h.on hb1)
  have HB1 := Lib.hid hb1
  have HX := Lib.hid hx
  clear h hb1 hx
  go_enter Try.func34, Try.ntmps34
  go_wp2_with fail
  generalize w.alloc (.cells #[.slice A n n] 50) = w1 at *
  refine (markBSl_any A lo n k xs w1 HH.out HX.out hn (by omega) (by omega)).mono ?_
  rintro e w2 ⟨rfl, hm2, hb2, ho2⟩
  have HM2 := Lib.hid hm2
  have HL2 := Lib.hid ((HB1.out.mono hlo).trans hb2)
  have HO2 : Hid (∀ b, b < w.heap.size → some b ≠ A.map Addr.block → w2.heap[b]? = w.heap[b]?) := Lib.hid (fun b hb hne => (ho2.grown.block b (by omega) hne).trans (HB1.out.block b hb))
  clear hm2 hb2 ho2 HB1 HH
  go_wp2
  go_ret
  exact ⟨rfl, HM2.out, HL2.out, HO2.out⟩

set_option maxHeartbeats 400000 in
theorem heldFstB_any (A : Option Addr) (lo n k : Nat) (w : World) (h : BSl w lo A (mk3 k n)) (hn : n ≤ 2000000) (hk : k ≤ 100000000) :
    Calls Try.prog 83 #[.agg #[.slice A n n], .int .i64 k] w fun e w' => e = .returned (.int .i64 ((k + n : Nat) : Int)) ∧ Below w.heap.size w w' := by
  have hb1 : Below w.heap.size w (w.alloc (.cells #[.slice A n n] 50)) := (Below.refl _ _).alloc (Nat.le_refl _) _
  have HH := Lib.hid (h.on hb1)
  have HB1 := Lib.hid hb1
  clear h hb1
  go_enter Try.func83, Try.ntmps83
  go_wp2_with fail
  refine (heldBSl_any A lo n k _ HH.out hn (by omega)).mono ?_
  rintro e w2 ⟨rfl, rfl⟩
  go_wp2
  go_ret
  exact ⟨rfl, HB1.out⟩

set_option maxHeartbeats 400000 in
theorem markFstep_any (A1 A2 : Option Addr) (lo n m k : Nat) (xs ys : List Bool) (w : World) (h : BPair w lo A1 A2 xs ys) (hx : xs.length = n) (hy : ys.length = m) (hn : n ≤ 2000000) (hm : m ≤ 2000000) (hk : k ≤ 1000) (hlo : lo ≤ w.heap.size) :
    Calls Try.prog 36 #[.agg #[.slice A1 n n, .slice A2 m m], .int .i64 k] w fun e w' => e = .returned (.int .i64 ((k + n + m : Nat) : Int)) ∧ Marked w' lo A1 A2 k n m ∧ Below lo w w' ∧ ∀ b, b < w.heap.size → some b ≠ A1.map Addr.block → some b ≠ A2.map Addr.block → w'.heap[b]? = w.heap[b]? := by
  have hb0 : Below w.heap.size w (w.alloc (.cells #[.slice A1 n n, .slice A2 m m] 52)) := (Below.refl _ _).alloc (Nat.le_refl _) _
  have r0 : Row (w.alloc (.cells #[.slice A1 n n, .slice A2 m m] 52)) w.heap.size 52 #[.slice A1 n n, .slice A2 m m] := heap_alloc_new w _
  have hz : w.heap.size < (w.alloc (.cells #[.slice A1 n n, .slice A2 m m] 52)).heap.size := by simp
  have HLT1 : Hid (∀ g, A1 = some ⟨g, 0, none⟩ → g < w.heap.size) := Lib.hid (fun g hg => h.fst.lt hg)
  have HLT2 : Hid (∀ g, A2 = some ⟨g, 0, none⟩ → g < w.heap.size) := Lib.hid (fun g hg => h.snd.lt hg)
  have H := Lib.hid (h.on hb0)
  have HB0 := Lib.hid hb0
  have HR0 := Lib.hid r0
  have HX := Lib.hid hx
  have HY := Lib.hid hy
  clear h hb0 r0 hx hy
  go_enter Try.func36, Try.ntmps36
  go_wp2_with fail
  generalize w.alloc (.cells #[.slice A1 n n, .slice A2 m m] 52) = w0 at *
  refine (markBSl_any A1 lo n k xs _ H.out.fst HX.out hn (by omega) (by omega)).mono ?_
  rintro e w1 ⟨rfl, hm1, hb1, ho1⟩
  have HM1 := Lib.hid hm1
  have HL1 := Lib.hid ((HB0.out.mono hlo).trans hb1)
  have HO1 : Hid (∀ b, b < w.heap.size → some b ≠ A1.map Addr.block → w1.heap[b]? = w.heap[b]?) := Lib.hid (fun b hb hne => (ho1.grown.block b (by omega) hne).trans (HB0.out.block b hb))
  have H1 := Lib.hid (H.out.snd.only ho1 (fun g hg e => by
    rcases hm1.addr with h | ⟨g', h⟩
    · rw [h] at e; cases e
    · rw [h] at e; injection e with e; simp at e; subst e; exact H.out.ne _ h hg))
  have HR1 := Lib.hid (ho1.row HR0.out (fun e => by
    rcases hm1.addr with h | ⟨g', h⟩
    · rw [h] at e; cases e
    · have := HLT1.out g' h; rw [h] at e; injection e with e; simp at e; omega))
  have hs1 := ho1.size
  have HNE := Lib.hid H.out.ne
  clear hm1 hb1 ho1 H HR0 HB0
  have q1 := HR1.out.cell 1
  simp at q1
  generalize hk1 : k + n = k1 at *
  have HK1 := Lib.hid hk1
  have hk1b : k1 ≤ 3000000 := by omega
  clear hk1
  go_wp2_with fail
  refine (markFstB_any A2 lo m k1 ys _ H1.out HY.out hm (by omega) (by omega)).mono ?_
  rintro e w2 ⟨rfl, hm2, hb2, ho2⟩
  have HM2 := Lib.hid hm2
  have HL2 := Lib.hid (HL1.out.trans hb2)
  have HO2 : Hid (∀ b, b < w.heap.size → some b ≠ A1.map Addr.block → some b ≠ A2.map Addr.block → w2.heap[b]? = w.heap[b]?) := Lib.hid (fun b hb hne hne2 => (ho2 b (by omega) hne2).trans (HO1.out b hb hne))
  have HM12 : Hid (BSl w2 lo A1 (mk3 k n)) := Lib.hid (by
    rcases HM1.out with ⟨h1, h2⟩ | ⟨g, hg, hl, cs, hr, hf⟩
    · exact .inl ⟨h1, h2⟩
    · refine .inr ⟨g, hg, hl, cs, (ho2 g hr.lt (fun e => ?_)).trans hr, hf⟩
      rcases hm2.addr with h | ⟨g', h⟩
      · rw [h] at e; cases e
      · rw [h] at e; injection e with e; simp at e; subst e; exact HNE.out _ hg h)
  clear hm2 hb2 ho2 HM1 HL1 H1 q1 HO1
  go_wp2
  go_ret
  exact ⟨ret_int (by have := HK1.out; omega), ⟨HM12.out, by rw [HK1.out]; exact HM2.out, HNE.out⟩, HL2.out, HO2.out⟩

set_option maxHeartbeats 400000 in
theorem heldFstep_any (A1 A2 : Option Addr) (lo n m k : Nat) (w : World) (h : Marked w lo A1 A2 k n m) (hn : n ≤ 2000000) (hm : m ≤ 2000000) (hk : k ≤ 1000) :
    Calls Try.prog 37 #[.agg #[.slice A1 n n, .slice A2 m m], .int .i64 k] w fun e w' => e = .returned (.int .i64 ((k + n + m : Nat) : Int)) ∧ Below w.heap.size w w' := by
  have hb0 : Below w.heap.size w (w.alloc (.cells #[.slice A1 n n, .slice A2 m m] 52)) := (Below.refl _ _).alloc (Nat.le_refl _) _
  have H := Lib.hid (BPair.on h hb0)
  have HL0 := Lib.hid hb0
  clear h hb0
  go_enter Try.func37, Try.ntmps37
  go_wp2_with fail
  refine (heldBSl_any A1 lo n k _ H.out.fst hn (by omega)).mono ?_
  rintro e w1 ⟨rfl, rfl⟩
  have H2 := Lib.hid H.out.snd
  clear H
  generalize hk1 : k + n = k1 at *
  have HK1 := Lib.hid hk1
  have hk1b : k1 ≤ 3000000 := by omega
  have hk0 : (0 : Int) ≤ (k1 : Int) := Int.natCast_nonneg _
  clear hk1
  go_wp2_with fail
  refine (heldFstB_any A2 lo m k1 _ H2.out hm (by omega)).mono ?_
  generalize hk2 : k1 + m = k2 at *
  have HK2 := Lib.hid hk2
  have hk3 : (0 : Int) ≤ (k2 : Int) := Int.natCast_nonneg _
  clear hk2
  rintro e w1 ⟨rfl, hb1⟩
  have HL1 := Lib.hid (HL0.out.trans (hb1.mono HL0.out.size))
  clear hb1 HL0 H2
  go_wp2
  go_ret
  exact ⟨ret_int (by have := HK1.out; have := HK2.out; omega), HL1.out⟩
end Go.Proofs.Ytdadokcodklfgaa
/- What StepFabric answers, program and model, in one form; the copies and comparisons with the lengths named. -/
namespace Go.Proofs.Ytdadokcodklfgaa
open Go.RowKit Go.Deep Cut Fz

theorem toBl_any (A : Option Addr) (n cap : Nat) (xs : List Bool) (w : World) (hx : BoolsAt w w.heap.size A xs) (hn : xs.length = n) (hl : n ≤ 2000000) :
    Calls Try.prog 27 #[.slice A n cap] w fun e w' => ∃ g, e = .returned (.slice (some ⟨g, 0, none⟩) n n) ∧ w.heap.size ≤ g ∧ BRow w' g xs ∧ Below w.heap.size w w' := by
  subst hn
  exact (toBoolS_any A cap xs w hx hl).mono fun _ _ ⟨h1, h2, h3⟩ => ⟨_, h1, Nat.le_refl _, h3, h2⟩
theorem eqBl_any (A A' : Option Addr) (n cap cap' : Nat) (xs : List Bool) (w : World) (hx : BoolsAt w w.heap.size A xs) (hy : BoolsAt w w.heap.size A' xs) (hn : xs.length = n) (hl : n ≤ 2000000) :
    Calls Try.prog 32 #[.slice A n cap, .slice A' n cap'] w fun e w' => e = .returned (.bool true) ∧ Below w.heap.size w w' := by
  subst hn
  exact eqBoolS_any A A' cap cap' xs w hx hy hl
theorem BSl.set {w : World} {lo : Nat} {A : Option Addr} {xs : List Bool} (h : BSl w lo A xs) (p : Addr) (hp : p.block < lo) (u : Value) : BSl (w.setCell p u) lo A xs := by
  rcases h with ⟨h1, h2⟩ | ⟨g, h1, h2, h3⟩
  · exact .inl ⟨h1, h2⟩
  · exact .inr ⟨g, h1, h2, h3.far p u (by omega)⟩
/-- A list, or none. -/
def sel (b : Bool) (xs : List Bool) : List Bool := if b = true then xs else []
theorem sel_le (b : Bool) (xs : List Bool) : (sel b xs).length ≤ xs.length := by
  unfold sel; split
  · exact Nat.le_refl _
  · exact Nat.zero_le _
theorem sstepS_any (TA PA RA IA : Option Addr) (n tc m pc nr rc ni ic N no nn : Nat) (ts : List Tl) (ps : List Pd) (rs ins eo en : List Bool) (w : World) (heo : eo = sel (stOk ts ps rs ins) (outsF (valF ts N rs ins) ps)) (hen : en = sel (stOk ts ps rs ins) (regsF (valF ts N rs ins) ts)) (hno : eo.length = no) (hnn : en.length = nn) (hN : FuelOk ts ps N) (hx : TlIn w w.heap.size TA ts) (hy : PdIn w w.heap.size PA ps) (hr : BoolsAt w w.heap.size RA rs) (hi : BoolsAt w w.heap.size IA ins) (hn : ts.length = n) (hm : ps.length = m) (hnr : rs.length = nr) (hni : ins.length = ni) :
    Calls Try.prog 24 #[cfv TA n tc PA m pc, .agg #[.slice RA nr rc], .slice IA ni ic] w fun e w' => ∃ (A1 A2 : Option Addr) (c1 c2 : Nat), e = .returned (.agg #[.slice A1 no c1, .slice A2 nn c2]) ∧ BlAt w' w.heap.size eo A1 c1 ∧ BlAt w' w.heap.size en A2 c2 ∧ Below w.heap.size w w' := by
  refine (sstepf_any TA PA RA IA n tc m pc nr rc ni ic N ts ps rs ins w hN hx hy hr hi hn hm hnr hni).mono fun e w' h => ?_
  unfold SFOut at h
  unfold sel at heo hen
  split at h
  · rename_i hb
    rw [if_pos hb] at heo hen
    subst heo hen hno hnn
    exact h
  · rename_i hb
    rw [if_neg hb] at heo hen
    subst heo hen hno hnn
    exact ⟨none, none, 0, 0, h.1, BlAt.nil _ _, BlAt.nil _ _, h.2⟩
theorem istepS_any (TA PA RA IA : Option Addr) (n tc m pc nr rc ni ic N no nn : Nat) (ts : List Tl) (ps : List Pd) (rs ins eo en : List Bool) (w : World) (heo : eo = sel (stOk ts ps rs ins) (outsF (valF ts N rs ins) ps)) (hen : en = sel (stOk ts ps rs ins) (regsF (valF ts N rs ins) ts)) (hno : eo.length = no) (hnn : en.length = nn) (hN : FuelOk ts ps N) (hx : TlIn w w.heap.size TA ts) (hy : PdIn w w.heap.size PA ps) (hr : BoolsAt w w.heap.size RA rs) (hi : BoolsAt w w.heap.size IA ins) (hn : ts.length = n) (hm : ps.length = m) (hnr : rs.length = nr) (hni : ins.length = ni) (htb : TlBd ts) (hl : m ≤ 2000000) :
    Calls Try.prog 28 #[cfv TA n tc PA m pc, .agg #[.slice RA nr rc], .slice IA ni ic] w fun e w' => ∃ (A1 A2 : Option Addr), e = .returned (.agg #[.slice A1 no no, .slice A2 nn nn]) ∧ BSl w' w.heap.size A1 eo ∧ BSl w' w.heap.size A2 en ∧ (∀ g, A1 = some ⟨g, 0, none⟩ → A2 ≠ some ⟨g, 0, none⟩) ∧ Below w.heap.size w w' := by
  refine (istepf_any TA PA RA IA n tc m pc nr rc ni ic N ts ps rs ins w hN hx hy hr hi hn hm hnr hni htb hl).mono fun e w' h => ?_
  unfold IFOut at h
  unfold sel at heo hen
  split at h
  · rename_i hb
    rw [if_pos hb] at heo hen
    have e1 : no = 3 := by rw [← hno, heo, outsF_len]
    have e2 : nn = 25 := by rw [← hnn, hen, regsF_len]
    subst heo hen e1 e2
    obtain ⟨g1, g2, h1, ⟨h2, h3, h4⟩, h5, h6, h7⟩ := h
    exact ⟨_, _, h1, .inr ⟨g1, rfl, h2, h5⟩, .inr ⟨g2, rfl, h3, h6⟩, fun g e1 e2 => by
      injection e1 with e1; injection e1 with e1; injection e2 with e2; injection e2 with e2; omega, h7⟩
  · rename_i hb
    rw [if_neg hb] at heo hen
    subst heo hen hno hnn
    exact ⟨none, none, h.1, .inl ⟨rfl, rfl⟩, .inl ⟨rfl, rfl⟩, fun g e => (by cases e), h.2⟩
/-- The boxes of the law's arguments. -/
theorem two_boxesL (w : World) (a b c : Value) : ∃ w1, w1 = (w.alloc (.cells #[a, b] 44)).alloc (.cells #[c] 47) ∧ Row w1 w.heap.size 44 #[a, b] ∧ Row w1 (w.heap.size + 1) 47 #[c] ∧ Below w.heap.size w w1 ∧ w1.heap.size = w.heap.size + 2 := by
  refine ⟨_, rfl, ?_⟩
  obtain ⟨wa, ha⟩ : ∃ wa, wa = w.alloc (.cells #[a, b] 44) := ⟨_, rfl⟩
  have za : wa.heap.size = w.heap.size + 1 := by rw [ha]; simp
  have ra : Row wa w.heap.size 44 #[a, b] := by rw [ha]; exact row_new w _ _
  have la : Below w.heap.size w wa := by rw [ha]; exact (Below.refl _ _).alloc (Nat.le_refl _) _
  rw [← ha]
  have rb : Row (wa.alloc (.cells #[c] 47)) (w.heap.size + 1) 47 #[c] := by rw [← za]; exact row_new wa _ _
  exact ⟨(Below.heap_alloc _ _ _ (by omega)).trans ra, rb, la.alloc (by omega) _, by simp; omega⟩
theorem BSl.rk3 {w w' : World} {lo : Nat} {A : Option Addr} {xs : List Bool} (h : BSl w lo A xs) (hk : RKeep3 w w') : BSl w' lo A xs := by
  rcases h with ⟨h1, h2⟩ | ⟨g, h1, h2, cs, h3, h4⟩
  · exact .inl ⟨h1, h2⟩
  · exact .inr ⟨g, h1, h2, cs, hk g _ _ (by decide) (by decide) (by decide) h3, h4⟩
theorem BRow.rk3 {w w' : World} {g : Nat} {xs : List Bool} (h : BRow w g xs) (hk : RKeep3 w w') : BRow w' g xs := by
  obtain ⟨cs, h3, h4⟩ := h
  exact ⟨cs, hk g _ _ (by decide) (by decide) (by decide) h3, h4⟩
theorem BPair.rk3 {w w' : World} {lo : Nat} {A1 A2 : Option Addr} {xs ys : List Bool} (h : BPair w lo A1 A2 xs ys) (hk : RKeep3 w w') : BPair w' lo A1 A2 xs ys := ⟨h.fst.rk3 hk, h.snd.rk3 hk, h.ne⟩
theorem BSl.keep {w w' : World} {lo : Nat} {A : Option Addr} {xs : List Bool} (h : BSl w lo A xs) (hk : ∀ b, lo ≤ b → b < w.heap.size → w'.heap[b]? = w.heap[b]?) : BSl w' lo A xs := by
  rcases h with ⟨h1, h2⟩ | ⟨g, h1, h2, cs, h3, h4⟩
  · exact .inl ⟨h1, h2⟩
  · exact .inr ⟨g, h1, h2, cs, (hk g h2 h3.lt).trans h3, h4⟩
theorem BPair.keep {w w' : World} {lo : Nat} {A1 A2 : Option Addr} {xs ys : List Bool} (h : BPair w lo A1 A2 xs ys) (hk : ∀ b, lo ≤ b → b < w.heap.size → w'.heap[b]? = w.heap[b]?) : BPair w' lo A1 A2 xs ys := ⟨h.fst.keep hk, h.snd.keep hk, h.ne⟩
/-- A mark on one row of truth values. -/
theorem markOne_any (g n k : Nat) (xs : List Bool) (w : World) (hr : BRow w g xs) (hs : xs.length = n) (hn : n ≤ 2000000) (hk : k ≤ 100000000) :
    Calls Try.prog 35 #[.slice (some ⟨g, 0, none⟩) n n, .int .i64 k] w fun e w' => e = .returned (.int .i64 ((k + n : Nat) : Int)) ∧ Mid g (g + 1) w w' := by
  obtain ⟨cs, hR, hF⟩ := hr
  exact (markB_row g n k cs w hR (by rw [hF.1, hs]) hn (by omega)).mono fun _ _ ⟨h1, _, h3⟩ => ⟨h1, h3.mid (Nat.le_refl _) (by omega)⟩
theorem markOneF_any (g n k : Nat) (xs : List Bool) (w : World) (hr : BRow w g xs) (hs : xs.length = n) (hn : n ≤ 2000000) (hk : k ≤ 100000000) :
    Calls Try.prog 34 #[.agg #[.slice (some ⟨g, 0, none⟩) n n], .int .i64 k] w fun e w' => e = .returned (.int .i64 ((k + n : Nat) : Int)) ∧ Mid g (g + 1) w w' :=
  (markFst_any g n k xs w hr hs hn (by omega)).mono fun _ _ ⟨h1, _, h3⟩ => ⟨h1, h3⟩
end Go.Proofs.Ytdadokcodklfgaa
