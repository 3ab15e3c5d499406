/- The model's step of the fabric, walked. -/
import Derived.Test.YtdadokcodklfgaaVM
import Derived.Test.YtdadokcodklfgaaVG
import Derived.StillTailTactics
import Derived.Deep.RegionHeld3
namespace Go.Proofs.Ytdadokcodklfgaa
open Go.RowKit Go.Deep Cut Fz

set_option maxRecDepth 10000 in
set_option maxHeartbeats 3200000 in
theorem sstep10_any (K : CkP) (ts : List Tl) (ps : List Pd) (rs ins : List Bool) (V : Wr → Bool) (w : World) (hV : ∀ x, WrOk x → V x = runP V (valA ts rs ins x)) (hwf : ∀ x, WrOk x → ∃ n, Wf ts n x) (hC : CkIn w w.heap.size K ts rs ins) (hP : PdIn w w.heap.size K.PA ps) (hpl : ps.length = 3) (hpo : PsOk ps) :
    Calls Try.prog 72 #[kcv K, scv K, .slice K.IA K.ni K.ic] w (SStOut (outsF V ps) (regsF V ts) w) := by
  have hWC : ∀ t u : Nat, t < 25 → u < 8 → WireC K ts rs ins V t u := fun t u ht hu => by
    obtain ⟨n, hn⟩ := hwf (t, u) ⟨ht, hu⟩
    exact swire_all K ts rs ins V hV hn ⟨ht, hu⟩
  have hTAB : ∀ t : Nat, t < 25 → ∀ w, CkIn w w.heap.size K ts rs ins → Calls Try.prog 109 #[kcv K, scv K, .slice K.IA K.ni K.ic, .int .i64 (t : Int)] w fun e w' => e = .returned (.bool (runP V (lutA ts t))) ∧ Below w.heap.size w w' := fun t ht w hC => by
    have hsel := tlOk_sel (hC.ok t ht)
    obtain ⟨_, ⟨l1, _⟩, _⟩ := tlOk_fit (hC.ok t ht)
    refine stab_any K ts rs ins V t w ht hC fun k hk h15 => ?_
    have h8 := hsel k (by rw [l1]; exact hk)
    exact hWC t _ ht (by have := h8.2.2 h15; have := h8.1; omega)
  have hn1 := hC.n1
  obtain ⟨pb, po, hPA, _⟩ := hP 0 (by omega)
  obtain ⟨tb, tf, hTA, _⟩ := hC.tl 0 (by omega)
  obtain ⟨TA, tc, PA, pc, RA, rc, IA, ni, ic⟩ := K
  dsimp only at hPA hTA
  subst hPA hTA
  obtain ⟨K, hK⟩ : ∃ K : CkP, K = ⟨some ⟨tb, tf, none⟩, tc, some ⟨pb, po, none⟩, pc, RA, rc, IA, ni, ic⟩ := ⟨_, rfl⟩
  rw [← hK] at hWC hTAB hC hP
  obtain ⟨w0, hw0⟩ : ∃ w0, w0 = ((((w.alloc (.cells #[.slice (some ⟨tb, tf, none⟩) 25 tc, .slice (some ⟨pb, po, none⟩) 3 pc] 26)).alloc (.cells #[.slice RA 25 rc] 50)).alloc (.cells #[.slice none 0 0, .slice none 0 0] 52)).alloc (.cells #[.slice none 0 0, .slice none 0 0] 52)) := ⟨_, rfl⟩
  have hb0 : SBox w w0 K none 0 0 none 0 0 := by rw [hw0, hK]; exact SBox.mk0 w ⟨some ⟨tb, tf, none⟩, tc, some ⟨pb, po, none⟩, pc, RA, rc, IA, ni, ic⟩
  have hl0 : Below w.heap.size w w0 := by rw [hw0]; exact ((((Below.refl _ _).alloc (Nat.le_refl _) _).alloc (by simp) _).alloc (by simp; omega) _).alloc (by simp; omega) _
  have hz0 : w0.heap.size = w.heap.size + 4 := by rw [hw0]; simp
  have HB0 := Lib.hid hb0
  have HL0 := Lib.hid hl0
  have HC := Lib.hid hC
  have HP : Hid (PdIn w w.heap.size (some ⟨pb, po, none⟩) ps) := Lib.hid (by rw [hK] at hP; exact hP)
  have HTL : Hid (TlIn w w.heap.size (some ⟨tb, tf, none⟩) ts) := Lib.hid (by have h := hC.tl; rw [hK] at h; exact h)
  have HPL := Lib.hid hpl
  have HPO := Lib.hid hpo
  have HWC : Hid (∀ t u : Nat, t < 25 → u < 8 → ∀ w, CkIn w w.heap.size K ts rs ins → Calls Try.prog 108 #[.agg #[.slice (some ⟨tb, tf, none⟩) 25 tc, .slice (some ⟨pb, po, none⟩) 3 pc], .agg #[.slice RA 25 rc], .slice IA ni ic, .int .i64 (t : Int), .int .i64 (u : Int)] w fun e w' => e = .returned (.bool (V (t, u))) ∧ Below w.heap.size w w') := Lib.hid (fun t u ht hu w hC => by have h := hWC t u ht hu w hC; rw [hK] at h; exact h)
  have HTAB : Hid (∀ t : Nat, t < 25 → ∀ w, CkIn w w.heap.size K ts rs ins → Calls Try.prog 109 #[.agg #[.slice (some ⟨tb, tf, none⟩) 25 tc, .slice (some ⟨pb, po, none⟩) 3 pc], .agg #[.slice RA 25 rc], .slice IA ni ic, .int .i64 (t : Int)] w fun e w' => e = .returned (.bool (runP V (lutA ts t))) ∧ Below w.heap.size w w') := Lib.hid (fun t ht w hC => by have h := hTAB t ht w hC; rw [hK] at h; exact h)
  have HBX : Hid (∀ wr A1 n1 c1 A2 n2 c2, SBox w wr K A1 n1 c1 A2 n2 c2 → (wr.cell? ⟨w.heap.size, 0, none⟩ = some (.slice (some ⟨tb, tf, none⟩) 25 tc) ∧ wr.cell? ⟨w.heap.size, 1, none⟩ = some (.slice (some ⟨pb, po, none⟩) 3 pc) ∧ wr.cell? ⟨w.heap.size + 1, 0, none⟩ = some (.slice RA 25 rc)) ∧ (wr.cell? ⟨w.heap.size + 3, 0, none⟩ = some (.slice A1 n1 c1) ∧ wr.cell? ⟨w.heap.size + 3, 1, none⟩ = some (.slice A2 n2 c2) ∧ wr.frozen? ⟨w.heap.size + 3, 0, none⟩ = false ∧ wr.frozen? ⟨w.heap.size + 3, 1, none⟩ = false) ∧ (wr.cell? ⟨w.heap.size + 2, 0, none⟩ = some (.slice none 0 0) ∧ wr.cell? ⟨w.heap.size + 2, 1, none⟩ = some (.slice none 0 0) ∧ wr.frozen? ⟨w.heap.size + 2, 0, none⟩ = false ∧ wr.frozen? ⟨w.heap.size + 2, 1, none⟩ = false)) := Lib.hid (fun wr A1 n1 c1 A2 n2 c2 h => by
    have a0 := h.k.cell 0
    have a1 := h.k.cell 1
    have a2 := h.s.cell 0
    have a3 := h.r1.cell 0
    have a4 := h.r1.cell 1
    have a5 := h.r0.cell 0
    have a6 := h.r0.cell 1
    rw [hK] at a0 a1 a2
    exact ⟨⟨a0, a1, a2⟩, ⟨a3, a4, h.r1.frozen 0, h.r1.frozen 1⟩, ⟨a5, a6, h.r0.frozen 0, h.r0.frozen 1⟩⟩)
  clear hb0 hl0 hC hP hpl hpo hWC hTAB hV hwf hK
  go_enter Try.func72, Try.ntmps72
  go_upto_region 2 with fail
  change Code.wp _ _ _ _ ((((w.alloc (.cells #[.slice (some ⟨tb, tf, none⟩) 25 tc, .slice (some ⟨pb, po, none⟩) 3 pc] 26)).alloc (.cells #[.slice RA 25 rc] 50)).alloc (.cells #[.slice none 0 0, .slice none 0 0] 52)).alloc (.cells #[.slice none 0 0, .slice none 0 0] 52))
  rw [← hw0]
  clear hw0
  go_wp2
  go_loopw [8] (fun iv wr => ∃ (k : Nat) (A : Option Addr) (ac : Nat), k ≤ 3 ∧ iv = .int .i64 k ∧ Hid (SBox w wr K A k ac none 0 0) ∧ Hid (BlAt wr (w.heap.size + 4) ((outsF V ps).take k) A ac) ∧ w.heap.size + 4 ≤ wr.heap.size ∧ Hid (Below w.heap.size w wr)) (fun iv _ => 3 - (intOf iv).toNat)
  case atStart => exact ⟨0, none, 0, by omega, rfl, HB0, Lib.hid (BlAt.nil _ _), by omega, HL0⟩
  case round =>
    clear HB0 HL0 hz0
    obtain ⟨k, A, ac, hk, rfl, HB, HO, hzr, HL⟩ := hrel
    have HLK : Hid (((outsF V ps).take k).length = k) := Lib.hid (by rw [List.length_take, outsF_len]; omega)
    obtain ⟨⟨a0, a1, a2⟩, ⟨r0, r1, f0, f1⟩, _⟩ := HBX.out _ _ _ _ _ _ _ HB.out
    by_cases hlt : k < 3
    · obtain ⟨b', o', e', hbl, pv0, pv1⟩ := HP.out k (by rw [HPL.out]; exact hlt)
      injection e' with e'
      injection e' with e1 e2
      subst e1 e2
      have q0 := (HL.out.cell (p := ⟨pb, po + k * 2, none⟩) hbl).trans pv0
      have q1 := (HL.out.cell (p := ⟨pb, po + k * 2 + 1, none⟩) hbl).trans pv1
      have HTK := Lib.hid (outsF_take V ps hlt)
      have HOF : Hid (outF V (ps.getD k pd0) k = ((decide ((ps.getD k pd0).1 ≠ 15) && V (k * 5 + 4, (ps.getD k pd0).1.toNat)) != (ps.getD k pd0).2)) := Lib.hid rfl
      have HPK := Lib.hid (HPO.out k hlt)
      generalize outF V (ps.getD k pd0) k = ov at *
      generalize (ps.getD k pd0).2 = inv at *
      generalize (ps.getD k pd0).1 = z at *
      obtain ⟨u, rfl⟩ := Int.eq_ofNat_of_zero_le HPK.out.1
      have hnA : Hid (NotB A (w.heap.size + 3)) := Lib.hid (fun e => absurd (HO.out.ltA _ e).1 (by omega))
      obtain ⟨w1, hw1⟩ : ∃ w1, w1 = wr.alloc (.cells #[.int .i64 (u : Int), .bool inv] 81) := ⟨_, rfl⟩
      have hb1 : Below wr.heap.size wr w1 := by rw [hw1]; exact (Below.refl _ _).alloc (Nat.le_refl _) _
      have hX1 : Row w1 wr.heap.size 81 #[.int .i64 (u : Int), .bool inv] := by rw [hw1]; exact row_new wr _ _
      have hz1 : wr.heap.size < w1.heap.size := hX1.lt
      have HB1 := Lib.hid (HB.out.on (fun b hb => hb1.block b (by omega)))
      have HO1 := Lib.hid (HO.out.on hb1)
      have HL1 := Lib.hid (HL.out.trans (hb1.mono (by omega)))
      have HX1 := Lib.hid hX1
      have HC1 := Lib.hid ((HC.out.below HL1.out).mono HL1.out.size)
      clear hb1 hX1 HB HO HL
      -- region 5
      go_upto_region 6 with fail
      change Code.wp _ _ _ _ (wr.alloc (.cells #[.int .i64 (u : Int), .bool inv] 81))
      rw [← hw1]
      clear hw1 a0 a1 a2 r0 r1 f0 f1 q0 q1 pv0 pv1
      obtain ⟨⟨a0, a1, a2⟩, ⟨r0, r1, f0, f1⟩, _⟩ := HBX.out _ _ _ _ _ _ _ HB1.out
      have x0 := HX1.out.cell 0
      have x1 := HX1.out.cell 1
      simp at x0 x1
      by_cases h15 : (u : Int) = 15
      · have hu15 : u = 15 := by omega
        subst hu15
        have HOV : Hid (ov = inv) := Lib.hid (by rw [HOF.out]; cases inv <;> rfl)
        clear HOF HPK HWC HTAB
        cases inv
        all_goals
          go_wp2_with (at_builtin; refine wpList_pushBl rfl _ _ rfl w1 (w.heap.size + 4) ac k A ((outsF V ps).take k) rfl HLK.out HO1.out (by omega) (by omega) _ rfl ?_)
          intro g' cap' w5 hO5 hb5 hk5 hg5
          have hHz : w.heap.size + 3 < w1.heap.size := by omega
          have c5 := (World.cell?_of_block (a := ⟨w.heap.size + 3, 0, none⟩) (hk5 _ hHz hnA.out)).trans r0
          have f5 := (World.frozen?_of_block (a := ⟨w.heap.size + 3, 0, none⟩) (hk5 _ hHz hnA.out)).trans f0
          have HE5 := Lib.hid (HB1.out.on (wr' := w5) (fun b hb => hk5 b (by omega) (fun e => absurd (HO1.out.ltA _ e).1 (by omega))))
          have HE6 := Lib.hid (HE5.out.set1 (some ⟨g', 0, none⟩) (k + 1) cap')
          have HO6 := Lib.hid (hO5.set ⟨w.heap.size + 3, 0, none⟩ (by show w.heap.size + 3 < w.heap.size + 4; omega) (.slice (some ⟨g', 0, none⟩) (k + 1) cap'))
          have HL6 := Lib.hid ((HL1.out.trans (hb5.mono (by omega))).setCell (p := ⟨w.heap.size + 3, 0, none⟩) (by show w.heap.size ≤ w.heap.size + 3; omega) (.slice (some ⟨g', 0, none⟩) (k + 1) cap'))
          have hz6 : w.heap.size + 4 ≤ (w5.setCell ⟨w.heap.size + 3, 0, none⟩ (.slice (some ⟨g', 0, none⟩) (k + 1) cap')).heap.size := by rw [setCell_size]; have := hb5.size; omega
          rw [← HOV.out, ← HTK.out] at HO6
          clear hO5 hb5 hk5 hg5 HE5 HB1 HO1 HL1 a0 a1 a2 r0 r1 f0 f1 x0 x1
          go_wp2
          go_roundw
          case rel => exact ⟨k + 1, some ⟨g', 0, none⟩, cap', by omega, by go_num, HE6, HO6, hz6, HL6⟩
          case measure => simp [intOf]; omega
      · have hne : ((u : Int) != 15) = true := by rw [bne_iff_ne]; exact h15
        have hne2 : ((u : Int) == 15) = false := by rw [beq_eq_false_iff_ne]; exact h15
        have hu8 : u < 8 := by have := HPK.out.2 h15; omega
        have HWW := Lib.hid (HWC.out (k * 5 + 4) u (by omega) hu8 w1 HC1.out)
        have HOV : Hid (ov = (V (k * 5 + 4, u) != inv)) := Lib.hid (by rw [HOF.out, show decide ((u : Int) ≠ 15) = true from decide_eq_true h15, Bool.true_and]; rfl)
        rw [show ((k * 5 + 4 : Nat) : Int) = (k : Int) * 5 + 5 - 1 by omega] at HWW
        generalize V (k * 5 + 4, u) = vb at *
        clear HOF HPK
        go_wp2_with fail
        refine HWW.out.mono ?_
        rintro e w2 ⟨rfl, hb2⟩
        have hz2 : w1.heap.size ≤ w2.heap.size := hb2.size
        have HB2 := Lib.hid (HB1.out.on (fun b hb => hb2.block b (by omega)))
        have HO2 := Lib.hid (HO1.out.on hb2)
        have HL2 := Lib.hid (HL1.out.trans (hb2.mono (by omega)))
        have hX2 := HX1.out.below hb2 (by omega)
        have x0 := hX2.cell 0
        have x1 := hX2.cell 1
        simp at x0 x1
        clear hb2 HWW HB1 HO1 HL1 hX2 HX1 HC1 a0 a1 a2 r0 r1 f0 f1
        obtain ⟨⟨a0, a1, a2⟩, ⟨r0, r1, f0, f1⟩, _⟩ := HBX.out _ _ _ _ _ _ _ HB2.out
        cases inv <;> cases vb
        all_goals
          go_wp2_with (at_builtin; refine wpList_pushBl rfl _ _ rfl w2 (w.heap.size + 4) ac k A ((outsF V ps).take k) rfl HLK.out HO2.out (by omega) (by omega) _ rfl ?_)
          intro g' cap' w5 hO5 hb5 hk5 hg5
          have hHz : w.heap.size + 3 < w2.heap.size := by omega
          have c5 := (World.cell?_of_block (a := ⟨w.heap.size + 3, 0, none⟩) (hk5 _ hHz hnA.out)).trans r0
          have f5 := (World.frozen?_of_block (a := ⟨w.heap.size + 3, 0, none⟩) (hk5 _ hHz hnA.out)).trans f0
          have HE5 := Lib.hid (HB2.out.on (wr' := w5) (fun b hb => hk5 b (by omega) (fun e => absurd (HO2.out.ltA _ e).1 (by omega))))
          have HE6 := Lib.hid (HE5.out.set1 (some ⟨g', 0, none⟩) (k + 1) cap')
          have HO6 := Lib.hid (hO5.set ⟨w.heap.size + 3, 0, none⟩ (by show w.heap.size + 3 < w.heap.size + 4; omega) (.slice (some ⟨g', 0, none⟩) (k + 1) cap'))
          have HL6 := Lib.hid ((HL2.out.trans (hb5.mono (by omega))).setCell (p := ⟨w.heap.size + 3, 0, none⟩) (by show w.heap.size ≤ w.heap.size + 3; omega) (.slice (some ⟨g', 0, none⟩) (k + 1) cap'))
          have hz6 : w.heap.size + 4 ≤ (w5.setCell ⟨w.heap.size + 3, 0, none⟩ (.slice (some ⟨g', 0, none⟩) (k + 1) cap')).heap.size := by rw [setCell_size]; have := hb5.size; omega
          have hov := HOV.out
          simp only [Bool.bne_true, Bool.bne_false, Bool.not_true, Bool.not_false] at hov
          rw [hov] at HTK
          rw [← HTK.out] at HO6
          clear hO5 hb5 hk5 hg5 HE5 HB2 HO2 HL2 a0 a1 a2 r0 r1 f0 f1 x0 x1 hov
          go_wp2
          go_roundw
          case rel => exact ⟨k + 1, some ⟨g', 0, none⟩, cap', by omega, by go_num, HE6, HO6, hz6, HL6⟩
          case measure => simp [intOf]; omega
    · obtain rfl : k = 3 := by omega
      have hAll : (outsF V ps).take 3 = outsF V ps := List.take_of_length_le (by rw [outsF_len]; exact Nat.le_refl _)
      have HO8 : Hid (BlAt wr (w.heap.size + 4) (outsF V ps) A ac) := Lib.hid (by have h := HO.out; rw [hAll] at h; exact h)
      clear HO hAll HLK a0 a1 a2 r0 r1 f0 f1 hlt hk
      rw [show ((3 : Nat) : Int) = 3 from rfl]
      obtain ⟨w8, h8⟩ : ∃ w8, w8 = wr := ⟨_, rfl⟩
      subst h8
      go_wp2
      go_loopw [11] (fun iv wx => ∃ (j : Nat) (D : Option Addr) (dc : Nat), j ≤ 25 ∧ iv = .int .i64 j ∧ Hid (SBox w wx K A 3 ac D j dc) ∧ Hid (∀ b, w.heap.size + 4 ≤ b → b < w8.heap.size → wx.heap[b]? = w8.heap[b]?) ∧ Hid (BlAt wx w8.heap.size ((regsF V ts).take j) D dc) ∧ w.heap.size + 4 ≤ w8.heap.size ∧ w8.heap.size ≤ wx.heap.size ∧ Hid (Below w.heap.size w wx)) (fun iv _ => 25 - (intOf iv).toNat)
      case atStart => exact ⟨0, none, 0, by omega, rfl, HB, Lib.hid (fun _ _ _ => rfl), Lib.hid (BlAt.nil _ _), hzr, Nat.le_refl _, HL⟩
      case round =>
        clear HB HL
        obtain ⟨j, D, dc, hj, rfl, HB, HK, HR, hzr, hzx, HL⟩ := hrel
        have HLR : Hid (((regsF V ts).take j).length = j) := Lib.hid (by rw [List.length_take, regsF_len]; omega)
        obtain ⟨⟨a0, a1, a2⟩, ⟨r0, r1, f0, f1⟩, ⟨s0, s1, g0, g1⟩⟩ := HBX.out _ _ _ _ _ _ _ HB.out
        by_cases hlt : j < 25
        · clear s0 s1 g0 g1
          obtain ⟨b', o', e', hbl, A1, c1, A2, c2, ⟨p0, p1, p2, p3⟩, _⟩ := HTL.out j (by rw [hn1]; exact hlt)
          injection e' with e'
          injection e' with e1 e2
          subst e1 e2
          have q2 := (HL.out.cell (p := ⟨tb, tf + j * 4 + 2, none⟩) hbl).trans p2
          clear p0 p1 p2 p3
          have HTK := Lib.hid (regsF_take V ts hlt)
          have HRF : Hid (regF V ts j = ((ts.getD j tl0).2.2.1 && runP V (lutA ts j))) := Lib.hid rfl
          have hnD : Hid (NotB D (w.heap.size + 3)) := Lib.hid (fun e => absurd (HR.out.ltA _ e).1 (by omega))
          have hHz : w.heap.size + 3 < wr.heap.size := by omega
          generalize (ts.getD j tl0).2.2.1 = rg at *
          have r1o := (fun o => (World.cell?_alloc_lt wr.drew o ⟨w.heap.size + 3, 1, none⟩ hHz).trans r1)
          have HRd := Lib.hid (show BlAt wr.drew w8.heap.size ((regsF V ts).take j) D dc from HR.out)
          cases rg
          · have hrv : regF V ts j = false := HRF.out
            rw [hrv] at HTK
            clear HRF hrv
            have HFB : Hid (∀ w' : World, (∀ b, b < wr.heap.size → NotB D b → w'.heap[b]? = wr.heap[b]?) → w'.cell? ⟨w.heap.size, 0, none⟩ = some (.slice (some ⟨tb, tf, none⟩) 25 tc) ∧ w'.cell? ⟨tb, tf + j * 4 + 2, none⟩ = some (.bool false)) := Lib.hid (fun w' hb => ⟨(World.cell?_of_block (a := ⟨w.heap.size, 0, none⟩) (hb _ (by show w.heap.size < wr.heap.size; omega) (fun e => absurd (HR.out.ltA _ e).1 (by show ¬ w8.heap.size ≤ w.heap.size; omega)))).trans a0, (World.cell?_of_block (a := ⟨tb, tf + j * 4 + 2, none⟩) (hb _ (by show tb < wr.heap.size; omega) (fun e => absurd (HR.out.ltA _ e).1 (by show ¬ w8.heap.size ≤ tb; omega)))).trans q2⟩)
            go_upto_region 11 with fail
            refine wp_region_held_drew (S := (fun w' => w'.cell? ⟨w.heap.size, 0, none⟩ = some (.slice (some ⟨tb, tf, none⟩) 25 tc) ∧ w'.cell? ⟨tb, tf + j * 4 + 2, none⟩ = some (.bool false))) (by kernel_rfl) ⟨a0, q2⟩ (fun hHeld => ?_)
            refine wpAnyH_take (i := 0) (v := ?_) rfl (by kernel_rfl) (by kernel_rfl) (by kernel_rfl) (fun _ _ _ h => h) (Or.inl ⟨by rfl, ?_⟩) (by assumption) ?_
            rotate_left
            · (intro w hSw; (try dsimp only at hSw); go_simp; try with_reducible rfl)
            simp only [Act.put, List.setIfInBounds_toArray]
            refine wpAnyH_take (i := 1) (v := ?_) rfl (by kernel_rfl) (by kernel_rfl) (by kernel_rfl) (fun _ _ _ h => h) (Or.inl ⟨by rfl, ?_⟩) (by assumption) ?_
            rotate_left
            · (intro w hSw; (try dsimp only at hSw); go_simp; try with_reducible rfl)
            simp only [Act.put]
            refine wpAnyH_take (i := 3) (v := ?_) rfl (by kernel_rfl) (by kernel_rfl) (by kernel_rfl) (fun _ _ _ h => h) (Or.inl ⟨by rfl, ?_⟩) (by assumption) ?_
            rotate_left
            · (intro w hSw; (try dsimp only at hSw); go_simp; try with_reducible rfl)
            simp only [Act.put]
            refine wpAnyH_take (i := 4) (v := ?_) rfl (by kernel_rfl) (by kernel_rfl) (by kernel_rfl) (fun _ _ _ h => h) (Or.inl ⟨by rfl, ?_⟩) (by assumption) ?_
            rotate_left
            · (intro w hSw; (try dsimp only at hSw); go_simp; try with_reducible rfl)
            simp only [Act.put]
            refine wpAnyH_take (i := 5) (v := ?_) rfl (by kernel_rfl) (by kernel_rfl) (by kernel_rfl) (fun _ _ _ h => h) (Or.inl ⟨by rfl, ?_⟩) (by assumption) ?_
            rotate_left
            · (intro w hSw; (try dsimp only at hSw); go_simp; try with_reducible rfl)
            simp only [Act.put]
            refine wpAnyH_take (i := 6) (v := ?_) rfl (by kernel_rfl) (by kernel_rfl) (by kernel_rfl) (fun _ _ _ h => h) (Or.inl ⟨by rfl, ?_⟩) (by assumption) ?_
            rotate_left
            · (intro w hSw; (try dsimp only at hSw); go_simp; try with_reducible rfl)
            simp only [Act.put]
            refine wpAnyH_take (i := 7) (v := ?_) rfl (by kernel_rfl) (by kernel_rfl) (by kernel_rfl) (fun _ _ _ h => h) (Or.inl ⟨by rfl, ?_⟩) (by assumption) ?_
            rotate_left
            · (intro w hSw; (try dsimp only at hSw); go_simp; try with_reducible rfl)
            simp only [Act.put]
            refine wpAnyH_take (i := 8) (v := ?_) rfl (by kernel_rfl) (by kernel_rfl) (by kernel_rfl) (fun _ _ _ h => h) (Or.inl ⟨by rfl, ?_⟩) (by assumption) ?_
            rotate_left
            · (intro w hSw; (try dsimp only at hSw); go_simp; try with_reducible rfl)
            simp only [Act.put]
            refine wpAnyH_take (i := 9) (v := ?_) rfl (by kernel_rfl) (by kernel_rfl) (by kernel_rfl) (fun _ _ _ h => h) (Or.inl ⟨by rfl, ?_⟩) (by assumption) ?_
            rotate_left
            · (intro w hSw; (try dsimp only at hSw); go_simp; try with_reducible rfl)
            simp only [Act.put]
            refine wpAnyH_take (i := 10) (v := undef) rfl (by kernel_rfl) (by kernel_rfl) (by kernel_rfl) (fun _ _ _ h => h) (Or.inr ⟨by kernel_rfl, rfl⟩) (by assumption) ?_
            simp only [Act.put]
            refine wpAnyH_take (i := 11) (v := undef) rfl (by kernel_rfl) (by kernel_rfl) (by kernel_rfl) (fun _ _ _ h => h) (Or.inr ⟨by kernel_rfl, rfl⟩) (by assumption) ?_
            simp only [Act.put]
            refine wpAnyH_take (i := 12) (v := undef) rfl (by kernel_rfl) (by kernel_rfl) (by kernel_rfl) (fun _ _ _ h => h) (Or.inr ⟨by kernel_rfl, rfl⟩) (by assumption) ?_
            simp only [Act.put]
            refine wpAnyH_take (i := 13) (v := undef) rfl (by kernel_rfl) (by kernel_rfl) (by kernel_rfl) (fun _ _ _ h => h) (Or.inr ⟨by kernel_rfl, rfl⟩) (by assumption) ?_
            simp only [Act.put]
            refine wpAnyH_take (i := 14) (v := undef) rfl (by kernel_rfl) (by kernel_rfl) (by kernel_rfl) (fun _ _ _ h => h) (Or.inr ⟨by kernel_rfl, rfl⟩) (by assumption) ?_
            simp only [Act.put]
            refine wpAnyH_take (i := 15) (v := ?_) rfl (by kernel_rfl) (by kernel_rfl) (by kernel_rfl) (fun _ _ _ h => h) (Or.inl ⟨by rfl, ?_⟩) (by assumption) ?_
            rotate_left
            · (intro w hSw; (try dsimp only at hSw); go_simp; try with_reducible rfl)
            simp only [Act.put]
            refine wpAnyH_ready (rs := [2, 16]) (by kernel_rfl) (by simp) ?_
            refine AllReadyH.cons rfl (fun K hK => ?_) (AllReadyH.cons rfl (fun K hK => ?_) AllReadyH.nil)
            · go_simp
              refine hK.out _ _ ⟨a0, q2⟩ (fun hHeld => ?_)
              clear hK K
              refine wpAnyH_ready (rs := [16]) (by kernel_rfl) (by simp) ?_
              refine AllReadyH.cons rfl (fun K hK => ?_) AllReadyH.nil
              go_simp
              refine hK.out _ _ (by constructor <;> go_keep) (fun hHeld => ?_)
              clear hK K
              refine wpAnyH_ready (rs := [17]) (by kernel_rfl) (by simp) ?_
              refine AllReadyH.cons rfl (fun K hK => ?_) AllReadyH.nil
              refine step_pushBl (by rfl) _ _ (by rfl) wr.drew w8.heap.size dc j D ((regsF V ts).take j) (by rfl) HLR.out HRd.out (by omega) (by show w8.heap.size ≤ wr.heap.size; omega) false (by rfl) ?_
              intro g' cap' w5 hR5 hb5 hk5 hg5
              have hS5 := HFB.out w5 hk5
              have c5 := (World.cell?_of_block (a := ⟨w.heap.size + 3, 1, none⟩) (hk5 _ hHz hnD.out)).trans r1
              have f5 := (World.frozen?_of_block (a := ⟨w.heap.size + 3, 1, none⟩) (hk5 _ hHz hnD.out)).trans f1
              refine hK.out _ _ (hS5) (fun hHeld => ?_)
              clear hK K
              refine wpAnyH_take (i := 18) (v := ?_) rfl (by kernel_rfl) (by kernel_rfl) (by kernel_rfl) (fun _ _ _ h => h) (Or.inl ⟨by rfl, ?_⟩) (by assumption) ?_
              rotate_left
              · (intro w hSw; (try dsimp only at hSw); go_simp; try with_reducible rfl)
              simp only [Act.put, List.setIfInBounds_toArray]
              refine wpAnyH_take (i := 19) (v := ?_) rfl (by kernel_rfl) (by kernel_rfl) (by kernel_rfl) (fun _ _ _ h => h) (Or.inl ⟨by rfl, ?_⟩) (by assumption) ?_
              rotate_left
              · (intro w hSw; (try dsimp only at hSw); go_simp; try with_reducible rfl)
              simp only [Act.put]
              refine wpAnyH_ready (rs := [20]) (by kernel_rfl) (by simp) ?_
              refine AllReadyH.cons rfl (fun K hK => ?_) AllReadyH.nil
              go_simp
              refine hK.out _ _ (⟨(World.cell?_of_block (a := ⟨w.heap.size, 0, none⟩) (Below.heap_setCell _ _ _ _ (by show w.heap.size ≠ w.heap.size + 3; omega))).trans hS5.1, (World.cell?_of_block (a := ⟨tb, tf + j * 4 + 2, none⟩) (Below.heap_setCell _ _ _ _ (by show tb ≠ w.heap.size + 3; omega))).trans hS5.2⟩) (fun hHeld => ?_)
              clear hK K
              refine wpAnyH_done (by kernel_rfl) ?_ _
              have HKd := HK
              have hzw5 : wr.heap.size ≤ w5.heap.size := hb5.size
              have hL5 : Below w.heap.size w w5 := HL.out.trans (((Below.refl wr.heap.size wr).drew.mono (Nat.le_refl _)).mono (by omega) |>.trans (hb5.mono (by omega)))
              have HE5 := Lib.hid (HB.out.on (wr' := w5) (fun b hb => hk5 b (by show b < wr.heap.size; omega) (fun e => absurd (HR.out.ltA _ e).1 (by omega))))
              have HE6 := Lib.hid (HE5.out.set2 (some ⟨g', 0, none⟩) (j + 1) cap')
              have HK6 : Hid (∀ b, w.heap.size + 4 ≤ b → b < w8.heap.size → (w5.setCell ⟨w.heap.size + 3, 1, none⟩ (.slice (some ⟨g', 0, none⟩) (j + 1) cap')).heap[b]? = w8.heap[b]?) := Lib.hid (fun b h1 h2 => (Below.heap_setCell _ _ _ _ (by show b ≠ w.heap.size + 3; omega)).trans ((hk5 b (by show b < wr.heap.size; omega) (fun e => absurd (HR.out.ltA _ e).1 (by omega))).trans (HKd.out b h1 h2)))
              have hz5 : wr.heap.size ≤ w5.heap.size := hzw5
              have HR6 := Lib.hid (hR5.set ⟨w.heap.size + 3, 1, none⟩ (by show w.heap.size + 3 < w8.heap.size; omega) (.slice (some ⟨g', 0, none⟩) (j + 1) cap'))
              have HL6 := Lib.hid (hL5.setCell (p := ⟨w.heap.size + 3, 1, none⟩) (by show w.heap.size ≤ w.heap.size + 3; omega) (.slice (some ⟨g', 0, none⟩) (j + 1) cap'))
              have hz7 : w8.heap.size ≤ (w5.setCell ⟨w.heap.size + 3, 1, none⟩ (.slice (some ⟨g', 0, none⟩) (j + 1) cap')).heap.size := by rw [setCell_size]; omega
              rw [← HTK.out] at HR6
              clear HE5 hR5 hk5 hb5 hg5 a0 a1 a2 r0 r1 f0 f1 q2 r1o hzw5 hL5 HKd
              go_wp2
              go_roundw
              case rel => exact ⟨j + 1, some ⟨g', 0, none⟩, cap', by omega, by go_num, HE6, HK6, HR6, hzr, hz7, HL6⟩
              case measure => simp [intOf]; omega
            · go_simp
              refine hK.out _ _ (by constructor <;> go_keep) (fun hHeld => ?_)
              clear hK K
              refine wpAnyH_ready (rs := [2]) (by kernel_rfl) (by simp) ?_
              refine AllReadyH.cons rfl (fun K hK => ?_) AllReadyH.nil
              go_simp
              refine hK.out _ _ (hHeld) (fun hHeld => ?_)
              clear hK K
              refine wpAnyH_ready (rs := [17]) (by kernel_rfl) (by simp) ?_
              refine AllReadyH.cons rfl (fun K hK => ?_) AllReadyH.nil
              refine step_pushBl (by rfl) _ _ (by rfl) wr.drew w8.heap.size dc j D ((regsF V ts).take j) (by rfl) HLR.out HRd.out (by omega) (by show w8.heap.size ≤ wr.heap.size; omega) false (by rfl) ?_
              intro g' cap' w5 hR5 hb5 hk5 hg5
              have hS5 := HFB.out w5 hk5
              have c5 := (World.cell?_of_block (a := ⟨w.heap.size + 3, 1, none⟩) (hk5 _ hHz hnD.out)).trans r1
              have f5 := (World.frozen?_of_block (a := ⟨w.heap.size + 3, 1, none⟩) (hk5 _ hHz hnD.out)).trans f1
              refine hK.out _ _ (hS5) (fun hHeld => ?_)
              clear hK K
              refine wpAnyH_take (i := 18) (v := ?_) rfl (by kernel_rfl) (by kernel_rfl) (by kernel_rfl) (fun _ _ _ h => h) (Or.inl ⟨by rfl, ?_⟩) (by assumption) ?_
              rotate_left
              · (intro w hSw; (try dsimp only at hSw); go_simp; try with_reducible rfl)
              simp only [Act.put, List.setIfInBounds_toArray]
              refine wpAnyH_take (i := 19) (v := ?_) rfl (by kernel_rfl) (by kernel_rfl) (by kernel_rfl) (fun _ _ _ h => h) (Or.inl ⟨by rfl, ?_⟩) (by assumption) ?_
              rotate_left
              · (intro w hSw; (try dsimp only at hSw); go_simp; try with_reducible rfl)
              simp only [Act.put]
              refine wpAnyH_ready (rs := [20]) (by kernel_rfl) (by simp) ?_
              refine AllReadyH.cons rfl (fun K hK => ?_) AllReadyH.nil
              go_simp
              refine hK.out _ _ (⟨(World.cell?_of_block (a := ⟨w.heap.size, 0, none⟩) (Below.heap_setCell _ _ _ _ (by show w.heap.size ≠ w.heap.size + 3; omega))).trans hS5.1, (World.cell?_of_block (a := ⟨tb, tf + j * 4 + 2, none⟩) (Below.heap_setCell _ _ _ _ (by show tb ≠ w.heap.size + 3; omega))).trans hS5.2⟩) (fun hHeld => ?_)
              clear hK K
              refine wpAnyH_done (by kernel_rfl) ?_ _
              have HKd := HK
              have hzw5 : wr.heap.size ≤ w5.heap.size := hb5.size
              have hL5 : Below w.heap.size w w5 := HL.out.trans (((Below.refl wr.heap.size wr).drew.mono (Nat.le_refl _)).mono (by omega) |>.trans (hb5.mono (by omega)))
              have HE5 := Lib.hid (HB.out.on (wr' := w5) (fun b hb => hk5 b (by show b < wr.heap.size; omega) (fun e => absurd (HR.out.ltA _ e).1 (by omega))))
              have HE6 := Lib.hid (HE5.out.set2 (some ⟨g', 0, none⟩) (j + 1) cap')
              have HK6 : Hid (∀ b, w.heap.size + 4 ≤ b → b < w8.heap.size → (w5.setCell ⟨w.heap.size + 3, 1, none⟩ (.slice (some ⟨g', 0, none⟩) (j + 1) cap')).heap[b]? = w8.heap[b]?) := Lib.hid (fun b h1 h2 => (Below.heap_setCell _ _ _ _ (by show b ≠ w.heap.size + 3; omega)).trans ((hk5 b (by show b < wr.heap.size; omega) (fun e => absurd (HR.out.ltA _ e).1 (by omega))).trans (HKd.out b h1 h2)))
              have hz5 : wr.heap.size ≤ w5.heap.size := hzw5
              have HR6 := Lib.hid (hR5.set ⟨w.heap.size + 3, 1, none⟩ (by show w.heap.size + 3 < w8.heap.size; omega) (.slice (some ⟨g', 0, none⟩) (j + 1) cap'))
              have HL6 := Lib.hid (hL5.setCell (p := ⟨w.heap.size + 3, 1, none⟩) (by show w.heap.size ≤ w.heap.size + 3; omega) (.slice (some ⟨g', 0, none⟩) (j + 1) cap'))
              have hz7 : w8.heap.size ≤ (w5.setCell ⟨w.heap.size + 3, 1, none⟩ (.slice (some ⟨g', 0, none⟩) (j + 1) cap')).heap.size := by rw [setCell_size]; omega
              rw [← HTK.out] at HR6
              clear HE5 hR5 hk5 hb5 hg5 a0 a1 a2 r0 r1 f0 f1 q2 r1o hzw5 hL5 HKd
              go_wp2
              go_roundw
              case rel => exact ⟨j + 1, some ⟨g', 0, none⟩, cap', by omega, by go_num, HE6, HK6, HR6, hzr, hz7, HL6⟩
              case measure => simp [intOf]; omega
          · have hrv : regF V ts j = runP V (lutA ts j) := by rw [HRF.out, Bool.true_and]
            rw [hrv] at HTK
            clear HRF hrv
            have HTT := Lib.hid (HTAB.out j hlt wr.drew (((HC.out.below HL.out).mono (HL.out.size)).below (Below.refl _ _).drew))
            generalize runP V (lutA ts j) = tv at *
            have HFB : Hid (∀ w' : World, Below wr.heap.size wr.drew w' → (w'.cell? ⟨w.heap.size, 0, none⟩ = some (.slice (some ⟨tb, tf, none⟩) 25 tc) ∧ w'.cell? ⟨w.heap.size, 1, none⟩ = some (.slice (some ⟨pb, po, none⟩) 3 pc) ∧ w'.cell? ⟨w.heap.size + 1, 0, none⟩ = some (.slice RA 25 rc) ∧ w'.cell? ⟨tb, tf + j * 4 + 2, none⟩ = some (.bool true)) ∧ w'.cell? ⟨w.heap.size + 3, 1, none⟩ = some (.slice D j dc) ∧ w'.frozen? ⟨w.heap.size + 3, 1, none⟩ = false ∧ ∀ o, (w'.alloc o).cell? ⟨w.heap.size + 3, 1, none⟩ = some (.slice D j dc)) := Lib.hid (fun w' hb => by
              have h1 : w.heap.size + 3 < w'.heap.size := Nat.lt_of_lt_of_le hHz hb.size
              refine ⟨⟨(hb.cell (p := ⟨w.heap.size, 0, none⟩) (by show w.heap.size < wr.heap.size; omega)).trans a0, (hb.cell (p := ⟨w.heap.size, 1, none⟩) (by show w.heap.size < wr.heap.size; omega)).trans a1, (hb.cell (p := ⟨w.heap.size + 1, 0, none⟩) (by show w.heap.size + 1 < wr.heap.size; omega)).trans a2, (hb.cell (p := ⟨tb, tf + j * 4 + 2, none⟩) (by show tb < wr.heap.size; omega)).trans q2⟩, (hb.cell (p := ⟨w.heap.size + 3, 1, none⟩) hHz).trans r1, ?_, fun o => (World.cell?_alloc_lt w' o ⟨w.heap.size + 3, 1, none⟩ h1).trans ((hb.cell (p := ⟨w.heap.size + 3, 1, none⟩) hHz).trans r1)⟩
              exact (World.frozen?_of_block (a := ⟨w.heap.size + 3, 1, none⟩) (hb.block _ hHz)).trans f1)
            have HFC : Hid (∀ w3 w5 : World, (w3.cell? ⟨w.heap.size, 0, none⟩ = some (.slice (some ⟨tb, tf, none⟩) 25 tc) ∧ w3.cell? ⟨w.heap.size, 1, none⟩ = some (.slice (some ⟨pb, po, none⟩) 3 pc) ∧ w3.cell? ⟨w.heap.size + 1, 0, none⟩ = some (.slice RA 25 rc) ∧ w3.cell? ⟨tb, tf + j * 4 + 2, none⟩ = some (.bool true)) → BlAt w3 w8.heap.size ((regsF V ts).take j) D dc → wr.heap.size ≤ w3.heap.size → (∀ b, b < w3.heap.size → NotB D b → w5.heap[b]? = w3.heap[b]?) → w5.cell? ⟨w.heap.size, 0, none⟩ = some (.slice (some ⟨tb, tf, none⟩) 25 tc) ∧ w5.cell? ⟨w.heap.size, 1, none⟩ = some (.slice (some ⟨pb, po, none⟩) 3 pc) ∧ w5.cell? ⟨w.heap.size + 1, 0, none⟩ = some (.slice RA 25 rc) ∧ w5.cell? ⟨tb, tf + j * 4 + 2, none⟩ = some (.bool true)) := Lib.hid (fun w3 w5 hS hR hz hk => by
              have key : ∀ b, b < w8.heap.size → w5.heap[b]? = w3.heap[b]? := fun b hb => hk b (by omega) (fun e => absurd (hR.ltA _ e).1 (by omega))
              exact ⟨(World.cell?_of_block (a := ⟨w.heap.size, 0, none⟩) (key _ (by show w.heap.size < w8.heap.size; omega))).trans hS.1, (World.cell?_of_block (a := ⟨w.heap.size, 1, none⟩) (key _ (by show w.heap.size < w8.heap.size; omega))).trans hS.2.1, (World.cell?_of_block (a := ⟨w.heap.size + 1, 0, none⟩) (key _ (by show w.heap.size + 1 < w8.heap.size; omega))).trans hS.2.2.1, (World.cell?_of_block (a := ⟨tb, tf + j * 4 + 2, none⟩) (key _ (by show tb < w8.heap.size; omega))).trans hS.2.2.2⟩)
            have HFS : Hid (∀ (w5 : World) (u : Value), (w5.cell? ⟨w.heap.size, 0, none⟩ = some (.slice (some ⟨tb, tf, none⟩) 25 tc) ∧ w5.cell? ⟨w.heap.size, 1, none⟩ = some (.slice (some ⟨pb, po, none⟩) 3 pc) ∧ w5.cell? ⟨w.heap.size + 1, 0, none⟩ = some (.slice RA 25 rc) ∧ w5.cell? ⟨tb, tf + j * 4 + 2, none⟩ = some (.bool true)) → (w5.setCell ⟨w.heap.size + 3, 1, none⟩ u).cell? ⟨w.heap.size, 0, none⟩ = some (.slice (some ⟨tb, tf, none⟩) 25 tc) ∧ (w5.setCell ⟨w.heap.size + 3, 1, none⟩ u).cell? ⟨w.heap.size, 1, none⟩ = some (.slice (some ⟨pb, po, none⟩) 3 pc) ∧ (w5.setCell ⟨w.heap.size + 3, 1, none⟩ u).cell? ⟨w.heap.size + 1, 0, none⟩ = some (.slice RA 25 rc) ∧ (w5.setCell ⟨w.heap.size + 3, 1, none⟩ u).cell? ⟨tb, tf + j * 4 + 2, none⟩ = some (.bool true)) := Lib.hid (fun w5 u hS => by
              have key : ∀ b, b ≠ w.heap.size + 3 → (w5.setCell ⟨w.heap.size + 3, 1, none⟩ u).heap[b]? = w5.heap[b]? := fun b hb => Below.heap_setCell _ _ _ _ hb
              exact ⟨(World.cell?_of_block (a := ⟨w.heap.size, 0, none⟩) (key _ (by show w.heap.size ≠ w.heap.size + 3; omega))).trans hS.1, (World.cell?_of_block (a := ⟨w.heap.size, 1, none⟩) (key _ (by show w.heap.size ≠ w.heap.size + 3; omega))).trans hS.2.1, (World.cell?_of_block (a := ⟨w.heap.size + 1, 0, none⟩) (key _ (by show w.heap.size + 1 ≠ w.heap.size + 3; omega))).trans hS.2.2.1, (World.cell?_of_block (a := ⟨tb, tf + j * 4 + 2, none⟩) (key _ (by show tb ≠ w.heap.size + 3; omega))).trans hS.2.2.2⟩)
            go_upto_region 11 with fail
            rw [lateLd_of 45 (.tmp 51)]
            go_region_held3 (fun w' => w'.cell? ⟨w.heap.size, 0, none⟩ = some (.slice (some ⟨tb, tf, none⟩) 25 tc) ∧ w'.cell? ⟨w.heap.size, 1, none⟩ = some (.slice (some ⟨pb, po, none⟩) 3 pc) ∧ w'.cell? ⟨w.heap.size + 1, 0, none⟩ = some (.slice RA 25 rc) ∧ w'.cell? ⟨tb, tf + j * 4 + 2, none⟩ = some (.bool true))
              (first | (with_reducible assumption) | (exact ⟨a0, a1, a2, q2⟩) | (exact hS3) | (exact hS5) | (exact HFS.out w5 _ hS5) | go_keep)
              (first
                | (go_at_call 109; go_fit HTT.out; rintro e w3 ⟨rfl, hb3⟩; obtain ⟨hS3, c3, f3, c3o⟩ := HFB.out w3 hb3; have HR3 := Lib.hid (HRd.out.on hb3); have hz3 : wr.heap.size ≤ w3.heap.size := hb3.size)
                | (refine step_pushBl (by rfl) _ _ (by rfl) w3 w8.heap.size dc j D ((regsF V ts).take j) (by rfl) HLR.out HR3.out (by omega) (by omega) _ (by rfl) ?_; intro g' cap' w5 hR5 hb5 hk5 hg5; have hS5 := HFC.out w3 w5 hS3 HR3.out hz3 hk5; have c5 := (World.cell?_of_block (a := ⟨w.heap.size + 3, 1, none⟩) (hk5 _ (Nat.lt_of_lt_of_le hHz hz3) hnD.out)).trans c3; have f5 := (World.frozen?_of_block (a := ⟨w.heap.size + 3, 1, none⟩) (hk5 _ (Nat.lt_of_lt_of_le hHz hz3) hnD.out)).trans f3))
            all_goals
              have HKd : Hid (∀ b, w.heap.size + 4 ≤ b → b < w8.heap.size → w3.heap[b]? = w8.heap[b]?) := Lib.hid (fun b h1 h2 => (hb3.block b (by show b < wr.heap.size; omega)).trans (HK.out b h1 h2))
              have HB3 := Lib.hid (HB.out.on (wr' := w3) (fun b hb => hb3.block b (by show b < wr.heap.size; omega)))
              have hzw5 : wr.heap.size ≤ w5.heap.size := Nat.le_trans hz3 hb5.size
              have hL5 : Below w.heap.size w w5 := HL.out.trans ((((Below.refl wr.heap.size wr).drew.trans hb3).mono (by omega)).trans (hb5.mono (by omega)))
              have HRo := HR
              clear HR
              have HR := HR3
              clear hb3 hS3 hS5 c3 f3 c3o c5 f5
              rename_i _hheld
              clear _hheld
              have HE5 := Lib.hid (HB3.out.on (wr' := w5) (fun b hb => hk5 b (by show b < w3.heap.size; omega) (fun e => absurd (HR.out.ltA _ e).1 (by omega))))
              have HE6 := Lib.hid (HE5.out.set2 (some ⟨g', 0, none⟩) (j + 1) cap')
              have HK6 : Hid (∀ b, w.heap.size + 4 ≤ b → b < w8.heap.size → (w5.setCell ⟨w.heap.size + 3, 1, none⟩ (.slice (some ⟨g', 0, none⟩) (j + 1) cap')).heap[b]? = w8.heap[b]?) := Lib.hid (fun b h1 h2 => (Below.heap_setCell _ _ _ _ (by show b ≠ w.heap.size + 3; omega)).trans ((hk5 b (by show b < w3.heap.size; omega) (fun e => absurd (HR.out.ltA _ e).1 (by omega))).trans (HKd.out b h1 h2)))
              have hz5 : wr.heap.size ≤ w5.heap.size := hzw5
              have HR6 := Lib.hid (hR5.set ⟨w.heap.size + 3, 1, none⟩ (by show w.heap.size + 3 < w8.heap.size; omega) (.slice (some ⟨g', 0, none⟩) (j + 1) cap'))
              have HL6 := Lib.hid (hL5.setCell (p := ⟨w.heap.size + 3, 1, none⟩) (by show w.heap.size ≤ w.heap.size + 3; omega) (.slice (some ⟨g', 0, none⟩) (j + 1) cap'))
              have hz7 : w8.heap.size ≤ (w5.setCell ⟨w.heap.size + 3, 1, none⟩ (.slice (some ⟨g', 0, none⟩) (j + 1) cap')).heap.size := by rw [setCell_size]; omega
              rw [← HTK.out] at HR6
              clear HE5 hR5 hk5 hb5 hg5 a0 a1 a2 r0 r1 f0 f1 q2 r1o hzw5 hL5 HKd
              go_wp2
              go_roundw
              case rel => exact ⟨j + 1, some ⟨g', 0, none⟩, cap', by omega, by go_num, HE6, HK6, HR6, hzr, hz7, HL6⟩
              case measure => simp [intOf]; omega
        · obtain rfl : j = 25 := by omega
          have hAll : (regsF V ts).take 25 = regsF V ts := List.take_of_length_le (by rw [regsF_len]; exact Nat.le_refl _)
          have HR8 : Hid (BlAt wr w8.heap.size (regsF V ts) D dc) := Lib.hid (by have h := HR.out; rw [hAll] at h; exact h)
          have HO9 : Hid (BlAt wr (w.heap.size + 4) (outsF V ps) A ac) := Lib.hid (HO8.out.keep (fun b h1 h2 _ => HK.out b h1 h2))
          clear HR hAll HLR HK a0 a1 a2
          go_wp2
          refine bodyPost_ret (v := .agg #[.slice A 3 ac, .slice D 25 dc]) (by simp [results, Try.results72, go_sem, s0, s1]) rfl ⟨A, D, ac, dc, by rw [outsF_len, regsF_len], ?_, ?_, (HL.out.setCell (p := ⟨w.heap.size + 2, 0, none⟩) (by show w.heap.size ≤ w.heap.size + 2; omega) _).setCell (p := ⟨w.heap.size + 2, 1, none⟩) (by show w.heap.size ≤ w.heap.size + 2; omega) _⟩
          · exact ((HO9.out.set ⟨w.heap.size + 2, 0, none⟩ (by show w.heap.size + 2 < w.heap.size + 4; omega) _).set ⟨w.heap.size + 2, 1, none⟩ (by show w.heap.size + 2 < w.heap.size + 4; omega) _).low (by omega)
          · exact ((HR8.out.set ⟨w.heap.size + 2, 0, none⟩ (by show w.heap.size + 2 < w8.heap.size; omega) _).set ⟨w.heap.size + 2, 1, none⟩ (by show w.heap.size + 2 < w8.heap.size; omega) _).low (by omega)
end Go.Proofs.Ytdadokcodklfgaa
