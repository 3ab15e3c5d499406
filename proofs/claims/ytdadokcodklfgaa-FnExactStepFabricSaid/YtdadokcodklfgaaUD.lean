/- The law FnExactStepFabric walked. -/
import Derived.Test.YtdadokcodklfgaaUA
import Derived.Deep.RegionHeld3
namespace Go.Proofs.Ytdadokcodklfgaa
open Go.RowKit Go.Deep Cut Fz

theorem lensT_le {ts : List Tl} {n : Nat} (h : TlBd ts) (hn : ts.length = n) : ∀ j, j < 2 * n → (lensT ts).getD j 0 ≤ 2000000 := fun j hj => by
  rw [lensT_get ts (by omega)]
  have h1 := h.2 (j / 2) (by omega)
  by_cases e : j % 2 = 0
  · rw [if_pos e]; exact h1.1
  · rw [if_neg e]; exact h1.2
set_option maxRecDepth 10000 in
set_option maxHeartbeats 6400000 in
theorem xstepf_walk (TA PA RA IA : Option Addr) (n tc m pc nr rc ni ic : Nat) (ts : List Tl) (ps : List Pd) (rs ins : List Bool) (w : World) (hx : TlIn w w.heap.size TA ts) (hy : PdIn w w.heap.size PA ps) (hn : ts.length = n) (hm : ps.length = m) (hnl : n ≤ maxLen) (hr : ∀ k, k < n → (ts.getD k tl0).2.1.length ≤ maxLen ∧ (ts.getD k tl0).2.2.2.length ≤ maxLen) (hml : m ≤ maxLen) (hs : BoolsAt w w.heap.size RA rs) (hnr : rs.length = nr) (hrl : nr ≤ maxLen) (hi : BoolsAt w w.heap.size IA ins) (hni : ins.length = ni) (hil : ni ≤ maxLen) :
    Calls Try.prog 6 #[cfv TA n tc PA m pc, .agg #[.slice RA nr rc], .slice IA ni ic] w fun e w' => e = .returned (.bool true) ∧ Below w.heap.size w w' := by
  obtain ⟨w0, hw0, hr0, hq0, hl0, hz0⟩ := two_boxesL w (.slice TA n tc) (.slice PA m pc) (.slice RA nr rc)
  obtain ⟨N, hN⟩ := fuel_ex ts ps
  have HFU := Lib.hid hN
  have HL0 := Lib.hid hl0
  have HR0 := Lib.hid hr0
  have HQ0 := Lib.hid hq0
  have HSZ := Lib.hid (szConfigT_any TA PA n m tc pc ts 1048576 _ ((hx.below hl0).mono hl0.size) hn (by omega) (by omega) hnl hr hml)
  have HX := Lib.hid hx
  have HY := Lib.hid hy
  have HN := Lib.hid hn
  have HM := Lib.hid hm
  have HS := Lib.hid hs
  have HI := Lib.hid hi
  have HNR := Lib.hid hnr
  have HNI := Lib.hid hni
  have q0 := hr0.cell 0
  have q1 := hr0.cell 1
  have t0 := hq0.cell 0
  simp at q0 q1 t0
  clear hx hy hn hm hs hi hnr hni hN hl0 hr0 hq0 hr hnl hml
  unfold maxLen at hil
  by_cases hbig : 1048576 < ni
  · clear q0 q1 t0
    go_enter Try.func6, Try.ntmps6
    go_upto_region 1 with fail
    change Code.wp _ _ _ _ ((w.alloc (.cells #[.slice TA n tc, .slice PA m pc] 44)).alloc (.cells #[.slice RA nr rc] 47))
    rw [← hw0]
    clear hw0
    go_wp2
    go_ret
    exact ⟨rfl, HL0.out⟩
  go_enter Try.func6, Try.ntmps6
  go_upto_region 1 with fail
  change Code.wp _ _ _ _ ((w.alloc (.cells #[.slice TA n tc, .slice PA m pc] 44)).alloc (.cells #[.slice RA nr rc] 47))
  rw [← hw0]
  clear hw0
  go_wp2_with fail
  refine HSZ.out.mono ?_
  rintro e w1 ⟨⟨z, rfl, hz⟩, hb1⟩
  clear HSZ q0 q1 t0
  have HL1 := Lib.hid (HL0.out.trans (hb1.mono HL0.out.size))
  have HR1 := Lib.hid (HR0.out.below hb1 HR0.out.lt)
  have HQ1 := Lib.hid (HQ0.out.below hb1 HQ0.out.lt)
  clear hb1 HL0 HR0 HQ0
  rcases hz with rfl | ⟨y0, y1, ⟨⟨y2, y3⟩, y4⟩, y5⟩
  · go_wp2
    go_ret
    exact ⟨rfl, HL1.out⟩
  have HTB : Hid (TlBd ts) := Lib.hid ⟨by have := y2; omega, fun k hk => by have := y3 k (by rw [← HN.out]; exact hk); omega⟩
  have hm2 : m ≤ 2000000 := by omega
  have hn1 := HN.out
  have hn2 : n ≤ 1048576 := by omega
  have HTOT : Hid (1 + ofT 1 (lensT ts) (2 * ts.length) ≤ 50000000) := Lib.hid (by rw [ofT_tot ts _ (Nat.le_refl _)]; have := HN.out; rw [this]; omega)
  clear y2 y3 y5 hn1
  have t0 := HQ1.out.cell 0
  simp at t0
  go_wp2_with fail
  refine (szFst_any RA nr rc z _ y0 y1 hrl).mono ?_
  rintro e w2 ⟨⟨z2, rfl, hz2⟩, hb2⟩
  clear t0
  have HL2 := Lib.hid (HL1.out.trans (hb2.mono HL1.out.size))
  have HR2 := Lib.hid (HR1.out.below hb2 HR1.out.lt)
  have HQ2 := Lib.hid (HQ1.out.below hb2 HQ1.out.lt)
  clear hb2 HL1 HR1 HQ1
  rcases hz2 with rfl | ⟨y6, hr2'⟩
  · go_wp2
    go_ret
    exact ⟨rfl, HL2.out⟩
  have hr2 : nr ≤ 2000000 := by omega
  have hi2 : ni ≤ 2000000 := by omega
  clear hrl hil
  obtain ⟨eo, heo⟩ : ∃ eo, eo = sel (stOk ts ps rs ins) (outsF (valF ts N rs ins) ps) := ⟨_, rfl⟩
  obtain ⟨en, hen⟩ : ∃ en, en = sel (stOk ts ps rs ins) (regsF (valF ts N rs ins) ts) := ⟨_, rfl⟩
  obtain ⟨no, hno⟩ : ∃ no, eo.length = no := ⟨_, rfl⟩
  obtain ⟨nn, hnn⟩ : ∃ nn, en.length = nn := ⟨_, rfl⟩
  have hno3 : no ≤ 3 := by have := sel_le (stOk ts ps rs ins) (outsF (valF ts N rs ins) ps); rw [outsF_len, ← heo, hno] at this; exact this
  have hnn3 : nn ≤ 25 := by have := sel_le (stOk ts ps rs ins) (regsF (valF ts N rs ins) ts); rw [regsF_len, ← hen, hnn] at this; exact this
  have HEO := Lib.hid heo
  have HEN := Lib.hid hen
  have HNO := Lib.hid hno
  have HNN := Lib.hid hnn
  clear heo hen hno hnn
  have q0 := HR2.out.cell 0
  have q1 := HR2.out.cell 1
  simp at q0 q1
  have t0 := HQ2.out.cell 0
  simp at t0
  have hrz := HR2.out.lt
  have hqz := HQ2.out.lt
  go_upto_region 10 with fail
  go_cut [8] (fun pv wx => ∃ (wz : World) (cw : Nat) (A1 A2 : Option Addr) (c1 c2 : Nat), wz = wx ∧ pv = .pointer (some ⟨cw, 0, none⟩) ∧ w2.heap.size ≤ cw ∧ Hid (Row wx cw 52 #[.slice A1 no c1, .slice A2 nn c2]) ∧ Hid (BoolsAt wx wx.heap.size A1 eo) ∧ Hid (BoolsAt wx wx.heap.size A2 en) ∧ Hid (Below w2.heap.size w2 wx))
  case first =>
    have hSF : ∀ w', Below w2.heap.size w2 w' → ((w'.cell? ⟨w.heap.size, 0, none⟩ = some (.slice TA n tc) ∧ w'.cell? ⟨w.heap.size, 1, none⟩ = some (.slice PA m pc)) ∧ w'.cell? ⟨w.heap.size + 1, 0, none⟩ = some (.slice RA nr rc)) := fun w' hb => ⟨⟨(hb.cell (show w.heap.size < w2.heap.size by omega)).trans q0, (hb.cell (show w.heap.size < w2.heap.size by omega)).trans q1⟩, (hb.cell (show w.heap.size + 1 < w2.heap.size by omega)).trans t0⟩
    have HSF := Lib.hid hSF
    clear hSF
    have hB0 : Below w2.heap.size w2 w2.drew := (Below.refl _ _).drew
    refine wp_region_held_drew (S := fun w' => ((w'.cell? ⟨w.heap.size, 0, none⟩ = some (.slice TA n tc) ∧ w'.cell? ⟨w.heap.size, 1, none⟩ = some (.slice PA m pc)) ∧ w'.cell? ⟨w.heap.size + 1, 0, none⟩ = some (.slice RA nr rc))) (by kernel_rfl) (HSF.out _ hB0) (fun hHeld => ?_)
    generalize w2.drew = v0 at *
    refine wpAnyH_take (i := 0) (v := ?_) rfl (by kernel_rfl) (by kernel_rfl) (by kernel_rfl) (fun _ _ _ h => h) (Or.inl ⟨by rfl, ?_⟩) (by assumption) ?_
    rotate_left
    · (intro w hSw; (try dsimp only at hSw); go_simp; try with_reducible rfl)
    simp only [Act.put, List.setIfInBounds_toArray]
    refine wpAnyH_take (i := 2) (v := ?_) rfl (by kernel_rfl) (by kernel_rfl) (by kernel_rfl) (fun _ _ _ h => h) (Or.inl ⟨by rfl, ?_⟩) (by assumption) ?_
    rotate_left
    · (intro w hSw; (try dsimp only at hSw); go_simp; try with_reducible rfl)
    simp only [Act.put]
    refine wpAnyH_take (i := 4) (v := ?_) rfl (by kernel_rfl) (by kernel_rfl) (by kernel_rfl) (fun _ _ _ h => h) (Or.inl ⟨by rfl, ?_⟩) (by assumption) ?_
    rotate_left
    · (intro w hSw; (try dsimp only at hSw); go_simp; try with_reducible rfl)
    simp only [Act.put]
    clear hHeld
    have hz0v := hB0.size
    refine wpAnyH_ready (rs := [1, 7]) (by kernel_rfl) (by simp) ?_
    refine AllReadyH.cons rfl (fun K hK => ?_) (AllReadyH.cons rfl (fun K hK => ?_) AllReadyH.nil)
    · go_simp
      have hLv0 := HL2.out.trans (hB0.mono HL2.out.size)
      go_wp2_with (go_at_call 25; refine (toConfig_any TA PA n tc m pc ts ps v0 ((HX.out.below hLv0).mono hLv0.size) ((HY.out.below hLv0).mono hLv0.size) HN.out HM.out HTB.out hm2).mono ?_; rintro e v1 ⟨g1, p1, h1, rfl, hc1, _, hb1⟩)
      have hB1 := hB0.trans (hb1.mono hB0.size)
      refine hK.out _ _ (by exact HSF.out _ hB1) (fun hHeld => ?_)
      clear hK K hHeld
      have hz1v := hb1.size
      refine wpAnyH_ready (rs := [3, 7]) (by kernel_rfl) (by simp) ?_
      refine AllReadyH.cons rfl (fun K hK => ?_) (AllReadyH.cons rfl (fun K hK => ?_) AllReadyH.nil)
      · go_simp
        have hLv1 := HL2.out.trans (hB1.mono HL2.out.size)
        go_wp2_with (go_at_call 26; refine (toFst_any RA nr rc rs v1 ((HS.out.below hLv1).mono hLv1.size) HNR.out hr2).mono ?_; rintro e v2 ⟨s2, rfl, _, hs2, hb2⟩)
        have hB2 := hB1.trans (hb2.mono hB1.size)
        refine hK.out _ _ (by exact HSF.out _ hB2) (fun hHeld => ?_)
        clear hK K hHeld
        have hz2v := hb2.size
        have cf2 := hc1.on hb2
        refine wpAnyH_ready (rs := [5, 7]) (by kernel_rfl) (by simp) ?_
        refine AllReadyH.cons rfl (fun K hK => ?_) (AllReadyH.cons rfl (fun K hK => ?_) AllReadyH.nil)
        · go_simp
          have hLv2 := HL2.out.trans (hB2.mono HL2.out.size)
          go_wp2_with (go_at_call 27; refine (toBl_any IA ni ic ins v2 ((HI.out.below hLv2).mono hLv2.size) HNI.out hi2).mono ?_; rintro e v3 ⟨i3, rfl, _, hi3, hb3⟩)
          have hB3 := hB2.trans (hb3.mono hB2.size)
          refine hK.out _ _ (by exact HSF.out _ hB3) (fun hHeld => ?_)
          clear hK K hHeld
          have hz3v := hb3.size
          have cf3 := cf2.on hb3
          have sf3 := hs2.on hb3
          refine wpAnyH_ready (rs := [6, 7]) (by kernel_rfl) (by simp) ?_
          refine AllReadyH.cons rfl (fun K hK => ?_) (AllReadyH.cons rfl (fun K hK => ?_) AllReadyH.nil)
          · go_simp
            have hLv3 := HL2.out.trans (hB3.mono HL2.out.size)
            go_wp2_with (go_at_call 24; refine (sstepS_any _ _ _ _ n n m m nr nr ni ni N no nn ts ps rs ins eo en v3 HEO.out HEN.out HNO.out HNN.out HFU.out cf3.tl.read cf3.pd.read sf3.bools hi3.bools HN.out HM.out HNR.out HNI.out).mono ?_; rintro e v4 ⟨A14, A24, c14, c24, rfl, hx4, hy4, hb4⟩)
            have hB4 := hB3.trans (hb4.mono hB3.size)
            refine hK.out _ _ (by exact HSF.out _ hB4) (fun hHeld => ?_)
            clear hK K hHeld
            have hz4v := hb4.size
            have cf4 := cf3.on hb4
            have sf4 := sf3.on hb4
            have bi4 := hi3.on hb4
            refine wpAnyH_ready (rs := [7]) (by kernel_rfl) (by simp) ?_
            refine AllReadyH.cons rfl (fun K hK => ?_) AllReadyH.nil
            · go_simp
              obtain ⟨v5, hW5⟩ : ∃ v5, v5 = World.alloc v4 (.cells #[.slice none 0 0, .slice none 0 0] 52) := ⟨_, rfl⟩
              have hb5 : Below (World.heap v4).size v4 v5 := by rw [hW5]; exact (Below.refl _ _).alloc (Nat.le_refl _) _
              have bt5 : Row v5 (World.heap v4).size 52 #[.slice none 0 0, .slice none 0 0] := by rw [hW5]; exact row_new v4 _ _
              rw [← hW5]
              clear hW5
              have hB5 := hB4.trans (hb5.mono hB4.size)
              refine hK.out _ _ (by exact HSF.out _ hB5) (fun hHeld => ?_)
              clear hK K hHeld
              have hz5v := hb5.size
              have cf5 := cf4.on hb5
              have sf5 := sf4.on hb5
              have bi5 := bi4.on hb5
              refine wpAnyH_ready (rs := [8]) (by kernel_rfl) (by simp) ?_
              refine AllReadyH.cons rfl (fun K hK => ?_) AllReadyH.nil
              · have b0 := bt5.cell 0
                have b1 := bt5.cell 1
                have f0 := bt5.frozen 0
                have f1 := bt5.frozen 1
                simp at b0 b1
                go_simp
                have hBF := (hB5.setCell (p := ⟨(World.heap v4).size, 0, none⟩) (show w2.heap.size ≤ (World.heap v4).size by omega) (.slice A14 no c14)).setCell (p := ⟨(World.heap v4).size, 1, none⟩) (show w2.heap.size ≤ (World.heap v4).size by omega) (.slice A24 nn c24)
                refine hK.out _ _ (by exact HSF.out _ hBF) (fun hHeld => ?_)
                clear hK K hHeld
                refine wpAnyH_done (by kernel_rfl) ?_ _
                go_wp2_with fail
                go_meet
                have hrs := (bt5.set 0 (.slice A14 no c14)).set 1 (.slice A24 nn c24)
                have hbF := (hb5.setCell (p := ⟨(World.heap v4).size, 0, none⟩) (show (World.heap v4).size ≤ (World.heap v4).size from Nat.le_refl _) (.slice A14 no c14)).setCell (p := ⟨(World.heap v4).size, 1, none⟩) (show (World.heap v4).size ≤ (World.heap v4).size from Nat.le_refl _) (.slice A24 nn c24)
                have hx1 := hx4.bools.on hbF
                have hx2 := hy4.bools.on hbF
                exact ⟨_, (World.heap v4).size, A14, A24, c14, c24, rfl, rfl, by omega, Lib.hid hrs, Lib.hid hx1, Lib.hid hx2, Lib.hid hBF⟩
          · go_simp
            obtain ⟨v7, hW7⟩ : ∃ v7, v7 = World.alloc v3 (.cells #[.slice none 0 0, .slice none 0 0] 52) := ⟨_, rfl⟩
            have hb7 : Below (World.heap v3).size v3 v7 := by rw [hW7]; exact (Below.refl _ _).alloc (Nat.le_refl _) _
            have bt7 : Row v7 (World.heap v3).size 52 #[.slice none 0 0, .slice none 0 0] := by rw [hW7]; exact row_new v3 _ _
            rw [← hW7]
            clear hW7
            have hB7 := hB3.trans (hb7.mono hB3.size)
            refine hK.out _ _ (by exact HSF.out _ hB7) (fun hHeld => ?_)
            clear hK K hHeld
            have hz7v := hb7.size
            have cf7 := cf3.on hb7
            have sf7 := sf3.on hb7
            have bi7 := hi3.on hb7
            refine wpAnyH_ready (rs := [6]) (by kernel_rfl) (by simp) ?_
            refine AllReadyH.cons rfl (fun K hK => ?_) AllReadyH.nil
            · go_simp
              have hLv7 := HL2.out.trans (hB7.mono HL2.out.size)
              go_wp2_with (go_at_call 24; refine (sstepS_any _ _ _ _ n n m m nr nr ni ni N no nn ts ps rs ins eo en v7 HEO.out HEN.out HNO.out HNN.out HFU.out cf7.tl.read cf7.pd.read sf7.bools bi7.bools HN.out HM.out HNR.out HNI.out).mono ?_; rintro e v8 ⟨A18, A28, c18, c28, rfl, hx8, hy8, hb8⟩)
              have hB8 := hB7.trans (hb8.mono hB7.size)
              refine hK.out _ _ (by exact HSF.out _ hB8) (fun hHeld => ?_)
              clear hK K hHeld
              have hz8v := hb8.size
              have cf8 := cf7.on hb8
              have sf8 := sf7.on hb8
              have bi8 := bi7.on hb8
              have bq8 := bt7.lt
              have bt8 := bt7.below hb8 bt7.lt
              refine wpAnyH_ready (rs := [8]) (by kernel_rfl) (by simp) ?_
              refine AllReadyH.cons rfl (fun K hK => ?_) AllReadyH.nil
              · have b0 := bt8.cell 0
                have b1 := bt8.cell 1
                have f0 := bt8.frozen 0
                have f1 := bt8.frozen 1
                simp at b0 b1
                go_simp
                have hBF := (hB8.setCell (p := ⟨(World.heap v3).size, 0, none⟩) (show w2.heap.size ≤ (World.heap v3).size by omega) (.slice A18 no c18)).setCell (p := ⟨(World.heap v3).size, 1, none⟩) (show w2.heap.size ≤ (World.heap v3).size by omega) (.slice A28 nn c28)
                refine hK.out _ _ (by exact HSF.out _ hBF) (fun hHeld => ?_)
                clear hK K hHeld
                refine wpAnyH_done (by kernel_rfl) ?_ _
                go_wp2_with fail
                go_meet
                have hrs := (bt8.set 0 (.slice A18 no c18)).set 1 (.slice A28 nn c28)
                have hx1 := ((hx8.set ⟨(World.heap v3).size, 0, none⟩ (by show (World.heap v3).size < _; omega) (.slice A18 no c18)).set ⟨(World.heap v3).size, 1, none⟩ (by show (World.heap v3).size < _; omega) (.slice A28 nn c28)).bools
                have hx2 := ((hy8.set ⟨(World.heap v3).size, 0, none⟩ (by show (World.heap v3).size < _; omega) (.slice A18 no c18)).set ⟨(World.heap v3).size, 1, none⟩ (by show (World.heap v3).size < _; omega) (.slice A28 nn c28)).bools
                exact ⟨_, (World.heap v3).size, A18, A28, c18, c28, rfl, rfl, by omega, Lib.hid hrs, Lib.hid hx1, Lib.hid hx2, Lib.hid hBF⟩
        · go_simp
          obtain ⟨v10, hW10⟩ : ∃ v10, v10 = World.alloc v2 (.cells #[.slice none 0 0, .slice none 0 0] 52) := ⟨_, rfl⟩
          have hb10 : Below (World.heap v2).size v2 v10 := by rw [hW10]; exact (Below.refl _ _).alloc (Nat.le_refl _) _
          have bt10 : Row v10 (World.heap v2).size 52 #[.slice none 0 0, .slice none 0 0] := by rw [hW10]; exact row_new v2 _ _
          rw [← hW10]
          clear hW10
          have hB10 := hB2.trans (hb10.mono hB2.size)
          refine hK.out _ _ (by exact HSF.out _ hB10) (fun hHeld => ?_)
          clear hK K hHeld
          have hz10v := hb10.size
          have cf10 := cf2.on hb10
          have sf10 := hs2.on hb10
          refine wpAnyH_ready (rs := [5]) (by kernel_rfl) (by simp) ?_
          refine AllReadyH.cons rfl (fun K hK => ?_) AllReadyH.nil
          · go_simp
            have hLv10 := HL2.out.trans (hB10.mono HL2.out.size)
            go_wp2_with (go_at_call 27; refine (toBl_any IA ni ic ins v10 ((HI.out.below hLv10).mono hLv10.size) HNI.out hi2).mono ?_; rintro e v11 ⟨i11, rfl, _, hi11, hb11⟩)
            have hB11 := hB10.trans (hb11.mono hB10.size)
            refine hK.out _ _ (by exact HSF.out _ hB11) (fun hHeld => ?_)
            clear hK K hHeld
            have hz11v := hb11.size
            have cf11 := cf10.on hb11
            have sf11 := sf10.on hb11
            have bq11 := bt10.lt
            have bt11 := bt10.below hb11 bt10.lt
            refine wpAnyH_ready (rs := [6]) (by kernel_rfl) (by simp) ?_
            refine AllReadyH.cons rfl (fun K hK => ?_) AllReadyH.nil
            · go_simp
              have hLv11 := HL2.out.trans (hB11.mono HL2.out.size)
              go_wp2_with (go_at_call 24; refine (sstepS_any _ _ _ _ n n m m nr nr ni ni N no nn ts ps rs ins eo en v11 HEO.out HEN.out HNO.out HNN.out HFU.out cf11.tl.read cf11.pd.read sf11.bools hi11.bools HN.out HM.out HNR.out HNI.out).mono ?_; rintro e v12 ⟨A112, A212, c112, c212, rfl, hx12, hy12, hb12⟩)
              have hB12 := hB11.trans (hb12.mono hB11.size)
              refine hK.out _ _ (by exact HSF.out _ hB12) (fun hHeld => ?_)
              clear hK K hHeld
              have hz12v := hb12.size
              have cf12 := cf11.on hb12
              have sf12 := sf11.on hb12
              have bi12 := hi11.on hb12
              have bq12 := bt11.lt
              have bt12 := bt11.below hb12 bt11.lt
              refine wpAnyH_ready (rs := [8]) (by kernel_rfl) (by simp) ?_
              refine AllReadyH.cons rfl (fun K hK => ?_) AllReadyH.nil
              · have b0 := bt12.cell 0
                have b1 := bt12.cell 1
                have f0 := bt12.frozen 0
                have f1 := bt12.frozen 1
                simp at b0 b1
                go_simp
                have hBF := (hB12.setCell (p := ⟨(World.heap v2).size, 0, none⟩) (show w2.heap.size ≤ (World.heap v2).size by omega) (.slice A112 no c112)).setCell (p := ⟨(World.heap v2).size, 1, none⟩) (show w2.heap.size ≤ (World.heap v2).size by omega) (.slice A212 nn c212)
                refine hK.out _ _ (by exact HSF.out _ hBF) (fun hHeld => ?_)
                clear hK K hHeld
                refine wpAnyH_done (by kernel_rfl) ?_ _
                go_wp2_with fail
                go_meet
                have hrs := (bt12.set 0 (.slice A112 no c112)).set 1 (.slice A212 nn c212)
                have hx1 := ((hx12.set ⟨(World.heap v2).size, 0, none⟩ (by show (World.heap v2).size < _; omega) (.slice A112 no c112)).set ⟨(World.heap v2).size, 1, none⟩ (by show (World.heap v2).size < _; omega) (.slice A212 nn c212)).bools
                have hx2 := ((hy12.set ⟨(World.heap v2).size, 0, none⟩ (by show (World.heap v2).size < _; omega) (.slice A112 no c112)).set ⟨(World.heap v2).size, 1, none⟩ (by show (World.heap v2).size < _; omega) (.slice A212 nn c212)).bools
                exact ⟨_, (World.heap v2).size, A112, A212, c112, c212, rfl, rfl, by omega, Lib.hid hrs, Lib.hid hx1, Lib.hid hx2, Lib.hid hBF⟩
      · go_simp
        obtain ⟨v14, hW14⟩ : ∃ v14, v14 = World.alloc v1 (.cells #[.slice none 0 0, .slice none 0 0] 52) := ⟨_, rfl⟩
        have hb14 : Below (World.heap v1).size v1 v14 := by rw [hW14]; exact (Below.refl _ _).alloc (Nat.le_refl _) _
        have bt14 : Row v14 (World.heap v1).size 52 #[.slice none 0 0, .slice none 0 0] := by rw [hW14]; exact row_new v1 _ _
        rw [← hW14]
        clear hW14
        have hB14 := hB1.trans (hb14.mono hB1.size)
        refine hK.out _ _ (by exact HSF.out _ hB14) (fun hHeld => ?_)
        clear hK K hHeld
        have hz14v := hb14.size
        have cf14 := hc1.on hb14
        refine wpAnyH_ready (rs := [3]) (by kernel_rfl) (by simp) ?_
        refine AllReadyH.cons rfl (fun K hK => ?_) AllReadyH.nil
        · go_simp
          have hLv14 := HL2.out.trans (hB14.mono HL2.out.size)
          go_wp2_with (go_at_call 26; refine (toFst_any RA nr rc rs v14 ((HS.out.below hLv14).mono hLv14.size) HNR.out hr2).mono ?_; rintro e v15 ⟨s15, rfl, _, hs15, hb15⟩)
          have hB15 := hB14.trans (hb15.mono hB14.size)
          refine hK.out _ _ (by exact HSF.out _ hB15) (fun hHeld => ?_)
          clear hK K hHeld
          have hz15v := hb15.size
          have cf15 := cf14.on hb15
          have bq15 := bt14.lt
          have bt15 := bt14.below hb15 bt14.lt
          refine wpAnyH_ready (rs := [5]) (by kernel_rfl) (by simp) ?_
          refine AllReadyH.cons rfl (fun K hK => ?_) AllReadyH.nil
          · go_simp
            have hLv15 := HL2.out.trans (hB15.mono HL2.out.size)
            go_wp2_with (go_at_call 27; refine (toBl_any IA ni ic ins v15 ((HI.out.below hLv15).mono hLv15.size) HNI.out hi2).mono ?_; rintro e v16 ⟨i16, rfl, _, hi16, hb16⟩)
            have hB16 := hB15.trans (hb16.mono hB15.size)
            refine hK.out _ _ (by exact HSF.out _ hB16) (fun hHeld => ?_)
            clear hK K hHeld
            have hz16v := hb16.size
            have cf16 := cf15.on hb16
            have sf16 := hs15.on hb16
            have bq16 := bt15.lt
            have bt16 := bt15.below hb16 bt15.lt
            refine wpAnyH_ready (rs := [6]) (by kernel_rfl) (by simp) ?_
            refine AllReadyH.cons rfl (fun K hK => ?_) AllReadyH.nil
            · go_simp
              have hLv16 := HL2.out.trans (hB16.mono HL2.out.size)
              go_wp2_with (go_at_call 24; refine (sstepS_any _ _ _ _ n n m m nr nr ni ni N no nn ts ps rs ins eo en v16 HEO.out HEN.out HNO.out HNN.out HFU.out cf16.tl.read cf16.pd.read sf16.bools hi16.bools HN.out HM.out HNR.out HNI.out).mono ?_; rintro e v17 ⟨A117, A217, c117, c217, rfl, hx17, hy17, hb17⟩)
              have hB17 := hB16.trans (hb17.mono hB16.size)
              refine hK.out _ _ (by exact HSF.out _ hB17) (fun hHeld => ?_)
              clear hK K hHeld
              have hz17v := hb17.size
              have cf17 := cf16.on hb17
              have sf17 := sf16.on hb17
              have bi17 := hi16.on hb17
              have bq17 := bt16.lt
              have bt17 := bt16.below hb17 bt16.lt
              refine wpAnyH_ready (rs := [8]) (by kernel_rfl) (by simp) ?_
              refine AllReadyH.cons rfl (fun K hK => ?_) AllReadyH.nil
              · have b0 := bt17.cell 0
                have b1 := bt17.cell 1
                have f0 := bt17.frozen 0
                have f1 := bt17.frozen 1
                simp at b0 b1
                go_simp
                have hBF := (hB17.setCell (p := ⟨(World.heap v1).size, 0, none⟩) (show w2.heap.size ≤ (World.heap v1).size by omega) (.slice A117 no c117)).setCell (p := ⟨(World.heap v1).size, 1, none⟩) (show w2.heap.size ≤ (World.heap v1).size by omega) (.slice A217 nn c217)
                refine hK.out _ _ (by exact HSF.out _ hBF) (fun hHeld => ?_)
                clear hK K hHeld
                refine wpAnyH_done (by kernel_rfl) ?_ _
                go_wp2_with fail
                go_meet
                have hrs := (bt17.set 0 (.slice A117 no c117)).set 1 (.slice A217 nn c217)
                have hx1 := ((hx17.set ⟨(World.heap v1).size, 0, none⟩ (by show (World.heap v1).size < _; omega) (.slice A117 no c117)).set ⟨(World.heap v1).size, 1, none⟩ (by show (World.heap v1).size < _; omega) (.slice A217 nn c217)).bools
                have hx2 := ((hy17.set ⟨(World.heap v1).size, 0, none⟩ (by show (World.heap v1).size < _; omega) (.slice A117 no c117)).set ⟨(World.heap v1).size, 1, none⟩ (by show (World.heap v1).size < _; omega) (.slice A217 nn c217)).bools
                exact ⟨_, (World.heap v1).size, A117, A217, c117, c217, rfl, rfl, by omega, Lib.hid hrs, Lib.hid hx1, Lib.hid hx2, Lib.hid hBF⟩
    · go_simp
      obtain ⟨v19, hW19⟩ : ∃ v19, v19 = World.alloc v0 (.cells #[.slice none 0 0, .slice none 0 0] 52) := ⟨_, rfl⟩
      have hb19 : Below (World.heap v0).size v0 v19 := by rw [hW19]; exact (Below.refl _ _).alloc (Nat.le_refl _) _
      have bt19 : Row v19 (World.heap v0).size 52 #[.slice none 0 0, .slice none 0 0] := by rw [hW19]; exact row_new v0 _ _
      rw [← hW19]
      clear hW19
      have hB19 := hB0.trans (hb19.mono hB0.size)
      refine hK.out _ _ (by exact HSF.out _ hB19) (fun hHeld => ?_)
      clear hK K hHeld
      have hz19v := hb19.size
      refine wpAnyH_ready (rs := [1]) (by kernel_rfl) (by simp) ?_
      refine AllReadyH.cons rfl (fun K hK => ?_) AllReadyH.nil
      · go_simp
        have hLv19 := HL2.out.trans (hB19.mono HL2.out.size)
        go_wp2_with (go_at_call 25; refine (toConfig_any TA PA n tc m pc ts ps v19 ((HX.out.below hLv19).mono hLv19.size) ((HY.out.below hLv19).mono hLv19.size) HN.out HM.out HTB.out hm2).mono ?_; rintro e v20 ⟨g20, p20, h20, rfl, hc20, _, hb20⟩)
        have hB20 := hB19.trans (hb20.mono hB19.size)
        refine hK.out _ _ (by exact HSF.out _ hB20) (fun hHeld => ?_)
        clear hK K hHeld
        have hz20v := hb20.size
        have bq20 := bt19.lt
        have bt20 := bt19.below hb20 bt19.lt
        refine wpAnyH_ready (rs := [3]) (by kernel_rfl) (by simp) ?_
        refine AllReadyH.cons rfl (fun K hK => ?_) AllReadyH.nil
        · go_simp
          have hLv20 := HL2.out.trans (hB20.mono HL2.out.size)
          go_wp2_with (go_at_call 26; refine (toFst_any RA nr rc rs v20 ((HS.out.below hLv20).mono hLv20.size) HNR.out hr2).mono ?_; rintro e v21 ⟨s21, rfl, _, hs21, hb21⟩)
          have hB21 := hB20.trans (hb21.mono hB20.size)
          refine hK.out _ _ (by exact HSF.out _ hB21) (fun hHeld => ?_)
          clear hK K hHeld
          have hz21v := hb21.size
          have cf21 := hc20.on hb21
          have bq21 := bt20.lt
          have bt21 := bt20.below hb21 bt20.lt
          refine wpAnyH_ready (rs := [5]) (by kernel_rfl) (by simp) ?_
          refine AllReadyH.cons rfl (fun K hK => ?_) AllReadyH.nil
          · go_simp
            have hLv21 := HL2.out.trans (hB21.mono HL2.out.size)
            go_wp2_with (go_at_call 27; refine (toBl_any IA ni ic ins v21 ((HI.out.below hLv21).mono hLv21.size) HNI.out hi2).mono ?_; rintro e v22 ⟨i22, rfl, _, hi22, hb22⟩)
            have hB22 := hB21.trans (hb22.mono hB21.size)
            refine hK.out _ _ (by exact HSF.out _ hB22) (fun hHeld => ?_)
            clear hK K hHeld
            have hz22v := hb22.size
            have cf22 := cf21.on hb22
            have sf22 := hs21.on hb22
            have bq22 := bt21.lt
            have bt22 := bt21.below hb22 bt21.lt
            refine wpAnyH_ready (rs := [6]) (by kernel_rfl) (by simp) ?_
            refine AllReadyH.cons rfl (fun K hK => ?_) AllReadyH.nil
            · go_simp
              have hLv22 := HL2.out.trans (hB22.mono HL2.out.size)
              go_wp2_with (go_at_call 24; refine (sstepS_any _ _ _ _ n n m m nr nr ni ni N no nn ts ps rs ins eo en v22 HEO.out HEN.out HNO.out HNN.out HFU.out cf22.tl.read cf22.pd.read sf22.bools hi22.bools HN.out HM.out HNR.out HNI.out).mono ?_; rintro e v23 ⟨A123, A223, c123, c223, rfl, hx23, hy23, hb23⟩)
              have hB23 := hB22.trans (hb23.mono hB22.size)
              refine hK.out _ _ (by exact HSF.out _ hB23) (fun hHeld => ?_)
              clear hK K hHeld
              have hz23v := hb23.size
              have cf23 := cf22.on hb23
              have sf23 := sf22.on hb23
              have bi23 := hi22.on hb23
              have bq23 := bt22.lt
              have bt23 := bt22.below hb23 bt22.lt
              refine wpAnyH_ready (rs := [8]) (by kernel_rfl) (by simp) ?_
              refine AllReadyH.cons rfl (fun K hK => ?_) AllReadyH.nil
              · have b0 := bt23.cell 0
                have b1 := bt23.cell 1
                have f0 := bt23.frozen 0
                have f1 := bt23.frozen 1
                simp at b0 b1
                go_simp
                have hBF := (hB23.setCell (p := ⟨(World.heap v0).size, 0, none⟩) (show w2.heap.size ≤ (World.heap v0).size by omega) (.slice A123 no c123)).setCell (p := ⟨(World.heap v0).size, 1, none⟩) (show w2.heap.size ≤ (World.heap v0).size by omega) (.slice A223 nn c223)
                refine hK.out _ _ (by exact HSF.out _ hBF) (fun hHeld => ?_)
                clear hK K hHeld
                refine wpAnyH_done (by kernel_rfl) ?_ _
                go_wp2_with fail
                go_meet
                have hrs := (bt23.set 0 (.slice A123 no c123)).set 1 (.slice A223 nn c223)
                have hx1 := ((hx23.set ⟨(World.heap v0).size, 0, none⟩ (by show (World.heap v0).size < _; omega) (.slice A123 no c123)).set ⟨(World.heap v0).size, 1, none⟩ (by show (World.heap v0).size < _; omega) (.slice A223 nn c223)).bools
                have hx2 := ((hy23.set ⟨(World.heap v0).size, 0, none⟩ (by show (World.heap v0).size < _; omega) (.slice A123 no c123)).set ⟨(World.heap v0).size, 1, none⟩ (by show (World.heap v0).size < _; omega) (.slice A223 nn c223)).bools
                exact ⟨_, (World.heap v0).size, A123, A223, c123, c223, rfl, rfl, by omega, Lib.hid hrs, Lib.hid hx1, Lib.hid hx2, Lib.hid hBF⟩
  case rest =>
    obtain ⟨w3, cw, A1, A2, c1, c2, hwz, rfl, hcw, HP3, hW3, hU3, hb3⟩ := hcut
    subst hwz
    have hb3 := hb3.out
    have hcz := HP3.out.lt
    obtain ⟨s1, hs1e⟩ : ∃ s1 : Nat, w3.heap.size = s1 := ⟨_, rfl⟩
    rw [hs1e] at hW3 hU3
    have hcs1 : cw < s1 := by omega
    have hqs13 : s1 ≤ w3.heap.size := by omega
    have hws1 : w.heap.size + 1 < cw := by omega
    have HW3 := hW3
    have HU3 := hU3
    clear hW3 hU3 hcz q0 q1 t0 hrz hqz
    have HL3 := Lib.hid (HL2.out.trans (hb3.mono HL2.out.size))
    have HR3 := Lib.hid (HR2.out.below hb3 HR2.out.lt)
    have HQ3 := Lib.hid (HQ2.out.below hb3 HQ2.out.lt)
    clear hb3 HL2 HR2 HQ2
    clear hcw
    have q0 := HR3.out.cell 0
    have q1 := HR3.out.cell 1
    simp at q0 q1
    go_wp2_with fail
    refine (toConfig_any TA PA n tc m pc ts ps _ ((HX.out.below HL3.out).mono HL3.out.size) ((HY.out.below HL3.out).mono HL3.out.size) HN.out HM.out HTB.out hm2).mono ?_
    rintro e w4 ⟨g4, p4, h4, rfl, hc4, hd4, hb4⟩
    rw [hs1e] at hc4
    clear hs1e hd4 q0 q1
    have HG4 := Lib.hid hc4
    clear hc4
    have hqs14 : s1 ≤ w4.heap.size := Nat.le_trans hqs13 hb4.size
    have HL4 := Lib.hid (HL3.out.trans (hb4.mono HL3.out.size))
    have HR4 := Lib.hid (HR3.out.below hb4 HR3.out.lt)
    have HQ4 := Lib.hid (HQ3.out.below hb4 HQ3.out.lt)
    have HP4 := Lib.hid (HP3.out.below hb4 HP3.out.lt)
    have HW4 := Lib.hid (HW3.out.below (hb4.mono (by omega)))
    have HU4 := Lib.hid (HU3.out.below (hb4.mono (by omega)))
    clear hb4 HL3 HR3 HQ3 HP3 HW3 HU3 hqs13
    have hb5 : Below w4.heap.size w4 (w4.alloc (.cells #[.slice (some ⟨g4, 0, none⟩) n n, .slice (some ⟨p4, 0, none⟩) m m] 26)) := (Below.refl _ _).alloc (Nat.le_refl _) _
    have HB5 : Hid (Row (w4.alloc (.cells #[.slice (some ⟨g4, 0, none⟩) n n, .slice (some ⟨p4, 0, none⟩) m m] 26)) w4.heap.size 26 #[.slice (some ⟨g4, 0, none⟩) n n, .slice (some ⟨p4, 0, none⟩) m m]) := Lib.hid (heap_alloc_new w4 _)
    have hz5 : (w4.alloc (.cells #[.slice (some ⟨g4, 0, none⟩) n n, .slice (some ⟨p4, 0, none⟩) m m] 26)).heap.size = w4.heap.size + 1 := by simp
    have hb5s : s1 ≤ w4.heap.size := hqs14
    have hqs15 : s1 ≤ (w4.alloc (.cells #[.slice (some ⟨g4, 0, none⟩) n n, .slice (some ⟨p4, 0, none⟩) m m] 26)).heap.size := Nat.le_trans hqs14 hb5.size
    have HL5 := Lib.hid (HL4.out.trans (hb5.mono HL4.out.size))
    have HR5 := Lib.hid (HR4.out.below hb5 HR4.out.lt)
    have HQ5 := Lib.hid (HQ4.out.below hb5 HQ4.out.lt)
    have HP5 := Lib.hid (HP4.out.below hb5 HP4.out.lt)
    have HW5 := Lib.hid (HW4.out.below (hb5.mono (by omega)))
    have HU5 := Lib.hid (HU4.out.below (hb5.mono (by omega)))
    have HG5 := Lib.hid (HG4.out.on hb5)
    clear hb5 HL4 HR4 HQ4 HP4 HW4 HU4 HG4 hqs14
    have t0 := HQ5.out.cell 0
    simp at t0
    go_wp2_with fail
    generalize w4.alloc (.cells #[.slice (some ⟨g4, 0, none⟩) n n, .slice (some ⟨p4, 0, none⟩) m m] 26) = w5 at *
    generalize w4.heap.size = b5 at *
    have hb5z : w5.heap.size = b5 + 1 := hz5
    clear hz5
    refine (toFst_any RA nr rc rs _ ((HS.out.below HL5.out).mono HL5.out.size) HNR.out hr2).mono ?_
    rintro e w6 ⟨gS, rfl, hgS, hy6, hb6⟩
    have HYS6 := Lib.hid hy6
    clear hy6 t0
    have hqs16 : s1 ≤ w6.heap.size := Nat.le_trans hqs15 hb6.size
    have HL6 := Lib.hid (HL5.out.trans (hb6.mono HL5.out.size))
    have HR6 := Lib.hid (HR5.out.below hb6 HR5.out.lt)
    have HQ6 := Lib.hid (HQ5.out.below hb6 HQ5.out.lt)
    have HP6 := Lib.hid (HP5.out.below hb6 HP5.out.lt)
    have HW6 := Lib.hid (HW5.out.below (hb6.mono (by omega)))
    have HU6 := Lib.hid (HU5.out.below (hb6.mono (by omega)))
    have HG6 := Lib.hid (HG5.out.on hb6)
    have HB6 := Lib.hid (HB5.out.below hb6 HB5.out.lt)
    clear hb6 HL5 HR5 HQ5 HP5 HW5 HU5 HG5 HB5 hqs15
    have hb7 : Below w6.heap.size w6 (w6.alloc (.cells #[.slice (some ⟨gS, 0, none⟩) nr nr] 50)) := (Below.refl _ _).alloc (Nat.le_refl _) _
    have HJ7 : Hid (Row (w6.alloc (.cells #[.slice (some ⟨gS, 0, none⟩) nr nr] 50)) w6.heap.size 50 #[.slice (some ⟨gS, 0, none⟩) nr nr]) := Lib.hid (heap_alloc_new w6 _)
    have hz7 : (w6.alloc (.cells #[.slice (some ⟨gS, 0, none⟩) nr nr] 50)).heap.size = w6.heap.size + 1 := by simp
    have hgSl := HYS6.out.lt
    have hqs17 : s1 ≤ (w6.alloc (.cells #[.slice (some ⟨gS, 0, none⟩) nr nr] 50)).heap.size := Nat.le_trans hqs16 hb7.size
    have HL7 := Lib.hid (HL6.out.trans (hb7.mono HL6.out.size))
    have HR7 := Lib.hid (HR6.out.below hb7 HR6.out.lt)
    have HQ7 := Lib.hid (HQ6.out.below hb7 HQ6.out.lt)
    have HP7 := Lib.hid (HP6.out.below hb7 HP6.out.lt)
    have HW7 := Lib.hid (HW6.out.below (hb7.mono (by omega)))
    have HU7 := Lib.hid (HU6.out.below (hb7.mono (by omega)))
    have HG7 := Lib.hid (HG6.out.on hb7)
    have HB7 := Lib.hid (HB6.out.below hb7 HB6.out.lt)
    have HYS7 := Lib.hid (HYS6.out.below hb7 HYS6.out.lt)
    clear hb7 HL6 HR6 HQ6 HP6 HW6 HU6 HG6 HB6 HYS6 hqs16
    go_wp2_with fail
    generalize w6.alloc (.cells #[.slice (some ⟨gS, 0, none⟩) nr nr] 50) = w7 at *
    generalize w6.heap.size = bS at *
    have hbSz : w7.heap.size = bS + 1 := hz7
    clear hz7
    refine (toBl_any IA ni ic ins _ ((HI.out.below HL7.out).mono HL7.out.size) HNI.out hi2).mono ?_
    rintro e w8 ⟨gI, rfl, hgI, hy8, hb8⟩
    have HZI8 := Lib.hid hy8
    clear hy8
    have hqs18 : s1 ≤ w8.heap.size := Nat.le_trans hqs17 hb8.size
    have HL8 := Lib.hid (HL7.out.trans (hb8.mono HL7.out.size))
    have HR8 := Lib.hid (HR7.out.below hb8 HR7.out.lt)
    have HQ8 := Lib.hid (HQ7.out.below hb8 HQ7.out.lt)
    have HP8 := Lib.hid (HP7.out.below hb8 HP7.out.lt)
    have HW8 := Lib.hid (HW7.out.below (hb8.mono (by omega)))
    have HU8 := Lib.hid (HU7.out.below (hb8.mono (by omega)))
    have HG8 := Lib.hid (HG7.out.on hb8)
    have HB8 := Lib.hid (HB7.out.below hb8 HB7.out.lt)
    have HYS8 := Lib.hid (HYS7.out.below hb8 HYS7.out.lt)
    have HJ8 := Lib.hid (HJ7.out.below hb8 HJ7.out.lt)
    clear hb8 HL7 HR7 HQ7 HP7 HW7 HU7 HG7 HB7 HYS7 HJ7 hqs17
    have p0 := HB8.out.cell 0
    have p1 := HB8.out.cell 1
    simp at p0 p1
    have j0 := HJ8.out.cell 0
    simp at j0
    have hzI := HZI8.out.lt
    obtain ⟨s2, hs2e⟩ : ∃ s2 : Nat, w8.heap.size = s2 := ⟨_, rfl⟩
    have hIs2 : gI < s2 := by omega
    have hbSs2 : bS < s2 := by omega
    have hb5s2 : b5 < s2 := by omega
    have hs12 : s1 ≤ s2 := by omega
    go_wp2_with fail
    refine (istepS_any _ _ _ _ n n m m nr nr ni ni N no nn ts ps rs ins eo en _ HEO.out HEN.out HNO.out HNN.out HFU.out HG8.out.tl.read HG8.out.pd.read HYS8.out.bools HZI8.out.bools HN.out HM.out HNR.out HNI.out HTB.out hm2).mono ?_
    rintro e w9 ⟨E1, E2, rfl, hx9, hy9, hne9, hb9⟩
    have hpp9 : BPair w9 s2 E1 E2 eo en := ⟨by rw [← hs2e]; exact hx9, by rw [← hs2e]; exact hy9, hne9⟩
    have hqs29 : s2 ≤ w9.heap.size := by rw [← hs2e]; exact hb9.size
    clear hx9 hy9 hne9 hs2e p0 p1 j0
    have HE9 := Lib.hid hpp9
    clear hpp9
    have hqs19 : s1 ≤ w9.heap.size := Nat.le_trans hqs18 hb9.size
    have HL9 := Lib.hid (HL8.out.trans (hb9.mono HL8.out.size))
    have HR9 := Lib.hid (HR8.out.below hb9 HR8.out.lt)
    have HQ9 := Lib.hid (HQ8.out.below hb9 HQ8.out.lt)
    have HP9 := Lib.hid (HP8.out.below hb9 HP8.out.lt)
    have HW9 := Lib.hid (HW8.out.below (hb9.mono (by omega)))
    have HU9 := Lib.hid (HU8.out.below (hb9.mono (by omega)))
    have HG9 := Lib.hid (HG8.out.on hb9)
    have HB9 := Lib.hid (HB8.out.below hb9 HB8.out.lt)
    have HYS9 := Lib.hid (HYS8.out.below hb9 HYS8.out.lt)
    have HJ9 := Lib.hid (HJ8.out.below hb9 HJ8.out.lt)
    have HZI9 := Lib.hid (HZI8.out.below hb9 HZI8.out.lt)
    clear hb9 HL8 HR8 HQ8 HP8 HW8 HU8 HG8 HB8 HYS8 HJ8 HZI8 hqs18
    have HLT := Lib.hid HE9.out.lt
    have hb10 : Below w9.heap.size w9 (w9.alloc (.cells #[.slice E1 no no, .slice E2 nn nn] 52)) := (Below.refl _ _).alloc (Nat.le_refl _) _
    have HK10 : Hid (Row (w9.alloc (.cells #[.slice E1 no no, .slice E2 nn nn] 52)) w9.heap.size 52 #[.slice E1 no no, .slice E2 nn nn]) := Lib.hid (heap_alloc_new w9 _)
    have hz10 : (w9.alloc (.cells #[.slice E1 no no, .slice E2 nn nn] 52)).heap.size = w9.heap.size + 1 := by simp
    have hc1s : s2 ≤ w9.heap.size := hqs29
    have hqs110 : s1 ≤ (w9.alloc (.cells #[.slice E1 no no, .slice E2 nn nn] 52)).heap.size := Nat.le_trans hqs19 hb10.size
    have hqs210 : s2 ≤ (w9.alloc (.cells #[.slice E1 no no, .slice E2 nn nn] 52)).heap.size := Nat.le_trans hqs29 hb10.size
    have HL10 := Lib.hid (HL9.out.trans (hb10.mono HL9.out.size))
    have HR10 := Lib.hid (HR9.out.below hb10 HR9.out.lt)
    have HQ10 := Lib.hid (HQ9.out.below hb10 HQ9.out.lt)
    have HP10 := Lib.hid (HP9.out.below hb10 HP9.out.lt)
    have HW10 := Lib.hid (HW9.out.below (hb10.mono (by omega)))
    have HU10 := Lib.hid (HU9.out.below (hb10.mono (by omega)))
    have HG10 := Lib.hid (HG9.out.on hb10)
    have HB10 := Lib.hid (HB9.out.below hb10 HB9.out.lt)
    have HYS10 := Lib.hid (HYS9.out.below hb10 HYS9.out.lt)
    have HJ10 := Lib.hid (HJ9.out.below hb10 HJ9.out.lt)
    have HZI10 := Lib.hid (HZI9.out.below hb10 HZI9.out.lt)
    have HE10 := Lib.hid (HE9.out.on hb10)
    clear hb10 HL9 HR9 HQ9 HP9 HW9 HU9 HG9 HB9 HYS9 HJ9 HZI9 HE9 hqs19 hqs29
    have v0 := HP10.out.cell 0
    have v1 := HP10.out.cell 1
    simp at v0 v1
    go_wp2_with fail
    generalize w9.alloc (.cells #[.slice E1 no no, .slice E2 nn nn] 52) = w10 at *
    generalize w9.heap.size = c1g at *
    have hc1gz : w10.heap.size = c1g + 1 := hz10
    clear hz10
    clear v0 v1
    refine (eqFstep_any E1 E2 A1 A2 no nn _ _ _ _ eo en _ HNO.out HNN.out HE10.out.fst.bools HE10.out.snd.bools (HW10.out.mono hqs110) (HU10.out.mono hqs110) (by omega) (by omega)).mono ?_
    rintro e w11 ⟨rfl, hb11⟩
    have hqs111 : s1 ≤ w11.heap.size := Nat.le_trans hqs110 hb11.size
    have hqs211 : s2 ≤ w11.heap.size := Nat.le_trans hqs210 hb11.size
    have HL11 := Lib.hid (HL10.out.trans (hb11.mono HL10.out.size))
    have HR11 := Lib.hid (HR10.out.below hb11 HR10.out.lt)
    have HQ11 := Lib.hid (HQ10.out.below hb11 HQ10.out.lt)
    have HP11 := Lib.hid (HP10.out.below hb11 HP10.out.lt)
    have HW11 := Lib.hid (HW10.out.below (hb11.mono (by omega)))
    have HU11 := Lib.hid (HU10.out.below (hb11.mono (by omega)))
    have HG11 := Lib.hid (HG10.out.on hb11)
    have HB11 := Lib.hid (HB10.out.below hb11 HB10.out.lt)
    have HYS11 := Lib.hid (HYS10.out.below hb11 HYS10.out.lt)
    have HJ11 := Lib.hid (HJ10.out.below hb11 HJ10.out.lt)
    have HZI11 := Lib.hid (HZI10.out.below hb11 HZI10.out.lt)
    have HE11 := Lib.hid (HE10.out.on hb11)
    have HK11 := Lib.hid (HK10.out.below hb11 HK10.out.lt)
    clear hb11 HL10 HR10 HQ10 HP10 HW10 HU10 HG10 HB10 HYS10 HJ10 HZI10 HE10 HK10 hqs110 hqs210
    have q0 := HR11.out.cell 0
    have q1 := HR11.out.cell 1
    simp at q0 q1
    have p0 := HB11.out.cell 0
    have p1 := HB11.out.cell 1
    simp at p0 p1
    have hz1 := HR11.out.lt
    have hz2 := HB11.out.lt
    go_wp2
    go_region_held3 (fun w' => (w'.cell? ⟨w.heap.size, 0, none⟩ = some (.slice TA n tc) ∧ w'.cell? ⟨w.heap.size, 1, none⟩ = some (.slice PA m pc)) ∧ w'.cell? ⟨b5, 0, none⟩ = some (.slice (some ⟨g4, 0, none⟩) n n) ∧ w'.cell? ⟨b5, 1, none⟩ = some (.slice (some ⟨p4, 0, none⟩) m m))
      (first | go_keep | (refine ⟨⟨?_, ?_⟩, ?_, ?_⟩ <;> (rw [hc7 _ _ (by simp; omega)]; simp [*])) | (refine ⟨⟨?_, ?_⟩, ?_, ?_⟩ <;> (rw [hc8 _ _ (by omega), hc7 _ _ (by simp; omega)]; simp [*])))
      (first
        | (go_at_call 25; go_must (refine (toConfig_any TA PA n tc m pc ts ps _ ((HX.out.below HL11.out.drew).mono HL11.out.drew.size) ((HY.out.below HL11.out.drew).mono HL11.out.drew.size) HN.out HM.out HTB.out hm2).mono ?_; rintro e u7 ⟨g7, p7, h7, rfl, hC7, _, hbp⟩; obtain ⟨hc7, hf7⟩ := bcell hbp; have hzp : w11.heap.size ≤ u7.heap.size := hbp.size))
        | (go_at_call 30; refine (eqConfig_any _ _ _ _ n m _ _ _ _ ts ps _ ?_ ?_ ?_ ?_ HN.out HM.out HTB.out hm2).mono ?_; (exact (HG11.out.drew.on hbp).tl.read); (exact hC7.tl.read); (exact (HG11.out.drew.on hbp).pd.read); (exact hC7.pd.read); rintro e u8 ⟨rfl, hbq⟩; obtain ⟨hc8, hf8⟩ := bcell hbq))
    clear hc7 hf7 hc8 hf8 p0 p1 q0 q1 hz1 hz2
    have hb12 : Below w11.heap.size w11 u8 := ((Below.refl _ w11).drew.trans hbp).trans (hbq.mono hzp)
    clear hbp hbq hzp hC7
    rename_i _hheld
    clear _hheld
    have hqs112 : s1 ≤ u8.heap.size := Nat.le_trans hqs111 hb12.size
    have hqs212 : s2 ≤ u8.heap.size := Nat.le_trans hqs211 hb12.size
    have HL12 := Lib.hid (HL11.out.trans (hb12.mono HL11.out.size))
    have HR12 := Lib.hid (HR11.out.below hb12 HR11.out.lt)
    have HQ12 := Lib.hid (HQ11.out.below hb12 HQ11.out.lt)
    have HP12 := Lib.hid (HP11.out.below hb12 HP11.out.lt)
    have HW12 := Lib.hid (HW11.out.below (hb12.mono (by omega)))
    have HU12 := Lib.hid (HU11.out.below (hb12.mono (by omega)))
    have HG12 := Lib.hid (HG11.out.on hb12)
    have HB12 := Lib.hid (HB11.out.below hb12 HB11.out.lt)
    have HYS12 := Lib.hid (HYS11.out.below hb12 HYS11.out.lt)
    have HJ12 := Lib.hid (HJ11.out.below hb12 HJ11.out.lt)
    have HZI12 := Lib.hid (HZI11.out.below hb12 HZI11.out.lt)
    have HE12 := Lib.hid (HE11.out.on hb12)
    have HK12 := Lib.hid (HK11.out.below hb12 HK11.out.lt)
    clear hb12 HL11 HR11 HQ11 HP11 HW11 HU11 HG11 HB11 HYS11 HJ11 HZI11 HE11 HK11 hqs111 hqs211
    generalize u8 = w12 at *
    have t0 := HQ12.out.cell 0
    simp at t0
    have j0 := HJ12.out.cell 0
    simp at j0
    have hz1 := HQ12.out.lt
    have hz2 := HJ12.out.lt
    go_wp2
    go_region_held3 (fun w' => w'.cell? ⟨w.heap.size + 1, 0, none⟩ = some (.slice RA nr rc) ∧ w'.cell? ⟨bS, 0, none⟩ = some (.slice (some ⟨gS, 0, none⟩) nr nr))
      (first | go_keep | (refine ⟨?_, ?_⟩ <;> (rw [hc7 _ _ (by simp; omega)]; simp [*])) | (refine ⟨?_, ?_⟩ <;> (rw [hc8 _ _ (by omega), hc7 _ _ (by simp; omega)]; simp [*])))
      (first
        | (go_at_call 26; go_must (refine (toFst_any RA nr rc rs _ ((HS.out.below HL12.out.drew).mono HL12.out.drew.size) HNR.out hr2).mono ?_; rintro e u7 ⟨g7, rfl, _, hC7, hbp⟩; obtain ⟨hc7, hf7⟩ := bcell hbp; have hzp : w12.heap.size ≤ u7.heap.size := hbp.size))
        | (go_at_call 31; refine (eqFst_any _ _ nr _ _ rs _ HNR.out ?_ ?_ hr2).mono ?_; (exact (BRow.below (show BRow w12.drew gS rs from HYS12.out) hbp (show gS < w12.drew.heap.size from HYS12.out.lt)).bools); (exact hC7.bools); rintro e u8 ⟨rfl, hbq⟩; obtain ⟨hc8, hf8⟩ := bcell hbq))
    clear hc7 hf7 hc8 hf8 t0 j0 hz1 hz2
    have hb13 : Below w12.heap.size w12 u8 := ((Below.refl _ w12).drew.trans hbp).trans (hbq.mono hzp)
    clear hbp hbq hzp hC7
    rename_i _hheld
    clear _hheld
    have hqs113 : s1 ≤ u8.heap.size := Nat.le_trans hqs112 hb13.size
    have hqs213 : s2 ≤ u8.heap.size := Nat.le_trans hqs212 hb13.size
    have HL13 := Lib.hid (HL12.out.trans (hb13.mono HL12.out.size))
    have HR13 := Lib.hid (HR12.out.below hb13 HR12.out.lt)
    have HQ13 := Lib.hid (HQ12.out.below hb13 HQ12.out.lt)
    have HP13 := Lib.hid (HP12.out.below hb13 HP12.out.lt)
    have HW13 := Lib.hid (HW12.out.below (hb13.mono (by omega)))
    have HU13 := Lib.hid (HU12.out.below (hb13.mono (by omega)))
    have HG13 := Lib.hid (HG12.out.on hb13)
    have HB13 := Lib.hid (HB12.out.below hb13 HB12.out.lt)
    have HYS13 := Lib.hid (HYS12.out.below hb13 HYS12.out.lt)
    have HJ13 := Lib.hid (HJ12.out.below hb13 HJ12.out.lt)
    have HZI13 := Lib.hid (HZI12.out.below hb13 HZI12.out.lt)
    have HE13 := Lib.hid (HE12.out.on hb13)
    have HK13 := Lib.hid (HK12.out.below hb13 HK12.out.lt)
    clear hb13 HL12 HR12 HQ12 HP12 HW12 HU12 HG12 HB12 HYS12 HJ12 HZI12 HE12 HK12 hqs112 hqs212
    generalize u8 = w13 at *
    go_wp2_with fail
    refine (toBl_any IA ni ic ins _ ((HI.out.below HL13.out).mono HL13.out.size) HNI.out hi2).mono ?_
    rintro e w14 ⟨g14t, rfl, _, hy14, hb14⟩
    have HT14 := Lib.hid hy14
    clear hy14
    have hqs114 : s1 ≤ w14.heap.size := Nat.le_trans hqs113 hb14.size
    have hqs214 : s2 ≤ w14.heap.size := Nat.le_trans hqs213 hb14.size
    have HL14 := Lib.hid (HL13.out.trans (hb14.mono HL13.out.size))
    have HR14 := Lib.hid (HR13.out.below hb14 HR13.out.lt)
    have HQ14 := Lib.hid (HQ13.out.below hb14 HQ13.out.lt)
    have HP14 := Lib.hid (HP13.out.below hb14 HP13.out.lt)
    have HW14 := Lib.hid (HW13.out.below (hb14.mono (by omega)))
    have HU14 := Lib.hid (HU13.out.below (hb14.mono (by omega)))
    have HG14 := Lib.hid (HG13.out.on hb14)
    have HB14 := Lib.hid (HB13.out.below hb14 HB13.out.lt)
    have HYS14 := Lib.hid (HYS13.out.below hb14 HYS13.out.lt)
    have HJ14 := Lib.hid (HJ13.out.below hb14 HJ13.out.lt)
    have HZI14 := Lib.hid (HZI13.out.below hb14 HZI13.out.lt)
    have HE14 := Lib.hid (HE13.out.on hb14)
    have HK14 := Lib.hid (HK13.out.below hb14 HK13.out.lt)
    clear hb14 HL13 HR13 HQ13 HP13 HW13 HU13 HG13 HB13 HYS13 HJ13 HZI13 HE13 HK13 hqs113 hqs213
    go_wp2_with fail
    refine (eqBl_any _ _ ni _ _ ins _ HZI14.out.bools HT14.out.bools HNI.out hi2).mono ?_
    rintro e w15 ⟨rfl, hb15⟩
    have hqs115 : s1 ≤ w15.heap.size := Nat.le_trans hqs114 hb15.size
    have hqs215 : s2 ≤ w15.heap.size := Nat.le_trans hqs214 hb15.size
    have HL15 := Lib.hid (HL14.out.trans (hb15.mono HL14.out.size))
    have HR15 := Lib.hid (HR14.out.below hb15 HR14.out.lt)
    have HQ15 := Lib.hid (HQ14.out.below hb15 HQ14.out.lt)
    have HP15 := Lib.hid (HP14.out.below hb15 HP14.out.lt)
    have HW15 := Lib.hid (HW14.out.below (hb15.mono (by omega)))
    have HU15 := Lib.hid (HU14.out.below (hb15.mono (by omega)))
    have HG15 := Lib.hid (HG14.out.on hb15)
    have HB15 := Lib.hid (HB14.out.below hb15 HB14.out.lt)
    have HYS15 := Lib.hid (HYS14.out.below hb15 HYS14.out.lt)
    have HJ15 := Lib.hid (HJ14.out.below hb15 HJ14.out.lt)
    have HZI15 := Lib.hid (HZI14.out.below hb15 HZI14.out.lt)
    have HE15 := Lib.hid (HE14.out.on hb15)
    have HK15 := Lib.hid (HK14.out.below hb15 HK14.out.lt)
    clear hb15 HL14 HR14 HQ14 HP14 HW14 HU14 HG14 HB14 HYS14 HJ14 HZI14 HE14 HK14 HT14 hqs114 hqs214
    obtain ⟨hds, hm8⟩ := HG15.out.marks 1 (by rw [show 2 * ts.length = 2 * n by rw [HN.out]]; exact lensT_le HTB.out HN.out) HTOT.out (by rw [HN.out]; omega) (by rw [HM.out]; omega)
    rw [HN.out, HM.out] at hm8
    have HM8 := Lib.hid hm8
    clear hm8 HG15
    have hof : 1 + ofT 1 (lensT ts) (2 * n) + m * 2 ≤ 60000000 := by have := HTOT.out; rw [HN.out] at this; omega
    have p0 := HB15.out.cell 0
    have p1 := HB15.out.cell 1
    simp at p0 p1
    go_wp2_with fail
    refine (markConfig_any g4 p4 n m n m 1 s1 hds _ _ HM8.out).mono ?_
    generalize hkk : 1 + ofT 1 (lensT ts) (2 * n) + m * 2 = kk at *
    have hkk0 : (0 : Int) ≤ (kk : Int) := Int.natCast_nonneg _
    clear hkk
    rintro e w16 ⟨rfl, _, hb16, hk16⟩
    clear HM8 p0 p1
    have hqs116 : s1 ≤ w16.heap.size := Nat.le_trans hqs115 hb16.size
    have hqs216 : s2 ≤ w16.heap.size := Nat.le_trans hqs215 hb16.size
    have HL16 := Lib.hid (HL15.out.trans (hb16.mono (by omega)))
    have HR16 := Lib.hid (hk16 _ _ _ (by decide) (by decide) (by decide) HR15.out)
    have HQ16 := Lib.hid (hk16 _ _ _ (by decide) (by decide) (by decide) HQ15.out)
    have HP16 := Lib.hid (hk16 _ _ _ (by decide) (by decide) (by decide) HP15.out)
    have HW16 := Lib.hid (HW15.out.below hb16)
    have HU16 := Lib.hid (HU15.out.below hb16)
    have HYS16 := Lib.hid (HYS15.out.rk3 hk16)
    have HJ16 := Lib.hid (hk16 _ _ _ (by decide) (by decide) (by decide) HJ15.out)
    have HZI16 := Lib.hid (HZI15.out.rk3 hk16)
    have HE16 := Lib.hid (HE15.out.rk3 hk16)
    have HK16 := Lib.hid (hk16 _ _ _ (by decide) (by decide) (by decide) HK15.out)
    clear HL15 HR15 HQ15 HP15 HW15 HU15 HB15 HYS15 HJ15 HZI15 HE15 HK15 hqs115 hqs215 hb16 hk16
    have j0 := HJ16.out.cell 0
    simp at j0
    go_wp2_with fail
    refine (markOneF_any gS nr kk rs _ HYS16.out HNR.out hr2 (by omega)).mono ?_
    generalize hkk : kk + nr = kk2 at *
    have hkk2 : (0 : Int) ≤ (kk2 : Int) := Int.natCast_nonneg _
    have hkk3 : kk2 ≤ 70000000 := by omega
    clear hkk
    rintro e w17 ⟨rfl, hm17⟩
    clear j0
    have hgS1 : s1 ≤ gS := by omega
    have hb17 := hm17.below (show gS ≤ w16.heap.size by have := HYS16.out.lt; omega)
    have hqs117 : s1 ≤ w17.heap.size := Nat.le_trans hqs116 hb17.size
    have hqs217 : s2 ≤ w17.heap.size := Nat.le_trans hqs216 hb17.size
    have HL17 := Lib.hid (HL16.out.trans (hb17.mono (by omega)))
    have HR17 := Lib.hid (hm17.row HR16.out (by omega))
    have HQ17 := Lib.hid (hm17.row HQ16.out (by omega))
    have HP17 := Lib.hid (hm17.row HP16.out (by omega))
    have HW17 := Lib.hid (HW16.out.below (hb17.mono hgS1))
    have HU17 := Lib.hid (HU16.out.below (hb17.mono hgS1))
    have HZI17 := Lib.hid (hm17.brow HZI16.out (by omega))
    have HE17 := Lib.hid (HE16.out.keep (fun b h1 h2 => hm17.block b h2 (by omega)))
    have HK17 := Lib.hid (hm17.row HK16.out (by omega))
    clear HL16 HR16 HQ16 HP16 HW16 HU16 HYS16 HJ16 HZI16 HE16 HK16 hqs116 hqs216 hb17 hm17
    go_wp2_with fail
    refine (markOne_any gI ni kk2 ins _ HZI17.out HNI.out hi2 (by omega)).mono ?_
    generalize hkk : kk2 + ni = kk4 at *
    have hkk5 : (0 : Int) ≤ (kk4 : Int) := Int.natCast_nonneg _
    clear hkk
    rintro e w18 ⟨rfl, hm18⟩
    have hgI1 : s1 ≤ gI := by omega
    have hb18 := hm18.below (show gI ≤ w17.heap.size by have := HZI17.out.lt; omega)
    have hqs118 : s1 ≤ w18.heap.size := Nat.le_trans hqs117 hb18.size
    have hqs218 : s2 ≤ w18.heap.size := Nat.le_trans hqs217 hb18.size
    have HL18 := Lib.hid (HL17.out.trans (hb18.mono (by omega)))
    have HR18 := Lib.hid (hm18.row HR17.out (by omega))
    have HQ18 := Lib.hid (hm18.row HQ17.out (by omega))
    have HP18 := Lib.hid (hm18.row HP17.out (by omega))
    have HW18 := Lib.hid (HW17.out.below (hb18.mono hgI1))
    have HU18 := Lib.hid (HU17.out.below (hb18.mono hgI1))
    have HE18 := Lib.hid (HE17.out.keep (fun b h1 h2 => hm18.block b h2 (by omega)))
    have HK18 := Lib.hid (hm18.row HK17.out (by omega))
    clear HL17 HR17 HQ17 HP17 HW17 HU17 HZI17 HE17 HK17 hqs117 hqs217 hb18 hm18
    have r0 := HK18.out.cell 0
    have r1 := HK18.out.cell 1
    simp at r0 r1
    have v0 := HP18.out.cell 0
    have v1 := HP18.out.cell 1
    simp at v0 v1
    go_wp2_with fail
    refine (eqFstep_any E1 E2 A1 A2 no nn _ _ _ _ eo en _ HNO.out HNN.out HE18.out.fst.bools HE18.out.snd.bools (HW18.out.mono hqs118) (HU18.out.mono hqs118) (by omega) (by omega)).mono ?_
    rintro e w19 ⟨rfl, hb19⟩
    clear r0 r1 v0 v1
    have hqs119 : s1 ≤ w19.heap.size := Nat.le_trans hqs118 hb19.size
    have hqs219 : s2 ≤ w19.heap.size := Nat.le_trans hqs218 hb19.size
    have HL19 := Lib.hid (HL18.out.trans (hb19.mono HL18.out.size))
    have HR19 := Lib.hid (HR18.out.below hb19 HR18.out.lt)
    have HQ19 := Lib.hid (HQ18.out.below hb19 HQ18.out.lt)
    have HP19 := Lib.hid (HP18.out.below hb19 HP18.out.lt)
    have HW19 := Lib.hid (HW18.out.below (hb19.mono (by omega)))
    have HU19 := Lib.hid (HU18.out.below (hb19.mono (by omega)))
    have HE19 := Lib.hid (HE18.out.on hb19)
    have HK19 := Lib.hid (HK18.out.below hb19 HK18.out.lt)
    clear hb19 HL18 HR18 HQ18 HP18 HW18 HU18 HE18 HK18 hqs118 hqs218
    have r0 := HK19.out.cell 0
    have r1 := HK19.out.cell 1
    simp at r0 r1
    go_wp2_with fail
    rw [show (1 : Int) = ((1 : Nat) : Int) from rfl]
    refine (markFstep_any E1 E2 s2 no nn 1 eo en _ HE19.out HNO.out HNN.out (by omega) (by omega) (by omega) hqs219).mono ?_
    rintro e w20 ⟨rfl, hx20, hb20, hm20⟩
    generalize hmm : 1 + no + nn = mm at *
    have HMM := Lib.hid hmm
    have hmm0 : (0 : Int) ≤ (mm : Int) := Int.natCast_nonneg _
    clear hmm r0 r1
    have hKr := Lib.hid ((hm20 c1g HK19.out.lt (fun e => by rcases hx20.fst.addr with h | ⟨g', h⟩ <;> rw [h] at e <;> simp at e; subst e; have := HLT.out c1g (.inl h); omega) (fun e => by rcases hx20.snd.addr with h | ⟨g', h⟩ <;> rw [h] at e <;> simp at e; subst e; have := HLT.out c1g (.inr h); omega)).trans HK19.out)
    have hXE := Lib.hid (show BPair w20 s2 E1 E2 (mk3 1 no) (mk3 (1 + no) nn) from hx20)
    clear hm20 hx20
    have hqs120 : s1 ≤ w20.heap.size := Nat.le_trans hqs119 hb20.size
    have hqs220 : s2 ≤ w20.heap.size := Nat.le_trans hqs219 hb20.size
    have HL20 := Lib.hid (HL19.out.trans (hb20.mono (by omega)))
    have HR20 := Lib.hid (HR19.out.below hb20 (by omega))
    have HQ20 := Lib.hid (HQ19.out.below hb20 (by omega))
    have HP20 := Lib.hid (HP19.out.below hb20 (by omega))
    have HW20 := Lib.hid (HW19.out.below (hb20.mono hs12))
    have HU20 := Lib.hid (HU19.out.below (hb20.mono hs12))
    clear HL19 HR19 HQ19 HP19 HW19 HU19 HE19 HK19 hqs119 hqs219 hb20
    have HK20 : Hid (Row w20 c1g 52 #[.slice E1 no no, .slice E2 nn nn]) := hKr
    have HE20 := hXE
    clear hKr hXE
    have r0 := HK20.out.cell 0
    have r1 := HK20.out.cell 1
    simp at r0 r1
    go_wp2_with fail
    rw [show (1 : Int) = ((1 : Nat) : Int) from rfl]
    refine (heldFstep_any E1 E2 s2 no nn 1 _ HE20.out (by omega) (by omega) (by omega)).mono ?_
    rw [HMM.out]
    rintro e w21 ⟨rfl, hb21⟩
    clear r0 r1
    have hqs121 : s1 ≤ w21.heap.size := Nat.le_trans hqs120 hb21.size
    have hqs221 : s2 ≤ w21.heap.size := Nat.le_trans hqs220 hb21.size
    have HL21 := Lib.hid (HL20.out.trans (hb21.mono HL20.out.size))
    have HR21 := Lib.hid (HR20.out.below hb21 HR20.out.lt)
    have HQ21 := Lib.hid (HQ20.out.below hb21 HQ20.out.lt)
    have HP21 := Lib.hid (HP20.out.below hb21 HP20.out.lt)
    have HW21 := Lib.hid (HW20.out.below (hb21.mono (by omega)))
    have HU21 := Lib.hid (HU20.out.below (hb21.mono (by omega)))
    have HK21 := Lib.hid (HK20.out.below hb21 HK20.out.lt)
    have HE21 := Lib.hid (HE20.out.on hb21)
    clear hb21 HL20 HR20 HQ20 HP20 HW20 HU20 HK20 HE20 hqs120 hqs220
    have q0 := HR21.out.cell 0
    have q1 := HR21.out.cell 1
    simp at q0 q1
    have t0 := HQ21.out.cell 0
    simp at t0
    have hrz := HR21.out.lt
    have hqz := HQ21.out.lt
    go_upto_region 37 with fail
    go_cut [16] (fun pv wx => ∃ (wz : World) (cw : Nat) (A1 A2 : Option Addr) (c1 c2 : Nat), wz = wx ∧ pv = .pointer (some ⟨cw, 0, none⟩) ∧ w21.heap.size ≤ cw ∧ Hid (Row wx cw 52 #[.slice A1 no c1, .slice A2 nn c2]) ∧ Hid (BoolsAt wx wx.heap.size A1 eo) ∧ Hid (BoolsAt wx wx.heap.size A2 en) ∧ Hid (Below w21.heap.size w21 wx))
    case first =>
      have hSF : ∀ w', Below w21.heap.size w21 w' → ((w'.cell? ⟨w.heap.size, 0, none⟩ = some (.slice TA n tc) ∧ w'.cell? ⟨w.heap.size, 1, none⟩ = some (.slice PA m pc)) ∧ w'.cell? ⟨w.heap.size + 1, 0, none⟩ = some (.slice RA nr rc)) := fun w' hb => ⟨⟨(hb.cell (show w.heap.size < w21.heap.size by omega)).trans q0, (hb.cell (show w.heap.size < w21.heap.size by omega)).trans q1⟩, (hb.cell (show w.heap.size + 1 < w21.heap.size by omega)).trans t0⟩
      have HSF := Lib.hid hSF
      clear hSF
      have hB0 : Below w21.heap.size w21 w21.drew := (Below.refl _ _).drew
      refine wp_region_held_drew (S := fun w' => ((w'.cell? ⟨w.heap.size, 0, none⟩ = some (.slice TA n tc) ∧ w'.cell? ⟨w.heap.size, 1, none⟩ = some (.slice PA m pc)) ∧ w'.cell? ⟨w.heap.size + 1, 0, none⟩ = some (.slice RA nr rc))) (by kernel_rfl) (HSF.out _ hB0) (fun hHeld => ?_)
      generalize w21.drew = v0 at *
      refine wpAnyH_take (i := 0) (v := ?_) rfl (by kernel_rfl) (by kernel_rfl) (by kernel_rfl) (fun _ _ _ h => h) (Or.inl ⟨by rfl, ?_⟩) (by assumption) ?_
      rotate_left
      · (intro w hSw; (try dsimp only at hSw); go_simp; try with_reducible rfl)
      simp only [Act.put, List.setIfInBounds_toArray]
      refine wpAnyH_take (i := 2) (v := ?_) rfl (by kernel_rfl) (by kernel_rfl) (by kernel_rfl) (fun _ _ _ h => h) (Or.inl ⟨by rfl, ?_⟩) (by assumption) ?_
      rotate_left
      · (intro w hSw; (try dsimp only at hSw); go_simp; try with_reducible rfl)
      simp only [Act.put]
      refine wpAnyH_take (i := 4) (v := ?_) rfl (by kernel_rfl) (by kernel_rfl) (by kernel_rfl) (fun _ _ _ h => h) (Or.inl ⟨by rfl, ?_⟩) (by assumption) ?_
      rotate_left
      · (intro w hSw; (try dsimp only at hSw); go_simp; try with_reducible rfl)
      simp only [Act.put]
      clear hHeld
      have hz0v := hB0.size
      refine wpAnyH_ready (rs := [1, 7]) (by kernel_rfl) (by simp) ?_
      refine AllReadyH.cons rfl (fun K hK => ?_) (AllReadyH.cons rfl (fun K hK => ?_) AllReadyH.nil)
      · go_simp
        have hLv0 := HL21.out.trans (hB0.mono HL21.out.size)
        go_wp2_with (go_at_call 25; refine (toConfig_any TA PA n tc m pc ts ps v0 ((HX.out.below hLv0).mono hLv0.size) ((HY.out.below hLv0).mono hLv0.size) HN.out HM.out HTB.out hm2).mono ?_; rintro e v1 ⟨g1, p1, h1, rfl, hc1, _, hb1⟩)
        have hB1 := hB0.trans (hb1.mono hB0.size)
        refine hK.out _ _ (by exact HSF.out _ hB1) (fun hHeld => ?_)
        clear hK K hHeld
        have hz1v := hb1.size
        refine wpAnyH_ready (rs := [3, 7]) (by kernel_rfl) (by simp) ?_
        refine AllReadyH.cons rfl (fun K hK => ?_) (AllReadyH.cons rfl (fun K hK => ?_) AllReadyH.nil)
        · go_simp
          have hLv1 := HL21.out.trans (hB1.mono HL21.out.size)
          go_wp2_with (go_at_call 26; refine (toFst_any RA nr rc rs v1 ((HS.out.below hLv1).mono hLv1.size) HNR.out hr2).mono ?_; rintro e v2 ⟨s2, rfl, _, hs2, hb2⟩)
          have hB2 := hB1.trans (hb2.mono hB1.size)
          refine hK.out _ _ (by exact HSF.out _ hB2) (fun hHeld => ?_)
          clear hK K hHeld
          have hz2v := hb2.size
          have cf2 := hc1.on hb2
          refine wpAnyH_ready (rs := [5, 7]) (by kernel_rfl) (by simp) ?_
          refine AllReadyH.cons rfl (fun K hK => ?_) (AllReadyH.cons rfl (fun K hK => ?_) AllReadyH.nil)
          · go_simp
            have hLv2 := HL21.out.trans (hB2.mono HL21.out.size)
            go_wp2_with (go_at_call 27; refine (toBl_any IA ni ic ins v2 ((HI.out.below hLv2).mono hLv2.size) HNI.out hi2).mono ?_; rintro e v3 ⟨i3, rfl, _, hi3, hb3⟩)
            have hB3 := hB2.trans (hb3.mono hB2.size)
            refine hK.out _ _ (by exact HSF.out _ hB3) (fun hHeld => ?_)
            clear hK K hHeld
            have hz3v := hb3.size
            have cf3 := cf2.on hb3
            have sf3 := hs2.on hb3
            refine wpAnyH_ready (rs := [6, 7]) (by kernel_rfl) (by simp) ?_
            refine AllReadyH.cons rfl (fun K hK => ?_) (AllReadyH.cons rfl (fun K hK => ?_) AllReadyH.nil)
            · go_simp
              have hLv3 := HL21.out.trans (hB3.mono HL21.out.size)
              go_wp2_with (go_at_call 28; refine (istepS_any _ _ _ _ n n m m nr nr ni ni N no nn ts ps rs ins eo en v3 HEO.out HEN.out HNO.out HNN.out HFU.out cf3.tl.read cf3.pd.read sf3.bools hi3.bools HN.out HM.out HNR.out HNI.out HTB.out hm2).mono ?_; rintro e v4 ⟨A14, A24, rfl, hx4, hy4, _, hb4⟩)
              have hB4 := hB3.trans (hb4.mono hB3.size)
              refine hK.out _ _ (by exact HSF.out _ hB4) (fun hHeld => ?_)
              clear hK K hHeld
              have hz4v := hb4.size
              have cf4 := cf3.on hb4
              have sf4 := sf3.on hb4
              have bi4 := hi3.on hb4
              refine wpAnyH_ready (rs := [7]) (by kernel_rfl) (by simp) ?_
              refine AllReadyH.cons rfl (fun K hK => ?_) AllReadyH.nil
              · go_simp
                obtain ⟨v5, hW5⟩ : ∃ v5, v5 = World.alloc v4 (.cells #[.slice none 0 0, .slice none 0 0] 52) := ⟨_, rfl⟩
                have hb5 : Below (World.heap v4).size v4 v5 := by rw [hW5]; exact (Below.refl _ _).alloc (Nat.le_refl _) _
                have bt5 : Row v5 (World.heap v4).size 52 #[.slice none 0 0, .slice none 0 0] := by rw [hW5]; exact row_new v4 _ _
                rw [← hW5]
                clear hW5
                have hB5 := hB4.trans (hb5.mono hB4.size)
                refine hK.out _ _ (by exact HSF.out _ hB5) (fun hHeld => ?_)
                clear hK K hHeld
                have hz5v := hb5.size
                have cf5 := cf4.on hb5
                have sf5 := sf4.on hb5
                have bi5 := bi4.on hb5
                refine wpAnyH_ready (rs := [8]) (by kernel_rfl) (by simp) ?_
                refine AllReadyH.cons rfl (fun K hK => ?_) AllReadyH.nil
                · have b0 := bt5.cell 0
                  have b1 := bt5.cell 1
                  have f0 := bt5.frozen 0
                  have f1 := bt5.frozen 1
                  simp at b0 b1
                  go_simp
                  have hBF := (hB5.setCell (p := ⟨(World.heap v4).size, 0, none⟩) (show w21.heap.size ≤ (World.heap v4).size by omega) (.slice A14 no no)).setCell (p := ⟨(World.heap v4).size, 1, none⟩) (show w21.heap.size ≤ (World.heap v4).size by omega) (.slice A24 nn nn)
                  refine hK.out _ _ (by exact HSF.out _ hBF) (fun hHeld => ?_)
                  clear hK K hHeld
                  refine wpAnyH_done (by kernel_rfl) ?_ _
                  go_wp2_with fail
                  go_meet
                  have hrs := (bt5.set 0 (.slice A14 no no)).set 1 (.slice A24 nn nn)
                  have hbF := (hb5.setCell (p := ⟨(World.heap v4).size, 0, none⟩) (show (World.heap v4).size ≤ (World.heap v4).size from Nat.le_refl _) (.slice A14 no no)).setCell (p := ⟨(World.heap v4).size, 1, none⟩) (show (World.heap v4).size ≤ (World.heap v4).size from Nat.le_refl _) (.slice A24 nn nn)
                  have hx1 := hx4.bools.on hbF
                  have hx2 := hy4.bools.on hbF
                  exact ⟨_, (World.heap v4).size, A14, A24, no, nn, rfl, rfl, by omega, Lib.hid hrs, Lib.hid hx1, Lib.hid hx2, Lib.hid hBF⟩
            · go_simp
              obtain ⟨v7, hW7⟩ : ∃ v7, v7 = World.alloc v3 (.cells #[.slice none 0 0, .slice none 0 0] 52) := ⟨_, rfl⟩
              have hb7 : Below (World.heap v3).size v3 v7 := by rw [hW7]; exact (Below.refl _ _).alloc (Nat.le_refl _) _
              have bt7 : Row v7 (World.heap v3).size 52 #[.slice none 0 0, .slice none 0 0] := by rw [hW7]; exact row_new v3 _ _
              rw [← hW7]
              clear hW7
              have hB7 := hB3.trans (hb7.mono hB3.size)
              refine hK.out _ _ (by exact HSF.out _ hB7) (fun hHeld => ?_)
              clear hK K hHeld
              have hz7v := hb7.size
              have cf7 := cf3.on hb7
              have sf7 := sf3.on hb7
              have bi7 := hi3.on hb7
              refine wpAnyH_ready (rs := [6]) (by kernel_rfl) (by simp) ?_
              refine AllReadyH.cons rfl (fun K hK => ?_) AllReadyH.nil
              · go_simp
                have hLv7 := HL21.out.trans (hB7.mono HL21.out.size)
                go_wp2_with (go_at_call 28; refine (istepS_any _ _ _ _ n n m m nr nr ni ni N no nn ts ps rs ins eo en v7 HEO.out HEN.out HNO.out HNN.out HFU.out cf7.tl.read cf7.pd.read sf7.bools bi7.bools HN.out HM.out HNR.out HNI.out HTB.out hm2).mono ?_; rintro e v8 ⟨A18, A28, rfl, hx8, hy8, _, hb8⟩)
                have hB8 := hB7.trans (hb8.mono hB7.size)
                refine hK.out _ _ (by exact HSF.out _ hB8) (fun hHeld => ?_)
                clear hK K hHeld
                have hz8v := hb8.size
                have cf8 := cf7.on hb8
                have sf8 := sf7.on hb8
                have bi8 := bi7.on hb8
                have bq8 := bt7.lt
                have bt8 := bt7.below hb8 bt7.lt
                refine wpAnyH_ready (rs := [8]) (by kernel_rfl) (by simp) ?_
                refine AllReadyH.cons rfl (fun K hK => ?_) AllReadyH.nil
                · have b0 := bt8.cell 0
                  have b1 := bt8.cell 1
                  have f0 := bt8.frozen 0
                  have f1 := bt8.frozen 1
                  simp at b0 b1
                  go_simp
                  have hBF := (hB8.setCell (p := ⟨(World.heap v3).size, 0, none⟩) (show w21.heap.size ≤ (World.heap v3).size by omega) (.slice A18 no no)).setCell (p := ⟨(World.heap v3).size, 1, none⟩) (show w21.heap.size ≤ (World.heap v3).size by omega) (.slice A28 nn nn)
                  refine hK.out _ _ (by exact HSF.out _ hBF) (fun hHeld => ?_)
                  clear hK K hHeld
                  refine wpAnyH_done (by kernel_rfl) ?_ _
                  go_wp2_with fail
                  go_meet
                  have hrs := (bt8.set 0 (.slice A18 no no)).set 1 (.slice A28 nn nn)
                  have hx1 := ((hx8.set ⟨(World.heap v3).size, 0, none⟩ (by show (World.heap v3).size < _; omega) (.slice A18 no no)).set ⟨(World.heap v3).size, 1, none⟩ (by show (World.heap v3).size < _; omega) (.slice A28 nn nn)).bools
                  have hx2 := ((hy8.set ⟨(World.heap v3).size, 0, none⟩ (by show (World.heap v3).size < _; omega) (.slice A18 no no)).set ⟨(World.heap v3).size, 1, none⟩ (by show (World.heap v3).size < _; omega) (.slice A28 nn nn)).bools
                  exact ⟨_, (World.heap v3).size, A18, A28, no, nn, rfl, rfl, by omega, Lib.hid hrs, Lib.hid hx1, Lib.hid hx2, Lib.hid hBF⟩
          · go_simp
            obtain ⟨v10, hW10⟩ : ∃ v10, v10 = World.alloc v2 (.cells #[.slice none 0 0, .slice none 0 0] 52) := ⟨_, rfl⟩
            have hb10 : Below (World.heap v2).size v2 v10 := by rw [hW10]; exact (Below.refl _ _).alloc (Nat.le_refl _) _
            have bt10 : Row v10 (World.heap v2).size 52 #[.slice none 0 0, .slice none 0 0] := by rw [hW10]; exact row_new v2 _ _
            rw [← hW10]
            clear hW10
            have hB10 := hB2.trans (hb10.mono hB2.size)
            refine hK.out _ _ (by exact HSF.out _ hB10) (fun hHeld => ?_)
            clear hK K hHeld
            have hz10v := hb10.size
            have cf10 := cf2.on hb10
            have sf10 := hs2.on hb10
            refine wpAnyH_ready (rs := [5]) (by kernel_rfl) (by simp) ?_
            refine AllReadyH.cons rfl (fun K hK => ?_) AllReadyH.nil
            · go_simp
              have hLv10 := HL21.out.trans (hB10.mono HL21.out.size)
              go_wp2_with (go_at_call 27; refine (toBl_any IA ni ic ins v10 ((HI.out.below hLv10).mono hLv10.size) HNI.out hi2).mono ?_; rintro e v11 ⟨i11, rfl, _, hi11, hb11⟩)
              have hB11 := hB10.trans (hb11.mono hB10.size)
              refine hK.out _ _ (by exact HSF.out _ hB11) (fun hHeld => ?_)
              clear hK K hHeld
              have hz11v := hb11.size
              have cf11 := cf10.on hb11
              have sf11 := sf10.on hb11
              have bq11 := bt10.lt
              have bt11 := bt10.below hb11 bt10.lt
              refine wpAnyH_ready (rs := [6]) (by kernel_rfl) (by simp) ?_
              refine AllReadyH.cons rfl (fun K hK => ?_) AllReadyH.nil
              · go_simp
                have hLv11 := HL21.out.trans (hB11.mono HL21.out.size)
                go_wp2_with (go_at_call 28; refine (istepS_any _ _ _ _ n n m m nr nr ni ni N no nn ts ps rs ins eo en v11 HEO.out HEN.out HNO.out HNN.out HFU.out cf11.tl.read cf11.pd.read sf11.bools hi11.bools HN.out HM.out HNR.out HNI.out HTB.out hm2).mono ?_; rintro e v12 ⟨A112, A212, rfl, hx12, hy12, _, hb12⟩)
                have hB12 := hB11.trans (hb12.mono hB11.size)
                refine hK.out _ _ (by exact HSF.out _ hB12) (fun hHeld => ?_)
                clear hK K hHeld
                have hz12v := hb12.size
                have cf12 := cf11.on hb12
                have sf12 := sf11.on hb12
                have bi12 := hi11.on hb12
                have bq12 := bt11.lt
                have bt12 := bt11.below hb12 bt11.lt
                refine wpAnyH_ready (rs := [8]) (by kernel_rfl) (by simp) ?_
                refine AllReadyH.cons rfl (fun K hK => ?_) AllReadyH.nil
                · have b0 := bt12.cell 0
                  have b1 := bt12.cell 1
                  have f0 := bt12.frozen 0
                  have f1 := bt12.frozen 1
                  simp at b0 b1
                  go_simp
                  have hBF := (hB12.setCell (p := ⟨(World.heap v2).size, 0, none⟩) (show w21.heap.size ≤ (World.heap v2).size by omega) (.slice A112 no no)).setCell (p := ⟨(World.heap v2).size, 1, none⟩) (show w21.heap.size ≤ (World.heap v2).size by omega) (.slice A212 nn nn)
                  refine hK.out _ _ (by exact HSF.out _ hBF) (fun hHeld => ?_)
                  clear hK K hHeld
                  refine wpAnyH_done (by kernel_rfl) ?_ _
                  go_wp2_with fail
                  go_meet
                  have hrs := (bt12.set 0 (.slice A112 no no)).set 1 (.slice A212 nn nn)
                  have hx1 := ((hx12.set ⟨(World.heap v2).size, 0, none⟩ (by show (World.heap v2).size < _; omega) (.slice A112 no no)).set ⟨(World.heap v2).size, 1, none⟩ (by show (World.heap v2).size < _; omega) (.slice A212 nn nn)).bools
                  have hx2 := ((hy12.set ⟨(World.heap v2).size, 0, none⟩ (by show (World.heap v2).size < _; omega) (.slice A112 no no)).set ⟨(World.heap v2).size, 1, none⟩ (by show (World.heap v2).size < _; omega) (.slice A212 nn nn)).bools
                  exact ⟨_, (World.heap v2).size, A112, A212, no, nn, rfl, rfl, by omega, Lib.hid hrs, Lib.hid hx1, Lib.hid hx2, Lib.hid hBF⟩
        · go_simp
          obtain ⟨v14, hW14⟩ : ∃ v14, v14 = World.alloc v1 (.cells #[.slice none 0 0, .slice none 0 0] 52) := ⟨_, rfl⟩
          have hb14 : Below (World.heap v1).size v1 v14 := by rw [hW14]; exact (Below.refl _ _).alloc (Nat.le_refl _) _
          have bt14 : Row v14 (World.heap v1).size 52 #[.slice none 0 0, .slice none 0 0] := by rw [hW14]; exact row_new v1 _ _
          rw [← hW14]
          clear hW14
          have hB14 := hB1.trans (hb14.mono hB1.size)
          refine hK.out _ _ (by exact HSF.out _ hB14) (fun hHeld => ?_)
          clear hK K hHeld
          have hz14v := hb14.size
          have cf14 := hc1.on hb14
          refine wpAnyH_ready (rs := [3]) (by kernel_rfl) (by simp) ?_
          refine AllReadyH.cons rfl (fun K hK => ?_) AllReadyH.nil
          · go_simp
            have hLv14 := HL21.out.trans (hB14.mono HL21.out.size)
            go_wp2_with (go_at_call 26; refine (toFst_any RA nr rc rs v14 ((HS.out.below hLv14).mono hLv14.size) HNR.out hr2).mono ?_; rintro e v15 ⟨s15, rfl, _, hs15, hb15⟩)
            have hB15 := hB14.trans (hb15.mono hB14.size)
            refine hK.out _ _ (by exact HSF.out _ hB15) (fun hHeld => ?_)
            clear hK K hHeld
            have hz15v := hb15.size
            have cf15 := cf14.on hb15
            have bq15 := bt14.lt
            have bt15 := bt14.below hb15 bt14.lt
            refine wpAnyH_ready (rs := [5]) (by kernel_rfl) (by simp) ?_
            refine AllReadyH.cons rfl (fun K hK => ?_) AllReadyH.nil
            · go_simp
              have hLv15 := HL21.out.trans (hB15.mono HL21.out.size)
              go_wp2_with (go_at_call 27; refine (toBl_any IA ni ic ins v15 ((HI.out.below hLv15).mono hLv15.size) HNI.out hi2).mono ?_; rintro e v16 ⟨i16, rfl, _, hi16, hb16⟩)
              have hB16 := hB15.trans (hb16.mono hB15.size)
              refine hK.out _ _ (by exact HSF.out _ hB16) (fun hHeld => ?_)
              clear hK K hHeld
              have hz16v := hb16.size
              have cf16 := cf15.on hb16
              have sf16 := hs15.on hb16
              have bq16 := bt15.lt
              have bt16 := bt15.below hb16 bt15.lt
              refine wpAnyH_ready (rs := [6]) (by kernel_rfl) (by simp) ?_
              refine AllReadyH.cons rfl (fun K hK => ?_) AllReadyH.nil
              · go_simp
                have hLv16 := HL21.out.trans (hB16.mono HL21.out.size)
                go_wp2_with (go_at_call 28; refine (istepS_any _ _ _ _ n n m m nr nr ni ni N no nn ts ps rs ins eo en v16 HEO.out HEN.out HNO.out HNN.out HFU.out cf16.tl.read cf16.pd.read sf16.bools hi16.bools HN.out HM.out HNR.out HNI.out HTB.out hm2).mono ?_; rintro e v17 ⟨A117, A217, rfl, hx17, hy17, _, hb17⟩)
                have hB17 := hB16.trans (hb17.mono hB16.size)
                refine hK.out _ _ (by exact HSF.out _ hB17) (fun hHeld => ?_)
                clear hK K hHeld
                have hz17v := hb17.size
                have cf17 := cf16.on hb17
                have sf17 := sf16.on hb17
                have bi17 := hi16.on hb17
                have bq17 := bt16.lt
                have bt17 := bt16.below hb17 bt16.lt
                refine wpAnyH_ready (rs := [8]) (by kernel_rfl) (by simp) ?_
                refine AllReadyH.cons rfl (fun K hK => ?_) AllReadyH.nil
                · have b0 := bt17.cell 0
                  have b1 := bt17.cell 1
                  have f0 := bt17.frozen 0
                  have f1 := bt17.frozen 1
                  simp at b0 b1
                  go_simp
                  have hBF := (hB17.setCell (p := ⟨(World.heap v1).size, 0, none⟩) (show w21.heap.size ≤ (World.heap v1).size by omega) (.slice A117 no no)).setCell (p := ⟨(World.heap v1).size, 1, none⟩) (show w21.heap.size ≤ (World.heap v1).size by omega) (.slice A217 nn nn)
                  refine hK.out _ _ (by exact HSF.out _ hBF) (fun hHeld => ?_)
                  clear hK K hHeld
                  refine wpAnyH_done (by kernel_rfl) ?_ _
                  go_wp2_with fail
                  go_meet
                  have hrs := (bt17.set 0 (.slice A117 no no)).set 1 (.slice A217 nn nn)
                  have hx1 := ((hx17.set ⟨(World.heap v1).size, 0, none⟩ (by show (World.heap v1).size < _; omega) (.slice A117 no no)).set ⟨(World.heap v1).size, 1, none⟩ (by show (World.heap v1).size < _; omega) (.slice A217 nn nn)).bools
                  have hx2 := ((hy17.set ⟨(World.heap v1).size, 0, none⟩ (by show (World.heap v1).size < _; omega) (.slice A117 no no)).set ⟨(World.heap v1).size, 1, none⟩ (by show (World.heap v1).size < _; omega) (.slice A217 nn nn)).bools
                  exact ⟨_, (World.heap v1).size, A117, A217, no, nn, rfl, rfl, by omega, Lib.hid hrs, Lib.hid hx1, Lib.hid hx2, Lib.hid hBF⟩
      · go_simp
        obtain ⟨v19, hW19⟩ : ∃ v19, v19 = World.alloc v0 (.cells #[.slice none 0 0, .slice none 0 0] 52) := ⟨_, rfl⟩
        have hb19 : Below (World.heap v0).size v0 v19 := by rw [hW19]; exact (Below.refl _ _).alloc (Nat.le_refl _) _
        have bt19 : Row v19 (World.heap v0).size 52 #[.slice none 0 0, .slice none 0 0] := by rw [hW19]; exact row_new v0 _ _
        rw [← hW19]
        clear hW19
        have hB19 := hB0.trans (hb19.mono hB0.size)
        refine hK.out _ _ (by exact HSF.out _ hB19) (fun hHeld => ?_)
        clear hK K hHeld
        have hz19v := hb19.size
        refine wpAnyH_ready (rs := [1]) (by kernel_rfl) (by simp) ?_
        refine AllReadyH.cons rfl (fun K hK => ?_) AllReadyH.nil
        · go_simp
          have hLv19 := HL21.out.trans (hB19.mono HL21.out.size)
          go_wp2_with (go_at_call 25; refine (toConfig_any TA PA n tc m pc ts ps v19 ((HX.out.below hLv19).mono hLv19.size) ((HY.out.below hLv19).mono hLv19.size) HN.out HM.out HTB.out hm2).mono ?_; rintro e v20 ⟨g20, p20, h20, rfl, hc20, _, hb20⟩)
          have hB20 := hB19.trans (hb20.mono hB19.size)
          refine hK.out _ _ (by exact HSF.out _ hB20) (fun hHeld => ?_)
          clear hK K hHeld
          have hz20v := hb20.size
          have bq20 := bt19.lt
          have bt20 := bt19.below hb20 bt19.lt
          refine wpAnyH_ready (rs := [3]) (by kernel_rfl) (by simp) ?_
          refine AllReadyH.cons rfl (fun K hK => ?_) AllReadyH.nil
          · go_simp
            have hLv20 := HL21.out.trans (hB20.mono HL21.out.size)
            go_wp2_with (go_at_call 26; refine (toFst_any RA nr rc rs v20 ((HS.out.below hLv20).mono hLv20.size) HNR.out hr2).mono ?_; rintro e v21 ⟨s21, rfl, _, hs21, hb21⟩)
            have hB21 := hB20.trans (hb21.mono hB20.size)
            refine hK.out _ _ (by exact HSF.out _ hB21) (fun hHeld => ?_)
            clear hK K hHeld
            have hz21v := hb21.size
            have cf21 := hc20.on hb21
            have bq21 := bt20.lt
            have bt21 := bt20.below hb21 bt20.lt
            refine wpAnyH_ready (rs := [5]) (by kernel_rfl) (by simp) ?_
            refine AllReadyH.cons rfl (fun K hK => ?_) AllReadyH.nil
            · go_simp
              have hLv21 := HL21.out.trans (hB21.mono HL21.out.size)
              go_wp2_with (go_at_call 27; refine (toBl_any IA ni ic ins v21 ((HI.out.below hLv21).mono hLv21.size) HNI.out hi2).mono ?_; rintro e v22 ⟨i22, rfl, _, hi22, hb22⟩)
              have hB22 := hB21.trans (hb22.mono hB21.size)
              refine hK.out _ _ (by exact HSF.out _ hB22) (fun hHeld => ?_)
              clear hK K hHeld
              have hz22v := hb22.size
              have cf22 := cf21.on hb22
              have sf22 := hs21.on hb22
              have bq22 := bt21.lt
              have bt22 := bt21.below hb22 bt21.lt
              refine wpAnyH_ready (rs := [6]) (by kernel_rfl) (by simp) ?_
              refine AllReadyH.cons rfl (fun K hK => ?_) AllReadyH.nil
              · go_simp
                have hLv22 := HL21.out.trans (hB22.mono HL21.out.size)
                go_wp2_with (go_at_call 28; refine (istepS_any _ _ _ _ n n m m nr nr ni ni N no nn ts ps rs ins eo en v22 HEO.out HEN.out HNO.out HNN.out HFU.out cf22.tl.read cf22.pd.read sf22.bools hi22.bools HN.out HM.out HNR.out HNI.out HTB.out hm2).mono ?_; rintro e v23 ⟨A123, A223, rfl, hx23, hy23, _, hb23⟩)
                have hB23 := hB22.trans (hb23.mono hB22.size)
                refine hK.out _ _ (by exact HSF.out _ hB23) (fun hHeld => ?_)
                clear hK K hHeld
                have hz23v := hb23.size
                have cf23 := cf22.on hb23
                have sf23 := sf22.on hb23
                have bi23 := hi22.on hb23
                have bq23 := bt22.lt
                have bt23 := bt22.below hb23 bt22.lt
                refine wpAnyH_ready (rs := [8]) (by kernel_rfl) (by simp) ?_
                refine AllReadyH.cons rfl (fun K hK => ?_) AllReadyH.nil
                · have b0 := bt23.cell 0
                  have b1 := bt23.cell 1
                  have f0 := bt23.frozen 0
                  have f1 := bt23.frozen 1
                  simp at b0 b1
                  go_simp
                  have hBF := (hB23.setCell (p := ⟨(World.heap v0).size, 0, none⟩) (show w21.heap.size ≤ (World.heap v0).size by omega) (.slice A123 no no)).setCell (p := ⟨(World.heap v0).size, 1, none⟩) (show w21.heap.size ≤ (World.heap v0).size by omega) (.slice A223 nn nn)
                  refine hK.out _ _ (by exact HSF.out _ hBF) (fun hHeld => ?_)
                  clear hK K hHeld
                  refine wpAnyH_done (by kernel_rfl) ?_ _
                  go_wp2_with fail
                  go_meet
                  have hrs := (bt23.set 0 (.slice A123 no no)).set 1 (.slice A223 nn nn)
                  have hx1 := ((hx23.set ⟨(World.heap v0).size, 0, none⟩ (by show (World.heap v0).size < _; omega) (.slice A123 no no)).set ⟨(World.heap v0).size, 1, none⟩ (by show (World.heap v0).size < _; omega) (.slice A223 nn nn)).bools
                  have hx2 := ((hy23.set ⟨(World.heap v0).size, 0, none⟩ (by show (World.heap v0).size < _; omega) (.slice A123 no no)).set ⟨(World.heap v0).size, 1, none⟩ (by show (World.heap v0).size < _; omega) (.slice A223 nn nn)).bools
                  exact ⟨_, (World.heap v0).size, A123, A223, no, nn, rfl, rfl, by omega, Lib.hid hrs, Lib.hid hx1, Lib.hid hx2, Lib.hid hBF⟩
    case rest =>
      obtain ⟨w22, ch, D1, D2, d1, d2, hwz, rfl, hch, HH22, hV22, hX22, hb22⟩ := hcut
      subst hwz
      have hb22 := hb22.out
      clear q0 q1 t0 hrz hqz
      have hqs122 : s1 ≤ w22.heap.size := Nat.le_trans hqs121 hb22.size
      have hqs222 : s2 ≤ w22.heap.size := Nat.le_trans hqs221 hb22.size
      have HL22 := Lib.hid (HL21.out.trans (hb22.mono HL21.out.size))
      have HR22 := Lib.hid (HR21.out.below hb22 HR21.out.lt)
      have HQ22 := Lib.hid (HQ21.out.below hb22 HQ21.out.lt)
      have HP22 := Lib.hid (HP21.out.below hb22 HP21.out.lt)
      have HW22 := Lib.hid (HW21.out.below (hb22.mono (by omega)))
      have HU22 := Lib.hid (HU21.out.below (hb22.mono (by omega)))
      have HK22 := Lib.hid (HK21.out.below hb22 HK21.out.lt)
      have HE22 := Lib.hid (HE21.out.on hb22)
      clear hb22 HL21 HR21 HQ21 HP21 HW21 HU21 HK21 HE21 hqs121 hqs221
      have h0 := HH22.out.cell 0
      have h1 := HH22.out.cell 1
      simp at h0 h1
      have v0 := HP22.out.cell 0
      have v1 := HP22.out.cell 1
      simp at v0 v1
      go_wp2_with fail
      refine (eqFstep_any D1 D2 A1 A2 no nn _ _ _ _ eo en _ HNO.out HNN.out hV22.out hX22.out (HW22.out.mono hqs122) (HU22.out.mono hqs122) (by omega) (by omega)).mono ?_
      rintro e w23 ⟨rfl, hb23⟩
      clear h0 h1 v0 v1 HH22 hV22 hX22
      have hqs123 : s1 ≤ w23.heap.size := Nat.le_trans hqs122 hb23.size
      have hqs223 : s2 ≤ w23.heap.size := Nat.le_trans hqs222 hb23.size
      have HL23 := Lib.hid (HL22.out.trans (hb23.mono HL22.out.size))
      have HR23 := Lib.hid (HR22.out.below hb23 HR22.out.lt)
      have HQ23 := Lib.hid (HQ22.out.below hb23 HQ22.out.lt)
      have HP23 := Lib.hid (HP22.out.below hb23 HP22.out.lt)
      have HW23 := Lib.hid (HW22.out.below (hb23.mono (by omega)))
      have HU23 := Lib.hid (HU22.out.below (hb23.mono (by omega)))
      have HK23 := Lib.hid (HK22.out.below hb23 HK22.out.lt)
      have HE23 := Lib.hid (HE22.out.on hb23)
      clear hb23 HL22 HR22 HQ22 HP22 HW22 HU22 HK22 HE22 hqs122 hqs222
      have r0 := HK23.out.cell 0
      have r1 := HK23.out.cell 1
      simp at r0 r1
      go_wp2_with fail
      rw [show (1 : Int) = ((1 : Nat) : Int) from rfl]
      refine (heldFstep_any E1 E2 s2 no nn 1 _ HE23.out (by omega) (by omega) (by omega)).mono ?_
      rw [HMM.out]
      rintro e w24 ⟨rfl, hb24⟩
      clear r0 r1
      have hqs124 : s1 ≤ w24.heap.size := Nat.le_trans hqs123 hb24.size
      have hqs224 : s2 ≤ w24.heap.size := Nat.le_trans hqs223 hb24.size
      have HL24 := Lib.hid (HL23.out.trans (hb24.mono HL23.out.size))
      have HR24 := Lib.hid (HR23.out.below hb24 HR23.out.lt)
      have HQ24 := Lib.hid (HQ23.out.below hb24 HQ23.out.lt)
      have HP24 := Lib.hid (HP23.out.below hb24 HP23.out.lt)
      have HW24 := Lib.hid (HW23.out.below (hb24.mono (by omega)))
      have HU24 := Lib.hid (HU23.out.below (hb24.mono (by omega)))
      have HK24 := Lib.hid (HK23.out.below hb24 HK23.out.lt)
      have HE24 := Lib.hid (HE23.out.on hb24)
      clear hb24 HL23 HR23 HQ23 HP23 HW23 HU23 HK23 HE23 hqs123 hqs223
      go_wp2
      go_ret
      exact ⟨rfl, HL24.out⟩
end Go.Proofs.Ytdadokcodklfgaa
