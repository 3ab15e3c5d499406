/- The walk of the law FnCells. -/
import Derived.Test.YthcpgbfghededaaFC
namespace Go.Proofs.Ythcpgbfghededaa
open Go.RowKit Go.Deep Cut
set_option maxRecDepth 100000

theorem svalid_x (i : Int) (nA gA oA : Option Addr) (nc gc oc : Nat) (ns : List Int) (gs : List (Int × Int)) (os : List Int) (v : Bool) (w : World) (hv : Circ.validB i ns gs os = v) (hc : CircAt w w.heap.size nA gA oA ns gs os) :
    Calls Try.prog 15 #[.agg #[.int .i64 i, .slice nA ns.length nc, .slice gA gs.length gc, .slice oA os.length oc]] w fun e w' => e = .returned (.bool v) ∧ Below w.heap.size w w' := by
  subst hv
  exact svalid_any i nA gA oA nc gc oc ns gs os w hc
theorem Try.state_field (A1 A2 : Option Addr) (n1 c1 n2 c2 : Nat) (w : World) : (Instr.field 47 (.agg #[.slice A1 n1 c1, .slice A2 n2 c2]) 1).run Try.prog w = .ok (.slice A2 n2 c2) w := by kernel_rfl
theorem two_kept {w w' : World} {b c : Nat} {o1 o2 : Nat} {x y z : Value} (h : Below w.heap.size w w') (hb : b < w.heap.size) (hc : c < w.heap.size) (s : w.cell? ⟨b, o1, none⟩ = some x ∧ w.cell? ⟨b, o2, none⟩ = some y ∧ w.cell? ⟨c, 1, none⟩ = some z) : w'.cell? ⟨b, o1, none⟩ = some x ∧ w'.cell? ⟨b, o2, none⟩ = some y ∧ w'.cell? ⟨c, 1, none⟩ = some z :=
  ⟨(h.cell (by exact hb)).trans s.1, (h.cell (by exact hb)).trans s.2.1, (h.cell (by exact hc)).trans s.2.2⟩
theorem five_kept {w w' : World} {b b' c : Nat} {o1 o2 o3 o4 : Nat} {x1 x2 x3 x4 z : Value} (h : Below w.heap.size w w') (hb : b < w.heap.size) (hb' : b' < w.heap.size) (hc : c < w.heap.size) (s : w.cell? ⟨b, o1, none⟩ = some x1 ∧ w.cell? ⟨b, o2, none⟩ = some x2 ∧ w.cell? ⟨b', o3, none⟩ = some x3 ∧ w.cell? ⟨b', o4, none⟩ = some x4 ∧ w.cell? ⟨c, 1, none⟩ = some z) : w'.cell? ⟨b, o1, none⟩ = some x1 ∧ w'.cell? ⟨b, o2, none⟩ = some x2 ∧ w'.cell? ⟨b', o3, none⟩ = some x3 ∧ w'.cell? ⟨b', o4, none⟩ = some x4 ∧ w'.cell? ⟨c, 1, none⟩ = some z :=
  ⟨(h.cell (by exact hb)).trans s.1, (h.cell (by exact hb)).trans s.2.1, (h.cell (by exact hb')).trans s.2.2.1, (h.cell (by exact hb')).trans s.2.2.2.1, (h.cell (by exact hc)).trans s.2.2.2.2⟩

set_option maxHeartbeats 8000000 in
theorem fcells_walk (A : Option Addr) (bl bc : Nat) (w : World) (hb : CodeAt w A bl) (hbl : bl ≤ bc) (hbc : bc ≤ maxLen) :
    Calls Try.prog 5 #[.slice A bl bc] w fun e w' => e = .returned (.bool true) ∧ Below w.heap.size w w' := by
  have HB := Lib.hid hb
  have HBC := Lib.hid hbc
  unfold maxLen at hbc
  clear hb
  by_cases hsz : 1048576 < bl
  · go_enter Try.func5, Try.ntmps5
    go_wp2
    go_ret
    exact ⟨rfl, Below.refl _ _⟩
  · go_enter Try.func5, Try.ntmps5
    go_wp2_with fail
    refine (drawCells_any A bl bc _ HB.out hbl HBC.out).mono ?_
    rintro e w1 ⟨i, nA, gA, oA, nc, gc, oc, ns, gs, os, rfl, hC1, hn, hg, ho, hcap, hb1⟩
    have hbB : Below w1.heap.size w1 (w1.alloc (.cells #[.int .i64 i, .slice nA ns.length nc, .slice gA gs.length gc, .slice oA os.length oc] 26)) := (Below.refl _ _).alloc (Nat.le_refl _) _
    have HC2 := Lib.hid ((hC1.below hbB).mono hbB.size)
    have HL2 := Lib.hid (hb1.trans (hbB.mono hb1.size))
    have HR2 := Lib.hid (Boxed.new w1 i nA gA oA ns.length nc gs.length gc os.length oc 26)
    have hlt2 : w1.heap.size < (w1.alloc (.cells #[.int .i64 i, .slice nA ns.length nc, .slice gA gs.length gc, .slice oA os.length oc] 26)).heap.size := by simp
    clear hC1 hb1 hbB HB HBC hbc
    go_upto_region 4 with fail
    generalize w1.alloc (.cells #[.int .i64 i, .slice nA ns.length nc, .slice gA gs.length gc, .slice oA os.length oc] 26) = w2 at *
    generalize w1.heap.size = ca at *
    have q0 := HR2.out.c0
    have q1 := HR2.out.c1
    have q2 := HR2.out.c2
    have q3 := HR2.out.c3
    go_wp2_with fail
    refine (icells_w i nA gA oA nc gc oc ns gs os _ HC2.out hcap).mono ?_
    rintro e w3 ⟨A1, c1, rfl, hx3, hb3⟩
    have hbd := cellsV_bdx i ns gs os
    obtain ⟨ce, hce⟩ : ∃ ce, cellsV i ns gs os = ce := ⟨_, rfl⟩
    rw [hce] at hx3 hbd ⊢
    obtain ⟨n, hn'⟩ : ∃ n, ce.length = n := ⟨_, rfl⟩
    rw [hn'] at hbd ⊢
    obtain ⟨hn17, hbl'⟩ := hbd
    have HCE := Lib.hid hce
    have HN := Lib.hid hn'
    have HBL := Lib.hid hbl'
    have HX3 := Lib.hid hx3
    have HC3 := Lib.hid ((HC2.out.below hb3).mono hb3.size)
    have HL3 := Lib.hid (HL2.out.trans (hb3.mono HL2.out.size))
    have HR3 := Lib.hid (HR2.out.below hb3 hlt2)
    have hlt3 : ca < w3.heap.size := by have := hb3.size; omega
    clear hx3 hn' hce hbl' hb3 HC2 HL2 HR2 q0 q1 q2 q3 hlt2
    have q0 := HR3.out.c0
    have q1 := HR3.out.c1
    have q2 := HR3.out.c2
    have q3 := HR3.out.c3
    go_upto_region 5 with fail
    go_wp2_with fail
    refine (scells_v i nA gA oA nc gc oc ns gs os _ HC3.out).mono ?_
    rintro e w4 ⟨A2, c2, rfl, hy4, hb4⟩
    rw [HCE.out] at hy4
    rw [HCE.out, HN.out]
    have HY4 := Lib.hid hy4
    have HX4 := Lib.hid ((HX3.out.below hb4).mono hb4.size)
    have HC4 := Lib.hid ((HC3.out.below hb4).mono hb4.size)
    have HL4 := Lib.hid (HL3.out.trans (hb4.mono HL3.out.size))
    have HR4 := Lib.hid (HR3.out.below hb4 hlt3)
    have hlt4 : ca < w4.heap.size := by have := hb4.size; omega
    clear hy4 hb4 HX3 HC3 HL3 HR3 q0 q1 q2 q3 hlt3
    go_wp2_with fail
    refine (sameCells_any A1 A2 n c1 c2 ce _ HX4.out HY4.out HN.out (by omega) HBL.out).mono ?_
    rintro e w5 ⟨rfl, hb5⟩
    have HX5 := Lib.hid ((HX4.out.below hb5).mono hb5.size)
    have HC5 := Lib.hid ((HC4.out.below hb5).mono hb5.size)
    have HL5 := Lib.hid (HL4.out.trans (hb5.mono HL4.out.size))
    have HR5 := Lib.hid (HR4.out.below hb5 hlt4)
    have hlt5 : ca < w5.heap.size := by have := hb5.size; omega
    clear hb5 HX4 HC4 HL4 HR4 HY4 hlt4
    have q0 := HR5.out.c0
    have q1 := HR5.out.c1
    have q2 := HR5.out.c2
    have q3 := HR5.out.c3
    cases hv : Circ.validB i ns gs os
    · have HV := Lib.hid hv
      have hn0 : n = 0 := by rw [← HN.out, ← HCE.out, cellsV_f hv]; rfl
      subst hn0
      clear hv
      go_upto_region 7 with fail
      go_wp2_with (first
        | (go_at_call 15; refine (svalid_x i nA gA oA nc gc oc ns gs os false _ HV.out HC5.out).mono ?_; rintro e w6 ⟨rfl, hb6⟩)
        | (go_at_call 16; refine (alive_any _).mono ?_; rintro e w7 ⟨rfl, hb7⟩))
      go_ret
      exact ⟨rfl, (HL5.out.trans (hb6.mono HL5.out.size)).trans (hb7.mono (Nat.le_trans HL5.out.size hb6.size))⟩
    · have HV := Lib.hid hv
      obtain ⟨h0, h1, h2, h3, h4⟩ := Circ.valid_within hv
      clear hv
      obtain ⟨mi, rfl⟩ := Int.eq_ofNat_of_zero_le h0
      go_upto_region 7 with fail
      go_wp2_with fail
      refine (svalid_x mi nA gA oA nc gc oc ns gs os true _ HV.out HC5.out).mono ?_
      rintro e w6 ⟨rfl, hb6⟩
      have HX6 := Lib.hid ((HX5.out.below hb6).mono hb6.size)
      have HC6 := Lib.hid ((HC5.out.below hb6).mono hb6.size)
      have HL6 := Lib.hid (HL5.out.trans (hb6.mono HL5.out.size))
      have HR6 := Lib.hid (HR5.out.below hb6 hlt5)
      have hlt6 : ca < w6.heap.size := by have := hb6.size; omega
      clear hb6 HX5 HC5 HL5 HR5 q0 q1 q2 q3 hlt5
      have q0 := HR6.out.c0
      have q1 := HR6.out.c1
      have q2 := HR6.out.c2
      have q3 := HR6.out.c3
      go_upto_region 9 with fail
      go_wp2_with fail
      refine (imap_v mi nA gA oA nc gc oc ns gs os _ HC6.out hcap).mono ?_
      rintro e w7 ⟨A3, c3, rfl, hu7, hb7⟩
      obtain ⟨es, hes⟩ : ∃ es, mapV mi ns gs os = es := ⟨_, rfl⟩
      have hat := cellsV_at HV.out
      have hup := cells_up HV.out
      have hin := cellsV_in HV.out
      have hmb := mapV_bd mi ns gs os
      rw [hes] at hu7 hat hmb ⊢
      rw [HCE.out] at hat hup hin
      obtain ⟨n2, hn2⟩ : ∃ n2, es.length = n2 := ⟨_, rfl⟩
      rw [hn2, HN.out] at hat
      rw [HN.out] at hin
      rw [hn2] at hmb ⊢
      obtain ⟨a1, a2, a3⟩ := hat
      have HES := Lib.hid hn2
      have HA2 := Lib.hid a2
      have HA3 := Lib.hid a3
      have HUP := Lib.hid hup
      have HIN := Lib.hid hin
      have HMB := Lib.hid hmb.2
      have hn2b : n2 ≤ 14 := hmb.1
      have HU7 := Lib.hid hu7
      have HX7 := Lib.hid ((HX6.out.below hb7).mono hb7.size)
      have HC7 := Lib.hid ((HC6.out.below hb7).mono hb7.size)
      have HL7 := Lib.hid (HL6.out.trans (hb7.mono HL6.out.size))
      have HR7 := Lib.hid (HR6.out.below hb7 hlt6)
      have hlt7 : ca < w7.heap.size := by have := hb7.size; omega
      clear hes hup hin hmb a2 a3 hn2 hu7 hb7 HX6 HC6 HL6 HR6 q0 q1 q2 q3 hlt6
      have q1 := HR7.out.c1
      have z1 : ((n : Int) != (ns.length : Int) + (n2 : Int)) = false := by simp; omega
      have hnn1 : n ≤ ns.length + n2 := by omega
      have hnn2 : ns.length + n2 ≤ n := by omega
      clear a1
      go_upto_region 12 with fail
      clear z1 q1
      have hba : Below w7.heap.size w7 (w7.alloc (.cells #[] 3)) := (Below.refl _ _).alloc (Nat.le_refl _) _
      have HT0 : Hid (TimesAt (w7.alloc (.cells #[] 3)) w7.heap.size ((ce.take 0).map (·.1)) w7.heap.size 0) := Lib.hid (World.ownsRow_lit (base := w7.heap.size) (e := 3) (size := 1) w7 #[] 0 (Nat.le_refl _) (by simp [maxLen]) (by simp))
      have HX0 := Lib.hid hba
      clear hba
      go_upto_region 14 with fail
      generalize w7.alloc (.cells #[] 3) = w8 at *
      go_loopw [6, 7] (fun pv kv wr => ∃ (k g cap : Nat), k ≤ n ∧ kv = .int .i64 k ∧ pv = .slice (some ⟨g, 0, none⟩) k cap ∧ Hid (TimesAt wr w7.heap.size ((ce.take k).map (·.1)) g cap) ∧ Hid (Below w7.heap.size w7 wr)) (fun _ kv _ => n - (intOf kv).toNat)
      case atStart => exact ⟨0, _, _, Nat.zero_le _, rfl, rfl, HT0, HX0⟩
      case round =>
        clear HT0 HX0
        obtain ⟨k, g, cap, hk, rfl, rfl, HT, HBr⟩ := hrel
        by_cases hlt : k < n
        · have hkl : k < ce.length := by rw [HN.out]; exact hlt
          obtain ⟨b, off, rfl, hbl, B1, d1, p0, p1, ⟨p2, p3⟩, hbA⟩ := HX7.out k hkl
          have HNW := Lib.hid (nets_new HUP.out hkl)
          have HNS := Lib.hid (nets_snoc hkl)
          have HTL : Hid (((ce.take k).map (·.1)).length = k) := Lib.hid (by rw [List.length_map, List.length_take, HN.out]; omega)
          obtain ⟨t1, t2, t3⟩ := HBL.out k hlt
          have hz := HBr.out.size
          have hgb := HT.out.gb
          have hblr : b < wr.heap.size := by omega
          have hlr : ca < wr.heap.size := by omega
          have HRr := Lib.hid (HR7.out.below HBr.out hlt7)
          have q1 := HRr.out.c1
          have g0 := (HBr.out.cell (p := ⟨b, off + k * 4, none⟩) hbl).trans p0
          have g1 := (HBr.out.cell (p := ⟨b, off + k * 4 + 1, none⟩) hbl).trans p1
          have g3 := (HBr.out.cell (p := ⟨b, off + k * 4 + 3, none⟩) hbl).trans p3
          have G0 := Lib.hid p0
          have G1 := Lib.hid p1
          have HBA := Lib.hid hbA
          have HVR : Hid ((k < ns.length → (ce.getD k (0, [], 0, false)).2.2.2 = true) ∧ (ns.length ≤ k → (ce.getD k (0, [], 0, false)).2.2.2 = false ∧ (ce.getD k (0, [], 0, false)).1 = (es.getD (k - ns.length) (0, [], 0)).1 ∧ (ce.getD k (0, [], 0, false)).2.1 = (es.getD (k - ns.length) (0, [], 0)).2.1)) := Lib.hid (by
            refine ⟨fun h => by rw [HA2.out k h], fun h => ?_⟩
            have h5 := HA3.out (k - ns.length) (by omega)
            rw [show ns.length + (k - ns.length) = k by omega] at h5
            rw [h5]
            exact ⟨rfl, rfl, rfl⟩)
          clear p0 p1 p2 p3 hbA
          generalize (ce.getD k (0, [], 0, false)).2.2.1 = t at *
          generalize (ce.getD k (0, [], 0, false)).2.2.2 = r at *
          generalize (ce.getD k (0, [], 0, false)).2.1 = y at *
          generalize (ce.getD k (0, [], 0, false)).1 = v at *
          obtain ⟨m, hm⟩ : ∃ m, y.length = m := ⟨_, rfl⟩
          rw [hm] at g1 t2 G1
          have HM := Lib.hid hm
          have hk0 : (0 : Int) ≤ (k : Int) := Int.natCast_nonneg _
          have hk1 : (k : Int) < (n : Int) := by omega
          have hHS := Lib.hid (And.intro g0 (And.intro g3 q1))
          clear hm
          by_cases hkr : k < ns.length
          · obtain rfl : r = true := HVR.out.1 hkr
            have z2 : decide ((k : Int) < (ns.length : Int)) = true := by simp; omega
            have z3 : decide (k < ns.length) = true := by simpa using hkr
            have z4 : decide ((ns.length : Int) ≤ (k : Int)) = false := by simp; omega
            have z5 : decide (ns.length ≤ k) = false := by simp; omega
            go_upto_region 16 with fail
            go_region_held3 (fun w' => w'.cell? ⟨b, off + k * 4, none⟩ = some (.int .i64 v) ∧ w'.cell? ⟨b, off + k * 4 + 3, none⟩ = some (.bool true) ∧ w'.cell? ⟨ca, 1, none⟩ = some (.slice nA ns.length nc))
              (first | (with_reducible assumption) | go_keep)
              (first | (go_at_call 17; refine (lawHas_any _ k cap _ _ v _ (TimesAt.ints (w := wr.drew) (HT.out.keep rfl)) HTL.out (by omega)).mono ?_; rintro e w9 ⟨rfl, hw9⟩; obtain rfl := hw9; rw [HNW.out]))
            rename_i _hh16
            clear _hh16 g0 g1 g3 q1 hHS
            have HBd := Lib.hid (show Below w7.heap.size w7 wr.drew from HBr.out.drew)
            have HTd : Hid (TimesAt wr.drew w7.heap.size ((ce.take k).map (·.1)) g cap) := Lib.hid (HT.out.keep rfl)
            have hzd : wr.heap.size ≤ wr.drew.heap.size := Nat.le_refl _
            generalize wr.drew = wd at *
            have g0 := (HBd.out.cell (p := ⟨b, off + k * 4, none⟩) hbl).trans G0.out
            generalize (ce.take k).map (·.1) = vs at *
            go_wp2_with (at_builtin; refine wpList_pushT rfl (.tmp 74) (.tmp 80) rfl _ w7.heap.size g cap k vs rfl HTL.out HTd.out (by omega) v _ rfl rfl ?_)
            intro g' cap' w9 hT9 hb9 _ _
            have HT9 := Lib.hid hT9
            have HB9 := Lib.hid (HBd.out.trans hb9)
            have hz9 := hb9.size
            clear hT9 hb9 HBd HTd g0 HT HBr
            have HR9 := Lib.hid (HR7.out.below HB9.out hlt7)
            have q1 := HR9.out.c1
            go_upto_region 19 with fail
            go_quiet (fail)
            clear z2 z3 z4 z5
            go_wp2
            go_roundw
            case rel => exact ⟨k + 1, g', cap', by omega, by go_num, rfl, by rw [HNS.out]; exact Lib.hid (HT9.out.keep ((below_drewN (Below.refl w9.heap.size w9) _).block g' HT9.out.gb.2)), Lib.hid (below_drewN HB9.out _)⟩
            case measure => simp [intOf]; omega
          · have hkr' : ns.length ≤ k := by omega
            obtain ⟨r1, r2, r3⟩ := HVR.out.2 hkr'
            subst r1
            have R2 := Lib.hid r2
            have R3 := Lib.hid r3
            clear r2 r3
            have z2 : decide ((k : Int) < (ns.length : Int)) = false := by simp; omega
            have z3 : decide (k < ns.length) = false := by simpa using hkr
            have z4 : decide ((ns.length : Int) ≤ (k : Int)) = true := by simp; omega
            have z5 : decide (ns.length ≤ k) = true := by simpa using hkr'
            go_upto_region 16 with fail
            go_region_held3 (fun w' => w'.cell? ⟨b, off + k * 4, none⟩ = some (.int .i64 v) ∧ w'.cell? ⟨b, off + k * 4 + 3, none⟩ = some (.bool false) ∧ w'.cell? ⟨ca, 1, none⟩ = some (.slice nA ns.length nc))
              (first | (with_reducible assumption) | go_keep)
              (first | (go_at_call 17; refine (lawHas_any _ k cap _ _ v _ (TimesAt.ints (w := wr.drew) (HT.out.keep rfl)) HTL.out (by omega)).mono ?_; rintro e w9 ⟨rfl, hw9⟩; obtain rfl := hw9; rw [HNW.out]))
            rename_i _hh16
            clear _hh16 g0 g1 g3 q1 hHS
            have HBd := Lib.hid (show Below w7.heap.size w7 wr.drew from HBr.out.drew)
            have HTd : Hid (TimesAt wr.drew w7.heap.size ((ce.take k).map (·.1)) g cap) := Lib.hid (HT.out.keep rfl)
            have hzd : wr.heap.size ≤ wr.drew.heap.size := Nat.le_refl _
            generalize wr.drew = wd at *
            have g0 := (HBd.out.cell (p := ⟨b, off + k * 4, none⟩) hbl).trans G0.out
            generalize (ce.take k).map (·.1) = vs at *
            go_wp2_with (at_builtin; refine wpList_pushT rfl (.tmp 74) (.tmp 80) rfl _ w7.heap.size g cap k vs rfl HTL.out HTd.out (by omega) v _ rfl rfl ?_)
            intro g' cap' w9 hT9 hb9 _ _
            have HT9 := Lib.hid hT9
            have HB9 := Lib.hid (HBd.out.trans hb9)
            have hz9 := hb9.size
            clear hT9 hb9 HBd HTd g0 HT HBr
            have HR9 := Lib.hid (HR7.out.below HB9.out hlt7)
            have q1 := HR9.out.c1
            obtain ⟨j, hj⟩ : ∃ j, k - ns.length = j := ⟨_, rfl⟩
            have r2 := R2.out
            have r3 := R3.out
            rw [hj] at r2 r3
            have hjn : j < n2 := by omega
            obtain ⟨b', off', hbo, hbl', B2, d2, u0, u1, u2, hbB⟩ := HU7.out j (by rw [HES.out]; exact hjn)
            subst hbo
            rw [← r3] at u1 hbB
            rw [HM.out] at u1
            rw [← r2] at u0
            have g0 := (HB9.out.cell (p := ⟨b, off + k * 4, none⟩) hbl).trans G0.out
            have g1 := (HB9.out.cell (p := ⟨b, off + k * 4 + 1, none⟩) hbl).trans G1.out
            have v0 := (HB9.out.cell (p := ⟨b', off' + j * 3, none⟩) hbl').trans u0
            have v1 := (HB9.out.cell (p := ⟨b', off' + j * 3 + 1, none⟩) hbl').trans u1
            have HBA9 := Lib.hid ((HBA.out.below HB9.out).mono HB9.out.size)
            have HBB9 := Lib.hid ((hbB.below HB9.out).mono HB9.out.size)
            have hb9 : b < w9.heap.size := by omega
            have hb9' : b' < w9.heap.size := by omega
            have hca9 : ca < w9.heap.size := by omega
            have hHS := Lib.hid (And.intro g0 (And.intro g1 (And.intro v0 (And.intro v1 q1))))
            have e1 : (k : Int) - (ns.length : Int) = (j : Int) := by omega
            have e2 : (0 : Int) ≤ (j : Int) := by omega
            have e3 : (j : Int) < (n2 : Int) := by omega
            have e4 : IntKind.i64.wrap (j : Int) = (j : Int) := IntWalk.i64_in _ (by omega)
            have e5 : IntKind.i64.wrap ((k : Int) - (ns.length : Int)) = (j : Int) := by rw [e1]; exact e4
            clear u0 u1 u2 hbB r2 r3 hj
            go_upto_region 19 with fail
            go_region_held3 (fun w' => w'.cell? ⟨b, off + k * 4, none⟩ = some (.int .i64 v) ∧ w'.cell? ⟨b, off + k * 4 + 1, none⟩ = some (.slice B1 m d1) ∧ w'.cell? ⟨b', off' + j * 3, none⟩ = some (.int .i64 v) ∧ w'.cell? ⟨b', off' + j * 3 + 1, none⟩ = some (.slice B2 m d2) ∧ w'.cell? ⟨ca, 1, none⟩ = some (.slice nA ns.length nc))
              (first | (with_reducible assumption) | go_keep)
              (first | (go_at_call 14; refine (sameI_ln B1 B2 m m d1 d2 (Opt.intL y) _ ?_ ?_ ?_ ?_ ?_).mono ?_; (rw [Opt.intL_len]; exact HM.out); (rw [Opt.intL_len]; exact HM.out); (exact HBA9.out.below (Below.refl _ w9).drew); (exact HBB9.out.below (Below.refl _ w9).drew); (omega); rintro e w10 ⟨rfl, hb10⟩; have hS10 := five_kept hb10 hb9 hb9' hca9 hHS.out))
            rename_i _hh19
            clear _hh19 z2 z3 z4 z5 e1 e2 e3 e4 e5 hS10 hHS g0 g1 v0 v1 q1
            have hzz : w7.heap.size ≤ w9.heap.size := HB9.out.size
            have HT10 := Lib.hid (HT9.out.keep (w' := w10) (hb10.block g' (by have := HT9.out.gb; exact this.2)))
            have HB10 := Lib.hid (HB9.out.drew.trans (hb10.mono hzz))
            clear hb10
            go_wp2
            go_roundw
            case rel => exact ⟨k + 1, g', cap', by omega, by go_num, rfl, by rw [HNS.out]; exact HT10, HB10⟩
            case measure => simp [intOf]; omega
        · obtain rfl : k = n := by omega
          have HC8 := Lib.hid ((HC7.out.below HBr.out).mono HBr.out.size)
          have HX8 := Lib.hid ((HX7.out.below HBr.out).mono HBr.out.size)
          have HL8 := Lib.hid (HL7.out.trans (HBr.out.mono HL7.out.size))
          have HR8 := Lib.hid (HR7.out.below HBr.out hlt7)
          have hlt8 : ca < wr.heap.size := by have := HBr.out.size; omega
          clear HC7 HX7 HL7 HR7 hlt7 HBr HT HU7 HMB HUP
          obtain ⟨M, HME, hM, hM1⟩ : ∃ M : Nat, Hid (M = 2 ^ (mi + ns.length)) ∧ wrap64 (2 ^ (mi + ns.length)) = (M : Int) ∧ M ≤ 128 := by
            have h128 : 2 ^ (mi + ns.length) ≤ 2 ^ 7 := Nat.pow_le_pow_right (by decide) (by omega)
            have e : ((2 : Int) ^ (mi + ns.length)) = ((2 ^ (mi + ns.length) : Nat) : Int) := by simp
            refine ⟨2 ^ (mi + ns.length), Lib.hid rfl, ?_, by simpa using h128⟩
            rw [e]
            generalize (2 ^ (mi + ns.length) : Nat) = q at *
            unfold wrap64
            omega
          have HHM := Lib.hid hM
          have hmi4 : mi ≤ 4 := by omega
          obtain ⟨Z, HZ, hZ1⟩ : ∃ Z : Nat, Hid (Z = 1 + mi + ns.length + gs.length) ∧ Z ≤ 22 := ⟨_, Lib.hid rfl, by omega⟩
          have HLIT : Hid (∀ j, j < ns.length → ∃ l : Nat, ns.getD j 0 = (l : Int) ∧ (Opt.natL ns).getD j 0 = l) := Lib.hid (fun j hj => by
            have h := Circ.litsOk_get (Circ.valid_next HV.out) hj
            exact ⟨_, natL_get ns j hj (by omega), rfl⟩)
          have HINZ : Hid (∀ j, j < k → ∀ l, l ∈ (ce.getD j (0, [], 0, false)).2.1 → l < Z) := Lib.hid (fun j hj l hl => by
            have h := (HIN.out j hj).2 l hl
            have hz := HZ.out
            unfold Opt.fst at h
            omega)
          have HZER : Hid (∀ st ins : List Bool, st.length = ns.length → ins.length = mi → (Circ.valsOf gs st ins).getD 0 false = false) := Lib.hid (fun st ins h1 h2 => (Opt.sem_vals (f := 1 + mi + ns.length) st ins (by omega) (by rw [show ((1 + mi + ns.length : Nat) : Int) = 1 + (mi : Int) + ns.length by omega]; exact Circ.valid_gates HV.out)).zero)
          have HNK := HN
          clear hM HIN HA3 HN
          go_upto_region 22 with fail
          go_loopw [8] (fun xv wr => ∃ (X : Nat), X ≤ M ∧ xv = .int .i64 X ∧ Hid (CircAt wr wr.heap.size nA gA oA ns gs os) ∧ Hid (CeIn wr wr.heap.size A1 ce) ∧ Hid (Below w.heap.size w wr) ∧ Hid (Boxed wr ca mi nA gA oA ns.length nc gs.length gc os.length oc) ∧ ca < wr.heap.size) (fun xv _ => M - (intOf xv).toNat)
          case atStart => exact ⟨0, Nat.zero_le _, rfl, HC8, HX8, HL8, HR8, hlt8⟩
          case round =>
            clear HC8 HX8 HL8 HR8 hlt8
            obtain ⟨X, hX, rfl, HCx, HXx, HLx, HRx, hltx⟩ := hrel
            have q0 := HRx.out.c0
            have q1 := HRx.out.c1
            have q2 := HRx.out.c2
            have q3 := HRx.out.c3
            have hM := HHM.out
            by_cases hltX : X < M
            · obtain ⟨kd, hkd, hkd1⟩ : ∃ kd : Nat, (X : Int) / 2 ^ mi = (kd : Int) ∧ kd ≤ X := ⟨X / 2 ^ mi, shr_nat X mi, Nat.div_le_self _ _⟩
              have hkd0 : (0 : Int) ≤ (X : Int) / 2 ^ mi := by omega
              obtain ⟨st, HST, HSL⟩ : ∃ st, Hid (Circ.bitsN kd ns.length = st) ∧ Hid (st.length = ns.length) := ⟨_, Lib.hid rfl, Lib.hid (Circ.bitsN_len _ _)⟩
              obtain ⟨ins, HINS, HIL⟩ : ∃ ins, Hid (Circ.bitsN X mi = ins) ∧ Hid (ins.length = mi) := ⟨_, Lib.hid rfl, Lib.hid (Circ.bitsN_len _ _)⟩
              go_upto_region 24 with fail
              clear hM
              go_cut [9] (fun pv wx => ∃ (wz : World) (g d : Nat), wz = wx ∧ pv = .slice (some ⟨g, 0, none⟩) ns.length d ∧ Hid (BoolsAt wx wx.heap.size (some ⟨g, 0, none⟩) st) ∧ Hid (Below wr.heap.size wr wx))
              case first =>
                have tok0 : True := trivial
                go_region_held3 (fun w' => w'.cell? ⟨ca, 0, none⟩ = some (.int .i64 (mi : Int)) ∧ w'.cell? ⟨ca, 1, none⟩ = some (.slice nA ns.length nc) ∧ w'.cell? ⟨ca, 2, none⟩ = some (.slice gA gs.length gc) ∧ w'.cell? ⟨ca, 3, none⟩ = some (.slice oA os.length oc))
                  (first | go_keep | (exact four_on hb1 (by assumption)))
                  (first
                    | (revert tok0; intro tok0; go_at_call 19; refine (bits_any kd ns.length _ (by omega) (by omega)).mono ?_; rintro e u1 ⟨b1, d1, rfl, hg1, hB1, hb1⟩; rw [HST.out] at hB1; have hw1 : Below wr.heap.size wr u1 := (Below.refl _ wr).drew.trans hb1; clear tok0))
                go_wp2_with fail
                go_meet
                exact ⟨_, b1, d1, rfl, rfl, Lib.hid hB1, Lib.hid hw1⟩
              case rest =>
                obtain ⟨wa, gst, dst, hwa, rfl, HGS, HB1⟩ := hcut
                subst hwa
                have HXa := Lib.hid ((HXx.out.below HB1.out).mono HB1.out.size)
                have HCa := Lib.hid ((HCx.out.below HB1.out).mono HB1.out.size)
                have HLa := Lib.hid (HLx.out.trans (HB1.out.mono HLx.out.size))
                have HRa := Lib.hid (HRx.out.below HB1.out hltx)
                have hlta : ca < wa.heap.size := by have := HB1.out.size; omega
                clear HXx HCx HLx HRx HB1 q0 q1 q2 q3 hltx hkd hkd1 hkd0 HST
                have q0 := HRa.out.c0
                have q1 := HRa.out.c1
                have q2 := HRa.out.c2
                have q3 := HRa.out.c3
                go_upto_region 25 with fail
                go_cut [10] (fun pv wx => ∃ (wz : World) (g : Nat), wz = wx ∧ pv = .slice (some ⟨g, 0, none⟩) Z Z ∧ Hid (BRow wx g (Circ.valsOf gs st ins)) ∧ Hid (Below wa.heap.size wa wx))
                case first =>
                  have tok0 : True := trivial
                  go_region_held3 (fun w' => w'.cell? ⟨ca, 0, none⟩ = some (.int .i64 (mi : Int)) ∧ w'.cell? ⟨ca, 1, none⟩ = some (.slice nA ns.length nc) ∧ w'.cell? ⟨ca, 2, none⟩ = some (.slice gA gs.length gc) ∧ w'.cell? ⟨ca, 3, none⟩ = some (.slice oA os.length oc))
                    (first | go_keep | (exact four_on hb3 (by assumption)) | (exact four_on hb2 (by assumption)))
                    (first
                      | (revert tok0; intro tok0; go_at_call 19; refine (bits_any X mi _ (by omega) (by omega)).mono ?_; rintro e u2 ⟨b2, d2, rfl, hg2, hB2, hb2⟩; rw [HINS.out] at hB2; have hw2 : Below wa.heap.size wa u2 := (Below.refl _ wa).drew.trans hb2; have hz2' := hw2.size; have tokB : True := trivial; clear tok0)
                      | (revert tokB; intro tokB; go_at_call 18; refine (evalVars_k mi Z nA gA oA (some ⟨gst, 0, none⟩) (some ⟨b2, 0, none⟩) nc gc oc dst d2 ns gs os st ins _ HSL.out HIL.out HV.out HZ.out ((HCa.out.below hw2).mono hz2') ((HGS.out.below hw2).mono hz2') hB2).mono ?_; rintro e u3 ⟨b3, rfl, hg3, hB3, hb3⟩; have hw3 := hw2.trans (hb3.mono hz2'); clear tokB))
                  go_wp2_with fail
                  go_meet
                  exact ⟨_, b3, rfl, rfl, Lib.hid hB3, Lib.hid hw3⟩
                case rest =>
                  obtain ⟨wb, g, hwb, rfl, HG, HB2⟩ := hcut
                  subst hwb
                  have HXb := Lib.hid ((HXa.out.below HB2.out).mono HB2.out.size)
                  have HCb := Lib.hid ((HCa.out.below HB2.out).mono HB2.out.size)
                  have HLb := Lib.hid (HLa.out.trans (HB2.out.mono HLa.out.size))
                  have HRb := Lib.hid (HRa.out.below HB2.out hlta)
                  have HGb := Lib.hid ((HGS.out.below HB2.out).mono HB2.out.size)
                  have hltb : ca < wb.heap.size := by have := HB2.out.size; omega
                  have hgb : g < wb.heap.size := by obtain ⟨cv, h1, _⟩ := HG.out; exact h1.lt
                  clear HXa HCa HLa HRa HB2 HGS q0 q1 q2 q3 hlta
                  have q0 := HRb.out.c0
                  have q1 := HRb.out.c1
                  have q2 := HRb.out.c2
                  have q3 := HRb.out.c3
                  go_upto_region 26 with fail
                  go_cut [11] (fun pv wx => ∃ (wz : World) (A5 : Option Addr), wz = wx ∧ pv = .slice A5 ns.length ns.length ∧ Hid (BoolsAt wx wx.heap.size A5 (Circ.outV gs ns st ins)) ∧ Hid (Below wb.heap.size wb wx))
                  case first =>
                    have tok0 : True := trivial
                    go_region_held3 (fun w' => w'.cell? ⟨ca, 0, none⟩ = some (.int .i64 (mi : Int)) ∧ w'.cell? ⟨ca, 1, none⟩ = some (.slice nA ns.length nc) ∧ w'.cell? ⟨ca, 2, none⟩ = some (.slice gA gs.length gc) ∧ w'.cell? ⟨ca, 3, none⟩ = some (.slice oA os.length oc))
                      (first | go_keep | (exact four_on hb3 (by assumption)) | (exact four_on hb2 (by assumption)))
                      (first
                        | (revert tok0; intro tok0; go_at_call 19; refine (bits_any X mi _ (by omega) (by omega)).mono ?_; rintro e u2 ⟨b2, d2, rfl, hg2, hB2, hb2⟩; rw [HINS.out] at hB2; have hw2 : Below wb.heap.size wb u2 := (Below.refl _ wb).drew.trans hb2; have hz2' := hw2.size; have tokB : True := trivial; clear tok0)
                        | (revert tokB; intro tokB; go_at_call 29; refine (step_k mi nA gA oA (some ⟨gst, 0, none⟩) (some ⟨b2, 0, none⟩) nc gc oc dst d2 ns gs os st ins _ HSL.out HIL.out HV.out ((HCb.out.below hw2).mono hz2') ((HGb.out.below hw2).mono hz2') hB2).mono ?_; rintro e u3 ⟨A4, A5, rfl, hB3, hb3⟩; have hw3 := hw2.trans (hb3.mono hz2'); have hfld := Try.state_field A4 A5 os.length os.length ns.length ns.length; clear tokB))
                    go_wp2_with fail
                    go_meet
                    exact ⟨_, A5, rfl, rfl, Lib.hid hB3, Lib.hid hw3⟩
                  case rest =>
                    obtain ⟨wc, A5, hwc, rfl, HN5, HB3⟩ := hcut
                    subst hwc
                    obtain ⟨V, HVE, HVL, HV0⟩ : ∃ V, Hid (Circ.valsOf gs st ins = V) ∧ Hid (V.length = Z) ∧ Hid (V.getD 0 false = false) :=
                      ⟨_, Lib.hid rfl, Lib.hid (by rw [Circ.valsOf_len, HSL.out, HIL.out, HZ.out]), Lib.hid (HZER.out st ins HSL.out HIL.out)⟩
                    obtain ⟨cv, HV1, HV2⟩ : ∃ cv, Hid (Row wc g 4 cv) ∧ Hid (∀ j, j < Z → cv[j]? = some (.bool (V.getD j false))) := by
                      obtain ⟨cv, h1, h2⟩ := HG.out
                      rw [HVE.out] at h2
                      exact ⟨cv, Lib.hid (h1.below HB3.out h1.lt), Lib.hid (fun j hj => h2.2 j (by rw [HVL.out]; exact hj))⟩
                    have HXc := Lib.hid ((HXb.out.below HB3.out).mono HB3.out.size)
                    have HCc := Lib.hid ((HCb.out.below HB3.out).mono HB3.out.size)
                    have HLc := Lib.hid (HLb.out.trans (HB3.out.mono HLb.out.size))
                    have HRc := Lib.hid (HRb.out.below HB3.out hltb)
                    have hltc : ca < wc.heap.size := by have := HB3.out.size; omega
                    have HNB : Hid (∀ i, i < ns.length → (Circ.outV gs ns st ins).getD i false = Circ.litV V ((Opt.natL ns).getD i 0 : Nat)) := Lib.hid (fun i hi => by
                      obtain ⟨l, l1, l2⟩ := HLIT.out i hi
                      rw [l2, ← l1, ← HVE.out]
                      exact Circ.litsV_get _ _ _ hi)
                    have HOL : Hid ((Circ.outV gs ns st ins).length = ns.length) := Lib.hid (Circ.outV_len _ _ _ _)
                    clear HG HVE HSL HIL HXb HCb HLb HRb HB3 q0 q1 q2 q3 hltb hgb HGb HINS
                    go_upto_region 27 with fail
                    go_wp2
                    have q1c := HRc.out.c1
                    go_loopw [12] (fun iv wy => ∃ (i : Nat), i ≤ ns.length ∧ iv = .int .i64 i ∧ Hid (Below wc.heap.size wc wy)) (fun iv _ => ns.length - (intOf iv).toNat)
                    case atStart => exact ⟨0, Nat.zero_le _, rfl, Lib.hid (Below.refl _ _)⟩
                    case round =>
                      clear q1c
                      obtain ⟨i, hi, rfl, HBi⟩ := hrel
                      have q1 := (HRc.out.below HBi.out hltc).c1
                      have q0 := (HRc.out.below HBi.out hltc).c0
                      by_cases hlti : i < ns.length
                      · have hik : i < k := by omega
                        obtain ⟨b, off, rfl, hbl, B1, d1, p0, p1, ⟨p2, p3⟩, hbA⟩ := HXc.out i (by rw [HNK.out]; exact hik)
                        obtain ⟨b5, off5, rfl, hb5, hc5⟩ := HN5.out i (by rw [HOL.out]; exact hlti)
                        rw [HNB.out i hlti] at hc5
                        have HSE := Lib.hid (reg_sem HV0.out ((Opt.natL ns).getD i 0))
                        have HLTZ := Lib.hid (HINZ.out i hik)
                        have hnt := nextT_le ((Opt.natL ns).getD i 0)
                        have hny := nextY_len ((Opt.natL ns).getD i 0)
                        rw [HA2.out i hlti] at p0 p1 p2 hbA HLTZ
                        have hvi : ∃ v : Nat, 1 + (mi : Int).toNat + i = v ∧ (v : Int) = (mi : Int) + 1 + (i : Int) := ⟨_, rfl, by omega⟩
                        obtain ⟨v, hv1, hv2⟩ := hvi
                        have hv3 : v ≤ 100 := by omega
                        have P0 : Hid (wc.cell? ⟨b, off + i * 4, none⟩ = some (.int .i64 (v : Nat))) := Lib.hid (by rw [← hv1]; exact p0)
                        clear hv1 p0 p3
                        generalize Circ.litV V ((Opt.natL ns).getD i 0 : Nat) = bv at *
                        generalize nextT ((Opt.natL ns).getD i 0) = T at *
                        generalize nextY ((Opt.natL ns).getD i 0) = y at *
                        obtain ⟨m, hm⟩ : ∃ m, y.length = m := ⟨_, rfl⟩
                        have P1 : Hid (wc.cell? ⟨b, off + i * 4 + 1, none⟩ = some (.slice B1 m d1)) := Lib.hid (by rw [← hm]; exact p1)
                        have P2 : Hid (wc.cell? ⟨b, off + i * 4 + 2, none⟩ = some (.int .i64 (T : Nat))) := Lib.hid p2
                        have HBA : Hid (IntsAt wc wc.heap.size B1 (Opt.intL y)) := Lib.hid hbA
                        have HLY : Hid (∀ l, l ∈ y → l < Z) := Lib.hid HLTZ.out
                        rw [hm] at hny
                        have HM := Lib.hid hm
                        have HVS := Lib.hid hv2
                        have C5 := Lib.hid hc5
                        have hi0 : (0 : Int) ≤ (i : Int) := by omega
                        have hi1 : (i : Int) < (k : Int) := by omega
                        have hi2 : (i : Int) < (ns.length : Int) := by omega
                        clear hm p1 p2 hbA hc5 hv2 HLTZ
                        go_upto_region 32 with fail
                        go_loopw [13, 14] (fun av jv wy => ∃ (j a : Nat), j ≤ m ∧ jv = .int .i64 j ∧ av = .int .i64 a ∧ a < 8 ∧ Hid (num ((y.take j).map fun u => V.getD u false) = a) ∧ Hid (Below wc.heap.size wc wy)) (fun _ jv _ => m - (intOf jv).toNat)
                        case atStart => exact ⟨0, 0, Nat.zero_le _, rfl, rfl, by omega, Lib.hid rfl, HBi⟩
                        case round =>
                          clear HBi q0 q1
                          obtain ⟨j, a, hj, rfl, rfl, ha8, HA, HBy⟩ := hrel
                          have g1 := (HBy.out.cell (p := ⟨b, off + i * 4 + 1, none⟩) hbl).trans P1.out
                          have HVb := Lib.hid (HV1.out.below HBy.out HV1.out.lt)
                          by_cases hltj : j < m
                          · obtain ⟨b2, off2, rfl, hbl2, hc2⟩ := HBA.out j (by rw [Opt.intL_len, HM.out]; exact hltj)
                            rw [Opt.intL_at] at hc2
                            have gc2 := (HBy.out.cell (p := ⟨b2, off2 + j, none⟩) hbl2).trans hc2
                            have hyl : j < y.length := by rw [HM.out]; exact hltj
                            have hyZ : y.getD j 0 < Z := HLY.out _ (memD0 hyl)
                            have HS1 := Lib.hid (map_take_snoc y (fun u => V.getD u false) j hyl)
                            have HNL : Hid (((y.take j).map fun u => V.getD u false).length = j) := Lib.hid (by rw [List.length_map, List.length_take, HM.out]; omega)
                            clear hc2 hyl
                            generalize y.getD j 0 = u at *
                            have hcB := (HVb.out.cell u).trans (HV2.out u hyZ)
                            have huZ : (u : Int) < (Z : Int) := by omega
                            obtain ⟨PP, HP, hP, hP4⟩ : ∃ P : Nat, Hid (P = 2 ^ j) ∧ wrap64 (2 ^ j) = (P : Int) ∧ a + P < 8 := by
                              have hb := num_lt (((y.take j).map fun u => V.getD u false) ++ [true])
                              rw [num_snoc, HA.out, List.length_append, HNL.out] at hb
                              have h8 : 2 ^ (j + 1) ≤ 2 ^ 3 := Nat.pow_le_pow_right (by decide) (by omega)
                              have e : ((2 : Int) ^ j) = ((2 ^ j : Nat) : Int) := by simp
                              simp only [List.length_cons, List.length_nil, if_true, Nat.zero_add] at hb
                              refine ⟨2 ^ j, Lib.hid rfl, ?_, by omega⟩
                              rw [e]
                              generalize (2 ^ j : Nat) = q at *
                              unfold wrap64
                              omega
                            cases hb : V.getD u false
                            · rw [hb] at hcB
                              go_wp2
                              go_roundw
                              case rel => exact ⟨j + 1, a, by omega, by go_num, rfl, ha8, Lib.hid (by rw [HS1.out, num_snoc, HA.out, hb]; rfl), HBy⟩
                              case measure => simp [intOf]; omega
                            · rw [hb] at hcB
                              go_wp2
                              go_roundw
                              case rel => exact ⟨j + 1, a + PP, by omega, by go_num, by go_num, hP4, Lib.hid (by rw [HS1.out, num_snoc, HA.out, HNL.out, HP.out, hb]; rfl), HBy⟩
                              case measure => simp [intOf]; omega
                          · obtain rfl : j = m := by omega
                            have HAE : Hid (T.testBit a = bv) := Lib.hid (by
                              have h := HA.out
                              rw [List.take_of_length_le (by rw [HM.out]; exact Nat.le_refl _)] at h
                              rw [← h]; exact HSE.out)
                            have g0 := (HBy.out.cell (p := ⟨b, off + i * 4, none⟩) hbl).trans P0.out
                            have gt := (HBy.out.cell (p := ⟨b, off + i * 4 + 2, none⟩) hbl).trans P2.out
                            have gv := (HBy.out.cell (p := ⟨b5, off5 + i, none⟩) hb5).trans C5.out
                            have q0 := (HRc.out.below HBy.out hltc).c0
                            have HTB : Hid (((T : Int) / 2 ^ a % 2 == 1) = T.testBit a) := Lib.hid (by
                              rw [odd_eq T a (by omega), Nat.testBit_eq_decide_div_mod_eq]
                              rcases Nat.mod_two_eq_zero_or_one (T / 2 ^ a) with e | e <;> rw [e] <;> rfl)
                            rw [HAE.out] at HTB
                            have hx0 : (0 : Int) ≤ (T : Int) / 2 ^ a := by rw [shr_nat]; exact Int.natCast_nonneg _
                            have htb2 : (((T : Int) / 2 ^ a).tmod 2 == 1) = bv := by rw [Int.tmod_eq_emod_of_nonneg hx0]; exact HTB.out
                            have s1 : IntKind.i64.wrap ((mi : Int) + 1) = (mi : Int) + 1 := IntWalk.i64_in _ (by omega)
                            have s3 : (mi : Int) + 1 + (i : Int) = (v : Int) := HVS.out.symm
                            have s4 : IntKind.i64.wrap (v : Int) = (v : Int) := IntWalk.i64_in _ (by omega)
                            clear HA HSE HAE HTB
                            cases bv
                            · go_upto_region 36 with fail
                              go_region_held3 (fun w' => w'.cell? ⟨b, off + i * 4, none⟩ = some (.int .i64 (v : Nat)) ∧ w'.cell? ⟨b, off + i * 4 + 2, none⟩ = some (.int .i64 (T : Nat)) ∧ w'.cell? ⟨b5, off5 + i, none⟩ = some (.bool false) ∧ w'.cell? ⟨ca, 0, none⟩ = some (.int .i64 (mi : Int)))
                                (first | (with_reducible assumption) | go_keep)
                                (fail)
                              rename_i _hh36
                              clear _hh36 s1 s3 s4
                              go_wp2
                              go_roundw
                              case rel => exact ⟨i + 1, by omega, by go_num, Lib.hid HBy.out.drew⟩
                              case measure => simp [intOf]; omega
                            · go_upto_region 36 with fail
                              go_region_held3 (fun w' => w'.cell? ⟨b, off + i * 4, none⟩ = some (.int .i64 (v : Nat)) ∧ w'.cell? ⟨b, off + i * 4 + 2, none⟩ = some (.int .i64 (T : Nat)) ∧ w'.cell? ⟨b5, off5 + i, none⟩ = some (.bool true) ∧ w'.cell? ⟨ca, 0, none⟩ = some (.int .i64 (mi : Int)))
                                (first | (with_reducible assumption) | go_keep)
                                (fail)
                              rename_i _hh36
                              clear _hh36 s1 s3 s4
                              go_wp2
                              go_roundw
                              case rel => exact ⟨i + 1, by omega, by go_num, Lib.hid HBy.out.drew⟩
                              case measure => simp [intOf]; omega
                      · have HCd := Lib.hid ((HCc.out.below HBi.out).mono HBi.out.size)
                        have HXd := Lib.hid ((HXc.out.below HBi.out).mono HBi.out.size)
                        have HLd := Lib.hid (HLc.out.trans (HBi.out.mono HLc.out.size))
                        have HRd := Lib.hid (HRc.out.below HBi.out hltc)
                        have hltd : ca < wr.heap.size := by have := HBi.out.size; omega
                        clear HBi HCc HXc HLc HRc q0
                        go_wp2
                        go_roundw
                        case rel => exact ⟨X + 1, by omega, by go_num, HCd, HXd, HLd, HRd, hltd⟩
                        case measure => simp [intOf]; omega
            · go_wp2
              go_ret
              exact ⟨rfl, HLx.out⟩
end Go.Proofs.Ythcpgbfghededaa
