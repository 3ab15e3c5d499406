/- The walk of the law FnCuts: the comparison. -/
import Derived.Test.YtgllpnilnaggeaaF15
namespace Go.Proofs.Ytgllpnilnaggeaa
open Go.RowKit Go.Deep Cut
set_option maxRecDepth 100000

theorem svalid_v (i : Int) (nA gA oA : Option Addr) (nc gc oc : Nat) (ns : List Int) (gs : List (Int × Int)) (os : List Int) (v : Bool) (w : World) (hv : Circ.validB i ns gs os = v) (hc : CircAt w w.heap.size nA gA oA ns gs os) :
    Calls Try.prog 13 #[.agg #[.int .i64 i, .slice nA ns.length nc, .slice gA gs.length gc, .slice oA os.length oc]] w fun e w' => e = .returned (.bool v) ∧ Below w.heap.size w w' := by
  subst hv
  exact svalid_any i nA gA oA nc gc oc ns gs os w hc

theorem one_at (w : World) (k : Nat) (y : List Nat) (h : y = [k]) : IntsAt (w.alloc (.cells #[.int .i64 (k : Int)] 3)) (w.alloc (.cells #[.int .i64 (k : Int)] 3)).heap.size (some ⟨w.heap.size, 0, none⟩) (Opt.intL y) := by
  subst h
  have r : Row (w.alloc (.cells #[.int .i64 (k : Int)] 3)) w.heap.size 3 #[.int .i64 (k : Int)] := heap_alloc_new w _
  intro j hj
  have hj0 : j = 0 := by simp [Opt.intL] at hj; omega
  subst hj0
  exact ⟨_, _, rfl, by simp, (r.cell 0)⟩

set_option maxHeartbeats 6000000 in
theorem fcuts_walk (A : Option Addr) (bl bc : Nat) (w : World) (hb : CodeAt w A bl) (hbl : bl ≤ bc) (hbc : bc ≤ maxLen) :
    Calls Try.prog 3 #[.slice A bl bc] w fun e w' => e = .returned (.bool true) ∧ Below w.heap.size w w' := by
  have HB := Lib.hid hb
  have HBC := Lib.hid hbc
  unfold maxLen at hbc
  clear hb
  by_cases hsz : 1048576 < bl
  · go_enter Try.func3, Try.ntmps3
    go_wp2
    go_ret
    exact ⟨rfl, Below.refl _ _⟩
  · go_enter Try.func3, Try.ntmps3
    go_wp2_with fail
    refine (drawCuts_any A bl bc _ HB.out hbl HBC.out).mono ?_
    rintro e w1 ⟨i, nA, gA, oA, nc, gc, oc, ns, gs, os, rfl, hC1, hn, hg, ho, hcap, hb1⟩
    have hbB : Below w1.heap.size w1 (w1.alloc (.cells #[.int .i64 i, .slice nA ns.length nc, .slice gA gs.length gc, .slice oA os.length oc] 26)) := (Below.refl _ _).alloc (Nat.le_refl _) _
    have HC2 := Lib.hid ((hC1.below hbB).mono hbB.size)
    have HL2 := Lib.hid (hb1.trans (hbB.mono hb1.size))
    have HR2 := Lib.hid (show Row (w1.alloc (.cells #[.int .i64 i, .slice nA ns.length nc, .slice gA gs.length gc, .slice oA os.length oc] 26)) w1.heap.size 26 #[.int .i64 i, .slice nA ns.length nc, .slice gA gs.length gc, .slice oA os.length oc] from heap_alloc_new w1 _)
    clear hC1 hb1 hbB HB HBC hbc hcap
    go_upto_region 4 with fail
    generalize w1.alloc (.cells #[.int .i64 i, .slice nA ns.length nc, .slice gA gs.length gc, .slice oA os.length oc] 26) = w2 at *
    generalize w1.heap.size = ca at *
    have q0 := HR2.out.cell 0
    have q1 := HR2.out.cell 1
    have q2 := HR2.out.cell 2
    have q3 := HR2.out.cell 3
    simp at q0 q1 q2 q3
    obtain ⟨hcl, hcb⟩ := cutsV_bd (i := i) (ns := ns) (gs := gs) (os := os)
    have HCB := Lib.hid hcb
    clear hcb
    go_wp2_with fail
    refine (icuts_any i nA gA oA nc gc oc ns gs os _ HC2.out).mono ?_
    rintro e w3 ⟨A1, c1, rfl, hx3, hb3⟩
    have hcs' : ∃ cs, cutsV i ns gs os = cs := ⟨_, rfl⟩
    obtain ⟨cs, hcs⟩ := hcs'
    rw [hcs] at hx3 hcl HCB
    rw [hcs]
    have HCS := Lib.hid hcs
    clear hcs
    have hnn' : ∃ nn, cs.length = nn := ⟨_, rfl⟩
    obtain ⟨nn, hnn⟩ := hnn'
    rw [hnn] at hcl HCB
    rw [hnn]
    have HNN := Lib.hid hnn
    have HX3 := Lib.hid hx3
    have HC3 := Lib.hid ((HC2.out.below hb3).mono hb3.size)
    have HL3 := Lib.hid (HL2.out.trans (hb3.mono HL2.out.size))
    have HR3 := Lib.hid (HR2.out.below hb3 HR2.out.lt)
    clear hx3 hnn hb3 HC2 HL2 HR2 q0 q1 q2 q3
    have q0 := HR3.out.cell 0
    have q1 := HR3.out.cell 1
    have q2 := HR3.out.cell 2
    have q3 := HR3.out.cell 3
    simp at q0 q1 q2 q3
    go_upto_region 5 with fail
    go_wp2_with fail
    refine (scuts_any i nA gA oA nc gc oc ns gs os _ HC3.out).mono ?_
    rintro e w4 ⟨A2, c2, rfl, hy4, hb4⟩
    rw [HCS.out] at hy4
    rw [HCS.out, HNN.out]
    have HY4 := Lib.hid hy4
    have HX4 := Lib.hid (HX3.out.on hb4)
    have HC4 := Lib.hid ((HC3.out.below hb4).mono hb4.size)
    have HL4 := Lib.hid (HL3.out.trans (hb4.mono HL3.out.size))
    have HR4 := Lib.hid (HR3.out.below hb4 HR3.out.lt)
    clear hy4 hb4 HX3 HC3 HL3 HR3 q0 q1 q2 q3
    go_upto_region 9 with fail
    go_loopw [6] (fun kv wr => ∃ (k : Nat), k ≤ nn ∧ kv = .int .i64 k ∧ Hid (Below w4.heap.size w4 wr)) (fun kv _ => nn - (intOf kv).toNat)
    case atStart => exact ⟨0, Nat.zero_le _, rfl, Lib.hid (Below.refl _ _)⟩
    case round =>
      obtain ⟨k, hk, rfl, HBr⟩ := hrel
      by_cases hlt : k < nn
      · obtain ⟨b, off, rfl, hbl, B1, d1, hcA, hbA⟩ := HX4.out k (by rw [HNN.out]; exact hlt)
        obtain ⟨b', off', rfl, hbl', B2, d2, hcB, hbB⟩ := HY4.out k (by rw [HNN.out]; exact hlt)
        have HA := Lib.hid (hbA.at3 (B := w4.heap.size) (fun _ h => h))
        have HB := Lib.hid (hbB.at3 (B := w4.heap.size) (fun _ h => h))
        have HKB := Lib.hid (HCB.out k hlt)
        clear hbA hbB
        generalize cs.getD k [] = L at *
        obtain ⟨n2, HN2, hn2⟩ : ∃ n2, Hid (L.length = n2) ∧ n2 ≤ 9 := ⟨_, Lib.hid rfl, HKB.out.1⟩
        rw [HN2.out] at hcA hcB
        have HcA := Lib.hid hcA
        have HcB := Lib.hid hcB
        rw [← HBr.out.cell (p := ⟨b, off + k, none⟩) hbl] at hcA
        rw [← HBr.out.cell (p := ⟨b', off' + k, none⟩) hbl'] at hcB
        go_wp2
        go_quiet (fail)
        have HBq := Lib.hid (below_drewN HBr.out nq)
        clear hcA hcB HBr
        generalize wr.drewN nq = wq at *
        go_wp2
        go_loopw [7] (fun jv wx => ∃ (j : Nat), j ≤ n2 ∧ jv = .int .i64 j ∧ Hid (Below w4.heap.size w4 wx)) (fun jv _ => n2 - (intOf jv).toNat)
        case atStart => exact ⟨0, Nat.zero_le _, rfl, HBq⟩
        case round =>
          clear HBq
          obtain ⟨j, hj, rfl, HBx⟩ := hrel
          have hcA := (HBx.out.cell (p := ⟨b, off + k, none⟩) hbl).trans HcA.out
          have hcB := (HBx.out.cell (p := ⟨b', off' + k, none⟩) hbl').trans HcB.out
          by_cases hltj : j < n2
          · obtain ⟨b2, off2, rfl, hbl2, B3, d3, hcC, hbC⟩ := HA.out j (by rw [HN2.out]; exact hltj)
            obtain ⟨b3, off3, rfl, hbl3, B4, d4, hcD, hbD⟩ := HB.out j (by rw [HN2.out]; exact hltj)
            have HC := Lib.hid (((IntsIn.at (B := w4.heap.size) hbC (fun _ h => h)).below HBx.out).mono HBx.out.size)
            have HD := Lib.hid (((IntsIn.at (B := w4.heap.size) hbD (fun _ h => h)).below HBx.out).mono HBx.out.size)
            have hn3 := HKB.out.2 j (by rw [HN2.out]; exact hltj)
            clear hbC hbD
            generalize L.getD j [] = x at *
            have hnx' : ∃ n3, x.length = n3 := ⟨_, rfl⟩
            obtain ⟨n3, hnx⟩ := hnx'
            rw [hnx] at hcC hcD hn3
            have HNX := Lib.hid hnx
            clear hnx
            rw [← HBx.out.cell (p := ⟨b2, off2 + j, none⟩) hbl2] at hcC
            rw [← HBx.out.cell (p := ⟨b3, off3 + j, none⟩) hbl3] at hcD
            have hz := HBx.out.size
            go_upto_region 16 with fail
            go_region_held3 (fun w' => w'.cell? ⟨b, off + k, none⟩ = some (.slice (some ⟨b2, off2, none⟩) n2 d1) ∧ w'.cell? ⟨b', off' + k, none⟩ = some (.slice (some ⟨b3, off3, none⟩) n2 d2) ∧ w'.cell? ⟨b2, off2 + j, none⟩ = some (.slice B3 n3 d3) ∧ w'.cell? ⟨b3, off3 + j, none⟩ = some (.slice B4 n3 d4))
              (first | go_keep | (refine ⟨?_, ?_, ?_, ?_⟩ <;> (rw [hc3 _ _ (by simp; omega)]; simp [*])))
              (first | (go_at_call 12; refine (sameI_ln B3 B4 n3 n3 d3 d4 (Opt.intL x) _ ?_ ?_ ?_ ?_ ?_).mono ?_; (rw [Opt.intL_len]; exact HNX.out); (rw [Opt.intL_len]; exact HNX.out); (exact HC.out.below (Below.refl _ wr).drew); (exact HD.out.below (Below.refl _ wr).drew); (omega); rintro e w5 ⟨rfl, hb5⟩; obtain ⟨hc3, hf3⟩ := bcell hb5))
            clear hc3 hf3
            go_wp2
            go_roundw
            case rel => exact ⟨j + 1, by omega, by go_num, Lib.hid (HBx.out.drew.trans (hb5.mono HBx.out.size))⟩
            case measure => simp [intOf]; omega
          · go_wp2
            go_roundw
            case rel => exact ⟨k + 1, by omega, by go_num, HBx⟩
            case measure => simp [intOf]; omega
      · have HXr := Lib.hid (HX4.out.on HBr.out)
        have HCr := Lib.hid ((HC4.out.below HBr.out).mono HBr.out.size)
        have HLr := Lib.hid (HL4.out.trans (HBr.out.mono HL4.out.size))
        have HRr := Lib.hid (HR4.out.below HBr.out HR4.out.lt)
        clear HBr HX4 HY4 HC4 HL4 HR4
        have q0 := HRr.out.cell 0
        have q1 := HRr.out.cell 1
        have q2 := HRr.out.cell 2
        have q3 := HRr.out.cell 3
        simp at q0 q1 q2 q3
        go_upto_region 18 with fail
        cases hv : Circ.validB i ns gs os
        · have hn0 : nn = 0 := by
            rw [← HNN.out, ← HCS.out]
            unfold cutsV
            rw [hv]
            rfl
          have HV := Lib.hid hv
          clear hv
          go_wp2_with fail
          refine (svalid_v i nA gA oA nc gc oc ns gs os false _ HV.out HCr.out).mono ?_
          rintro e w5 ⟨rfl, hb5⟩
          clear q0 q1 q2 q3
          subst hn0
          go_wp2_with (go_at_call 14; refine (alive_any _).mono ?_; rintro e w6 ⟨rfl, hb6⟩)
          go_ret
          exact ⟨rfl, (HLr.out.trans (hb5.mono HLr.out.size)).trans (hb6.mono (Nat.le_trans HLr.out.size hb5.size))⟩
        · obtain ⟨hi0, hi4, hns3, hg14, ho3⟩ := Circ.valid_within hv
          obtain ⟨m, rfl⟩ := Int.eq_ofNat_of_zero_le hi0
          have hm4 : m ≤ 4 := by omega
          have hfs : Opt.fst (m : Int) ns = 1 + m + ns.length := by unfold Opt.fst; omega
          have hgl : (Opt.natG gs).length = gs.length := Opt.natG_len gs
          have hcs : cuts (1 + m + ns.length) (Opt.natG gs) = cs := by
            rw [← HCS.out, ← hfs]
            unfold cutsV
            rw [if_pos hv]
          have hnE : nn = 1 + m + ns.length + gs.length := by
            rw [← HNN.out, ← hcs, cuts_len, hgl]
          have HK : Hid (∀ k, k < nn → CutK (1 + m + ns.length) (Opt.natG gs) k (cs.getD k [])) := Lib.hid (fun k hk => by
            obtain ⟨h0, h1⟩ := Opt.natC_ok hv
            rw [← hcs]
            have h1' := h1.ord
            rw [hfs] at h0 h1'
            exact cutK h0 h1' k (by show k < 1 + m + ns.length + (Opt.natG gs).length; rw [hgl]; omega))
          have HV := Lib.hid hv
          have HNE := Lib.hid hnE
          clear hv hi0 hi4 hfs hgl hcs hnE HCS HCB
          go_wp2_with fail
          refine (svalid_v (m : Int) nA gA oA nc gc oc ns gs os true _ HV.out HCr.out).mono ?_
          rintro e w5 ⟨rfl, hb5⟩
          clear q0 q1 q2 q3
          have HX5 := Lib.hid (HXr.out.on hb5)
          have HC5 := Lib.hid ((HCr.out.below hb5).mono hb5.size)
          have HL5 := Lib.hid (HLr.out.trans (hb5.mono HLr.out.size))
          have HR5 := Lib.hid (HRr.out.below hb5 HRr.out.lt)
          clear hb5 HXr HCr HLr HRr
          go_upto_region 21 with fail
          go_loopw [8] (fun kv wr => ∃ (k : Nat), k ≤ nn ∧ kv = .int .i64 k ∧ Hid (Below w5.heap.size w5 wr)) (fun kv _ => nn - (intOf kv).toNat)
          case atStart => exact ⟨0, Nat.zero_le _, rfl, Lib.hid (Below.refl _ _)⟩
          case round =>
            obtain ⟨k, hk, rfl, HBr⟩ := hrel
            by_cases hlt : k < nn
            · obtain ⟨b, off, rfl, hbl, B1, d1, hcA, hbA⟩ := HX5.out k (by rw [HNN.out]; exact hlt)
              have HA := Lib.hid (hbA.at3 (B := w5.heap.size) (fun _ h => h))
              have HKK := Lib.hid (HK.out k hlt)
              clear hbA
              generalize cs.getD k [] = L at *
              obtain ⟨n2, HN2, hn2, hn20⟩ : ∃ n2, Hid (L.length = n2) ∧ n2 ≤ 9 ∧ 0 < n2 := ⟨_, Lib.hid rfl, HKK.out.len, HKK.out.pos⟩
              rw [HN2.out] at hcA
              have HcA := Lib.hid hcA
              rw [← HBr.out.cell (p := ⟨b, off + k, none⟩) hbl] at hcA
              obtain ⟨b2, off2, rfl, hbl2, B3, d3, hcC, hbC⟩ := HA.out (n2 - 1) (by rw [HN2.out]; omega)
              have HC := Lib.hid (((IntsIn.at (B := w5.heap.size) hbC (fun _ h => h)).below HBr.out).mono HBr.out.size)
              rw [← HBr.out.cell (p := ⟨b2, off2 + (n2 - 1), none⟩) hbl2] at hcC
              have HLAST := Lib.hid HKK.out.last
              rw [HN2.out] at HLAST
              clear hbC
              generalize L.getD (n2 - 1) [] = y at *
              have hny' : ∃ n3, y.length = n3 := ⟨_, rfl⟩
              obtain ⟨n3, hny⟩ := hny'
              rw [hny] at hcC
              have HNY := Lib.hid hny
              clear hny
              have i1 : (0 : Int) ≤ (n2 : Int) - 1 := by omega
              have i2 : (n2 : Int) - 1 < (n2 : Int) := by omega
              have i3 : ((n2 : Int) - 1).toNat = n2 - 1 := by omega
              have i4 : IntKind.i64.wrap ((n2 : Int) - 1) = (n2 : Int) - 1 := IntWalk.i64_in _ (by omega)
              go_upto_region 23 with fail
              go_quiet (fail)
              clear i1 i2 i3 i4 hcC
              have HBq := Lib.hid (below_drewN HBr.out nq)
              have HCq : Hid (IntsAt (wr.drewN nq) (wr.drewN nq).heap.size B3 (Opt.intL y)) := Lib.hid ((HC.out.below (below_drewN (Below.refl _ wr) nq)).mono (below_drewN (Below.refl wr.heap.size wr) nq).size)
              clear hcA HBr HC
              generalize wr.drewN nq = wq at *
              clear wr
              go_upto_region 24 with fail
              go_cut [110] (fun pv wx => ∃ wz : World, wz = wx ∧ pv = .bool false ∧ Hid (Below w5.heap.size w5 wx))
              case first =>
                have hcA := (HBq.out.cell (p := ⟨b, off + k, none⟩) hbl).trans HcA.out
                have h9 : decide ((9 : Int) < (n2 : Int)) = false := by simp; omega
                by_cases hk0 : k = 0
                · have hd0 : decide ((0 : Int) < (k : Int)) = false := by simp; omega
                  have hd1 : decide (0 < k) = false := by simp; omega
                  have hd2 : ¬ 0 < k := by omega
                  have HK0 := Lib.hid hk0
                  clear hk0
                  go_wp2_with fail
                  go_meet
                  exact ⟨_, rfl, rfl, HBq⟩
                · have hd0 : decide ((0 : Int) < (k : Int)) = true := by simp; omega
                  have hy1 : y = [k] := HLAST.out (by omega)
                  have hn31 : n3 = 1 := by rw [← HNY.out, hy1]; rfl
                  subst hn31
                  have HY1 := Lib.hid hy1
                  clear hy1
                  go_wp2_with (go_at_call 12; refine (sameI_ln B3 _ 1 1 d3 1 (Opt.intL y) _ ?_ ?_ ?_ ?_ ?_).mono ?_; (rw [HY1.out]; rfl); (rw [HY1.out]; rfl); (exact (HCq.out.below ((Below.refl _ _).alloc (Nat.le_refl _) _)).mono (by simp)); (exact one_at _ _ _ HY1.out); (omega); rintro e w6 ⟨rfl, hb6⟩; have hb6' := ((Below.refl wq.heap.size wq).alloc (Nat.le_refl _) (.cells #[.int .i64 (k : Int)] 3)).trans (hb6.mono (by simp)); have hcA6 := ((HBq.out.trans (hb6'.mono HBq.out.size)).cell (p := ⟨b, off + k, none⟩) hbl).trans HcA.out)
                  go_meet
                  exact ⟨_, rfl, rfl, Lib.hid (HBq.out.trans (hb6'.mono HBq.out.size))⟩
              case rest =>
                obtain ⟨wa, hwa, rfl, HBa⟩ := hcut
                subst hwa
                clear HBq HCq HLAST HNY
                go_upto_region 27 with fail
                go_loopw [10] (fun jv wx => ∃ (j : Nat), j ≤ n2 ∧ jv = .int .i64 j ∧ Hid (Below w5.heap.size w5 wx)) (fun jv _ => n2 - (intOf jv).toNat)
                case atStart => exact ⟨0, Nat.zero_le _, rfl, HBa⟩
                case round =>
                  clear HBa
                  obtain ⟨j, hj, rfl, HBx⟩ := hrel
                  have hcA := (HBx.out.cell (p := ⟨b, off + k, none⟩) hbl).trans HcA.out
                  by_cases hltj : j < n2
                  · obtain ⟨b3, off3, he3, hbl3, B4, d4, hcD, hbD⟩ := HA.out j (by rw [HN2.out]; exact hltj)
                    injection he3 with he3
                    injection he3 with e1 e2
                    subst e1 e2
                    have HD := Lib.hid (((IntsIn.at (B := w5.heap.size) hbD (fun _ h => h)).below HBx.out).mono HBx.out.size)
                    have hjl : j < L.length := by rw [HN2.out]; exact hltj
                    have hn4 := HKK.out.fit j hjl
                    have HSX := Lib.hid (HKK.out.sa j hjl)
                    have HLX : Hid (∀ l, l ∈ L.getD j [] → l < 1 + m + ns.length + gs.length) := Lib.hid (fun l hl => by
                      have h := HKK.out.lt j hjl l hl
                      rwa [Opt.natG_len] at h)
                    have HDX := Lib.hid (HKK.out.det j hjl)
                    clear hbD hjl
                    generalize L.getD j [] = x at *
                    have hnx' : ∃ n4, x.length = n4 := ⟨_, rfl⟩
                    obtain ⟨n4, hnx⟩ := hnx'
                    rw [hnx] at hcD hn4
                    have HNX := Lib.hid hnx
                    clear hnx
                    rw [← HBx.out.cell (p := ⟨b2, off2 + j, none⟩) hbl2] at hcD
                    have hz := HBx.out.size
                    have hkl : k < 1 + m + ns.length + gs.length := by rw [← HNE.out]; exact hlt
                    have HCx := Lib.hid ((HC5.out.below HBx.out).mono HBx.out.size)
                    have HRx := HR5.out.below HBx.out HR5.out.lt
                    have hcal : ca < w5.heap.size := HR5.out.lt
                    have q0 := HRx.cell 0
                    have q1 := HRx.cell 1
                    have q2 := HRx.cell 2
                    have q3 := HRx.cell 3
                    clear HRx
                    simp at q0 q1 q2 q3
                    go_upto_region 29 with fail
                    go_region_held3 (fun w' => w'.cell? ⟨b, off + k, none⟩ = some (.slice (some ⟨b2, off2, none⟩) n2 d1) ∧ w'.cell? ⟨b2, off2 + j, none⟩ = some (.slice B4 n4 d4) ∧ w'.cell? ⟨ca, 0, none⟩ = some (.int .i64 (m : Int)) ∧ w'.cell? ⟨ca, 1, none⟩ = some (.slice nA ns.length nc) ∧ w'.cell? ⟨ca, 2, none⟩ = some (.slice gA gs.length gc) ∧ w'.cell? ⟨ca, 3, none⟩ = some (.slice oA os.length oc))
                      (first | go_keep | (refine ⟨?_, ?_, ?_, ?_, ?_, ?_⟩ <;> (rw [hc3 _ _ (by simp; omega)]; simp [*])))
                      (first | (go_at_call 15; refine (determined_any m nA gA oA B4 nc gc oc n4 d4 k ns gs os x _ ?_ HV.out ?_ HNX.out hn4 HSX.out HLX.out hkl HDX.out).mono ?_; (exact HCx.out.below (Below.refl _ wr).drew); (exact HD.out.below (Below.refl _ wr).drew); rintro e w6 ⟨rfl, hb6⟩; obtain ⟨hc3, hf3⟩ := bcell hb6))
                    clear hc3 hf3
                    go_wp2
                    go_roundw
                    case rel => exact ⟨j + 1, by omega, by go_num, Lib.hid (HBx.out.drew.trans (hb6.mono HBx.out.size))⟩
                    case measure => simp [intOf]; omega
                  · go_wp2
                    go_roundw
                    case rel => exact ⟨k + 1, by omega, by go_num, HBx⟩
                    case measure => simp [intOf]; omega
            · go_wp2
              go_ret
              exact ⟨rfl, HL5.out.trans (HBr.out.mono HL5.out.size)⟩
end Go.Proofs.Ytgllpnilnaggeaa
