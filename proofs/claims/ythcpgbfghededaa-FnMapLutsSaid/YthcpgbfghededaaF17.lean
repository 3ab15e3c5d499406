/- The walk of the law FnMapLuts. -/
import Derived.Test.YthcpgbfghededaaFA
import Derived.Test.YthcpgbfghededaaEQ
import Derived.Test.YthcpgbfghededaaF14
import Derived.Test.YthcpgbfghededaaR7
import Derived.Test.YthcpgbfghededaaYs
import Derived.Test.YthcpgbfghededaaZa
namespace Go.Proofs.Ythcpgbfghededaa
open Go.RowKit Go.Deep Cut
set_option maxRecDepth 100000

theorem svalid_v (i : Int) (nA gA oA : Option Addr) (nc gc oc : Nat) (ns : List Int) (gs : List (Int × Int)) (os : List Int) (v : Bool) (w : World) (hv : Circ.validB i ns gs os = v) (hc : CircAt w w.heap.size nA gA oA ns gs os) :
    Calls Try.prog 15 #[.agg #[.int .i64 i, .slice nA ns.length nc, .slice gA gs.length gc, .slice oA os.length oc]] w fun e w' => e = .returned (.bool v) ∧ Below w.heap.size w w' := by
  subst hv
  exact svalid_any i nA gA oA nc gc oc ns gs os w hc

set_option maxHeartbeats 6000000 in
theorem fluts_walk (A : Option Addr) (bl bc : Nat) (w : World) (hb : CodeAt w A bl) (hbl : bl ≤ bc) (hbc : bc ≤ maxLen) :
    Calls Try.prog 3 #[.slice A bl bc] w fun e w' => e = .returned (.bool true) ∧ Below w.heap.size w w' := by
  have HB := Lib.hid hb
  have HBC := Lib.hid hbc
  unfold maxLen at hbc
  clear hb
  by_cases hsz : 1048576 < bl
  · go_enter Try.func3, Try.ntmps3
    go_wp2
    go_ret
    exact ⟨rfl, Below.refl _ _⟩
  · go_enter Try.func3, Try.ntmps3
    go_wp2_with fail
    refine (drawMapLuts_any A bl bc _ HB.out hbl HBC.out).mono ?_
    rintro e w1 ⟨i, nA, gA, oA, nc, gc, oc, ns, gs, os, rfl, hC1, hn, hg, ho, hcap, hb1⟩
    have hbB : Below w1.heap.size w1 (w1.alloc (.cells #[.int .i64 i, .slice nA ns.length nc, .slice gA gs.length gc, .slice oA os.length oc] 26)) := (Below.refl _ _).alloc (Nat.le_refl _) _
    have HC2 := Lib.hid ((hC1.below hbB).mono hbB.size)
    have HL2 := Lib.hid (hb1.trans (hbB.mono hb1.size))
    have HR2 := Lib.hid (Boxed.new w1 i nA gA oA ns.length nc gs.length gc os.length oc 26)
    have hlt2 : w1.heap.size < (w1.alloc (.cells #[.int .i64 i, .slice nA ns.length nc, .slice gA gs.length gc, .slice oA os.length oc] 26)).heap.size := by simp
    clear hC1 hb1 hbB HB HBC hbc
    obtain ⟨i0, hi0, hz0, hz1, hz2⟩ := info_parts Try.info3
    have HI0 := Lib.hid hi0
    have HI1 := Lib.hid hz0
    have HI2 := Lib.hid hz1
    have HI3 := Lib.hid hz2
    clear hi0 hz0 hz1 hz2
    go_upto_region 4 with fail
    generalize w1.alloc (.cells #[.int .i64 i, .slice nA ns.length nc, .slice gA gs.length gc, .slice oA os.length oc] 26) = w2 at *
    generalize w1.heap.size = ca at *
    have q0 := HR2.out.c0
    have q1 := HR2.out.c1
    have q2 := HR2.out.c2
    have q3 := HR2.out.c3
    go_wp2_with fail
    refine (imap_v i nA gA oA nc gc oc ns gs os _ HC2.out hcap).mono ?_
    rintro e w3 ⟨A1, c1, rfl, hx3, hb3⟩
    obtain ⟨hcl, hcb⟩ := mapV_bd i ns gs os
    obtain ⟨es, hes⟩ : ∃ es, mapV i ns gs os = es := ⟨_, rfl⟩
    rw [hes] at hx3 hcl hcb
    rw [hes]
    have HES := Lib.hid hes
    clear hes
    obtain ⟨n, hn'⟩ : ∃ n, es.length = n := ⟨_, rfl⟩
    rw [hn'] at hcl hcb
    rw [hn']
    have HEN := Lib.hid hn'
    have HCB := Lib.hid hcb
    have HX3 := Lib.hid hx3
    have HC3 := Lib.hid ((HC2.out.below hb3).mono hb3.size)
    have HL3 := Lib.hid (HL2.out.trans (hb3.mono HL2.out.size))
    have HR3 := Lib.hid (HR2.out.below hb3 hlt2)
    have hlt3 : ca < w3.heap.size := by have := hb3.size; omega
    clear hx3 hn' hcb hb3 HC2 HL2 HR2 q0 q1 q2 q3 hlt2
    have q0 := HR3.out.c0
    have q1 := HR3.out.c1
    have q2 := HR3.out.c2
    have q3 := HR3.out.c3
    go_upto_region 5 with fail
    go_wp2_with fail
    refine (smap_v i nA gA oA nc gc oc ns gs os _ HC3.out).mono ?_
    rintro e w4 ⟨A2, c2, rfl, hy4, hb4⟩
    rw [HES.out] at hy4
    rw [HES.out, HEN.out]
    have HY4 := Lib.hid hy4
    have HX4 := Lib.hid ((HX3.out.below hb4).mono hb4.size)
    have HC4 := Lib.hid ((HC3.out.below hb4).mono hb4.size)
    have HL4 := Lib.hid (HL3.out.trans (hb4.mono HL3.out.size))
    have HR4 := Lib.hid (HR3.out.below hb4 hlt3)
    have hlt4 : ca < w4.heap.size := by have := hb4.size; omega
    clear hy4 hb4 HX3 HC3 HL3 HR3 q0 q1 q2 q3 hlt3
    go_upto_region 8 with fail
    go_wp2
    go_loopw [6] (fun kv wr => ∃ (k : Nat), k ≤ n ∧ kv = .int .i64 k ∧ Hid (Below w4.heap.size w4 wr)) (fun kv _ => n - (intOf kv).toNat)
    case atStart => exact ⟨0, Nat.zero_le _, rfl, Lib.hid (Below.refl _ _)⟩
    case round =>
      obtain ⟨k, hk, rfl, HBr⟩ := hrel
      by_cases hlt : k < n
      · obtain ⟨b, off, rfl, hbl, B1, d1, p0, p1, p2, hbA⟩ := HX4.out k (by rw [HEN.out]; exact hlt)
        obtain ⟨b', off', rfl, hbl', B2, d2, r0, r1, r2, hbB⟩ := HY4.out k (by rw [HEN.out]; exact hlt)
        obtain ⟨t1, t2, t3⟩ := HCB.out k hlt
        have HBA := Lib.hid ((hbA.below HBr.out).mono HBr.out.size)
        have HBB := Lib.hid ((hbB.below HBr.out).mono HBr.out.size)
        have hz := HBr.out.size
        have HS := Lib.hid (Lukeep HBr.out hbl hbl' ⟨p0, p1, p2, r0, r1, r2⟩)
        have hblr : b < wr.heap.size := by omega
        have hblr' : b' < wr.heap.size := by omega
        clear hbA hbB p0 p1 p2 r0 r1 r2
        generalize (es.getD k (0, [], 0)).2.2 = t at *
        generalize (es.getD k (0, [], 0)).2.1 = y at *
        generalize (es.getD k (0, [], 0)).1 = v at *
        obtain ⟨m, hm⟩ : ∃ m, y.length = m := ⟨_, rfl⟩
        rw [hm] at HS t2
        have HM := Lib.hid hm
        clear hm
        obtain ⟨g0, g1, g2, g3, g4, g5⟩ := HS.out
        have hk0 : (0 : Int) ≤ (k : Int) := Int.natCast_nonneg _
        have hk1 : (k : Int) < (n : Int) := by omega
        go_upto_region 11 with fail
        go_region_held3 (fun w' => w'.cell? ⟨b, off + k * 3, none⟩ = some (.int .i64 (v : Nat)) ∧ w'.cell? ⟨b, off + k * 3 + 1, none⟩ = some (.slice B1 m d1) ∧ w'.cell? ⟨b, off + k * 3 + 2, none⟩ = some (.int .i64 (t : Nat)) ∧ w'.cell? ⟨b', off' + k * 3, none⟩ = some (.int .i64 (v : Nat)) ∧ w'.cell? ⟨b', off' + k * 3 + 1, none⟩ = some (.slice B2 m d2) ∧ w'.cell? ⟨b', off' + k * 3 + 2, none⟩ = some (.int .i64 (t : Nat)))
          (first | (with_reducible assumption) | go_keep)
          (first | (go_at_call 14; refine (sameI_ln B1 B2 m m d1 d2 (Opt.intL y) _ ?_ ?_ ?_ ?_ ?_).mono ?_; (rw [Opt.intL_len]; exact HM.out); (rw [Opt.intL_len]; exact HM.out); (exact HBA.out.below (Below.refl _ wr).drew); (exact HBB.out.below (Below.refl _ wr).drew); (omega); rintro e w5 ⟨rfl, hb5⟩; have hS5 := Lukeep hb5 hblr hblr' HS.out))
        rename_i _hheld
        clear _hheld hS5 g0 g1 g2 g3 g4 g5
        go_wp2
        go_roundw
        case rel => exact ⟨k + 1, by omega, by go_num, Lib.hid (HBr.out.drew.trans (hb5.mono HBr.out.size))⟩
        case measure => simp [intOf]; omega
      · have HCr := Lib.hid ((HC4.out.below HBr.out).mono HBr.out.size)
        have HXr := Lib.hid ((HX4.out.below HBr.out).mono HBr.out.size)
        have HLr := Lib.hid (HL4.out.trans (HBr.out.mono HL4.out.size))
        have HRr := Lib.hid (HR4.out.below HBr.out hlt4)
        have hltr : ca < wr.heap.size := by have := HBr.out.size; omega
        clear HX4 HY4 HC4 HL4 HR4 hlt4 HBr
        have q0 := HRr.out.c0
        have q1 := HRr.out.c1
        have q2 := HRr.out.c2
        have q3 := HRr.out.c3
        cases hv : Circ.validB i ns gs os
        · have HV := Lib.hid hv
          have hn0 : n = 0 := by rw [← HEN.out, ← HES.out, mapV_f hv]; rfl
          subst hn0
          clear hv
          go_upto_region 13 with fail
          go_wp2_with (first
            | (go_at_call 15; refine (svalid_v i nA gA oA nc gc oc ns gs os false _ HV.out HCr.out).mono ?_; rintro e w5 ⟨rfl, hb5⟩)
            | (go_at_call 16; refine (alive_any _).mono ?_; rintro e w6 ⟨rfl, hb6⟩))
          go_ret
          exact ⟨rfl, (HLr.out.trans (hb5.mono HLr.out.size)).trans (hb6.mono (Nat.le_trans HLr.out.size hb5.size))⟩
        · have HV := Lib.hid hv
          go_upto_region 13 with fail
          go_wp2_with fail
          refine (svalid_v i nA gA oA nc gc oc ns gs os true _ HV.out HCr.out).mono ?_
          rintro e w5 ⟨rfl, hb5⟩
          have K := mapV_k hv
          rw [HES.out] at K
          obtain ⟨h0, h1, h2, h3, h4⟩ := Circ.valid_within hv
          clear hv
          obtain ⟨mi, rfl⟩ := Int.eq_ofNat_of_zero_le h0
          have hF : Opt.fst (mi : Int) ns = 1 + mi + ns.length := by unfold Opt.fst; omega
          rw [hF] at K
          have HKK := Lib.hid K
          have HOKN := Lib.hid (Opt.natC_ok HV.out)
          have HC5 := Lib.hid ((HCr.out.below hb5).mono hb5.size)
          have HX5 := Lib.hid ((HXr.out.below hb5).mono hb5.size)
          have HL5 := Lib.hid (HLr.out.trans (hb5.mono HLr.out.size))
          have HR5 := Lib.hid (HRr.out.below hb5 hltr)
          have hlt5 : ca < w5.heap.size := by have := hb5.size; omega
          clear hb5 HCr HXr HLr HRr hltr q0 q1 q2 q3 K hF
          have q0 := HR5.out.c0
          have q1 := HR5.out.c1
          obtain ⟨F, hFe⟩ : ∃ F, 1 + mi + ns.length = F := ⟨_, rfl⟩
          have HFE := Lib.hid hFe
          have ef : (1 : Int) + (mi : Int) + (ns.length : Int) = (F : Int) := by omega
          have hF8 : F ≤ 8 := by omega
          have hF1 : 1 ≤ F := by omega
          rw [hFe] at HKK
          clear hFe
          go_upto_region 17 with fail
          have HT0 : Hid (TimesAt (w5.alloc (.cells #[] 3)) w5.heap.size ((es.take 0).map (·.1)) w5.heap.size 0) := Lib.hid (World.ownsRow_lit (base := w5.heap.size) (e := 3) (size := 1) w5 #[] 0 (Nat.le_refl _) (by simp [maxLen]) (by simp))
          have hba : Below w5.heap.size w5 (w5.alloc (.cells #[] 3)) := (Below.refl _ _).alloc (Nat.le_refl _) _
          have HB6 := Lib.hid hba
          clear hba q0 q1 ef
          generalize w5.alloc (.cells #[] 3) = w6 at *
          go_wp2
          go_loopw [8, 9] (fun hv iv wr => ∃ (k g cap : Nat), k ≤ n ∧ iv = .int .i64 k ∧ hv = .slice (some ⟨g, 0, none⟩) k cap ∧ Hid (TimesAt wr w5.heap.size ((es.take k).map (·.1)) g cap) ∧ Hid (Below w5.heap.size w5 wr)) (fun _ iv _ => n - (intOf iv).toNat)
          case atStart => exact ⟨0, _, _, Nat.zero_le _, rfl, rfl, HT0, HB6⟩
          case round =>
            clear HT0 HB6
            obtain ⟨k, g, cap, hk, rfl, rfl, HT, HBr⟩ := hrel
            by_cases hlt : k < n
            · obtain ⟨b, off, rfl, hbl, B1, d1, p0, p1, p2, hbA⟩ := HX5.out k (by rw [HEN.out]; exact hlt)
              obtain ⟨t1, t2, t3⟩ := HCB.out k hlt
              have HBA := Lib.hid hbA
              have HLT := Lib.hid (HKK.out.lt k (by rw [HEN.out]; exact hlt))
              have HAH := Lib.hid (HKK.out.ahead k (by rw [HEN.out]; exact hlt))
              have HTS : Hid ((es.take (k + 1)).map (·.1) = (es.take k).map (·.1) ++ [(es.getD k (0, [], 0)).1]) := Lib.hid (by
                have hkl : k < es.length := by rw [HEN.out]; exact hlt
                rw [List.take_succ_eq_append_getElem hkl, List.map_append]
                simp [List.getD_eq_getElem?_getD, hkl])
              have HTL : Hid (((es.take k).map (·.1)).length = k) := Lib.hid (by rw [List.length_map, List.length_take, HEN.out]; omega)
              generalize (es.getD k (0, [], 0)).2.1 = y at *
              generalize (es.getD k (0, [], 0)).1 = v at *
              generalize (es.take k).map (·.1) = vs at *
              obtain ⟨m, hm⟩ : ∃ m, y.length = m := ⟨_, rfl⟩
              rw [hm] at t2 p1
              have HM := Lib.hid hm
              have P0 := Lib.hid p0
              have P1 := Lib.hid p1
              have hk0 : (0 : Int) ≤ (k : Int) := Int.natCast_nonneg _
              have hk1 : (k : Int) < (n : Int) := by omega
              clear hm hbA p0 p1 p2
              go_upto_region 20 with fail
              go_wp2
              go_loopw [10] (fun jv wr => ∃ (j : Nat), j ≤ m ∧ jv = .int .i64 j ∧ Hid (TimesAt wr w5.heap.size vs g cap) ∧ Hid (Below w5.heap.size w5 wr)) (fun jv _ => m - (intOf jv).toNat)
              case atStart => exact ⟨0, Nat.zero_le _, rfl, HT, HBr⟩
              case round =>
                clear HT HBr
                obtain ⟨j, hj, rfl, HT, HBr⟩ := hrel
                have g1 := (HBr.out.cell (p := ⟨b, off + k * 3 + 1, none⟩) hbl).trans P1.out
                by_cases hltj : j < m
                · obtain ⟨b2, off2, rfl, hbl2, hc2⟩ := HBA.out j (by rw [Opt.intL_len, HM.out]; exact hltj)
                  rw [Opt.intL_at] at hc2
                  have g2 := (HBr.out.cell (p := ⟨b2, off2 + j, none⟩) hbl2).trans hc2
                  have hmem : y.getD j 0 ∈ y := memD0 (by rw [HM.out]; exact hltj)
                  have hlu := HLT.out _ hmem
                  have HAU := Lib.hid (HAH.out _ hmem)
                  clear hc2 hmem
                  generalize y.getD j 0 = u at *
                  by_cases hge : F ≤ u
                  · have HIN : Hid (vs.contains u = true) := Lib.hid (List.contains_iff_mem.2 (HAU.out hge))
                    have z1 : decide ((F : Int) ≤ (u : Int)) = true := by simp; omega
                    have z2 : decide (F ≤ u) = true := by simpa using hge
                    go_upto_region 23 with fail
                    go_wp2_with (go_at_call 17; refine (lawHas_any _ k cap _ vs u _ (TimesAt.ints HT.out) HTL.out (by omega)).mono ?_; rintro e w7 ⟨rfl, hw⟩; obtain rfl := hw; rw [HIN.out])
                    go_roundw
                    case rel => exact ⟨j + 1, by omega, by go_num, HT, HBr⟩
                    case measure => simp [intOf]; omega
                  · have z1 : decide ((F : Int) ≤ (u : Int)) = false := by simp; omega
                    have z2 : decide (F ≤ u) = false := by simpa using hge
                    go_upto_region 23 with fail
                    go_wp2
                    go_roundw
                    case rel => exact ⟨j + 1, by omega, by go_num, HT, HBr⟩
                    case measure => simp [intOf]; omega
                · have g0 := (HBr.out.cell (p := ⟨b, off + k * 3, none⟩) hbl).trans P0.out
                  go_upto_region 25 with fail
                  go_wp2_with (at_builtin; refine wpList_pushT rfl (.tmp 132) (.tmp 138) rfl _ w5.heap.size g cap k vs rfl HTL.out HT.out (by omega) v _ rfl rfl ?_)
                  intro g' cap' w7 hT7 hb7 _ _
                  have HT7 := Lib.hid hT7
                  have HB7 := Lib.hid (HBr.out.trans hb7)
                  clear hT7 hb7
                  go_wp2
                  go_roundw
                  case rel => exact ⟨k + 1, g', cap', by omega, by go_num, rfl, by rw [HTS.out]; exact HT7, HB7⟩
                  case measure => simp [intOf]; omega
            · obtain rfl : k = n := by omega
              have HVV : Hid (IntsAt wr wr.heap.size (some ⟨g, 0, none⟩) (Opt.intL (es.map (·.1)))) := Lib.hid (by
                have h := HT.out.ints
                rwa [List.take_of_length_le (by rw [HEN.out]; exact Nat.le_refl _)] at h)
              have HVLN : Hid ((es.map (·.1)).length = k) := Lib.hid (by rw [List.length_map, HEN.out])
              have HCn := Lib.hid ((HC5.out.below HBr.out).mono HBr.out.size)
              have HXn := Lib.hid ((HX5.out.below HBr.out).mono HBr.out.size)
              have HLn := Lib.hid (HL5.out.trans (HBr.out.mono HL5.out.size))
              have HRn := Lib.hid (HR5.out.below HBr.out hlt5)
              have hltn : ca < wr.heap.size := by have := HBr.out.size; omega
              clear HT HBr HC5 HX5 HL5 HR5 hlt5
              have q1 := HRn.out.c1
              have q3 := HRn.out.c3
              have HW0 := Lib.hid (World.ownsRow_lit (base := wr.heap.size) (e := 3) (size := 1) wr #[] 0 (Nat.le_refl _) (by simp [maxLen]) (by simp))
              have ne1 : some ca ≠ some wr.heap.size := by intro h; injection h; omega
              go_upto_region 26 with fail
              go_region_held3 (fun w' => w'.cell? ⟨ca, 1, none⟩ = some (.slice nA ns.length nc) ∧ w'.cell? ⟨ca, 3, none⟩ = some (.slice oA os.length oc))
                (first | go_keep | (exact ⟨hgr1.cell (by simp [*]) ne1, hgr1.cell (by simp [*]) ne1⟩) | (exact ⟨hgr2.cell (by simp [*]) ne2, hgr2.cell (by simp [*]) ne2⟩))
                (first
                  | (refine step_append_src _ (by rfl) (.tmp 140) (.tmp 142) 23 (by rfl) wr.heap.size 3 i0 _ 1 8 Try.underlying23 HI0.out HI1.out HI2.out HI3.out rfl (by omega) wr.heap.size 0 0 [] (by rfl) (HW0.out.drew) oA os.length oc (ivs os) (by rfl) (by simp [ivs]) ?_ (ivs_oneM os) (by simp [maxLen]; omega) (by omega) (by simp) (wr.heap.size + 1) (by simp) ?_; (exact ints_srcM ((HCn.out.outs.below ((Below.refl _ _).alloc (Nat.le_refl _) _).drew))); intro g1 cap1 w6 hown1 hgr1 hat1; have ne2 : some ca ≠ some g1 := (by (intro h; injection h; omega)); have hbl1 : Below wr.heap.size wr w6 := Below.grown (((Below.refl wr.heap.size wr).alloc (Nat.le_refl _) _).drew) hgr1 (by simp) (fun k hk => by injection hk; omega))
                  | (refine step_append_src _ (by rfl) (.tmp 143) (.tmp 145) 23 (by rfl) wr.heap.size 3 i0 _ 1 8 Try.underlying23 HI0.out HI1.out HI2.out HI3.out rfl (by omega) g1 cap1 (0 + os.length) ([] ++ ivs os) (by rfl) hown1 nA ns.length nc (ivs ns) (by rfl) (by simp [ivs]) ?_ (ivs_oneM ns) (by simp [maxLen]; omega) (by omega) hbl1.size w6.heap.size rfl ?_; (exact ints_srcM (HCn.out.next.below hbl1)); intro g2 cap2 w7 hown2 hgr2 hat2))
              rename_i _hheld26
              clear _hheld26
              simp only [Nat.zero_add]
              have hbl2 : Below wr.heap.size wr w7 := hbl1.grown hgr2 hbl1.size (fun k hk => by injection hk; omega)
              have HRT : Hid (IntsAt w7 w7.heap.size (some ⟨g2, 0, none⟩) (os ++ ns)) := Lib.hid (own_ints (n := os.length + ns.length) (base := wr.heap.size) (cap := cap2) (by simpa [ivs] using hown2) (by simp))
              have HC7 := Lib.hid ((HCn.out.below hbl2).mono hbl2.size)
              have HX7 := Lib.hid ((HXn.out.below hbl2).mono hbl2.size)
              have HV7 := Lib.hid ((HVV.out.below hbl2).mono hbl2.size)
              have HL7 := Lib.hid (HLn.out.trans (hbl2.mono HLn.out.size))
              have HR7 := Lib.hid (HRn.out.below hbl2 hltn)
              have hlt7 : ca < w7.heap.size := by have := hbl2.size; omega
              have HOKr : Hid (∀ t, t < (os ++ ns).length → 0 ≤ (os ++ ns).getD t 0 ∧ (os ++ ns).getD t 0 ≤ 100 ∧ (F ≤ (os ++ ns).getD t 0 / 2 → ((os ++ ns).getD t 0 / 2).toNat ∈ es.map (·.1))) := Lib.hid (fun t ht => by
                have hnx := Circ.valid_next HV.out
                have hou := Circ.valid_outs HV.out
                have hm : (os ++ ns).getD t 0 ∈ os ++ ns := memD0 ht
                have hb : 0 ≤ (os ++ ns).getD t 0 ∧ (os ++ ns).getD t 0 < 2 * (1 + (mi : Int) + ns.length + gs.length) := by
                  rcases List.mem_append.1 hm with h | h
                  · exact Opt.litsOk_mem hou h
                  · exact Opt.litsOk_mem hnx h
                refine ⟨hb.1, by omega, fun hf => ?_⟩
                have hr := HKK.out.root ((os ++ ns).getD t 0).toNat (by
                  rw [show Opt.natL os ++ Opt.natL ns = Opt.natL (os ++ ns) by unfold Opt.natL; rw [List.map_append]]
                  unfold Opt.natL
                  exact List.mem_map_of_mem hm) (by omega)
                rwa [show ((os ++ ns).getD t 0).toNat / 2 = ((os ++ ns).getD t 0 / 2).toNat by omega] at hr)
              have HLNr := Lib.hid (show (os ++ ns).length = os.length + ns.length by simp)
              clear hbl1 hbl2 hown1 hown2 hgr1 hgr2 hat1 hat2 ne1 ne2 HW0 q1 q3 HCn HXn HVV HLn HRn hltn
              generalize hxs : os ++ ns = xs at *
              clear hxs
              generalize hnr : os.length + ns.length = nr at *
              have hnr6 : nr ≤ 6 := by omega
              clear hnr
              go_upto_region 27 with fail
              go_wp2
              go_loopw [12] (fun tv wr => ∃ (t : Nat), t ≤ nr ∧ tv = .int .i64 t ∧ Hid (Below w7.heap.size w7 wr)) (fun tv _ => nr - (intOf tv).toNat)
              case atStart => exact ⟨0, Nat.zero_le _, rfl, Lib.hid (Below.refl _ _)⟩
              case round =>
                obtain ⟨t, ht, rfl, HBt⟩ := hrel
                by_cases hltt : t < nr
                · obtain ⟨b, off, hbo, hbl, hcell⟩ := HRT.out t (by rw [HLNr.out]; exact hltt)
                  injection hbo with hbo
                  injection hbo with hb1 hb2
                  subst hb1 hb2
                  rw [Nat.zero_add] at hcell
                  have g1 := (HBt.out.cell (p := ⟨g2, t, none⟩) hbl).trans hcell
                  obtain ⟨o1, o2, o3⟩ := HOKr.out t (by rw [HLNr.out]; exact hltt)
                  have HVt := Lib.hid ((HV7.out.below HBt.out).mono HBt.out.size)
                  generalize xs.getD t 0 = x at *
                  obtain ⟨q, hq⟩ : ∃ q : Nat, x / 2 = q := ⟨(x / 2).toNat, by omega⟩
                  have hwq : IntKind.i64.wrap (q : Int) = (q : Int) := IntWalk.i64_in _ (by omega)
                  have O3 : Hid ((F : Int) ≤ x / 2 → (x / 2).toNat ∈ es.map (·.1)) := Lib.hid o3
                  have ht0 : (0 : Int) ≤ (t : Int) := by omega
                  have ht1 : (t : Int) < (nr : Int) := by omega
                  clear hcell o3
                  by_cases hge : F ≤ q
                  · have HIN : Hid ((es.map (·.1)).contains q = true) := Lib.hid (List.contains_iff_mem.2 (by
                      have h := O3.out (by omega)
                      rwa [hq, Int.toNat_natCast] at h))
                    have z1 : decide ((F : Int) ≤ (q : Int)) = true := by simp; omega
                    have z2 : decide (F ≤ q) = true := by simpa using hge
                    generalize es.map (·.1) = vs at *
                    go_upto_region 30 with fail
                    go_wp2_with (go_at_call 17; refine (lawHas_any _ k cap _ vs q _ HVt.out HVLN.out (by omega)).mono ?_; rintro e w8 ⟨rfl, hw⟩; obtain rfl := hw; rw [HIN.out])
                    go_roundw
                    case rel => exact ⟨t + 1, by omega, by go_num, HBt⟩
                    case measure => simp [intOf]; omega
                  · have z1 : decide ((F : Int) ≤ (q : Int)) = false := by simp; omega
                    have z2 : decide (F ≤ q) = false := by simpa using hge
                    go_upto_region 30 with fail
                    go_wp2
                    go_roundw
                    case rel => exact ⟨t + 1, by omega, by go_num, HBt⟩
                    case measure => simp [intOf]; omega
                · have HC8 := Lib.hid ((HC7.out.below HBt.out).mono HBt.out.size)
                  have HX8 := Lib.hid ((HX7.out.below HBt.out).mono HBt.out.size)
                  have HL8 := Lib.hid (HL7.out.trans (HBt.out.mono HL7.out.size))
                  have HR8 := Lib.hid (HR7.out.below HBt.out hlt7)
                  have hlt8 : ca < wr.heap.size := by have := HBt.out.size; omega
                  clear HC7 HX7 HL7 HR7 hlt7 HBt HV7 HRT HOKr
                  go_upto_region 32 with fail
                  obtain ⟨M, HME, hM, hM1⟩ : ∃ M : Nat, Hid (M = 2 ^ (mi + ns.length)) ∧ wrap64 (2 ^ (mi + ns.length)) = (M : Int) ∧ M ≤ 128 := by
                    have h128 : 2 ^ (mi + ns.length) ≤ 2 ^ 7 := Nat.pow_le_pow_right (by decide) (by omega)
                    have e : ((2 : Int) ^ (mi + ns.length)) = ((2 ^ (mi + ns.length) : Nat) : Int) := by simp
                    refine ⟨2 ^ (mi + ns.length), Lib.hid rfl, ?_, by simpa using h128⟩
                    rw [e]
                    generalize (2 ^ (mi + ns.length) : Nat) = q at *
                    unfold wrap64
                    omega
                  have HHM := Lib.hid hM
                  have hmi4 : mi ≤ 4 := by omega
                  have HGS : Hid (∀ st ins : List Bool, st.length = ns.length → ins.length = mi → Opt.Sem F (Opt.natG gs) (fun u => (Circ.valsOf gs st ins).getD u false)) := Lib.hid (fun st ins h1 h2 => Opt.sem_vals st ins (by have := HFE.out; omega) (by have := HFE.out; rw [show ((F : Nat) : Int) = 1 + (mi : Int) + ns.length by omega]; exact Circ.valid_gates HV.out))
                  obtain ⟨Z, HZ, hZ1⟩ : ∃ Z : Nat, Hid (Z = 1 + mi + ns.length + gs.length) ∧ Z ≤ 22 := ⟨_, Lib.hid rfl, by omega⟩
                  clear hM
                  go_wp2
                  go_loopw [13] (fun xv wr => ∃ (X : Nat), X ≤ M ∧ xv = .int .i64 X ∧ Hid (CircAt wr wr.heap.size nA gA oA ns gs os) ∧ Hid (LuIn wr wr.heap.size A1 es) ∧ Hid (Below w.heap.size w wr) ∧ Hid (Boxed wr ca mi nA gA oA ns.length nc gs.length gc os.length oc) ∧ ca < wr.heap.size) (fun xv _ => M - (intOf xv).toNat)
                  case atStart => exact ⟨0, Nat.zero_le _, rfl, HC8, HX8, HL8, HR8, hlt8⟩
                  case round =>
                    clear HC8 HX8 HL8 HR8 hlt8
                    obtain ⟨X, hX, rfl, HCx, HXx, HLx, HRx, hltx⟩ := hrel
                    have q0 := HRx.out.c0
                    have q1 := HRx.out.c1
                    have q2 := HRx.out.c2
                    have q3 := HRx.out.c3
                    have hM := HHM.out
                    by_cases hltX : X < M
                    · obtain ⟨kd, hkd, hkd1⟩ : ∃ kd : Nat, (X : Int) / 2 ^ mi = (kd : Int) ∧ kd ≤ X := ⟨X / 2 ^ mi, shr_nat X mi, Nat.div_le_self _ _⟩
                      have hkd0 : (0 : Int) ≤ (X : Int) / 2 ^ mi := by omega
                      obtain ⟨st, HST, HSL⟩ : ∃ st, Hid (Circ.bitsN kd ns.length = st) ∧ Hid (st.length = ns.length) := ⟨_, Lib.hid rfl, Lib.hid (Circ.bitsN_len _ _)⟩
                      obtain ⟨ins, HIN, HIL⟩ : ∃ ins, Hid (Circ.bitsN X mi = ins) ∧ Hid (ins.length = mi) := ⟨_, Lib.hid rfl, Lib.hid (Circ.bitsN_len _ _)⟩
                      go_upto_region 35 with fail
                      clear hM
                      go_cut [14] (fun pv wx => ∃ (wz : World) (g : Nat), wz = wx ∧ pv = .slice (some ⟨g, 0, none⟩) Z Z ∧ Hid (BRow wx g (Circ.valsOf gs st ins)) ∧ Hid (Below wr.heap.size wr wx))
                      case first =>
                        have tok0 : True := trivial
                        go_region_held3 (fun w' => w'.cell? ⟨ca, 0, none⟩ = some (.int .i64 (mi : Int)) ∧ w'.cell? ⟨ca, 1, none⟩ = some (.slice nA ns.length nc) ∧ w'.cell? ⟨ca, 2, none⟩ = some (.slice gA gs.length gc) ∧ w'.cell? ⟨ca, 3, none⟩ = some (.slice oA os.length oc))
                          (first | go_keep | (exact four_on hb3 (by assumption)) | (exact four_on hb2 (by assumption)) | (exact four_on hb1 (by assumption)))
                          (first
                            | (revert tok0; intro tok0; go_at_call 19; refine (bits_any kd ns.length _ (by omega) (by omega)).mono ?_; rintro e u1 ⟨b1, d1, rfl, hg1, hB1, hb1⟩; rw [HST.out] at hB1; have hw1 : Below wr.heap.size wr u1 := (Below.refl _ wr).drew.trans hb1; have hz1' := hw1.size; have tokA : True := trivial; clear tok0)
                            | (revert tokA; intro tokA; go_at_call 19; refine (bits_any X mi _ (by omega) (by omega)).mono ?_; rintro e u2 ⟨b2, d2, rfl, hg2, hB2, hb2⟩; rw [HIN.out] at hB2; have hw2 := hw1.trans (hb2.mono hz1'); have hz2' := hw2.size; have hB1' := hB1.on hb2; have tokB : True := trivial; clear tokA)
                            | (revert tokB; intro tokB; go_at_call 18; refine (evalVars_k mi Z nA gA oA (some ⟨b1, 0, none⟩) (some ⟨b2, 0, none⟩) nc gc oc d1 d2 ns gs os st ins _ HSL.out HIL.out HV.out HZ.out ((HCx.out.below hw2).mono hz2') hB1' hB2).mono ?_; rintro e u3 ⟨b3, rfl, hg3, hB3, hb3⟩; have hw3 := hw2.trans (hb3.mono hz2'); clear tokB))
                        go_wp2_with fail
                        go_meet
                        exact ⟨_, b3, rfl, rfl, Lib.hid hB3, Lib.hid hw3⟩
                      case rest =>
                        obtain ⟨wa, g, hwa, rfl, HG, HB1⟩ := hcut
                        subst hwa
                        obtain ⟨V, HVE, HVL, HSM⟩ : ∃ V, Hid (Circ.valsOf gs st ins = V) ∧ Hid (V.length = Z) ∧ Hid (Opt.Sem F (Opt.natG gs) (fun u => V.getD u false)) :=
                          ⟨_, Lib.hid rfl, Lib.hid (by rw [Circ.valsOf_len, HSL.out, HIL.out, HZ.out]), Lib.hid (HGS.out st ins HSL.out HIL.out)⟩
                        obtain ⟨cv, HV1, HV2⟩ : ∃ cv, Hid (Row wa g 4 cv) ∧ Hid (∀ j, j < Z → cv[j]? = some (.bool (V.getD j false))) := by
                          obtain ⟨cv, h1, h2⟩ := HG.out
                          rw [HVE.out] at h2
                          exact ⟨cv, Lib.hid h1, Lib.hid (fun j hj => h2.2 j (by rw [HVL.out]; exact hj))⟩
                        have HXa := Lib.hid ((HXx.out.below HB1.out).mono HB1.out.size)
                        have HCa := Lib.hid ((HCx.out.below HB1.out).mono HB1.out.size)
                        have HLa := Lib.hid (HLx.out.trans (HB1.out.mono HLx.out.size))
                        have HRa := Lib.hid (HRx.out.below HB1.out hltx)
                        have hlta : ca < wa.heap.size := by have := HB1.out.size; omega
                        clear HG HVE HSL HIL HXx HCx HLx HRx HB1 q0 q1 q2 q3 hltx hkd hkd1 hkd0 HST HIN
                        go_upto_region 36 with fail
                        go_wp2
                        go_loopw [15] (fun iv wy => ∃ (i : Nat), i ≤ k ∧ iv = .int .i64 i ∧ Hid (Below wa.heap.size wa wy)) (fun iv _ => k - (intOf iv).toNat)
                        case atStart => exact ⟨0, Nat.zero_le _, rfl, Lib.hid (Below.refl _ _)⟩
                        case round =>
                          obtain ⟨i, hi, rfl, HBi⟩ := hrel
                          by_cases hlti : i < k
                          · obtain ⟨b, off, rfl, hbl, B1, d1, p0, p1, p2, hbA⟩ := HXa.out i (by rw [HEN.out]; exact hlti)
                            obtain ⟨t1, t2, t3⟩ := HCB.out i hlti
                            have HBA := Lib.hid hbA
                            have HLT := Lib.hid (HKK.out.lt i (by rw [HEN.out]; exact hlti))
                            have HVB := Lib.hid (HKK.out.bd i (by rw [HEN.out]; exact hlti)).1
                            have HSE := Lib.hid (HKK.out.sem _ HSM.out i (by rw [HEN.out]; exact hlti))
                            generalize (es.getD i (0, [], 0)).2.2 = T at *
                            generalize (es.getD i (0, [], 0)).2.1 = y at *
                            generalize (es.getD i (0, [], 0)).1 = v at *
                            obtain ⟨m, hm⟩ : ∃ m, y.length = m := ⟨_, rfl⟩
                            rw [hm] at t2 p1
                            have HM := Lib.hid hm
                            have P0 := Lib.hid p0
                            have P1 := Lib.hid p1
                            have P2 := Lib.hid p2
                            have hi0 : (0 : Int) ≤ (i : Int) := by omega
                            have hi1 : (i : Int) < (k : Int) := by omega
                            have hgl2 : (Opt.natG gs).length = gs.length := Opt.natG_len gs
                            have hvZ : v < Z := by have h1 := HVB.out; have h2 := HZ.out; have h3 := HFE.out; omega
                            have HLTZ : Hid (∀ l, l ∈ y → l < Z) := Lib.hid (fun l hl => by have h1 := HLT.out l hl; have h2 := HZ.out; have h3 := HFE.out; omega)
                            clear hm hbA p0 p1 p2 HVB HLT hgl2
                            go_upto_region 39 with fail
                            go_wp2
                            go_loopw [16, 17] (fun av jv wy => ∃ (j a : Nat), j ≤ m ∧ jv = .int .i64 j ∧ av = .int .i64 a ∧ a < 8 ∧ Hid (num ((y.take j).map fun u => V.getD u false) = a) ∧ Hid (Below wa.heap.size wa wy)) (fun _ jv _ => m - (intOf jv).toNat)
                            case atStart => exact ⟨0, 0, Nat.zero_le _, rfl, rfl, by omega, Lib.hid rfl, HBi⟩
                            case round =>
                              clear HBi
                              obtain ⟨j, a, hj, rfl, rfl, ha8, HA, HBy⟩ := hrel
                              have g1 := (HBy.out.cell (p := ⟨b, off + i * 3 + 1, none⟩) hbl).trans P1.out
                              have HVb := Lib.hid (HV1.out.below HBy.out HV1.out.lt)
                              by_cases hltj : j < m
                              · obtain ⟨b2, off2, rfl, hbl2, hc2⟩ := HBA.out j (by rw [Opt.intL_len, HM.out]; exact hltj)
                                rw [Opt.intL_at] at hc2
                                have gc2 := (HBy.out.cell (p := ⟨b2, off2 + j, none⟩) hbl2).trans hc2
                                have hyl : j < y.length := by rw [HM.out]; exact hltj
                                have hyZ : y.getD j 0 < Z := HLTZ.out _ (memD0 hyl)
                                have HS1 := Lib.hid (map_take_snoc y (fun u => V.getD u false) j hyl)
                                have HNL : Hid (((y.take j).map fun u => V.getD u false).length = j) := Lib.hid (by rw [List.length_map, List.length_take, HM.out]; omega)
                                clear hc2 hyl
                                generalize y.getD j 0 = u at *
                                have hcB := (HVb.out.cell u).trans (HV2.out u hyZ)
                                have huZ : (u : Int) < (Z : Int) := by omega
                                obtain ⟨P, HP, hP, hP4⟩ : ∃ P : Nat, Hid (P = 2 ^ j) ∧ wrap64 (2 ^ j) = (P : Int) ∧ a + P < 8 := by
                                  have hb := num_lt (((y.take j).map fun u => V.getD u false) ++ [true])
                                  rw [num_snoc, HA.out, List.length_append, HNL.out] at hb
                                  have h8 : 2 ^ (j + 1) ≤ 2 ^ 3 := Nat.pow_le_pow_right (by decide) (by omega)
                                  have e : ((2 : Int) ^ j) = ((2 ^ j : Nat) : Int) := by simp
                                  simp only [List.length_cons, List.length_nil, if_true, Nat.zero_add] at hb
                                  refine ⟨2 ^ j, Lib.hid rfl, ?_, by omega⟩
                                  rw [e]
                                  generalize (2 ^ j : Nat) = q at *
                                  unfold wrap64
                                  omega
                                cases hb : V.getD u false
                                · rw [hb] at hcB
                                  go_wp2
                                  go_roundw
                                  case rel => exact ⟨j + 1, a, by omega, by go_num, rfl, ha8, Lib.hid (by rw [HS1.out, num_snoc, HA.out, hb]; rfl), HBy⟩
                                  case measure => simp [intOf]; omega
                                · rw [hb] at hcB
                                  go_wp2
                                  go_roundw
                                  case rel => exact ⟨j + 1, a + P, by omega, by go_num, by go_num, hP4, Lib.hid (by rw [HS1.out, num_snoc, HA.out, HNL.out, HP.out, hb]; rfl), HBy⟩
                                  case measure => simp [intOf]; omega
                              · obtain rfl : j = m := by omega
                                have HAE : Hid (T.testBit a = V.getD v false) := Lib.hid (by
                                  have h := HA.out
                                  rw [List.take_of_length_le (by rw [HM.out]; exact Nat.le_refl _)] at h
                                  rw [← h]; exact HSE.out)
                                have g0 := (HBy.out.cell (p := ⟨b, off + i * 3, none⟩) hbl).trans P0.out
                                have gt := (HBy.out.cell (p := ⟨b, off + i * 3 + 2, none⟩) hbl).trans P2.out
                                have gv := (HVb.out.cell v).trans (HV2.out v hvZ)
                                have hvZi : (v : Int) < (Z : Int) := by omega
                                have HTB : Hid (((T : Int) / 2 ^ a % 2 == 1) = T.testBit a) := Lib.hid (by
                                  rw [odd_eq T a (by omega), Nat.testBit_eq_decide_div_mod_eq]
                                  rcases Nat.mod_two_eq_zero_or_one (T / 2 ^ a) with e | e <;> rw [e] <;> rfl)
                                rw [HAE.out] at HTB
                                have hx0 : (0 : Int) ≤ (T : Int) / 2 ^ a := by rw [shr_nat]; exact Int.natCast_nonneg _
                                generalize V.getD v false = bv at *
                                have htb := HTB.out
                                have htb2 : (((T : Int) / 2 ^ a).tmod 2 == 1) = bv := by rw [Int.tmod_eq_emod_of_nonneg hx0]; exact HTB.out
                                clear HA HSE HAE HTB htb
                                cases bv
                                · go_upto_region 45 with fail
                                  go_region_held3 (fun w' => w'.cell? ⟨b, off + i * 3, none⟩ = some (.int .i64 (v : Nat)) ∧ w'.cell? ⟨b, off + i * 3 + 2, none⟩ = some (.int .i64 (T : Nat)) ∧ w'.cell? ⟨g, v, none⟩ = some (.bool false))
                                    (first | (with_reducible assumption) | go_keep)
                                    (fail)
                                  rename_i _hheld45
                                  clear _hheld45
                                  go_wp2
                                  go_roundw
                                  case rel => exact ⟨i + 1, by omega, by go_num, Lib.hid HBy.out.drew⟩
                                  case measure => simp [intOf]; omega
                                · go_upto_region 45 with fail
                                  go_region_held3 (fun w' => w'.cell? ⟨b, off + i * 3, none⟩ = some (.int .i64 (v : Nat)) ∧ w'.cell? ⟨b, off + i * 3 + 2, none⟩ = some (.int .i64 (T : Nat)) ∧ w'.cell? ⟨g, v, none⟩ = some (.bool true))
                                    (first | (with_reducible assumption) | go_keep)
                                    (fail)
                                  rename_i _hheld45
                                  clear _hheld45
                                  go_wp2
                                  go_roundw
                                  case rel => exact ⟨i + 1, by omega, by go_num, Lib.hid HBy.out.drew⟩
                                  case measure => simp [intOf]; omega
                          · have HCb := Lib.hid ((HCa.out.below HBi.out).mono HBi.out.size)
                            have HXb := Lib.hid ((HXa.out.below HBi.out).mono HBi.out.size)
                            have HLb := Lib.hid (HLa.out.trans (HBi.out.mono HLa.out.size))
                            have HRb := Lib.hid (HRa.out.below HBi.out hlta)
                            have hltb : ca < wr.heap.size := by have := HBi.out.size; omega
                            clear HBi HCa HXa HLa HRa
                            go_wp2
                            go_roundw
                            case rel => exact ⟨X + 1, by omega, by go_num, HCb, HXb, HLb, HRb, hltb⟩
                            case measure => simp [intOf]; omega
                    · go_wp2
                      go_ret
                      exact ⟨rfl, HLx.out⟩
end Go.Proofs.Ythcpgbfghededaa
