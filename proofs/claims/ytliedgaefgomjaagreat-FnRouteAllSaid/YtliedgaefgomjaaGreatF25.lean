/- The walk of the law FnRouteAll. -/
import Derived.Test.YtliedgaefgomjaaGreatR10
import Derived.Test.YtliedgaefgomjaaGreatRA
import Derived.Test.YtliedgaefgomjaaGreatST
import Derived.Test.YtliedgaefgomjaaGreatZ
import Derived.BigQuiet
namespace Go.Proofs.YtliedgaefgomjaaGreat
open Go.RowKit Go.Deep Cut Plc Rt
set_option maxRecDepth 100000

set_option maxHeartbeats 8000000 in
theorem froutall_walk (A : Option Addr) (bl bc : Nat) (w : World) (hb : CodeAt w A bl) (hbl : bl ≤ bc) (hbc : bc ≤ maxLen) :
    Calls Tryz.prog 4 #[.slice A bl bc] w fun e w' => e = .returned (.bool true) ∧ Below w.heap.size w w' := by
  have HB := Lib.hid hb
  have HBC := Lib.hid hbc
  unfold maxLen at hbc
  clear hb
  by_cases hsz : 1048576 < bl
  · go_enter Tryz.func4, Tryz.ntmps4
    go_wp2
    go_ret
    exact ⟨rfl, Below.refl _ _⟩
  · go_enter Tryz.func4, Tryz.ntmps4
    go_wp2_with fail
    refine (drawRoute_any A bl bc _ HB.out hbl HBC.out).mono ?_
    rintro e w1 ⟨i, nA, gA, oA, pA, nc, gc, oc, pc, ns, gs, os, xs, rfl, hC1, hP1, hn, hg, ho, hcap, hxl, hxc, hb1⟩
    have hbB : Below w1.heap.size w1 (w1.alloc (.cells #[.int .i64 i, .slice nA ns.length nc, .slice gA gs.length gc, .slice oA os.length oc] 26)) := (Below.refl _ _).alloc (Nat.le_refl _) _
    have HC2 := Lib.hid ((hC1.below hbB).mono hbB.size)
    have HP2 := Lib.hid ((hP1.below hbB).mono hbB.size)
    have HL2 := Lib.hid (hb1.trans (hbB.mono hb1.size))
    have HR2 := Lib.hid (Boxed.new w1 i nA gA oA ns.length nc gs.length gc os.length oc 26)
    have hlt2 : w1.heap.size < (w1.alloc (.cells #[.int .i64 i, .slice nA ns.length nc, .slice gA gs.length gc, .slice oA os.length oc] 26)).heap.size := by simp
    clear hC1 hP1 hb1 hbB HB HBC hbc
    go_upto_region 4 with fail
    generalize w1.alloc (.cells #[.int .i64 i, .slice nA ns.length nc, .slice gA gs.length gc, .slice oA os.length oc] 26) = w2 at *
    generalize w1.heap.size = ca at *
    obtain ⟨l, hl⟩ : ∃ l, xs.length = l := ⟨_, rfl⟩
    rw [hl] at hxl hxc ⊢
    have HXL := Lib.hid hl
    clear hl
    have q0 := HR2.out.c0
    have q1 := HR2.out.c1
    have q2 := HR2.out.c2
    have q3 := HR2.out.c3
    go_wp2_with fail
    refine (iroute_any i nA gA oA pA nc gc oc l pc ns gs os xs _ HC2.out hcap HP2.out HXL.out (by unfold maxLen; omega)).mono ?_
    rintro e w3 ⟨hx3, hb3⟩
    have HC3 := Lib.hid ((HC2.out.below hb3).mono hb3.size)
    have HP3 := Lib.hid ((HP2.out.below hb3).mono hb3.size)
    have HL3 := Lib.hid (HL2.out.trans (hb3.mono HL2.out.size))
    have HR3 := Lib.hid (HR2.out.below hb3 hlt2)
    have hlt3 : ca < w3.heap.size := by have := hb3.size; omega
    clear hb3 HC2 HP2 HL2 HR2 q0 q1 q2 q3 hlt2
    have q0 := HR3.out.c0
    have q1 := HR3.out.c1
    have q2 := HR3.out.c2
    have q3 := HR3.out.c3
    cases he : routesZ i ns gs os xs with
    | none =>
      rw [he] at hx3
      obtain rfl : e = .returned (.tuple #[.slice none 0 0, .bool false]) := hx3
      have HE := Lib.hid he
      clear he
      go_upto_region 5 with fail
      go_wp2_with fail
      refine (sroute_any i nA gA oA pA nc gc oc l pc ns gs os xs _ HC3.out HP3.out HXL.out (by unfold maxLen; omega) hxc).mono ?_
      rintro e w4 ⟨hx4, hb4⟩
      rw [HE.out] at hx4
      obtain ⟨wA, wc, rfl⟩ := hx4
      have HL4 := Lib.hid (HL3.out.trans (hb4.mono HL3.out.size))
      clear hb4 HC3 HP3 HL3 HR3 q0 q1 q2 q3
      go_wp2_with (first
        | (go_at_call 10; refine (alive_any _).mono ?_; rintro e w8 ⟨rfl, hb8⟩))
      go_ret
      exact ⟨rfl, HL4.out.trans (hb8.mono HL4.out.size)⟩
    | some es =>
      rw [he] at hx3
      obtain ⟨gg, cg, HH, rfl, hG3, _⟩ := hx3
      have HG3 := Lib.hid hG3
      obtain ⟨hln, hcb⟩ := routesZ_bd he
      obtain ⟨hvz, _, _⟩ := routesZ_ok he
      obtain ⟨hvv, hpp, hpe⟩ := placeB_inv hvz
      have hok := netOk_of hvv
      have HAO := Lib.hid (routesZ_all he)
      have HE := Lib.hid he
      have hVC : Circ.varCountZ i ns gs os = ((Opt.fst i ns + gs.length : Nat) : Int) := by
        obtain ⟨h0, _⟩ := Circ.valid_within hvv
        rw [Circ.varCount_t hvv]
        unfold Opt.fst
        omega
      have HOV : Hid (∀ k, k < os.length → os.getD k 0 = (((Opt.natL os).getD k 0 : Nat) : Int) ∧ (Opt.natL os).getD k 0 ≤ 1000) := Lib.hid (fun k hk => ⟨natL_get os k hk (Circ.litsOk_get (Circ.valid_outs hvv) hk).1, by
        have h1 := hok.ov k (by rw [Opt.natL_len]; exact hk)
        have h2 := hok.N25
        omega⟩)
      have hnl : (Opt.natL os).length = os.length := Opt.natL_len _
      obtain ⟨N, hN⟩ : ∃ N, Opt.fst i ns + gs.length = N := ⟨_, rfl⟩
      obtain ⟨m, hm⟩ : ∃ m, i.toNat = m := ⟨_, rfl⟩
      obtain ⟨nr, hn2⟩ : ∃ n, es.length = n := ⟨_, rfl⟩
      rw [hn2] at hcb hln ⊢
      rw [hN] at hVC HAO
      rw [hm] at HAO
      have hN25 := hok.N25
      rw [hN] at hN25
      have HN := Lib.hid hn2
      have HVC := Lib.hid hVC
      have HCB2 := Lib.hid hcb
      have HVV := Lib.hid hvv
      have HOK := Lib.hid hok
      have HPP := Lib.hid hpp
      have HPE := Lib.hid hpe
      have HOL := Lib.hid hnl
      clear he hG3 hn2 hcb hVC hvv hok hpp hpe hnl hvz hm hN
      go_upto_region 5 with fail
      go_wp2_with fail
      refine (sroute_any i nA gA oA pA nc gc oc l pc ns gs os xs _ HC3.out HP3.out HXL.out (by unfold maxLen; omega) hxc).mono ?_
      rintro e w4 ⟨hx4, hb4⟩
      rw [HE.out] at hx4
      obtain ⟨gw, cw, WW, rfl, hx4⟩ := hx4
      rw [HN.out]
      have HG4 := Lib.hid (HG3.out.on hb4)
      have HL4 := Lib.hid (HL3.out.trans (hb4.mono HL3.out.size))
      have HC4 := Lib.hid ((HC3.out.below hb4).mono hb4.size)
      have HP4 := Lib.hid ((HP3.out.below hb4).mono hb4.size)
      have HR4 := Lib.hid (HR3.out.below hb4 hlt3)
      have hlt4 : ca < w4.heap.size := by have := hb4.size; omega
      clear hb4 hx4 HC3 HP3 HL3 HR3 q0 q1 q2 q3 HG3 hlt3
      have q0 := HR4.out.c0
      have q1 := HR4.out.c1
      have q2 := HR4.out.c2
      have q3 := HR4.out.c3
      go_upto_region 10 with fail
      go_wp2_with fail
      refine (icells_t i nA gA oA nc gc oc ns gs os _ HVV.out HC4.out hcap).mono ?_
      rintro e w5 ⟨gl, cl, CC, rfl, hx5, _, hb5⟩
      have HU5 := Lib.hid hx5.read
      have HI5 := Lib.hid (HG4.out.on hb5).read
      have HL5 := Lib.hid (HL4.out.trans (hb5.mono HL4.out.size))
      have HC5 := Lib.hid ((HC4.out.below hb5).mono hb5.size)
      have HP5 := Lib.hid ((HP4.out.below hb5).mono hb5.size)
      have HR5 := Lib.hid (HR4.out.below hb5 hlt4)
      have hlt5 : ca < w5.heap.size := by have := hb5.size; omega
      clear hb5 hx5 HC4 HP4 HL4 HR4 HG4 q0 q1 q2 q3 hlt4
      obtain ⟨n, hnc⟩ : ∃ n, (cellsV i ns gs os).length = n := ⟨_, rfl⟩
      have HNC := Lib.hid hnc
      rw [hnc]
      have hn17 := HOK.out.n17
      have hnp : n = l := by rw [← hnc, ← HPP.out.len, Opt.natL_len, HXL.out]
      rw [hnc] at hn17
      subst hnp
      have HCI := Lib.hid (HOK.out.inp)
      have HIL := Lib.hid (HOK.out.il)
      have HNT := Lib.hid (HOK.out.net)
      have HPL := Lib.hid (HPP.out.le)
      rw [hnc] at HCI HIL HNT HPL
      have hp5 := HP5.out
      rw [HPE.out] at hp5
      have HPI := Lib.hid hp5
      have hpl : (Opt.natL xs).length = n := by rw [Opt.natL_len, HXL.out]
      have HPN := Lib.hid hpl
      clear hnc hp5 hpl
      generalize cellsV i ns gs os = ce at *
      generalize Opt.natL xs = p at *
      obtain ⟨ou, hou⟩ : ∃ ou, Opt.natL os = ou := ⟨_, rfl⟩
      rw [hou] at HAO HOV HOL
      obtain ⟨no, hno⟩ : ∃ no, os.length = no := ⟨_, rfl⟩
      have HOS := Lib.hid hno
      have hno10 : no ≤ 10 := by rw [← hno]; exact ho
      clear hou hno HPE HPP HOK HP5
      go_upto_region 12 with fail
      go_loopw [10] (fun nv wr => ∃ net : Nat, net ≤ N ∧ nv = .int .i64 net ∧ Hid (Below w5.heap.size w5 wr)) (fun nv _ => N - (intOf nv).toNat)
      case atStart => exact ⟨0, Nat.zero_le _, rfl, Lib.hid (Below.refl _ _)⟩
      case round =>
        obtain ⟨net, hnet, rfl, HX⟩ := hrel
        have hz := HX.out.size
        have HRr := Lib.hid (HR5.out.below HX.out hlt5)
        have HCr := Lib.hid ((HC5.out.below HX.out).mono HX.out.size)
        have q0 := HRr.out.c0
        have q1 := HRr.out.c1
        have q2 := HRr.out.c2
        have q3 := HRr.out.c3
        by_cases hltN : net < N
        · go_wp2_with fail -- MARKA
          refine (varCount_any i nA gA oA nc gc oc ns gs os _ HCr.out).mono ?_
          rintro e wv ⟨rfl, hbv⟩
          rw [HVC.out] -- MARKB
          go_upto_region 14 with fail -- MARKC
          have HXv := Lib.hid (HX.out.trans (hbv.mono HX.out.size))
          clear hbv HX HRr HCr q0 q1 q2 q3 hz
          have hzv := HXv.out.size
          have hba : Below wv.heap.size wv (wv.alloc (.cells #[] 3)) := (Below.refl _ _).alloc (Nat.le_refl _) _
          have HS7 : Hid (TimesAt (wv.alloc (.cells #[] 3)) w5.heap.size (snA ce p net 0) wv.heap.size 0) := Lib.hid (TimesAt.made0 wv w5.heap.size hzv)
          have HX7 := Lib.hid (HXv.out.trans (hba.mono hzv))
          clear hba HXv
          go_upto_region 16 with fail
          generalize wv.alloc (.cells #[] 3) = w7 at *
          generalize wv.heap.size = h0 at *
          go_loopw [11, 12] (fun sv jv wr => ∃ (j h cp sl : Nat), j ≤ n ∧ jv = .int .i64 j ∧ sv = .slice (some ⟨h, 0, none⟩) sl cp ∧ Hid ((snA ce p net j).length = sl) ∧ Hid (TimesAt wr w5.heap.size (snA ce p net j) h cp) ∧ Hid (Below w5.heap.size w5 wr)) (fun _ jv _ => n - (intOf jv).toNat)
          case atStart => exact ⟨0, _, _, 0, Nat.zero_le _, rfl, rfl, Lib.hid rfl, HS7, HX7⟩
          case round =>
            clear HS7 HX7
            obtain ⟨j, h, cp, sl, hj, rfl, rfl, HL, HS, HX⟩ := hrel
            have hsl : sl ≤ n := by have := snA_len ce p net j; rw [HL.out] at this; omega
            have hz := HX.out.size
            by_cases hlt : j < n
            · obtain ⟨b, off, hbo, hbl2, B1, d1, _, p1, _, hbA⟩ := HU5.out j (by rw [HNC.out]; exact hlt)
              injection hbo with hbo
              injection hbo with y1 y2
              subst y1 y2
              rw [Nat.zero_add] at p1
              have g1 := (HX.out.cell (p := ⟨gl, j * 4 + 1, none⟩) hbl2).trans p1
              have HBA := Lib.hid ((hbA.below HX.out).mono HX.out.size)
              obtain ⟨bp, op, rfl, hbpl, pcell⟩ := HPI.out j (by rw [Opt.intL_len, HPN.out]; exact hlt)
              rw [← HX.out.cell (by exact hbpl), Opt.intL_at] at pcell
              have hil := HIL.out j hlt
              have HSU := Lib.hid (snA_succ ce p net j)
              clear p1 hbA
              generalize (ce.getD j (0, [], 0, false)).2.1 = y at *
              generalize snA ce p net j = sn1 at *
              generalize p.getD j 0 = pj at *
              obtain ⟨m1, hm1⟩ : ∃ m1, y.length = m1 := ⟨_, rfl⟩
              rw [hm1] at g1 hil
              have HM1 := Lib.hid hm1
              clear hm1
              cases hct : y.contains net
              · have HSE : Hid (snA ce p net (j + 1) = sn1) := Lib.hid (by rw [HSU.out, hct, if_neg (by simp)])
                have HCT := Lib.hid hct
                clear hct HSU
                go_wp2_with (go_at_call 11; refine (lawHas_any B1 m1 d1 _ y net _ HBA.out HM1.out (by omega)).mono ?_; rintro e wq ⟨rfl, hwq⟩; obtain rfl := hwq; rw [HCT.out])
                go_roundw
                case rel => exact ⟨j + 1, h, cp, sl, by omega, by go_num, rfl, by rw [HSE.out]; exact HL, by rw [HSE.out]; exact HS, HX⟩
                case measure => simp [intOf]; omega
              · have HSE : Hid (snA ce p net (j + 1) = sn1 ++ [pj]) := Lib.hid (by rw [HSU.out, hct, if_pos rfl])
                have HCT := Lib.hid hct
                clear hct HSU
                go_upto_region 19 with (go_at_call 11; refine (lawHas_any B1 m1 d1 _ y net _ HBA.out HM1.out (by omega)).mono ?_; rintro e wq ⟨rfl, hwq⟩; obtain rfl := hwq; rw [HCT.out])
                go_wp2_with (at_builtin; refine wpList_pushT rfl (.tmp 70) (.tmp 75) rfl _ w5.heap.size h cp sl sn1 rfl HL.out HS.out (by omega) pj _ rfl rfl ?_)
                intro h' cp' w8 hS8 hb8 _ _
                have HS8 : Hid (TimesAt w8 w5.heap.size (snA ce p net (j + 1)) h' cp') := Lib.hid (by rw [HSE.out]; exact hS8)
                have HL8 : Hid ((snA ce p net (j + 1)).length = sl + 1) := Lib.hid (by rw [HSE.out, List.length_append, HL.out]; rfl)
                have HX8 := Lib.hid (HX.out.trans hb8)
                clear hS8 hb8 HS HX HL HSE pcell g1
                go_wp2
                go_roundw
                case rel => exact ⟨j + 1, h', cp', sl + 1, by omega, by go_num, rfl, HL8, HS8, HX8⟩
                case measure => simp [intOf]; omega
            · obtain rfl : n = j := by omega
              have HSB0 : Hid (TimesAt wr w5.heap.size (snA ce p net n ++ snB ou net 0) h cp) := Lib.hid (by rw [show snB ou net 0 = [] from rfl, List.append_nil]; exact HS.out)
              have HLB0 : Hid ((snA ce p net n ++ snB ou net 0).length = sl) := Lib.hid (by rw [show snB ou net 0 = [] from rfl, List.append_nil]; exact HL.out)
              clear HS HL
              have HRb := Lib.hid (HR5.out.below HX.out hlt5)
              go_upto_region 21 with fail
              go_loopw [11, 13] (fun sv ov wr => ∃ (o h cp sl : Nat), o ≤ no ∧ ov = .int .i64 o ∧ sv = .slice (some ⟨h, 0, none⟩) sl cp ∧ Hid ((snA ce p net n ++ snB ou net o).length = sl) ∧ Hid (TimesAt wr w5.heap.size (snA ce p net n ++ snB ou net o) h cp) ∧ Hid (Below w5.heap.size w5 wr)) (fun _ ov _ => no - (intOf ov).toNat)
              case atStart => exact ⟨0, h, cp, sl, Nat.zero_le _, rfl, rfl, HLB0, HSB0, HX⟩
              case round =>
                clear HSB0 HLB0 HX HRb hz hsl
                obtain ⟨o, hA, cp, sl, ho2, rfl, rfl, HL, HS, HX⟩ := hrel
                have hsl : sl ≤ 30 := by have h1 := snA_len ce p net n; have h2 := snB_len ou net o; have h3 := HL.out; rw [List.length_append] at h3; omega
                have hz := HX.out.size
                have HRr := Lib.hid (HR5.out.below HX.out hlt5)
                have q3 := HRr.out.c3
                rw [HOS.out] at q3
                by_cases hlt2 : o < no
                · obtain ⟨bo, oo, hboo, hbol, ocell⟩ := HC5.out.outs o (by rw [HOS.out]; exact hlt2)
                  subst hboo
                  rw [← HX.out.cell (by exact hbol), (HOV.out o (by rw [HOS.out]; exact hlt2)).1] at ocell
                  have hr1 := (HOV.out o (by rw [HOS.out]; exact hlt2)).2
                  have HSU := Lib.hid (snB_succ ou net o)
                  generalize snB ou net o = sb at *
                  generalize snA ce p net n = sa at *
                  generalize ou.getD o 0 = r at *
                  obtain ⟨d, hd⟩ : ∃ d, r / 2 = d := ⟨_, rfl⟩
                  have d1 : (r : Int) / 2 = (d : Int) := by omega
                  have d2 : (r : Int).tdiv 2 = (d : Int) := by rw [Int.tdiv_eq_ediv_of_nonneg (by omega)]; omega
                  have hdb : d ≤ 500 := by omega
                  have HD := Lib.hid hd
                  clear hd
                  by_cases hq : d = net
                  · subst hq
                    have HSE : Hid (sa ++ snB ou d (o + 1) = sa ++ sb ++ [o * 5 + 4]) := Lib.hid (by rw [HSU.out, if_pos HD.out, List.append_assoc])
                    have hv5 : (o : Int) * 5 + 5 - 1 = ((o * 5 + 4 : Nat) : Int) := by omega
                    have HV5 := Lib.hid hv5
                    clear hv5 HSU
                    go_upto_region 24 with fail
                    clear d1 d2
                    go_wp2_with (at_builtin; refine wpList_pushT rfl (.tmp 92) (.tmp 97) rfl _ w5.heap.size hA cp sl (sa ++ sb) rfl HL.out HS.out (by omega) (o * 5 + 4) _ HV5.out rfl ?_)
                    intro h' cp' w8 hS8 hb8 _ _
                    have HS8 : Hid (TimesAt w8 w5.heap.size (sa ++ snB ou d (o + 1)) h' cp') := Lib.hid (by rw [HSE.out]; first | exact hS8 | (rw [List.append_assoc]; exact hS8))
                    have HL8 : Hid ((sa ++ snB ou d (o + 1)).length = sl + 1) := Lib.hid (by rw [HSE.out, List.length_append, HL.out]; rfl)
                    have HX8 := Lib.hid (HX.out.trans hb8)
                    clear hS8 hb8 HS HX HL HSE ocell q3 HRr
                    go_wp2
                    go_roundw
                    case rel => exact ⟨o + 1, h', cp', sl + 1, by omega, by go_num, rfl, HL8, HS8, HX8⟩
                    case measure => simp [intOf]; omega
                  · have HSE : Hid (snB ou net (o + 1) = sb) := Lib.hid (by rw [HSU.out, if_neg (by rw [HD.out]; exact hq)])
                    have z1 : ((d : Int) == (net : Int)) = false := by simp; omega
                    have z2 : decide ((d : Int) = (net : Int)) = false := by simp; omega
                    have z3 : decide (d = net) = false := by simp; omega
                    clear HSU
                    go_wp2
                    go_roundw
                    case rel => exact ⟨o + 1, hA, cp, sl, by omega, by go_num, rfl, by rw [HSE.out]; exact HL, by rw [HSE.out]; exact HS, HX⟩
                    case measure => simp [intOf]; omega
                · obtain rfl : no = o := by omega
                  have HSK : Hid (snA ce p net n ++ snB ou net no = snkP ou ce p net) := Lib.hid (by rw [sn_all, HNC.out, HOL.out, HOS.out])
                  have hcnt := HAO.out.cnt net hltN
                  have hpin := HAO.out.pin
                  rw [HN.out] at hcnt hpin
                  rw [HNC.out] at hpin
                  have HPIN := Lib.hid hpin
                  rw [HSK.out] at HS HL
                  rw [HL.out] at hcnt
                  have HCNT := Lib.hid hcnt
                  have hsb := HS.out.gb
                  clear hcnt hpin HSK
                  go_upto_region 27 with fail
                  clear q3 HRr
                  obtain ⟨w8, hw8⟩ : ∃ w8, w8 = wr := ⟨_, rfl⟩
                  subst hw8
                  go_loopw [14, 15] (fun fv kv wr => ∃ k : Nat, k ≤ nr ∧ kv = .int .i64 k ∧ fv = .int .i64 (flR es net k : Nat) ∧ Hid (Below w8.heap.size w8 wr)) (fun _ kv _ => nr - (intOf kv).toNat)
                  case atStart => exact ⟨0, Nat.zero_le _, rfl, rfl, Lib.hid (Below.refl _ _)⟩
                  case round =>
                    obtain ⟨k, hk, rfl, rfl, HK⟩ := hrel
                    have hzk := HK.out.size
                    have HXk := Lib.hid (HX.out.trans (HK.out.mono hz))
                    have hfl := flR_le es net k
                    by_cases hlt3 : k < nr
                    · obtain ⟨b, off, hbo, hbl2, B1, c1, p0, _, p2, hbA⟩ := HI5.out k (by rw [HN.out]; exact hlt3)
                      injection hbo with hbo
                      injection hbo with y1 y2
                      subst y1 y2
                      rw [Nat.zero_add] at p0 p2
                      have g0 := (HXk.out.cell (p := ⟨gg, k * 3, none⟩) hbl2).trans p0
                      have g2 := (HXk.out.cell (p := ⟨gg, k * 3 + 2, none⟩) hbl2).trans p2
                      have HG := Lib.hid (And.intro p2 hbl2)
                      have HSU := Lib.hid (flR_step (rs := es) (net := net) (k := k) (by rw [HN.out]; exact hlt3))
                      obtain ⟨hpa, hpb, hpc, hpd⟩ := HPIN.out k hlt3
                      obtain ⟨u1, _, u3⟩ := HCB2.out k hlt3
                      have HBA := Lib.hid hbA
                      clear p0 p2 hbA
                      generalize (es.getD k (0, 0, [])).2.2 = hs at *
                      generalize (es.getD k (0, 0, [])).1 = v at *
                      generalize flR es net k = fk at *
                      by_cases hv : v = net
                      · subst hv
                        have HSE : Hid (flR es v (k + 1) = fk + 1) := Lib.hid (by rw [HSU.out, if_pos rfl])
                        obtain ⟨mh, hm⟩ : ∃ mh, hs.length = mh := ⟨_, rfl⟩
                        rw [hm] at HG u3 hpb
                        have HM := Lib.hid hm
                        have HPA := Lib.hid hpa
                        have HPC := Lib.hid hpc
                        have hba : Below wr.heap.size wr (wr.alloc (.cells #[] 3)) := (Below.refl _ _).alloc (Nat.le_refl _) _
                        have HT0 : Hid (TimesAt (wr.alloc (.cells #[] 3)) w8.heap.size ((tiles hs).take 0) wr.heap.size 0) := Lib.hid (TimesAt.made0 wr w8.heap.size hzk)
                        have HK0 := Lib.hid (HK.out.trans (hba.mono hzk))
                        clear hba hm hpa hpc HSU HK HXk g2
                        go_upto_region 33 with fail
                        clear g0
                        generalize wr.alloc (.cells #[] 3) = w9 at *
                        generalize wr.heap.size = t0 at *
                        go_loopw [16, 17] (fun tv jv wr => ∃ (j h2 c2 : Nat), j ≤ mh ∧ jv = .int .i64 j ∧ tv = .slice (some ⟨h2, 0, none⟩) j c2 ∧ Hid (TimesAt wr w8.heap.size ((tiles hs).take j) h2 c2) ∧ Hid (Below w8.heap.size w8 wr)) (fun _ jv _ => mh - (intOf jv).toNat)
                        case atStart => exact ⟨0, _, _, Nat.zero_le _, rfl, rfl, HT0, HK0⟩
                        case round =>
                          clear HT0 HK0
                          obtain ⟨j, h2, c2, hj, rfl, rfl, HT, HK⟩ := hrel
                          have hzj := HK.out.size
                          have HXj := Lib.hid (HX.out.trans (HK.out.mono hz))
                          have g2 := (HXj.out.cell (p := ⟨gg, k * 3 + 2, none⟩) HG.out.2).trans HG.out.1
                          by_cases hlt4 : j < mh
                          · obtain ⟨d, of1, rfl, hd, c0, _⟩ := HBA.out j (by rw [hpI_len, HM.out]; exact hlt4)
                            rw [← HXj.out.cell (by exact hd), hpI_at] at c0
                            have HTS := Lib.hid (Rt.tiles_snoc (hs := hs) (j := j) (by rw [HM.out]; exact hlt4))
                            have HTL : Hid (((tiles hs).take j).length = j) := Lib.hid (by rw [List.length_take]; unfold tiles; rw [List.length_map, HM.out]; omega)
                            generalize (tiles hs).take j = ts at *
                            generalize (hs.getD j (0, 0)).1 = tv at *
                            go_wp2_with (at_builtin; refine wpList_pushT rfl (.tmp 125) (.tmp 135) rfl _ w8.heap.size h2 c2 j ts rfl HTL.out HT.out (by omega) tv _ rfl rfl ?_)
                            intro h3 c3 w10 hT10 hb10 _ _
                            have HT10 : Hid (TimesAt w10 w8.heap.size ((tiles hs).take (j + 1)) h3 c3) := Lib.hid (by rw [HTS.out]; exact hT10)
                            have HK10 := Lib.hid (HK.out.trans hb10)
                            clear hT10 hb10 HT HK HXj g2 c0
                            go_wp2
                            go_roundw
                            case rel => exact ⟨j + 1, h3, c3, by omega, by go_num, rfl, HT10, HK10⟩
                            case measure => simp [intOf]; omega
                          · obtain rfl : mh = j := by omega
                            have HTF : Hid (TimesAt wr w8.heap.size (tiles hs) h2 c2) := Lib.hid (by
                              have hh := HT.out
                              rw [List.take_of_length_le (by unfold tiles; rw [List.length_map, HM.out]; exact Nat.le_refl _)] at hh
                              exact hh)
                            have HTL : Hid ((tiles hs).length = mh) := Lib.hid (by unfold tiles; rw [List.length_map]; exact HM.out)
                            have HSw := Lib.hid (TimesAt.keep HS.out (HK.out.block hA hsb.2))
                            have HTI := Lib.hid (TimesAt.ints HTF.out)
                            have ct0 := (TimesAt.row HTF.out (k := 0) (by rw [HTL.out]; exact hpb)).1
                            rw [HPC.out] at ct0
                            have HCT0 := Lib.hid ct0
                            clear HT ct0
                            go_upto_region 37 with fail
                            clear g2
                            go_loop [18] (fun kv => ∃ q : Nat, q ≤ sl ∧ kv = .int .i64 q) (fun kv => sl - (intOf kv).toNat)
                            case atStart => exact ⟨0, Nat.zero_le _, rfl⟩
                            case round =>
                              obtain ⟨q, hq, rfl⟩ := hrel
                              by_cases hlt5' : q < sl
                              · have cq := (TimesAt.row HSw.out (k := q) (by rw [HL.out]; exact hlt5')).1
                                have hin := HPA.out ((snkP ou ce p v).getD q 0) (memD (by rw [HL.out]; exact hlt5'))
                                generalize (snkP ou ce p v).getD q 0 = x at *
                                have HIN := Lib.hid hin
                                clear hin
                                go_wp2_with (go_at_call 11; refine (lawHas_any (some ⟨h2, 0, none⟩) mh c2 _ (tiles hs) x _ HTI.out HTL.out (by omega)).mono ?_; rintro e wq ⟨rfl, hwq⟩; obtain rfl := hwq; rw [HIN.out])
                                go_round
                                case rel => exact ⟨q + 1, by omega, by go_num⟩
                                case measure => simp [intOf]; omega
                              · obtain rfl : sl = q := by omega
                                have hv5 : ((v : Int) - 1) * 5 = ((srcN ce p v 0 : Nat) : Int) := by show ((v : Int) - 1) * 5 = (((v - 1) * 5 : Nat) : Int); omega
                                have HV5 := Lib.hid hv5
                                clear hv5
                                go_upto_region 43 with fail
                                go_loop [19, 20] (fun sv kv => ∃ q : Nat, q ≤ n ∧ kv = .int .i64 q ∧ sv = .int .i64 (srcN ce p v q : Nat)) (fun _ kv => n - (intOf kv).toNat)
                                case atStart => exact ⟨0, Nat.zero_le _, rfl, by rw [← HV5.out]⟩
                                case round =>
                                  obtain ⟨q, hq2, rfl, rfl⟩ := hrel
                                  by_cases hlt6 : q < n
                                  · obtain ⟨b, off, hbo, hbl3, _, _, p0, _, _, _⟩ := HU5.out q (by rw [HNC.out]; exact hlt6)
                                    injection hbo with hbo
                                    injection hbo with y1 y2
                                    subst y1 y2
                                    rw [Nat.zero_add, ← HXj.out.cell (by exact hbl3)] at p0
                                    obtain ⟨bp, op, rfl, hbpl, pcell⟩ := HPI.out q (by rw [Opt.intL_len, HPN.out]; exact hlt6)
                                    rw [← HXj.out.cell (by exact hbpl), Opt.intL_at] at pcell
                                    have HSS : Hid (srcN ce p v (q + 1) = if (ce.getD q (0, [], 0, false)).1 = v then p.getD q 0 else srcN ce p v q) := Lib.hid rfl
                                    have hnt := (HNT.out q hlt6).2
                                    generalize (ce.getD q (0, [], 0, false)).1 = cv at *
                                    generalize p.getD q 0 = pq at *
                                    generalize srcN ce p v q = sq at *
                                    by_cases hcv : cv = v
                                    · subst hcv
                                      have HSE2 : Hid (srcN ce p cv (q + 1) = pq) := Lib.hid (by rw [HSS.out, if_pos rfl])
                                      go_wp2
                                      go_round
                                      case rel => exact ⟨q + 1, by omega, by go_num, by rw [HSE2.out]⟩
                                      case measure => simp [intOf]; omega
                                    · have HSE2 : Hid (srcN ce p v (q + 1) = sq) := Lib.hid (by rw [HSS.out, if_neg hcv])
                                      have z1 : ((cv : Int) == (v : Int)) = false := by simp; omega
                                      have z2 : decide ((cv : Int) = (v : Int)) = false := by simp; omega
                                      have z3 : decide (cv = v) = false := by simp; omega
                                      go_wp2
                                      go_round
                                      case rel => exact ⟨q + 1, by omega, by go_num, by rw [HSE2.out]⟩
                                      case measure => simp [intOf]; omega
                                  · obtain rfl : n = q := by omega
                                    have ct0 := HCT0.out
                                    generalize srcN ce p v n = sq at *
                                    go_wp2
                                    go_roundw
                                    case rel => exact ⟨k + 1, by omega, by go_num, by rw [HSE.out]; go_num, HK⟩
                                    case measure => simp [intOf]; omega
                      · have HSE : Hid (flR es net (k + 1) = fk) := Lib.hid (by rw [HSU.out, if_neg hv]; rfl)
                        have z1 : ((v : Int) != (net : Int)) = true := by simp; omega
                        have z2 : decide ((v : Int) = (net : Int)) = false := by simp; omega
                        have z3 : decide (v = net) = false := by simp; omega
                        go_wp2
                        go_roundw
                        case rel => exact ⟨k + 1, by omega, by go_num, by rw [HSE.out], HK⟩
                        case measure => simp [intOf]; omega
                    · obtain rfl : nr = k := by omega
                      have hc := HCNT.out
                      clear HCNT
                      by_cases c1 : 0 < net
                      · by_cases c2 : 0 < sl
                        · rw [if_pos ⟨c1, c2⟩] at hc
                          rw [hc]
                          go_wp2
                          go_roundw
                          case rel => exact ⟨net + 1, by omega, by go_num, HXk⟩
                          case measure => simp [intOf]; omega
                        · rw [if_neg (fun h => c2 h.2)] at hc
                          rw [hc]
                          obtain rfl : sl = 0 := by omega
                          go_wp2
                          go_roundw
                          case rel => exact ⟨net + 1, by omega, by go_num, HXk⟩
                          case measure => simp [intOf]; omega
                      · rw [if_neg (fun h => c1 h.1)] at hc
                        rw [hc]
                        obtain rfl : net = 0 := by omega
                        go_wp2
                        go_roundw
                        case rel => exact ⟨0 + 1, by omega, by go_num, HXk⟩
                        case measure => simp [intOf]; omega
        · obtain rfl : net = N := by omega
          go_wp2_with (go_at_call 13; refine (varCount_any i nA gA oA nc gc oc ns gs os _ HCr.out).mono ?_; rintro e wv ⟨rfl, hbv⟩; rw [HVC.out])
          go_ret
          exact ⟨rfl, HL5.out.trans ((HX.out.trans (hbv.mono HX.out.size)).mono HL5.out.size)⟩
end Go.Proofs.YtliedgaefgomjaaGreat
