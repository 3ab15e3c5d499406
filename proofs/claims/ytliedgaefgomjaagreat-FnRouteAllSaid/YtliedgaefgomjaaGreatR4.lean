/- The contract of the drawing of a circuit. -/
import Derived.Test.YtliedgaefgomjaaGreatR1
import Derived.Deep.RegionLaw
import Derived.Deep.DeepCutAuto
import Derived.Deep.LoopGhost
import Derived.Deep.CutBlock
import Derived.Test.YtliedgaefgomjaaGreatW3
namespace Go.Proofs.YtliedgaefgomjaaGreat
open Go.RowKit Go.Deep

set_option maxHeartbeats 16000000 in
set_option maxRecDepth 100000 in
theorem circuit_any (R : Nat) (bA : Option Addr) (bl bc : Nat) (p n : Int) (w : World) (hR : Row w R 119 #[.slice bA bl bc, .int .i64 p]) (hb : BytesAt w R bA bl) (hbl : bl ≤ 2000) (hp0 : 0 ≤ p) (hp1 : p ≤ 50000) (hn0 : 0 ≤ n) (hn1 : n ≤ 1000) :
    Calls Tryz.prog 45 #[.pointer (some ⟨R, 0, none⟩), .int .i64 n] w (CircDrawn w R (.slice bA bl bc) p) := by
  have HBY := Lib.hid hb
  have hRl := hR.lt
  have HR0 := Lib.hid (hR.alloc (.cells #[.int .i64 0, .slice none 0 0, .slice none 0 0, .slice none 0 0] 26))
  have HBY0 := Lib.hid (hb.grown (gb_alloc (World.grownBy.refl w (some R)) (.cells #[.int .i64 0, .slice none 0 0, .slice none 0 0, .slice none 0 0] 26)))
  have HG0 := Lib.hid (gb_alloc (World.grownBy.refl w (some R)) (.cells #[.int .i64 0, .slice none 0 0, .slice none 0 0, .slice none 0 0] 26))
  have HD0 := Lib.hid (show Row (w.alloc (.cells #[.int .i64 0, .slice none 0 0, .slice none 0 0, .slice none 0 0] 26)) w.heap.size 26 #[.int .i64 0, .slice none 0 0, .slice none 0 0, .slice none 0 0] from heap_alloc_new w _)
  clear hR hb
  obtain ⟨i3, hi3, hz3, hs3, ht3⟩ := info_parts Tryz.info3
  obtain ⟨i31, hi31, hz31, hs31, ht31⟩ := info_parts Tryz.info31
  have HI3 := Lib.hid hi3
  have HZ3 := Lib.hid hz3
  have HS3 := Lib.hid hs3
  have HT3 := Lib.hid ht3
  have HI31 := Lib.hid hi31
  have HZ31 := Lib.hid hz31
  have HS31 := Lib.hid hs31
  have HT31 := Lib.hid ht31
  clear hi3 hz3 hs3 ht3 hi31 hz31 hs31 ht31
  go_enter Tryz.func45, Tryz.ntmps45
  go_wp2_with fail
  refine (pick_any R bA bl bc p 5 _ HR0.out HBY0.out hbl hp0 (by omega) (by omega) (by omega)).mono ?_
  rintro e w1 ⟨i, rfl, hi0, hi1, hr1, hg1⟩
  have HDS := Lib.hid (Drawn.start hr1 (HD0.out.grown hg1 (by intro x; injection x; omega)) (HG0.out.trans hg1) hRl (Nat.le_refl _) i)
  clear hr1 hg1 HR0 HBY0 HG0 HD0
  go_wp2_with fail
  generalize w1.alloc (.cells #[.int .i64 i, .slice none 0 0, .slice none 0 0, .slice none 0 0] 26) = w2 at *
  generalize hC : w1.heap.size = C at *
  clear hC w1
  generalize w.heap.size = D at *
  refine (pickD 4 _ HDS.out HBY.out hbl (by omega) (by omega) (by omega) (by omega)).mono ?_
  rintro e w3 ⟨lt, rfl, hl0, hl1, hD3⟩
  have HD3 := Lib.hid hD3
  have c0 := hD3.cir.cell 0
  simp at c0
  clear HDS hD3
  go_wp2_with fail
  refine (pickD 15 _ HD3.out HBY.out hbl (by omega) (by omega) (by omega) (by omega)).mono ?_
  rintro e w4 ⟨k0, rfl, hk0, hk1, hD4⟩
  have HD4 := Lib.hid hD4
  clear HD3 hD4 c0
  go_wp2_with fail
  go_loopw [7, 8] (fun vv kv wr => ∃ (vars k q : Int) (vG : Value) (gs : List (Int × Int)), vv = .int .i64 vars ∧ kv = .int .i64 k ∧ 0 ≤ k ∧ (gs.length : Int) + k ≤ 14 ∧ 1 ≤ vars ∧ vars + k ≤ 30 ∧ p ≤ q ∧ q + 4 * k ≤ p + 60 ∧
      Hid (Drawn w wr R D C (C + 1) (.slice bA bl bc) q i (.slice none 0 0) vG (.slice none 0 0) [] gs [])) (fun _ kv _ => (intOf kv).toNat)
  case atStart => exact ⟨_, _, _, _, [], rfl, rfl, by omega, by simp; omega, by omega, by omega, by omega, by omega, HD4⟩
  case round =>
    clear HD4
    obtain ⟨vars, k, q, vG, gs, rfl, rfl, hk0', hgk, hv1, hv2, hq0, hq1, HD⟩ := hrel
    by_cases hk : 0 < k
    · go_wp2_with fail
      refine (pickD (2 * vars) _ HD.out HBY.out hbl (by omega) (by omega) (by omega) (by omega)).mono ?_
      rintro e w5 ⟨a, rfl, ha0, ha1, hD5⟩
      have HD5 := Lib.hid hD5
      clear hD5 HD
      go_wp2_with fail
      refine (pickD (2 * vars) _ HD5.out HBY.out hbl (by omega) (by omega) (by omega) (by omega)).mono ?_
      rintro e w6 ⟨b, rfl, hb0, hb1, hD6⟩
      have HD6 := Lib.hid hD6
      clear hD6 HD5
      go_wp2_with fail
      refine (pickD 3 _ HD6.out HBY.out hbl (by omega) (by omega) (by omega) (by omega)).mono ?_
      rintro e w7 ⟨s, rfl, hs0, hs1, hD7⟩
      have HD7 := Lib.hid hD7
      clear hD7 HD6
      by_cases hs : 0 < s
      · go_wp2_with fail
        all_goals
          refine (pickD _ _ HD7.out HBY.out hbl (by omega) (by omega) (by omega) (by omega)).mono ?_
          rintro e w8 ⟨t, rfl, ht0, ht1, hD8⟩
          have HD8 := Lib.hid hD8
          clear hD8 HD7
          have c2 := HD8.out.cir.cell 2
          simp at c2
          have hbase := HD8.out.hB
          go_wp2_with (at_builtin; refine wpList_append_kept _ rfl _ _ 24 rfl (C + 1) 113 i31 _ 2 16 Tryz.underlying24 HI31.out HZ31.out HS31.out HT31.out rfl (by omega) vG gs.length (gvs gs) rfl (HD8.out.gates.alloc _) ⟨w8.heap.size, 0, none⟩ 1 1 _ rfl rfl (World.news_of_block (heap_alloc_new w8 _)) ?c1 (by omega) ?c2 ?c3 ?c4 _ rfl ?_)
          case c1 => simp [Value.oneCell']
          case c2 => simp [maxLen]; omega
          case c3 => omega
          case c4 => simp; omega
          intro g cap w9 hown9 hgrow hat hlt9 hkept
          have rC := (HD8.out.alloc _).cir.grown hgrow (own_low HD8.out.gates HD8.out.hC)
          have d2 := rC.cell 2
          simp at d2
          have f2 := rC.frozen 2
          have HDn := Lib.hid ((HD8.out.alloc _).appG (more := [(2 * vars - 1 - t, b)]) hown9 hgrow)
          clear c2 rC hown9 hgrow hat hlt9 hkept HD8 hbase
          go_wp2
          go_roundw
          case rel => exact ⟨_, _, _, _, _, rfl, rfl, by omega, by simp; omega, by omega, by omega, by omega, by omega, HDn⟩
          case measure => simp [intOf]; omega
      · have c2 := HD7.out.cir.cell 2
        simp at c2
        have hbase := HD7.out.hB
        go_wp2_with (at_builtin; refine wpList_append_kept _ rfl _ _ 24 rfl (C + 1) 113 i31 _ 2 16 Tryz.underlying24 HI31.out HZ31.out HS31.out HT31.out rfl (by omega) vG gs.length (gvs gs) rfl (HD7.out.gates.alloc _) ⟨w7.heap.size, 0, none⟩ 1 1 _ rfl rfl (World.news_of_block (heap_alloc_new w7 _)) ?c1 (by omega) ?c2 ?c3 ?c4 _ rfl ?_)
        case c1 => simp [Value.oneCell']
        case c2 => simp [maxLen]; omega
        case c3 => omega
        case c4 => simp; omega
        intro g cap w9 hown9 hgrow hat hlt9 hkept
        have rC := (HD7.out.alloc _).cir.grown hgrow (own_low HD7.out.gates HD7.out.hC)
        have d2 := rC.cell 2
        simp at d2
        have f2 := rC.frozen 2
        have HDn := Lib.hid ((HD7.out.alloc _).appG (more := [(a, b)]) hown9 hgrow)
        clear c2 rC hown9 hgrow hat hlt9 hkept HD7 hbase
        go_wp2
        go_roundw
        case rel => exact ⟨_, _, _, _, _, rfl, rfl, by omega, by simp; omega, by omega, by omega, by omega, by omega, HDn⟩
        case measure => simp [intOf]; omega
    · go_wp2_with fail
      go_loopw [11] (fun kv wr => ∃ (j : Nat) (q2 : Int) (vN : Value) (ns : List Int), kv = .int .i64 j ∧ (j : Int) ≤ lt ∧ ns.length ≤ j ∧ p ≤ q2 ∧ q2 ≤ p + 60 + j ∧
          Hid (Drawn w wr R D C (C + 1) (.slice bA bl bc) q2 i vN vG (.slice none 0 0) ns gs [])) (fun kv _ => (lt - intOf kv).toNat)
      case atStart => exact ⟨0, q, _, [], rfl, by omega, by simp, by omega, by omega, HD⟩
      case round =>
        clear HD
        obtain ⟨j, q2, vN, ns, rfl, hj0, hj1, hp2, hp3, HD⟩ := hrel
        by_cases hjl : (j : Int) < lt
        · have c1 := HD.out.cir.cell 1
          simp at c1
          have s1 : IntKind.i64.wrap (2 * vars) = 2 * vars := IntWalk.i64_in _ (by omega)
          go_wp2_with fail
          go_region_law (first
            | (refine step_append_kept _ (by rfl) _ _ _ (by rfl) (C + 1) 3 i3 _ 1 8 Tryz.underlying23 HI3.out HZ3.out HS3.out HT3.out rfl (by omega) vN ns.length (ivs ns) (by simp [Act.eval]) (HD5.out.next.alloc _) ⟨w5.heap.size, 0, none⟩ 1 1 [.int .i64 v] (by simp [Act.eval]) (by rfl) (World.news_of_block (cs := #[.int .i64 v]) (t := 3) (fr := (0, 0)) (heap_alloc_new w5 _)) (by simp [Value.oneCell']) (by omega) (by simp [maxLen]; omega) (by omega) (by have := HD5.out.hB; simp; omega) _ rfl ?_; intro g cap w6 hown6 hgrow hat hlt6 hkept; have rC := (HD5.out.alloc _).cir.grown hgrow (own_low HD5.out.next HD5.out.hC); have d1 := rC.cell 1; simp at d1; have f1 := rC.frozen 1; have HDn := Lib.hid ((HD5.out.alloc _).appN (more := [v]) hown6 hgrow hat); clear rC hown6 hgrow hat hlt6 hkept)
            | (go_simp; go_at_call 70; refine (pickD _ _ HD.out.drew HBY.out hbl (by omega) (by omega) (by omega) (by omega)).mono ?_; rintro e w5 ⟨v, rfl, hv0, hv1, hD5⟩; have c15 := hD5.cir.cell 1; simp at c15; have HD5 := Lib.hid hD5; have ca := fun o => (hD5.alloc o).cir.cell 1; simp at ca; clear hD5))
          all_goals
            clear c1 c15 ca s1
            go_wp2
            go_roundw
            case rel => exact ⟨j + 1, q2 + 1, _, _, by go_num, by omega, by simp; omega, by omega, by omega, HDn⟩
            case measure => simp [intOf]; omega
        · go_wp2_with fail
          refine (pickD 4 _ HD.out HBY.out hbl (by omega) (by omega) (by omega) (by omega)).mono ?_
          rintro e w3 ⟨k3, rfl, hk30, hk31, hD3⟩
          have HD3 := Lib.hid hD3
          clear hD3 HD
          go_wp2_with fail
          go_loopg [12] k3.toNat (fun gk kv wr => ∃ (k4 q4 : Int) (vO : Value) (os : List Int), kv = .int .i64 k4 ∧ (gk : Int) = k4 ∧ (os.length : Int) + k4 ≤ 3 ∧ p ≤ q4 ∧ q4 + 3 * k4 ≤ p + 80 ∧
              Hid (Drawn w wr R D C (C + 1) (.slice bA bl bc) q4 i vN vG vO ns gs os))
          case atStart => exact ⟨_, _, _, [], rfl, by omega, by simp; omega, by omega, by omega, HD3⟩
          case round =>
            clear HD3
            obtain ⟨k4, q4, vO, os, rfl, hgk4, hk41, hq40, hq41, HD⟩ := hrel
            have hk40 : 0 ≤ k4 := by omega
            by_cases hk4 : 0 < k4
            · have c3 := HD.out.cir.cell 3
              simp at c3
              have s1 : IntKind.i64.wrap (2 * vars) = 2 * vars := IntWalk.i64_in _ (by omega)
              have s2 : IntKind.i64.wrap (2 * vars - 1) = 2 * vars - 1 := IntWalk.i64_in _ (by omega)
              obtain ⟨mn, hmn, hmn1, hmn2⟩ : ∃ mn : Int, (if 2 * vars < 8 then 2 * vars else 8) = mn ∧ 1 ≤ mn ∧ mn ≤ 8 := ⟨_, rfl, by split <;> omega, by split <;> omega⟩
              go_upto_block 5 with fail
              go_cut [] (fun wx => ∃ (vO7 : Value) (u7 : Int), Hid (Drawn w wx R D C (C + 1) (.slice bA bl bc) (q4 + 1 + 1 + 1) i vN vG vO7 ns gs (os ++ [u7])))
              case rest =>
                clear HD c3 s1 s2 hmn
                obtain ⟨vO7, u7, HDn⟩ := hcut
                go_wp2_with fail
                go_roundg (gk - 1)
                case measure => omega
                case rel => exact ⟨_, _, _, _, rfl, by omega, by simp; omega, by omega, by omega, HDn⟩
              go_wp2_with fail
              have tok0 : True := trivial
              go_region_law (first
                | (revert tok1; intro tok1; refine step_append_kept _ (by rfl) _ _ _ (by rfl) (C + 1) 3 i3 _ 1 8 Tryz.underlying23 HI3.out HZ3.out HS3.out HT3.out rfl (by omega) vO os.length (ivs os) (by simp [Act.eval]) (HDc.out.outs.alloc _) ⟨wC.heap.size, 0, none⟩ 1 1 [.int .i64 u] (by simp [Act.eval]) (by rfl) (World.news_of_block (cs := #[.int .i64 u]) (t := 3) (fr := (0, 0)) (heap_alloc_new wC _)) (by simp [Value.oneCell']) (by omega) (by simp [maxLen]; omega) (by omega) (by have := HDc.out.hB; simp; omega) _ rfl ?_; intro g cap w6 hown6 hgrow hat hlt6 hkept; have rC := (HDc.out.alloc _).cir.grown hgrow (own_low HDc.out.outs HDc.out.hC); have d3 := rC.cell 3; simp at d3; have f3 := rC.frozen 3; have HDn := Lib.hid ((HDc.out.alloc _).appO (more := [u]) hown6 hgrow hat); clear rC hown6 hgrow hat hlt6 hkept)
                | (revert tok2; intro tok2; refine step_append_kept _ (by rfl) _ _ _ (by rfl) (C + 1) 3 i3 _ 1 8 Tryz.underlying23 HI3.out HZ3.out HS3.out HT3.out rfl (by omega) vO os.length (ivs os) (by simp [Act.eval]) ((HDc.out.outs.alloc _).alloc _) ⟨wC.heap.size + 1, 0, none⟩ 1 1 [.int .i64 u] (by simp [Act.eval]) (by rfl) (World.news_of_block (cs := #[.int .i64 u]) (t := 3) (fr := (0, 0)) (by simpa using heap_alloc_new (wC.alloc (.cells #[.int .i64 (2 * vars - 1 - v1), .int .i64 v2] 3)) (.cells #[.int .i64 u] 3))) (by simp [Value.oneCell']) (by omega) (by simp [maxLen]; omega) (by omega) (by have := HDc.out.hB; simp; omega) _ rfl ?_; intro g cap w6 hown6 hgrow hat hlt6 hkept; have rC := ((HDc.out.alloc _).alloc _).cir.grown hgrow (own_low HDc.out.outs HDc.out.hC); have d3 := rC.cell 3; simp at d3; have f3 := rC.frozen 3; have HDn := Lib.hid (((HDc.out.alloc _).alloc _).appO (more := [u]) hown6 hgrow hat); clear rC hown6 hgrow hat hlt6 hkept)
                | (revert HDb; intro HDb; go_simp; go_at_call 70; (with_reducible refine (pickE _ _ (HDb.out.alloc _) HBY.out hbl (by omega) (by omega) (by omega) (by omega)).mono ?_); rintro e wC ⟨v3, rfl, hv30, hv31, hDc, hgc⟩; obtain ⟨u, hu, hux⟩ := two_at (2 * vars - 1 - v1) v2 v3 hv30 hv31; have HDc := Lib.hid hDc; have cc := hDc.cir.cell 3; simp at cc; have cca := fun o => (hDc.alloc o).cir.cell 3; simp at cca; have ccb := fun o o' => ((hDc.alloc o).alloc o').cir.cell 3; simp at ccb; have hT : wC.cell? ⟨wB.heap.size, v3.toNat, none⟩ = some (.int .i64 u) := ((Row.grown (heap_alloc_new wB _) hgc (by intro x; injection x; omega)).cell _).trans hu; have tok1 : True := trivial; clear hDc hgc HDb)
                | (revert HDb; intro HDb; go_simp; go_at_call 70; (with_reducible refine (pickE _ _ HDb.out HBY.out hbl (by omega) (by omega) (by omega) (by omega)).mono ?_); rintro e wC ⟨v3, rfl, hv30, hv31, hDc, hgc⟩; obtain ⟨u, hu, hux⟩ := two_at (2 * vars - 1 - v1) v2 v3 hv30 hv31; have HDc := Lib.hid hDc; have cc := hDc.cir.cell 3; simp at cc; have cca := fun o => (hDc.alloc o).cir.cell 3; simp at cca; have ccb := fun o o' => ((hDc.alloc o).alloc o').cir.cell 3; simp at ccb; have hT : (wC.alloc (.cells #[.int .i64 (2 * vars - 1 - v1), .int .i64 v2] 3)).cell? ⟨wC.heap.size, v3.toNat, none⟩ = some (.int .i64 u) := (Row.cell (heap_alloc_new wC _) _).trans hu; have tok2 : True := trivial; clear hDc hgc HDb)
                | (revert HDa; intro HDa; go_simp; go_at_call 70; refine (pickE _ _ HDa.out HBY.out hbl (by omega) (by omega) (by omega) (by omega)).mono ?_; rintro e wB ⟨v2, rfl, hv20, hv21, hDb, hgb⟩; have HDb := Lib.hid hDb; have cb := hDb.cir.cell 3; simp at cb; have cba := fun o => (hDb.alloc o).cir.cell 3; simp at cba; have hRB : R < wB.heap.size := hDb.row.lt; clear hDb hgb HDa)
                | (revert tok0; intro tok0; go_simp; go_at_call 70; refine (pickE _ _ HD.out.drew HBY.out hbl (by omega) (by omega) (by omega) (by omega)).mono ?_; rintro e wA ⟨v1, rfl, hv10, hv11, hDa, hga⟩; have HDa := Lib.hid hDa; have ca := hDa.cir.cell 3; simp at ca; have s3 : IntKind.i64.wrap (2 * vars - 1 - v1) = 2 * vars - 1 - v1 := IntWalk.i64_in _ (by omega); clear hDa hga tok0))
              all_goals
                go_wp2_with fail
                go_meet
                exact ⟨_, _, HDn⟩
            · go_wp2_with fail
              refine (odd_any R bA bl bc q4 n _ HD.out.row (HBY.out.grown HD.out.grown) hbl (by omega) (by omega) (by omega) (by omega)).mono ?_
              rintro e w5 ⟨b, q5, rfl, hq50, hq51, hr5, hg5⟩
              have HD5 := Lib.hid (HD.out.pick hr5 hg5)
              clear hr5 hg5 HD
              go_upto_if 104 with fail
              go_cut [] (fun wx => ∃ (q7 i7 : Int) (vN7 vG7 vO7 : Value) (ns7 : List Int) (gs7 : List (Int × Int)) (os7 : List Int), ns7.length ≤ 10 ∧ gs7.length ≤ 20 ∧ os7.length ≤ 10 ∧ -5 ≤ i7 ∧ i7 ≤ 5 ∧ p ≤ q7 ∧ q7 ≤ p + 200 ∧ Hid (Drawn w wx R D C (C + 1) (.slice bA bl bc) q7 i7 vN7 vG7 vO7 ns7 gs7 os7))
              case rest =>
                clear HD5
                obtain ⟨q7, i7, vN7, vG7, vO7, ns7, gs7, os7, hb1, hb2, hb3, hb4, hb5, hb6, hb7, HDn⟩ := hcut
                obtain ⟨nA, nc, eN, _⟩ := own_intsAt HDn.out.next
                obtain ⟨gA, gc, eG, _⟩ := own_gatesAt HDn.out.gates
                obtain ⟨oA, oc, eO, _⟩ := own_intsAt HDn.out.outs
                have hF := HDn.out
                rw [eN, eG, eO] at hF
                have HF := Lib.hid hF
                clear hF HDn eN eG eO
                have r0 := HF.out.cir.cell 0
                have r1 := HF.out.cir.cell 1
                have r2 := HF.out.cir.cell 2
                have r3 := HF.out.cir.cell 3
                have t0 := HF.out.res.cell 0
                have t1 := HF.out.res.cell 1
                have t2 := HF.out.res.cell 2
                have t3 := HF.out.res.cell 3
                have f0 := HF.out.res.frozen 0
                have f1 := HF.out.res.frozen 1
                have f2 := HF.out.res.frozen 2
                have f3 := HF.out.res.frozen 3
                simp only [List.getElem?_toArray, List.getElem?_cons_zero, List.getElem?_cons_succ] at r0 r1 r2 r3 t0 t1 t2 t3
                have hl1 : ns7.length ≤ 10 := by first | omega | (simp; omega)
                have hl2 : gs7.length ≤ 20 := by first | omega | (simp; omega)
                have hl3 : os7.length ≤ 10 := by first | omega | (simp; omega)
                go_wp2
                refine bodyPost_ret (v := .agg #[.int .i64 i7, .slice nA ns7.length nc, .slice gA gs7.length gc, .slice oA os7.length oc]) (by simp [results, Tryz.results45, go_sem, t0, t1, t2, t3]) rfl (HF.out.fin hl1 hl2 hl3 (by omega) (by omega) (by omega) (by omega))
              cases b
              · go_wp2_with fail
                go_meet
                exact ⟨_, _, _, _, _, _, _, _, by omega, by omega, by omega, by omega, by omega, by omega, by omega, HD5⟩
              · go_wp2_with fail
                refine (pickD 6 _ HD5.out HBY.out hbl (by omega) (by omega) (by omega) (by omega)).mono ?_
                rintro e w6 ⟨x, rfl, hx0, hx1, hD6⟩
                have HD6 := Lib.hid hD6
                clear hD6 HD5
                rcases (show x = 0 ∨ x = 1 ∨ x = 2 ∨ x = 3 ∨ x = 4 ∨ x = 5 by omega) with rfl | rfl | rfl | rfl | rfl | rfl
                · go_wp2_with fail
                  refine (pickE 2 _ (HD6.out.alloc _) HBY.out hbl (by omega) (by omega) (by omega) (by omega)).mono ?_
                  rintro e w7 ⟨v, rfl, hv0, hv1, hD7, hg7⟩
                  obtain ⟨u, hu, hux⟩ := two_at (-1) 5 v hv0 hv1
                  have hT : w7.cell? ⟨w6.heap.size, v.toNat, none⟩ = some (.int .i64 u) := ((Row.grown (heap_alloc_new w6 _) hg7 (by intro x; injection x; have := HD6.out.row.lt; omega)).cell _).trans hu
                  have d0 := hD7.cir.cell 0
                  simp at d0
                  have f0 := hD7.cir.frozen 0
                  have HDn := Lib.hid (hD7.setI u)
                  clear hD7 hg7 HD6 hu
                  go_wp2_with fail
                  go_meet
                  exact ⟨_, _, _, _, _, _, _, _, by first | omega | (simp; omega), by first | omega | (simp; omega), by first | omega | (simp; omega), by omega, by omega, by omega, by omega, HDn⟩
                · have c3 := HD6.out.cir.cell 3
                  simp at c3
                  have c3a := fun o => (HD6.out.alloc o).cir.cell 3
                  simp at c3a
                  have hRB : R < w6.heap.size := HD6.out.row.lt
                  have s1 : IntKind.i64.wrap (2 * vars) = 2 * vars := IntWalk.i64_in _ (by omega)
                  have tok0 : True := trivial
                  go_wp2_with fail
                  go_region_law (first
                    | (revert tok1; intro tok1; refine step_append_kept _ (by rfl) _ _ _ (by rfl) (C + 1) 3 i3 _ 1 8 Tryz.underlying23 HI3.out HZ3.out HS3.out HT3.out rfl (by omega) vO os.length (ivs os) (by simp [Act.eval]) (HDc.out.outs.alloc _) ⟨wC.heap.size, 0, none⟩ 1 1 [.int .i64 u] (by simp [Act.eval]) (by rfl) (World.news_of_block (cs := #[.int .i64 u]) (t := 3) (fr := (0, 0)) (heap_alloc_new wC _)) (by simp [Value.oneCell']) (by omega) (by simp [maxLen]; omega) (by omega) (by have := HDc.out.hB; simp; omega) _ rfl ?_; intro g cap w9 hown6 hgrow hat hlt6 hkept; have rC := (HDc.out.alloc _).cir.grown hgrow (own_low HDc.out.outs HDc.out.hC); have d3 := rC.cell 3; simp at d3; have f3 := rC.frozen 3; have HDn := Lib.hid (show Drawn w (w9.setCell ⟨C, 3, none⟩ (.slice (some ⟨g, 0, none⟩) (os.length + 1) cap)) R D C (C + 1) (.slice bA bl bc) _ i vN vG (.slice (some ⟨g, 0, none⟩) (os.length + 1) cap) ns gs (os ++ [u]) from (HDc.out.alloc _).appO (more := [u]) hown6 hgrow hat); clear rC hown6 hgrow hat hlt6 hkept)
                    | (revert tok2; intro tok2; refine step_append_kept _ (by rfl) _ _ _ (by rfl) (C + 1) 3 i3 _ 1 8 Tryz.underlying23 HI3.out HZ3.out HS3.out HT3.out rfl (by omega) vO os.length (ivs os) (by simp [Act.eval]) ((HDc.out.outs.alloc _).alloc _) ⟨wC.heap.size + 1, 0, none⟩ 1 1 [.int .i64 u] (by simp [Act.eval]) (by rfl) (World.news_of_block (cs := #[.int .i64 u]) (t := 3) (fr := (0, 0)) (by simpa using heap_alloc_new (wC.alloc (.cells #[.int .i64 (-1), .int .i64 (2 * vars)] 3)) (.cells #[.int .i64 u] 3))) (by simp [Value.oneCell']) (by omega) (by simp [maxLen]; omega) (by omega) (by have := HDc.out.hB; simp; omega) _ rfl ?_; intro g cap w9 hown6 hgrow hat hlt6 hkept; have rC := ((HDc.out.alloc _).alloc _).cir.grown hgrow (own_low HDc.out.outs HDc.out.hC); have d3 := rC.cell 3; simp at d3; have f3 := rC.frozen 3; have HDn := Lib.hid (show Drawn w (w9.setCell ⟨C, 3, none⟩ (.slice (some ⟨g, 0, none⟩) (os.length + 1) cap)) R D C (C + 1) (.slice bA bl bc) _ i vN vG (.slice (some ⟨g, 0, none⟩) (os.length + 1) cap) ns gs (os ++ [u]) from ((HDc.out.alloc _).alloc _).appO (more := [u]) hown6 hgrow hat); clear rC hown6 hgrow hat hlt6 hkept)
                    | (revert tok0; intro tok0; go_simp; go_at_call 70; (with_reducible refine (pickE _ _ (HD6.out.alloc _).drew HBY.out hbl (by omega) (by omega) (by omega) (by omega)).mono ?_); rintro e wC ⟨v3, rfl, hv30, hv31, hDc, hgc⟩; obtain ⟨u, hu, hux⟩ := two_at (-1) (2 * vars) v3 hv30 hv31; have HDc := Lib.hid hDc; have cc := hDc.cir.cell 3; simp at cc; have cca := fun o => (hDc.alloc o).cir.cell 3; simp at cca; have ccb := fun o o' => ((hDc.alloc o).alloc o').cir.cell 3; simp at ccb; have hT : wC.cell? ⟨w6.heap.size, v3.toNat, none⟩ = some (.int .i64 u) := ((Row.grown (w := (w6.alloc (.cells #[.int .i64 (-1), .int .i64 (2 * vars)] 3)).drew) (heap_alloc_new w6 _) hgc (by intro x; injection x; omega)).cell _).trans hu; have tok1 : True := trivial; clear hDc hgc tok0)
                    | (revert tok0; intro tok0; go_simp; go_at_call 70; (with_reducible refine (pickE _ _ HD6.out.drew HBY.out hbl (by omega) (by omega) (by omega) (by omega)).mono ?_); rintro e wC ⟨v3, rfl, hv30, hv31, hDc, hgc⟩; obtain ⟨u, hu, hux⟩ := two_at (-1) (2 * vars) v3 hv30 hv31; have HDc := Lib.hid hDc; have cc := hDc.cir.cell 3; simp at cc; have cca := fun o => (hDc.alloc o).cir.cell 3; simp at cca; have ccb := fun o o' => ((hDc.alloc o).alloc o').cir.cell 3; simp at ccb; have hT : (wC.alloc (.cells #[.int .i64 (-1), .int .i64 (2 * vars)] 3)).cell? ⟨wC.heap.size, v3.toNat, none⟩ = some (.int .i64 u) := (Row.cell (heap_alloc_new wC _) _).trans hu; have tok2 : True := trivial; clear hDc hgc tok0))
                  all_goals
                    clear c3 c3a s1 hT cc cca ccb hu
                    go_wp2_with fail
                    go_meet
                    exact ⟨_, _, _, _, _, _, _, _, by first | omega | (simp; omega), by first | omega | (simp; omega), by first | omega | (simp; omega), by omega, by omega, by omega, by omega, HDn⟩
                · have c1 := HD6.out.cir.cell 1
                  simp at c1
                  have hbase := HD6.out.hB
                  go_wp2_with (at_builtin; refine wpList_append_kept _ rfl _ _ 23 rfl (C + 1) 3 i3 _ 1 8 Tryz.underlying23 HI3.out HZ3.out HS3.out HT3.out rfl (by omega) vN ns.length (ivs ns) rfl (HD6.out.next.alloc _) ⟨w6.heap.size, 0, none⟩ 1 1 _ rfl rfl (World.news_of_block (heap_alloc_new w6 _)) ?c1 (by omega) ?c2 ?c3 ?c4 _ rfl ?_)
                  case c1 => simp [Value.oneCell']
                  case c2 => simp [maxLen]; omega
                  case c3 => omega
                  case c4 => simp; omega
                  intro g cap w9 hown9 hgrow hat hlt9 hkept
                  have rC := (HD6.out.alloc _).cir.grown hgrow (own_low HD6.out.next HD6.out.hC)
                  have d1 := rC.cell 1
                  simp at d1
                  have f1 := rC.frozen 1
                  have HDn := Lib.hid (show Drawn w (w9.setCell ⟨C, 1, none⟩ (.slice (some ⟨g, 0, none⟩) (ns.length + 1) cap)) R D C (C + 1) (.slice bA bl bc) _ i (.slice (some ⟨g, 0, none⟩) (ns.length + 1) cap) vG vO (ns ++ [-1]) gs os from (HD6.out.alloc _).appN (more := [-1]) hown9 hgrow (by simpa using hat))
                  clear c1 rC hown9 hgrow hat hlt9 hkept HD6 hbase
                  go_wp2_with fail
                  go_meet
                  exact ⟨_, _, _, _, _, _, _, _, by first | omega | (simp; omega), by first | omega | (simp; omega), by first | omega | (simp; omega), by omega, by omega, by omega, by omega, HDn⟩
                · have c1 := HD6.out.cir.cell 2
                  simp at c1
                  have hbase := HD6.out.hB
                  go_wp2_with (at_builtin; refine wpList_append_kept _ rfl _ _ 24 rfl (C + 1) 113 i31 _ 2 16 Tryz.underlying24 HI31.out HZ31.out HS31.out HT31.out rfl (by omega) vG gs.length (gvs gs) rfl (HD6.out.gates.alloc _) ⟨w6.heap.size, 0, none⟩ 1 1 _ rfl rfl (World.news_of_block (heap_alloc_new w6 _)) ?c1 (by omega) ?c2 ?c3 ?c4 _ rfl ?_)
                  case c1 => simp [Value.oneCell']
                  case c2 => simp [maxLen]; omega
                  case c3 => omega
                  case c4 => simp; omega
                  intro g cap w9 hown9 hgrow hat hlt9 hkept
                  have rC := (HD6.out.alloc _).cir.grown hgrow (own_low HD6.out.gates HD6.out.hC)
                  have d1 := rC.cell 2
                  simp at d1
                  have f1 := rC.frozen 2
                  have HDn := Lib.hid (show Drawn w (w9.setCell ⟨C, 2, none⟩ (.slice (some ⟨g, 0, none⟩) (gs.length + 1) cap)) R D C (C + 1) (.slice bA bl bc) _ i vN (.slice (some ⟨g, 0, none⟩) (gs.length + 1) cap) vO ns (gs ++ [(2 * vars, 0)]) os from (HD6.out.alloc _).appG (more := [(2 * vars, 0)]) hown9 hgrow)
                  clear c1 rC hown9 hgrow hat hlt9 hkept HD6 hbase
                  go_wp2_with fail
                  go_meet
                  exact ⟨_, _, _, _, _, _, _, _, by first | omega | (simp; omega), by first | omega | (simp; omega), by first | omega | (simp; omega), by omega, by omega, by omega, by omega, HDn⟩
                · go_wp2_with fail
                  go_loopg [] (15 - gs.length) (fun gk wr => ∃ (vH : Value) (hs : List (Int × Int)), gk + hs.length = 15 ∧ Hid (Drawn w wr R D C (C + 1) (.slice bA bl bc) (q5 + 1) i vN vH vO ns hs os))
                  case atStart => exact ⟨vG, gs, by omega, HD6⟩
                  case round =>
                    clear HD6
                    obtain ⟨vH, hs, hgk, HD7⟩ := hrel
                    obtain ⟨hA, hc, rfl, _⟩ := own_gatesAt HD7.out.gates
                    have c2 := HD7.out.cir.cell 2
                    simp at c2
                    have hbase := HD7.out.hB
                    by_cases hlen : hs.length ≤ 14
                    · go_wp2_with (at_builtin; refine wpList_append_kept _ rfl _ _ 24 rfl (C + 1) 113 i31 _ 2 16 Tryz.underlying24 HI31.out HZ31.out HS31.out HT31.out rfl (by omega) (.slice hA hs.length hc) hs.length (gvs hs) rfl (HD7.out.gates.alloc _) ⟨wr.heap.size, 0, none⟩ 1 1 _ rfl rfl (World.news_of_block (heap_alloc_new wr _)) ?c1 (by omega) ?c2 ?c3 ?c4 _ rfl ?_)
                      case c1 => simp [Value.oneCell']
                      case c2 => simp [maxLen]; omega
                      case c3 => omega
                      case c4 => simp; omega
                      intro g cap w9 hown9 hgrow hat hlt9 hkept
                      have rC := (HD7.out.alloc _).cir.grown hgrow (own_low HD7.out.gates HD7.out.hC)
                      have d2 := rC.cell 2
                      simp at d2
                      have f2 := rC.frozen 2
                      have HDn := Lib.hid ((HD7.out.alloc _).appG (more := [(0, 0)]) hown9 hgrow)
                      clear c2 rC hown9 hgrow hat hlt9 hkept HD7 hbase
                      go_wp2
                      go_roundg (gk - 1)
                      case measure => omega
                      case rel => exact ⟨_, _, by simp; omega, HDn⟩
                    · go_wp2_with fail
                      go_meet
                      exact ⟨_, _, _, _, _, _, _, _, by first | omega | (simp; omega), by first | omega | (simp; omega), by first | omega | (simp; omega), by omega, by omega, by omega, by omega, HD7⟩
                · have c1 := HD6.out.cir.cell 3
                  simp at c1
                  have hbase := HD6.out.hB
                  go_wp2_with (at_builtin; refine wpList_append_kept _ rfl _ _ 23 rfl (C + 1) 3 i3 _ 1 8 Tryz.underlying23 HI3.out HZ3.out HS3.out HT3.out rfl (by omega) vO os.length (ivs os) rfl (HD6.out.outs.alloc _) ⟨w6.heap.size, 0, none⟩ 4 4 _ rfl rfl (World.news_of_block (heap_alloc_new w6 _)) ?c1 (by omega) ?c2 ?c3 ?c4 _ rfl ?_)
                  case c1 => simp [Value.oneCell']
                  case c2 => simp [maxLen]; omega
                  case c3 => omega
                  case c4 => simp; omega
                  intro g cap w9 hown9 hgrow hat hlt9 hkept
                  have rC := (HD6.out.alloc _).cir.grown hgrow (own_low HD6.out.outs HD6.out.hC)
                  have d1 := rC.cell 3
                  simp at d1
                  have f1 := rC.frozen 3
                  have HDn := Lib.hid (show Drawn w (w9.setCell ⟨C, 3, none⟩ (.slice (some ⟨g, 0, none⟩) (os.length + 4) cap)) R D C (C + 1) (.slice bA bl bc) _ i vN vG (.slice (some ⟨g, 0, none⟩) (os.length + 4) cap) ns gs (os ++ [0, 0, 0, 0]) from (HD6.out.alloc _).appO (more := [0, 0, 0, 0]) hown9 hgrow (by simpa using hat))
                  clear c1 rC hown9 hgrow hat hlt9 hkept HD6 hbase
                  go_wp2_with fail
                  go_meet
                  exact ⟨_, _, _, _, _, _, _, _, by first | omega | (simp; omega), by first | omega | (simp; omega), by first | omega | (simp; omega), by omega, by omega, by omega, by omega, HDn⟩
end Go.Proofs.YtliedgaefgomjaaGreat
/- What a draw of a circuit answers. -/
namespace Go.Proofs.YtliedgaefgomjaaGreat
open Go.RowKit Go.Deep

theorem below_grown {w w' w0 : World} {R : Nat} (h : Below w0.heap.size w0 w) (hg : w.grownBy w' (some R)) (hR : w0.heap.size ≤ R) : Below w0.heap.size w0 w' :=
  h.grown hg h.size (fun k hk => by injection hk; omega)
theorem CircAt.farF {w : World} {D : Nat} {nA gA oA : Option Addr} {ns : List Int} {gs : List (Int × Int)} {os : List Int} (h : CircAt w w.heap.size nA gA oA ns gs os) (j : Nat) (u : Value) {B : Nat} (hD : D < B) (h1 : FreshA B nA) (h2 : FreshA B gA) (h3 : FreshA B oA) :
    CircAt (w.setCell ⟨D, j, none⟩ u) (w.setCell ⟨D, j, none⟩ u).heap.size nA gA oA ns gs os :=
  ⟨h.next.farS _ u (fun b off e => by have := h1 b off e; simp; omega), h.gates.farS _ u (fun b off e => by have := h2 b off e; simp; omega), h.outs.farS _ u (fun b off e => by have := h3 b off e; simp; omega), h.nl, h.gl, h.ol⟩

end Go.Proofs.YtliedgaefgomjaaGreat
