/- The contract of the drawing of a circuit of which none is invalid: the circuit is valid. -/
import Derived.Test.YthpiddpkcmecfaaR1
import Derived.Deep.RegionLaw
import Derived.Deep.DeepCutAuto
import Derived.Deep.LoopGhost
import Derived.Deep.CutBlock
namespace Go.Proofs.Ythpiddpkcmecfaa
open Go.RowKit Go.Deep

theorem gates_add {gs : List (Int × Int)} {f a b : Int} (h : Circ.gatesOk gs f = true) (h1 : 0 ≤ a) (h2 : a < 2 * (f + gs.length)) (h3 : 0 ≤ b) (h4 : b < 2 * (f + gs.length)) : Circ.gatesOk (gs ++ [(a, b)]) f = true := by
  rw [Circ.gatesOk_append, h]
  simp [Circ.gatesOk, Circ.litOk_t h1 h2, Circ.litOk_t h3 h4]
theorem lits_add {xs : List Int} {c v : Int} (h : Circ.litsOk xs c = true) (h1 : 0 ≤ v) (h2 : v < 2 * c) : Circ.litsOk (xs ++ [v]) c = true := by
  unfold Circ.litsOk at h ⊢
  rw [List.all_append, h]
  simp [Circ.litOk_t h1 h2]
theorem odd_zero (R : Nat) (bA : Option Addr) (bl bc : Nat) (p : Int) (w : World) (hR : Row w R 90 #[.slice bA bl bc, .int .i64 p]) :
    Calls Try.prog 83 #[.pointer (some ⟨R, 0, none⟩), .int .i64 0] w (fun e w' => e = .returned (.bool false) ∧ Row w' R 90 #[.slice bA bl bc, .int .i64 p] ∧ w.grownBy w' (some R)) := by
  have HR := Lib.hid hR
  clear hR
  go_enter Try.func83, Try.ntmps83
  go_wp2
  go_ret
  exact ⟨rfl, HR.out, World.grownBy.refl w _⟩

def CircValid (w : World) (R : Nat) (rb : Value) (p : Int) (e : Ending) (w' : World) : Prop :=
  ∃ (i : Int) (nA gA oA : Option Addr) (nc gc oc : Nat) (ns : List Int) (gs : List (Int × Int)) (os : List Int) (p' : Int),
    e = .returned (.agg #[.int .i64 i, .slice nA ns.length nc, .slice gA gs.length gc, .slice oA os.length oc]) ∧ CircAt w' w'.heap.size nA gA oA ns gs os ∧ Circ.validB i ns gs os = true ∧
    p ≤ p' ∧ p' ≤ p + 200 ∧ Row w' R 90 #[rb, .int .i64 p'] ∧ w.grownBy w' (some R) ∧ FreshA w.heap.size nA ∧ FreshA w.heap.size gA ∧ FreshA w.heap.size oA ∧ gs.length ≤ gc

theorem Drawn.finV {w wr : World} {R D C base : Nat} {rb : Value} {p q i : Int} {nA gA oA : Option Addr} {nc gc oc : Nat} {ns : List Int} {gs : List (Int × Int)} {os : List Int}
    (h : Drawn w wr R D C base rb q i (.slice nA ns.length nc) (.slice gA gs.length gc) (.slice oA os.length oc) ns gs os) (hv : Circ.validB i ns gs os = true) (h6 : p ≤ q) (h7 : q ≤ p + 200) :
    CircValid w R rb p (.returned (.agg #[.int .i64 i, .slice nA ns.length nc, .slice gA gs.length gc, .slice oA os.length oc]))
      ((((wr.setCell ⟨D, 0, none⟩ (.int .i64 i)).setCell ⟨D, 1, none⟩ (.slice nA ns.length nc)).setCell ⟨D, 2, none⟩ (.slice gA gs.length gc)).setCell ⟨D, 3, none⟩ (.slice oA os.length oc)) := by
  have a0 := Circ.valid_within hv
  have a1 := h.hR
  have a2 := h.hD
  have a3 := h.hDC
  have a4 := h.hC
  have hDb : D < base := by omega
  obtain ⟨A1, c1, e1, i1, j1⟩ := own_intsAt (own_setC (own_setC (own_setC (own_setC h.next hDb 0 (.int .i64 i)) hDb 1 (.slice nA ns.length nc)) hDb 2 (.slice gA gs.length gc)) hDb 3 (.slice oA os.length oc))
  obtain ⟨A2, c2, e2, i2, j2, k2⟩ := own_gatesAt (own_setC (own_setC (own_setC (own_setC h.gates hDb 0 (.int .i64 i)) hDb 1 (.slice nA ns.length nc)) hDb 2 (.slice gA gs.length gc)) hDb 3 (.slice oA os.length oc))
  obtain ⟨A3, c3, e3, i3, j3⟩ := own_intsAt (own_setC (own_setC (own_setC (own_setC h.outs hDb 0 (.int .i64 i)) hDb 1 (.slice nA ns.length nc)) hDb 2 (.slice gA gs.length gc)) hDb 3 (.slice oA os.length oc))
  injection e1 with e1 _ _
  injection e2 with e2 _ e2c
  injection e3 with e3 _ _
  subst e1 e2 e3 e2c
  refine ⟨i, _, _, _, _, _, _, ns, gs, os, q, rfl, ⟨i1, i2, i3, by simp [maxLen]; omega, by simp [maxLen]; omega, by simp [maxLen]; omega⟩, hv, h6, h7, ?_, ?_, (fun b off e => by have := j1 b off e; omega), (fun b off e => by have := j2 b off e; omega), (fun b off e => by have := j3 b off e; omega), k2⟩
  · exact (((h.row.far (by simp; omega) _).far (by simp; omega) _).far (by simp; omega) _).far (by simp; omega) _
  · exact gb_setNew (gb_setNew (gb_setNew (gb_setNew h.grown a2 0 _) a2 1 _) a2 2 _) a2 3 _

set_option maxHeartbeats 16000000 in
set_option maxRecDepth 100000 in
theorem circuit_valid (R : Nat) (bA : Option Addr) (bl bc : Nat) (p : Int) (w : World) (hR : Row w R 90 #[.slice bA bl bc, .int .i64 p]) (hb : BytesAt w R bA bl) (hbl : bl ≤ 2000) (hp0 : 0 ≤ p) (hp1 : p ≤ 50000) :
    Calls Try.prog 46 #[.pointer (some ⟨R, 0, none⟩), .int .i64 0] w (CircValid w R (.slice bA bl bc) p) := by
  have HBY := Lib.hid hb
  have hRl := hR.lt
  have HR0 := Lib.hid (hR.alloc (.cells #[.int .i64 0, .slice none 0 0, .slice none 0 0, .slice none 0 0] 26))
  have HBY0 := Lib.hid (hb.grown (gb_alloc (World.grownBy.refl w (some R)) (.cells #[.int .i64 0, .slice none 0 0, .slice none 0 0, .slice none 0 0] 26)))
  have HG0 := Lib.hid (gb_alloc (World.grownBy.refl w (some R)) (.cells #[.int .i64 0, .slice none 0 0, .slice none 0 0, .slice none 0 0] 26))
  have HD0 := Lib.hid (show Row (w.alloc (.cells #[.int .i64 0, .slice none 0 0, .slice none 0 0, .slice none 0 0] 26)) w.heap.size 26 #[.int .i64 0, .slice none 0 0, .slice none 0 0, .slice none 0 0] from heap_alloc_new w _)
  clear hR hb
  obtain ⟨i3, hi3, hz3, hs3, ht3⟩ := info_parts Try.info3
  obtain ⟨i31, hi31, hz31, hs31, ht31⟩ := info_parts Try.info31
  have HI3 := Lib.hid hi3
  have HZ3 := Lib.hid hz3
  have HS3 := Lib.hid hs3
  have HT3 := Lib.hid ht3
  have HI31 := Lib.hid hi31
  have HZ31 := Lib.hid hz31
  have HS31 := Lib.hid hs31
  have HT31 := Lib.hid ht31
  clear hi3 hz3 hs3 ht3 hi31 hz31 hs31 ht31
  go_enter Try.func46, Try.ntmps46
  go_wp2_with fail
  refine (pick_any R bA bl bc p 5 _ HR0.out HBY0.out hbl hp0 (by omega) (by omega) (by omega)).mono ?_
  rintro e w1 ⟨i, rfl, hi0, hi1, hr1, hg1⟩
  have HDS := Lib.hid (Drawn.start hr1 (HD0.out.grown hg1 (by intro x; injection x; omega)) (HG0.out.trans hg1) hRl (Nat.le_refl _) i)
  clear hr1 hg1 HR0 HBY0 HG0 HD0
  go_wp2_with fail
  generalize w1.alloc (.cells #[.int .i64 i, .slice none 0 0, .slice none 0 0, .slice none 0 0] 26) = w2 at *
  generalize hC : w1.heap.size = C at *
  clear hC w1
  generalize w.heap.size = D at *
  refine (pickD 4 _ HDS.out HBY.out hbl (by omega) (by omega) (by omega) (by omega)).mono ?_
  rintro e w3 ⟨lt, rfl, hl0, hl1, hD3⟩
  have HD3 := Lib.hid hD3
  have c0 := hD3.cir.cell 0
  simp at c0
  clear HDS hD3
  go_wp2_with fail
  refine (pickD 15 _ HD3.out HBY.out hbl (by omega) (by omega) (by omega) (by omega)).mono ?_
  rintro e w4 ⟨k0, rfl, hk0, hk1, hD4⟩
  have HD4 := Lib.hid hD4
  clear HD3 hD4 c0
  go_wp2_with fail
  go_loopw [7, 8] (fun vv kv wr => ∃ (vars k q : Int) (vG : Value) (gs : List (Int × Int)), vv = .int .i64 vars ∧ kv = .int .i64 k ∧ 0 ≤ k ∧ (gs.length : Int) + k ≤ 14 ∧ 1 ≤ vars ∧ vars + k ≤ 30 ∧ Hid (vars = 1 + i + lt + gs.length) ∧ Hid (Circ.gatesOk gs (1 + i + lt) = true) ∧ p ≤ q ∧ q + 4 * k ≤ p + 60 ∧
      Hid (Drawn w wr R D C (C + 1) (.slice bA bl bc) q i (.slice none 0 0) vG (.slice none 0 0) [] gs [])) (fun _ kv _ => (intOf kv).toNat)
  case atStart => exact ⟨_, _, _, _, [], rfl, rfl, by omega, by simp; omega, by omega, by omega, Lib.hid (by simp; omega), Lib.hid rfl, by omega, by omega, HD4⟩
  case round =>
    clear HD4
    obtain ⟨vars, k, q, vG, gs, rfl, rfl, hk0', hgk, hv1, hv2, HVE, HOK, hq0, hq1, HD⟩ := hrel
    by_cases hk : 0 < k
    · go_wp2_with fail
      refine (pickD (2 * vars) _ HD.out HBY.out hbl (by omega) (by omega) (by omega) (by omega)).mono ?_
      rintro e w5 ⟨a, rfl, ha0, ha1, hD5⟩
      have HD5 := Lib.hid hD5
      clear hD5 HD
      go_wp2_with fail
      refine (pickD (2 * vars) _ HD5.out HBY.out hbl (by omega) (by omega) (by omega) (by omega)).mono ?_
      rintro e w6 ⟨b, rfl, hb0, hb1, hD6⟩
      have HD6 := Lib.hid hD6
      clear hD6 HD5
      go_wp2_with fail
      refine (pickD 3 _ HD6.out HBY.out hbl (by omega) (by omega) (by omega) (by omega)).mono ?_
      rintro e w7 ⟨s, rfl, hs0, hs1, hD7⟩
      have HD7 := Lib.hid hD7
      clear hD7 HD6
      by_cases hs : 0 < s
      · go_wp2_with fail
        all_goals
          refine (pickD _ _ HD7.out HBY.out hbl (by omega) (by omega) (by omega) (by omega)).mono ?_
          rintro e w8 ⟨t, rfl, ht0, ht1, hD8⟩
          have HD8 := Lib.hid hD8
          clear hD8 HD7
          have c2 := HD8.out.cir.cell 2
          simp at c2
          have hbase := HD8.out.hB
          go_wp2_with (at_builtin; refine wpList_append_kept _ rfl _ _ 24 rfl (C + 1) 46 i31 _ 2 16 Try.underlying24 HI31.out HZ31.out HS31.out HT31.out rfl (by omega) vG gs.length (gvs gs) rfl (HD8.out.gates.alloc _) ⟨w8.heap.size, 0, none⟩ 1 1 _ rfl rfl (World.news_of_block (heap_alloc_new w8 _)) ?c1 (by omega) ?c2 ?c3 ?c4 _ rfl ?_)
          case c1 => simp [Value.oneCell']
          case c2 => simp [maxLen]; omega
          case c3 => omega
          case c4 => simp; omega
          intro g cap w9 hown9 hgrow hat hlt9 hkept
          have rC := (HD8.out.alloc _).cir.grown hgrow (own_low HD8.out.gates HD8.out.hC)
          have d2 := rC.cell 2
          simp at d2
          have f2 := rC.frozen 2
          have HDn := Lib.hid ((HD8.out.alloc _).appG (more := [(2 * vars - 1 - t, b)]) hown9 hgrow)
          have HVE2 : Hid (vars + 1 = 1 + i + lt + ((gs ++ [(2 * vars - 1 - t, b)]).length : Nat)) := Lib.hid (by have := HVE.out; simp; omega)
          have HOK2 : Hid (Circ.gatesOk (gs ++ [(2 * vars - 1 - t, b)]) (1 + i + lt) = true) := Lib.hid (by have := HVE.out; exact gates_add HOK.out (by omega) (by omega) (by omega) (by omega))
          clear c2 rC hown9 hgrow hat hlt9 hkept HD8 hbase
          go_wp2
          go_roundw
          case rel => exact ⟨_, _, _, _, _, rfl, rfl, by omega, by simp; omega, by omega, by omega, HVE2, HOK2, by omega, by omega, HDn⟩
          case measure => simp [intOf]; omega
      · have c2 := HD7.out.cir.cell 2
        simp at c2
        have hbase := HD7.out.hB
        go_wp2_with (at_builtin; refine wpList_append_kept _ rfl _ _ 24 rfl (C + 1) 46 i31 _ 2 16 Try.underlying24 HI31.out HZ31.out HS31.out HT31.out rfl (by omega) vG gs.length (gvs gs) rfl (HD7.out.gates.alloc _) ⟨w7.heap.size, 0, none⟩ 1 1 _ rfl rfl (World.news_of_block (heap_alloc_new w7 _)) ?c1 (by omega) ?c2 ?c3 ?c4 _ rfl ?_)
        case c1 => simp [Value.oneCell']
        case c2 => simp [maxLen]; omega
        case c3 => omega
        case c4 => simp; omega
        intro g cap w9 hown9 hgrow hat hlt9 hkept
        have rC := (HD7.out.alloc _).cir.grown hgrow (own_low HD7.out.gates HD7.out.hC)
        have d2 := rC.cell 2
        simp at d2
        have f2 := rC.frozen 2
        have HDn := Lib.hid ((HD7.out.alloc _).appG (more := [(a, b)]) hown9 hgrow)
        have HVE2 : Hid (vars + 1 = 1 + i + lt + ((gs ++ [(a, b)]).length : Nat)) := Lib.hid (by have := HVE.out; simp; omega)
        have HOK2 : Hid (Circ.gatesOk (gs ++ [(a, b)]) (1 + i + lt) = true) := Lib.hid (by have := HVE.out; exact gates_add HOK.out (by omega) (by omega) (by omega) (by omega))
        clear c2 rC hown9 hgrow hat hlt9 hkept HD7 hbase
        go_wp2
        go_roundw
        case rel => exact ⟨_, _, _, _, _, rfl, rfl, by omega, by simp; omega, by omega, by omega, HVE2, HOK2, by omega, by omega, HDn⟩
        case measure => simp [intOf]; omega
    · go_wp2_with fail
      go_loopw [11] (fun kv wr => ∃ (j : Nat) (q2 : Int) (vN : Value) (ns : List Int), kv = .int .i64 j ∧ (j : Int) ≤ lt ∧ ns.length ≤ j ∧ Hid (ns.length = j) ∧ Hid (Circ.litsOk ns vars = true) ∧ p ≤ q2 ∧ q2 ≤ p + 60 + j ∧
          Hid (Drawn w wr R D C (C + 1) (.slice bA bl bc) q2 i vN vG (.slice none 0 0) ns gs [])) (fun kv _ => (lt - intOf kv).toNat)
      case atStart => exact ⟨0, q, _, [], rfl, by omega, by simp, Lib.hid rfl, Lib.hid rfl, by omega, by omega, HD⟩
      case round =>
        clear HD
        obtain ⟨j, q2, vN, ns, rfl, hj0, hj1, HNL, HNO, hp2, hp3, HD⟩ := hrel
        by_cases hjl : (j : Int) < lt
        · have c1 := HD.out.cir.cell 1
          simp at c1
          have s1 : IntKind.i64.wrap (2 * vars) = 2 * vars := IntWalk.i64_in _ (by omega)
          go_wp2_with fail
          go_region_law (first
            | (refine step_append_kept _ (by rfl) _ _ _ (by rfl) (C + 1) 3 i3 _ 1 8 Try.underlying23 HI3.out HZ3.out HS3.out HT3.out rfl (by omega) vN ns.length (ivs ns) (by simp [Act.eval]) (HD5.out.next.alloc _) ⟨w5.heap.size, 0, none⟩ 1 1 [.int .i64 v] (by simp [Act.eval]) (by rfl) (World.news_of_block (cs := #[.int .i64 v]) (t := 3) (fr := (0, 0)) (heap_alloc_new w5 _)) (by simp [Value.oneCell']) (by omega) (by simp [maxLen]; omega) (by omega) (by have := HD5.out.hB; simp; omega) _ rfl ?_; intro g cap w6 hown6 hgrow hat hlt6 hkept; have rC := (HD5.out.alloc _).cir.grown hgrow (own_low HD5.out.next HD5.out.hC); have d1 := rC.cell 1; simp at d1; have f1 := rC.frozen 1; have HDn := Lib.hid ((HD5.out.alloc _).appN (more := [v]) hown6 hgrow hat); clear rC hown6 hgrow hat hlt6 hkept)
            | (go_simp; go_at_call 82; refine (pickD _ _ HD.out.drew HBY.out hbl (by omega) (by omega) (by omega) (by omega)).mono ?_; rintro e w5 ⟨v, rfl, hv0, hv1, hD5⟩; have c15 := hD5.cir.cell 1; simp at c15; have HD5 := Lib.hid hD5; have ca := fun o => (hD5.alloc o).cir.cell 1; simp at ca; clear hD5))
          all_goals
            clear c1 c15 ca s1
            go_wp2
            go_roundw
            case rel => exact ⟨j + 1, q2 + 1, _, _, by go_num, by omega, by simp; omega, Lib.hid (by rw [List.length_append, HNL.out]; rfl), Lib.hid (lits_add HNO.out hv0 hv1), by omega, by omega, HDn⟩
            case measure => simp [intOf]; omega
        · go_wp2_with fail
          refine (pickD 4 _ HD.out HBY.out hbl (by omega) (by omega) (by omega) (by omega)).mono ?_
          rintro e w3 ⟨k3, rfl, hk30, hk31, hD3⟩
          have HD3 := Lib.hid hD3
          clear hD3 HD
          go_wp2_with fail
          go_loopg [12] k3.toNat (fun gk kv wr => ∃ (k4 q4 : Int) (vO : Value) (os : List Int), kv = .int .i64 k4 ∧ (gk : Int) = k4 ∧ (os.length : Int) + k4 ≤ 3 ∧ Hid (Circ.litsOk os vars = true) ∧ p ≤ q4 ∧ q4 + 3 * k4 ≤ p + 80 ∧
              Hid (Drawn w wr R D C (C + 1) (.slice bA bl bc) q4 i vN vG vO ns gs os))
          case atStart => exact ⟨_, _, _, [], rfl, by omega, by simp; omega, Lib.hid rfl, by omega, by omega, HD3⟩
          case round =>
            clear HD3
            obtain ⟨k4, q4, vO, os, rfl, hgk4, hk41, HOO, hq40, hq41, HD⟩ := hrel
            have hk40 : 0 ≤ k4 := by omega
            by_cases hk4 : 0 < k4
            · have c3 := HD.out.cir.cell 3
              simp at c3
              have s1 : IntKind.i64.wrap (2 * vars) = 2 * vars := IntWalk.i64_in _ (by omega)
              have s2 : IntKind.i64.wrap (2 * vars - 1) = 2 * vars - 1 := IntWalk.i64_in _ (by omega)
              obtain ⟨mn, hmn, hmn1, hmn2, hmn3⟩ : ∃ mn : Int, (if 2 * vars < 8 then 2 * vars else 8) = mn ∧ 1 ≤ mn ∧ mn ≤ 8 ∧ mn ≤ 2 * vars := ⟨_, rfl, by split <;> omega, by split <;> omega, by split <;> omega⟩
              go_upto_block 5 with fail
              go_cut [] (fun wx => ∃ (vO7 : Value) (u7 : Int), 0 ≤ u7 ∧ u7 < 2 * vars ∧ Hid (Drawn w wx R D C (C + 1) (.slice bA bl bc) (q4 + 1 + 1 + 1) i vN vG vO7 ns gs (os ++ [u7])))
              case rest =>
                clear HD c3 s1 s2 hmn
                obtain ⟨vO7, u7, hu70, hu71, HDn⟩ := hcut
                go_wp2_with fail
                go_roundg (gk - 1)
                case measure => omega
                case rel => exact ⟨_, _, _, _, rfl, by omega, by simp; omega, Lib.hid (lits_add HOO.out hu70 hu71), by omega, by omega, HDn⟩
              go_wp2_with fail
              have tok0 : True := trivial
              go_region_law (first
                | (have _t := tok1; refine step_append_kept _ (by rfl) _ _ _ (by rfl) (C + 1) 3 i3 _ 1 8 Try.underlying23 HI3.out HZ3.out HS3.out HT3.out rfl (by omega) vO os.length (ivs os) (by simp [Act.eval]) (HDc.out.outs.alloc _) ⟨wC.heap.size, 0, none⟩ 1 1 [.int .i64 u] (by simp [Act.eval]) (by rfl) (World.news_of_block (cs := #[.int .i64 u]) (t := 3) (fr := (0, 0)) (heap_alloc_new wC _)) (by simp [Value.oneCell']) (by omega) (by simp [maxLen]; omega) (by omega) (by have := HDc.out.hB; simp; omega) _ rfl ?_; intro g cap w6 hown6 hgrow hat hlt6 hkept; have rC := (HDc.out.alloc _).cir.grown hgrow (own_low HDc.out.outs HDc.out.hC); have d3 := rC.cell 3; simp at d3; have f3 := rC.frozen 3; have HDn := Lib.hid ((HDc.out.alloc _).appO (more := [u]) hown6 hgrow hat); clear rC hown6 hgrow hat hlt6 hkept)
                | (have _t := tok2; refine step_append_kept _ (by rfl) _ _ _ (by rfl) (C + 1) 3 i3 _ 1 8 Try.underlying23 HI3.out HZ3.out HS3.out HT3.out rfl (by omega) vO os.length (ivs os) (by simp [Act.eval]) ((HDc.out.outs.alloc _).alloc _) ⟨wC.heap.size + 1, 0, none⟩ 1 1 [.int .i64 u] (by simp [Act.eval]) (by rfl) (World.news_of_block (cs := #[.int .i64 u]) (t := 3) (fr := (0, 0)) (by simpa using heap_alloc_new (wC.alloc (.cells #[.int .i64 (2 * vars - 1 - v1), .int .i64 v2] 3)) (.cells #[.int .i64 u] 3))) (by simp [Value.oneCell']) (by omega) (by simp [maxLen]; omega) (by omega) (by have := HDc.out.hB; simp; omega) _ rfl ?_; intro g cap w6 hown6 hgrow hat hlt6 hkept; have rC := ((HDc.out.alloc _).alloc _).cir.grown hgrow (own_low HDc.out.outs HDc.out.hC); have d3 := rC.cell 3; simp at d3; have f3 := rC.frozen 3; have HDn := Lib.hid (((HDc.out.alloc _).alloc _).appO (more := [u]) hown6 hgrow hat); clear rC hown6 hgrow hat hlt6 hkept)
                | (have _t := HDb; go_simp; go_at_call 82; (with_reducible refine (pickE _ _ (HDb.out.alloc _) HBY.out hbl (by omega) (by omega) (by omega) (by omega)).mono ?_); rintro e wC ⟨v3, rfl, hv30, hv31, hDc, hgc⟩; obtain ⟨u, hu, hux⟩ := two_at (2 * vars - 1 - v1) v2 v3 hv30 hv31; have HDc := Lib.hid hDc; have cc := hDc.cir.cell 3; simp at cc; have cca := fun o => (hDc.alloc o).cir.cell 3; simp at cca; have ccb := fun o o' => ((hDc.alloc o).alloc o').cir.cell 3; simp at ccb; have hT : wC.cell? ⟨wB.heap.size, v3.toNat, none⟩ = some (.int .i64 u) := ((Row.grown (heap_alloc_new wB _) hgc (by intro x; injection x; omega)).cell _).trans hu; have tok1 : True := trivial; clear hDc hgc HDb)
                | (have _t := HDb; go_simp; go_at_call 82; (with_reducible refine (pickE _ _ HDb.out HBY.out hbl (by omega) (by omega) (by omega) (by omega)).mono ?_); rintro e wC ⟨v3, rfl, hv30, hv31, hDc, hgc⟩; obtain ⟨u, hu, hux⟩ := two_at (2 * vars - 1 - v1) v2 v3 hv30 hv31; have HDc := Lib.hid hDc; have cc := hDc.cir.cell 3; simp at cc; have cca := fun o => (hDc.alloc o).cir.cell 3; simp at cca; have ccb := fun o o' => ((hDc.alloc o).alloc o').cir.cell 3; simp at ccb; have hT : (wC.alloc (.cells #[.int .i64 (2 * vars - 1 - v1), .int .i64 v2] 3)).cell? ⟨wC.heap.size, v3.toNat, none⟩ = some (.int .i64 u) := (Row.cell (heap_alloc_new wC _) _).trans hu; have tok2 : True := trivial; clear hDc hgc HDb)
                | (have _t := HDa; go_simp; go_at_call 82; refine (pickE _ _ HDa.out HBY.out hbl (by omega) (by omega) (by omega) (by omega)).mono ?_; rintro e wB ⟨v2, rfl, hv20, hv21, hDb, hgb⟩; have HDb := Lib.hid hDb; have cb := hDb.cir.cell 3; simp at cb; have cba := fun o => (hDb.alloc o).cir.cell 3; simp at cba; have hRB : R < wB.heap.size := hDb.row.lt; clear hDb hgb HDa)
                | (have _t := tok0; go_simp; go_at_call 82; refine (pickE _ _ HD.out.drew HBY.out hbl (by omega) (by omega) (by omega) (by omega)).mono ?_; rintro e wA ⟨v1, rfl, hv10, hv11, hDa, hga⟩; have HDa := Lib.hid hDa; have ca := hDa.cir.cell 3; simp at ca; have s3 : IntKind.i64.wrap (2 * vars - 1 - v1) = 2 * vars - 1 - v1 := IntWalk.i64_in _ (by omega); clear hDa hga tok0))
              all_goals
                go_wp2_with fail
                go_meet
                exact ⟨_, _, by omega, by omega, HDn⟩
            · go_wp2_with fail
              refine (odd_zero R bA bl bc q4 _ HD.out.row).mono ?_
              rintro e w5 ⟨rfl, hr5, hg5⟩
              have HD5 := Lib.hid (HD.out.pick hr5 hg5)
              clear hr5 hg5 HD
              have HVAL : Hid (Circ.validB i ns gs os = true) := Lib.hid (by
                have hnl := HNL.out
                have e1 : (1 + i + (ns.length : Int)) = 1 + i + lt := by omega
                have hve := HVE.out
                unfold Circ.validB
                rw [e1, HOK.out, show 1 + i + lt + (gs.length : Int) = vars by omega, HNO.out, HOO.out, Circ.within_t (by omega)]
                rfl)
              obtain ⟨nA, nc, eN, _⟩ := own_intsAt HD5.out.next
              obtain ⟨gA, gc, eG, _⟩ := own_gatesAt HD5.out.gates
              obtain ⟨oA, oc, eO, _⟩ := own_intsAt HD5.out.outs
              have hF := HD5.out
              rw [eN, eG, eO] at hF
              have HF := Lib.hid hF
              clear hF HD5 eN eG eO HOK HNO HOO
              have r0 := HF.out.cir.cell 0
              have r1 := HF.out.cir.cell 1
              have r2 := HF.out.cir.cell 2
              have r3 := HF.out.cir.cell 3
              have t0 := HF.out.res.cell 0
              have t1 := HF.out.res.cell 1
              have t2 := HF.out.res.cell 2
              have t3 := HF.out.res.cell 3
              have f0 := HF.out.res.frozen 0
              have f1 := HF.out.res.frozen 1
              have f2 := HF.out.res.frozen 2
              have f3 := HF.out.res.frozen 3
              simp only [List.getElem?_toArray, List.getElem?_cons_zero, List.getElem?_cons_succ] at r0 r1 r2 r3 t0 t1 t2 t3
              go_wp2
              refine bodyPost_ret (v := .agg #[.int .i64 i, .slice nA ns.length nc, .slice gA gs.length gc, .slice oA os.length oc]) (by simp [results, Try.results46, go_sem, t0, t1, t2, t3]) rfl (HF.out.finV HVAL.out (by omega) (by omega))
end Go.Proofs.Ythpiddpkcmecfaa
