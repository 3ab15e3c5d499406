/- The walk of the law FnOptimizeForm. -/
import Derived.Test.YthpiddpkcmecfaaY3
import Derived.Test.YthpiddpkcmecfaaE5
import Derived.Test.YthpiddpkcmecfaaZa
import Derived.Test.YthpiddpkcmecfaaQA
namespace Go.Proofs.Ythpiddpkcmecfaa
open Go.RowKit Go.Deep
set_option maxRecDepth 100000

theorem Circ.nf_z {i : Int} {ns : List Int} {gs : List (Int × Int)} {os : List Int} : Circ.NF (1 + Circ.zI i ns gs os + (Circ.zN i ns gs os).length) (Circ.zN i ns gs os) (Circ.zG i ns gs os) (Circ.zO i ns gs os) := by
  cases h : Circ.validB i ns gs os
  · obtain ⟨a, b, c, d⟩ := Circ.z_f h
    rw [a, b, c, d]
    exact Circ.NF.nil _
  · obtain ⟨a, b, c, d⟩ := Circ.z_t h
    rw [a, b, c, d, Opt.optN_len h]
    have hw := Circ.valid_within h
    have e : (1 + i + (ns.length : Int)) = ((Opt.fst i ns : Nat) : Int) := by unfold Opt.fst; omega
    rw [e]
    exact Circ.NF.of (Opt.optC_form h).1
theorem Circ.z_again {i : Int} {ns : List Int} {gs : List (Int × Int)} {os : List Int} {xi : Int} {zn : List Int} {zg : List (Int × Int)} {zo : List Int} (h1 : Circ.zI i ns gs os = xi) (h2 : Circ.zN i ns gs os = zn) (h3 : Circ.zG i ns gs os = zg) (h4 : Circ.zO i ns gs os = zo) :
    Circ.zI xi zn zg zo = xi ∧ Circ.zN xi zn zg zo = zn ∧ Circ.zG xi zn zg zo = zg ∧ Circ.zO xi zn zg zo = zo := by
  subst h1 h2 h3 h4
  obtain ⟨a, b, c, d⟩ := Circ.z_t (Circ.z_valid (i := i) (ns := ns) (gs := gs) (os := os))
  refine ⟨a, ?_⟩
  rw [b, c, d]
  cases h : Circ.validB i ns gs os
  · obtain ⟨a, b, c, d⟩ := Circ.z_f h
    rw [a, b, c, d]
    exact ⟨rfl, rfl, rfl⟩
  · obtain ⟨a, b, c, d⟩ := Circ.z_t h
    rw [a, b, c, d]
    have e := Opt.opt_again h
    exact ⟨congrArg (fun c : Opt.C => Opt.intL c.ns) e, congrArg (fun c : Opt.C => Opt.intG c.gs) e, congrArg (fun c : Opt.C => Opt.intL c.os) e⟩

set_option maxHeartbeats 4000000 in
theorem fform_walk (A : Option Addr) (bl bc : Nat) (w : World) (hb : CodeAt w A bl) (hbl : bl ≤ bc) (hbc : bc ≤ maxLen) :
    Calls Try.prog 5 #[.slice A bl bc] w fun e w' => e = .returned (.bool true) ∧ Below w.heap.size w w' := by
  have HB := Lib.hid hb
  have HBC := Lib.hid hbc
  unfold maxLen at hbc
  clear hb
  by_cases hsz : 1048576 < bl
  · go_enter Try.func5, Try.ntmps5
    go_wp2
    go_ret
    exact ⟨rfl, Below.refl _ _⟩
  · go_enter Try.func5, Try.ntmps5
    go_wp2_with fail
    refine (drawOpt_any A bl bc _ HB.out hbl HBC.out).mono ?_
    rintro e w1 ⟨i, nA, gA, oA, nc, gc, oc, ns, gs, os, rfl, hC1, hn, hg, ho, hgc, hb1⟩
    have hbB : Below w1.heap.size w1 (w1.alloc (.cells #[.int .i64 i, .slice nA ns.length nc, .slice gA gs.length gc, .slice oA os.length oc] 26)) := (Below.refl _ _).alloc (Nat.le_refl _) _
    have HC2 := Lib.hid ((hC1.below hbB).mono hbB.size)
    have HL2 := Lib.hid (hb1.trans (hbB.mono hb1.size))
    have HR2 := Lib.hid (show Row (w1.alloc (.cells #[.int .i64 i, .slice nA ns.length nc, .slice gA gs.length gc, .slice oA os.length oc] 26)) w1.heap.size 26 #[.int .i64 i, .slice nA ns.length nc, .slice gA gs.length gc, .slice oA os.length oc] from heap_alloc_new w1 _)
    clear hC1 hb1 hbB HB HBC hbc
    go_wp2_with fail
    refine (impl_opt_any i nA gA oA nc gc oc ns gs os _ HC2.out).mono ?_
    rintro e w3 ⟨xN, xG, xO, xn, xg, xo, rfl, hX3, hb3⟩
    have HC3 := Lib.hid ((HC2.out.below hb3).mono hb3.size)
    have HR3 := Lib.hid (HR2.out.below hb3 HR2.out.lt)
    have HL3 := Lib.hid (HL2.out.trans (hb3.mono HL2.out.size))
    obtain ⟨zl1, zl2, zl3⟩ := Circ.z_le (i := i) (ns := ns) (gs := gs) (os := os)
    have HZV := Lib.hid (Circ.z_valid (i := i) (ns := ns) (gs := gs) (os := os))
    have HX3 := Lib.hid hX3
    clear hb3 HC2 HR2 HL2 hX3
    generalize hxi : Circ.zI i ns gs os = xi at *
    generalize hzn : Circ.zN i ns gs os = zn at *
    generalize hzg : Circ.zG i ns gs os = zg at *
    generalize hzo : Circ.zO i ns gs os = zo at *
    have HXI := Lib.hid hxi
    have HZN := Lib.hid hzn
    have HZG := Lib.hid hzg
    have HZO := Lib.hid hzo
    clear hxi hzn hzg hzo
    generalize w1.heap.size = cc at *
    have hbB : Below w3.heap.size w3 (w3.alloc (.cells #[.int .i64 xi, .slice xN zn.length xn, .slice xG zg.length xg, .slice xO zo.length xo] 26)) := (Below.refl _ _).alloc (Nat.le_refl _) _
    have HC4 := Lib.hid ((HC3.out.below hbB).mono hbB.size)
    have HX4 := Lib.hid ((HX3.out.below hbB).mono hbB.size)
    have HR4 := Lib.hid (HR3.out.below hbB HR3.out.lt)
    have HL4 := Lib.hid (HL3.out.trans (hbB.mono HL3.out.size))
    have HQ4 := Lib.hid (show Row (w3.alloc (.cells #[.int .i64 xi, .slice xN zn.length xn, .slice xG zg.length xg, .slice xO zo.length xo] 26)) w3.heap.size 26 #[.int .i64 xi, .slice xN zn.length xn, .slice xG zg.length xg, .slice xO zo.length xo] from heap_alloc_new w3 _)
    have hcc := HR3.out.lt
    clear hbB HC3 HX3 HR3 HL3
    go_upto_region 5 with fail
    generalize w3.alloc (.cells #[.int .i64 xi, .slice xN zn.length xn, .slice xG zg.length xg, .slice xO zo.length xo] 26) = w4 at *
    generalize w3.heap.size = cx at *
    have q0 := HR4.out.cell 0
    have q1 := HR4.out.cell 1
    have q2 := HR4.out.cell 2
    have q3 := HR4.out.cell 3
    have p0 := HQ4.out.cell 0
    have p1 := HQ4.out.cell 1
    have p2 := HQ4.out.cell 2
    have p3 := HQ4.out.cell 3
    simp at q0 q1 q2 q3 p0 p1 p2 p3
    have hz1 := HR4.out.lt
    have hz2 := HQ4.out.lt
    go_region_held3 (fun w' => (w'.cell? ⟨cc, 0, none⟩ = some (.int .i64 i) ∧ w'.cell? ⟨cc, 1, none⟩ = some (.slice nA ns.length nc) ∧ w'.cell? ⟨cc, 2, none⟩ = some (.slice gA gs.length gc) ∧ w'.cell? ⟨cc, 3, none⟩ = some (.slice oA os.length oc)) ∧ w'.cell? ⟨cx, 0, none⟩ = some (.int .i64 xi) ∧ w'.cell? ⟨cx, 1, none⟩ = some (.slice xN zn.length xn) ∧ w'.cell? ⟨cx, 2, none⟩ = some (.slice xG zg.length xg) ∧ w'.cell? ⟨cx, 3, none⟩ = some (.slice xO zo.length xo))
      (first | go_keep | (refine ⟨⟨?_, ?_, ?_, ?_⟩, ?_, ?_, ?_, ?_⟩ <;> (rw [hc7 _ _ (by simp; omega)]; simp [*])) | (refine ⟨⟨?_, ?_, ?_, ?_⟩, ?_, ?_, ?_, ?_⟩ <;> (rw [hc8 _ _ (by omega), hc7 _ _ (by simp; omega)]; simp [*])))
      (first
        | (go_at_call 17; go_must (refine (spec_opt_any i nA gA oA nc gc oc ns gs os _ ?_).mono ?_; (exact ((HC4.out.below (Below.refl _ _).drew))); rintro e u7 ⟨e1, e2, e3, f1, f2, f3, rfl, hC7, hb7⟩; rw [HXI.out, HZN.out, HZG.out, HZO.out]; rw [HZN.out, HZG.out, HZO.out] at hC7; obtain ⟨hc7, hf7⟩ := bcell hb7; have hz7 : w4.heap.size ≤ u7.heap.size := hb7.size))
        | (go_at_call 16; refine (sameCircuit_any xi _ _ _ e1 e2 e3 _ _ _ f1 f2 f3 zn zg zo _ ?_ ?_ ?_ ?_ ?_).mono ?_; (exact ((HX4.out.below (Below.refl _ _).drew).below hb7).mono hb7.size); (exact hC7); (omega); (omega); (omega); rintro e u8 ⟨rfl, hb8⟩; obtain ⟨hc8, hf8⟩ := bcell hb8))
    clear hc7 hf7 hc8 hf8 p0 p1 p2 p3 q0 q1 q2 q3
    have hb5 : Below w4.heap.size w4 u8 := ((Below.refl _ w4).drew.trans hb7).trans (hb8.mono hz7)
    clear hb7 hb8 hz7 hC7 hz1 hz2
    rename_i _hheld
    clear _hheld
    have HC5 := Lib.hid ((HC4.out.below hb5).mono hb5.size)
    have HX5 := Lib.hid ((HX4.out.below hb5).mono hb5.size)
    have HR5 := Lib.hid (HR4.out.below hb5 HR4.out.lt)
    have HQ5 := Lib.hid (HQ4.out.below hb5 HQ4.out.lt)
    have HL5 := Lib.hid (HL4.out.trans (hb5.mono HL4.out.size))
    clear hb5 HC4 HX4 HR4 HQ4 HL4
    generalize u8 = w5 at *
    have p0 := HQ5.out.cell 0
    have p1 := HQ5.out.cell 1
    have p2 := HQ5.out.cell 2
    have p3 := HQ5.out.cell 3
    simp at p0 p1 p2 p3
    have hnf := Circ.nf_z (i := i) (ns := ns) (gs := gs) (os := os)
    rw [HXI.out, HZN.out, HZG.out, HZO.out] at hnf
    obtain ⟨hi0, hi4, _, _, _⟩ := Circ.valid_within HZV.out
    have hw5 := HQ5.out.lt
    generalize hn' : zg.length = n at *
    have HN := Lib.hid hn'
    generalize hno' : zo.length = no at *
    have HNO := Lib.hid hno'
    generalize hnn' : zn.length = nn at *
    have HNN := Lib.hid hnn'
    have HNF := Lib.hid hnf
    clear hnf hn' hno' hnn'
    go_wp2_with fail
    clear p0 p1 p2 p3
    generalize hfr' : 1 + xi + (nn : Int) = fr at *
    have hfr1 : 1 ≤ fr := by omega
    have hfr8 : fr ≤ 8 := by omega
    clear hfr'
    go_loopw [6] (fun iv wr => ∃ (k : Nat), k ≤ n ∧ iv = .int .i64 k ∧ Hid (Below w5.heap.size w5 wr)) (fun iv _ => n - (intOf iv).toNat)
    case atStart => exact ⟨0, Nat.zero_le _, rfl, Lib.hid (Below.refl _ _)⟩
    case round =>
      obtain ⟨k, hk, rfl, HBr⟩ := hrel
      have p2 := (HQ5.out.below HBr.out (by omega)).cell 2
      simp at p2
      by_cases hlt : k < n
      · obtain ⟨b, off, rfl, hbl, hcA, hcB⟩ := HX5.out.gates k (by rw [HN.out]; exact hlt)
        have hcA' := (HBr.out.cell (p := ⟨b, off + k * 2, none⟩) hbl).trans hcA
        have hcB' := (HBr.out.cell (p := ⟨b, off + k * 2 + 1, none⟩) hbl).trans hcB
        have n1 := HNF.out.low k (by rw [HN.out]; exact hlt)
        have n2 := HNF.out.ord k (by rw [HN.out]; exact hlt)
        have n3 := HNF.out.dif k (by rw [HN.out]; exact hlt)
        have n4 := HNF.out.ref k (by rw [HN.out]; exact hlt)
        have HIJ := Lib.hid (fun l (h1 : k < l) (h2 : l < n) => HNF.out.inj k l h1 (by rw [HN.out]; exact h2))
        have HUS := Lib.hid (HNF.out.use k (by rw [HN.out]; exact hlt))
        rw [HN.out] at HUS
        clear hcA hcB
        generalize (zg.getD k (0, 0)).1 = va at *
        generalize (zg.getD k (0, 0)).2 = vb at *
        have k0 : (0 : Int) ≤ (k : Int) := by omega
        have k1 : (k : Int) < (n : Int) := by omega
        have t1 : decide (va < 2) = false := by simpa using n1
        have t2 : decide (vb ≤ va) = false := by simpa using n2
        have t3 : (va / 2 == vb / 2) = false := by simpa using n3
        have hbA : Below wr.heap.size wr (wr.alloc (.cells #[.int .i64 va, .int .i64 vb] 46)) := (Below.refl _ _).alloc (Nat.le_refl _) _
        have HB2 := Lib.hid (HBr.out.trans (hbA.mono HBr.out.size))
        have HG2 := Lib.hid (show Row (wr.alloc (.cells #[.int .i64 va, .int .i64 vb] 46)) wr.heap.size 46 #[.int .i64 va, .int .i64 vb] from heap_alloc_new wr _)
        have hwr : w5.heap.size ≤ wr.heap.size := HBr.out.size
        have HSR := Lib.hid hwr
        clear hbA
        go_wp2_with fail
        clear t1 t2 t3 p2 hcA' hcB'
        generalize wr.alloc (.cells #[.int .i64 va, .int .i64 vb] 46) = wg at *
        generalize wr.heap.size = cg at *
        clear HBr
        have HUB : Hid (Circ.ug (fr + (k : Int)) zg (k + 1) (k + 1) = false) := Lib.hid (Circ.ug_start _ _ _)
        rw [show ((k : Int) + 1) = ((k + 1 : Nat) : Int) by omega]
        have hcgl := HG2.out.lt
        go_loopw [8, 9] (fun uv jv wx => ∃ (j : Nat) (ub : Bool), k + 1 ≤ j ∧ j ≤ n ∧ jv = .int .i64 j ∧ uv = .bool ub ∧ Hid (Circ.ug (fr + (k : Int)) zg (k + 1) j = ub) ∧ Hid (Below (cg + 1) wg wx)) (fun _ jv _ => n - (intOf jv).toNat)
        case atStart => exact ⟨k + 1, false, Nat.le_refl _, by omega, rfl, rfl, HUB, Lib.hid (Below.refl _ _)⟩
        case round =>
          clear HUB
          obtain ⟨j, ub, hj1, hj2, rfl, rfl, HU, HBx⟩ := hrel
          have hB5 : Below w5.heap.size w5 wr := HB2.out.trans (HBx.out.mono (by omega))
          have HB5 := Lib.hid hB5
          have p2 := (HQ5.out.below hB5 (by omega)).cell 2
          simp at p2
          by_cases hjl : j < n
          · obtain ⟨b', off', e', hbl', hcC, hcD⟩ := HX5.out.gates j (by rw [HN.out]; exact hjl)
            injection e' with e'
            injection e' with e1' e2'
            subst e1' e2'
            have hcC' := (hB5.cell (p := ⟨b, off + j * 2, none⟩) hbl).trans hcC
            have hcD' := (hB5.cell (p := ⟨b, off + j * 2 + 1, none⟩) hbl).trans hcD
            have m1 := HNF.out.low j (by rw [HN.out]; exact hjl)
            have m2 := HNF.out.ord j (by rw [HN.out]; exact hjl)
            have m4 := HNF.out.ref j (by rw [HN.out]; exact hjl)
            have HST := Lib.hid (Circ.ug_step (fr + (k : Int)) zg (k + 1) j hj1 (by rw [HN.out]; exact hjl))
            have hdj := HIJ.out j (by omega) hjl
            have r0 := (HG2.out.below HBx.out (by omega)).cell 0
            have r1 := (HG2.out.below HBx.out (by omega)).cell 1
            simp at r0 r1
            clear hcC hcD hB5 hbl'
            generalize hvc' : (zg.getD j (0, 0)).1 = vc at *
            generalize hvd' : (zg.getD j (0, 0)).2 = vd at *
            have HVC := Lib.hid hvc'
            have HVD := Lib.hid hvd'
            clear hvc' hvd'
            have j0 : (0 : Int) ≤ (j : Int) := by omega
            have j1 : (j : Int) < (n : Int) := by omega
            have hcd : (vc == va && vd == vb) = false := by
              rcases hdj with h | h
              · rw [beq_eq_false_iff_ne.2 h]; rfl
              · rw [beq_eq_false_iff_ne.2 h, Bool.and_false]
            have hcg0 : cg ≠ b := by omega
            have HCD := Lib.hid hdj
            clear hdj
            go_upto_region 18 with fail
            go_cut [77] (fun s77 wx => s77 = .bool false ∧ Hid (Below (cg + 1) wg wx))
            case first =>
              rcases HCD.out with hne | hne
              · have t5 : (vc == va) = false := beq_eq_false_iff_ne.2 hne
                clear hne hcd
                go_quiet (fail)
                go_wp2_with fail
                go_meet
                exact ⟨rfl, Lib.hid (below_drewN HBx.out _)⟩
              · have t5 : (vd == vb) = false := beq_eq_false_iff_ne.2 hne
                clear hne hcd
                go_quiet (fail)
                go_wp2_with fail
                go_meet
                exact ⟨rfl, Lib.hid (below_drewN HBx.out _)⟩
            case rest =>
              clear hcC' hcD' p2 r0 r1 hcd HB5
              obtain ⟨rfl, HBy⟩ := hcut
              have hB6 : Below w5.heap.size w5 wc := HB2.out.trans (HBy.out.mono (by omega))
              obtain ⟨_, _, e', _, hcC, hcD⟩ := HX5.out.gates j (by rw [HN.out]; exact hjl)
              injection e' with e'
              injection e' with e1' e2'
              subst e1' e2'
              rw [HVC.out] at hcC
              rw [HVD.out] at hcD
              have hcC' := (hB6.cell (p := ⟨b, off + j * 2, none⟩) hbl).trans hcC
              have hcD' := (hB6.cell (p := ⟨b, off + j * 2 + 1, none⟩) hbl).trans hcD
              have p2 := (HQ5.out.below hB6 (by omega)).cell 2
              simp at p2
              clear hcC hcD hB6
              rw [HU.out] at HST
              cases ub
              · by_cases h5 : vc / 2 = fr + (k : Int)
                · have t5 : (vc / 2 == fr + (k : Int)) = true := beq_iff_eq.2 h5
                  clear h5
                  rw [t5] at HST
                  go_wp2_with fail
                  go_roundw
                  case rel => exact ⟨j + 1, true, by omega, by omega, by go_num, rfl, Lib.hid (by rw [HST.out]; rfl), HBy⟩
                  case measure => simp [intOf]; omega
                · have t5 : (vc / 2 == fr + (k : Int)) = false := beq_eq_false_iff_ne.2 h5
                  clear h5
                  rw [t5] at HST
                  go_wp2_with fail
                  go_roundw
                  case rel => exact ⟨j + 1, _, by omega, by omega, by go_num, rfl, Lib.hid (by rw [HST.out]; rfl), HBy⟩
                  case measure => simp [intOf]; omega
              · go_wp2_with fail
                go_roundw
                case rel => exact ⟨j + 1, true, by omega, by omega, by go_num, rfl, Lib.hid (by rw [HST.out]; rfl), HBy⟩
                case measure => simp [intOf]; omega
          · obtain rfl : j = n := by omega
            have HB5' := HB5
            have p1 := (HQ5.out.below HB5.out (by omega)).cell 1
            have p3 := (HQ5.out.below HB5.out (by omega)).cell 3
            simp at p1 p3
            clear hB5
            go_wp2_with fail
            go_loop [8, 10] (fun uv kv => ∃ (l : Nat) (uc : Bool), l ≤ no ∧ kv = .int .i64 l ∧ uv = .bool uc ∧ Hid ((ub || Circ.ul (fr + (k : Int)) (zo.take l)) = uc)) (fun _ kv => no - (intOf kv).toNat)
            case atStart => exact ⟨0, ub, Nat.zero_le _, rfl, rfl, Lib.hid (by simp [Circ.ul])⟩
            case round =>
              obtain ⟨l, uc, hl, rfl, rfl, HV3⟩ := hrel
              by_cases hll : l < no
              · obtain ⟨b3, off3, rfl, hbl3, hce⟩ := HX5.out.outs l (by rw [HNO.out]; exact hll)
                have hce' := (HB5.out.cell (p := ⟨b3, off3 + l, none⟩) hbl3).trans hce
                have hok := Circ.litsOk_get (Circ.valid_outs HZV.out) (k := l) (by rw [HNO.out]; exact hll)
                have HS3 := Lib.hid (Circ.ul_step (fr + (k : Int)) zo l (by rw [HNO.out]; exact hll))
                clear hce
                obtain ⟨hok1, hok2⟩ := hok
                rw [HNN.out, HN.out] at hok2
                generalize zo.getD l 0 = ve at *
                have l0 : (0 : Int) ≤ (l : Int) := by omega
                have l1 : (l : Int) < (no : Int) := by omega
                cases uc
                · go_wp2_with fail
                  go_round
                  case rel => exact ⟨l + 1, _, by omega, by go_num, rfl, Lib.hid (by rw [HS3.out, ← Bool.or_assoc, HV3.out]; rfl)⟩
                  case measure => simp [intOf]; omega
                · go_wp2_with fail
                  go_round
                  case rel => exact ⟨l + 1, _, by omega, by go_num, rfl, Lib.hid (by rw [HS3.out, ← Bool.or_assoc, HV3.out]; rfl)⟩
                  case measure => simp [intOf]; omega
              · obtain rfl : l = no := by omega
                rw [List.take_of_length_le (by rw [HNO.out]; exact Nat.le_refl _)] at HV3
                generalize hud : uc = ud at *
                clear hud
                go_wp2_with fail
                go_loop [8, 11] (fun uv kv => ∃ (l : Nat) (uc : Bool), l ≤ nn ∧ kv = .int .i64 l ∧ uv = .bool uc ∧ Hid ((ud || Circ.ul (fr + (k : Int)) (zn.take l)) = uc)) (fun _ kv => nn - (intOf kv).toNat)
                case atStart => exact ⟨0, ud, Nat.zero_le _, rfl, rfl, Lib.hid (by simp [Circ.ul])⟩
                case round =>
                  obtain ⟨l, uc, hl, rfl, rfl, HV4⟩ := hrel
                  by_cases hll : l < nn
                  · obtain ⟨b3, off3, rfl, hbl3, hce⟩ := HX5.out.next l (by rw [HNN.out]; exact hll)
                    have hce' := (HB5.out.cell (p := ⟨b3, off3 + l, none⟩) hbl3).trans hce
                    have hok := Circ.litsOk_get (Circ.valid_next HZV.out) (k := l) (by rw [HNN.out]; exact hll)
                    have HS3 := Lib.hid (Circ.ul_step (fr + (k : Int)) zn l (by rw [HNN.out]; exact hll))
                    clear hce
                    obtain ⟨hok1, hok2⟩ := hok
                    rw [HNN.out, HN.out] at hok2
                    generalize zn.getD l 0 = ve at *
                    have l0 : (0 : Int) ≤ (l : Int) := by omega
                    have l1 : (l : Int) < (nn : Int) := by omega
                    cases uc
                    · go_wp2_with fail
                      go_round
                      case rel => exact ⟨l + 1, _, by omega, by go_num, rfl, Lib.hid (by rw [HS3.out, ← Bool.or_assoc, HV4.out]; rfl)⟩
                      case measure => simp [intOf]; omega
                    · go_wp2_with fail
                      go_round
                      case rel => exact ⟨l + 1, _, by omega, by go_num, rfl, Lib.hid (by rw [HS3.out, ← Bool.or_assoc, HV4.out]; rfl)⟩
                      case measure => simp [intOf]; omega
                  · obtain rfl : l = nn := by omega
                    rw [List.take_of_length_le (by rw [HNN.out]; exact Nat.le_refl _)] at HV4
                    have hfull : uc = true := by
                      have h3 := HUS.out
                      rw [HU.out, HV3.out, HV4.out] at h3
                      exact h3
                    subst hfull
                    have hL7 : Below w5.heap.size w5 wr := HB5.out
                    have HL7 := Lib.hid hL7
                    clear hL7
                    go_wp2_with fail
                    go_roundw
                    case rel => exact ⟨k + 1, by omega, by go_num, HL7⟩
                    case measure => simp [intOf]; omega
      · have p0 := (HQ5.out.below HBr.out (by omega)).cell 0
        have p1 := (HQ5.out.below HBr.out (by omega)).cell 1
        have p3 := (HQ5.out.below HBr.out (by omega)).cell 3
        simp at p0 p1 p3
        have HX6 := Lib.hid ((HX5.out.below HBr.out).mono HBr.out.size)
        have hag := Circ.z_again HXI.out HZN.out HZG.out HZO.out
        obtain ⟨g1, g2, g3, g4⟩ := hag
        have HG1 := Lib.hid g1
        have HG2 := Lib.hid g2
        have HG3 := Lib.hid g3
        have HG4 := Lib.hid g4
        clear g1 g2 g3 g4
        have hz2 : cx < wr.heap.size := by have := HBr.out.size; omega
        have hO := fun W hC => impl_opt_any xi xN xG xO xn xg xo zn zg zo W hC
        rw [HNN.out, HN.out, HNO.out] at hO
        have HOP := Lib.hid hO
        have hS := fun e1 e2 e3 f1 f2 f3 W hC hD => sameCircuit_any xi e1 e2 e3 xN xG xO f1 f2 f3 xn xg xo zn zg zo W hC hD
        rw [HNN.out, HN.out, HNO.out] at hS
        have HSA := Lib.hid hS
        clear hO hS
        go_upto_region 31 with fail
        go_region_held3 (fun w' => w'.cell? ⟨cx, 0, none⟩ = some (.int .i64 xi) ∧ w'.cell? ⟨cx, 1, none⟩ = some (.slice xN nn xn) ∧ w'.cell? ⟨cx, 2, none⟩ = some (.slice xG n xg) ∧ w'.cell? ⟨cx, 3, none⟩ = some (.slice xO no xo))
          (first | go_keep | (have _t := hb9; refine ⟨?_, ?_, ?_, ?_⟩ <;> (rw [hc9 _ _ (by omega), hc8 _ _ (by omega), hc7 _ _ (by simp; omega)]; simp [*])) | (have _t := hb8; refine ⟨?_, ?_, ?_, ?_⟩ <;> (rw [hc8 _ _ (by omega), hc7 _ _ (by simp; omega)]; simp [*])) | (refine ⟨?_, ?_, ?_, ?_⟩ <;> (rw [hc7 _ _ (by simp; omega)]; simp [*])))
          (first
            | (go_at_call 27; have _t := hb8; refine (alive_any _).mono ?_; rintro e u9 ⟨rfl, hb9⟩; obtain ⟨hc9, hf9⟩ := bcell hb9; have hz9 : u8.heap.size ≤ u9.heap.size := hb9.size)
            | (go_at_call 16; have _t := hb7; refine (HSA.out e1 e2 e3 f1 f2 f3 _ ?_ ?_ ?_ ?_ ?_).mono ?_; (exact hC7); (exact ((HX6.out.below (Below.refl _ _).drew).below hb7).mono hb7.size); (omega); (omega); (omega); rintro e u8 ⟨rfl, hb8⟩; obtain ⟨hc8, hf8⟩ := bcell hb8; have hz8 : u7.heap.size ≤ u8.heap.size := hb8.size)
            | (go_at_call 15; refine (HOP.out _ ?_).mono ?_; (exact HX6.out.below (Below.refl _ _).drew); rintro e u7 ⟨e1, e2, e3, f1, f2, f3, rfl, hC7, hb7⟩; rw [HG1.out, HG2.out, HG3.out, HG4.out, HNN.out, HN.out, HNO.out]; rw [HG2.out, HG3.out, HG4.out] at hC7; obtain ⟨hc7, hf7⟩ := bcell hb7; have hz7 : wr.heap.size ≤ u7.heap.size := hb7.size))
        have hb10 : Below wr.heap.size wr u9 := (((Below.refl _ wr).drew.trans hb7).trans (hb8.mono hz7)).trans (hb9.mono (Nat.le_trans hz7 hz8))
        go_wp2
        go_ret
        exact ⟨rfl, (HL5.out.trans (HBr.out.mono HL5.out.size)).trans (hb10.mono (Nat.le_trans HL5.out.size HBr.out.size))⟩
end Go.Proofs.Ythpiddpkcmecfaa
