/- The walk of FnEvalVars. -/
import Derived.Test.YtbhkpjcflghgbaaB13
import Derived.Test.YtbhkpjcflghgbaaB14
import Derived.Test.YtbhkpjcflghgbaaB7
import Derived.Test.YtbhkpjcflghgbaaZ
namespace Go.Proofs.Ytbhkpjcflghgbaa
open Go.RowKit Go.Deep

theorem BoolsAt.sub {w : World} {B g : Nat} {xs : List Bool} (h : BoolsAt w B (some ⟨g, 0, none⟩) xs) (a : Nat) (ys : List Bool) (hl : a + ys.length ≤ xs.length) (hy : ∀ k, k < ys.length → ys.getD k false = xs.getD (a + k) false) : BoolsAt w B (some ⟨g, a, none⟩) ys := fun k hk => by
  obtain ⟨b, off, e, hb, hc⟩ := h (a + k) (by omega)
  injection e with e
  injection e with e1 e2
  subst e1 e2
  exact ⟨g, a, rfl, hb, by rw [hy k hk, ← hc, Nat.zero_add]⟩
theorem BoolsAt.zero {w : World} {B : Nat} {A : Option Addr} {xs : List Bool} (h : xs.length = 0) : BoolsAt w B A xs := fun k hk => absurd hk (by omega)
theorem vals_ins (gs : List (Int × Int)) (st ins : List Bool) (k : Nat) (hk : k < ins.length) : ins.getD k false = (Circ.valsOf gs st ins).getD (1 + k) false := by
  rw [Circ.valsOf, Circ.vals_low _ _ _ (by simp; omega), Nat.add_comm 1 k]
  simp [List.getD_eq_getElem?_getD, List.getElem?_append_left hk]
theorem vals_st (gs : List (Int × Int)) (st ins : List Bool) (k : Nat) (hk : k < st.length) : st.getD k false = (Circ.valsOf gs st ins).getD (1 + ins.length + k) false := by
  rw [Circ.valsOf, Circ.vals_low _ _ _ (by simp; omega), show 1 + ins.length + k = (ins.length + k) + 1 from by omega]
  simp [List.getD_eq_getElem?_getD, List.getElem?_append_right]
theorem vals_zero (gs : List (Int × Int)) (st ins : List Bool) : (Circ.valsOf gs st ins).getD 0 false = false := by
  rw [Circ.valsOf, Circ.vals_low _ _ _ (by simp)]
  rfl

set_option maxRecDepth 10000 in
set_option maxHeartbeats 4000000 in
theorem fevalVars_walk (A : Option Addr) (bl bc : Nat) (w : World) (hb : CodeAt w A bl) (hbl : bl ≤ bc) (hbc : bc ≤ maxLen) :
    Calls Try.prog 3 #[.slice A bl bc] w fun e w' => e = .returned (.bool true) ∧ Below w.heap.size w w' := by
  have HB := Lib.hid hb
  have HBC := Lib.hid hbc
  unfold maxLen at hbc
  clear hb
  by_cases h20 : bl ≤ 1048576
  · clear hbc
    go_enter Try.func3, Try.ntmps3
    go_wp2_with fail
    refine (drawEv_any A bl bc w HB.out hbl HBC.out).mono ?_
    rintro e w1 ⟨i, nA, gA, oA, sA, iA, nc, gc, oc, sc, ic, ns, gs, os, st, ins, rfl, hC, hS, hI, hn, hg, ho, hi0, hi1, hsl, hil, _, hb1⟩
    have HC1 := Lib.hid hC
    have HS1 := Lib.hid hS
    have HI1 := Lib.hid hI
    have HL1 := Lib.hid hb1
    clear hC hS hI hb1
    have hev := evalV_le (i := i) (ns := ns) (gs := gs) (os := os) st ins
    have hb2 : Below w1.heap.size w1 (w1.alloc (.cells #[.int .i64 i, .slice nA ns.length nc, .slice gA gs.length gc, .slice oA os.length oc] 26)) := (Below.refl _ _).alloc (Nat.le_refl _) _
    have HR2 : Hid (Row (w1.alloc (.cells #[.int .i64 i, .slice nA ns.length nc, .slice gA gs.length gc, .slice oA os.length oc] 26)) w1.heap.size 26 #[.int .i64 i, .slice nA ns.length nc, .slice gA gs.length gc, .slice oA os.length oc]) := Lib.hid (heap_alloc_new w1 _)
    have HC2 := Lib.hid ((HC1.out.below hb2).mono hb2.size)
    have HS2 := Lib.hid (HS1.out.on hb2)
    have HI2 := Lib.hid (HI1.out.on hb2)
    have HL2 := Lib.hid (HL1.out.trans (hb2.mono HL1.out.size))
    clear hb2 HC1 HS1 HI1 HL1
    go_wp2_with fail
    generalize w1.alloc (.cells #[.int .i64 i, .slice nA ns.length nc, .slice gA gs.length gc, .slice oA os.length oc] 26) = w2 at *
    generalize w1.heap.size = c0 at *
    refine (evalVars_any i nA gA oA sA iA nc gc oc sc ic ns gs os st ins _ HC2.out HS2.out HI2.out).mono ?_
    rintro e w3 ⟨eA, rfl, hx3, hb3⟩
    have HG3 := Lib.hid hx3
    clear hx3
    have HC3 := Lib.hid ((HC2.out.below hb3).mono hb3.size)
    have HS3 := Lib.hid (HS2.out.on hb3)
    have HI3 := Lib.hid (HI2.out.on hb3)
    have HL3 := Lib.hid (HL2.out.trans (hb3.mono HL2.out.size))
    have HR3 := Lib.hid (HR2.out.below hb3 HR2.out.lt)
    clear hb3 HC2 HS2 HI2 HL2 HR2
    have q0 := HR3.out.cell 0
    have q1 := HR3.out.cell 1
    have q2 := HR3.out.cell 2
    have q3 := HR3.out.cell 3
    simp at q0 q1 q2 q3
    go_wp2_with fail
    refine (sevalVars_any i nA gA oA sA iA nc gc oc sc ic ns gs os st ins _ HC3.out HS3.out HI3.out).mono ?_
    rintro e w4 ⟨wA, wc, rfl, hx4, hb4⟩
    clear q0 q1 q2 q3
    have HW4 := Lib.hid hx4
    clear hx4
    have HC4 := Lib.hid ((HC3.out.below hb4).mono hb4.size)
    have HS4 := Lib.hid (HS3.out.on hb4)
    have HI4 := Lib.hid (HI3.out.on hb4)
    have HL4 := Lib.hid (HL3.out.trans (hb4.mono HL3.out.size))
    have HR4 := Lib.hid (HR3.out.below hb4 HR3.out.lt)
    have HG4 := Lib.hid (HG3.out.on hb4)
    clear hb4 HC3 HS3 HI3 HL3 HR3 HG3
    go_wp2_with fail
    refine (sameBools_len eA wA _ _ _ (evalV i ns gs os st ins) _ rfl HG4.out.bools HW4.out (by omega)).mono ?_
    rintro e w5 ⟨rfl, hb5⟩
    have HC5 := Lib.hid ((HC4.out.below hb5).mono hb5.size)
    have HS5 := Lib.hid (HS4.out.on hb5)
    have HI5 := Lib.hid (HI4.out.on hb5)
    have HL5 := Lib.hid (HL4.out.trans (hb5.mono HL4.out.size))
    have HR5 := Lib.hid (HR4.out.below hb5 HR4.out.lt)
    have HG5 := Lib.hid (HG4.out.on hb5)
    clear hb5 HC4 HS4 HI4 HL4 HR4 HG4 HW4
    have q0 := HR5.out.cell 0
    have q1 := HR5.out.cell 1
    have q2 := HR5.out.cell 2
    have q3 := HR5.out.cell 3
    simp at q0 q1 q2 q3
    go_wp2_with fail
    refine (svalid_any i nA gA oA nc gc oc ns gs os _ HC5.out).mono ?_
    rintro e w6 ⟨rfl, hb6⟩
    clear q0 q1 q2 q3
    have HC6 := Lib.hid ((HC5.out.below hb6).mono hb6.size)
    have HS6 := Lib.hid (HS5.out.on hb6)
    have HI6 := Lib.hid (HI5.out.on hb6)
    have HL6 := Lib.hid (HL5.out.trans (hb6.mono HL5.out.size))
    have HR6 := Lib.hid (HR5.out.below hb6 HR5.out.lt)
    have HG6 := Lib.hid (HG5.out.on hb6)
    clear hb6 HC5 HS5 HI5 HL5 HR5 HG5
    have q0 := HR6.out.cell 0
    have q1 := HR6.out.cell 1
    have q2 := HR6.out.cell 2
    have q3 := HR6.out.cell 3
    simp at q0 q1 q2 q3
    have HA : Hid (assignB i ns gs os st.length ins.length = (Circ.validB i ns gs os && (decide (st.length = ns.length) && decide ((ins.length : Int) = i)))) := Lib.hid rfl
    have HVI := Lib.hid (fun h => Circ.valid_within (i := i) (ns := ns) (gs := gs) (os := os) h)
    have HVG := Lib.hid (fun h => Circ.valid_gates (i := i) (ns := ns) (gs := gs) (os := os) h)
    have HVC := Lib.hid (fun h => Circ.varCount_t (i := i) (ns := ns) (gs := gs) (os := os) h)
    generalize Circ.validB i ns gs os = vv at *
    cases vv
    · have HE : Hid ((evalV i ns gs os st ins).length = 0) := Lib.hid (by rw [evalV_f (by rw [HA.out]; rfl)]; rfl)
      generalize (evalV i ns gs os st ins).length = el at *
      obtain rfl := HE.out
      go_wp2_with (go_at_call 14; refine (alive_any _).mono ?_; rintro e w9 ⟨rfl, hb9⟩)
      go_ret
      exact ⟨rfl, HL6.out.trans (hb9.mono HL6.out.size)⟩
    · by_cases h1 : st.length = ns.length
      · by_cases h2 : (ins.length : Int) = i
        · have e1 : ((st.length : Int) != (ns.length : Int)) = false := by simp; omega
          have e2 : ((ins.length : Int) != i) = false := by simp [h2]
          have HE : Hid (evalV i ns gs os st ins = Circ.valsOf gs st ins) := Lib.hid (evalV_t (by rw [HA.out]; simp [h1, h2]))
          obtain ⟨a0, a1, a2, a3, a4⟩ := HVI.out rfl
          have HGK := Lib.hid (HVG.out rfl)
          have HVC2 := Lib.hid (HVC.out rfl)
          clear HVI HVG HVC HA
          have hlen := Circ.valsOf_len gs st ins
          have HVL := Lib.hid hlen
          rw [HE.out] at HG6 hev
          have HVE : Hid ((evalV i ns gs os st ins).length = (Circ.valsOf gs st ins).length) := Lib.hid (by rw [HE.out])
          obtain ⟨g, rfl, HB6⟩ : ∃ g, eA = some ⟨g, 0, none⟩ ∧ Hid (BRow w6 g (Circ.valsOf gs st ins)) := by
            rcases HG6.out with ⟨_, h⟩ | ⟨g, h, _, hb⟩
            · rw [h] at hlen; simp at hlen; omega
            · exact ⟨g, h, Lib.hid hb⟩
          rw [HVE.out]
          clear HG6 HE HVE
          generalize hN : (Circ.valsOf gs st ins).length = N at *
          have HNN := Lib.hid hN
          have hN1 : N = 1 + ins.length + st.length + gs.length := hlen
          have H1 := Lib.hid h1
          have H2 := Lib.hid h2
          have HN1 := Lib.hid hN1
          have hNA : 1 + ins.length ≤ N := by omega
          have hNB : 1 + ins.length + st.length ≤ N := by omega
          have hNC : N ≤ 22 := by omega
          have EN : Hid (1 + i + (ns.length : Int) + (gs.length : Int) = (N : Int)) := Lib.hid (by omega)
          clear hlen hN hN1 h1 h2 hev
          go_wp2_with fail
          refine (varCount_any i nA gA oA nc gc oc ns gs os _ HC6.out).mono ?_
          rintro e w7 ⟨rfl, hb7⟩
          rw [HVC2.out, EN.out]
          have HC7 := Lib.hid ((HC6.out.below hb7).mono hb7.size)
          have HS7 := Lib.hid (HS6.out.on hb7)
          have HI7 := Lib.hid (HI6.out.on hb7)
          have HL7 := Lib.hid (HL6.out.trans (hb7.mono HL6.out.size))
          have HR7 := Lib.hid (HR6.out.below hb7 HR6.out.lt)
          have HB7 := Lib.hid (HB6.out.on hb7)
          clear hb7 HC6 HS6 HI6 HL6 HR6 HB6 q0 q1 q2 q3
          have hv0 : w7.cell? ⟨g, 0, none⟩ = some (.bool false) := by
            obtain ⟨b, off, e, _, hc⟩ := HB7.out.bools 0 (by rw [HNN.out]; omega)
            injection e with e
            injection e with e1 e2
            subst e1 e2
            rw [hc, vals_zero]
          have hne : ((N : Int) != (N : Int)) = false := by simp
          go_wp2_with fail
          all_goals
            refine (sameBools_len _ iA _ _ _ ins _ rfl ?_ HI7.out (by omega)).mono ?_
            · first | exact HB7.out.bools.sub 1 ins (by rw [HNN.out]; omega) (fun k hk => vals_ins gs st ins k hk) | exact BoolsAt.zero (by omega)
            rintro e w8 ⟨rfl, hb8⟩
            clear hv0
            have HC8 := Lib.hid ((HC7.out.below hb8).mono hb8.size)
            have HS8 := Lib.hid (HS7.out.on hb8)
            have HI8 := Lib.hid (HI7.out.on hb8)
            have HL8 := Lib.hid (HL7.out.trans (hb8.mono HL7.out.size))
            have HR8 := Lib.hid (HR7.out.below hb8 HR7.out.lt)
            have HB8 := Lib.hid (HB7.out.on hb8)
            clear hb8 HC7 HS7 HI7 HL7 HR7 HB7
            go_wp2_with fail
            all_goals
              refine (sameBools_len _ sA _ _ _ st _ rfl ?_ HS8.out (by omega)).mono ?_
              · first | exact HB8.out.bools.sub (1 + ins.length) st (by rw [HNN.out]; omega) (fun k hk => vals_st gs st ins k hk) | exact BoolsAt.zero (by omega)
              rintro e w9 ⟨rfl, hb9⟩
              have HC9 := Lib.hid ((HC8.out.below hb9).mono hb9.size)
              have HS9 := Lib.hid (HS8.out.on hb9)
              have HI9 := Lib.hid (HI8.out.on hb9)
              have HL9 := Lib.hid (HL8.out.trans (hb9.mono HL8.out.size))
              have HR9 := Lib.hid (HR8.out.below hb9 HR8.out.lt)
              have HB9 := Lib.hid (HB8.out.on hb9)
              clear hb9 HC8 HS8 HI8 HL8 HR8 HB8
              have q2 := HR9.out.cell 2
              simp at q2
              go_wp2
              clear q2 e1 e2 hne
              go_loopw [8] (fun iv wr => ∃ (k : Nat), k ≤ gs.length ∧ iv = .int .i64 k ∧ Hid (Below w9.heap.size w9 wr)) (fun iv _ => gs.length - (intOf iv).toNat)
              case atStart => exact ⟨0, Nat.zero_le _, rfl, Lib.hid (Below.refl _ _)⟩
              case round =>
                obtain ⟨k, hk, rfl, HBR⟩ := hrel
                have HRr := Lib.hid (HR9.out.below HBR.out HR9.out.lt)
                have q2 := HRr.out.cell 2
                simp at q2
                by_cases hlt : k < gs.length
                · by_cases hdd : N = 1 + ins.length + st.length
                  · exact absurd hlt (by have := HN1.out; omega)
                  first
                  | (exfalso; have := HN1.out; omega)
                  | (
                    obtain ⟨b, off, rfl, hbl, hcA, hcB⟩ := HC9.out.gates k hlt
                    rw [← HBR.out.cell (by exact hbl)] at hcA hcB
                    have hok : Circ.gatesOk gs (((false :: (ins ++ st)).length : Nat) : Int) = true := by
                      have h1 := HGK.out
                      have h2 := H1.out
                      have h3 := H2.out
                      rw [show ((((false :: (ins ++ st)).length : Nat)) : Int) = 1 + i + (ns.length : Int) from by simp; omega]
                      exact h1
                    obtain ⟨oA1, oB1⟩ := Circ.gatesOk_get hok (k := k) hlt
                    obtain ⟨oA2, oA3⟩ := Circ.litOk_inv oA1
                    obtain ⟨oB2, oB3⟩ := Circ.litOk_inv oB1
                    have hvat := Circ.vals_at gs k (false :: (ins ++ st)) hlt hok
                    have hl0 : (false :: (ins ++ st)).length = 1 + ins.length + st.length := by simp; omega
                    rw [hl0] at hvat oA3 oB3
                    have hvat2 : (Circ.valsOf gs st ins).getD (1 + ins.length + st.length + k) false = (Circ.litV (Circ.valsOf gs st ins) (gs.getD k (0, 0)).1 && Circ.litV (Circ.valsOf gs st ins) (gs.getD k (0, 0)).2) := hvat
                    have hn1 := HN1.out
                    have key : ∀ j, j < N → wr.cell? ⟨g, j, none⟩ = some (.bool ((Circ.valsOf gs st ins).getD j false)) := fun j hj => by
                      obtain ⟨b', off', e', hb', hc'⟩ := HB9.out.bools j (by rw [HNN.out]; exact hj)
                      injection e' with e'
                      injection e' with e1 e2
                      subst e1 e2
                      rw [HBR.out.cell (p := ⟨g, j, none⟩) hb', ← hc', Nat.zero_add]
                    have hgz : g < wr.heap.size := Nat.lt_of_lt_of_le HB9.out.lt HBR.out.size
                    clear hvat oA1 oB1 hok hl0
                    generalize (gs.getD k (0, 0)).1 = va at *
                    generalize (gs.getD k (0, 0)).2 = vb at *
                    obtain ⟨qa, rfl⟩ := Int.eq_ofNat_of_zero_le oA2
                    obtain ⟨qb, rfl⟩ := Int.eq_ofNat_of_zero_le oB2
                    rw [litV_nat, litV_nat] at hvat2
                    have hka : qa / 2 < N := by omega
                    have hkb : qb / 2 < N := by omega
                    have cA := key (qa / 2) hka
                    have cB := key (qb / 2) hkb
                    have cV := key (1 + ins.length + st.length + k) (by omega)
                    rw [hvat2] at cV
                    clear hvat2 key oA2 oB2 oA3 oB3
                    have u1 : (qa : Int).tdiv 2 = ((qa / 2 : Nat) : Int) := by rw [Int.tdiv_eq_ediv_of_nonneg (by omega)]; omega
                    have u2 : (qb : Int).tdiv 2 = ((qb / 2 : Nat) : Int) := by rw [Int.tdiv_eq_ediv_of_nonneg (by omega)]; omega
                    have u3 : (qa : Int).tmod 2 = ((qa % 2 : Nat) : Int) := by rw [Int.tmod_eq_emod_of_nonneg (by omega)]; omega
                    have u4 : (qb : Int).tmod 2 = ((qb % 2 : Nat) : Int) := by rw [Int.tmod_eq_emod_of_nonneg (by omega)]; omega
                    have hpa : qa % 2 < 2 := Nat.mod_lt _ (by omega)
                    have hpb : qb % 2 < 2 := Nat.mod_lt _ (by omega)
                    generalize (Circ.valsOf gs st ins).getD (qa / 2) false = xa at *
                    generalize (Circ.valsOf gs st ins).getD (qb / 2) false = xb at *
                    generalize qa / 2 = ka at *
                    generalize qb / 2 = kb at *
                    generalize qa % 2 = pa at *
                    generalize qb % 2 = pb at *
                    generalize hjj : 1 + ins.length + st.length + k = jj at *
                    have ej : (1 : Int) + (ins.length : Int) + (st.length : Int) + (k : Int) = (jj : Int) := by omega
                    have EJ := Lib.hid ej
                    have hjN : jj < N := by omega
                    clear hjj ej hn1
                    have E0 : Hid ((wr.alloc (.cells #[.int .i64 qa, .int .i64 qb] 36)).cell? ⟨wr.heap.size, 0, none⟩ = some (.int .i64 qa)) := Lib.hid (by simp)
                    have E1 : Hid ((wr.alloc (.cells #[.int .i64 qa, .int .i64 qb] 36)).cell? ⟨wr.heap.size, 1, none⟩ = some (.int .i64 qb)) := Lib.hid (by simp)
                    have E2 := Lib.hid ((World.cell?_alloc_lt wr (.cells #[.int .i64 qa, .int .i64 qb] 36) ⟨g, ka, none⟩ hgz).trans cA)
                    have E3 := Lib.hid ((World.cell?_alloc_lt wr (.cells #[.int .i64 qa, .int .i64 qb] 36) ⟨g, kb, none⟩ hgz).trans cB)
                    have E4 := Lib.hid ((World.cell?_alloc_lt wr (.cells #[.int .i64 qa, .int .i64 qb] 36) ⟨g, jj, none⟩ hgz).trans cV)
                    have HBA := Lib.hid (HBR.out.alloc HBR.out.size (.cells #[.int .i64 qa, .int .i64 qb] 36))
                    go_wp2
                    clear cA cB cV hcA hcB q2 HRr HBR
                    generalize wr.alloc (.cells #[.int .i64 qa, .int .i64 qb] 36) = w5x at *
                    generalize wr.heap.size = z5 at *
                    have e0 := E0.out
                    have e1 := E1.out
                    have e2 := E2.out
                    have e3 := E3.out
                    have e4 := E4.out
                    clear E0 E1 E2 E3 E4
                    have s1 : IntKind.i64.wrap ((1 : Int) + (ins.length : Int) + (st.length : Int) + (k : Int)) = (jj : Int) := by rw [EJ.out]; exact IntWalk.i64_in _ (by omega)
                    have s2 : IntKind.i64.wrap (ka : Int) = (ka : Int) := IntWalk.i64_in _ (by omega)
                    have s3 : IntKind.i64.wrap (kb : Int) = (kb : Int) := IntWalk.i64_in _ (by omega)
                    have t1 : (0 : Int) ≤ (ka : Int) := by omega
                    have t2 : (ka : Int) < (N : Int) := by omega
                    have t3 : (0 : Int) ≤ (kb : Int) := by omega
                    have t4 : (kb : Int) < (N : Int) := by omega
                    have t5 : (0 : Int) ≤ (jj : Int) := by omega
                    have t6 : (jj : Int) < (N : Int) := by omega
                    have r0 : IntKind.i64.wrap (0 : Int) = 0 := IntWalk.i64_in _ (by omega)
                    have r1 : IntKind.i64.wrap (1 : Int) = 1 := IntWalk.i64_in _ (by omega)
                    rcases (show pa = 0 ∨ pa = 1 by omega) with rfl | rfl
                    all_goals
                      rcases (show pb = 0 ∨ pb = 1 by omega) with rfl | rfl
                      all_goals
                        cases xa
                        all_goals
                          cases xb
                          all_goals
                            simp at e4
                            first | (replace u3 : (qa : Int).tmod 2 = (0 : Int) := u3) | (replace u3 : (qa : Int).tmod 2 = (1 : Int) := u3)
                            first | (replace u4 : (qb : Int).tmod 2 = (0 : Int) := u4) | (replace u4 : (qb : Int).tmod 2 = (1 : Int) := u4)
                            go_quiet (fail)
                            clear u1 u2 u3 u4 s1 s2 s3 t1 t2 t3 t4 t5 t6 r0 r1 e0 e1 e2 e3 e4
                            go_wp2
                            go_roundw
                            case rel => exact ⟨k + 1, by omega, by go_num, Lib.hid (below_drewN HBA.out _)⟩
                            case measure => simp [intOf]; omega)
                · go_wp2
                  go_ret
                  exact ⟨rfl, HL9.out.trans (HBR.out.mono HL9.out.size)⟩
        · skip
          have e1 : ((st.length : Int) != (ns.length : Int)) = false := by simp; omega
          have e2 : ((ins.length : Int) != i) = true := by simp [h2]
          have HE : Hid ((evalV i ns gs os st ins).length = 0) := Lib.hid (by rw [evalV_f (by rw [HA.out]; simp [h2])]; rfl)
          clear h1 h2 HA
          generalize (evalV i ns gs os st ins).length = el at *
          obtain rfl := HE.out
          go_wp2_with (go_at_call 14; refine (alive_any _).mono ?_; rintro e w9 ⟨rfl, hb9⟩)
          go_ret
          exact ⟨rfl, HL6.out.trans (hb9.mono HL6.out.size)⟩
      · skip
        have e1 : ((st.length : Int) != (ns.length : Int)) = true := by simp; omega
        have HE : Hid ((evalV i ns gs os st ins).length = 0) := Lib.hid (by rw [evalV_f (by rw [HA.out]; simp [h1])]; rfl)
        clear h1 HA
        generalize (evalV i ns gs os st ins).length = el at *
        obtain rfl := HE.out
        go_wp2_with (go_at_call 14; refine (alive_any _).mono ?_; rintro e w9 ⟨rfl, hb9⟩)
        go_ret
        exact ⟨rfl, HL6.out.trans (hb9.mono HL6.out.size)⟩
  · go_enter Try.func3, Try.ntmps3
    go_wp2
    go_ret
    exact ⟨rfl, Below.refl _ _⟩
end Go.Proofs.Ytbhkpjcflghgbaa
