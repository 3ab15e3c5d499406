/- The walk of the law FnFindDifference. -/
import Derived.Test.YthpiddpkcmecfaaY14
import Derived.Test.YthpiddpkcmecfaaY2
import Derived.Deep.DeepCutAuto
import Derived.Deep.CutBlock
namespace Go.Proofs.Ythpiddpkcmecfaa
open Go.RowKit Go.Deep
set_option maxRecDepth 100000

theorem step_ln (i : Int) (nA gA oA sA iA : Option Addr) (nc gc oc sl il sc ic : Nat) (ns : List Int) (gs : List (Int × Int)) (os : List Int) (st ins : List Bool) (w : World) (hsl : st.length = sl) (hil : ins.length = il) (hA : assignB i ns gs os sl il = true) (hc : CircAt w w.heap.size nA gA oA ns gs os) (hs : BoolsAt w w.heap.size sA st) (hi : BoolsAt w w.heap.size iA ins) :
    Calls Try.prog 20 #[.agg #[.int .i64 i, .slice nA ns.length nc, .slice gA gs.length gc, .slice oA os.length oc], .slice sA sl sc, .slice iA il ic] w fun e w' => ∃ A1 A2 : Option Addr, e = .returned (.agg #[.slice A1 os.length os.length, .slice A2 ns.length ns.length]) ∧ BoolsAt w' w'.heap.size A1 (Circ.outV gs os st ins) ∧ BoolsAt w' w'.heap.size A2 (Circ.outV gs ns st ins) ∧ Below w.heap.size w w' := by
  subst hsl hil
  have h := step_any i nA gA oA sA iA nc gc oc sc ic ns gs os st ins w hc hs hi
  rw [stepV_t os hA, stepV_t ns hA, Circ.outV_len, Circ.outV_len] at h
  exact h.mono fun _ _ ⟨A1, A2, he, hp, hb⟩ => ⟨A1, A2, he, hp.fst.bools, hp.snd.bools, hb⟩
theorem sameB_ln (A A' : Option Addr) (n n' cap cap' : Nat) (xs ys : List Bool) (v : Bool) (w : World) (hv : (xs == ys) = v) (hn : xs.length = n) (hn' : ys.length = n') (hx : BoolsAt w w.heap.size A xs) (hy : BoolsAt w w.heap.size A' ys) (hl : n ≤ 2000000) (hl' : n' ≤ 2000000) :
    Calls Try.prog 22 #[.slice A n cap, .slice A' n' cap'] w fun e w' => e = .returned (.bool v) ∧ Below w.heap.size w w' := by
  subst hn hn' hv
  exact sameBools_any A A' cap cap' xs ys w hx hy hl hl'
theorem Circ.fdV_le (i : Int) (ns : List Int) (gs : List (Int × Int)) (os : List Int) (i' : Int) (ns' : List Int) (gs' : List (Int × Int)) (os' : List Int) : (Circ.fdV i ns gs os i' ns' gs' os').2.1.length ≤ 1000 ∧ (Circ.fdV i ns gs os i' ns' gs' os').2.2.length ≤ 1000 := by
  unfold Circ.fdV
  split
  · rename_i hs
    obtain ⟨h0, h1, h2, _, _⟩ := Circ.valid_within (Circ.sameIf_inv hs).1
    cases Circ.firstD i.toNat ns.length ns gs os ns' gs' os'
    · simp
    · simp only [Circ.bitsN_len]
      exact ⟨by omega, by omega⟩
  · simp

set_option maxHeartbeats 6000000 in
theorem ffind_walk (A : Option Addr) (bl bc : Nat) (w : World) (hb : CodeAt w A bl) (hbl : bl ≤ bc) (hbc : bc ≤ maxLen) :
    Calls Try.prog 7 #[.slice A bl bc] w fun e w' => e = .returned (.bool true) ∧ Below w.heap.size w w' := by
  have HB := Lib.hid hb
  have HBC := Lib.hid hbc
  unfold maxLen at hbc
  clear hb
  by_cases hsz : 1048576 < bl
  · go_enter Try.func7, Try.ntmps7
    go_wp2
    go_ret
    exact ⟨rfl, Below.refl _ _⟩
  · go_enter Try.func7, Try.ntmps7
    go_wp2_with fail
    refine (drawFind_any A bl bc _ HB.out hbl HBC.out).mono ?_
    rintro e w1 ⟨i, nA, gA, oA, nc, gc, oc, ns, gs, os, i', nA', gA', oA', nc', gc', oc', ns', gs', os', rfl, hC1, hD1, hn, hg, ho, hn', hg', ho', hb1⟩
    have hbB : Below w1.heap.size w1 ((w1.alloc (.cells #[.int .i64 i, .slice nA ns.length nc, .slice gA gs.length gc, .slice oA os.length oc] 26)).alloc (.cells #[.int .i64 i', .slice nA' ns'.length nc', .slice gA' gs'.length gc', .slice oA' os'.length oc'] 26)) := ((Below.refl _ _).alloc (Nat.le_refl _) _).alloc (by simp) _
    have HC2 := Lib.hid ((hC1.below hbB).mono hbB.size)
    have HD2 := Lib.hid ((hD1.below hbB).mono hbB.size)
    have HL2 := Lib.hid (hb1.trans (hbB.mono hb1.size))
    have HR2 := Lib.hid (show Row ((w1.alloc (.cells #[.int .i64 i, .slice nA ns.length nc, .slice gA gs.length gc, .slice oA os.length oc] 26)).alloc (.cells #[.int .i64 i', .slice nA' ns'.length nc', .slice gA' gs'.length gc', .slice oA' os'.length oc'] 26)) w1.heap.size 26 #[.int .i64 i, .slice nA ns.length nc, .slice gA gs.length gc, .slice oA os.length oc] from (Below.heap_alloc _ _ _ (by simp)).trans (heap_alloc_new w1 _))
    have HQ2 : Hid (Row ((w1.alloc (.cells #[.int .i64 i, .slice nA ns.length nc, .slice gA gs.length gc, .slice oA os.length oc] 26)).alloc (.cells #[.int .i64 i', .slice nA' ns'.length nc', .slice gA' gs'.length gc', .slice oA' os'.length oc'] 26)) (w1.heap.size + 1) 26 #[.int .i64 i', .slice nA' ns'.length nc', .slice gA' gs'.length gc', .slice oA' os'.length oc']) := Lib.hid (by
      have := heap_alloc_new (w1.alloc (.cells #[.int .i64 i, .slice nA ns.length nc, .slice gA gs.length gc, .slice oA os.length oc] 26)) (.cells #[.int .i64 i', .slice nA' ns'.length nc', .slice gA' gs'.length gc', .slice oA' os'.length oc'] 26)
      simpa [Row] using this)
    clear hC1 hD1 hb1 hbB HB HBC hbc
    go_upto_region 4 with fail
    generalize ((w1.alloc (.cells #[.int .i64 i, .slice nA ns.length nc, .slice gA gs.length gc, .slice oA os.length oc] 26)).alloc (.cells #[.int .i64 i', .slice nA' ns'.length nc', .slice gA' gs'.length gc', .slice oA' os'.length oc'] 26)) = w2 at *
    generalize w1.heap.size = ca at *
    have q0 := HR2.out.cell 0
    have q1 := HR2.out.cell 1
    have q2 := HR2.out.cell 2
    have q3 := HR2.out.cell 3
    have p0 := HQ2.out.cell 0
    have p1 := HQ2.out.cell 1
    have p2 := HQ2.out.cell 2
    have p3 := HQ2.out.cell 3
    simp at q0 q1 q2 q3 p0 p1 p2 p3
    go_wp2_with fail
    refine (find_any i nA gA oA nc gc oc ns gs os i' nA' gA' oA' nc' gc' oc' ns' gs' os' _ HC2.out HD2.out).mono ?_
    rintro e w3 ⟨A1, A2, rfl, hp3, hb3⟩
    obtain ⟨hf1, hf2⟩ := Circ.fdV_le i ns gs os i' ns' gs' os'
    generalize hfd : Circ.fdV i ns gs os i' ns' gs' os' = fd at *
    have HFD := Lib.hid hfd
    clear hfd
    have HX13 := Lib.hid hp3.fst.bools
    have HX23 := Lib.hid hp3.snd.bools
    clear hp3 q0 q1 q2 q3 p0 p1 p2 p3
    have HC3 := Lib.hid ((HC2.out.below hb3).mono hb3.size)
    have HD3 := Lib.hid ((HD2.out.below hb3).mono hb3.size)
    have HL3 := Lib.hid (HL2.out.trans (hb3.mono HL2.out.size))
    have HR3 := Lib.hid (HR2.out.below hb3 HR2.out.lt)
    have HQ3 := Lib.hid (HQ2.out.below hb3 HQ2.out.lt)
    clear hb3 HC2 HD2 HL2 HR2 HQ2
    have hbA : Below w3.heap.size w3 (w3.alloc (.cells #[.bool fd.1, .slice A1 fd.2.1.length fd.2.1.length, .slice A2 fd.2.2.length fd.2.2.length] 50)) := (Below.refl _ _).alloc (Nat.le_refl _) _
    have HC4 := Lib.hid ((HC3.out.below hbA).mono hbA.size)
    have HD4 := Lib.hid ((HD3.out.below hbA).mono hbA.size)
    have HL4 := Lib.hid (HL3.out.trans (hbA.mono HL3.out.size))
    have HR4 := Lib.hid (HR3.out.below hbA HR3.out.lt)
    have HQ4 := Lib.hid (HQ3.out.below hbA HQ3.out.lt)
    have HX14 := Lib.hid (HX13.out.on hbA)
    have HX24 := Lib.hid (HX23.out.on hbA)
    have HP4 := Lib.hid (show Row (w3.alloc (.cells #[.bool fd.1, .slice A1 fd.2.1.length fd.2.1.length, .slice A2 fd.2.2.length fd.2.2.length] 50)) w3.heap.size 50 #[.bool fd.1, .slice A1 fd.2.1.length fd.2.1.length, .slice A2 fd.2.2.length fd.2.2.length] from heap_alloc_new w3 _)
    clear hbA HC3 HD3 HL3 HR3 HQ3 HX13 HX23
    go_upto_region 5 with fail
    generalize w3.alloc (.cells #[.bool fd.1, .slice A1 fd.2.1.length fd.2.1.length, .slice A2 fd.2.2.length fd.2.2.length] 50) = w4 at *
    generalize w3.heap.size = cd at *
    have q0 := HR4.out.cell 0
    have q1 := HR4.out.cell 1
    have q2 := HR4.out.cell 2
    have q3 := HR4.out.cell 3
    have p0 := HQ4.out.cell 0
    have p1 := HQ4.out.cell 1
    have p2 := HQ4.out.cell 2
    have p3 := HQ4.out.cell 3
    simp at q0 q1 q2 q3 p0 p1 p2 p3
    go_wp2_with fail
    refine (sfind_any i nA gA oA nc gc oc ns gs os i' nA' gA' oA' nc' gc' oc' ns' gs' os' _ HC4.out HD4.out).mono ?_
    rintro e w5 ⟨B1, B2, c1, c2, rfl, hy1, hy2, hb5⟩
    rw [HFD.out] at hy1 hy2
    rw [HFD.out]
    have HY15 := Lib.hid hy1
    have HY25 := Lib.hid hy2
    clear hy1 hy2 q0 q1 q2 q3 p0 p1 p2 p3
    have HC5 := Lib.hid ((HC4.out.below hb5).mono hb5.size)
    have HD5 := Lib.hid ((HD4.out.below hb5).mono hb5.size)
    have HL5 := Lib.hid (HL4.out.trans (hb5.mono HL4.out.size))
    have HR5 := Lib.hid (HR4.out.below hb5 HR4.out.lt)
    have HQ5 := Lib.hid (HQ4.out.below hb5 HQ4.out.lt)
    have HX15 := Lib.hid (HX14.out.on hb5)
    have HX25 := Lib.hid (HX24.out.on hb5)
    have HP5 := Lib.hid (HP4.out.below hb5 HP4.out.lt)
    clear hb5 HC4 HD4 HL4 HR4 HQ4 HX14 HX24 HP4
    have hbA : Below w5.heap.size w5 (w5.alloc (.cells #[.bool fd.1, .slice B1 fd.2.1.length c1, .slice B2 fd.2.2.length c2] 50)) := (Below.refl _ _).alloc (Nat.le_refl _) _
    have HC6 := Lib.hid ((HC5.out.below hbA).mono hbA.size)
    have HD6 := Lib.hid ((HD5.out.below hbA).mono hbA.size)
    have HL6 := Lib.hid (HL5.out.trans (hbA.mono HL5.out.size))
    have HR6 := Lib.hid (HR5.out.below hbA HR5.out.lt)
    have HQ6 := Lib.hid (HQ5.out.below hbA HQ5.out.lt)
    have HX16 := Lib.hid (HX15.out.on hbA)
    have HX26 := Lib.hid (HX25.out.on hbA)
    have HP6 := Lib.hid (HP5.out.below hbA HP5.out.lt)
    have HY16 := Lib.hid (HY15.out.on hbA)
    have HY26 := Lib.hid (HY25.out.on hbA)
    have HW6 := Lib.hid (show Row (w5.alloc (.cells #[.bool fd.1, .slice B1 fd.2.1.length c1, .slice B2 fd.2.2.length c2] 50)) w5.heap.size 50 #[.bool fd.1, .slice B1 fd.2.1.length c1, .slice B2 fd.2.2.length c2] from heap_alloc_new w5 _)
    clear hbA HC5 HD5 HL5 HR5 HQ5 HX15 HX25 HP5 HY15 HY25
    go_upto_region 6 with fail
    generalize w5.alloc (.cells #[.bool fd.1, .slice B1 fd.2.1.length c1, .slice B2 fd.2.2.length c2] 50) = w6 at *
    generalize w5.heap.size = cw at *
    have hff : (fd.1 != fd.1) = false := by simp
    have v0 := HP6.out.cell 0
    have v1 := HP6.out.cell 1
    have u0 := HW6.out.cell 0
    have u1 := HW6.out.cell 1
    simp at v0 v1 u0 u1
    go_wp2_with fail
    refine (sameB_ln A1 B1 _ _ _ _ fd.2.1 fd.2.1 true _ (by simp) rfl rfl HX16.out HY16.out (by omega) (by omega)).mono ?_
    rintro e w7 ⟨rfl, hb7⟩
    clear v0 v1 u0 u1
    have HC7 := Lib.hid ((HC6.out.below hb7).mono hb7.size)
    have HD7 := Lib.hid ((HD6.out.below hb7).mono hb7.size)
    have HL7 := Lib.hid (HL6.out.trans (hb7.mono HL6.out.size))
    have HR7 := Lib.hid (HR6.out.below hb7 HR6.out.lt)
    have HQ7 := Lib.hid (HQ6.out.below hb7 HQ6.out.lt)
    have HX17 := Lib.hid (HX16.out.on hb7)
    have HX27 := Lib.hid (HX26.out.on hb7)
    have HP7 := Lib.hid (HP6.out.below hb7 HP6.out.lt)
    have HY17 := Lib.hid (HY16.out.on hb7)
    have HY27 := Lib.hid (HY26.out.on hb7)
    have HW7 := Lib.hid (HW6.out.below hb7 HW6.out.lt)
    clear hb7 HC6 HD6 HL6 HR6 HQ6 HX16 HX26 HP6 HY16 HY26 HW6
    have v2 := HP7.out.cell 2
    have u2 := HW7.out.cell 2
    simp at v2 u2
    go_wp2_with fail
    refine (sameB_ln A2 B2 _ _ _ _ fd.2.2 fd.2.2 true _ (by simp) rfl rfl HX27.out HY27.out (by omega) (by omega)).mono ?_
    rintro e w8 ⟨rfl, hb8⟩
    clear v2 u2 HW7 HY17 HY27
    have HC8 := Lib.hid ((HC7.out.below hb8).mono hb8.size)
    have HD8 := Lib.hid ((HD7.out.below hb8).mono hb8.size)
    have HL8 := Lib.hid (HL7.out.trans (hb8.mono HL7.out.size))
    have HR8 := Lib.hid (HR7.out.below hb8 HR7.out.lt)
    have HQ8 := Lib.hid (HQ7.out.below hb8 HQ7.out.lt)
    have HX18 := Lib.hid (HX17.out.on hb8)
    have HX28 := Lib.hid (HX27.out.on hb8)
    have HP8 := Lib.hid (HP7.out.below hb8 HP7.out.lt)
    clear hb8 HC7 HD7 HL7 HR7 HQ7 HX17 HX27 HP7
    have q0 := HR8.out.cell 0
    have q1 := HR8.out.cell 1
    have q2 := HR8.out.cell 2
    have q3 := HR8.out.cell 3
    have p0 := HQ8.out.cell 0
    have p1 := HQ8.out.cell 1
    have p2 := HQ8.out.cell 2
    have p3 := HQ8.out.cell 3
    simp at q0 q1 q2 q3 p0 p1 p2 p3
    go_wp2_with fail
    refine (ssameIf_any i nA gA oA nc gc oc ns gs os i' nA' gA' oA' nc' gc' oc' ns' gs' os' _ HC8.out HD8.out).mono ?_
    rintro e w9 ⟨rfl, hb9⟩
    clear q0 q1 q2 q3 p0 p1 p2 p3
    have HC9 := Lib.hid ((HC8.out.below hb9).mono hb9.size)
    have HD9 := Lib.hid ((HD8.out.below hb9).mono hb9.size)
    have HL9 := Lib.hid (HL8.out.trans (hb9.mono HL8.out.size))
    have HR9 := Lib.hid (HR8.out.below hb9 HR8.out.lt)
    have HQ9 := Lib.hid (HQ8.out.below hb9 HQ8.out.lt)
    have HX19 := Lib.hid (HX18.out.on hb9)
    have HX29 := Lib.hid (HX28.out.on hb9)
    have HP9 := Lib.hid (HP8.out.below hb9 HP8.out.lt)
    clear hb9 HC8 HD8 HL8 HR8 HQ8 HX18 HX28 HP8
    cases hs : Circ.sameIf i ns gs os i' ns' gs' os'
    · have hfd0 : fd = (false, [], []) := by rw [← HFD.out]; exact Circ.fdV_f hs
      subst hfd0
      have v0 := HP9.out.cell 0
      simp at v0
      clear hs
      go_wp2_with (go_at_call 27; refine (alive_any _).mono ?_; rintro e w10 ⟨rfl, hb10⟩)
      go_ret
      exact ⟨rfl, HL9.out.trans (hb10.mono HL9.out.size)⟩
    · obtain ⟨hv, hv', hie, hne, hoe⟩ := Circ.sameIf_inv hs
      have HSI := Lib.hid hs
      have HV := Lib.hid hv
      have HV' := Lib.hid hv'
      obtain ⟨hi0, hi4, hn3, hg14, ho3⟩ := Circ.valid_within hv
      obtain ⟨_, _, hn3', hg14', ho3'⟩ := Circ.valid_within hv'
      subst hie
      obtain ⟨m, rfl⟩ := Int.eq_ofNat_of_zero_le hi0
      have hm4 : m ≤ 4 := by omega
      have HNE := Lib.hid hne
      have HOE := Lib.hid hoe
      clear hs hv hv' hne hoe hi0 hi4
      obtain ⟨N, HNN, hN, hN1⟩ : ∃ N : Nat, Hid (N = 2 ^ (m + ns.length)) ∧ wrap64 (2 ^ (m + ns.length)) = (N : Int) ∧ N ≤ 128 := by
        have h128 : 2 ^ (m + ns.length) ≤ 2 ^ 7 := Nat.pow_le_pow_right (by decide) (by omega)
        have e : ((2 : Int) ^ (m + ns.length)) = ((2 ^ (m + ns.length) : Nat) : Int) := by simp
        refine ⟨2 ^ (m + ns.length), Lib.hid rfl, ?_, by simpa using h128⟩
        rw [e]
        have key : ∀ N : Nat, N ≤ 128 → wrap64 (N : Int) = N := fun N h => IntWalk.wrap64_in _ (by omega)
        exact key _ (by simpa using h128)
      obtain ⟨d, hd⟩ : ∃ d, Circ.differB m ns.length ns gs os ns' gs' os' = d := ⟨_, rfl⟩
      have HDIF := Lib.hid hd
      clear hd
      have HHN := Lib.hid hN
      clear hN
      go_wp2
      have hN := HHN.out
      go_loopw [7] (fun kv wr => ∃ (k : Nat), k ≤ N ∧ kv = .int .i64 k ∧ Hid (∀ y, y < k → d y = false) ∧ Hid (Below w9.heap.size w9 wr)) (fun kv _ => ((N : Int) - intOf kv).toNat)
      case atStart => exact ⟨0, Nat.zero_le _, rfl, Lib.hid (fun y hy => absurd hy (by simp)), Lib.hid (Below.refl _ _)⟩
      case round =>
        obtain ⟨k, hk, rfl, HNO, HB⟩ := hrel
        have hBB := HB.out
        have HCr := Lib.hid ((HC9.out.below hBB).mono hBB.size)
        have HDr := Lib.hid ((HD9.out.below hBB).mono hBB.size)
        have HLr := Lib.hid (HL9.out.trans (hBB.mono HL9.out.size))
        have HRr := Lib.hid (HR9.out.below hBB HR9.out.lt)
        have HQr := Lib.hid (HQ9.out.below hBB HQ9.out.lt)
        have HPr := Lib.hid (HP9.out.below hBB HP9.out.lt)
        have HX1r := Lib.hid (HX19.out.on hBB)
        have HX2r := Lib.hid (HX29.out.on hBB)
        clear hBB
        have q0 := HRr.out.cell 0
        have q1 := HRr.out.cell 1
        simp at q0 q1
        by_cases hlt : k < N
        · obtain ⟨kd, hkd, hkd1, HKD⟩ : ∃ kd : Nat, (k : Int) / 2 ^ m = (kd : Int) ∧ kd ≤ k ∧ Hid (k / 2 ^ m = kd) := ⟨k / 2 ^ m, shr_nat k m, Nat.div_le_self _ _, Lib.hid rfl⟩
          have hkd0 : (0 : Int) ≤ (k : Int) / 2 ^ m := by omega
          go_wp2_with fail
          clear hN hff
          refine (bits_any k m _ (by omega) (by omega)).mono ?_
          rintro e wA ⟨b1, d1, rfl, hg1, hB1, hbA⟩
          have HIA := Lib.hid hB1
          have HBA := Lib.hid (HB.out.trans (hbA.mono HB.out.size))
          clear hB1 q0 q1
          have HCA := Lib.hid ((HCr.out.below hbA).mono hbA.size)
          have HDA := Lib.hid ((HDr.out.below hbA).mono hbA.size)
          have HLA := Lib.hid (HLr.out.trans (hbA.mono HLr.out.size))
          have HRA := Lib.hid (HRr.out.below hbA HRr.out.lt)
          have HQA := Lib.hid (HQr.out.below hbA HQr.out.lt)
          have HX1A := Lib.hid (HX1r.out.on hbA)
          have HX2A := Lib.hid (HX2r.out.on hbA)
          have HPA := Lib.hid (HPr.out.below hbA HPr.out.lt)
          clear hbA HCr HDr HLr HRr HQr HX1r HX2r HPr
          go_upto_region 14 with fail
          have q0 := HRA.out.cell 0
          have q1 := HRA.out.cell 1
          simp at q0 q1
          have hz2 := HRA.out.lt
          go_region_held3 (fun w' => w'.cell? ⟨ca, 0, none⟩ = some (.int .i64 (m : Int)) ∧ w'.cell? ⟨ca, 1, none⟩ = some (.slice nA ns.length nc))
            (first | go_keep | (have _t := hb3; refine ⟨?_, ?_⟩; (exact (hc3 _ _ (by simp; omega)).trans q0); (exact (hc3 _ _ (by simp; omega)).trans q1)))
            (first
              | (go_at_call 21; refine (bits_any kd ns.length _ (by omega) (by omega)).mono ?_; rintro e wB ⟨b2, d2, rfl, hg2, hB3, hb3⟩; obtain ⟨hc3, hf3⟩ := bcell hb3))
          have hbd : Below wA.heap.size wA wB := (Below.refl _ wA).drew.trans hb3
          have HIB := Lib.hid (HIA.out.on hbd)
          have HTB := Lib.hid hB3
          have HBB := Lib.hid (HBA.out.trans (hbd.mono HBA.out.size))
          have HA1 : Hid (assignB (m : Int) ns gs os ns.length m = true) := Lib.hid (by unfold assignB; rw [HV.out]; simp)
          have HA2 : Hid (assignB (m : Int) ns' gs' os' ns.length m = true) := Lib.hid (by unfold assignB; rw [HV'.out, HNE.out]; simp)
          have HSL : Hid ((Circ.bitsN kd ns.length).length = ns.length) := Lib.hid (Circ.bitsN_len _ _)
          have HIL : Hid ((Circ.bitsN k m).length = m) := Lib.hid (Circ.bitsN_len _ _)
          clear hb3 hc3 hf3 hB3 q0 q1 HIA HBA
          have HCB := Lib.hid ((HCA.out.below hbd).mono hbd.size)
          have HDB := Lib.hid ((HDA.out.below hbd).mono hbd.size)
          have HLB := Lib.hid (HLA.out.trans (hbd.mono HLA.out.size))
          have HRB := Lib.hid (HRA.out.below hbd HRA.out.lt)
          have HQB := Lib.hid (HQA.out.below hbd HQA.out.lt)
          have HX1B := Lib.hid (HX1A.out.on hbd)
          have HX2B := Lib.hid (HX2A.out.on hbd)
          have HPB := Lib.hid (HPA.out.below hbd HPA.out.lt)
          clear hbd HCA HDA HLA HRA HQA HX1A HX2A HPA
          have q0 := HRB.out.cell 0
          have q1 := HRB.out.cell 1
          have q2 := HRB.out.cell 2
          have q3 := HRB.out.cell 3
          simp at q0 q1 q2 q3
          go_upto_region 15 with fail
          go_wp2_with fail
          refine (step_ln (m : Int) nA gA oA (some ⟨b2, 0, none⟩) (some ⟨b1, 0, none⟩) nc gc oc ns.length m d2 d1 ns gs os (Circ.bitsN kd ns.length) (Circ.bitsN k m) _ HSL.out HIL.out HA1.out HCB.out HTB.out HIB.out).mono ?_
          rintro e wC ⟨y1, y2, rfl, hx1, hx2, hbC⟩
          have HOC := Lib.hid hx1
          have HNC := Lib.hid hx2
          have HIC := Lib.hid (HIB.out.on hbC)
          have HTC := Lib.hid (HTB.out.on hbC)
          have HBC := Lib.hid (HBB.out.trans (hbC.mono HBB.out.size))
          clear hx1 hx2 HIB HTB HBB q0 q1 q2 q3
          have HCC := Lib.hid ((HCB.out.below hbC).mono hbC.size)
          have HDC := Lib.hid ((HDB.out.below hbC).mono hbC.size)
          have HLC := Lib.hid (HLB.out.trans (hbC.mono HLB.out.size))
          have HRC := Lib.hid (HRB.out.below hbC HRB.out.lt)
          have HQC := Lib.hid (HQB.out.below hbC HQB.out.lt)
          have HX1C := Lib.hid (HX1B.out.on hbC)
          have HX2C := Lib.hid (HX2B.out.on hbC)
          have HPC := Lib.hid (HPB.out.below hbC HPB.out.lt)
          clear hbC HCB HDB HLB HRB HQB HX1B HX2B HPB
          have hbA : Below wC.heap.size wC (wC.alloc (.cells #[.slice y1 os.length os.length, .slice y2 ns.length ns.length] 35)) := (Below.refl _ _).alloc (Nat.le_refl _) _
          have HCD := Lib.hid ((HCC.out.below hbA).mono hbA.size)
          have HDD := Lib.hid ((HDC.out.below hbA).mono hbA.size)
          have HLD := Lib.hid (HLC.out.trans (hbA.mono HLC.out.size))
          have HRD := Lib.hid (HRC.out.below hbA HRC.out.lt)
          have HQD := Lib.hid (HQC.out.below hbA HQC.out.lt)
          have HX1D := Lib.hid (HX1C.out.on hbA)
          have HX2D := Lib.hid (HX2C.out.on hbA)
          have HPD := Lib.hid (HPC.out.below hbA HPC.out.lt)
          have HOD := Lib.hid (HOC.out.on hbA)
          have HND := Lib.hid (HNC.out.on hbA)
          have HID := Lib.hid (HIC.out.on hbA)
          have HTD := Lib.hid (HTC.out.on hbA)
          have HBD := Lib.hid (HBC.out.trans (hbA.mono HBC.out.size))
          have HED := Lib.hid (show Row (wC.alloc (.cells #[.slice y1 os.length os.length, .slice y2 ns.length ns.length] 35)) wC.heap.size 35 #[.slice y1 os.length os.length, .slice y2 ns.length ns.length] from heap_alloc_new wC _)
          clear hbA HCC HDC HLC HRC HQC HX1C HX2C HPC HOC HNC HIC HTC HBC
          go_upto_region 16 with fail
          generalize wC.alloc (.cells #[.slice y1 os.length os.length, .slice y2 ns.length ns.length] 35) = wD at *
          generalize wC.heap.size = e1 at *
          have p0 := HQD.out.cell 0
          have p1 := HQD.out.cell 1
          have p2 := HQD.out.cell 2
          have p3 := HQD.out.cell 3
          simp at p0 p1 p2 p3
          go_wp2_with fail
          refine (step_ln (m : Int) nA' gA' oA' (some ⟨b2, 0, none⟩) (some ⟨b1, 0, none⟩) nc' gc' oc' ns.length m d2 d1 ns' gs' os' (Circ.bitsN kd ns.length) (Circ.bitsN k m) _ HSL.out HIL.out HA2.out HDD.out HTD.out HID.out).mono ?_
          rintro e wE ⟨v1, v2, rfl, hx1, hx2, hbE⟩
          have HGE := Lib.hid hx1
          have HHE := Lib.hid hx2
          clear hx1 hx2 p0 p1 p2 p3
          have HCE := Lib.hid ((HCD.out.below hbE).mono hbE.size)
          have HDE := Lib.hid ((HDD.out.below hbE).mono hbE.size)
          have HLE := Lib.hid (HLD.out.trans (hbE.mono HLD.out.size))
          have HRE := Lib.hid (HRD.out.below hbE HRD.out.lt)
          have HQE := Lib.hid (HQD.out.below hbE HQD.out.lt)
          have HX1E := Lib.hid (HX1D.out.on hbE)
          have HX2E := Lib.hid (HX2D.out.on hbE)
          have HPE := Lib.hid (HPD.out.below hbE HPD.out.lt)
          have HOE := Lib.hid (HOD.out.on hbE)
          have HNE := Lib.hid (HND.out.on hbE)
          have HIE := Lib.hid (HID.out.on hbE)
          have HTE := Lib.hid (HTD.out.on hbE)
          have HBE := Lib.hid (HBD.out.trans (hbE.mono HBD.out.size))
          have HEE := Lib.hid (HED.out.below hbE HED.out.lt)
          clear hbE HCD HDD HLD HRD HQD HX1D HX2D HPD HOD HND HID HTD HBD HED
          have hbA : Below wE.heap.size wE (wE.alloc (.cells #[.slice v1 os'.length os'.length, .slice v2 ns'.length ns'.length] 35)) := (Below.refl _ _).alloc (Nat.le_refl _) _
          have HCF := Lib.hid ((HCE.out.below hbA).mono hbA.size)
          have HDF := Lib.hid ((HDE.out.below hbA).mono hbA.size)
          have HLF := Lib.hid (HLE.out.trans (hbA.mono HLE.out.size))
          have HRF := Lib.hid (HRE.out.below hbA HRE.out.lt)
          have HQF := Lib.hid (HQE.out.below hbA HQE.out.lt)
          have HX1F := Lib.hid (HX1E.out.on hbA)
          have HX2F := Lib.hid (HX2E.out.on hbA)
          have HPF := Lib.hid (HPE.out.below hbA HPE.out.lt)
          have HOF := Lib.hid (HOE.out.on hbA)
          have HNF := Lib.hid (HNE.out.on hbA)
          have HIF := Lib.hid (HIE.out.on hbA)
          have HTF := Lib.hid (HTE.out.on hbA)
          have HBF := Lib.hid (HBE.out.trans (hbA.mono HBE.out.size))
          have HEF := Lib.hid (HEE.out.below hbA HEE.out.lt)
          have HGF := Lib.hid (HGE.out.on hbA)
          have HHF := Lib.hid (HHE.out.on hbA)
          have HMF := Lib.hid (show Row (wE.alloc (.cells #[.slice v1 os'.length os'.length, .slice v2 ns'.length ns'.length] 35)) wE.heap.size 35 #[.slice v1 os'.length os'.length, .slice v2 ns'.length ns'.length] from heap_alloc_new wE _)
          clear hbA HCE HDE HLE HRE HQE HX1E HX2E HPE HOE HNE HIE HTE HBE HEE HGE HHE
          go_upto_region 17 with fail
          generalize wE.alloc (.cells #[.slice v1 os'.length os'.length, .slice v2 ns'.length ns'.length] 35) = wF at *
          generalize wE.heap.size = e2 at *
          obtain ⟨T1, hT1⟩ : ∃ T1, ((Circ.outV gs os (Circ.bitsN kd ns.length) (Circ.bitsN k m)) == (Circ.outV gs' os' (Circ.bitsN kd ns.length) (Circ.bitsN k m))) = T1 := ⟨_, rfl⟩
          obtain ⟨T2, hT2⟩ : ∃ T2, ((Circ.outV gs ns (Circ.bitsN kd ns.length) (Circ.bitsN k m)) == (Circ.outV gs' ns' (Circ.bitsN kd ns.length) (Circ.bitsN k m))) = T2 := ⟨_, rfl⟩
          have HDK : Hid (d k = !(T1 && T2)) := Lib.hid (by rw [← HDIF.out, ← hT1, ← hT2, ← HKD.out]; rfl)
          have HT1 := Lib.hid hT1
          have HT2 := Lib.hid hT2
          clear hT1 hT2
          have s0 := HEF.out.cell 0
          have r0 := HMF.out.cell 0
          simp at s0 r0
          go_wp2_with fail
          refine (sameB_ln y1 v1 os.length os'.length _ _ (Circ.outV gs os (Circ.bitsN kd ns.length) (Circ.bitsN k m)) (Circ.outV gs' os' (Circ.bitsN kd ns.length) (Circ.bitsN k m)) T1 _ HT1.out (Circ.outV_len _ _ _ _) (Circ.outV_len _ _ _ _) HOF.out HGF.out (by omega) (by omega)).mono ?_
          rintro e wG ⟨rfl, hbG⟩
          clear s0 r0
          have HCG := Lib.hid ((HCF.out.below hbG).mono hbG.size)
          have HDG := Lib.hid ((HDF.out.below hbG).mono hbG.size)
          have HLG := Lib.hid (HLF.out.trans (hbG.mono HLF.out.size))
          have HRG := Lib.hid (HRF.out.below hbG HRF.out.lt)
          have HQG := Lib.hid (HQF.out.below hbG HQF.out.lt)
          have HX1G := Lib.hid (HX1F.out.on hbG)
          have HX2G := Lib.hid (HX2F.out.on hbG)
          have HPG := Lib.hid (HPF.out.below hbG HPF.out.lt)
          have HOG := Lib.hid (HOF.out.on hbG)
          have HNG := Lib.hid (HNF.out.on hbG)
          have HIG := Lib.hid (HIF.out.on hbG)
          have HTG := Lib.hid (HTF.out.on hbG)
          have HBG := Lib.hid (HBF.out.trans (hbG.mono HBF.out.size))
          have HEG := Lib.hid (HEF.out.below hbG HEF.out.lt)
          have HGG := Lib.hid (HGF.out.on hbG)
          have HHG := Lib.hid (HHF.out.on hbG)
          have HMG := Lib.hid (HMF.out.below hbG HMF.out.lt)
          clear hbG HCF HDF HLF HRF HQF HX1F HX2F HPF HOF HNF HIF HTF HBF HEF HGF HHF HMF
          have HLT := Lib.hid hlt
          cases T1
          · have hdk : d k = true := by rw [HDK.out]; rfl
            have hF : fd = (true, Circ.bitsN kd ns.length, Circ.bitsN k m) := by
              rw [← HFD.out]
              have h := Circ.fdV_some (x := k) HSI.out (by rw [Int.toNat_natCast, ← HNN.out]; exact HLT.out) (fun y hy => by rw [Int.toNat_natCast, HDIF.out]; exact HNO.out y hy) (by rw [Int.toNat_natCast, HDIF.out]; exact hdk)
              rwa [Int.toNat_natCast, HKD.out] at h
            have HF1 : Hid (fd.1 = true) := Lib.hid (by rw [hF])
            have HF2 : Hid (fd.2.1 = Circ.bitsN kd ns.length) := Lib.hid (by rw [hF])
            have HF3 : Hid (fd.2.2 = Circ.bitsN k m) := Lib.hid (by rw [hF])
            clear hF hdk
            have v0 := HPG.out.cell 0
            have v2 := HPG.out.cell 2
            simp at v0 v2
            rw [HF1.out] at v0
            go_wp2_with fail
            refine (sameB_ln A2 (some ⟨b1, 0, none⟩) _ m _ _ fd.2.2 (Circ.bitsN k m) true _ (by rw [HF3.out]; simp) rfl (Circ.bitsN_len _ _) HX2G.out HIG.out (by omega) (by omega)).mono ?_
            rintro e wG1 ⟨rfl, hbG1⟩
            clear v0 v2
            have HLG1 := Lib.hid (HLG.out.trans (hbG1.mono HLG.out.size))
            have HPG1 := Lib.hid (HPG.out.below hbG1 HPG.out.lt)
            have HX1G1 := Lib.hid (HX1G.out.on hbG1)
            have HTG1 := Lib.hid (HTG.out.on hbG1)
            clear hbG1 HLG HPG HX1G HTG
            have v1 := HPG1.out.cell 1
            simp at v1
            go_wp2_with fail
            refine (sameB_ln A1 (some ⟨b2, 0, none⟩) _ ns.length _ _ fd.2.1 (Circ.bitsN kd ns.length) true _ (by rw [HF2.out]; simp) rfl (Circ.bitsN_len _ _) HX1G1.out HTG1.out (by omega) (by omega)).mono ?_
            rintro e wG2 ⟨rfl, hbG2⟩
            clear v1
            go_wp2
            go_ret
            exact ⟨rfl, HLG1.out.trans (hbG2.mono HLG1.out.size)⟩
          · have s1 := HEG.out.cell 1
            have r1 := HMG.out.cell 1
            simp at s1 r1
            go_wp2_with fail
            refine (sameB_ln y2 v2 ns.length ns'.length _ _ (Circ.outV gs ns (Circ.bitsN kd ns.length) (Circ.bitsN k m)) (Circ.outV gs' ns' (Circ.bitsN kd ns.length) (Circ.bitsN k m)) T2 _ HT2.out (Circ.outV_len _ _ _ _) (Circ.outV_len _ _ _ _) HNG.out HHG.out (by omega) (by omega)).mono ?_
            rintro e wH ⟨rfl, hbH⟩
            clear s1 r1
            have HCH := Lib.hid ((HCG.out.below hbH).mono hbH.size)
            have HDH := Lib.hid ((HDG.out.below hbH).mono hbH.size)
            have HLH := Lib.hid (HLG.out.trans (hbH.mono HLG.out.size))
            have HRH := Lib.hid (HRG.out.below hbH HRG.out.lt)
            have HQH := Lib.hid (HQG.out.below hbH HQG.out.lt)
            have HX1H := Lib.hid (HX1G.out.on hbH)
            have HX2H := Lib.hid (HX2G.out.on hbH)
            have HPH := Lib.hid (HPG.out.below hbH HPG.out.lt)
            have HIH := Lib.hid (HIG.out.on hbH)
            have HTH := Lib.hid (HTG.out.on hbH)
            have HBH := Lib.hid (HBG.out.trans (hbH.mono HBG.out.size))
            clear hbH HCG HDG HLG HRG HQG HX1G HX2G HPG HIG HTG HBG
            cases T2
            · have hdk : d k = true := by rw [HDK.out]; rfl
              have hF : fd = (true, Circ.bitsN kd ns.length, Circ.bitsN k m) := by
                rw [← HFD.out]
                have h := Circ.fdV_some (x := k) HSI.out (by rw [Int.toNat_natCast, ← HNN.out]; exact HLT.out) (fun y hy => by rw [Int.toNat_natCast, HDIF.out]; exact HNO.out y hy) (by rw [Int.toNat_natCast, HDIF.out]; exact hdk)
                rwa [Int.toNat_natCast, HKD.out] at h
              have HF1 : Hid (fd.1 = true) := Lib.hid (by rw [hF])
              have HF2 : Hid (fd.2.1 = Circ.bitsN kd ns.length) := Lib.hid (by rw [hF])
              have HF3 : Hid (fd.2.2 = Circ.bitsN k m) := Lib.hid (by rw [hF])
              clear hF hdk
              have v0 := HPH.out.cell 0
              have v2 := HPH.out.cell 2
              simp at v0 v2
              rw [HF1.out] at v0
              go_wp2_with fail
              refine (sameB_ln A2 (some ⟨b1, 0, none⟩) _ m _ _ fd.2.2 (Circ.bitsN k m) true _ (by rw [HF3.out]; simp) rfl (Circ.bitsN_len _ _) HX2H.out HIH.out (by omega) (by omega)).mono ?_
              rintro e wH1 ⟨rfl, hbH1⟩
              clear v0 v2
              have HLH1 := Lib.hid (HLH.out.trans (hbH1.mono HLH.out.size))
              have HPH1 := Lib.hid (HPH.out.below hbH1 HPH.out.lt)
              have HX1H1 := Lib.hid (HX1H.out.on hbH1)
              have HTH1 := Lib.hid (HTH.out.on hbH1)
              clear hbH1 HLH HPH HX1H HTH
              have v1 := HPH1.out.cell 1
              simp at v1
              go_wp2_with fail
              refine (sameB_ln A1 (some ⟨b2, 0, none⟩) _ ns.length _ _ fd.2.1 (Circ.bitsN kd ns.length) true _ (by rw [HF2.out]; simp) rfl (Circ.bitsN_len _ _) HX1H1.out HTH1.out (by omega) (by omega)).mono ?_
              rintro e wH2 ⟨rfl, hbH2⟩
              clear v1
              go_wp2
              go_ret
              exact ⟨rfl, HLH1.out.trans (hbH2.mono HLH1.out.size)⟩
            · have HDF0 : Hid (d k = false) := Lib.hid (by rw [HDK.out]; rfl)
              have hlt := HLT.out
              go_wp2
              go_roundw
              case rel => exact ⟨k + 1, by omega, by go_num, Lib.hid (fun y hy => by
                by_cases e : y = k
                · rw [e]; exact HDF0.out
                · exact HNO.out y (by omega)), HBH⟩
              case measure => simp [intOf]; omega
        · obtain rfl : N = k := by clear hN hff; omega
          have hfd0 : fd = (false, [], []) := by
            rw [← HFD.out]
            exact Circ.fdV_none (fun y hy => by
              rw [Int.toNat_natCast, HDIF.out]
              rw [Int.toNat_natCast, ← HNN.out] at hy
              exact HNO.out y hy)
          subst hfd0
          have v0 := HPr.out.cell 0
          simp at v0
          go_wp2
          go_ret
          exact ⟨rfl, HLr.out⟩
end Go.Proofs.Ythpiddpkcmecfaa
