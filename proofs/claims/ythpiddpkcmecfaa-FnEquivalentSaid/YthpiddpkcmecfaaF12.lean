/- The walk of the law FnEquivalent. -/
import Derived.Test.YthpiddpkcmecfaaY14
import Derived.Deep.DeepCutAuto
import Derived.Deep.CutBlock
namespace Go.Proofs.Ythpiddpkcmecfaa
open Go.RowKit Go.Deep
set_option maxRecDepth 100000

/-- The optimized circuit of a valid circuit, with the lengths of the original. -/
theorem opt_val (i : Int) (nA gA oA : Option Addr) (nc gc oc : Nat) (ns : List Int) (gs : List (Int × Int)) (os : List Int) (zn : List Int) (zg : List (Int × Int)) (zo : List Int) (w : World) (hv : Circ.validB i ns gs os = true) (h1 : Opt.optN i ns gs os = zn) (h2 : Opt.optG i ns gs os = zg) (h3 : Opt.optO i ns gs os = zo) (hc : CircAt w w.heap.size nA gA oA ns gs os) :
    Calls Try.prog 15 #[.agg #[.int .i64 i, .slice nA ns.length nc, .slice gA gs.length gc, .slice oA os.length oc]] w fun e w' => ∃ (xN xG xO : Option Addr) (xn xg xo : Nat), e = .returned (.agg #[.int .i64 i, .slice xN ns.length xn, .slice xG zg.length xg, .slice xO os.length xo]) ∧ CircAt w' w'.heap.size xN xG xO zn zg zo ∧ Below w.heap.size w w' := by
  subst h1 h2 h3
  refine (impl_opt_any i nA gA oA nc gc oc ns gs os w hc).mono fun e w' h => ?_
  obtain ⟨a, b, c, d⟩ := Circ.z_t hv
  obtain ⟨xN, xG, xO, xn, xg, xo, he, hC, hb⟩ := h
  rw [a, b, c, d, Opt.optN_len hv, Opt.optO_len hv] at he
  rw [b, c, d] at hC
  exact ⟨xN, xG, xO, xn, xg, xo, he, hC, hb⟩
theorem equiv_ln (i : Int) (nA gA oA : Option Addr) (nl ol nc gc oc : Nat) (ns : List Int) (gs : List (Int × Int)) (os : List Int) (i' : Int) (nA' gA' oA' : Option Addr) (nl' ol' nc' gc' oc' : Nat) (ns' : List Int) (gs' : List (Int × Int)) (os' : List Int) (v : Bool) (w : World) (hn : ns.length = nl) (ho : os.length = ol) (hn' : ns'.length = nl') (ho' : os'.length = ol') (hv : Circ.equivB i ns gs os i' ns' gs' os' = v) (hc : CircAt w w.heap.size nA gA oA ns gs os) (hd : CircAt w w.heap.size nA' gA' oA' ns' gs' os') :
    Calls Try.prog 35 #[.agg #[.int .i64 i, .slice nA nl nc, .slice gA gs.length gc, .slice oA ol oc], .agg #[.int .i64 i', .slice nA' nl' nc', .slice gA' gs'.length gc', .slice oA' ol' oc']] w fun e w' => e = .returned (.bool v) ∧ Below w.heap.size w w' := by
  subst hn ho hn' ho' hv
  exact equiv_any i nA gA oA nc gc oc ns gs os i' nA' gA' oA' nc' gc' oc' ns' gs' os' w hc hd
theorem svalid_val (i : Int) (nA gA oA : Option Addr) (nc gc oc : Nat) (ns : List Int) (gs : List (Int × Int)) (os : List Int) (v : Bool) (w : World) (hv : Circ.validB i ns gs os = v) (hc : CircAt w w.heap.size nA gA oA ns gs os) :
    Calls Try.prog 26 #[.agg #[.int .i64 i, .slice nA ns.length nc, .slice gA gs.length gc, .slice oA os.length oc]] w fun e w' => e = .returned (.bool v) ∧ Below w.heap.size w w' := by
  subst hv
  exact svalid_any i nA gA oA nc gc oc ns gs os w hc

set_option maxHeartbeats 4000000 in
theorem fequiv_walk (A : Option Addr) (bl bc : Nat) (w : World) (hb : CodeAt w A bl) (hbl : bl ≤ bc) (hbc : bc ≤ maxLen) :
    Calls Try.prog 8 #[.slice A bl bc] w fun e w' => e = .returned (.bool true) ∧ Below w.heap.size w w' := by
  have HB := Lib.hid hb
  have HBC := Lib.hid hbc
  unfold maxLen at hbc
  clear hb
  by_cases hsz : 1048576 < bl
  · go_enter Try.func8, Try.ntmps8
    go_wp2
    go_ret
    exact ⟨rfl, Below.refl _ _⟩
  · go_enter Try.func8, Try.ntmps8
    go_wp2_with fail
    refine (drawEquiv_any A bl bc _ HB.out hbl HBC.out).mono ?_
    rintro e w1 ⟨i, nA, gA, oA, nc, gc, oc, ns, gs, os, i', nA', gA', oA', nc', gc', oc', ns', gs', os', rfl, hC1, hD1, hn, hg, ho, hn', hg', ho', hb1⟩
    have hbB : Below w1.heap.size w1 ((w1.alloc (.cells #[.int .i64 i, .slice nA ns.length nc, .slice gA gs.length gc, .slice oA os.length oc] 26)).alloc (.cells #[.int .i64 i', .slice nA' ns'.length nc', .slice gA' gs'.length gc', .slice oA' os'.length oc'] 26)) := ((Below.refl _ _).alloc (Nat.le_refl _) _).alloc (by simp) _
    have HC2 := Lib.hid ((hC1.below hbB).mono hbB.size)
    have HD2 := Lib.hid ((hD1.below hbB).mono hbB.size)
    have HL2 := Lib.hid (hb1.trans (hbB.mono hb1.size))
    have HR2 := Lib.hid (show Row ((w1.alloc (.cells #[.int .i64 i, .slice nA ns.length nc, .slice gA gs.length gc, .slice oA os.length oc] 26)).alloc (.cells #[.int .i64 i', .slice nA' ns'.length nc', .slice gA' gs'.length gc', .slice oA' os'.length oc'] 26)) w1.heap.size 26 #[.int .i64 i, .slice nA ns.length nc, .slice gA gs.length gc, .slice oA os.length oc] from (Below.heap_alloc _ _ _ (by simp)).trans (heap_alloc_new w1 _))
    have HQ2 : Hid (Row ((w1.alloc (.cells #[.int .i64 i, .slice nA ns.length nc, .slice gA gs.length gc, .slice oA os.length oc] 26)).alloc (.cells #[.int .i64 i', .slice nA' ns'.length nc', .slice gA' gs'.length gc', .slice oA' os'.length oc'] 26)) (w1.heap.size + 1) 26 #[.int .i64 i', .slice nA' ns'.length nc', .slice gA' gs'.length gc', .slice oA' os'.length oc']) := Lib.hid (by
      have := heap_alloc_new (w1.alloc (.cells #[.int .i64 i, .slice nA ns.length nc, .slice gA gs.length gc, .slice oA os.length oc] 26)) (.cells #[.int .i64 i', .slice nA' ns'.length nc', .slice gA' gs'.length gc', .slice oA' os'.length oc'] 26)
      simpa [Row] using this)
    clear hC1 hD1 hb1 hbB HB HBC hbc
    go_upto_region 4 with fail
    generalize ((w1.alloc (.cells #[.int .i64 i, .slice nA ns.length nc, .slice gA gs.length gc, .slice oA os.length oc] 26)).alloc (.cells #[.int .i64 i', .slice nA' ns'.length nc', .slice gA' gs'.length gc', .slice oA' os'.length oc'] 26)) = w2 at *
    generalize w1.heap.size = ca at *
    have q0 := HR2.out.cell 0
    have q1 := HR2.out.cell 1
    have q2 := HR2.out.cell 2
    have q3 := HR2.out.cell 3
    have p0 := HQ2.out.cell 0
    have p1 := HQ2.out.cell 1
    have p2 := HQ2.out.cell 2
    have p3 := HQ2.out.cell 3
    simp at q0 q1 q2 q3 p0 p1 p2 p3
    go_wp2_with fail
    refine (equiv_any i nA gA oA nc gc oc ns gs os i' nA' gA' oA' nc' gc' oc' ns' gs' os' _ HC2.out HD2.out).mono ?_
    rintro e w3 ⟨rfl, hb3⟩
    have HC3 := Lib.hid ((HC2.out.below hb3).mono hb3.size)
    have HD3 := Lib.hid ((HD2.out.below hb3).mono hb3.size)
    have HL3 := Lib.hid (HL2.out.trans (hb3.mono HL2.out.size))
    have HR3 := Lib.hid (HR2.out.below hb3 HR2.out.lt)
    have HQ3 := Lib.hid (HQ2.out.below hb3 HQ2.out.lt)
    clear hb3 HC2 HD2 HL2 HR2 HQ2 q0 q1 q2 q3 p0 p1 p2 p3
    generalize hvv : Circ.equivB i ns gs os i' ns' gs' os' = vv at *
    have HVV := Lib.hid hvv
    have HSY : Hid (Circ.equivB i' ns' gs' os' i ns gs os = vv) := Lib.hid (by rw [← Circ.equivB_symm]; exact hvv)
    generalize hva : Circ.validB i ns gs os = va at *
    have HVA := Lib.hid hva
    have HSS : Hid (Circ.equivB i ns gs os i ns gs os = va) := Lib.hid (by rw [Circ.equivB_self]; exact hva)
    clear hvv hva
    have hv1 : (vv != vv) = false := by simp
    have hv2 : (va != va) = false := by simp
    have q0 := HR3.out.cell 0
    have q1 := HR3.out.cell 1
    have q2 := HR3.out.cell 2
    have q3 := HR3.out.cell 3
    have p0 := HQ3.out.cell 0
    have p1 := HQ3.out.cell 1
    have p2 := HQ3.out.cell 2
    have p3 := HQ3.out.cell 3
    simp at q0 q1 q2 q3 p0 p1 p2 p3
    have hz1 := HR3.out.lt
    have hz2 := HQ3.out.lt
    have tok0 : True := trivial
    go_upto_region 5 with fail
    go_region_held3 (fun w' => (w'.cell? ⟨ca, 0, none⟩ = some (.int .i64 i) ∧ w'.cell? ⟨ca, 1, none⟩ = some (.slice nA ns.length nc) ∧ w'.cell? ⟨ca, 2, none⟩ = some (.slice gA gs.length gc) ∧ w'.cell? ⟨ca, 3, none⟩ = some (.slice oA os.length oc)) ∧ w'.cell? ⟨ca + 1, 0, none⟩ = some (.int .i64 i') ∧ w'.cell? ⟨ca + 1, 1, none⟩ = some (.slice nA' ns'.length nc') ∧ w'.cell? ⟨ca + 1, 2, none⟩ = some (.slice gA' gs'.length gc') ∧ w'.cell? ⟨ca + 1, 3, none⟩ = some (.slice oA' os'.length oc'))
      (first | go_keep | (exact two_on hb7 (by assumption)) | (exact two_on hb6 (by assumption)) | (exact two_on hb5 (by assumption)) | (exact two_on hb4 (by assumption)))
      (first
        | (have _t := tok0; go_at_call 36; refine (sequiv_val i nA gA oA nc gc oc ns gs os i' nA' gA' oA' nc' gc' oc' ns' gs' os' vv _ HVV.out ?_ ?_).mono ?_; (exact HC3.out.below (Below.refl _ w3).drew); (exact HD3.out.below (Below.refl _ w3).drew); rintro e u4 ⟨rfl, hb4⟩; have hw4 : Below w3.heap.size w3 u4 := (Below.refl _ w3).drew.trans hb4; have hs4 := hw4.size; have tokA : True := trivial; clear tok0)
        | (have _t := tokA; go_at_call 35; refine (equiv_val i' nA' gA' oA' nc' gc' oc' ns' gs' os' i nA gA oA nc gc oc ns gs os vv _ HSY.out ((HD3.out.below hw4).mono hs4) ((HC3.out.below hw4).mono hs4)).mono ?_; rintro e u5 ⟨rfl, hb5⟩; have hw5 := hw4.trans (hb5.mono hs4); have hs5 := hw5.size; have tokB : True := trivial; clear tokA)
        | (have _t := tokB; go_at_call 35; refine (equiv_val i nA gA oA nc gc oc ns gs os i nA gA oA nc gc oc ns gs os va _ HSS.out ((HC3.out.below hw5).mono hs5) ((HC3.out.below hw5).mono hs5)).mono ?_; rintro e u6 ⟨rfl, hb6⟩; have hw6 := hw5.trans (hb6.mono hs5); have hs6 := hw6.size; have tokC : True := trivial; clear tokB)
        | (have _t := tokC; go_at_call 18; refine (valid_val i nA gA oA nc gc oc ns gs os va _ HVA.out ((HC3.out.below hw6).mono hs6)).mono ?_; rintro e u7 ⟨rfl, hb7⟩; have hw7 := hw6.trans (hb7.mono hs6); have hs7 := hw7.size; clear tokC))
    have HC7 := Lib.hid ((HC3.out.below hw7).mono hw7.size)
    have HD7 := Lib.hid ((HD3.out.below hw7).mono hw7.size)
    have HL7 := Lib.hid (HL3.out.trans (hw7.mono HL3.out.size))
    have HR7 := Lib.hid (HR3.out.below hw7 HR3.out.lt)
    have HQ7 := Lib.hid (HQ3.out.below hw7 HQ3.out.lt)
    clear hb4 hb5 hb6 hb7 hw4 hw5 hw6 hw7 hs4 hs5 hs6 hs7 q0 q1 q2 q3 p0 p1 p2 p3 HR3 HQ3 HL3 HC3 HD3 hz1 hz2
    rename_i _hheld
    clear _hheld
    generalize u7 = w7 at *
    have q0 := HR7.out.cell 0
    have q1 := HR7.out.cell 1
    have q2 := HR7.out.cell 2
    have q3 := HR7.out.cell 3
    have p0 := HQ7.out.cell 0
    have p1 := HQ7.out.cell 1
    have p2 := HQ7.out.cell 2
    have p3 := HQ7.out.cell 3
    simp at q0 q1 q2 q3 p0 p1 p2 p3
    go_wp2_with fail
    refine (svalid_val i nA gA oA nc gc oc ns gs os va _ HVA.out HC7.out).mono ?_
    rintro e w8 ⟨rfl, hb8⟩
    have HC8 := Lib.hid ((HC7.out.below hb8).mono hb8.size)
    have HD8 := Lib.hid ((HD7.out.below hb8).mono hb8.size)
    have HL8 := Lib.hid (HL7.out.trans (hb8.mono HL7.out.size))
    have HR8 := Lib.hid (HR7.out.below hb8 HR7.out.lt)
    have HQ8 := Lib.hid (HQ7.out.below hb8 HQ7.out.lt)
    clear hb8 HC7 HD7 HL7 HR7 HQ7 q0 q1 q2 q3 p0 p1 p2 p3
    have q0 := HR8.out.cell 0
    have q1 := HR8.out.cell 1
    have q2 := HR8.out.cell 2
    have q3 := HR8.out.cell 3
    have p0 := HQ8.out.cell 0
    have p1 := HQ8.out.cell 1
    have p2 := HQ8.out.cell 2
    have p3 := HQ8.out.cell 3
    simp at q0 q1 q2 q3 p0 p1 p2 p3
    cases va
    · have hvf : vv = false := by
        cases vv
        · rfl
        · have h := (Circ.sameIf_inv (Circ.equivB_iff.1 HVV.out).1).1
          rw [HVA.out] at h
          cases h
      subst hvf
      go_wp2_with (go_at_call 27; refine (alive_any _).mono ?_; rintro e w9 ⟨rfl, hb9⟩)
      go_ret
      exact ⟨rfl, HL8.out.trans (hb9.mono HL8.out.size)⟩
    · generalize hvb : Circ.validB i' ns' gs' os' = vb at *
      have HVB := Lib.hid hvb
      clear hvb
      go_wp2_with fail
      refine (svalid_val i' nA' gA' oA' nc' gc' oc' ns' gs' os' vb _ HVB.out HD8.out).mono ?_
      rintro e w9 ⟨rfl, hb9⟩
      have HC9 := Lib.hid ((HC8.out.below hb9).mono hb9.size)
      have HD9 := Lib.hid ((HD8.out.below hb9).mono hb9.size)
      have HL9 := Lib.hid (HL8.out.trans (hb9.mono HL8.out.size))
      have HR9 := Lib.hid (HR8.out.below hb9 HR8.out.lt)
      have HQ9 := Lib.hid (HQ8.out.below hb9 HQ8.out.lt)
      clear hb9 HC8 HD8 HL8 HR8 HQ8 q0 q1 q2 q3 p0 p1 p2 p3
      cases vb
      · have hvf : vv = false := by
          cases vv
          · rfl
          · have h := (Circ.sameIf_inv (Circ.equivB_iff.1 HVV.out).1).2.1
            rw [HVB.out] at h
            cases h
        subst hvf
        go_wp2_with (go_at_call 27; refine (alive_any _).mono ?_; rintro e w10 ⟨rfl, hb10⟩)
        go_ret
        exact ⟨rfl, HL9.out.trans (hb10.mono HL9.out.size)⟩
      · obtain ⟨zn, HN1⟩ : ∃ z, Hid (Opt.optN i ns gs os = z) := ⟨_, Lib.hid rfl⟩
        obtain ⟨zg, HN2⟩ : ∃ z, Hid (Opt.optG i ns gs os = z) := ⟨_, Lib.hid rfl⟩
        obtain ⟨zo, HN3⟩ : ∃ z, Hid (Opt.optO i ns gs os = z) := ⟨_, Lib.hid rfl⟩
        obtain ⟨zn', HM1⟩ : ∃ z, Hid (Opt.optN i' ns' gs' os' = z) := ⟨_, Lib.hid rfl⟩
        obtain ⟨zg', HM2⟩ : ∃ z, Hid (Opt.optG i' ns' gs' os' = z) := ⟨_, Lib.hid rfl⟩
        obtain ⟨zo', HM3⟩ : ∃ z, Hid (Opt.optO i' ns' gs' os' = z) := ⟨_, Lib.hid rfl⟩
        have HE1 : Hid (Circ.equivB i ns gs os i zn zg zo = true) := Lib.hid (by rw [← HN1.out, ← HN2.out, ← HN3.out]; exact Circ.opt_equiv HVA.out)
        have HE2 : Hid (Circ.equivB i zn zg zo i' zn' zg' zo' = vv) := Lib.hid (by rw [← HN1.out, ← HN2.out, ← HN3.out, ← HM1.out, ← HM2.out, ← HM3.out, Circ.opt_both HVA.out HVB.out]; exact HVV.out)
        have HZ1 : Hid (zn.length = ns.length) := Lib.hid (by rw [← HN1.out]; exact Opt.optN_len HVA.out)
        have HZ2 : Hid (zo.length = os.length) := Lib.hid (by rw [← HN3.out]; exact Opt.optO_len HVA.out)
        have HZ3 : Hid (zn'.length = ns'.length) := Lib.hid (by rw [← HM1.out]; exact Opt.optN_len HVB.out)
        have HZ4 : Hid (zo'.length = os'.length) := Lib.hid (by rw [← HM3.out]; exact Opt.optO_len HVB.out)
        have q0 := HR9.out.cell 0
        have q1 := HR9.out.cell 1
        have q2 := HR9.out.cell 2
        have q3 := HR9.out.cell 3
        have p0 := HQ9.out.cell 0
        have p1 := HQ9.out.cell 1
        have p2 := HQ9.out.cell 2
        have p3 := HQ9.out.cell 3
        simp at q0 q1 q2 q3 p0 p1 p2 p3
        have hz1 := HR9.out.lt
        have hz2 := HQ9.out.lt
        have hv3 : (vv == vv) = true := by simp
        have tok0 : True := trivial
        go_upto_region 9 with fail
        go_region_held3 (fun w' => (w'.cell? ⟨ca, 0, none⟩ = some (.int .i64 i) ∧ w'.cell? ⟨ca, 1, none⟩ = some (.slice nA ns.length nc) ∧ w'.cell? ⟨ca, 2, none⟩ = some (.slice gA gs.length gc) ∧ w'.cell? ⟨ca, 3, none⟩ = some (.slice oA os.length oc)) ∧ w'.cell? ⟨ca + 1, 0, none⟩ = some (.int .i64 i') ∧ w'.cell? ⟨ca + 1, 1, none⟩ = some (.slice nA' ns'.length nc') ∧ w'.cell? ⟨ca + 1, 2, none⟩ = some (.slice gA' gs'.length gc') ∧ w'.cell? ⟨ca + 1, 3, none⟩ = some (.slice oA' os'.length oc'))
          (first | go_keep | (exact two_on hb7 (by assumption)) | (exact two_on hb6 (by assumption)) | (exact two_on hb5 (by assumption)) | (exact two_on hb4 (by assumption)) | (exact two_on hb3 (by assumption)))
          (first
            | (have _t := tok0; go_at_call 15; refine (opt_val i nA gA oA nc gc oc ns gs os zn zg zo _ HVA.out HN1.out HN2.out HN3.out ?_).mono ?_; (exact HC9.out.below (Below.refl _ w9).drew); rintro e u3 ⟨x1, x2, x3, y1, y2, y3, rfl, hX3, hb3⟩; have hw3 : Below w9.heap.size w9 u3 := (Below.refl _ w9).drew.trans hb3; have hs3 := hw3.size; have tokA : True := trivial; clear tok0)
            | (have _t := tokA; go_at_call 35; refine (equiv_ln i nA gA oA ns.length os.length nc gc oc ns gs os i x1 x2 x3 ns.length os.length y1 y2 y3 zn zg zo true _ rfl rfl HZ1.out HZ2.out HE1.out ((HC9.out.below hw3).mono hs3) hX3).mono ?_; rintro e u4 ⟨rfl, hb4⟩; have hw4 := hw3.trans (hb4.mono hs3); have hs4 := hw4.size; have tokB : True := trivial; clear tokA)
            | (have _t := tokB; go_at_call 15; refine (opt_val i nA gA oA nc gc oc ns gs os zn zg zo _ HVA.out HN1.out HN2.out HN3.out ((HC9.out.below hw4).mono hs4)).mono ?_; rintro e u5 ⟨s1, s2, s3, t1, t2, t3, rfl, hX5, hb5⟩; have hw5 := hw4.trans (hb5.mono hs4); have hs5 := hw5.size; have tokC : True := trivial; clear tokB)
            | (have _t := tokC; go_at_call 15; refine (opt_val i' nA' gA' oA' nc' gc' oc' ns' gs' os' zn' zg' zo' _ HVB.out HM1.out HM2.out HM3.out ((HD9.out.below hw5).mono hs5)).mono ?_; rintro e u6 ⟨m1, m2, m3, k1, k2, k3, rfl, hX6, hb6⟩; have hw6 := hw5.trans (hb6.mono hs5); have hs6 := hw6.size; have tokD : True := trivial; clear tokC)
            | (have _t := tokD; go_at_call 35; refine (equiv_ln i s1 s2 s3 ns.length os.length t1 t2 t3 zn zg zo i' m1 m2 m3 ns'.length os'.length k1 k2 k3 zn' zg' zo' vv _ HZ1.out HZ2.out HZ3.out HZ4.out HE2.out ((hX5.below hb6).mono hb6.size) hX6).mono ?_; rintro e u7 ⟨rfl, hb7⟩; have hw7 := hw6.trans (hb7.mono hs6); clear tokD))
        go_wp2
        go_ret
        exact ⟨rfl, HL9.out.trans (hw7.mono HL9.out.size)⟩
end Go.Proofs.Ythpiddpkcmecfaa
