/- The walk of the law FnSameInterface. -/
import Derived.Test.YthpiddpkcmecfaaY14
import Derived.Deep.DeepCutAuto
import Derived.Deep.CutBlock
namespace Go.Proofs.Ythpiddpkcmecfaa
open Go.RowKit Go.Deep
set_option maxRecDepth 100000

set_option maxHeartbeats 2000000 in
theorem fsameIf_walk (A : Option Addr) (bl bc : Nat) (w : World) (hb : CodeAt w A bl) (hbl : bl ≤ bc) (hbc : bc ≤ maxLen) :
    Calls Try.prog 6 #[.slice A bl bc] w fun e w' => e = .returned (.bool true) ∧ Below w.heap.size w w' := by
  have HB := Lib.hid hb
  have HBC := Lib.hid hbc
  unfold maxLen at hbc
  clear hb
  by_cases hsz : 1048576 < bl
  · go_enter Try.func6, Try.ntmps6
    go_wp2
    go_ret
    exact ⟨rfl, Below.refl _ _⟩
  · go_enter Try.func6, Try.ntmps6
    go_wp2_with fail
    refine (drawSameIf_any A bl bc _ HB.out hbl HBC.out).mono ?_
    rintro e w1 ⟨i, nA, gA, oA, nc, gc, oc, ns, gs, os, i', nA', gA', oA', nc', gc', oc', ns', gs', os', rfl, hC1, hD1, hn, hg, ho, hn', hg', ho', hb1⟩
    have hbB : Below w1.heap.size w1 ((w1.alloc (.cells #[.int .i64 i, .slice nA ns.length nc, .slice gA gs.length gc, .slice oA os.length oc] 26)).alloc (.cells #[.int .i64 i', .slice nA' ns'.length nc', .slice gA' gs'.length gc', .slice oA' os'.length oc'] 26)) := ((Below.refl _ _).alloc (Nat.le_refl _) _).alloc (by simp) _
    have HC2 := Lib.hid ((hC1.below hbB).mono hbB.size)
    have HD2 := Lib.hid ((hD1.below hbB).mono hbB.size)
    have HL2 := Lib.hid (hb1.trans (hbB.mono hb1.size))
    have HR2 := Lib.hid (show Row ((w1.alloc (.cells #[.int .i64 i, .slice nA ns.length nc, .slice gA gs.length gc, .slice oA os.length oc] 26)).alloc (.cells #[.int .i64 i', .slice nA' ns'.length nc', .slice gA' gs'.length gc', .slice oA' os'.length oc'] 26)) w1.heap.size 26 #[.int .i64 i, .slice nA ns.length nc, .slice gA gs.length gc, .slice oA os.length oc] from (Below.heap_alloc _ _ _ (by simp)).trans (heap_alloc_new w1 _))
    have HQ2 : Hid (Row ((w1.alloc (.cells #[.int .i64 i, .slice nA ns.length nc, .slice gA gs.length gc, .slice oA os.length oc] 26)).alloc (.cells #[.int .i64 i', .slice nA' ns'.length nc', .slice gA' gs'.length gc', .slice oA' os'.length oc'] 26)) (w1.heap.size + 1) 26 #[.int .i64 i', .slice nA' ns'.length nc', .slice gA' gs'.length gc', .slice oA' os'.length oc']) := Lib.hid (by
      have := heap_alloc_new (w1.alloc (.cells #[.int .i64 i, .slice nA ns.length nc, .slice gA gs.length gc, .slice oA os.length oc] 26)) (.cells #[.int .i64 i', .slice nA' ns'.length nc', .slice gA' gs'.length gc', .slice oA' os'.length oc'] 26)
      simpa [Row] using this)
    clear hC1 hD1 hb1 hbB HB HBC hbc
    go_upto_region 4 with fail
    generalize ((w1.alloc (.cells #[.int .i64 i, .slice nA ns.length nc, .slice gA gs.length gc, .slice oA os.length oc] 26)).alloc (.cells #[.int .i64 i', .slice nA' ns'.length nc', .slice gA' gs'.length gc', .slice oA' os'.length oc'] 26)) = w2 at *
    generalize w1.heap.size = ca at *
    have q0 := HR2.out.cell 0
    have q1 := HR2.out.cell 1
    have q2 := HR2.out.cell 2
    have q3 := HR2.out.cell 3
    have p0 := HQ2.out.cell 0
    have p1 := HQ2.out.cell 1
    have p2 := HQ2.out.cell 2
    have p3 := HQ2.out.cell 3
    simp at q0 q1 q2 q3 p0 p1 p2 p3
    go_wp2_with fail
    refine (sameIf_any i nA gA oA nc gc oc ns gs os i' nA' gA' oA' nc' gc' oc' ns' gs' os' _ HC2.out HD2.out).mono ?_
    rintro e w3 ⟨rfl, hb3⟩
    have HC3 := Lib.hid ((HC2.out.below hb3).mono hb3.size)
    have HD3 := Lib.hid ((HD2.out.below hb3).mono hb3.size)
    have HL3 := Lib.hid (HL2.out.trans (hb3.mono HL2.out.size))
    have HR3 := Lib.hid (HR2.out.below hb3 HR2.out.lt)
    have HQ3 := Lib.hid (HQ2.out.below hb3 HQ2.out.lt)
    clear hb3 HC2 HD2 HL2 HR2 HQ2 q0 q1 q2 q3 p0 p1 p2 p3
    generalize hvv : Circ.sameIf i ns gs os i' ns' gs' os' = vv at *
    have HVV := Lib.hid hvv
    have HSY : Hid (Circ.sameIf i' ns' gs' os' i ns gs os = vv) := Lib.hid (by rw [← Circ.sameIf_symm]; exact hvv)
    generalize hva : Circ.validB i ns gs os = va at *
    have HVA := Lib.hid hva
    have HSS : Hid (Circ.sameIf i ns gs os i ns gs os = va) := Lib.hid (by rw [Circ.sameIf_self]; exact hva)
    clear hvv hva
    have hv1 : (vv != vv) = false := by simp
    have hv2 : (va != va) = false := by simp
    have q0 := HR3.out.cell 0
    have q1 := HR3.out.cell 1
    have q2 := HR3.out.cell 2
    have q3 := HR3.out.cell 3
    have p0 := HQ3.out.cell 0
    have p1 := HQ3.out.cell 1
    have p2 := HQ3.out.cell 2
    have p3 := HQ3.out.cell 3
    simp at q0 q1 q2 q3 p0 p1 p2 p3
    have hz1 := HR3.out.lt
    have hz2 := HQ3.out.lt
    have tok0 : True := trivial
    go_upto_region 5 with fail
    go_region_held3 (fun w' => (w'.cell? ⟨ca, 0, none⟩ = some (.int .i64 i) ∧ w'.cell? ⟨ca, 1, none⟩ = some (.slice nA ns.length nc) ∧ w'.cell? ⟨ca, 2, none⟩ = some (.slice gA gs.length gc) ∧ w'.cell? ⟨ca, 3, none⟩ = some (.slice oA os.length oc)) ∧ w'.cell? ⟨ca + 1, 0, none⟩ = some (.int .i64 i') ∧ w'.cell? ⟨ca + 1, 1, none⟩ = some (.slice nA' ns'.length nc') ∧ w'.cell? ⟨ca + 1, 2, none⟩ = some (.slice gA' gs'.length gc') ∧ w'.cell? ⟨ca + 1, 3, none⟩ = some (.slice oA' os'.length oc'))
      (first | go_keep | (exact two_on hb7 (by assumption)) | (exact two_on hb6 (by assumption)) | (exact two_on hb5 (by assumption)) | (exact two_on hb4 (by assumption)))
      (first
        | (have _t := tok0; go_at_call 30; refine (ssameIf_val i nA gA oA nc gc oc ns gs os i' nA' gA' oA' nc' gc' oc' ns' gs' os' vv _ HVV.out ?_ ?_).mono ?_; (exact HC3.out.below (Below.refl _ w3).drew); (exact HD3.out.below (Below.refl _ w3).drew); rintro e u4 ⟨rfl, hb4⟩; have hw4 : Below w3.heap.size w3 u4 := (Below.refl _ w3).drew.trans hb4; have hs4 := hw4.size; have tokA : True := trivial; clear tok0)
        | (have _t := tokA; go_at_call 19; refine (sameIf_val i' nA' gA' oA' nc' gc' oc' ns' gs' os' i nA gA oA nc gc oc ns gs os vv _ HSY.out ((HD3.out.below hw4).mono hs4) ((HC3.out.below hw4).mono hs4)).mono ?_; rintro e u5 ⟨rfl, hb5⟩; have hw5 := hw4.trans (hb5.mono hs4); have hs5 := hw5.size; have tokB : True := trivial; clear tokA)
        | (have _t := tokB; go_at_call 19; refine (sameIf_val i nA gA oA nc gc oc ns gs os i nA gA oA nc gc oc ns gs os va _ HSS.out ((HC3.out.below hw5).mono hs5) ((HC3.out.below hw5).mono hs5)).mono ?_; rintro e u6 ⟨rfl, hb6⟩; have hw6 := hw5.trans (hb6.mono hs5); have hs6 := hw6.size; have tokC : True := trivial; clear tokB)
        | (have _t := tokC; go_at_call 18; refine (valid_val i nA gA oA nc gc oc ns gs os va _ HVA.out ((HC3.out.below hw6).mono hs6)).mono ?_; rintro e u7 ⟨rfl, hb7⟩; have hw7 := hw6.trans (hb7.mono hs6); have hs7 := hw7.size; clear tokC))
    have HL7 := Lib.hid (HL3.out.trans (hw7.mono HL3.out.size))
    have HR7 := Lib.hid (HR3.out.below hw7 HR3.out.lt)
    have HQ7 := Lib.hid (HQ3.out.below hw7 HQ3.out.lt)
    clear hb4 hb5 hb6 hb7 hw4 hw5 hw6 hw7 hs4 hs5 hs6 hs7 q0 q1 q2 q3 p0 p1 p2 p3 HR3 HQ3 HL3 HC3 HD3
    rename_i _hheld
    clear _hheld
    generalize u7 = w7 at *
    cases vv
    · go_wp2_with (go_at_call 27; refine (alive_any _).mono ?_; rintro e w8 ⟨rfl, hb8⟩)
      go_ret
      exact ⟨rfl, HL7.out.trans (hb8.mono HL7.out.size)⟩
    · obtain ⟨_, _, hie, hne, hoe⟩ := Circ.sameIf_inv HVV.out
      have e1 : (i == i') = true := by simp [hie]
      have e2 : ((ns.length : Int) == (ns'.length : Int)) = true := by simp [hne]
      have e3 : ((os.length : Int) == (os'.length : Int)) = true := by simp [hoe]
      have q0 := HR7.out.cell 0
      have q1 := HR7.out.cell 1
      have q3 := HR7.out.cell 3
      have p0 := HQ7.out.cell 0
      have p1 := HQ7.out.cell 1
      have p3 := HQ7.out.cell 3
      simp at q0 q1 q3 p0 p1 p3
      have HIE := Lib.hid hie
      have HNE := Lib.hid hne
      have HOE := Lib.hid hoe
      clear hie hne hoe
      go_wp2
      go_ret
      exact ⟨rfl, HL7.out⟩
end Go.Proofs.Ythpiddpkcmecfaa
