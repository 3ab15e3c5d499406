/- The walk of the law FnOptimizeSmall. -/
import Derived.Test.YthpiddpkcmecfaaY3
import Derived.Test.YthpiddpkcmecfaaE5
import Derived.Test.YthpiddpkcmecfaaZa
import Derived.Test.YthpiddpkcmecfaaD2
namespace Go.Proofs.Ythpiddpkcmecfaa
open Go.RowKit Go.Deep
set_option maxRecDepth 100000

set_option maxHeartbeats 1600000 in
theorem fsmall_walk (A : Option Addr) (bl bc : Nat) (w : World) (hb : CodeAt w A bl) (hbl : bl ≤ bc) (hbc : bc ≤ maxLen) :
    Calls Try.prog 4 #[.slice A bl bc] w fun e w' => e = .returned (.bool true) ∧ Below w.heap.size w w' := by
  have HB := Lib.hid hb
  have HBC := Lib.hid hbc
  unfold maxLen at hbc
  clear hb
  by_cases hsz : 1048576 < bl
  · go_enter Try.func4, Try.ntmps4
    go_wp2
    go_ret
    exact ⟨rfl, Below.refl _ _⟩
  · go_enter Try.func4, Try.ntmps4
    go_wp2_with fail
    refine (drawOpt_any A bl bc _ HB.out hbl HBC.out).mono ?_
    rintro e w1 ⟨i, nA, gA, oA, nc, gc, oc, ns, gs, os, rfl, hC1, hn, hg, ho, hgc, hb1⟩
    have hbB : Below w1.heap.size w1 (w1.alloc (.cells #[.int .i64 i, .slice nA ns.length nc, .slice gA gs.length gc, .slice oA os.length oc] 26)) := (Below.refl _ _).alloc (Nat.le_refl _) _
    have HC2 := Lib.hid ((hC1.below hbB).mono hbB.size)
    have HL2 := Lib.hid (hb1.trans (hbB.mono hb1.size))
    have HR2 := Lib.hid (show Row (w1.alloc (.cells #[.int .i64 i, .slice nA ns.length nc, .slice gA gs.length gc, .slice oA os.length oc] 26)) w1.heap.size 26 #[.int .i64 i, .slice nA ns.length nc, .slice gA gs.length gc, .slice oA os.length oc] from heap_alloc_new w1 _)
    clear hC1 hb1 hbB HB HBC hbc
    go_wp2_with fail
    refine (impl_opt_any i nA gA oA nc gc oc ns gs os _ HC2.out).mono ?_
    rintro e w3 ⟨xN, xG, xO, xn, xg, xo, rfl, hX3, hb3⟩
    have HC3 := Lib.hid ((HC2.out.below hb3).mono hb3.size)
    have HR3 := Lib.hid (HR2.out.below hb3 HR2.out.lt)
    have HL3 := Lib.hid (HL2.out.trans (hb3.mono HL2.out.size))
    obtain ⟨zl1, zl2, zl3⟩ := Circ.z_le (i := i) (ns := ns) (gs := gs) (os := os)
    have HZV := Lib.hid (Circ.z_valid (i := i) (ns := ns) (gs := gs) (os := os))
    have HX3 := Lib.hid hX3
    clear hb3 HC2 HR2 HL2 hX3
    generalize hxi : Circ.zI i ns gs os = xi at *
    generalize hzn : Circ.zN i ns gs os = zn at *
    generalize hzg : Circ.zG i ns gs os = zg at *
    generalize hzo : Circ.zO i ns gs os = zo at *
    have HXI := Lib.hid hxi
    have HZN := Lib.hid hzn
    have HZG := Lib.hid hzg
    have HZO := Lib.hid hzo
    clear hxi hzn hzg hzo
    generalize w1.heap.size = cc at *
    have hbB : Below w3.heap.size w3 (w3.alloc (.cells #[.int .i64 xi, .slice xN zn.length xn, .slice xG zg.length xg, .slice xO zo.length xo] 26)) := (Below.refl _ _).alloc (Nat.le_refl _) _
    have HC4 := Lib.hid ((HC3.out.below hbB).mono hbB.size)
    have HX4 := Lib.hid ((HX3.out.below hbB).mono hbB.size)
    have HR4 := Lib.hid (HR3.out.below hbB HR3.out.lt)
    have HL4 := Lib.hid (HL3.out.trans (hbB.mono HL3.out.size))
    have HQ4 := Lib.hid (show Row (w3.alloc (.cells #[.int .i64 xi, .slice xN zn.length xn, .slice xG zg.length xg, .slice xO zo.length xo] 26)) w3.heap.size 26 #[.int .i64 xi, .slice xN zn.length xn, .slice xG zg.length xg, .slice xO zo.length xo] from heap_alloc_new w3 _)
    have hcc := HR3.out.lt
    clear hbB HC3 HX3 HR3 HL3
    go_upto_region 5 with fail
    generalize w3.alloc (.cells #[.int .i64 xi, .slice xN zn.length xn, .slice xG zg.length xg, .slice xO zo.length xo] 26) = w4 at *
    generalize w3.heap.size = cx at *
    have q0 := HR4.out.cell 0
    have q1 := HR4.out.cell 1
    have q2 := HR4.out.cell 2
    have q3 := HR4.out.cell 3
    have p0 := HQ4.out.cell 0
    have p1 := HQ4.out.cell 1
    have p2 := HQ4.out.cell 2
    have p3 := HQ4.out.cell 3
    simp at q0 q1 q2 q3 p0 p1 p2 p3
    have hz1 := HR4.out.lt
    have hz2 := HQ4.out.lt
    go_region_held3 (fun w' => (w'.cell? ⟨cc, 0, none⟩ = some (.int .i64 i) ∧ w'.cell? ⟨cc, 1, none⟩ = some (.slice nA ns.length nc) ∧ w'.cell? ⟨cc, 2, none⟩ = some (.slice gA gs.length gc) ∧ w'.cell? ⟨cc, 3, none⟩ = some (.slice oA os.length oc)) ∧ w'.cell? ⟨cx, 0, none⟩ = some (.int .i64 xi) ∧ w'.cell? ⟨cx, 1, none⟩ = some (.slice xN zn.length xn) ∧ w'.cell? ⟨cx, 2, none⟩ = some (.slice xG zg.length xg) ∧ w'.cell? ⟨cx, 3, none⟩ = some (.slice xO zo.length xo))
      (first | go_keep | (refine ⟨⟨?_, ?_, ?_, ?_⟩, ?_, ?_, ?_, ?_⟩ <;> (rw [hc7 _ _ (by simp; omega)]; simp [*])) | (refine ⟨⟨?_, ?_, ?_, ?_⟩, ?_, ?_, ?_, ?_⟩ <;> (rw [hc8 _ _ (by omega), hc7 _ _ (by simp; omega)]; simp [*])))
      (first
        | (go_at_call 17; go_must (refine (spec_opt_any i nA gA oA nc gc oc ns gs os _ ?_).mono ?_; (exact ((HC4.out.below (Below.refl _ _).drew))); rintro e u7 ⟨e1, e2, e3, f1, f2, f3, rfl, hC7, hb7⟩; rw [HXI.out, HZN.out, HZG.out, HZO.out]; rw [HZN.out, HZG.out, HZO.out] at hC7; obtain ⟨hc7, hf7⟩ := bcell hb7; have hz7 : w4.heap.size ≤ u7.heap.size := hb7.size))
        | (go_at_call 16; refine (sameCircuit_any xi _ _ _ e1 e2 e3 _ _ _ f1 f2 f3 zn zg zo _ ?_ ?_ ?_ ?_ ?_).mono ?_; (exact ((HX4.out.below (Below.refl _ _).drew).below hb7).mono hb7.size); (exact hC7); (omega); (omega); (omega); rintro e u8 ⟨rfl, hb8⟩; obtain ⟨hc8, hf8⟩ := bcell hb8))
    clear hc7 hf7 hc8 hf8 p0 p1 p2 p3 q0 q1 q2 q3
    have hb5 : Below w4.heap.size w4 u8 := ((Below.refl _ w4).drew.trans hb7).trans (hb8.mono hz7)
    clear hb7 hb8 hz7 hC7 hz1 hz2
    rename_i _hheld
    clear _hheld
    have HC5 := Lib.hid ((HC4.out.below hb5).mono hb5.size)
    have HX5 := Lib.hid ((HX4.out.below hb5).mono hb5.size)
    have HR5 := Lib.hid (HR4.out.below hb5 HR4.out.lt)
    have HQ5 := Lib.hid (HQ4.out.below hb5 HQ4.out.lt)
    have HL5 := Lib.hid (HL4.out.trans (hb5.mono HL4.out.size))
    clear hb5 HC4 HX4 HR4 HQ4 HL4
    generalize u8 = w5 at *
    have q0 := HR5.out.cell 0
    have q1 := HR5.out.cell 1
    have q2 := HR5.out.cell 2
    have q3 := HR5.out.cell 3
    simp at q0 q1 q2 q3
    go_wp2_with fail
    refine (svalid_any i nA gA oA nc gc oc ns gs os _ HC5.out).mono ?_
    rintro e w6 ⟨rfl, hb6⟩
    have HC6 := Lib.hid ((HC5.out.below hb6).mono hb6.size)
    have HX6 := Lib.hid ((HX5.out.below hb6).mono hb6.size)
    have HR6 := Lib.hid (HR5.out.below hb6 HR5.out.lt)
    have HQ6 := Lib.hid (HQ5.out.below hb6 HQ5.out.lt)
    have HL6 := Lib.hid (HL5.out.trans (hb6.mono HL5.out.size))
    clear hb6 HC5 HX5 HR5 HQ5 HL5 q0 q1 q2 q3
    have q0 := HR6.out.cell 0
    have q1 := HR6.out.cell 1
    have q2 := HR6.out.cell 2
    have q3 := HR6.out.cell 3
    have p0 := HQ6.out.cell 0
    have p1 := HQ6.out.cell 1
    have p2 := HQ6.out.cell 2
    have p3 := HQ6.out.cell 3
    simp at q0 q1 q2 q3 p0 p1 p2 p3
    cases hv : Circ.validB i ns gs os
    · obtain ⟨a, b, c, d⟩ := Circ.z_f hv
      rw [HXI.out] at a
      rw [HZN.out] at b
      rw [HZG.out] at c
      rw [HZO.out] at d
      subst a b c d
      clear hv
      go_wp2_with fail
      refine (sameCircuit_any 0 _ _ _ none none none _ _ _ 0 0 0 [] [] [] _ HX6.out (circ_nil _ _) (by simp) (by simp) (by simp)).mono ?_
      rintro e w7 ⟨rfl, hb7⟩
      have HL7 := Lib.hid (HL6.out.trans (hb7.mono HL6.out.size))
      clear hb7 p0 p1 p2 p3 q0 q1 q2 q3
      go_wp2_with (go_at_call 27; refine (alive_any _).mono ?_; rintro e w8 ⟨rfl, hb8⟩)
      go_ret
      exact ⟨rfl, HL7.out.trans (hb8.mono HL7.out.size)⟩
    · obtain ⟨a, b, c, d⟩ := Circ.z_t hv
      have hlen : zg.length ≤ gs.length := by rw [← HZG.out, c]; exact Opt.optG_len hv
      have hdep : Circ.depthZ xi zn zg zo ≤ Circ.depthZ i ns gs os := by rw [← HXI.out, ← HZN.out, ← HZG.out, ← HZO.out, a, b, c, d]; exact Opt.opt_depth hv
      clear hv a b c d
      have t1 : decide ((zg.length : Int) ≤ (gs.length : Int)) = true := by simpa using hlen
      have t1' : decide (zg.length ≤ gs.length) = true := by simpa using hlen
      have t2 : decide (Circ.depthZ xi zn zg zo ≤ Circ.depthZ i ns gs os) = true := by simpa using hdep
      have hz1 := HR6.out.lt
      have hz2 := HQ6.out.lt
      have HT2 := Lib.hid t2
      clear t2 hdep
      go_upto_region 9 with fail
      go_region_held3 (fun w' => (w'.cell? ⟨cc, 0, none⟩ = some (.int .i64 i) ∧ w'.cell? ⟨cc, 1, none⟩ = some (.slice nA ns.length nc) ∧ w'.cell? ⟨cc, 2, none⟩ = some (.slice gA gs.length gc) ∧ w'.cell? ⟨cc, 3, none⟩ = some (.slice oA os.length oc)) ∧ w'.cell? ⟨cx, 0, none⟩ = some (.int .i64 xi) ∧ w'.cell? ⟨cx, 1, none⟩ = some (.slice xN zn.length xn) ∧ w'.cell? ⟨cx, 2, none⟩ = some (.slice xG zg.length xg) ∧ w'.cell? ⟨cx, 3, none⟩ = some (.slice xO zo.length xo))
        (first | go_keep | (refine ⟨⟨?_, ?_, ?_, ?_⟩, ?_, ?_, ?_, ?_⟩ <;> (rw [hc8 _ _ (by omega), hc7 _ _ (by simp; omega)]; simp [*])) | (refine ⟨⟨?_, ?_, ?_, ?_⟩, ?_, ?_, ?_, ?_⟩ <;> (rw [hc7 _ _ (by simp; omega)]; simp [*])))
        (first
          | (go_at_call 28; have _t := hb7; refine (depth_any i nA gA oA nc gc oc ns gs os _ ?_).mono ?_; (exact ((HC6.out.below (Below.refl _ _).drew).below hb7).mono hb7.size); rintro e u8 ⟨rfl, hb8⟩; obtain ⟨hc8, hf8⟩ := bcell hb8)
          | (go_at_call 28; refine (depth_any xi xN xG xO xn xg xo zn zg zo _ ?_).mono ?_; (exact HX6.out.below (Below.refl _ _).drew); rintro e u7 ⟨rfl, hb7⟩; obtain ⟨hc7, hf7⟩ := bcell hb7; have hz7 : w6.heap.size ≤ u7.heap.size := hb7.size))
      have hb9 : Below w6.heap.size w6 u8 := ((Below.refl _ w6).drew.trans hb7).trans (hb8.mono hz7)
      have t2 := HT2.out
      go_wp2
      go_ret
      exact ⟨ret_bool (by simpa using HT2.out), HL6.out.trans (hb9.mono HL6.out.size)⟩
end Go.Proofs.Ythpiddpkcmecfaa
