/- The contract of the program's MappedDepth. -/
import Derived.Test.YthcpgbfghededaaM5
import Derived.Test.YthcpgbfghededaaD2
namespace Go.Proofs.Ythcpgbfghededaa
open Go.RowKit Go.Deep Cut

theorem Try.arr_field (A1 A2 : Option Addr) (n1 c1 n2 c2 : Nat) (w : World) : (Instr.field 70 (.agg #[.slice A1 n1 c1, .slice A2 n2 c2]) 0).run Try.prog w = .ok (.slice A1 n1 c1) w := by kernel_rfl

set_option maxRecDepth 10000 in
set_option maxHeartbeats 800000 in
theorem mapped_any (i : Int) (nA gA oA : Option Addr) (nc gc oc : Nat) (ns : List Int) (gs : List (Int × Int)) (os : List Int) (w : World) (hc : CircAt w w.heap.size nA gA oA ns gs os) :
    Calls Try.prog 21 #[.agg #[.int .i64 i, .slice nA ns.length nc, .slice gA gs.length gc, .slice oA os.length oc]] w fun e w' => e = .returned (.int .i64 (mdepthZ i ns gs os)) ∧ Below w.heap.size w w' := by
  have hbw : Below w.heap.size w (w.alloc (.cells #[.int .i64 i, .slice nA ns.length nc, .slice gA gs.length gc, .slice oA os.length oc] 26)) := (Below.refl _ _).alloc (Nat.le_refl _) _
  have r0 : Row (w.alloc (.cells #[.int .i64 i, .slice nA ns.length nc, .slice gA gs.length gc, .slice oA os.length oc] 26)) w.heap.size 26 #[.int .i64 i, .slice nA ns.length nc, .slice gA gs.length gc, .slice oA os.length oc] := heap_alloc_new w _
  have HC := Lib.hid ((hc.below hbw).mono hbw.size)
  have HL0 := Lib.hid hbw
  have HR0 := Lib.hid r0
  clear hc hbw r0
  go_enter Try.func21, Try.ntmps21
  go_wp2_with fail
  refine (valid_any i nA gA oA nc gc oc ns gs os _ HC.out).mono ?_
  rintro e w1 ⟨rfl, hb1⟩
  have HR1 := Lib.hid (HR0.out.below hb1 HR0.out.lt)
  have HC1 := Lib.hid ((HC.out.below hb1).mono hb1.size)
  have HL1 := Lib.hid (HL0.out.trans (hb1.mono HL0.out.size))
  clear hb1 HR0 HL0 HC
  cases hv : Circ.validB i ns gs os
  · have HV := Lib.hid (show mdepthZ i ns gs os = -1 by unfold mdepthZ; rw [if_neg (by rw [hv]; decide)])
    clear hv
    go_wp2
    go_ret
    exact ⟨ret_int HV.out.symm, HL1.out⟩
  · obtain ⟨h0, h1, h2, h3, h4⟩ := Circ.valid_within hv
    have hnx := Circ.valid_next hv
    have hou := Circ.valid_outs hv
    have hff : (Opt.fst i ns : Int) = 1 + i + (ns.length : Int) := by unfold Opt.fst; omega
    have hd : mdepthZ i ns gs os = max (Circ.hi (Opt.intL (times (Opt.fst i ns) (Opt.natG gs))) ns) (Circ.hi (Opt.intL (times (Opt.fst i ns) (Opt.natG gs))) os) := by
      unfold mdepthZ
      rw [if_pos hv, Circ.hi_append]
      omega
    have hll : (Opt.intL (times (Opt.fst i ns) (Opt.natG gs))).length = Opt.fst i ns + gs.length := by rw [Opt.intL_len, times_len, Opt.natG_len]
    generalize hL : Opt.intL (times (Opt.fst i ns) (Opt.natG gs)) = L at *
    have HLE := Lib.hid hL
    clear hL
    have HD := Lib.hid hd
    have HN := Lib.hid (show ∀ k, k < ns.length → 0 ≤ ns.getD k 0 ∧ ns.getD k 0 < 2 * (L.length : Int) from fun k hk => by have := Circ.litsOk_get hnx hk; rw [hll]; omega)
    have HO := Lib.hid (show ∀ k, k < os.length → 0 ≤ os.getD k 0 ∧ os.getD k 0 < 2 * (L.length : Int) from fun k hk => by have := Circ.litsOk_get hou hk; rw [hll]; omega)
    have HLL := Lib.hid hll
    have HV := Lib.hid hv
    have hf8 : Opt.fst i ns ≤ 8 := by omega
    obtain ⟨nn, hnn, hn22⟩ : ∃ nn, Opt.fst i ns + gs.length = nn ∧ nn ≤ 22 := ⟨_, rfl, by omega⟩
    have HNN := Lib.hid hnn
    clear hd hnx hou hll hff hf8 hnn hv
    have q0 := HR1.out.cell 0
    have q1 := HR1.out.cell 1
    have q2 := HR1.out.cell 2
    have q3 := HR1.out.cell 3
    simp at q0 q1 q2 q3
    go_wp2_with fail
    refine (mappingOf_t i nA gA oA nc gc oc nn ns gs os _ HV.out HNN.out HC1.out).mono ?_
    rintro e w2 ⟨ab, bb, rfl, hi2, _, hb2⟩
    rw [HLE.out] at hi2
    have HR2 := Lib.hid (HR1.out.below hb2 HR1.out.lt)
    have HC2 := Lib.hid ((HC1.out.below hb2).mono hb2.size)
    have HL2 := Lib.hid (HL1.out.trans (hb2.mono HL1.out.size))
    have HI2 := Lib.hid hi2
    clear hb2 hi2 HR1 HC1 HL1 q0 q1 q2 q3
    have q1 := HR2.out.cell 1
    have q3 := HR2.out.cell 3
    simp at q1 q3
    have hfld := Try.arr_field (some ⟨ab, 0, none⟩) (some ⟨bb, 0, none⟩) nn nn nn nn
    go_wp2
    go_region_held3 (fun w' => w'.cell? ⟨w.heap.size, 1, none⟩ = some (.slice nA ns.length nc) ∧ w'.cell? ⟨w.heap.size, 3, none⟩ = some (.slice oA os.length oc)) (go_keep)
      (first
        | (go_at_call 60; (with_reducible refine (highest_at (some ⟨ab, 0, none⟩) nA nn nc nn ns.length L ns w2.heap.size _ ?_ ?_ ?_ ?_ ?_ ?_ ?_).mono ?_); (exact HI2.out); (exact HC2.out.next); (rw [HLL.out, HNN.out]); (exact rfl); (omega); (omega); (exact HN.out); rintro e w3 ⟨rfl, rfl⟩)
        | (go_at_call 60; (with_reducible refine (highest_at (some ⟨ab, 0, none⟩) oA nn oc nn os.length L os w2.heap.size _ ?_ ?_ ?_ ?_ ?_ ?_ ?_).mono ?_); (exact HI2.out); (exact HC2.out.outs); (rw [HLL.out, HNN.out]); (exact rfl); (omega); (omega); (exact HO.out); rintro e w3 ⟨rfl, rfl⟩))
    go_wp2
    go_ret
    exact ⟨ret_int HD.out.symm, HL2.out.drew⟩
end Go.Proofs.Ythcpgbfghededaa
