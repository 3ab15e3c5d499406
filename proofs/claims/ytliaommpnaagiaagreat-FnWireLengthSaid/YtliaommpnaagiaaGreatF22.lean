/- The walk of the law FnWireLength. -/
import Derived.Test.YtliaommpnaagiaaGreatR10
import Derived.Test.YtliaommpnaagiaaGreatWL
namespace Go.Proofs.YtliaommpnaagiaaGreat
open Go.RowKit Go.Deep Cut Plc
set_option maxRecDepth 100000

set_option maxHeartbeats 4000000 in
theorem fwire_walk (A : Option Addr) (bl bc : Nat) (w : World) (hb : CodeAt w A bl) (hbl : bl ≤ bc) (hbc : bc ≤ maxLen) :
    Calls Tryz.prog 3 #[.slice A bl bc] w fun e w' => e = .returned (.bool true) ∧ Below w.heap.size w w' := by
  have HB := Lib.hid hb
  have HBC := Lib.hid hbc
  unfold maxLen at hbc
  clear hb
  by_cases hsz : 1048576 < bl
  · go_enter Tryz.func3, Tryz.ntmps3
    go_wp2
    go_ret
    exact ⟨rfl, Below.refl _ _⟩
  · go_enter Tryz.func3, Tryz.ntmps3
    go_wp2_with fail
    refine (drawWire_any A bl bc _ HB.out hbl HBC.out).mono ?_
    rintro e w1 ⟨i, nA, gA, oA, pA, nc, gc, oc, pc, ns, gs, os, xs, rfl, hC1, hP1, hn, hg, ho, hcap, hxl, hxc, hb1⟩
    have hbB : Below w1.heap.size w1 (w1.alloc (.cells #[.int .i64 i, .slice nA ns.length nc, .slice gA gs.length gc, .slice oA os.length oc] 26)) := (Below.refl _ _).alloc (Nat.le_refl _) _
    have HC2 := Lib.hid ((hC1.below hbB).mono hbB.size)
    have HP2 := Lib.hid ((hP1.below hbB).mono hbB.size)
    have HL2 := Lib.hid (hb1.trans (hbB.mono hb1.size))
    have HR2 := Lib.hid (Boxed.new w1 i nA gA oA ns.length nc gs.length gc os.length oc 26)
    have hlt2 : w1.heap.size < (w1.alloc (.cells #[.int .i64 i, .slice nA ns.length nc, .slice gA gs.length gc, .slice oA os.length oc] 26)).heap.size := by simp
    clear hC1 hP1 hb1 hbB HB HBC hbc
    go_upto_region 4 with fail
    generalize w1.alloc (.cells #[.int .i64 i, .slice nA ns.length nc, .slice gA gs.length gc, .slice oA os.length oc] 26) = w2 at *
    generalize w1.heap.size = ca at *
    obtain ⟨l, hl⟩ : ∃ l, xs.length = l := ⟨_, rfl⟩
    rw [hl] at hxl hxc ⊢
    have HXL := Lib.hid hl
    obtain ⟨V, hV⟩ : ∃ V, wireZ i ns gs os xs = V := ⟨_, rfl⟩
    have HV := Lib.hid hV
    have hVf : placeB i ns gs os xs = false → V = -1 := fun h => by rw [← hV]; unfold wireZ; rw [h, if_neg (by simp)]
    have hVt : placeB i ns gs os xs = true → ∃ kv N : Nat, V = (kv : Int) ∧ Circ.varCountZ i ns gs os = (N : Int) ∧ kv ≤ 8 * N ∧ N ≤ 25 := fun h => by
      obtain ⟨hv, hp, _⟩ := placeB_inv h
      refine ⟨costV i ns gs os (Opt.natL xs), Opt.fst i ns + gs.length, ?_, ?_, ?_, (netOk_of hv).N25⟩
      · rw [← hV]; unfold wireZ; rw [if_pos h]
      · obtain ⟨h0, _⟩ := Circ.valid_within hv
        rw [Circ.varCount_t hv]
        unfold Opt.fst
        omega
      · have := costV_le hv hp
        omega
    have HVF := Lib.hid hVf
    have HVT := Lib.hid hVt
    clear hl hV hVf hVt
    have q0 := HR2.out.c0
    have q1 := HR2.out.c1
    have q2 := HR2.out.c2
    have q3 := HR2.out.c3
    go_wp2_with fail
    refine (iwire_any i nA gA oA pA nc gc oc l pc ns gs os xs _ HC2.out hcap HP2.out HXL.out (by unfold maxLen; omega)).mono ?_
    rintro e w3 ⟨rfl, hb3⟩
    rw [HV.out]
    have HC3 := Lib.hid ((HC2.out.below hb3).mono hb3.size)
    have HP3 := Lib.hid ((HP2.out.below hb3).mono hb3.size)
    have HL3 := Lib.hid (HL2.out.trans (hb3.mono HL2.out.size))
    have HR3 := Lib.hid (HR2.out.below hb3 hlt2)
    have hlt3 : ca < w3.heap.size := by have := hb3.size; omega
    clear hb3 HC2 HP2 HL2 HR2 q0 q1 q2 q3 hlt2
    have q0 := HR3.out.c0
    have q1 := HR3.out.c1
    have q2 := HR3.out.c2
    have q3 := HR3.out.c3
    go_upto_region 5 with fail
    go_wp2_with fail
    refine (swire_any i nA gA oA pA nc gc oc l pc ns gs os xs _ HC3.out HP3.out HXL.out (by unfold maxLen; omega) hxc).mono ?_
    rintro e w4 ⟨rfl, hb4⟩
    rw [HV.out]
    have HC4 := Lib.hid ((HC3.out.below hb4).mono hb4.size)
    have HP4 := Lib.hid ((HP3.out.below hb4).mono hb4.size)
    have HL4 := Lib.hid (HL3.out.trans (hb4.mono HL3.out.size))
    have HR4 := Lib.hid (HR3.out.below hb4 hlt3)
    have hlt4 : ca < w4.heap.size := by have := hb4.size; omega
    clear hb4 HC3 HP3 HL3 HR3 q0 q1 q2 q3 hlt3
    have q0 := HR4.out.c0
    have q1 := HR4.out.c1
    have q2 := HR4.out.c2
    have q3 := HR4.out.c3
    go_upto_region 7 with fail
    go_wp2_with fail
    refine (svalidP_any i nA gA oA pA nc gc oc l pc ns gs os xs _ HC4.out HP4.out HXL.out (by unfold maxLen; omega) hxc).mono ?_
    rintro e w5 ⟨rfl, hb5⟩
    have HC5 := Lib.hid ((HC4.out.below hb5).mono hb5.size)
    have HL5 := Lib.hid (HL4.out.trans (hb5.mono HL4.out.size))
    have HR5 := Lib.hid (HR4.out.below hb5 hlt4)
    clear hb5 HC4 HP4 HL4 HR4 q0 q1 q2 q3
    cases hv : placeB i ns gs os xs
    · obtain rfl := HVF.out hv
      clear hv
      go_wp2_with (first
        | (go_at_call 11; refine (alive_any _).mono ?_; rintro e w8 ⟨rfl, hb8⟩))
      go_ret
      exact ⟨rfl, HL5.out.trans (hb8.mono HL5.out.size)⟩
    · obtain ⟨kv, N, rfl, hN, hle, hN25⟩ := HVT.out hv
      have HN := Lib.hid hN
      clear hv hN
      have q0 := HR5.out.c0
      have q1 := HR5.out.c1
      have q2 := HR5.out.c2
      have q3 := HR5.out.c3
      go_wp2_with fail
      refine (varCount_any i nA gA oA nc gc oc ns gs os _ HC5.out).mono ?_
      rintro e w7 ⟨rfl, hb7⟩
      rw [HN.out]
      go_wp2
      go_ret
      exact ⟨ret_bool (by simp; omega), HL5.out.trans (hb7.mono HL5.out.size)⟩
end Go.Proofs.YtliaommpnaagiaaGreat
