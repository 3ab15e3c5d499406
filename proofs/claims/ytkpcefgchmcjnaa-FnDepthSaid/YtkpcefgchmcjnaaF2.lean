/- The walk of the law FnDepth. -/
import Derived.Test.YtkpcefgchmcjnaaR5
import Derived.Test.YtkpcefgchmcjnaaD4
import Derived.Test.YtkpcefgchmcjnaaL2
import Derived.Deep.RegionLaw
namespace Go.Proofs.Ytkpcefgchmcjnaa
open Go.RowKit Go.Deep

def xr (x : Int) : Int := bits .xor .i64 x 1
theorem xr_half (x : Int) (h0 : 0 ≤ x) (h1 : x < 1000) : xr x / 2 = x / 2 := by
  obtain ⟨a, rfl⟩ := Int.eq_ofNat_of_zero_le h0
  unfold xr
  have h := xor64 a 1 (by omega) (by omega)
  rw [show ((1 : Nat) : Int) = 1 from rfl] at h
  rw [h]
  have := Circ.xor_half a
  omega
theorem xrs_take_snoc {xs : List Int} {k : Nat} (hk : k < xs.length) : ivs ((xs.map xr).take (k + 1)) = ivs ((xs.map xr).take k) ++ [.int .i64 (xr (xs.getD k 0))] := by
  rw [ivs_take_snoc (by simpa using hk)]
  simp [List.getD_eq_getElem?_getD, hk]

set_option maxHeartbeats 1600000 in
theorem fdepth_walk (A : Option Addr) (bl bc : Nat) (w : World) (hb : CodeAt w A bl) (hbl : bl ≤ bc) (hbc : bc ≤ maxLen) :
    Calls Try.prog 5 #[.slice A bl bc] w fun e w' => e = .returned (.bool true) ∧ Below w.heap.size w w' := by
  have HB := Lib.hid hb
  have HBC := Lib.hid hbc
  unfold maxLen at hbc
  clear hb
  by_cases hsz : 1048576 < bl
  · go_enter Try.func5, Try.ntmps5
    go_wp2
    go_ret
    exact ⟨rfl, Below.refl _ _⟩
  · obtain ⟨i3, hi3, hz3, hs3, ht3⟩ := info_parts Try.info3
    have HI3 := Lib.hid hi3
    have HZ3 := Lib.hid hz3
    have HS3 := Lib.hid hs3
    have HT3 := Lib.hid ht3
    clear hi3 hz3 hs3 ht3
    go_enter Try.func5, Try.ntmps5
    go_wp2_with fail
    refine (draw16 A bl bc _ HB.out hbl HBC.out).mono ?_
    rintro e w1 ⟨i, nA, gA, oA, nc, gc, oc, ns, gs, os, rfl, hC1, hn, hg, ho, hgc, hb1⟩
    have hbB : Below w1.heap.size w1 (w1.alloc (.cells #[.int .i64 i, .slice nA ns.length nc, .slice gA gs.length gc, .slice oA os.length oc] 26)) := (Below.refl _ _).alloc (Nat.le_refl _) _
    have HC2 := Lib.hid ((hC1.below hbB).mono hbB.size)
    have HL2 := Lib.hid (hb1.trans (hbB.mono hb1.size))
    have HR2 := Lib.hid (show Row (w1.alloc (.cells #[.int .i64 i, .slice nA ns.length nc, .slice gA gs.length gc, .slice oA os.length oc] 26)) w1.heap.size 26 #[.int .i64 i, .slice nA ns.length nc, .slice gA gs.length gc, .slice oA os.length oc] from heap_alloc_new w1 _)
    clear hC1 hb1 hbB HB HBC hbc
    go_wp2_with fail
    refine (depth_any i nA gA oA nc gc oc ns gs os _ HC2.out).mono ?_
    rintro e w3 ⟨rfl, hb3⟩
    have HC3 := Lib.hid ((HC2.out.below hb3).mono hb3.size)
    have HR3 := Lib.hid (HR2.out.below hb3 HR2.out.lt)
    have HL3 := Lib.hid (HL2.out.trans (hb3.mono HL2.out.size))
    clear hb3 HC2 HR2 HL2
    have q0 := HR3.out.cell 0
    have q1 := HR3.out.cell 1
    have q2 := HR3.out.cell 2
    have q3 := HR3.out.cell 3
    simp at q0 q1 q2 q3
    generalize w1.heap.size = cb at *
    go_wp2_with fail
    refine (sdepth_any i nA gA oA nc gc oc ns gs os _ HC3.out).mono ?_
    rintro e w4 ⟨rfl, hb4⟩
    have HC4 := Lib.hid ((HC3.out.below hb4).mono hb4.size)
    have HR4 := Lib.hid (HR3.out.below hb4 HR3.out.lt)
    have HL4 := Lib.hid (HL3.out.trans (hb4.mono HL3.out.size))
    clear hb4 HC3 HR3 HL3 q0 q1 q2 q3
    have q0 := HR4.out.cell 0
    have q1 := HR4.out.cell 1
    have q2 := HR4.out.cell 2
    have q3 := HR4.out.cell 3
    simp at q0 q1 q2 q3
    go_wp2_with fail
    refine (svalid_any i nA gA oA nc gc oc ns gs os _ HC4.out).mono ?_
    rintro e w5 ⟨rfl, hb5⟩
    have HC5 := Lib.hid ((HC4.out.below hb5).mono hb5.size)
    have HR5 := Lib.hid (HR4.out.below hb5 HR4.out.lt)
    have HL5 := Lib.hid (HL4.out.trans (hb5.mono HL4.out.size))
    clear hb5 HC4 HR4 HL4 q0 q1 q2 q3
    have q0 := HR5.out.cell 0
    have q1 := HR5.out.cell 1
    have q2 := HR5.out.cell 2
    have q3 := HR5.out.cell 3
    simp at q0 q1 q2 q3
    cases hv : Circ.validB i ns gs os
    · have hz := Circ.depth_f hv
      clear hv
      rw [hz]
      clear hz
      go_wp2_with (go_at_call 12; refine (alive_any _).mono ?_; rintro e w6 ⟨rfl, hb6⟩)
      go_ret
      exact ⟨rfl, HL5.out.trans (hb6.mono HL5.out.size)⟩
    · obtain ⟨h0, h1, h2, h3, h4⟩ := Circ.valid_within hv
      obtain ⟨d0, d1⟩ := Circ.depth_bd hv
      obtain ⟨hvx, hdx⟩ := Circ.valid_map xr hv xr_half
      have HDX := Lib.hid hdx
      clear hv hdx hvx
      generalize Circ.depthZ i ns gs os = dv at *
      have hcl : cb < w5.heap.size := HR5.out.lt
      go_wp2
      have RX0 := Lib.hid (show Row ((w5.alloc (.cells #[.int .i64 i, .slice nA ns.length nc, .slice gA gs.length gc, .slice (some ⟨w5.heap.size + 1, 0, none⟩) 0 0] 26)).alloc (.cells #[] 3)) w5.heap.size 26 #[.int .i64 i, .slice nA ns.length nc, .slice gA gs.length gc, .slice (some ⟨w5.heap.size + 1, 0, none⟩) 0 0] from (Below.heap_alloc _ _ _ (by simp)).trans (heap_alloc_new w5 _))
      have OX0 := Lib.hid (show ((w5.alloc (.cells #[.int .i64 i, .slice nA ns.length nc, .slice gA gs.length gc, .slice (some ⟨w5.heap.size + 1, 0, none⟩) 0 0] 26)).alloc (.cells #[] 3)).ownsRow (w5.heap.size + 1) 3 1 (.slice (some ⟨w5.heap.size + 1, 0, none⟩) 0 0) 0 (ivs ((os.map xr).take 0)) from by
        have h := World.ownsRow_lit (base := w5.heap.size + 1) (e := 3) (size := 1) (w5.alloc (.cells #[.int .i64 i, .slice nA ns.length nc, .slice gA gs.length gc, .slice (some ⟨w5.heap.size + 1, 0, none⟩) 0 0] 26)) #[] 0 (by simp) (by simp [maxLen]) (by simp)
        simpa [ivs] using h)
      have BX0 := Lib.hid (show Below w5.heap.size w5 ((w5.alloc (.cells #[.int .i64 i, .slice nA ns.length nc, .slice gA gs.length gc, .slice (some ⟨w5.heap.size + 1, 0, none⟩) 0 0] 26)).alloc (.cells #[] 3)) from ((Below.refl _ _).alloc (Nat.le_refl _) _).alloc (by simp) _)
      clear q0 q1 q2 q3
      generalize (w5.alloc (.cells #[.int .i64 i, .slice nA ns.length nc, .slice gA gs.length gc, .slice (some ⟨w5.heap.size + 1, 0, none⟩) 0 0] 26)).alloc (.cells #[] 3) = w6 at *
      go_loopw [6] (fun iv wr => ∃ (k g cap : Nat), iv = .int .i64 k ∧ k ≤ os.length ∧ Hid (Row wr w5.heap.size 26 #[.int .i64 i, .slice nA ns.length nc, .slice gA gs.length gc, .slice (some ⟨g, 0, none⟩) k cap]) ∧ Hid (wr.ownsRow (w5.heap.size + 1) 3 1 (.slice (some ⟨g, 0, none⟩) k cap) k (ivs ((os.map xr).take k))) ∧ Hid (Below w5.heap.size w5 wr)) (fun iv _ => os.length - (intOf iv).toNat)
      case atStart => exact ⟨0, _, _, rfl, Nat.zero_le _, RX0, OX0, BX0⟩
      case round =>
        clear RX0 OX0 BX0
        obtain ⟨k, g, cap, rfl, hk, RX, OX, BX⟩ := hrel
        have RC := Lib.hid (HR5.out.below BX.out hcl)
        by_cases hlt : k < os.length
        · obtain ⟨b, off, rfl, hbl2, hel⟩ := (HC5.out.outs.below BX.out) k hlt
          have HSN := Lib.hid (xrs_take_snoc hlt)
          generalize os.getD k 0 = v at *
          have q3 := RC.out.cell 3
          have x3 := RX.out.cell 3
          have x3a := fun o => (RX.out.alloc o).cell 3
          simp at q3 x3 x3a
          have k0 : (0 : Int) ≤ (k : Int) := by omega
          have k1 : (k : Int) < (os.length : Int) := by omega
          have hbs := BX.out.size
          go_wp2_with fail
          go_region_law (first
            | (refine step_append_kept _ (by rfl) _ _ _ (by rfl) (w5.heap.size + 1) 3 i3 _ 1 8 Try.underlying23 HI3.out HZ3.out HS3.out HT3.out rfl (by omega) (.slice (some ⟨g, 0, none⟩) k cap) k (ivs ((os.map xr).take k)) (by simp [Act.eval]) ((OX.out.alloc _).drew) ⟨wr.heap.size, 0, none⟩ 1 1 [.int .i64 (xr v)] (by simp [Act.eval]) (by rfl) (World.news_of_block (cs := #[.int .i64 (xr v)]) (t := 3) (fr := (0, 0)) (heap_alloc_new wr _)) (by simp [Value.oneCell']) (by omega) (by simp [maxLen]; omega) (by omega) (by have := RX.out.lt; simp; omega) _ rfl ?_; intro g2 cap2 w7 hown7 hgrow hat hlt7 hkept; have rX := Row.grown (w := (wr.alloc (.cells #[.int .i64 (xr v)] 3)).drew) (RX.out.alloc _) hgrow (own_low OX.out (by omega)); have d3 := rX.cell 3; simp at d3; have f3 := rX.frozen 3; have RXn := Lib.hid (rX.set 3 (.slice (some ⟨g2, 0, none⟩) (k + 1) cap2)); simp at RXn; have OXn := Lib.hid (own_setC hown7 (by omega : w5.heap.size < w5.heap.size + 1) 3 (.slice (some ⟨g2, 0, none⟩) (k + 1) cap2)); have BXn := Lib.hid (((BX.out.alloc BX.out.size (.cells #[.int .i64 (xr v)] 3)).drew.grown hgrow (by simp; omega) (fun j hj => by have := (OX.out.lt j hj).1; omega)).setCell (p := ⟨w5.heap.size, 3, none⟩) (Nat.le_refl _) (.slice (some ⟨g2, 0, none⟩) (k + 1) cap2)); rw [← HSN.out] at OXn; clear rX hown7 hgrow hat hlt7 hkept))
          all_goals
            clear q3 x3 x3a hel
            go_wp2
            go_roundw
            case rel => exact ⟨k + 1, _, _, by go_num, by omega, RXn, OXn, BXn⟩
            case measure => simp [intOf]; omega
        · have hko : k = os.length := by omega
          clear hk hlt
          subst hko
          have q2 := RC.out.cell 2
          have q3 := RC.out.cell 3
          have x0 := RX.out.cell 0
          have x1 := RX.out.cell 1
          have x2 := RX.out.cell 2
          have x3 := RX.out.cell 3
          simp at q2 q3 x0 x1 x2 x3
          have hox := OX.out
          rw [List.take_of_length_le (by simp)] at hox
          have HCX := Lib.hid (CircAt.mk ((HC5.out.next.below BX.out).mono BX.out.size) ((HC5.out.gates.below BX.out).mono BX.out.size) (own_ints hox (by simp)) (by simp [maxLen]; omega) (by simp [maxLen]; omega) (by simp [maxLen]; omega))
          have hcall := depth_any i nA gA (some ⟨g, 0, none⟩) nc gc cap ns gs (os.map xr) wr HCX.out
          rw [List.length_map, HDX.out] at hcall
          have HCL := Lib.hid hcall
          clear hcall hox
          go_wp2_with (go_at_call 17; refine HCL.out.mono ?_; rintro e w8 ⟨rfl, hb8⟩)
          go_ret
          exact ⟨ret_bool (by simp), (HL5.out.trans (BX.out.mono HL5.out.size)).trans (hb8.mono (Nat.le_trans HL5.out.size BX.out.size))⟩
end Go.Proofs.Ytkpcefgchmcjnaa
