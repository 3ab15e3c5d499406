/- The contracts of the laws' comparison of circuits. -/
import Derived.Test.YthpiddpkcmecfaaW6
import Derived.Test.YthpiddpkcmecfaaE6
import Derived.Test.YthpiddpkcmecfaaQA
namespace Go.Proofs.Ythpiddpkcmecfaa
open Go.RowKit Go.Deep

set_option maxHeartbeats 400000 in
theorem sameInts_any (A A' : Option Addr) (cap cap' : Nat) (xs : List Int) (w : World) (hx : IntsAt w w.heap.size A xs) (hy : IntsAt w w.heap.size A' xs) (hl : xs.length ≤ 2000000) :
    Calls Try.prog 49 #[.slice A xs.length cap, .slice A' xs.length cap'] w fun e w' => e = .returned (.bool true) ∧ Below w.heap.size w w' := by
  have HX := Lib.hid hx
  have HY := Lib.hid hy
  clear hx hy
  generalize hn : xs.length = n at *
  have HN := Lib.hid hn
  clear hn
  go_enter Try.func49, Try.ntmps49
  go_wp2
  go_loopw [5] (fun iv wr => ∃ (k : Nat), k ≤ n ∧ iv = .int .i64 k ∧ Below w.heap.size w wr) (fun iv _ => n - (intOf iv).toNat)
  case atStart => exact ⟨0, Nat.zero_le _, rfl, Below.refl _ _⟩
  case round =>
    obtain ⟨k, hk, rfl, hbr⟩ := hrel
    by_cases hlt : k < n
    · obtain ⟨b, off, rfl, hbl, hcA⟩ := HX.out k (by rw [HN.out]; exact hlt)
      obtain ⟨b', off', rfl, hbl', hcB⟩ := HY.out k (by rw [HN.out]; exact hlt)
      rw [← hbr.cell (by exact hbl)] at hcA
      rw [← hbr.cell (by exact hbl')] at hcB
      generalize xs.getD k 0 = v at *
      have hk0 : (0 : Int) ≤ (k : Int) := Int.natCast_nonneg _
      have hk1 : (k : Int) < (n : Int) := by omega
      go_wp2
      go_quiet (fail)
      go_wp2
      go_roundw
      case rel => exact ⟨k + 1, by omega, by go_num, below_drewN hbr _⟩
      case measure => simp [intOf]; omega
    · go_wp2
      go_ret
      exact ⟨rfl, hbr⟩

set_option maxHeartbeats 800000 in
theorem sameCircuit_any (i : Int) (nA gA oA nA' gA' oA' : Option Addr) (nc gc oc nc' gc' oc' : Nat) (ns : List Int) (gs : List (Int × Int)) (os : List Int) (w : World) (hc : CircAt w w.heap.size nA gA oA ns gs os)
    (hd : CircAt w w.heap.size nA' gA' oA' ns gs os) (hnl : ns.length ≤ 2000000) (hgl : gs.length ≤ 2000000) (hol : os.length ≤ 2000000) :
    Calls Try.prog 16 #[.agg #[.int .i64 i, .slice nA ns.length nc, .slice gA gs.length gc, .slice oA os.length oc], .agg #[.int .i64 i, .slice nA' ns.length nc', .slice gA' gs.length gc', .slice oA' os.length oc']] w fun e w' => e = .returned (.bool true) ∧ Below w.heap.size w w' := by
  have HC := Lib.hid hc
  have HD := Lib.hid hd
  clear hc hd
  have hb0 : Below w.heap.size w ((w.alloc (.cells #[.int .i64 i, .slice nA ns.length nc, .slice gA gs.length gc, .slice oA os.length oc] 26)).alloc (.cells #[.int .i64 i, .slice nA' ns.length nc', .slice gA' gs.length gc', .slice oA' os.length oc'] 26)) :=
    ((Below.refl _ _).alloc (Nat.le_refl _) _).alloc (by simp) _
  have r1 : Row ((w.alloc (.cells #[.int .i64 i, .slice nA ns.length nc, .slice gA gs.length gc, .slice oA os.length oc] 26)).alloc (.cells #[.int .i64 i, .slice nA' ns.length nc', .slice gA' gs.length gc', .slice oA' os.length oc'] 26)) w.heap.size 26 #[.int .i64 i, .slice nA ns.length nc, .slice gA gs.length gc, .slice oA os.length oc] :=
    (Below.heap_alloc _ _ _ (by simp)).trans (heap_alloc_new w _)
  have r2 : Row ((w.alloc (.cells #[.int .i64 i, .slice nA ns.length nc, .slice gA gs.length gc, .slice oA os.length oc] 26)).alloc (.cells #[.int .i64 i, .slice nA' ns.length nc', .slice gA' gs.length gc', .slice oA' os.length oc'] 26)) (w.heap.size + 1) 26 #[.int .i64 i, .slice nA' ns.length nc', .slice gA' gs.length gc', .slice oA' os.length oc'] := by
    have := heap_alloc_new (w.alloc (.cells #[.int .i64 i, .slice nA ns.length nc, .slice gA gs.length gc, .slice oA os.length oc] 26)) (.cells #[.int .i64 i, .slice nA' ns.length nc', .slice gA' gs.length gc', .slice oA' os.length oc'] 26)
    simpa [Row] using this
  have HL0 := Lib.hid hb0
  have HR1 := Lib.hid r1
  have HR2 := Lib.hid r2
  clear hb0 r1 r2
  go_enter Try.func16, Try.ntmps16
  go_wp2_with fail
  refine (sameInts_any nA nA' nc nc' ns _ ((HC.out.next.below HL0.out).mono HL0.out.size) ((HD.out.next.below HL0.out).mono HL0.out.size) hnl).mono ?_
  rintro e w1 ⟨rfl, hb1⟩
  have HL1 := Lib.hid (HL0.out.trans (hb1.mono HL0.out.size))
  have HA1 := Lib.hid (HR1.out.below hb1 HR1.out.lt)
  have HA2 := Lib.hid (HR2.out.below hb1 HR2.out.lt)
  clear hb1 HR1 HR2
  have a2 := HA1.out.cell 2
  have a3 := HA1.out.cell 3
  have d2 := HA2.out.cell 2
  have d3 := HA2.out.cell 3
  simp at a2 a3 d2 d3
  go_wp2_with fail
  refine (sameInts_any oA oA' oc oc' os _ ((HC.out.outs.below HL1.out).mono HL1.out.size) ((HD.out.outs.below HL1.out).mono HL1.out.size) hol).mono ?_
  rintro e w2 ⟨rfl, hb2⟩
  have HL2 := Lib.hid (HL1.out.trans (hb2.mono HL1.out.size))
  have HB1 := Lib.hid (HA1.out.below hb2 HA1.out.lt)
  have HB2 := Lib.hid (HA2.out.below hb2 HA2.out.lt)
  have l1 := HA1.out.lt
  have l2 := HA2.out.lt
  have l3 := hb2.size
  clear hb2 HA1 HA2 a2 a3 d2 d3 HL0 HL1
  generalize hn : gs.length = n at *
  have HN := Lib.hid hn
  clear hn
  have hz2 : w.heap.size + 2 ≤ w2.heap.size := by omega
  go_wp2
  go_loopw [5] (fun iv wr => ∃ (k : Nat), k ≤ n ∧ iv = .int .i64 k ∧ Hid (Below (w.heap.size + 2) w2 wr)) (fun iv _ => n - (intOf iv).toNat)
  case atStart => exact ⟨0, Nat.zero_le _, rfl, Lib.hid (Below.refl _ _)⟩
  case round =>
    obtain ⟨k, hk, rfl, HBr⟩ := hrel
    have a2 := (HB1.out.below HBr.out (by omega)).cell 2
    have d2 := (HB2.out.below HBr.out (by omega)).cell 2
    simp at a2 d2
    have hLr : Below w.heap.size w wr := HL2.out.trans (HBr.out.mono (by omega))
    by_cases hlt : k < n
    · obtain ⟨b, off, rfl, hbl, hcA, hcA2⟩ := HC.out.gates k (by rw [HN.out]; exact hlt)
      obtain ⟨b', off', rfl, hbl', hcB, hcB2⟩ := HD.out.gates k (by rw [HN.out]; exact hlt)
      rw [← hLr.cell (by exact hbl)] at hcA hcA2
      rw [← hLr.cell (by exact hbl')] at hcB hcB2
      generalize (gs.getD k (0, 0)).1 = va at *
      generalize (gs.getD k (0, 0)).2 = vb at *
      have hk0 : (0 : Int) ≤ (k : Int) := Int.natCast_nonneg _
      have hk1 : (k : Int) < (n : Int) := by omega
      clear hLr
      go_wp2
      go_quiet (fail)
      go_wp2
      go_roundw
      case rel => exact ⟨k + 1, by omega, by go_num, Lib.hid (below_drewN HBr.out _)⟩
      case measure => simp [intOf]; omega
    · go_wp2
      go_ret
      exact ⟨rfl, hLr⟩
end Go.Proofs.Ythpiddpkcmecfaa
/- The optimization as one contract for valid and invalid circuits: the circuit that is answered, and that both sides answer it. -/
namespace Circ
open Opt
def zI (i : Int) (ns : List Int) (gs : List (Int × Int)) (os : List Int) : Int := if validB i ns gs os = true then i else 0
def zN (i : Int) (ns : List Int) (gs : List (Int × Int)) (os : List Int) : List Int := if validB i ns gs os = true then optN i ns gs os else []
def zG (i : Int) (ns : List Int) (gs : List (Int × Int)) (os : List Int) : List (Int × Int) := if validB i ns gs os = true then optG i ns gs os else []
def zO (i : Int) (ns : List Int) (gs : List (Int × Int)) (os : List Int) : List Int := if validB i ns gs os = true then optO i ns gs os else []
section
variable {i : Int} {ns : List Int} {gs : List (Int × Int)} {os : List Int}
theorem z_t (h : validB i ns gs os = true) : zI i ns gs os = i ∧ zN i ns gs os = optN i ns gs os ∧ zG i ns gs os = optG i ns gs os ∧ zO i ns gs os = optO i ns gs os := ⟨if_pos h, if_pos h, if_pos h, if_pos h⟩
theorem z_f (h : validB i ns gs os = false) : zI i ns gs os = 0 ∧ zN i ns gs os = [] ∧ zG i ns gs os = [] ∧ zO i ns gs os = [] := by
  have h' : ¬ validB i ns gs os = true := by rw [h]; decide
  exact ⟨if_neg h', if_neg h', if_neg h', if_neg h'⟩
theorem z_le : (zN i ns gs os).length ≤ 3 ∧ (zG i ns gs os).length ≤ 14 ∧ (zO i ns gs os).length ≤ 3 := by
  cases h : validB i ns gs os
  · obtain ⟨_, b, c, d⟩ := z_f h
    rw [b, c, d]; simp
  · obtain ⟨_, b, c, d⟩ := z_t h
    have hw := valid_within h
    have hg := optG_len h
    rw [b, c, d, optN_len h, optO_len h]
    omega
theorem z_valid : validB (zI i ns gs os) (zN i ns gs os) (zG i ns gs os) (zO i ns gs os) = true := by
  cases h : validB i ns gs os
  · obtain ⟨a, b, c, d⟩ := z_f h
    rw [a, b, c, d]; rfl
  · obtain ⟨a, b, c, d⟩ := z_t h
    rw [a, b, c, d]; exact opt_valid h
end
end Circ
namespace Go.Proofs.Ythpiddpkcmecfaa
open Go.RowKit Go.Deep
set_option maxRecDepth 100000

def OptRes (w : World) (i : Int) (ns : List Int) (gs : List (Int × Int)) (os : List Int) (e : Ending) (w' : World) : Prop :=
  ∃ (nA gA oA : Option Addr) (nc gc oc : Nat), e = .returned (.agg #[.int .i64 (Circ.zI i ns gs os), .slice nA (Circ.zN i ns gs os).length nc, .slice gA (Circ.zG i ns gs os).length gc, .slice oA (Circ.zO i ns gs os).length oc]) ∧ CircAt w' w'.heap.size nA gA oA (Circ.zN i ns gs os) (Circ.zG i ns gs os) (Circ.zO i ns gs os) ∧ Below w.heap.size w w'

theorem circ_nil (w : World) (B : Nat) : CircAt w B none none none [] [] [] := ⟨fun k hk => absurd hk (by simp), fun k hk => absurd hk (by simp), fun k hk => absurd hk (by simp), by simp, by simp, by simp⟩
theorem OptRes.zero {w w' : World} {i : Int} {ns : List Int} {gs : List (Int × Int)} {os : List Int} {e : Ending} (h : Circ.validB i ns gs os = false) (hz : ZeroOut w e w') : OptRes w i ns gs os e w' := by
  obtain ⟨a, b, c, d⟩ := Circ.z_f h
  refine ⟨none, none, none, 0, 0, 0, ?_, ?_, hz.2⟩
  · rw [a, b, c, d]; exact hz.1
  · rw [b, c, d]; exact circ_nil _ _
theorem OptRes.mk {w w' : World} {i : Int} {ns : List Int} {gs : List (Int × Int)} {os : List Int} {e : Ending} (h : Circ.validB i ns gs os = true) {nA gA oA : Option Addr} {nc gc oc : Nat} (he : e = .returned (.agg #[.int .i64 i, .slice nA ns.length nc, .slice gA (Opt.optC i ns gs os).gs.length gc, .slice oA os.length oc]))
    (hC : CircAt w' w'.heap.size nA gA oA (Opt.intL (Opt.optC i ns gs os).ns) (Opt.intG (Opt.optC i ns gs os).gs) (Opt.intL (Opt.optC i ns gs os).os)) (hb : Below w.heap.size w w') : OptRes w i ns gs os e w' := by
  obtain ⟨a, b, c, d⟩ := Circ.z_t h
  refine ⟨nA, gA, oA, nc, gc, oc, ?_, ?_, hb⟩
  · rw [a, b, c, d, Opt.optN_len h, Opt.optO_len h, show (Opt.optG i ns gs os).length = (Opt.optC i ns gs os).gs.length from Opt.intG_len _]
    exact he
  · rw [b, c, d]; exact hC
theorem spec_opt_any (i : Int) (nA gA oA : Option Addr) (nc gc oc : Nat) (ns : List Int) (gs : List (Int × Int)) (os : List Int) (w : World) (hc : CircAt w w.heap.size nA gA oA ns gs os) :
    Calls Try.prog 17 #[.agg #[.int .i64 i, .slice nA ns.length nc, .slice gA gs.length gc, .slice oA os.length oc]] w (OptRes w i ns gs os) := by
  cases hv : Circ.validB i ns gs os
  · exact (spec_opt_f i nA gA oA nc gc oc ns gs os w hc hv).mono fun _ _ h => OptRes.zero hv h
  · exact (spec_opt_t i nA gA oA nc gc oc ns gs os w hc hv).mono fun _ _ ⟨_, _, _, _, _, _, he, hC, _, _, _, hb⟩ => OptRes.mk hv he hC hb
theorem impl_opt_any (i : Int) (nA gA oA : Option Addr) (nc gc oc : Nat) (ns : List Int) (gs : List (Int × Int)) (os : List Int) (w : World) (hc : CircAt w w.heap.size nA gA oA ns gs os) :
    Calls Try.prog 15 #[.agg #[.int .i64 i, .slice nA ns.length nc, .slice gA gs.length gc, .slice oA os.length oc]] w (OptRes w i ns gs os) := by
  cases hv : Circ.validB i ns gs os
  · exact (impl_opt_f i nA gA oA nc gc oc ns gs os w hc hv).mono fun _ _ h => OptRes.zero hv h
  · refine (impl_opt_t i nA gA oA nc gc oc ns gs os w hc hv).mono fun e w' ⟨g1, g3, vG, he, hO, hb⟩ => ?_
    obtain ⟨_, hrg, hro, hrn⟩ := Opt.optC_form hv
    have hw := Circ.valid_within hv
    obtain ⟨A, cap, rfl, hC⟩ := hO.circ (by unfold maxLen; omega) (by unfold maxLen; omega) (by unfold maxLen; omega)
    exact OptRes.mk hv he hC hb
end Go.Proofs.Ythpiddpkcmecfaa
