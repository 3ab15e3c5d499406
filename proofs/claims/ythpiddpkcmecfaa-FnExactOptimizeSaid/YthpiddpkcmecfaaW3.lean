/- The contract of the specification's validity test. -/
import Derived.Test.YthpiddpkcmecfaaW2
namespace Go.Proofs.Ythpiddpkcmecfaa
open Go.RowKit

set_option maxHeartbeats 800000 in
theorem svalid_any (i : Int) (nA gA oA : Option Addr) (nc gc oc : Nat) (ns : List Int) (gs : List (Int × Int)) (os : List Int) (w : World) (hc : CircAt w w.heap.size nA gA oA ns gs os) :
    Calls Try.prog 26 #[.agg #[.int .i64 i, .slice nA ns.length nc, .slice gA gs.length gc, .slice oA os.length oc]] w fun e w' => e = .returned (.bool (Circ.validB i ns gs os)) ∧ Below w.heap.size w w' := by
  have HC := Lib.hid hc
  have hnl := hc.nl
  have hgl := hc.gl
  have hol := hc.ol
  unfold maxLen at hnl hgl hol
  clear hc
  by_cases hw : 0 ≤ i ∧ i ≤ 4 ∧ ns.length ≤ 3 ∧ gs.length ≤ 14 ∧ os.length ≤ 3
  · have HW := Lib.hid (Circ.within_t hw)
    obtain ⟨h0, h1, h2, h3, h4⟩ := hw
    have HI := Lib.hid (Circ.in_t h0 h1)
    have HP := Lib.hid hnl
    have HQ := Lib.hid hol
    clear hnl hgl hol
    have d1 : decide (3 < (ns.length : Int)) = false := by simp; omega
    have d2 : decide (14 < (gs.length : Int)) = false := by simp; omega
    have d3 : decide (3 < (os.length : Int)) = false := by simp; omega
    go_enter Try.func26, Try.ntmps26
    go_wp2_with (first
      | (go_at_call 58; refine (l1In_any _ _ _ _).mono ?_; rintro e w1 ⟨rfl, rfl⟩; rw [HI.out])
      | (go_at_call 59; refine (l1First_any _ _ _ _ _ _ _ _ _ _ _ ?_ ?_ ?_).mono ?_; (omega); (omega); (omega); rintro e w1 ⟨rfl, hb1⟩; obtain ⟨hc1, hf1⟩ := bcell hb1))
    have hb2 : Below (w.heap.size + 1) (w.alloc (.cells #[.int .i64 i, .slice nA ns.length nc, .slice gA gs.length gc, .slice oA os.length oc] 26)) w1 := hb1.mono (by simp)
    have c1 : w1.cell? ⟨w.heap.size, 1, none⟩ = some (.slice nA ns.length nc) := (hb2.cell (p := ⟨w.heap.size, 1, none⟩) (by simp)).trans (by simp)
    have c2 : w1.cell? ⟨w.heap.size, 2, none⟩ = some (.slice gA gs.length gc) := (hb2.cell (p := ⟨w.heap.size, 2, none⟩) (by simp)).trans (by simp)
    have c3 : w1.cell? ⟨w.heap.size, 3, none⟩ = some (.slice oA os.length oc) := (hb2.cell (p := ⟨w.heap.size, 3, none⟩) (by simp)).trans (by simp)
    have hB : Below w.heap.size w w1 := ((Below.refl _ _).alloc (Nat.le_refl _) _).trans (hb1.mono (by simp))
    have hz : w.heap.size < w1.heap.size := by have := hb1.size; simp at this; omega
    clear hc1 hf1 hb1 hb2 d1 d2 d3
    go_loopw [4] (fun iv wr => ∃ k : Nat, k ≤ gs.length ∧ iv = .int .i64 k ∧ Hid (Circ.gatesOk (gs.take k) (1 + i + ns.length) = true) ∧ Below w.heap.size w wr ∧ w.heap.size < wr.heap.size ∧
        wr.cell? ⟨w.heap.size, 1, none⟩ = some (.slice nA ns.length nc) ∧ wr.cell? ⟨w.heap.size, 2, none⟩ = some (.slice gA gs.length gc) ∧ wr.cell? ⟨w.heap.size, 3, none⟩ = some (.slice oA os.length oc)) (fun iv _ => gs.length - (intOf iv).toNat)
    case atStart => exact ⟨0, Nat.zero_le _, rfl, Lib.hid (by simp [Circ.gatesOk]), hB, hz, c1, c2, c3⟩
    case round =>
      clear c1 c2 c3 hB hz
      obtain ⟨k, hk, rfl, HR, hbr, hzr, c1, c2, c3⟩ := hrel
      by_cases hlt : k < gs.length
      · obtain ⟨b, off, rfl, hbl, hcA, hcB⟩ := HC.out.gates k hlt
        rw [← hbr.cell (by exact hbl)] at hcA hcB
        have HS := Lib.hid (Circ.gatesOk_snoc2 gs k (1 + i + ns.length) hlt)
        have HF := Lib.hid (fun h => Circ.gatesOk_f2 (gs := gs) (k := k) (f := (1 + i + ns.length)) hlt h)
        have hbw : b < wr.heap.size := by have := hbr.size; omega
        generalize (gs.getD k (0, 0)).1 = va at *
        generalize (gs.getD k (0, 0)).2 = vb at *
        have hk0 : (0 : Int) ≤ (k : Int) := Int.natCast_nonneg _
        have hk1 : (k : Int) < (gs.length : Int) := by omega
        have hwr : IntKind.i64.wrap (1 + i + (ns.length : Int) + (k : Int)) = 1 + i + (ns.length : Int) + (k : Int) := IntWalk.i64_in _ (by omega)
        go_wp2
        go_region_held3 (fun w' => w'.cell? ⟨w.heap.size, 2, none⟩ = some (.slice (some ⟨b, off, none⟩) gs.length gc) ∧ w'.cell? ⟨b, off + k * 2, none⟩ = some (.int .i64 va) ∧ w'.cell? ⟨b, off + k * 2 + 1, none⟩ = some (.int .i64 vb)) (go_keep)
          (first | (go_at_call 60; refine (l1Lits_two va vb _ _ _ _ _ ?_ ?_ ?_ ?_).mono ?_; (simp); (simp); (omega); (omega); rintro e w3 ⟨rfl, rfl⟩))
        clear hwr
        have hB3 := (hbr.alloc hbr.size (.cells #[.int .i64 va, .int .i64 vb] 3)).drew
        generalize Circ.twoOk va vb (1 + i + (ns.length : Int) + (k : Int)) = tv at *
        cases tv
        · go_wp2
          go_ret
          exact ⟨ret_bool (by rw [Circ.validB, HF.out (by trivial)]; simp), hB3⟩
        · go_wp2
          go_roundw
          case rel => exact ⟨k + 1, by omega, by go_num, Lib.hid (by rw [HS.out, HR.out]; rfl), hB3, by simp; omega, (World.cell?_alloc_lt wr _ ⟨w.heap.size, 1, none⟩ hzr).trans c1, (World.cell?_alloc_lt wr _ ⟨w.heap.size, 2, none⟩ hzr).trans c2, (World.cell?_alloc_lt wr _ ⟨w.heap.size, 3, none⟩ hzr).trans c3⟩
          case measure => simp [intOf]; omega
      · have HG := Lib.hid (Circ.gatesOk_all (gs := gs) (k := k) (f := 1 + i + ns.length) (by omega) HR.out)
        have hcn := Lib.hid (HC.out.next.below hbr)
        have hco := Lib.hid (HC.out.outs.below hbr)
        go_wp2_with fail
        refine (l1Lits_any _ _ _ _ _ _ hcn.out HP.out ?_ ?_).mono ?_
        · omega
        · omega
        rintro e w4 ⟨rfl, rfl⟩
        cases hn : Circ.litsOk ns (1 + i + ns.length + gs.length)
        · have HN := Lib.hid hn
          clear hn
          have HV : Hid (Circ.validB i ns gs os = false) := Lib.hid (by rw [Circ.validB, HW.out, HG.out, HN.out]; rfl)
          go_wp2
          go_ret
          exact ⟨ret_bool HV.out.symm, hbr⟩
        · have HN := Lib.hid hn
          clear hn
          have HV : Hid (Circ.validB i ns gs os = Circ.litsOk os (1 + i + ns.length + gs.length)) := Lib.hid (by rw [Circ.validB, HW.out, HG.out, HN.out]; rfl)
          go_wp2_with fail
          refine (l1Lits_any _ _ _ _ _ _ hco.out HQ.out ?_ ?_).mono ?_
          · omega
          · omega
          rintro e w4 ⟨rfl, rfl⟩
          go_wp2
          go_ret
          exact ⟨ret_bool HV.out.symm, hbr⟩
  · have HV : Hid (Circ.validB i ns gs os = false) := Lib.hid (by rw [Circ.validB, Circ.within_f hw]; rfl)
    by_cases h0 : 0 ≤ i ∧ i ≤ 4
    · have HI := Lib.hid (Circ.in_t h0.1 h0.2)
      by_cases h2 : ns.length ≤ 3
      · by_cases h3 : gs.length ≤ 14
        · have h4 : ¬ os.length ≤ 3 := fun h4 => hw ⟨h0.1, h0.2, h2, h3, h4⟩
          clear hw h0
          go_enter Try.func26, Try.ntmps26
          go_wp2_with (go_at_call 58; refine (l1In_any _ _ _ _).mono ?_; rintro e w1 ⟨rfl, rfl⟩; rw [HI.out])
          go_ret
          exact ⟨ret_bool HV.out.symm, (Below.refl _ _).alloc (Nat.le_refl _) _⟩
        · clear hw h0
          go_enter Try.func26, Try.ntmps26
          go_wp2_with (go_at_call 58; refine (l1In_any _ _ _ _).mono ?_; rintro e w1 ⟨rfl, rfl⟩; rw [HI.out])
          go_ret
          exact ⟨ret_bool HV.out.symm, (Below.refl _ _).alloc (Nat.le_refl _) _⟩
      · clear hw h0
        go_enter Try.func26, Try.ntmps26
        go_wp2_with (go_at_call 58; refine (l1In_any _ _ _ _).mono ?_; rintro e w1 ⟨rfl, rfl⟩; rw [HI.out])
        go_ret
        exact ⟨ret_bool HV.out.symm, (Below.refl _ _).alloc (Nat.le_refl _) _⟩
    · have HI := Lib.hid (Circ.in_f (a := i) (lo := 0) (hi := 4) (by omega))
      clear hw h0
      go_enter Try.func26, Try.ntmps26
      go_wp2_with (go_at_call 58; refine (l1In_any _ _ _ _).mono ?_; rintro e w1 ⟨rfl, rfl⟩; rw [HI.out])
      go_ret
      exact ⟨ret_bool HV.out.symm, (Below.refl _ _).alloc (Nat.le_refl _) _⟩
end Go.Proofs.Ythpiddpkcmecfaa
