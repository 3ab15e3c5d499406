/- The contracts of one clock cycle of the model. -/
import Derived.Test.YthpiddpkcmecfaaB7
import Derived.Test.YthpiddpkcmecfaaB9
namespace Go.Proofs.Ythpiddpkcmecfaa
open Go.RowKit Go.Deep

theorem lits_ok2 {xs : List Int} {c : Int} {n : Nat} (h : Circ.litsOk xs c = true) (hc : c = n) : ∀ k, k < xs.length → 0 ≤ xs.getD k 0 ∧ xs.getD k 0 < 2 * (n : Int) := fun k hk => by
  have := Circ.litsOk_get h hk
  omega

def StepOutS (w : World) (L : List Bool) (ns os : List Int) (e : Ending) (w' : World) : Prop :=
  ∃ z1 z2 c1 c2 : Nat, e = .returned (.agg #[.slice (some ⟨z1, 0, none⟩) os.length c1, .slice (some ⟨z2, 0, none⟩) ns.length c2]) ∧ w.heap.size ≤ z1 ∧ w.heap.size ≤ z2 ∧ BoolsAt w' w'.heap.size (some ⟨z1, 0, none⟩) (Circ.litsV L os) ∧ BoolsAt w' w'.heap.size (some ⟨z2, 0, none⟩) (Circ.litsV L ns) ∧ Below w.heap.size w w'

theorem BoolsAt.far {w : World} {A : Option Addr} {xs : List Bool} (h : BoolsAt w w.heap.size A xs) (p : Addr) (u : Value) (hne : ∀ b off, A = some ⟨b, off, none⟩ → b ≠ p.block) : BoolsAt (w.setCell p u) (w.setCell p u).heap.size A xs := fun k hk => by
  obtain ⟨b, off, e, hlt, hc⟩ := h k hk
  exact ⟨b, off, e, by rw [size_setCell]; exact hlt, (World.cell?_of_block (Below.heap_setCell w p u b (hne b off e))).trans hc⟩

set_option maxHeartbeats 400000 in
theorem l2Step_any (i : Int) (nA gA oA sA iA : Option Addr) (nc gc oc sc ic : Nat) (ns : List Int) (gs : List (Int × Int)) (os : List Int) (st ins : List Bool) (w : World) (hc : CircAt w w.heap.size nA gA oA ns gs os)
    (hs : BoolsAt w w.heap.size sA st) (hin : BoolsAt w w.heap.size iA ins) (hv : assignB i ns gs os st.length ins.length = true) :
    Calls Try.prog 67 #[.agg #[.int .i64 i, .slice nA ns.length nc, .slice gA gs.length gc, .slice oA os.length oc], .slice sA st.length sc, .slice iA ins.length ic] w (StepOutS w (Circ.valsOf gs st ins) ns os) := by
  have HC := Lib.hid hc
  have HS := Lib.hid hs
  have HI := Lib.hid hin
  have HV := Lib.hid hv
  obtain ⟨hv1, hv2, hv3⟩ := assign_inv hv
  obtain ⟨a0, a1, a2, a3, a4⟩ := Circ.valid_within hv1
  have HG := Lib.hid (Circ.valid_gates hv1)
  have hvl := Circ.valsOf_len gs st ins
  generalize hN : (Circ.valsOf gs st ins).length = N at *
  have HNN := Lib.hid hN
  have HN := Lib.hid (lits_ok2 (n := N) (Circ.valid_next hv1) (by omega))
  have HO := Lib.hid (lits_ok2 (n := N) (Circ.valid_outs hv1) (by omega))
  have HV2 := Lib.hid hv2
  have HV3 := Lib.hid hv3
  have hN22 : N ≤ 1000 := by omega
  clear hc hs hin hv hv1 hv2 hv3 hvl hN
  have hbw : Below w.heap.size w ((w.alloc (.cells #[.int .i64 i, .slice nA ns.length nc, .slice gA gs.length gc, .slice oA os.length oc] 26)).alloc (.cells #[.slice none 0 0, .slice none 0 0] 35)) := ((Below.refl _ _).alloc (Nat.le_refl _) _).alloc (by simp) _
  have r0 : Row ((w.alloc (.cells #[.int .i64 i, .slice nA ns.length nc, .slice gA gs.length gc, .slice oA os.length oc] 26)).alloc (.cells #[.slice none 0 0, .slice none 0 0] 35)) w.heap.size 26 #[.int .i64 i, .slice nA ns.length nc, .slice gA gs.length gc, .slice oA os.length oc] := (Below.heap_alloc _ _ _ (by simp)).trans (heap_alloc_new w _)
  have r1 : Row ((w.alloc (.cells #[.int .i64 i, .slice nA ns.length nc, .slice gA gs.length gc, .slice oA os.length oc] 26)).alloc (.cells #[.slice none 0 0, .slice none 0 0] 35)) (w.heap.size + 1) 35 #[.slice none 0 0, .slice none 0 0] := by
    have h := heap_alloc_new (w.alloc (.cells #[.int .i64 i, .slice nA ns.length nc, .slice gA gs.length gc, .slice oA os.length oc] 26)) (.cells #[.slice none 0 0, .slice none 0 0] 35)
    simpa [Row] using h
  have HL0 := Lib.hid hbw
  have HR0 := Lib.hid r0
  have HQ0 := Lib.hid r1
  clear hbw r0 r1
  go_enter Try.func67, Try.ntmps67
  go_wp2_with fail
  refine (l2Values_any i nA gA oA sA iA _ nc gc _ oc sc ic gs st ins _ ((HC.out.gates.below HL0.out).mono HL0.out.size) ((HS.out.below HL0.out).mono HL0.out.size) ((HI.out.below HL0.out).mono HL0.out.size) (by omega) (by omega) (by omega) HV2.out HV3.out HG.out).mono ?_
  rintro e w1 ⟨g, cap, rfl, hg1, hB1, hb1⟩
  have HR1 := Lib.hid (HR0.out.below hb1 HR0.out.lt)
  have HQ1 := Lib.hid (HQ0.out.below hb1 HQ0.out.lt)
  have HL1 := Lib.hid (HL0.out.trans (hb1.mono HL0.out.size))
  have HB1 := Lib.hid hB1
  clear hb1 hB1 HR0 HL0 HQ0 hg1
  have q1 := HR1.out.cell 1
  have q3 := HR1.out.cell 3
  have p0 := HQ1.out.cell 0
  have p1 := HQ1.out.cell 1
  have f0 := HQ1.out.frozen 0
  have f1 := HQ1.out.frozen 1
  simp at q1 q3 p0 p1
  have hqz := HQ1.out.lt
  have hN3 : ns.length ≤ 1000 := by omega
  have hO3 : os.length ≤ 1000 := by omega
  rw [HNN.out]
  generalize Circ.valsOf gs st ins = L at *
  go_wp2
  go_region_held3 (fun w' => w'.cell? ⟨w.heap.size, 1, none⟩ = some (.slice nA ns.length nc) ∧ w'.cell? ⟨w.heap.size, 3, none⟩ = some (.slice oA os.length oc))
    (first | go_keep | (have _t := hb4; refine ⟨?_, ?_⟩; (exact (hc4 _ _ (by omega)).trans ((hc3 _ _ (by simp; omega)).trans q1)); (exact (hc4 _ _ (by omega)).trans ((hc3 _ _ (by simp; omega)).trans q3))) | (have _t := hb3; refine ⟨?_, ?_⟩; (exact (hc3 _ _ (by simp; omega)).trans q1); (exact (hc3 _ _ (by simp; omega)).trans q3)))
    (first
      | (go_at_call 102; have _t := hb3; refine (l2Lits_any (some ⟨g, 0, none⟩) nA N cap nc L ns _ ?_ ?_ ?_ ?_ ?_ ?_).mono ?_; (exact (HB1.out.below ((Below.refl _ w1).drew.trans hb3)).mono hb3.size); (exact HNN.out); (exact hN22); (exact (HC.out.next.below (HL1.out.drew.trans (hb3.mono HL1.out.size))).mono (HL1.out.drew.trans (hb3.mono HL1.out.size)).size); (exact hN3); (exact HN.out); rintro e w4 ⟨z2, c2, rfl, hz2, hx4, hb4⟩; obtain ⟨hc4, hf4⟩ := bcell hb4; have s0 := (hc4 (w.heap.size + 1) 0 (by omega)).trans ((hc3 _ _ (by simp; omega)).trans p0); have s1 := (hc4 (w.heap.size + 1) 1 (by omega)).trans ((hc3 _ _ (by simp; omega)).trans p1); have t0 := (hf4 (w.heap.size + 1) 0 (by omega)).trans ((hf3 _ _ (by simp; omega)).trans f0); have t1 := (hf4 (w.heap.size + 1) 1 (by omega)).trans ((hf3 _ _ (by simp; omega)).trans f1))
      | (go_at_call 102; refine (l2Lits_any (some ⟨g, 0, none⟩) oA N cap oc L os _ ?_ ?_ ?_ ?_ ?_ ?_).mono ?_; (exact HB1.out.below (Below.refl _ w1).drew); (exact HNN.out); (exact hN22); (exact (HC.out.outs.below HL1.out.drew).mono HL1.out.drew.size); (exact hO3); (exact HO.out); rintro e w3 ⟨z1, c1, rfl, hz1, hx3, hb3⟩; obtain ⟨hc3, hf3⟩ := bcell hb3; have hz3 : w1.heap.size ≤ w3.heap.size := hb3.size))
  have hbd : Below w1.heap.size w1 w3 := (Below.refl _ w1).drew.trans hb3
  have hz34 : w3.heap.size ≤ w4.heap.size := hb4.size
  have hz1' : w1.heap.size ≤ z1 := hz1
  have X3 := Lib.hid (hx3.on hb4)
  have X4 := Lib.hid hx4
  have HL4 := Lib.hid ((HL1.out.trans (hbd.mono HL1.out.size)).trans (hb4.mono (Nat.le_trans HL1.out.size hz3)))
  clear hbd hc3 hf3 hc4 hf4 hx3 hx4 hb3 hb4 q1 q3 p0 p1 f0 f1
  go_wp2
  refine bodyPost_ret (v := .agg #[.slice (some ⟨z1, 0, none⟩) os.length c1, .slice (some ⟨z2, 0, none⟩) ns.length c2]) (by simp [results, Try.results67, go_sem, s0, s1]) rfl ⟨z1, z2, c1, c2, rfl, by omega, by omega, ?_, ?_, ?_⟩
  · exact (X3.out.far _ _ (fun _ _ e => ne_of_some e (by simp; omega))).far _ _ (fun _ _ e => ne_of_some e (by simp; omega))
  · exact (X4.out.far _ _ (fun _ _ e => ne_of_some e (by simp; omega))).far _ _ (fun _ _ e => ne_of_some e (by simp; omega))
  · exact (HL4.out.setCell (by simp) _).setCell (by simp) _

end Go.Proofs.Ythpiddpkcmecfaa
