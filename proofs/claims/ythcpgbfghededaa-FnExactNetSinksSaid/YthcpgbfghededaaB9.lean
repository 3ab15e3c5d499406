/- The contracts of one clock cycle of the program. -/
import Derived.Test.YthcpgbfghededaaB5
import Derived.Test.YthcpgbfghededaaR1
namespace Go.Proofs.Ythcpgbfghededaa
open Go.RowKit Go.Deep

theorem lits_ok {xs : List Int} {c : Int} (h : Circ.litsOk xs c = true) (hc : c ≤ 60) : ∀ k, k < xs.length → 0 ≤ xs.getD k 0 ∧ xs.getD k 0 < 128 := fun k hk => by
  have := Circ.litsOk_get h hk
  omega

theorem valuesOf_ex (g m : Nat) (A : Option Addr) (cap : Nat) (L : List Bool) (xs : List Int) (w : World) (hR : Row w g 110 #[.int .u64 m]) (hB : Circ.Bits m L) (hx : IntsAt w w.heap.size A xs) (hl : xs.length ≤ 1000) (hok : ∀ k, k < xs.length → 0 ≤ xs.getD k 0 ∧ xs.getD k 0 < 128) :
    Calls Try.prog 99 #[.slice (some ⟨g, 0, none⟩) 1 1, .slice A xs.length cap] w fun e w' => ∃ z : Nat, e = .returned (.slice (some ⟨z, 0, none⟩) xs.length xs.length) ∧ w.heap.size ≤ z ∧ z < w'.heap.size ∧ Below w.heap.size w w' ∧ BRow w' z (Circ.litsV L xs) :=
  (valuesOf_any g m A cap L xs w hR hB hx hl hok).mono fun _ _ ⟨he, hb, hr⟩ => ⟨w.heap.size, he, Nat.le_refl _, hr.lt, hb, hr⟩

def StepOut (w : World) (L : List Bool) (ns os : List Int) (e : Ending) (w' : World) : Prop :=
  ∃ z1 z2 : Nat, e = .returned (.agg #[.slice (some ⟨z1, 0, none⟩) os.length os.length, .slice (some ⟨z2, 0, none⟩) ns.length ns.length]) ∧ w.heap.size ≤ z1 ∧ z1 < z2 ∧ BRow w' z1 (Circ.litsV L os) ∧ BRow w' z2 (Circ.litsV L ns) ∧ Below w.heap.size w w'

theorem BRow.far {w : World} {g : Nat} {xs : List Bool} (h : BRow w g xs) (p : Addr) (u : Value) (hp : g ≠ p.block) : BRow (w.setCell p u) g xs := by
  obtain ⟨cs, hr, hf⟩ := h
  exact ⟨cs, hr.far hp u, hf⟩

set_option maxHeartbeats 400000 in
theorem stepValid_any (i : Int) (nA gA oA sA iA : Option Addr) (nc gc oc sc ic : Nat) (ns : List Int) (gs : List (Int × Int)) (os : List Int) (st ins : List Bool) (w : World) (hc : CircAt w w.heap.size nA gA oA ns gs os)
    (hs : BoolsAt w w.heap.size sA st) (hin : BoolsAt w w.heap.size iA ins) (hv : assignB i ns gs os st.length ins.length = true) :
    Calls Try.prog 66 #[.agg #[.int .i64 i, .slice nA ns.length nc, .slice gA gs.length gc, .slice oA os.length oc], .slice sA st.length sc, .slice iA ins.length ic] w (StepOut w (Circ.valsOf gs st ins) ns os) := by
  have HC := Lib.hid hc
  have HS := Lib.hid hs
  have HI := Lib.hid hin
  have HV := Lib.hid hv
  obtain ⟨hv1, hv2, hv3⟩ := assign_inv hv
  obtain ⟨a0, a1, a2, a3, a4⟩ := Circ.valid_within hv1
  have HG := Lib.hid (Circ.valid_gates hv1)
  have HN := Lib.hid (lits_ok (Circ.valid_next hv1) (by omega))
  have HO := Lib.hid (lits_ok (Circ.valid_outs hv1) (by omega))
  have HV2 := Lib.hid hv2
  have HV3 := Lib.hid hv3
  clear hc hs hin hv hv1 hv2 hv3
  have hbw : Below w.heap.size w ((w.alloc (.cells #[.int .i64 i, .slice nA ns.length nc, .slice gA gs.length gc, .slice oA os.length oc] 26)).alloc (.cells #[.slice none 0 0, .slice none 0 0] 47)) := ((Below.refl _ _).alloc (Nat.le_refl _) _).alloc (by simp) _
  have r0 : Row ((w.alloc (.cells #[.int .i64 i, .slice nA ns.length nc, .slice gA gs.length gc, .slice oA os.length oc] 26)).alloc (.cells #[.slice none 0 0, .slice none 0 0] 47)) w.heap.size 26 #[.int .i64 i, .slice nA ns.length nc, .slice gA gs.length gc, .slice oA os.length oc] := (Below.heap_alloc _ _ _ (by simp)).trans (heap_alloc_new w _)
  have r1 : Row ((w.alloc (.cells #[.int .i64 i, .slice nA ns.length nc, .slice gA gs.length gc, .slice oA os.length oc] 26)).alloc (.cells #[.slice none 0 0, .slice none 0 0] 47)) (w.heap.size + 1) 47 #[.slice none 0 0, .slice none 0 0] := by
    have h := heap_alloc_new (w.alloc (.cells #[.int .i64 i, .slice nA ns.length nc, .slice gA gs.length gc, .slice oA os.length oc] 26)) (.cells #[.slice none 0 0, .slice none 0 0] 47)
    simpa [Row] using h
  have HL0 := Lib.hid hbw
  have HR0 := Lib.hid r0
  have HQ0 := Lib.hid r1
  clear hbw r0 r1
  go_enter Try.func66, Try.ntmps66
  go_wp2_with fail
  refine (trueVars_any i nA gA oA sA iA _ nc gc _ oc sc ic gs st ins _ ((HC.out.gates.below HL0.out).mono HL0.out.size) ((HS.out.below HL0.out).mono HL0.out.size) ((HI.out.below HL0.out).mono HL0.out.size) (by omega) (by omega) (by omega) HV2.out HV3.out HG.out).mono ?_
  rintro e w1 ⟨g, m, rfl, hg1, hr1, hB1, hb1⟩
  have HR1 := Lib.hid (HR0.out.below hb1 HR0.out.lt)
  have HQ1 := Lib.hid (HQ0.out.below hb1 HQ0.out.lt)
  have HL1 := Lib.hid (HL0.out.trans (hb1.mono HL0.out.size))
  have HW1 := Lib.hid hr1
  have HB1 := Lib.hid hB1
  have hgB : w.heap.size + 1 < g := Nat.lt_of_lt_of_le HQ0.out.lt hg1
  clear hb1 hr1 hB1 HR0 HL0 HQ0 hg1
  have q1 := HR1.out.cell 1
  have q3 := HR1.out.cell 3
  have p0 := HQ1.out.cell 0
  have p1 := HQ1.out.cell 1
  have f0 := HQ1.out.frozen 0
  have f1 := HQ1.out.frozen 1
  simp at q1 q3 p0 p1
  have hgz := HW1.out.lt
  have hqz := HQ1.out.lt
  have hN3 : ns.length ≤ 1000 := by omega
  have hO3 : os.length ≤ 1000 := by omega
  generalize Circ.valsOf gs st ins = L at *
  go_wp2
  go_region_held3 (fun w' => w'.cell? ⟨w.heap.size, 1, none⟩ = some (.slice nA ns.length nc) ∧ w'.cell? ⟨w.heap.size, 3, none⟩ = some (.slice oA os.length oc))
    (first | go_keep | (revert hb4; intro hb4; refine ⟨?_, ?_⟩; (exact (hc4 _ _ (by omega)).trans ((hc3 _ _ (by simp; omega)).trans q1)); (exact (hc4 _ _ (by omega)).trans ((hc3 _ _ (by simp; omega)).trans q3))) | (revert hb3; intro hb3; refine ⟨?_, ?_⟩; (exact (hc3 _ _ (by simp; omega)).trans q1); (exact (hc3 _ _ (by simp; omega)).trans q3)))
    (first
      | (go_at_call 99; revert hb3; intro hb3; refine (valuesOf_ex g m nA nc L ns _ ?_ ?_ ?_ ?_ ?_).mono ?_; (exact HW1.out.below ((Below.refl _ w1).drew.trans hb3) hgz); (exact HB1.out); (exact (HC.out.next.below (HL1.out.drew.trans (hb3.mono HL1.out.size))).mono (HL1.out.drew.trans (hb3.mono HL1.out.size)).size); (exact hN3); (exact HN.out); rintro e w4 ⟨z2, rfl, hz2, hz2w, hb4, hx4⟩; obtain ⟨hc4, hf4⟩ := bcell hb4; have s0 := (hc4 (w.heap.size + 1) 0 (by omega)).trans ((hc3 _ _ (by simp; omega)).trans p0); have s1 := (hc4 (w.heap.size + 1) 1 (by omega)).trans ((hc3 _ _ (by simp; omega)).trans p1); have t0 := (hf4 (w.heap.size + 1) 0 (by omega)).trans ((hf3 _ _ (by simp; omega)).trans f0); have t1 := (hf4 (w.heap.size + 1) 1 (by omega)).trans ((hf3 _ _ (by simp; omega)).trans f1))
      | (go_at_call 99; refine (valuesOf_ex g m oA oc L os _ ?_ ?_ ?_ ?_ ?_).mono ?_; (exact HW1.out); (exact HB1.out); (exact (HC.out.outs.below HL1.out.drew).mono HL1.out.drew.size); (exact hO3); (exact HO.out); rintro e w3 ⟨z1, rfl, hz1, hz1w, hb3, hx3⟩; obtain ⟨hc3, hf3⟩ := bcell hb3; have hz3 : w1.heap.size ≤ w3.heap.size := hb3.size))
  have hbd : Below w1.heap.size w1 w3 := (Below.refl _ w1).drew.trans hb3
  have hz34 : w3.heap.size ≤ w4.heap.size := hb4.size
  have hz1' : w1.heap.size ≤ z1 := hz1
  have X3 := Lib.hid (hx3.on hb4)
  have X4 := Lib.hid hx4
  have HL4 := Lib.hid ((HL1.out.trans (hbd.mono HL1.out.size)).trans (hb4.mono (Nat.le_trans HL1.out.size hz3)))
  clear hbd hc3 hf3 hc4 hf4 hx3 hx4 hb3 hb4 q1 q3 p0 p1 f0 f1
  go_wp2
  refine bodyPost_ret (v := .agg #[.slice (some ⟨z1, 0, none⟩) os.length os.length, .slice (some ⟨z2, 0, none⟩) ns.length ns.length]) (by simp [results, Try.results66, go_sem, s0, s1]) rfl ⟨z1, z2, rfl, by omega, by omega, ?_, ?_, ?_⟩
  · exact (X3.out.far _ _ (by simp; omega)).far _ _ (by simp; omega)
  · exact (X4.out.far _ _ (by simp; omega)).far _ _ (by simp; omega)
  · exact (HL4.out.setCell (by simp) _).setCell (by simp) _

/-- The outputs, or the next state, of one clock cycle: of an invalid assignment the empty list. -/
def stepV (i : Int) (ns : List Int) (gs : List (Int × Int)) (os : List Int) (st ins : List Bool) (xs : List Int) : List Bool := if assignB i ns gs os st.length ins.length = true then Circ.outV gs xs st ins else []
theorem stepV_t {i : Int} {ns : List Int} {gs : List (Int × Int)} {os : List Int} {st ins : List Bool} (xs : List Int) (h : assignB i ns gs os st.length ins.length = true) : stepV i ns gs os st ins xs = Circ.outV gs xs st ins := if_pos h
theorem stepV_f {i : Int} {ns : List Int} {gs : List (Int × Int)} {os : List Int} {st ins : List Bool} (xs : List Int) (h : assignB i ns gs os st.length ins.length = false) : stepV i ns gs os st ins xs = [] := if_neg (by rw [h]; decide)
theorem stepV_le {i : Int} {ns : List Int} {gs : List (Int × Int)} {os : List Int} (st ins : List Bool) (xs : List Int) (hx : xs.length ≤ 2000000) : (stepV i ns gs os st ins xs).length ≤ 2000000 := by
  cases h : assignB i ns gs os st.length ins.length
  · rw [stepV_f xs h]; simp
  · rw [stepV_t xs h, Circ.outV_len]; exact hx

/-- Two slices, each nil and empty or a block of its own. -/
structure BPair (w : World) (lo : Nat) (A1 A2 : Option Addr) (xs ys : List Bool) : Prop where
  fst : BSl w lo A1 xs
  snd : BSl w lo A2 ys
  ne : ∀ g, A1 = some ⟨g, 0, none⟩ → A2 ≠ some ⟨g, 0, none⟩
theorem BPair.on {w w' : World} {lo : Nat} {A1 A2 : Option Addr} {xs ys : List Bool} (h : BPair w lo A1 A2 xs ys) (hb : Below w.heap.size w w') : BPair w' lo A1 A2 xs ys := ⟨h.fst.on hb, h.snd.on hb, h.ne⟩
theorem Mid.bpair {lo hi : Nat} {w w' : World} (h : Mid lo hi w w') {A1 A2 : Option Addr} {xs ys : List Bool} (hr : BPair w hi A1 A2 xs ys) : BPair w' hi A1 A2 xs ys := ⟨h.bsl hr.fst, h.bsl hr.snd, hr.ne⟩

set_option maxHeartbeats 400000 in
theorem step_any (i : Int) (nA gA oA sA iA : Option Addr) (nc gc oc sc ic : Nat) (ns : List Int) (gs : List (Int × Int)) (os : List Int) (st ins : List Bool) (w : World) (hc : CircAt w w.heap.size nA gA oA ns gs os)
    (hs : BoolsAt w w.heap.size sA st) (hin : BoolsAt w w.heap.size iA ins) :
    Calls Try.prog 29 #[.agg #[.int .i64 i, .slice nA ns.length nc, .slice gA gs.length gc, .slice oA os.length oc], .slice sA st.length sc, .slice iA ins.length ic] w fun e w' =>
      ∃ A1 A2 : Option Addr, e = .returned (.agg #[.slice A1 (stepV i ns gs os st ins os).length (stepV i ns gs os st ins os).length, .slice A2 (stepV i ns gs os st ins ns).length (stepV i ns gs os st ins ns).length]) ∧ BPair w' w.heap.size A1 A2 (stepV i ns gs os st ins os) (stepV i ns gs os st ins ns) ∧ Below w.heap.size w w' := by
  have HC := Lib.hid hc
  have HS := Lib.hid hs
  have HI := Lib.hid hin
  clear hc hs hin
  have hbw : Below w.heap.size w ((w.alloc (.cells #[.int .i64 i, .slice nA ns.length nc, .slice gA gs.length gc, .slice oA os.length oc] 26)).alloc (.cells #[.slice none 0 0, .slice none 0 0] 47)) := ((Below.refl _ _).alloc (Nat.le_refl _) _).alloc (by simp) _
  have r0 : Row ((w.alloc (.cells #[.int .i64 i, .slice nA ns.length nc, .slice gA gs.length gc, .slice oA os.length oc] 26)).alloc (.cells #[.slice none 0 0, .slice none 0 0] 47)) w.heap.size 26 #[.int .i64 i, .slice nA ns.length nc, .slice gA gs.length gc, .slice oA os.length oc] := (Below.heap_alloc _ _ _ (by simp)).trans (heap_alloc_new w _)
  have r1 : Row ((w.alloc (.cells #[.int .i64 i, .slice nA ns.length nc, .slice gA gs.length gc, .slice oA os.length oc] 26)).alloc (.cells #[.slice none 0 0, .slice none 0 0] 47)) (w.heap.size + 1) 47 #[.slice none 0 0, .slice none 0 0] := by
    have h := heap_alloc_new (w.alloc (.cells #[.int .i64 i, .slice nA ns.length nc, .slice gA gs.length gc, .slice oA os.length oc] 26)) (.cells #[.slice none 0 0, .slice none 0 0] 47)
    simpa [Row] using h
  have HL0 := Lib.hid hbw
  have HR0 := Lib.hid r0
  have HQ0 := Lib.hid r1
  clear hbw r0 r1
  go_enter Try.func29, Try.ntmps29
  go_wp2_with fail
  refine (assignValid_any i nA gA oA sA iA nc gc oc _ sc _ ic ns gs os _ ((HC.out.below HL0.out).mono HL0.out.size)).mono ?_
  rintro e w1 ⟨rfl, hb1⟩
  have HR1 := Lib.hid (HR0.out.below hb1 HR0.out.lt)
  have HQ1 := Lib.hid (HQ0.out.below hb1 HQ0.out.lt)
  have HL1 := Lib.hid (HL0.out.trans (hb1.mono HL0.out.size))
  clear hb1 HR0 HQ0 HL0
  have p0 := HQ1.out.cell 0
  have p1 := HQ1.out.cell 1
  have f0 := HQ1.out.frozen 0
  have f1 := HQ1.out.frozen 1
  simp at p0 p1
  cases hv : assignB i ns gs os st.length ins.length
  · have HE := Lib.hid (stepV_f os hv)
    have HF := Lib.hid (stepV_f ns hv)
    clear hv
    go_wp2
    refine bodyPost_ret (v := .agg #[.slice none 0 0, .slice none 0 0]) (by simp [results, Try.results29, go_sem, p0, p1]) rfl ⟨none, none, by rw [HE.out, HF.out]; rfl, ⟨.inl ⟨rfl, HE.out⟩, .inl ⟨rfl, HF.out⟩, fun g h => by cases h⟩, (HL1.out.setCell (by simp) _).setCell (by simp) _⟩
  · have HE := Lib.hid (stepV_t os hv)
    have HF := Lib.hid (stepV_t ns hv)
    have HLE : Hid ((stepV i ns gs os st ins os).length = os.length) := Lib.hid (by rw [HE.out, Circ.outV_len])
    have HLF : Hid ((stepV i ns gs os st ins ns).length = ns.length) := Lib.hid (by rw [HF.out, Circ.outV_len])
    have HV := Lib.hid hv
    clear hv
    have q0 := HR1.out.cell 0
    have q1 := HR1.out.cell 1
    have q2 := HR1.out.cell 2
    have q3 := HR1.out.cell 3
    simp at q0 q1 q2 q3
    go_wp2_with fail
    refine (stepValid_any i nA gA oA sA iA nc gc oc sc ic ns gs os st ins _ ((HC.out.below HL1.out).mono HL1.out.size) ((HS.out.below HL1.out).mono HL1.out.size) ((HI.out.below HL1.out).mono HL1.out.size) HV.out).mono ?_
    rintro e w2 ⟨z1, z2, rfl, hz1, hz2, hx1, hx2, hb2⟩
    have hqz := HQ1.out.lt
    have HQ2 := Lib.hid (HQ1.out.below hb2 HQ1.out.lt)
    have HL2 := Lib.hid (HL1.out.trans (hb2.mono HL1.out.size))
    have X1 := Lib.hid hx1
    have X2 := Lib.hid hx2
    clear hx1 hx2 hb2 HQ1 HL1 HR1 p0 p1 f0 f1 q0 q1 q2 q3
    have p0 := HQ2.out.cell 0
    have p1 := HQ2.out.cell 1
    have f0 := HQ2.out.frozen 0
    have f1 := HQ2.out.frozen 1
    simp at p0 p1
    go_wp2
    refine bodyPost_ret (v := .agg #[.slice (some ⟨z1, 0, none⟩) os.length os.length, .slice (some ⟨z2, 0, none⟩) ns.length ns.length]) (by simp [results, Try.results29, go_sem, p0, p1]) rfl ⟨some ⟨z1, 0, none⟩, some ⟨z2, 0, none⟩, by rw [HLE.out, HLF.out], ⟨.inr ⟨z1, rfl, by omega, ?_⟩, .inr ⟨z2, rfl, by omega, ?_⟩, fun g h h' => ?_⟩, (HL2.out.setCell (by simp) _).setCell (by simp) _⟩
    · rw [HE.out]
      exact (X1.out.far _ _ (by simp; omega)).far _ _ (by simp; omega)
    · rw [HF.out]
      exact (X2.out.far _ _ (by simp; omega)).far _ _ (by simp; omega)
    · injection h with h
      injection h with h
      injection h' with h'
      injection h' with h'
      omega
end Go.Proofs.Ythcpgbfghededaa
