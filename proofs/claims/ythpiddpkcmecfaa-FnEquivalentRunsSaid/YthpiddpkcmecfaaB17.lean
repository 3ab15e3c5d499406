/- The contracts of the laws' comparison of lists of truth values. -/
import Derived.Test.YthpiddpkcmecfaaB1
import Derived.Test.YthpiddpkcmecfaaB15
import Derived.Test.YthpiddpkcmecfaaB9
namespace Go.Proofs.Ythpiddpkcmecfaa
open Go.RowKit Go.Deep

set_option maxHeartbeats 400000 in
theorem sameBools_len (A A' : Option Addr) (n cap cap' : Nat) (xs : List Bool) (w : World) (hn : xs.length = n) (hx : BoolsAt w w.heap.size A xs) (hy : BoolsAt w w.heap.size A' xs) (hl : n ≤ 2000000) :
    Calls Try.prog 22 #[.slice A n cap, .slice A' n cap'] w fun e w' => e = .returned (.bool true) ∧ Below w.heap.size w w' := by
  have HX := Lib.hid hx
  have HY := Lib.hid hy
  have HN := Lib.hid hn
  clear hx hy hn
  go_enter Try.func22, Try.ntmps22
  go_wp2
  go_loopw [5] (fun iv wr => ∃ (k : Nat), k ≤ n ∧ iv = .int .i64 k ∧ Below w.heap.size w wr) (fun iv _ => n - (intOf iv).toNat)
  case atStart => exact ⟨0, Nat.zero_le _, rfl, Below.refl _ _⟩
  case round =>
    obtain ⟨k, hk, rfl, hbr⟩ := hrel
    by_cases hlt : k < n
    · obtain ⟨b, off, rfl, hbl, hcA⟩ := HX.out k (by rw [HN.out]; exact hlt)
      obtain ⟨b', off', rfl, hbl', hcB⟩ := HY.out k (by rw [HN.out]; exact hlt)
      rw [← hbr.cell (by exact hbl)] at hcA
      rw [← hbr.cell (by exact hbl')] at hcB
      generalize xs.getD k false = v at *
      have hk0 : (0 : Int) ≤ (k : Int) := Int.natCast_nonneg _
      have hk1 : (k : Int) < (n : Int) := by omega
      cases v
      all_goals
        go_wp2
        go_quiet (fail)
        go_wp2
        go_roundw
        case rel => exact ⟨k + 1, by omega, by go_num, below_drewN hbr _⟩
        case measure => simp [intOf]; omega
    · go_wp2
      go_ret
      exact ⟨rfl, hbr⟩
end Go.Proofs.Ythpiddpkcmecfaa
/- The contracts of Simulate of the program. -/
namespace Circ
def lensB (i : Int) (rs : List (List Bool)) : Bool := rs.all fun r => decide ((r.length : Int) = i)
def rowsB (i : Int) (rs : List (List Bool)) : Bool := decide (rs.length ≤ 40) && lensB i rs
theorem lensB_snoc (i : Int) (rs : List (List Bool)) (k : Nat) (hk : k < rs.length) : lensB i (rs.take (k + 1)) = (lensB i (rs.take k) && decide (((rs.getD k []).length : Int) = i)) := by
  unfold lensB
  rw [List.take_succ_eq_append_getElem hk, List.all_append]
  simp only [List.getD_eq_getElem?_getD, List.getElem?_eq_getElem hk, List.all_cons, List.all_nil, Bool.and_true, Option.getD_some]
theorem lensB_f {i : Int} {rs : List (List Bool)} {k : Nat} (hk : k < rs.length) (h : ¬ ((rs.getD k []).length : Int) = i) : lensB i rs = false := by
  unfold lensB
  rw [List.all_eq_false]
  refine ⟨rs[k], List.getElem_mem hk, ?_⟩
  simpa [List.getD_eq_getElem?_getD, hk] using h
theorem lensB_get {i : Int} {rs : List (List Bool)} (h : lensB i rs = true) {k : Nat} (hk : k < rs.length) : ((rs.getD k []).length : Int) = i := by
  unfold lensB at h
  rw [List.all_eq_true] at h
  have := h rs[k] (List.getElem_mem hk)
  simpa [List.getD_eq_getElem?_getD, hk] using this
theorem simV_get (gs : List (Int × Int)) (os ns : List Int) (rs : List (List Bool)) (st : List Bool) (k : Nat) (hk : k < rs.length) : (simV gs os ns rs st).getD k [] = outV gs os (runV gs ns (rs.take k) st) (rs.getD k []) := by
  induction rs generalizing st k with
  | nil => simp at hk
  | cons r rs ih =>
    cases k with
    | zero => rfl
    | succ k =>
      simp only [simV, List.getD_cons_succ, List.take_succ_cons, runV]
      exact ih _ _ (by simpa using hk)
def simulV (i : Int) (ns : List Int) (gs : List (Int × Int)) (os : List Int) (rs : List (List Bool)) : List (List Bool) := if (validB i ns gs os && rowsB i rs) = true then simV gs os ns rs (List.replicate ns.length false) else []
end Circ
namespace Go.Proofs.Ythpiddpkcmecfaa
open Go.RowKit Go.Deep

set_option maxHeartbeats 400000 in
theorem rowsValid_any (i : Int) (nA gA oA rA : Option Addr) (nl nc gl gc ol oc rc : Nat) (rs : List (List Bool)) (w : World) (hr : RowsAt w w.heap.size rA rs) (hl : rs.length ≤ maxLen) :
    Calls Try.prog 57 #[.agg #[.int .i64 i, .slice nA nl nc, .slice gA gl gc, .slice oA ol oc], .slice rA rs.length rc] w fun e w' => e = .returned (.bool (Circ.rowsB i rs)) ∧ Below w.heap.size w w' := by
  have HX := Lib.hid hr
  unfold maxLen at hl
  clear hr
  have hbw : Below w.heap.size w (w.alloc (.cells #[.int .i64 i, .slice nA nl nc, .slice gA gl gc, .slice oA ol oc] 26)) := (Below.refl _ _).alloc (Nat.le_refl _) _
  have r0 : Row (w.alloc (.cells #[.int .i64 i, .slice nA nl nc, .slice gA gl gc, .slice oA ol oc] 26)) w.heap.size 26 #[.int .i64 i, .slice nA nl nc, .slice gA gl gc, .slice oA ol oc] := heap_alloc_new w _
  have HL0 := Lib.hid hbw
  have HR0 := Lib.hid r0
  clear hbw r0
  by_cases h40 : rs.length ≤ 40
  · have HB : Hid (Circ.rowsB i rs = Circ.lensB i rs) := Lib.hid (by rw [Circ.rowsB, decide_eq_true h40]; rfl)
    generalize hn : rs.length = n at *
    have HN := Lib.hid hn
    clear hn
    go_enter Try.func57, Try.ntmps57
    go_wp2
    go_loopw [12] (fun iv wr => ∃ k : Nat, k ≤ n ∧ iv = .int .i64 k ∧ Hid (Circ.lensB i (rs.take k) = true) ∧ Hid (Row wr w.heap.size 26 #[.int .i64 i, .slice nA nl nc, .slice gA gl gc, .slice oA ol oc]) ∧ Below w.heap.size w wr) (fun iv _ => n - (intOf iv).toNat)
    case atStart => exact ⟨0, Nat.zero_le _, rfl, Lib.hid (by simp [Circ.lensB]), HR0, HL0.out⟩
    case round =>
      obtain ⟨k, hk, rfl, HT, HR, hbr⟩ := hrel
      by_cases hlt : k < n
      · obtain ⟨b, off, rfl, hbl, A', cap', hcell, _⟩ := HX.out k (by rw [HN.out]; exact hlt)
        rw [← hbr.cell (by exact hbl)] at hcell
        have HS := Lib.hid (Circ.lensB_snoc i rs k (by rw [HN.out]; exact hlt))
        have HF := Lib.hid (fun h => Circ.lensB_f (i := i) (rs := rs) (k := k) (by rw [HN.out]; exact hlt) h)
        have q0 := HR.out.cell 0
        simp at q0
        generalize (rs.getD k []).length = rl at *
        by_cases he : (rl : Int) = i
        · have e1 : ((rl : Int) != i) = false := by simp [he]
          have HE : Hid ((rl : Int) = i) := Lib.hid he
          clear he
          go_wp2
          go_roundw
          case rel => exact ⟨k + 1, by omega, by go_num, Lib.hid (by rw [HS.out, HT.out, decide_eq_true HE.out]; rfl), HR, hbr⟩
          case measure => simp [intOf]; omega
        · have e1 : ((rl : Int) != i) = true := by simp [he]
          have HE : Hid (¬ (rl : Int) = i) := Lib.hid he
          clear he
          go_wp2
          go_ret
          exact ⟨ret_bool (by rw [HB.out, HF.out HE.out]), hbr⟩
      · go_wp2
        go_ret
        exact ⟨ret_bool (by rw [HB.out]; have := HT.out; rw [List.take_of_length_le (by rw [HN.out]; omega)] at this; rw [this]), hbr⟩
  · have HB : Hid (Circ.rowsB i rs = false) := Lib.hid (by rw [Circ.rowsB, decide_eq_false h40]; rfl)
    go_enter Try.func57, Try.ntmps57
    go_wp2
    go_ret
    exact ⟨ret_bool HB.out.symm, HL0.out⟩

theorem BRow.made (w : World) (n : Nat) : BRow (w.alloc (.cells (madeCells #[.bool false] n) 4)) w.heap.size (List.replicate n false) := by
  refine ⟨_, heap_alloc_new w _, by rw [size_madeCells]; simp, fun j hj => ?_⟩
  have hj' : j < n := by simpa using hj
  simp [madeCells, hj', Nat.mod_one, List.getD_eq_getElem?_getD]

theorem stepValid_len (i : Int) (nA gA oA sA iA : Option Addr) (nc gc oc sl sc ic : Nat) (ns : List Int) (gs : List (Int × Int)) (os : List Int) (st ins : List Bool) (w : World) (hsl : st.length = sl) (hc : CircAt w w.heap.size nA gA oA ns gs os)
    (hs : BoolsAt w w.heap.size sA st) (hin : BoolsAt w w.heap.size iA ins) (hv : assignB i ns gs os st.length ins.length = true) :
    Calls Try.prog 56 #[.agg #[.int .i64 i, .slice nA ns.length nc, .slice gA gs.length gc, .slice oA os.length oc], .slice sA sl sc, .slice iA ins.length ic] w (StepOut w (Circ.valsOf gs st ins) ns os) := by
  subst hsl
  exact stepValid_any i nA gA oA sA iA nc gc oc sc ic ns gs os st ins w hc hs hin hv

set_option maxHeartbeats 1000000 in
theorem simulate_t (i : Int) (nA gA oA rA : Option Addr) (nc gc oc rc : Nat) (ns : List Int) (gs : List (Int × Int)) (os : List Int) (rs : List (List Bool)) (w : World) (hc : CircAt w w.heap.size nA gA oA ns gs os) (hr : RowsAt w w.heap.size rA rs)
    (hv : Circ.validB i ns gs os = true) (hw : Circ.rowsB i rs = true) :
    Calls Try.prog 24 #[.agg #[.int .i64 i, .slice nA ns.length nc, .slice gA gs.length gc, .slice oA os.length oc], .slice rA rs.length rc] w fun e w' =>
      ∃ g : Nat, e = .returned (.slice (some ⟨g, 0, none⟩) rs.length rs.length) ∧ w.heap.size ≤ g ∧ RRow w' g (Circ.simV gs os ns rs (List.replicate ns.length false)) ∧ Below w.heap.size w w' := by
  have HC := Lib.hid hc
  have HX := Lib.hid hr
  have HV := Lib.hid hv
  have HW := Lib.hid hw
  obtain ⟨a0, a1, a2, a3, a4⟩ := Circ.valid_within hv
  have h40 : rs.length ≤ 40 := by simp only [Circ.rowsB, Bool.and_eq_true, decide_eq_true_eq] at hw; exact hw.1
  have HLB : Hid (Circ.lensB i rs = true) := Lib.hid (by simp only [Circ.rowsB, Bool.and_eq_true] at hw; exact hw.2)
  clear hc hr hv hw
  have hbw : Below w.heap.size w (w.alloc (.cells #[.int .i64 i, .slice nA ns.length nc, .slice gA gs.length gc, .slice oA os.length oc] 26)) := (Below.refl _ _).alloc (Nat.le_refl _) _
  have r0 : Row (w.alloc (.cells #[.int .i64 i, .slice nA ns.length nc, .slice gA gs.length gc, .slice oA os.length oc] 26)) w.heap.size 26 #[.int .i64 i, .slice nA ns.length nc, .slice gA gs.length gc, .slice oA os.length oc] := heap_alloc_new w _
  have HL0 := Lib.hid hbw
  have HR0 := Lib.hid r0
  clear hbw r0
  have HSL := Lib.hid (fun st => Circ.simV_len gs os ns rs st)
  generalize hn : rs.length = n at *
  have HN := Lib.hid hn
  clear hn
  go_enter Try.func24, Try.ntmps24
  go_wp2_with fail
  refine (valid_any i nA gA oA nc gc oc ns gs os _ ((HC.out.below HL0.out).mono HL0.out.size)).mono ?_
  rintro e w1 ⟨rfl, hb1⟩
  rw [HV.out]
  have HR1 := Lib.hid (HR0.out.below hb1 HR0.out.lt)
  have HL1 := Lib.hid (HL0.out.trans (hb1.mono HL0.out.size))
  clear hb1 HR0 HL0
  have q0 := HR1.out.cell 0
  have q1 := HR1.out.cell 1
  have q2 := HR1.out.cell 2
  have q3 := HR1.out.cell 3
  simp at q0 q1 q2 q3
  go_wp2_with fail
  rw [← HN.out]
  refine (rowsValid_any i nA gA oA rA _ nc _ gc _ oc rc rs _ ((HX.out.below HL1.out).mono HL1.out.size) (by rw [HN.out]; simp [maxLen]; omega)).mono ?_
  rintro e w2 ⟨rfl, hb2⟩
  rw [HW.out]
  have HR2 := Lib.hid (HR1.out.below hb2 HR1.out.lt)
  have HL2 := Lib.hid (HL1.out.trans (hb2.mono HL1.out.size))
  clear hb2 HR1 HL1 q0 q1 q2 q3
  have hz2 := HR2.out.lt
  have q1 := HR2.out.cell 1
  simp at q1
  have hmk1 := fun W => run_make_row' (P := Try.prog) 27 33 (.slice none 0 0) 24 Try.underlying27 Try.infoBS rfl .i64 .i64 n (by omega) (by omega) W
  have hmk2 := fun W => run_make_row' (P := Try.prog) 33 4 (.bool false) 1 Try.underlying33 Try.infoB rfl .i64 .i64 ns.length (by omega) (by omega) W
  have hne2 : w.heap.size ≠ w2.heap.size := by omega
  rw [HN.out]
  go_wp2
  clear hmk1 hmk2 q1
  have hb3 : Below w2.heap.size w2 (w2.alloc (.cells (madeCells #[.slice none 0 0] n) 33)) := (Below.refl _ _).alloc (Nat.le_refl _) _
  have hs3 : (w2.alloc (.cells (madeCells #[.slice none 0 0] n) 33)).heap.size = w2.heap.size + 1 := by simp
  have hb4 : Below (w2.alloc (.cells (madeCells #[.slice none 0 0] n) 33)).heap.size (w2.alloc (.cells (madeCells #[.slice none 0 0] n) 33)) ((w2.alloc (.cells (madeCells #[.slice none 0 0] n) 33)).alloc (.cells (madeCells #[.bool false] ns.length) 4)) := (Below.refl _ _).alloc (Nat.le_refl _) _
  have HR4 := Lib.hid ((HR2.out.below hb3 hz2).below hb4 (by omega))
  have HL4 := Lib.hid ((HL2.out.trans (hb3.mono HL2.out.size)).trans (hb4.mono (by omega)))
  have HP4 : Hid (RPart ((w2.alloc (.cells (madeCells #[.slice none 0 0] n) 33)).alloc (.cells (madeCells #[.bool false] ns.length) 4)) w2.heap.size (madeCells #[.slice none 0 0] n) [] (Circ.simV gs os ns rs (List.replicate ns.length false)) 0) := Lib.hid (RPart.on ⟨heap_alloc_new w2 _, by rw [size_madeCells, HSL.out], rfl, fun j hj => absurd hj (by omega), fun j hj => absurd hj (by omega), fun j hj => absurd hj (by omega), fun j l hj hlk => absurd hlk (by omega)⟩ hb4)
  have HB4 : Hid (BoolsAt ((w2.alloc (.cells (madeCells #[.slice none 0 0] n) 33)).alloc (.cells (madeCells #[.bool false] ns.length) 4)) ((w2.alloc (.cells (madeCells #[.slice none 0 0] n) 33)).alloc (.cells (madeCells #[.bool false] ns.length) 4)).heap.size (some ⟨w2.heap.size + 1, 0, none⟩) (List.replicate ns.length false)) := Lib.hid (by
    have h := (BRow.made (w2.alloc (.cells (madeCells #[.slice none 0 0] n) 33)) ns.length).bools
    rw [hs3] at h
    exact h)
  clear hb3 hb4 hs3 HR2 HL2
  generalize ((w2.alloc (.cells (madeCells #[.slice none 0 0] n) 33)).alloc (.cells (madeCells #[.bool false] ns.length) 4)) = w4 at *
  generalize w2.heap.size = z at *
  generalize hst0 : List.replicate ns.length false = st0 at *
  have HST0 : Hid (st0.length = ns.length) := Lib.hid (by rw [← hst0]; simp)
  have HSE := Lib.hid hst0
  clear hst0 w1 w2
  go_loopw [6, 28] (fun sv iv wr => ∃ (k sb sc : Nat) (cs : Array Value) (bs : List Nat), k ≤ n ∧ iv = .int .i64 k ∧ sv = .slice (some ⟨sb, 0, none⟩) ns.length sc ∧ Hid (RPart wr z cs bs (Circ.simV gs os ns rs st0) k) ∧ Hid (BoolsAt wr wr.heap.size (some ⟨sb, 0, none⟩) (Circ.runV gs ns (rs.take k) st0)) ∧ Hid (Row wr w.heap.size 26 #[.int .i64 i, .slice nA ns.length nc, .slice gA gs.length gc, .slice oA os.length oc]) ∧ Below w.heap.size w wr) (fun _ iv _ => n - (intOf iv).toNat)
  case atStart => exact ⟨0, z + 1, ns.length, _, [], Nat.zero_le _, rfl, rfl, HP4, Lib.hid (by simpa [Circ.runV] using HB4.out), HR4, HL4.out⟩
  case round =>
    clear HP4 HB4 HR4 HL4 w4
    obtain ⟨k, sb, sc, cs, bs, hk, rfl, rfl, HP, HB, HR, hbr⟩ := hrel
    by_cases hlt : k < n
    · obtain ⟨b, off, rfl, hbl, A', cap', hcell, hbx⟩ := HX.out k (by rw [HN.out]; exact hlt)
      rw [← hbr.cell (by exact hbl)] at hcell
      have HBX := Lib.hid ((hbx.below hbr).mono hbr.size)
      have HSG := Lib.hid (Circ.simV_get gs os ns rs st0 k (by rw [HN.out]; exact hlt))
      have HRS := Lib.hid (Circ.runV_step gs ns rs st0 k (by rw [HN.out]; exact hlt))
      have HLR := Lib.hid (Circ.lensB_get HLB.out (k := k) (by rw [HN.out]; exact hlt))
      have HLS := Lib.hid (Circ.runV_len gs ns (rs.take k) st0 HST0.out)
      clear hbx
      generalize rs.getD k [] = r at *
      generalize Circ.runV gs ns (rs.take k) st0 = stk at *
      have HAS : Hid (assignB i ns gs os stk.length r.length = true) := Lib.hid (by simp [assignB, HV.out, HLS.out, HLR.out])
      have q0 := HR.out.cell 0
      have q1 := HR.out.cell 1
      have q2 := HR.out.cell 2
      have q3 := HR.out.cell 3
      simp at q0 q1 q2 q3
      go_wp2_with fail
      refine (stepValid_len i nA gA oA (some ⟨sb, 0, none⟩) A' nc gc oc ns.length sc cap' ns gs os stk r _ HLS.out ((HC.out.below hbr).mono hbr.size) HB.out HBX.out HAS.out).mono ?_
      rintro e w5 ⟨z1, z2, rfl, hz1, hzb, hx1, hx2, hb5⟩
      have hwz := HR.out.lt
      have hzw := HP.out.row.lt
      have hbk : ∀ j, j < k → bs.getD j 0 < z1 := fun j hj => Nat.lt_of_lt_of_le (HP.out.brow j hj).lt hz1
      have hb6 : Below w5.heap.size w5 (w5.alloc (.cells #[.slice (some ⟨z1, 0, none⟩) os.length os.length, .slice (some ⟨z2, 0, none⟩) ns.length ns.length] 35)) := (Below.refl _ _).alloc (Nat.le_refl _) _
      have h56 := hb5.trans (hb6.mono hb5.size)
      have HP6 := Lib.hid (HP.out.on h56)
      have hx16 := hx1.on hb6
      have HX2 := Lib.hid (hx2.on hb6)
      have HR6 := Lib.hid (HR.out.below h56 hwz)
      have HL6 := Lib.hid (hbr.trans (h56.mono hbr.size))
      have hlen : ((Circ.simV gs os ns rs st0).getD k []).length = os.length := by rw [HSG.out, Circ.outV_len]
      have HP7 := Lib.hid (HP6.out.step (z := z1) (by rw [HSL.out]; exact hlt) (by rw [HSG.out]; exact hx16) (by omega) hbk)
      rw [hlen] at HP7
      obtain ⟨old, hc0⟩ : ∃ old, (w5.alloc (.cells #[.slice (some ⟨z1, 0, none⟩) os.length os.length, .slice (some ⟨z2, 0, none⟩) ns.length ns.length] 35)).cell? ⟨z, k, none⟩ = some old := ⟨_, by rw [HP6.out.row.cell, Array.getElem?_eq_getElem (by rw [HP6.out.size, HSL.out]; exact hlt)]⟩
      have hf0 := HP6.out.row.frozen k
      have e0 : (w5.alloc (.cells #[.slice (some ⟨z1, 0, none⟩) os.length os.length, .slice (some ⟨z2, 0, none⟩) ns.length ns.length] 35)).cell? ⟨w5.heap.size, 0, none⟩ = some (.slice (some ⟨z1, 0, none⟩) os.length os.length) := by simp
      have e1 : (w5.alloc (.cells #[.slice (some ⟨z1, 0, none⟩) os.length os.length, .slice (some ⟨z2, 0, none⟩) ns.length ns.length] 35)).cell? ⟨w5.heap.size, 1, none⟩ = some (.slice (some ⟨z2, 0, none⟩) ns.length ns.length) := by simp
      have hz5 : z ≠ w5.heap.size := by have := hb5.size; omega
      have hzz2 : z ≠ z2 := by omega
      have HL7 := Lib.hid (HL6.out.setCell (p := ⟨z, k, none⟩) (by show w.heap.size ≤ z; omega) (.slice (some ⟨z1, 0, none⟩) os.length os.length))
      have HR7 := Lib.hid (HR6.out.far (p := ⟨z, k, none⟩) (by show w.heap.size ≠ z; omega) (.slice (some ⟨z1, 0, none⟩) os.length os.length))
      have HB7 := Lib.hid ((HX2.out.far ⟨z, k, none⟩ (.slice (some ⟨z1, 0, none⟩) os.length os.length) (by show z2 ≠ z; omega)).bools)
      have HRT : Hid (Circ.runV gs ns (rs.take (k + 1)) st0 = Circ.litsV (Circ.valsOf gs stk r) ns) := Lib.hid HRS.out
      rw [← HRT.out] at HB7
      have n1 : ∀ (W : World) (u : Value), (W.setCell ⟨z, k, none⟩ u).cell? ⟨w5.heap.size, 1, none⟩ = W.cell? ⟨w5.heap.size, 1, none⟩ := fun W u => World.cell?_setCell_other W ⟨z, k, none⟩ ⟨w5.heap.size, 1, none⟩ u (fun e => by injection e; omega)
      clear hx16 hx1 hx2 hb5 hb6 h56 HP HP6 HB HR hbr hcell hbk HX2 HR6 HL6 q0 q1 q2 q3 hlen
      go_wp2
      go_roundw
      case rel => exact ⟨k + 1, z2, ns.length, _, _, by omega, by go_num, rfl, HP7, HB7, HR7, HL7.out⟩
      case measure => simp [intOf]; omega
    · obtain rfl : k = n := by omega
      go_wp2
      go_ret
      exact ⟨z, rfl, Nat.le_of_lt hz2, ⟨cs, bs, by rw [HSE.out, HSL.out]; exact HP.out⟩, hbr⟩

set_option maxHeartbeats 400000 in
theorem simulate_f (i : Int) (nA gA oA rA : Option Addr) (nc gc oc rc : Nat) (ns : List Int) (gs : List (Int × Int)) (os : List Int) (rs : List (List Bool)) (w : World) (hc : CircAt w w.heap.size nA gA oA ns gs os) (hr : RowsAt w w.heap.size rA rs) (hl : rs.length ≤ maxLen)
    (hv : (Circ.validB i ns gs os && Circ.rowsB i rs) = false) :
    Calls Try.prog 24 #[.agg #[.int .i64 i, .slice nA ns.length nc, .slice gA gs.length gc, .slice oA os.length oc], .slice rA rs.length rc] w fun e w' => e = .returned (.slice none 0 0) ∧ Below w.heap.size w w' := by
  have HC := Lib.hid hc
  have HX := Lib.hid hr
  have HV := Lib.hid hv
  clear hc hr hv
  have hbw : Below w.heap.size w (w.alloc (.cells #[.int .i64 i, .slice nA ns.length nc, .slice gA gs.length gc, .slice oA os.length oc] 26)) := (Below.refl _ _).alloc (Nat.le_refl _) _
  have r0 : Row (w.alloc (.cells #[.int .i64 i, .slice nA ns.length nc, .slice gA gs.length gc, .slice oA os.length oc] 26)) w.heap.size 26 #[.int .i64 i, .slice nA ns.length nc, .slice gA gs.length gc, .slice oA os.length oc] := heap_alloc_new w _
  have HL0 := Lib.hid hbw
  have HR0 := Lib.hid r0
  clear hbw r0
  go_enter Try.func24, Try.ntmps24
  go_wp2_with fail
  refine (valid_any i nA gA oA nc gc oc ns gs os _ ((HC.out.below HL0.out).mono HL0.out.size)).mono ?_
  rintro e w1 ⟨rfl, hb1⟩
  have HR1 := Lib.hid (HR0.out.below hb1 HR0.out.lt)
  have HL1 := Lib.hid (HL0.out.trans (hb1.mono HL0.out.size))
  clear hb1 HR0 HL0
  cases h : Circ.validB i ns gs os
  · clear h
    go_wp2
    go_ret
    exact ⟨rfl, HL1.out⟩
  · have HW : Hid (Circ.rowsB i rs = false) := Lib.hid (by have := HV.out; rw [h] at this; simpa using this)
    clear h
    have q0 := HR1.out.cell 0
    have q1 := HR1.out.cell 1
    have q2 := HR1.out.cell 2
    have q3 := HR1.out.cell 3
    simp at q0 q1 q2 q3
    go_wp2_with fail
    refine (rowsValid_any i nA gA oA rA _ nc _ gc _ oc rc rs _ ((HX.out.below HL1.out).mono HL1.out.size) hl).mono ?_
    rintro e w2 ⟨rfl, hb2⟩
    rw [HW.out]
    clear q0 q1 q2 q3
    go_wp2
    go_ret
    exact ⟨rfl, HL1.out.trans (hb2.mono HL1.out.size)⟩

/-- A table that is nil and empty, or a block of its own from lo on. -/
def RSl (w : World) (lo : Nat) (A : Option Addr) (rs : List (List Bool)) : Prop := (A = none ∧ rs = []) ∨ ∃ g, A = some ⟨g, 0, none⟩ ∧ lo ≤ g ∧ RRow w g rs
theorem RSl.rows {w : World} {lo : Nat} {A : Option Addr} {rs : List (List Bool)} (h : RSl w lo A rs) : RowsAt w w.heap.size A rs := by
  rcases h with ⟨rfl, rfl⟩ | ⟨g, rfl, _, h⟩
  · exact RowsAt.nil _ _ _
  · exact h.rows
theorem RSl.on {w w' : World} {lo : Nat} {A : Option Addr} {rs : List (List Bool)} (h : RSl w lo A rs) (hb : Below w.heap.size w w') : RSl w' lo A rs := by
  rcases h with ⟨rfl, rfl⟩ | ⟨g, rfl, hl, h⟩
  · exact .inl ⟨rfl, rfl⟩
  · exact .inr ⟨g, rfl, hl, h.on hb⟩

theorem simulate_any (i : Int) (nA gA oA rA : Option Addr) (nc gc oc rc : Nat) (ns : List Int) (gs : List (Int × Int)) (os : List Int) (rs : List (List Bool)) (w : World) (hc : CircAt w w.heap.size nA gA oA ns gs os) (hr : RowsAt w w.heap.size rA rs) (hl : rs.length ≤ maxLen) :
    Calls Try.prog 24 #[.agg #[.int .i64 i, .slice nA ns.length nc, .slice gA gs.length gc, .slice oA os.length oc], .slice rA rs.length rc] w fun e w' =>
      ∃ A : Option Addr, e = .returned (.slice A (Circ.simulV i ns gs os rs).length (Circ.simulV i ns gs os rs).length) ∧ RSl w' w.heap.size A (Circ.simulV i ns gs os rs) ∧ Below w.heap.size w w' := by
  cases h : (Circ.validB i ns gs os && Circ.rowsB i rs)
  · have hs : Circ.simulV i ns gs os rs = [] := by rw [Circ.simulV, if_neg (by rw [h]; decide)]
    rw [hs]
    exact (simulate_f i nA gA oA rA nc gc oc rc ns gs os rs w hc hr hl h).mono fun _ _ ⟨he, hb⟩ => ⟨none, he, .inl ⟨rfl, rfl⟩, hb⟩
  · have hs : Circ.simulV i ns gs os rs = Circ.simV gs os ns rs (List.replicate ns.length false) := by rw [Circ.simulV, if_pos h]
    obtain ⟨h1, h2⟩ : Circ.validB i ns gs os = true ∧ Circ.rowsB i rs = true := by simpa using h
    rw [hs, Circ.simV_len]
    exact (simulate_t i nA gA oA rA nc gc oc rc ns gs os rs w hc hr h1 h2).mono fun _ _ ⟨g, he, hg, hx, hb⟩ => ⟨some ⟨g, 0, none⟩, he, .inr ⟨g, rfl, hg, hx⟩, hb⟩
end Go.Proofs.Ythpiddpkcmecfaa
/- The contract of the laws' comparison of tables; a part of a table. -/
namespace Go.Proofs.Ythpiddpkcmecfaa
open Go.RowKit Go.Deep

set_option maxHeartbeats 400000 in
theorem sameRows_len (A A' : Option Addr) (n cap cap' : Nat) (rs : List (List Bool)) (w : World) (hn : rs.length = n) (hx : RowsAt w w.heap.size A rs) (hy : RowsAt w w.heap.size A' rs) (hl : n ≤ 2000000) (ht : offs 0 rs rs.length ≤ 2000000) :
    Calls Try.prog 23 #[.slice A n cap, .slice A' n cap'] w fun e w' => e = .returned (.bool true) ∧ Below w.heap.size w w' := by
  have HX := Lib.hid hx
  have HY := Lib.hid hy
  have HT := Lib.hid (fun k hk => Nat.le_trans (row_le 0 rs (k := k) hk) ht)
  have HN := Lib.hid hn
  clear hx hy ht hn
  go_enter Try.func23, Try.ntmps23
  go_wp2
  go_loopw [5] (fun iv wr => ∃ (k : Nat), k ≤ n ∧ iv = .int .i64 k ∧ Below w.heap.size w wr) (fun iv _ => n - (intOf iv).toNat)
  case atStart => exact ⟨0, Nat.zero_le _, rfl, Below.refl _ _⟩
  case round =>
    obtain ⟨k, hk, rfl, hbr⟩ := hrel
    by_cases hlt : k < n
    · obtain ⟨b, off, rfl, hbl, B1, c1, hcA, hbA⟩ := HX.out k (by rw [HN.out]; exact hlt)
      obtain ⟨b', off', rfl, hbl', B2, c2, hcB, hbB⟩ := HY.out k (by rw [HN.out]; exact hlt)
      rw [← hbr.cell (by exact hbl)] at hcA
      rw [← hbr.cell (by exact hbl')] at hcB
      have HBA := Lib.hid ((hbA.below hbr).mono hbr.size)
      have HBB := Lib.hid ((hbB.below hbr).mono hbr.size)
      have htk := HT.out k (by rw [HN.out]; exact hlt)
      clear hbA hbB
      generalize rs.getD k [] = r at *
      have hk0 : (0 : Int) ≤ (k : Int) := Int.natCast_nonneg _
      have hk1 : (k : Int) < (n : Int) := by omega
      have hz := hbr.size
      go_wp2
      go_region_held3 (fun w' => w'.cell? ⟨b, off + k, none⟩ = some (.slice B1 r.length c1) ∧ w'.cell? ⟨b', off' + k, none⟩ = some (.slice B2 r.length c2))
        (first | go_keep | (refine ⟨?_, ?_⟩ <;> (rw [hc3 _ _ (by simp; omega)]; simp [*])))
        (first | (go_at_call 22; refine (sameBools_len B1 B2 _ c1 c2 r _ rfl ?_ ?_ htk).mono ?_; (exact HBA.out.below (Below.refl _ wr).drew); (exact HBB.out.below (Below.refl _ wr).drew); rintro e w3 ⟨rfl, hb3⟩; obtain ⟨hc3, hf3⟩ := bcell hb3))
      clear hc3 hf3
      go_wp2
      go_roundw
      case rel => exact ⟨k + 1, by omega, by go_num, hbr.drew.trans (hb3.mono hbr.size)⟩
      case measure => simp [intOf]; omega
    · go_wp2
      go_ret
      exact ⟨rfl, hbr⟩

theorem RowsAt.take {w : World} {B : Nat} {A : Option Addr} {rs : List (List Bool)} (h : RowsAt w B A rs) (m : Nat) : RowsAt w B A (rs.take m) := fun k hk => by
  have hk2 : k < m := by simp at hk; omega
  have hk3 : k < rs.length := by simp at hk; omega
  have e : (rs.take m).getD k [] = rs.getD k [] := by simp [List.getD_eq_getElem?_getD, hk2]
  rw [e]
  exact h k hk3
theorem simulate_len (i : Int) (nA gA oA rA : Option Addr) (nc gc oc n rc : Nat) (ns : List Int) (gs : List (Int × Int)) (os : List Int) (rs : List (List Bool)) (w : World) (hn : rs.length = n) (hc : CircAt w w.heap.size nA gA oA ns gs os) (hr : RowsAt w w.heap.size rA rs) (hl : n ≤ maxLen) :
    Calls Try.prog 24 #[.agg #[.int .i64 i, .slice nA ns.length nc, .slice gA gs.length gc, .slice oA os.length oc], .slice rA n rc] w fun e w' =>
      ∃ A : Option Addr, e = .returned (.slice A (Circ.simulV i ns gs os rs).length (Circ.simulV i ns gs os rs).length) ∧ RSl w' w.heap.size A (Circ.simulV i ns gs os rs) ∧ Below w.heap.size w w' := by
  subst hn
  exact simulate_any i nA gA oA rA nc gc oc rc ns gs os rs w hc hr hl
theorem step_len (i : Int) (nA gA oA sA iA : Option Addr) (nc gc oc sl sc ic : Nat) (ns : List Int) (gs : List (Int × Int)) (os : List Int) (st ins : List Bool) (w : World) (hsl : st.length = sl) (hc : CircAt w w.heap.size nA gA oA ns gs os)
    (hs : BoolsAt w w.heap.size sA st) (hin : BoolsAt w w.heap.size iA ins) :
    Calls Try.prog 20 #[.agg #[.int .i64 i, .slice nA ns.length nc, .slice gA gs.length gc, .slice oA os.length oc], .slice sA sl sc, .slice iA ins.length ic] w fun e w' =>
      ∃ A1 A2 : Option Addr, e = .returned (.agg #[.slice A1 (stepV i ns gs os st ins os).length (stepV i ns gs os st ins os).length, .slice A2 (stepV i ns gs os st ins ns).length (stepV i ns gs os st ins ns).length]) ∧ BPair w' w.heap.size A1 A2 (stepV i ns gs os st ins os) (stepV i ns gs os st ins ns) ∧ Below w.heap.size w w' := by
  subst hsl
  exact step_any i nA gA oA sA iA nc gc oc sc ic ns gs os st ins w hc hs hin
theorem lensB_take {i : Int} {rs : List (List Bool)} (h : Circ.lensB i rs = true) (m : Nat) : Circ.lensB i (rs.take m) = true := by
  unfold Circ.lensB at *
  rw [List.all_eq_true] at *
  exact fun x hx => h x (List.mem_of_mem_take hx)
/-- A part of the rows gives a part of the outputs. -/
theorem simul_take (i : Int) (ns : List Int) (gs : List (Int × Int)) (os : List Int) (rs : List (List Bool)) (m : Nat) (hv : Circ.validB i ns gs os = true) (hr : Circ.rowsB i rs = true) : Circ.simulV i ns gs os (rs.take m) = (Circ.simulV i ns gs os rs).take m := by
  have h2 : Circ.rowsB i (rs.take m) = true := by
    simp only [Circ.rowsB, Bool.and_eq_true, decide_eq_true_eq] at hr ⊢
    exact ⟨by simp; omega, lensB_take hr.2 m⟩
  rw [Circ.simulV, Circ.simulV, hv, hr, h2]
  simp [Circ.simV_take]
end Go.Proofs.Ythpiddpkcmecfaa
