/- The contracts of Simulate of the model. -/
import Derived.Test.YtbhkpjcflghgbaaB17
import Derived.Test.YtbhkpjcflghgbaaB10
import Derived.Test.YtbhkpjcflghgbaaB12
namespace Go.Proofs.Ytbhkpjcflghgbaa
open Go.RowKit Go.Deep

set_option maxHeartbeats 400000 in
theorem l2Inputs_any (i : Int) (rA : Option Addr) (rc : Nat) (rs : List (List Bool)) (w : World) (hr : RowsAt w w.heap.size rA rs) (hl : rs.length ≤ maxLen) :
    Calls Try.prog 56 #[.slice rA rs.length rc, .int .i64 i] w fun e w' => e = .returned (.bool (Circ.rowsB i rs)) ∧ w = w' := by
  have HX := Lib.hid hr
  unfold maxLen at hl
  clear hr
  have HB : Hid (Circ.rowsB i rs = (decide (rs.length ≤ 40) && Circ.lensB i rs)) := Lib.hid rfl
  generalize hn : rs.length = n at *
  have HN := Lib.hid hn
  clear hn
  go_enter Try.func56, Try.ntmps56
  go_wp2
  go_loop [5] (fun iv => ∃ k : Nat, k ≤ n ∧ iv = .int .i64 k ∧ Hid (Circ.lensB i (rs.take k) = true)) (fun iv => n - (intOf iv).toNat)
  case atStart => exact ⟨0, Nat.zero_le _, rfl, Lib.hid (by simp [Circ.lensB])⟩
  case round =>
    obtain ⟨k, hk, rfl, HT⟩ := hrel
    by_cases hlt : k < n
    · obtain ⟨b, off, rfl, hbl, A', cap', hcell, _⟩ := HX.out k (by rw [HN.out]; exact hlt)
      have HS := Lib.hid (Circ.lensB_snoc i rs k (by rw [HN.out]; exact hlt))
      have HF := Lib.hid (fun h => Circ.lensB_f (i := i) (rs := rs) (k := k) (by rw [HN.out]; exact hlt) h)
      generalize (rs.getD k []).length = rl at *
      by_cases he : (rl : Int) = i
      · have e1 : ((rl : Int) != i) = false := by simp [he]
        have HE : Hid ((rl : Int) = i) := Lib.hid he
        clear he
        go_wp2
        go_round
        case rel => exact ⟨k + 1, by omega, by go_num, Lib.hid (by rw [HS.out, HT.out, decide_eq_true HE.out]; rfl)⟩
        case measure => simp [intOf]; omega
      · have e1 : ((rl : Int) != i) = true := by simp [he]
        have HE : Hid (¬ (rl : Int) = i) := Lib.hid he
        clear he
        go_wp2
        go_ret
        exact ⟨ret_bool (by rw [HB.out, HF.out HE.out, Bool.and_false]), rfl⟩
    · have HA : Hid (Circ.lensB i rs = true) := Lib.hid (by have := HT.out; rwa [List.take_of_length_le (by rw [HN.out]; omega)] at this)
      by_cases h40 : n ≤ 40
      · have HD : Hid (Circ.rowsB i rs = true) := Lib.hid (by rw [HB.out, HA.out, decide_eq_true h40]; rfl)
        go_wp2
        go_ret
        exact ⟨ret_bool (by rw [HD.out]; first | rfl | (simp; omega)), rfl⟩
      · have HD : Hid (Circ.rowsB i rs = false) := Lib.hid (by rw [HB.out, decide_eq_false h40]; rfl)
        go_wp2
        go_ret
        exact ⟨ret_bool (by rw [HD.out]; first | rfl | (simp; omega)), rfl⟩

theorem gb_below {w w' : World} (h : Below w.heap.size w w') : w.grownBy w' none := ⟨h.os, h.tape, h.output, h.size, fun k hk _ => h.block k hk⟩

/-- The first k rows of a table that the call appends to. -/
structure ROwn (w : World) (base g k cap : Nat) (vs : List Value) (rs : List (List Bool)) : Prop where
  own : w.ownsRow base 27 1 (.slice (some ⟨g, 0, none⟩) k cap) k vs
  row : ∀ j, j < k → ∃ z c, vs[j]? = some (.slice (some ⟨z, 0, none⟩) (rs.getD j []).length c) ∧ (0 < (rs.getD j []).length → z ≠ g) ∧ BoolsAt w w.heap.size (some ⟨z, 0, none⟩) (rs.getD j [])
theorem ROwn.on {w w' : World} {base g k cap : Nat} {vs : List Value} {rs : List (List Bool)} (h : ROwn w base g k cap vs rs) (hb : Below w.heap.size w w') : ROwn w' base g k cap vs rs :=
  ⟨h.own.kept (gb_below hb) (.inr (by simp [Value.ownBlock])), fun j hj => by
    obtain ⟨z, c, h1, h2, h3⟩ := h.row j hj
    exact ⟨z, c, h1, h2, h3.on hb⟩⟩
theorem ROwn.rows {w : World} {base g k cap : Nat} {vs : List Value} {rs : List (List Bool)} (h : ROwn w base g k cap vs rs) (hk : rs.length = k) : RowsAt w w.heap.size (some ⟨g, 0, none⟩) rs := fun j hj => by
  obtain ⟨z, c, h1, _, h3⟩ := h.row j (by omega)
  exact ⟨g, 0, rfl, (h.own.lt g rfl).2, _, c, by rw [Nat.zero_add, h.own.cellAt j (by omega)]; exact h1, h3⟩
/-- One row more: behind an append. -/
theorem ROwn.app {w w' : World} {base g k cap g' cap' z c : Nat} {vs : List Value} {rs : List (List Bool)} (h : ROwn w base g k cap vs rs) (ho : w'.ownsRow base 27 1 (.slice (some ⟨g', 0, none⟩) (k + 1) cap') (k + 1) (vs ++ [.slice (some ⟨z, 0, none⟩) (rs.getD k []).length c]))
    (hg : w.grownBy w' (some g)) (hat : g' = g ∨ g' = w.heap.size) (hz : 0 < (rs.getD k []).length → z ≠ g) (hb : BoolsAt w w.heap.size (some ⟨z, 0, none⟩) (rs.getD k [])) : ROwn w' base g' (k + 1) cap' (vs ++ [.slice (some ⟨z, 0, none⟩) (rs.getD k []).length c]) rs := by
  have hvl : vs.length = k := by have := h.own.1; simpa using this
  have key : ∀ (z : Nat) (xs : List Bool), (0 < xs.length → z ≠ g) → BoolsAt w w.heap.size (some ⟨z, 0, none⟩) xs → (0 < xs.length → z ≠ g') ∧ BoolsAt w' w'.heap.size (some ⟨z, 0, none⟩) xs := fun z xs h1 h2 => by
    refine ⟨fun hl => ?_, h2.grownR hg (fun b off e hl e2 => ?_)⟩
    · obtain ⟨b, off, e, hlt, _⟩ := h2 0 hl
      injection e with e
      injection e with e
      have := h1 hl
      rcases hat with rfl | rfl
      · exact this
      · omega
    · injection e with e
      injection e with e
      injection e2 with e2
      have := h1 hl
      omega
  refine ⟨ho, fun j hj => ?_⟩
  by_cases e : j = k
  · subst e
    obtain ⟨k1, k2⟩ := key z _ hz hb
    exact ⟨z, c, by rw [List.getElem?_append_right (by omega), hvl]; simp, k1, k2⟩
  · obtain ⟨zj, cj, h1, h2, h3⟩ := h.row j (by omega)
    obtain ⟨k1, k2⟩ := key zj _ h2 h3
    exact ⟨zj, cj, by rw [List.getElem?_append_left (by omega)]; exact h1, k1, k2⟩

theorem l2Step_len (i : Int) (nA gA oA sA iA : Option Addr) (nc gc oc sl sc ic : Nat) (ns : List Int) (gs : List (Int × Int)) (os : List Int) (st ins : List Bool) (w : World) (hsl : st.length = sl) (hc : CircAt w w.heap.size nA gA oA ns gs os)
    (hs : BoolsAt w w.heap.size sA st) (hin : BoolsAt w w.heap.size iA ins) (hv : assignB i ns gs os st.length ins.length = true) :
    Calls Try.prog 53 #[.agg #[.int .i64 i, .slice nA ns.length nc, .slice gA gs.length gc, .slice oA os.length oc], .slice sA sl sc, .slice iA ins.length ic] w (StepOutS w (Circ.valsOf gs st ins) ns os) := by
  subst hsl
  exact l2Step_any i nA gA oA sA iA nc gc oc sc ic ns gs os st ins w hc hs hin hv

set_option maxHeartbeats 1000000 in
theorem ssimulate_any (i : Int) (nA gA oA rA : Option Addr) (nc gc oc rc : Nat) (ns : List Int) (gs : List (Int × Int)) (os : List Int) (rs : List (List Bool)) (w : World) (hc : CircAt w w.heap.size nA gA oA ns gs os) (hr : RowsAt w w.heap.size rA rs) (hl : rs.length ≤ maxLen) :
    Calls Try.prog 22 #[.agg #[.int .i64 i, .slice nA ns.length nc, .slice gA gs.length gc, .slice oA os.length oc], .slice rA rs.length rc] w fun e w' =>
      ∃ (A : Option Addr) (cap : Nat), e = .returned (.slice A (Circ.simulV i ns gs os rs).length cap) ∧ RowsAt w' w'.heap.size A (Circ.simulV i ns gs os rs) ∧ Below w.heap.size w w' := by
  have HC := Lib.hid hc
  have HX := Lib.hid hr
  have HML := Lib.hid hl
  clear hc hr hl
  obtain ⟨i0, hi0, hz0, hz1, hz2⟩ := info_parts Try.infoBS
  have HI0 := Lib.hid hi0
  have HZ0 := Lib.hid hz0
  have HZ1 := Lib.hid hz1
  have HZ2 := Lib.hid hz2
  clear hi0 hz0 hz1 hz2
  have hbw : Below w.heap.size w ((w.alloc (.cells #[.int .i64 i, .slice nA ns.length nc, .slice gA gs.length gc, .slice oA os.length oc] 26)).alloc (.cells #[] 27)) := ((Below.refl _ _).alloc (Nat.le_refl _) _).alloc (by simp) _
  have r0 : Row ((w.alloc (.cells #[.int .i64 i, .slice nA ns.length nc, .slice gA gs.length gc, .slice oA os.length oc] 26)).alloc (.cells #[] 27)) w.heap.size 26 #[.int .i64 i, .slice nA ns.length nc, .slice gA gs.length gc, .slice oA os.length oc] := (Below.heap_alloc _ _ _ (by simp)).trans (heap_alloc_new w _)
  have HO0 : Hid (ROwn ((w.alloc (.cells #[.int .i64 i, .slice nA ns.length nc, .slice gA gs.length gc, .slice oA os.length oc] 26)).alloc (.cells #[] 27)) (w.heap.size + 1) (w.heap.size + 1) 0 0 [] (Circ.simV gs os ns rs (List.replicate ns.length false))) := Lib.hid (by
    have h := World.ownsRow_lit (base := w.heap.size + 1) (e := 27) (size := 1) (w.alloc (.cells #[.int .i64 i, .slice nA ns.length nc, .slice gA gs.length gc, .slice oA os.length oc] 26)) #[] 0 (by simp) (by simp [maxLen]) (by simp)
    refine ⟨?_, fun j hj => absurd hj (by omega)⟩
    simpa using h)
  have HL0 := Lib.hid hbw
  have HR0 := Lib.hid r0
  clear hbw r0
  go_enter Try.func22, Try.ntmps22
  go_wp2_with fail
  refine (svalid_any i nA gA oA nc gc oc ns gs os _ ((HC.out.below HL0.out).mono HL0.out.size)).mono ?_
  rintro e w1 ⟨rfl, hb1⟩
  have HR1 := Lib.hid (HR0.out.below hb1 HR0.out.lt)
  have HL1 := Lib.hid (HL0.out.trans (hb1.mono HL0.out.size))
  have HO1 := Lib.hid (HO0.out.on hb1)
  clear hb1 HR0 HL0 HO0
  cases hv : Circ.validB i ns gs os
  · have HE : Hid (Circ.simulV i ns gs os rs = []) := Lib.hid (by rw [Circ.simulV, hv]; rfl)
    clear hv
    go_wp2
    go_ret
    exact ⟨some ⟨w.heap.size + 1, 0, none⟩, 0, by rw [HE.out]; rfl, by rw [HE.out]; exact RowsAt.nil _ _ _, HL1.out⟩
  · have HV := Lib.hid hv
    obtain ⟨a0, a1, a2, a3, a4⟩ := Circ.valid_within hv
    clear hv
    have q0 := HR1.out.cell 0
    simp at q0
    go_wp2_with fail
    refine (l2Inputs_any i rA rc rs _ ((HX.out.below HL1.out).mono HL1.out.size) HML.out).mono ?_
    rintro e w1' ⟨rfl, rfl⟩
    clear q0
    cases hw : Circ.rowsB i rs
    · have HE : Hid (Circ.simulV i ns gs os rs = []) := Lib.hid (by rw [Circ.simulV, hw, Bool.and_false]; rfl)
      clear hw
      go_wp2
      go_ret
      exact ⟨some ⟨w.heap.size + 1, 0, none⟩, 0, by rw [HE.out]; rfl, by rw [HE.out]; exact RowsAt.nil _ _ _, HL1.out⟩
    · have HE : Hid (Circ.simulV i ns gs os rs = Circ.simV gs os ns rs (List.replicate ns.length false)) := Lib.hid (by rw [Circ.simulV, hw, HV.out]; rfl)
      have h40 : rs.length ≤ 40 := by simp only [Circ.rowsB, Bool.and_eq_true, decide_eq_true_eq] at hw; exact hw.1
      have HLB : Hid (Circ.lensB i rs = true) := Lib.hid (by simp only [Circ.rowsB, Bool.and_eq_true] at hw; exact hw.2)
      clear hw
      have HSL := Lib.hid (fun st => Circ.simV_len gs os ns rs st)
      generalize hn : rs.length = n at *
      have HN := Lib.hid hn
      clear hn
      have q1 := HR1.out.cell 1
      simp at q1
      have hz1 := HR1.out.lt
      have hmk2 := fun W => run_make_row' (P := Try.prog) 27 4 (.bool false) 1 Try.underlying27 Try.infoB rfl .i64 .i64 ns.length (by omega) (by omega) W
      go_wp2
      clear hmk2 q1
      have hb4 : Below w1.heap.size w1 (w1.alloc (.cells (madeCells #[.bool false] ns.length) 4)) := (Below.refl _ _).alloc (Nat.le_refl _) _
      have HR4 := Lib.hid (HR1.out.below hb4 hz1)
      have HL4 := Lib.hid (HL1.out.trans (hb4.mono HL1.out.size))
      have HO4 := Lib.hid (HO1.out.on hb4)
      have HB4 := Lib.hid (BRow.made w1 ns.length).bools
      clear hb4 HR1 HL1 HO1
      generalize w1.alloc (.cells (madeCells #[.bool false] ns.length) 4) = w4 at *
      generalize w1.heap.size = sb0 at *
      generalize hst0 : List.replicate ns.length false = st0 at *
      have HST0 : Hid (st0.length = ns.length) := Lib.hid (by rw [← hst0]; simp)
      clear hst0
      go_loopw [5, 6, 7] (fun ov sv iv wr => ∃ (k g cap sb sc : Nat) (vs : List Value), k ≤ n ∧ iv = .int .i64 k ∧ sv = .slice (some ⟨sb, 0, none⟩) ns.length sc ∧ ov = .slice (some ⟨g, 0, none⟩) k cap ∧ Hid (ROwn wr (w.heap.size + 1) g k cap vs (Circ.simV gs os ns rs st0)) ∧ Hid (BoolsAt wr wr.heap.size (some ⟨sb, 0, none⟩) (Circ.runV gs ns (rs.take k) st0)) ∧ Hid (Row wr w.heap.size 26 #[.int .i64 i, .slice nA ns.length nc, .slice gA gs.length gc, .slice oA os.length oc]) ∧ Below w.heap.size w wr) (fun _ _ iv _ => n - (intOf iv).toNat)
      case atStart => exact ⟨0, w.heap.size + 1, 0, sb0, ns.length, [], Nat.zero_le _, rfl, rfl, rfl, HO4, Lib.hid (by simpa [Circ.runV] using HB4.out), HR4, HL4.out⟩
      case round =>
        clear HO4 HB4 HR4 HL4
        obtain ⟨k, g, cap, sb, sc, vs, hk, rfl, rfl, rfl, HO, HB, HR, hbr⟩ := hrel
        by_cases hlt : k < n
        · obtain ⟨b, off, rfl, hbl, A', cap', hcell, hbx⟩ := HX.out k (by rw [HN.out]; exact hlt)
          rw [← hbr.cell (by exact hbl)] at hcell
          have HBX := Lib.hid ((hbx.below hbr).mono hbr.size)
          have HSG := Lib.hid (Circ.simV_get gs os ns rs st0 k (by rw [HN.out]; exact hlt))
          have HRS := Lib.hid (Circ.runV_step gs ns rs st0 k (by rw [HN.out]; exact hlt))
          have HLR := Lib.hid (Circ.lensB_get HLB.out (k := k) (by rw [HN.out]; exact hlt))
          have HLS := Lib.hid (Circ.runV_len gs ns (rs.take k) st0 HST0.out)
          clear hbx
          generalize rs.getD k [] = r at *
          generalize Circ.runV gs ns (rs.take k) st0 = stk at *
          have HAS : Hid (assignB i ns gs os stk.length r.length = true) := Lib.hid (by simp [assignB, HV.out, HLS.out, HLR.out])
          have q0 := HR.out.cell 0
          have q1 := HR.out.cell 1
          have q2 := HR.out.cell 2
          have q3 := HR.out.cell 3
          simp at q0 q1 q2 q3
          have hwz := HR.out.lt
          have hbz : b < wr.heap.size := by omega
          have hk0 : (0 : Int) ≤ (k : Int) := Int.natCast_nonneg _
          have hk1 : (k : Int) < (n : Int) := by omega
          go_wp2
          go_region_held3 (fun w' => (w'.cell? ⟨w.heap.size, 0, none⟩ = some (.int .i64 i) ∧ w'.cell? ⟨w.heap.size, 1, none⟩ = some (.slice nA ns.length nc) ∧ w'.cell? ⟨w.heap.size, 2, none⟩ = some (.slice gA gs.length gc) ∧ w'.cell? ⟨w.heap.size, 3, none⟩ = some (.slice oA os.length oc)) ∧ w'.cell? ⟨b, off + k, none⟩ = some (.slice A' r.length cap'))
            (first | go_keep | (exact ⟨⟨(World.cell?_alloc_lt w5 _ ⟨w.heap.size, 0, none⟩ hw5).trans y0, (World.cell?_alloc_lt w5 _ ⟨w.heap.size, 1, none⟩ hw5).trans y1, (World.cell?_alloc_lt w5 _ ⟨w.heap.size, 2, none⟩ hw5).trans y2, (World.cell?_alloc_lt w5 _ ⟨w.heap.size, 3, none⟩ hw5).trans y3⟩, (World.cell?_alloc_lt w5 _ ⟨b, off + k, none⟩ hb5z).trans y4⟩) | (exact ⟨⟨y0, y1, y2, y3⟩, y4⟩) | (exact ⟨⟨((World.cell?_setCell_other _ _ ⟨w.heap.size, 0, none⟩ _ (fun e => by injection e; omega)).trans (World.cell?_setCell_other _ _ ⟨w.heap.size, 0, none⟩ _ (fun e => by injection e; omega))).trans y0, ((World.cell?_setCell_other _ _ ⟨w.heap.size, 1, none⟩ _ (fun e => by injection e; omega)).trans (World.cell?_setCell_other _ _ ⟨w.heap.size, 1, none⟩ _ (fun e => by injection e; omega))).trans y1, ((World.cell?_setCell_other _ _ ⟨w.heap.size, 2, none⟩ _ (fun e => by injection e; omega)).trans (World.cell?_setCell_other _ _ ⟨w.heap.size, 2, none⟩ _ (fun e => by injection e; omega))).trans y2, ((World.cell?_setCell_other _ _ ⟨w.heap.size, 3, none⟩ _ (fun e => by injection e; omega)).trans (World.cell?_setCell_other _ _ ⟨w.heap.size, 3, none⟩ _ (fun e => by injection e; omega))).trans y3⟩, ((World.cell?_setCell_other _ _ ⟨b, off + k, none⟩ _ (fun e => by injection e; omega)).trans (World.cell?_setCell_other _ _ ⟨b, off + k, none⟩ _ (fun e => by injection e; omega))).trans y4⟩))
            (first | (go_at_call 53; refine (l2Step_len i nA gA oA (some ⟨sb, 0, none⟩) A' nc gc oc ns.length sc cap' ns gs os stk r wr.drew HLS.out ?_ ?_ ?_ HAS.out).mono ?_; (exact (HC.out.below hbr.drew).mono hbr.drew.size); (exact HB.out.below (Below.refl _ wr).drew); (exact HBX.out.below (Below.refl _ wr).drew); rintro e w5 ⟨z1, z2, d1, d2, rfl, hz1, hz2, hx1, hx2, hb5⟩; obtain ⟨hc5, hf5⟩ := bcell hb5; have y0 := (hc5 w.heap.size 0 (by simp; omega)).trans q0; have y1 := (hc5 w.heap.size 1 (by simp; omega)).trans q1; have y2 := (hc5 w.heap.size 2 (by simp; omega)).trans q2; have y3 := (hc5 w.heap.size 3 (by simp; omega)).trans q3; have y4 := (hc5 b (off + k) (by simp; omega)).trans hcell; have hw5 : w.heap.size < w5.heap.size := Nat.lt_of_lt_of_le hwz hb5.size; have hb5z : b < w5.heap.size := Nat.lt_of_lt_of_le hbz hb5.size) | (go_at_call 53; refine (l2Step_len i nA gA oA (some ⟨sb, 0, none⟩) A' nc gc oc ns.length sc cap' ns gs os stk r (wr.alloc (.cells #[.slice none 0 0, .slice none 0 0] 39)).drew HLS.out ?_ ?_ ?_ HAS.out).mono ?_; (exact (HC.out.below (hbr.alloc hbr.size _).drew).mono (hbr.alloc hbr.size _).drew.size); (exact HB.out.on ((Below.refl _ wr).alloc (Nat.le_refl _) _).drew); (exact HBX.out.on ((Below.refl _ wr).alloc (Nat.le_refl _) _).drew); rintro e w5 ⟨z1, z2, d1, d2, rfl, hz1, hz2, hx1, hx2, hb5⟩; obtain ⟨hc5, hf5⟩ := bcell hb5; have y0 := (hc5 w.heap.size 0 (by simp; omega)).trans ((World.cell?_alloc_lt wr _ ⟨w.heap.size, 0, none⟩ hwz).trans q0); have y1 := (hc5 w.heap.size 1 (by simp; omega)).trans ((World.cell?_alloc_lt wr _ ⟨w.heap.size, 1, none⟩ hwz).trans q1); have y2 := (hc5 w.heap.size 2 (by simp; omega)).trans ((World.cell?_alloc_lt wr _ ⟨w.heap.size, 2, none⟩ hwz).trans q2); have y3 := (hc5 w.heap.size 3 (by simp; omega)).trans ((World.cell?_alloc_lt wr _ ⟨w.heap.size, 3, none⟩ hwz).trans q3); have y4 := (hc5 b (off + k) (by simp; omega)).trans ((World.cell?_alloc_lt wr _ ⟨b, off + k, none⟩ hbz).trans hcell); have x0 : w5.cell? ⟨wr.heap.size, 0, none⟩ = some (.slice none 0 0) := (hc5 wr.heap.size 0 (by simp)).trans (by simp); have x1 : w5.cell? ⟨wr.heap.size, 1, none⟩ = some (.slice none 0 0) := (hc5 wr.heap.size 1 (by simp)).trans (by simp); have g0 : w5.frozen? ⟨wr.heap.size, 0, none⟩ = false := (hf5 wr.heap.size 0 (by simp)).trans (by simp); have g1 : w5.frozen? ⟨wr.heap.size, 1, none⟩ = false := (hf5 wr.heap.size 1 (by simp)).trans (by simp)))
          · have hb5' : Below wr.heap.size wr w5 := (Below.refl _ wr).drew.trans hb5
            have hbA0 : Below w5.heap.size w5 (w5.alloc (.cells #[.slice (some ⟨z1, 0, none⟩) os.length d1, .slice (some ⟨z2, 0, none⟩) ns.length d2] 39)) := (Below.refl _ _).alloc (Nat.le_refl _) _
            have hbW : Below wr.heap.size wr (w5.alloc (.cells #[.slice (some ⟨z1, 0, none⟩) os.length d1, .slice (some ⟨z2, 0, none⟩) ns.length d2] 39)) := hb5'.trans (hbA0.mono hb5'.size)
            have X1 := Lib.hid (hx1.on hbA0)
            have X2 := Lib.hid (hx2.on hbA0)
            have e0 : (w5.alloc (.cells #[.slice (some ⟨z1, 0, none⟩) os.length d1, .slice (some ⟨z2, 0, none⟩) ns.length d2] 39)).cell? ⟨w5.heap.size, 0, none⟩ = some (.slice (some ⟨z1, 0, none⟩) os.length d1) := by simp
            have e1 : (w5.alloc (.cells #[.slice (some ⟨z1, 0, none⟩) os.length d1, .slice (some ⟨z2, 0, none⟩) ns.length d2] 39)).cell? ⟨w5.heap.size, 1, none⟩ = some (.slice (some ⟨z2, 0, none⟩) ns.length d2) := by simp
            have hbx6 : w5.heap.size < (w5.alloc (.cells #[.slice (some ⟨z1, 0, none⟩) os.length d1, .slice (some ⟨z2, 0, none⟩) ns.length d2] 39)).heap.size := by simp
            have hbxw : wr.heap.size ≤ w5.heap.size := hb5'.size
            have hz1' : wr.heap.size ≤ z1 := hz1
            have hz2' : wr.heap.size ≤ z2 := hz2
            clear hx1 hx2 hbA0 hb5' hw5 hb5z hz1 hz2
            generalize (w5.alloc (.cells #[.slice (some ⟨z1, 0, none⟩) os.length d1, .slice (some ⟨z2, 0, none⟩) ns.length d2] 39)) = w6 at *
            generalize w5.heap.size = bx at *
            have hgl : g < wr.heap.size := (HO.out.own.lt g rfl).2
            have hgb : w.heap.size + 1 ≤ g := (HO.out.own.lt g rfl).1
            have HO6 := Lib.hid (HO.out.on hbW)
            have HR6 := Lib.hid (HR.out.below hbW hwz)
            have HL6 := Lib.hid (hbr.trans (hbW.mono hbr.size))
            have hs6 : wr.heap.size ≤ w6.heap.size := hbW.size
            have hlen : ((Circ.simV gs os ns rs st0).getD k []).length = os.length := by rw [HSG.out, Circ.outV_len]
            have HLEN := Lib.hid hlen
            clear hbW hlen HO HR hbr HB HBX hcell q0 q1 q2 q3 y0 y1 y2 y3 y4 hc5 hf5 hb5
            go_wp2_with (at_builtin; refine wpList_append_kept _ rfl (.tmp 38) (.tmp 41) 41 rfl (w.heap.size + 1) 27 i0 _ 1 24 Try.underlying41 HI0.out HZ0.out HZ1.out HZ2.out rfl (by omega) (.slice (some ⟨g, 0, none⟩) k cap) k vs rfl (HO6.out.own.alloc _) ⟨w6.heap.size, 0, none⟩ 1 1 [.slice (some ⟨z1, 0, none⟩) os.length d1] rfl rfl (World.news_of_block (cs := #[.slice (some ⟨z1, 0, none⟩) os.length d1]) (t := 27) (fr := (0, 0)) (heap_alloc_new w6 _)) (by simp [Value.oneCell']) (by omega) (by simp [maxLen]; omega) (by omega) (by simp; omega) _ rfl ?_)
            intro g' cap2 w7 hown7 hgr7 hat7 hlt7 hkept7
            have hgs7 : (w6.alloc (.cells #[.slice (some ⟨z1, 0, none⟩) os.length d1] 27)).grownBy w7 (some g) := hgr7
            have hbA : Below w6.heap.size w6 (w6.alloc (.cells #[.slice (some ⟨z1, 0, none⟩) os.length d1] 27)) := (Below.refl _ _).alloc (Nat.le_refl _) _
            have HO7 := Lib.hid (ROwn.app (z := z1) (c := d1) (HO6.out.on hbA) (by rw [HLEN.out]; exact hown7) hgs7 (by rcases hat7 with h | h; (left; simp [Value.ownBlock] at h; exact h.symm); (right; simpa using h)) (fun _ => by omega) (by rw [HSG.out]; exact X1.out.on hbA))
            have e1' : w7.cell? ⟨bx, 1, none⟩ = some (.slice (some ⟨z2, 0, none⟩) ns.length d2) := hgs7.cell ((World.cell?_alloc_lt w6 _ ⟨bx, 1, none⟩ hbx6).trans e1) (show some bx ≠ some g from by intro x; injection x; omega)
            have HB7 : Hid (BoolsAt w7 w7.heap.size (some ⟨z2, 0, none⟩) (Circ.runV gs ns (rs.take (k + 1)) st0)) := Lib.hid (by
              have h := (X2.out.on hbA).grownR hgs7 (fun b' off' e hl e2 => by injection e with e; injection e with e; injection e2 with e2; omega)
              rw [HRS.out]
              exact h)
            have HR7 := Lib.hid ((HR6.out.alloc (.cells #[.slice (some ⟨z1, 0, none⟩) os.length d1] 27)).grown hgs7 (by intro x; injection x; omega))
            have HL7 := Lib.hid ((HL6.out.alloc HL6.out.size (.cells #[.slice (some ⟨z1, 0, none⟩) os.length d1] 27)).grown hgs7 (by simp; omega) (fun j hj => by injection hj; omega))
            clear hown7 hgr7 hgs7 hat7 hlt7 hkept7 hbA HO6 HR6 HL6 X1 X2 e0 e1
            go_wp2
            go_roundw
            case rel => exact ⟨k + 1, g', cap2, z2, d2, _, by omega, by go_num, rfl, rfl, HO7, HB7, HR7, HL7.out⟩
            case measure => simp [intOf]; omega
          · have hb5' : Below wr.heap.size wr w5 := ((Below.refl _ wr).alloc (Nat.le_refl _) _).drew.trans (hb5.mono (by simp))
            have hz1' : wr.heap.size < z1 := by simp at hz1; omega
            have hz2' : wr.heap.size < z2 := by simp at hz2; omega
            have hbW : Below wr.heap.size wr ((w5.setCell ⟨wr.heap.size, 0, none⟩ (.slice (some ⟨z1, 0, none⟩) os.length d1)).setCell ⟨wr.heap.size, 1, none⟩ (.slice (some ⟨z2, 0, none⟩) ns.length d2)) := (hb5'.setCell (Nat.le_refl _) _).setCell (Nat.le_refl _) _
            have X1 := Lib.hid ((hx1.far ⟨wr.heap.size, 0, none⟩ (.slice (some ⟨z1, 0, none⟩) os.length d1) (fun _ _ e => ne_of_some e (by show z1 ≠ wr.heap.size; omega))).far ⟨wr.heap.size, 1, none⟩ (.slice (some ⟨z2, 0, none⟩) ns.length d2) (fun _ _ e => ne_of_some e (by show z1 ≠ wr.heap.size; omega)))
            have X2 := Lib.hid ((hx2.far ⟨wr.heap.size, 0, none⟩ (.slice (some ⟨z1, 0, none⟩) os.length d1) (fun _ _ e => ne_of_some e (by show z2 ≠ wr.heap.size; omega))).far ⟨wr.heap.size, 1, none⟩ (.slice (some ⟨z2, 0, none⟩) ns.length d2) (fun _ _ e => ne_of_some e (by show z2 ≠ wr.heap.size; omega)))
            have e0 : ((w5.setCell ⟨wr.heap.size, 0, none⟩ (.slice (some ⟨z1, 0, none⟩) os.length d1)).setCell ⟨wr.heap.size, 1, none⟩ (.slice (some ⟨z2, 0, none⟩) ns.length d2)).cell? ⟨wr.heap.size, 0, none⟩ = some (.slice (some ⟨z1, 0, none⟩) os.length d1) := (World.cell?_setCell_other _ _ _ _ (by intro e; injection e with _ e; exact absurd e (by decide))).trans (World.cell?_setCell_same _ _ _ x0)
            have e1 : ((w5.setCell ⟨wr.heap.size, 0, none⟩ (.slice (some ⟨z1, 0, none⟩) os.length d1)).setCell ⟨wr.heap.size, 1, none⟩ (.slice (some ⟨z2, 0, none⟩) ns.length d2)).cell? ⟨wr.heap.size, 1, none⟩ = some (.slice (some ⟨z2, 0, none⟩) ns.length d2) := World.cell?_setCell_same _ _ _ ((World.cell?_setCell_other _ _ _ _ (by intro e; injection e with _ e; exact absurd e (by decide))).trans x1)
            have hbx6 : wr.heap.size < ((w5.setCell ⟨wr.heap.size, 0, none⟩ (.slice (some ⟨z1, 0, none⟩) os.length d1)).setCell ⟨wr.heap.size, 1, none⟩ (.slice (some ⟨z2, 0, none⟩) ns.length d2)).heap.size := by have := hb5.size; simp [World.setCell] at this ⊢; omega
            have hbxw : wr.heap.size ≤ wr.heap.size := Nat.le_refl _
            clear hx1 hx2 hb5' hz1 hz2 x0 x1 g0 g1
            generalize ((w5.setCell ⟨wr.heap.size, 0, none⟩ (.slice (some ⟨z1, 0, none⟩) os.length d1)).setCell ⟨wr.heap.size, 1, none⟩ (.slice (some ⟨z2, 0, none⟩) ns.length d2)) = w6 at *
            obtain ⟨bx, hbxe⟩ : ∃ bx, bx = wr.heap.size := ⟨_, rfl⟩
            rw [← hbxe] at e0 e1 hbx6 ⊢
            have hbxw : wr.heap.size ≤ bx := by omega
            clear hbxe
            have hgl : g < wr.heap.size := (HO.out.own.lt g rfl).2
            have hgb : w.heap.size + 1 ≤ g := (HO.out.own.lt g rfl).1
            have HO6 := Lib.hid (HO.out.on hbW)
            have HR6 := Lib.hid (HR.out.below hbW hwz)
            have HL6 := Lib.hid (hbr.trans (hbW.mono hbr.size))
            have hs6 : wr.heap.size ≤ w6.heap.size := hbW.size
            have hlen : ((Circ.simV gs os ns rs st0).getD k []).length = os.length := by rw [HSG.out, Circ.outV_len]
            have HLEN := Lib.hid hlen
            clear hbW hlen HO HR hbr HB HBX hcell q0 q1 q2 q3 y0 y1 y2 y3 y4 hc5 hf5 hb5
            go_wp2_with (at_builtin; refine wpList_append_kept _ rfl (.tmp 38) (.tmp 41) 41 rfl (w.heap.size + 1) 27 i0 _ 1 24 Try.underlying41 HI0.out HZ0.out HZ1.out HZ2.out rfl (by omega) (.slice (some ⟨g, 0, none⟩) k cap) k vs rfl (HO6.out.own.alloc _) ⟨w6.heap.size, 0, none⟩ 1 1 [.slice (some ⟨z1, 0, none⟩) os.length d1] rfl rfl (World.news_of_block (cs := #[.slice (some ⟨z1, 0, none⟩) os.length d1]) (t := 27) (fr := (0, 0)) (heap_alloc_new w6 _)) (by simp [Value.oneCell']) (by omega) (by simp [maxLen]; omega) (by omega) (by simp; omega) _ rfl ?_)
            intro g' cap2 w7 hown7 hgr7 hat7 hlt7 hkept7
            have hgs7 : (w6.alloc (.cells #[.slice (some ⟨z1, 0, none⟩) os.length d1] 27)).grownBy w7 (some g) := hgr7
            have hbA : Below w6.heap.size w6 (w6.alloc (.cells #[.slice (some ⟨z1, 0, none⟩) os.length d1] 27)) := (Below.refl _ _).alloc (Nat.le_refl _) _
            have HO7 := Lib.hid (ROwn.app (z := z1) (c := d1) (HO6.out.on hbA) (by rw [HLEN.out]; exact hown7) hgs7 (by rcases hat7 with h | h; (left; simp [Value.ownBlock] at h; exact h.symm); (right; simpa using h)) (fun _ => by omega) (by rw [HSG.out]; exact X1.out.on hbA))
            have e1' : w7.cell? ⟨bx, 1, none⟩ = some (.slice (some ⟨z2, 0, none⟩) ns.length d2) := hgs7.cell ((World.cell?_alloc_lt w6 _ ⟨bx, 1, none⟩ hbx6).trans e1) (show some bx ≠ some g from by intro x; injection x; omega)
            have HB7 : Hid (BoolsAt w7 w7.heap.size (some ⟨z2, 0, none⟩) (Circ.runV gs ns (rs.take (k + 1)) st0)) := Lib.hid (by
              have h := (X2.out.on hbA).grownR hgs7 (fun b' off' e hl e2 => by injection e with e; injection e with e; injection e2 with e2; omega)
              rw [HRS.out]
              exact h)
            have HR7 := Lib.hid ((HR6.out.alloc (.cells #[.slice (some ⟨z1, 0, none⟩) os.length d1] 27)).grown hgs7 (by intro x; injection x; omega))
            have HL7 := Lib.hid ((HL6.out.alloc HL6.out.size (.cells #[.slice (some ⟨z1, 0, none⟩) os.length d1] 27)).grown hgs7 (by simp; omega) (fun j hj => by injection hj; omega))
            clear hown7 hgr7 hgs7 hat7 hlt7 hkept7 hbA HO6 HR6 HL6 X1 X2 e0 e1
            go_wp2
            go_roundw
            case rel => exact ⟨k + 1, g', cap2, z2, d2, _, by omega, by go_num, rfl, rfl, HO7, HB7, HR7, HL7.out⟩
            case measure => simp [intOf]; omega
        · obtain rfl : k = n := by omega
          go_wp2
          go_ret
          exact ⟨some ⟨g, 0, none⟩, cap, by rw [HE.out, HSL.out]; rfl, by rw [HE.out]; exact HO.out.rows (HSL.out _), hbr⟩
end Go.Proofs.Ytbhkpjcflghgbaa
