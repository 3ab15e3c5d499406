/- The walk of FnSimulate. -/
import Derived.Test.YtbhkpjcflghgbaaB21
import Derived.Test.YtbhkpjcflghgbaaB22
import Derived.Test.YtbhkpjcflghgbaaB18
import Derived.Test.YtbhkpjcflghgbaaB19
import Derived.Test.YtbhkpjcflghgbaaZ
namespace Go.Proofs.Ytbhkpjcflghgbaa
open Go.RowKit Go.Deep

theorem BSl.setB {w : World} {lo B : Nat} {A : Option Addr} {xs : List Bool} (h : BSl w lo A xs) (hB : B < lo) (j : Nat) (u : Value) : BSl (w.setCell ⟨B, j, none⟩ u) lo A xs := by
  rcases h with ⟨rfl, rfl⟩ | ⟨g, rfl, hl, h⟩
  · exact .inl ⟨rfl, rfl⟩
  · exact .inr ⟨g, rfl, hl, h.farR u (by show g ≠ B; omega)⟩

set_option maxRecDepth 10000 in
set_option maxHeartbeats 4000000 in
theorem fsimulate_walk (A : Option Addr) (bl bc : Nat) (w : World) (hb : CodeAt w A bl) (hbl : bl ≤ bc) (hbc : bc ≤ maxLen) :
    Calls Try.prog 5 #[.slice A bl bc] w fun e w' => e = .returned (.bool true) ∧ Below w.heap.size w w' := by
  have HB := Lib.hid hb
  have HBC := Lib.hid hbc
  unfold maxLen at hbc
  clear hb
  by_cases h20 : bl ≤ 1048576
  · clear hbc
    go_enter Try.func5, Try.ntmps5
    go_wp2_with fail
    refine (drawSim_any A bl bc w HB.out hbl HBC.out).mono ?_
    rintro e w1 ⟨i, nA, gA, oA, rA, nc, gc, oc, rc, ns, gs, os, rs, rfl, hC, hX, hn, hg, ho, hi0, hi1, hr50, hrc, hr10, hb1⟩
    have HC1 := Lib.hid hC
    have HX1 := Lib.hid hX
    have HL1 := Lib.hid hb1
    have HRM : Hid (rs.length ≤ maxLen) := Lib.hid (by simp [maxLen]; omega)
    clear hC hX hb1 hr10
    obtain ⟨hel, heo⟩ := simul_le i ns gs os rs 0
    have hb2 : Below w1.heap.size w1 (w1.alloc (.cells #[.int .i64 i, .slice nA ns.length nc, .slice gA gs.length gc, .slice oA os.length oc] 26)) := (Below.refl _ _).alloc (Nat.le_refl _) _
    have HR2 : Hid (Row (w1.alloc (.cells #[.int .i64 i, .slice nA ns.length nc, .slice gA gs.length gc, .slice oA os.length oc] 26)) w1.heap.size 26 #[.int .i64 i, .slice nA ns.length nc, .slice gA gs.length gc, .slice oA os.length oc]) := Lib.hid (heap_alloc_new w1 _)
    have HC2 := Lib.hid ((HC1.out.below hb2).mono hb2.size)
    have HX2 := Lib.hid (HX1.out.on hb2)
    have HL2 := Lib.hid (HL1.out.trans (hb2.mono HL1.out.size))
    clear hb2 HC1 HX1 HL1
    go_wp2_with fail
    generalize w1.alloc (.cells #[.int .i64 i, .slice nA ns.length nc, .slice gA gs.length gc, .slice oA os.length oc] 26) = w2 at *
    generalize w1.heap.size = c0 at *
    refine (simulate_any i nA gA oA rA nc gc oc rc ns gs os rs _ HC2.out HX2.out HRM.out).mono ?_
    rintro e w3 ⟨eA, rfl, hx3, hb3⟩
    have HG3 := Lib.hid hx3.rows
    clear hx3
    have HC3 := Lib.hid ((HC2.out.below hb3).mono hb3.size)
    have HX3 := Lib.hid (HX2.out.on hb3)
    have HL3 := Lib.hid (HL2.out.trans (hb3.mono HL2.out.size))
    have HR3 := Lib.hid (HR2.out.below hb3 HR2.out.lt)
    clear hb3 HC2 HX2 HL2 HR2
    have q0 := HR3.out.cell 0
    have q1 := HR3.out.cell 1
    have q2 := HR3.out.cell 2
    have q3 := HR3.out.cell 3
    simp at q0 q1 q2 q3
    go_wp2_with fail
    refine (ssimulate_any i nA gA oA rA nc gc oc rc ns gs os rs _ HC3.out HX3.out HRM.out).mono ?_
    rintro e w4 ⟨wA, wc, rfl, hx4, hb4⟩
    clear q0 q1 q2 q3
    have HW4 := Lib.hid hx4
    clear hx4
    have HC4 := Lib.hid ((HC3.out.below hb4).mono hb4.size)
    have HX4 := Lib.hid (HX3.out.on hb4)
    have HL4 := Lib.hid (HL3.out.trans (hb4.mono HL3.out.size))
    have HR4 := Lib.hid (HR3.out.below hb4 HR3.out.lt)
    have HG4 := Lib.hid (HG3.out.on hb4)
    clear hb4 HC3 HX3 HL3 HR3 HG3
    go_wp2_with fail
    refine (sameRows_len eA wA _ _ _ (Circ.simulV i ns gs os rs) _ rfl HG4.out HW4.out (by omega) (by omega)).mono ?_
    rintro e w5 ⟨rfl, hb5⟩
    have HC5 := Lib.hid ((HC4.out.below hb5).mono hb5.size)
    have HX5 := Lib.hid (HX4.out.on hb5)
    have HL5 := Lib.hid (HL4.out.trans (hb5.mono HL4.out.size))
    have HR5 := Lib.hid (HR4.out.below hb5 HR4.out.lt)
    have HG5 := Lib.hid (HG4.out.on hb5)
    clear hb5 HC4 HX4 HL4 HR4 HG4 HW4
    have q0 := HR5.out.cell 0
    have q1 := HR5.out.cell 1
    have q2 := HR5.out.cell 2
    have q3 := HR5.out.cell 3
    simp at q0 q1 q2 q3
    go_wp2_with fail
    refine (svalid_any i nA gA oA nc gc oc ns gs os _ HC5.out).mono ?_
    rintro e w6 ⟨rfl, hb6⟩
    clear q0 q1 q2 q3
    have HC6 := Lib.hid ((HC5.out.below hb6).mono hb6.size)
    have HX6 := Lib.hid (HX5.out.on hb6)
    have HL6 := Lib.hid (HL5.out.trans (hb6.mono HL5.out.size))
    have HR6 := Lib.hid (HR5.out.below hb6 HR5.out.lt)
    have HG6 := Lib.hid (HG5.out.on hb6)
    clear hb6 HC5 HX5 HL5 HR5 HG5
    have HVI := Lib.hid (fun h => Circ.valid_within (i := i) (ns := ns) (gs := gs) (os := os) h)
    cases hv : Circ.validB i ns gs os
    · have HE : Hid ((Circ.simulV i ns gs os rs).length = 0) := Lib.hid (by rw [Circ.simulV, hv]; rfl)
      clear hv
      generalize (Circ.simulV i ns gs os rs).length = el at *
      obtain rfl := HE.out
      go_wp2_with (go_at_call 14; refine (alive_any _).mono ?_; rintro e w9 ⟨rfl, hb9⟩)
      go_ret
      exact ⟨rfl, HL6.out.trans (hb9.mono HL6.out.size)⟩
    · have HVV := Lib.hid hv
      obtain ⟨a0, a1, a2, a3, a4⟩ := HVI.out hv
      cases hw : Circ.rowsB i rs
      · have HE : Hid ((Circ.simulV i ns gs os rs).length = 0) := Lib.hid (by rw [Circ.simulV, hw, Bool.and_false]; rfl)
        have hr0 : 0 < rs.length := by
          rcases Nat.eq_zero_or_pos rs.length with h | h
          · have : rs = [] := List.eq_nil_of_length_eq_zero h
            subst this
            simp [Circ.rowsB, Circ.lensB] at hw
          · exact h
        clear hv hw
        generalize (Circ.simulV i ns gs os rs).length = el at *
        obtain rfl := HE.out
        have e1 : ((0 : Int) != (rs.length : Int)) = true := by simp; omega
        go_wp2
        go_ret
        exact ⟨rfl, HL6.out⟩
      · have HWW := Lib.hid hw
        have HE : Hid (Circ.simulV i ns gs os rs = Circ.simV gs os ns rs (List.replicate ns.length false)) := Lib.hid (by rw [Circ.simulV, hw, hv]; rfl)
        have h40 : rs.length ≤ 40 := by simp only [Circ.rowsB, Bool.and_eq_true, decide_eq_true_eq] at hw; exact hw.1
        have HLB : Hid (Circ.lensB i rs = true) := Lib.hid (by simp only [Circ.rowsB, Bool.and_eq_true] at hw; exact hw.2)
        have hsl : (Circ.simulV i ns gs os rs).length = rs.length := by rw [HE.out, Circ.simV_len]
        rw [hsl]
        rw [HE.out] at HG6
        have HGL : Hid (∀ st, (Circ.simV gs os ns rs st).length = rs.length) := Lib.hid (fun st => Circ.simV_len gs os ns rs st)
        clear hv hw hsl hel heo
        generalize hnn : rs.length = n at *
        have HN := Lib.hid hnn
        clear hnn
        have e1 : ((n : Int) != (n : Int)) = false := by simp
        have q1 := HR6.out.cell 1
        simp at q1
        have hmk2 := fun W => run_make_row' (P := Try.prog) 27 4 (.bool false) 1 Try.underlying27 Try.infoB rfl .i64 .i64 ns.length (by omega) (by omega) W
        go_wp2
        clear hmk2 q1 e1
        have hb4 : Below w6.heap.size w6 (w6.alloc (.cells (madeCells #[.bool false] ns.length) 4)) := (Below.refl _ _).alloc (Nat.le_refl _) _
        have HR6s := Lib.hid (HR6.out.below hb4 HR6.out.lt)
        have HL6s := Lib.hid (HL6.out.trans (hb4.mono HL6.out.size))
        have HC6s := Lib.hid ((HC6.out.below hb4).mono hb4.size)
        have HX6s := Lib.hid (HX6.out.on hb4)
        have HG6s := Lib.hid (HG6.out.on hb4)
        have HBs := Lib.hid (BRow.made w6 ns.length).bools
        clear hb4 HR6 HL6 HC6 HX6 HG6
        generalize w6.alloc (.cells (madeCells #[.bool false] ns.length) 4) = w6s at *
        generalize w6.heap.size = sb0 at *
        generalize hst0 : List.replicate ns.length false = st0 at *
        have HST0 : Hid (st0.length = ns.length) := Lib.hid (by rw [← hst0]; simp)
        clear hst0
        go_loopw [6, 7] (fun sv iv wr => ∃ (k : Nat) (sA : Option Addr) (sc : Nat), k ≤ n ∧ iv = .int .i64 k ∧ sv = .slice sA ns.length sc ∧ Hid (BoolsAt wr wr.heap.size sA (Circ.runV gs ns (rs.take k) st0)) ∧ Hid (Below w6s.heap.size w6s wr)) (fun _ iv _ => n - (intOf iv).toNat)
        case atStart => exact ⟨0, some ⟨sb0, 0, none⟩, ns.length, Nat.zero_le _, rfl, rfl, Lib.hid (by simpa [Circ.runV] using HBs.out), Lib.hid (Below.refl _ _)⟩
        case round =>
          clear HBs
          obtain ⟨k, sA, sc, hk, rfl, rfl, HB, HBR⟩ := hrel
          by_cases hlt : k < n
          · obtain ⟨b, off, rfl, hbl, A', cap', hcell, hbx⟩ := HX6s.out k (by rw [HN.out]; exact hlt)
            rw [← HBR.out.cell (by exact hbl)] at hcell
            have HBX := Lib.hid ((hbx.below HBR.out).mono HBR.out.size)
            have HRr := Lib.hid (HR6s.out.below HBR.out HR6s.out.lt)
            have HCr := Lib.hid ((HC6s.out.below HBR.out).mono HBR.out.size)
            have HSG := Lib.hid (Circ.simV_get gs os ns rs st0 k (by rw [HN.out]; exact hlt))
            have HRS := Lib.hid (Circ.runV_step gs ns rs st0 k (by rw [HN.out]; exact hlt))
            have HLR := Lib.hid (Circ.lensB_get HLB.out (k := k) (by rw [HN.out]; exact hlt))
            have HLS := Lib.hid (Circ.runV_len gs ns (rs.take k) st0 HST0.out)
            clear hbx
            generalize rs.getD k [] = r at *
            generalize Circ.runV gs ns (rs.take k) st0 = stk at *
            have HAS : assignB i ns gs os stk.length r.length = true := by simp [assignB, HVV.out, HLS.out, HLR.out]
            have HSO : Hid (stepV i ns gs os stk r os = (Circ.simV gs os ns rs st0).getD k []) := Lib.hid (by rw [stepV_t os HAS, HSG.out])
            have HSN : Hid (stepV i ns gs os stk r ns = Circ.runV gs ns (rs.take (k + 1)) st0) := Lib.hid (by rw [stepV_t ns HAS, HRS.out])
            have HLO : Hid ((stepV i ns gs os stk r os).length = os.length) := Lib.hid (by rw [stepV_t os HAS, Circ.outV_len])
            have HLN : Hid ((stepV i ns gs os stk r ns).length = ns.length) := Lib.hid (by rw [stepV_t ns HAS, Circ.outV_len])
            clear HAS
            have q0 := HRr.out.cell 0
            have q1 := HRr.out.cell 1
            have q2 := HRr.out.cell 2
            have q3 := HRr.out.cell 3
            simp at q0 q1 q2 q3
            have hcz := HRr.out.lt
            have hbz : b < wr.heap.size := Nat.lt_of_lt_of_le hbl HBR.out.size
            have hk0 : (0 : Int) ≤ (k : Int) := Int.natCast_nonneg _
            have hk1 : (k : Int) < (n : Int) := by omega
            go_wp2
            go_region_held3 (fun w' => (w'.cell? ⟨c0, 0, none⟩ = some (.int .i64 i) ∧ w'.cell? ⟨c0, 1, none⟩ = some (.slice nA ns.length nc) ∧ w'.cell? ⟨c0, 2, none⟩ = some (.slice gA gs.length gc) ∧ w'.cell? ⟨c0, 3, none⟩ = some (.slice oA os.length oc)) ∧ w'.cell? ⟨b, off + k, none⟩ = some (.slice A' r.length cap'))
              (first | go_keep | (exact ⟨⟨(World.cell?_alloc_lt w7 _ ⟨c0, 0, none⟩ hw7).trans y0, (World.cell?_alloc_lt w7 _ ⟨c0, 1, none⟩ hw7).trans y1, (World.cell?_alloc_lt w7 _ ⟨c0, 2, none⟩ hw7).trans y2, (World.cell?_alloc_lt w7 _ ⟨c0, 3, none⟩ hw7).trans y3⟩, (World.cell?_alloc_lt w7 _ ⟨b, off + k, none⟩ hb7z).trans y4⟩) | (exact ⟨⟨y0, y1, y2, y3⟩, y4⟩) | (exact ⟨⟨((World.cell?_setCell_other _ _ ⟨c0, 0, none⟩ _ (fun e => by injection e; omega)).trans (World.cell?_setCell_other _ _ ⟨c0, 0, none⟩ _ (fun e => by injection e; omega))).trans y0, ((World.cell?_setCell_other _ _ ⟨c0, 1, none⟩ _ (fun e => by injection e; omega)).trans (World.cell?_setCell_other _ _ ⟨c0, 1, none⟩ _ (fun e => by injection e; omega))).trans y1, ((World.cell?_setCell_other _ _ ⟨c0, 2, none⟩ _ (fun e => by injection e; omega)).trans (World.cell?_setCell_other _ _ ⟨c0, 2, none⟩ _ (fun e => by injection e; omega))).trans y2, ((World.cell?_setCell_other _ _ ⟨c0, 3, none⟩ _ (fun e => by injection e; omega)).trans (World.cell?_setCell_other _ _ ⟨c0, 3, none⟩ _ (fun e => by injection e; omega))).trans y3⟩, ((World.cell?_setCell_other _ _ ⟨b, off + k, none⟩ _ (fun e => by injection e; omega)).trans (World.cell?_setCell_other _ _ ⟨b, off + k, none⟩ _ (fun e => by injection e; omega))).trans y4⟩))
              (first | (go_at_call 17; refine (step_len i nA gA oA sA A' nc gc oc ns.length sc cap' ns gs os stk r wr.drew HLS.out ?_ ?_ ?_).mono ?_; (exact (HCr.out.below (Below.refl _ wr).drew)); (exact HB.out.below (Below.refl _ wr).drew); (exact HBX.out.below (Below.refl _ wr).drew); rintro e w7 ⟨B1, B2, rfl, hx7, hb7⟩; rw [HSO.out, HSN.out] at hx7; rw [HLO.out, HLN.out]; obtain ⟨hc7, hf7⟩ := bcell hb7; have y0 := (hc7 c0 0 (by simp; omega)).trans q0; have y1 := (hc7 c0 1 (by simp; omega)).trans q1; have y2 := (hc7 c0 2 (by simp; omega)).trans q2; have y3 := (hc7 c0 3 (by simp; omega)).trans q3; have y4 := (hc7 b (off + k) (by simp; omega)).trans hcell; have hw7 : c0 < w7.heap.size := Nat.lt_of_lt_of_le hcz hb7.size; have hb7z : b < w7.heap.size := Nat.lt_of_lt_of_le hbz hb7.size) | (go_at_call 17; refine (step_len i nA gA oA sA A' nc gc oc ns.length sc cap' ns gs os stk r (wr.alloc (.cells #[.slice none 0 0, .slice none 0 0] 39)).drew HLS.out ?_ ?_ ?_).mono ?_; (exact ((HCr.out.below ((Below.refl _ wr).alloc (Nat.le_refl _) (.cells #[.slice none 0 0, .slice none 0 0] 39)).drew).mono ((Below.refl _ wr).alloc (Nat.le_refl _) (.cells #[.slice none 0 0, .slice none 0 0] 39)).drew.size)); (exact HB.out.on ((Below.refl _ wr).alloc (Nat.le_refl _) (.cells #[.slice none 0 0, .slice none 0 0] 39)).drew); (exact HBX.out.on ((Below.refl _ wr).alloc (Nat.le_refl _) (.cells #[.slice none 0 0, .slice none 0 0] 39)).drew); rintro e w7 ⟨B1, B2, rfl, hx7, hb7⟩; rw [HSO.out, HSN.out] at hx7; rw [HLO.out, HLN.out]; obtain ⟨hc7, hf7⟩ := bcell hb7; have y0 := (hc7 c0 0 (by simp; omega)).trans ((World.cell?_alloc_lt wr _ ⟨c0, 0, none⟩ hcz).trans q0); have y1 := (hc7 c0 1 (by simp; omega)).trans ((World.cell?_alloc_lt wr _ ⟨c0, 1, none⟩ hcz).trans q1); have y2 := (hc7 c0 2 (by simp; omega)).trans ((World.cell?_alloc_lt wr _ ⟨c0, 2, none⟩ hcz).trans q2); have y3 := (hc7 c0 3 (by simp; omega)).trans ((World.cell?_alloc_lt wr _ ⟨c0, 3, none⟩ hcz).trans q3); have y4 := (hc7 b (off + k) (by simp; omega)).trans ((World.cell?_alloc_lt wr _ ⟨b, off + k, none⟩ hbz).trans hcell); have x0 : w7.cell? ⟨wr.heap.size, 0, none⟩ = some (.slice none 0 0) := (hc7 wr.heap.size 0 (by simp)).trans (by simp); have x1 : w7.cell? ⟨wr.heap.size, 1, none⟩ = some (.slice none 0 0) := (hc7 wr.heap.size 1 (by simp)).trans (by simp); have g0 : w7.frozen? ⟨wr.heap.size, 0, none⟩ = false := (hf7 wr.heap.size 0 (by simp)).trans (by simp); have g1 : w7.frozen? ⟨wr.heap.size, 1, none⟩ = false := (hf7 wr.heap.size 1 (by simp)).trans (by simp)))
            · skip
              have hb7' : Below wr.heap.size wr w7 := (Below.refl _ wr).drew.trans hb7
              have hbA0 : Below w7.heap.size w7 (w7.alloc (.cells #[.slice B1 os.length os.length, .slice B2 ns.length ns.length] 39)) := (Below.refl _ _).alloc (Nat.le_refl _) _
              have hbW : Below wr.heap.size wr (w7.alloc (.cells #[.slice B1 os.length os.length, .slice B2 ns.length ns.length] 39)) := hb7'.trans (hbA0.mono hb7'.size)
              have X1 := Lib.hid (hx7.fst.bools.on hbA0)
              have X2 := Lib.hid (hx7.snd.bools.on hbA0)
              have e0 : (w7.alloc (.cells #[.slice B1 os.length os.length, .slice B2 ns.length ns.length] 39)).cell? ⟨w7.heap.size, 0, none⟩ = some (.slice B1 os.length os.length) := by simp
              have e1 : (w7.alloc (.cells #[.slice B1 os.length os.length, .slice B2 ns.length ns.length] 39)).cell? ⟨w7.heap.size, 1, none⟩ = some (.slice B2 ns.length ns.length) := by simp
              have hbx8 : w7.heap.size < (w7.alloc (.cells #[.slice B1 os.length os.length, .slice B2 ns.length ns.length] 39)).heap.size := by simp
              clear hx7 hbA0 hb7' hw7 hb7z
              generalize (w7.alloc (.cells #[.slice B1 os.length os.length, .slice B2 ns.length ns.length] 39)) = w8 at *
              generalize w7.heap.size = bx at *
              have hgl6 : wr.heap.size ≤ w8.heap.size := hbW.size
              have HBR8 := Lib.hid (HBR.out.trans (hbW.mono HBR.out.size))
              obtain ⟨bo, offo, rfl, hblo, Ao, co, hco, hbo⟩ := HG6s.out k (by rw [HGL.out]; exact hlt)
              rw [← HBR8.out.cell (by exact hblo)] at hco
              have HBO := Lib.hid ((hbo.below HBR8.out).mono HBR8.out.size)
              have hboz : bo < w8.heap.size := Nat.lt_of_lt_of_le hblo HBR8.out.size
              have HLSK : Hid (((Circ.simV gs os ns rs st0).getD k []).length = os.length) := Lib.hid (by rw [HSG.out, Circ.outV_len])
              rw [HLSK.out] at hco
              clear hbo hbW HB HBX hcell q0 q1 q2 q3 y0 y1 y2 y3 y4 hc7 hf7 hb7 HRr HCr
              go_wp2
              go_region_held3 (fun w' => w'.cell? ⟨bo, offo + k, none⟩ = some (.slice Ao os.length co) ∧ w'.cell? ⟨bx, 0, none⟩ = some (.slice B1 os.length os.length))
                (first | go_keep | (have _t := hb9; refine ⟨?_, ?_⟩; (exact (hc9 _ _ (by simp; omega)).trans hco); (exact (hc9 _ _ (by simp; omega)).trans e0)))
                (first | (go_at_call 11; refine (sameBools_len Ao B1 os.length co _ ((Circ.simV gs os ns rs st0).getD k []) _ HLSK.out ?_ ?_ (by omega)).mono ?_; (exact HBO.out.below (Below.refl _ w8).drew); (exact X1.out.below (Below.refl _ w8).drew); rintro e w9 ⟨rfl, hb9⟩; obtain ⟨hc9, hf9⟩ := bcell hb9))
              have hb9' : Below w8.heap.size w8 w9 := (Below.refl _ w8).drew.trans hb9
              have HBR9 := Lib.hid (HBR8.out.trans (hb9'.mono HBR8.out.size))
              have HB9 := Lib.hid (X2.out.on hb9')
              have e1' : w9.cell? ⟨bx, 1, none⟩ = some (.slice B2 ns.length ns.length) := (hb9'.cell (p := ⟨bx, 1, none⟩) hbx8).trans e1
              clear hb9 hb9' hc9 hf9 e0 e1 hco
              go_wp2
              go_roundw
              case rel => exact ⟨k + 1, B2, ns.length, by omega, by go_num, rfl, HB9, HBR9⟩
              case measure => simp [intOf]; omega
            · skip
              have hb7' : Below wr.heap.size wr w7 := ((Below.refl _ wr).alloc (Nat.le_refl _) _).drew.trans (hb7.mono (by simp))
              have hbW : Below wr.heap.size wr ((w7.setCell ⟨wr.heap.size, 0, none⟩ (.slice B1 os.length os.length)).setCell ⟨wr.heap.size, 1, none⟩ (.slice B2 ns.length ns.length)) := (hb7'.setCell (Nat.le_refl _) _).setCell (Nat.le_refl _) _
              have hs7 : (wr.alloc (.cells #[.slice none 0 0, .slice none 0 0] 39)).drew.heap.size = wr.heap.size + 1 := by simp
              rw [hs7] at hx7
              have X1 := Lib.hid ((hx7.fst.setB (B := wr.heap.size) (by omega) 0 (.slice B1 os.length os.length)).setB (B := wr.heap.size) (by omega) 1 (.slice B2 ns.length ns.length)).bools
              have X2 := Lib.hid ((hx7.snd.setB (B := wr.heap.size) (by omega) 0 (.slice B1 os.length os.length)).setB (B := wr.heap.size) (by omega) 1 (.slice B2 ns.length ns.length)).bools
              have e0 : ((w7.setCell ⟨wr.heap.size, 0, none⟩ (.slice B1 os.length os.length)).setCell ⟨wr.heap.size, 1, none⟩ (.slice B2 ns.length ns.length)).cell? ⟨wr.heap.size, 0, none⟩ = some (.slice B1 os.length os.length) := (World.cell?_setCell_other _ _ _ _ (by intro e; injection e with _ e; exact absurd e (by decide))).trans (World.cell?_setCell_same _ _ _ x0)
              have e1 : ((w7.setCell ⟨wr.heap.size, 0, none⟩ (.slice B1 os.length os.length)).setCell ⟨wr.heap.size, 1, none⟩ (.slice B2 ns.length ns.length)).cell? ⟨wr.heap.size, 1, none⟩ = some (.slice B2 ns.length ns.length) := World.cell?_setCell_same _ _ _ ((World.cell?_setCell_other _ _ _ _ (by intro e; injection e with _ e; exact absurd e (by decide))).trans x1)
              have hbx8 : wr.heap.size < ((w7.setCell ⟨wr.heap.size, 0, none⟩ (.slice B1 os.length os.length)).setCell ⟨wr.heap.size, 1, none⟩ (.slice B2 ns.length ns.length)).heap.size := by have := hb7.size; simp [World.setCell] at this ⊢; omega
              clear hx7 hb7' x0 x1 g0 g1 hs7
              generalize ((w7.setCell ⟨wr.heap.size, 0, none⟩ (.slice B1 os.length os.length)).setCell ⟨wr.heap.size, 1, none⟩ (.slice B2 ns.length ns.length)) = w8 at *
              obtain ⟨bx, hbxe⟩ : ∃ bx, bx = wr.heap.size := ⟨_, rfl⟩
              rw [← hbxe] at e0 e1 hbx8 ⊢
              clear hbxe
              have hgl6 : wr.heap.size ≤ w8.heap.size := hbW.size
              have HBR8 := Lib.hid (HBR.out.trans (hbW.mono HBR.out.size))
              obtain ⟨bo, offo, rfl, hblo, Ao, co, hco, hbo⟩ := HG6s.out k (by rw [HGL.out]; exact hlt)
              rw [← HBR8.out.cell (by exact hblo)] at hco
              have HBO := Lib.hid ((hbo.below HBR8.out).mono HBR8.out.size)
              have hboz : bo < w8.heap.size := Nat.lt_of_lt_of_le hblo HBR8.out.size
              have HLSK : Hid (((Circ.simV gs os ns rs st0).getD k []).length = os.length) := Lib.hid (by rw [HSG.out, Circ.outV_len])
              rw [HLSK.out] at hco
              clear hbo hbW HB HBX hcell q0 q1 q2 q3 y0 y1 y2 y3 y4 hc7 hf7 hb7 HRr HCr
              go_wp2
              go_region_held3 (fun w' => w'.cell? ⟨bo, offo + k, none⟩ = some (.slice Ao os.length co) ∧ w'.cell? ⟨bx, 0, none⟩ = some (.slice B1 os.length os.length))
                (first | go_keep | (have _t := hb9; refine ⟨?_, ?_⟩; (exact (hc9 _ _ (by simp; omega)).trans hco); (exact (hc9 _ _ (by simp; omega)).trans e0)))
                (first | (go_at_call 11; refine (sameBools_len Ao B1 os.length co _ ((Circ.simV gs os ns rs st0).getD k []) _ HLSK.out ?_ ?_ (by omega)).mono ?_; (exact HBO.out.below (Below.refl _ w8).drew); (exact X1.out.below (Below.refl _ w8).drew); rintro e w9 ⟨rfl, hb9⟩; obtain ⟨hc9, hf9⟩ := bcell hb9))
              have hb9' : Below w8.heap.size w8 w9 := (Below.refl _ w8).drew.trans hb9
              have HBR9 := Lib.hid (HBR8.out.trans (hb9'.mono HBR8.out.size))
              have HB9 := Lib.hid (X2.out.on hb9')
              have e1' : w9.cell? ⟨bx, 1, none⟩ = some (.slice B2 ns.length ns.length) := (hb9'.cell (p := ⟨bx, 1, none⟩) hbx8).trans e1
              clear hb9 hb9' hc9 hf9 e0 e1 hco
              go_wp2
              go_roundw
              case rel => exact ⟨k + 1, B2, ns.length, by omega, by go_num, rfl, HB9, HBR9⟩
              case measure => simp [intOf]; omega
          · skip
            have HRr := Lib.hid (HR6s.out.below HBR.out HR6s.out.lt)
            have HCr := Lib.hid ((HC6s.out.below HBR.out).mono HBR.out.size)
            have HXr := Lib.hid (HX6s.out.on HBR.out)
            have HGr := Lib.hid (HG6s.out.on HBR.out)
            have hcz := HRr.out.lt
            have q0 := HRr.out.cell 0
            have q1 := HRr.out.cell 1
            have q2 := HRr.out.cell 2
            have q3 := HRr.out.cell 3
            simp at q0 q1 q2 q3
            obtain ⟨hh, hhe⟩ : ∃ hh : Nat, n / 2 = hh := ⟨_, rfl⟩
            have hhl : hh ≤ n := by omega
            have HHL1 : Hid ((rs.take hh).length = hh) := Lib.hid (by rw [List.length_take, HN.out]; omega)
            have HHL2 : Hid (((Circ.simV gs os ns rs st0).take hh).length = hh) := Lib.hid (by rw [List.length_take, HGL.out]; omega)
            have HTK : Hid (Circ.simulV i ns gs os (rs.take hh) = (Circ.simV gs os ns rs st0).take hh) := Lib.hid (by rw [simul_take i ns gs os rs hh HVV.out HWW.out, HE.out])
            have HOT : Hid (offs 0 ((Circ.simV gs os ns rs st0).take hh) ((Circ.simV gs os ns rs st0).take hh).length ≤ 2000000) := Lib.hid (by have := (simul_le i ns gs os (rs.take hh) 0).2; rw [HTK.out] at this; omega)
            have HHE := Lib.hid hhe
            have e2 : (n : Int) / 2 = (hh : Int) := by omega
            have e2' : (n : Int).tdiv 2 = (hh : Int) := by rw [Int.tdiv_eq_ediv_of_nonneg (by omega)]; omega
            have t1 : (0 : Int) ≤ (hh : Int) := by omega
            have t2 : (hh : Int) ≤ (n : Int) := by omega
            have t3 : (hh : Int) ≤ (rc : Int) := by omega
            have t4 : hh ≤ rc := by omega
            clear hhe
            go_wp2
            go_region_held3 (fun w' => w'.cell? ⟨c0, 0, none⟩ = some (.int .i64 i) ∧ w'.cell? ⟨c0, 1, none⟩ = some (.slice nA ns.length nc) ∧ w'.cell? ⟨c0, 2, none⟩ = some (.slice gA gs.length gc) ∧ w'.cell? ⟨c0, 3, none⟩ = some (.slice oA os.length oc))
              (first | go_keep | (have _t := hb12; exact ⟨(hc12 _ _ (by omega)).trans ((hc11 _ _ (by simp; omega)).trans q0), (hc12 _ _ (by omega)).trans ((hc11 _ _ (by simp; omega)).trans q1), (hc12 _ _ (by omega)).trans ((hc11 _ _ (by simp; omega)).trans q2), (hc12 _ _ (by omega)).trans ((hc11 _ _ (by simp; omega)).trans q3)⟩) | (have _t := hb11; exact ⟨(hc11 _ _ (by simp; omega)).trans q0, (hc11 _ _ (by simp; omega)).trans q1, (hc11 _ _ (by simp; omega)).trans q2, (hc11 _ _ (by simp; omega)).trans q3⟩))
              (first
                | (go_at_call 20; refine (simulate_len i nA gA oA rA nc gc oc hh rc ns gs os (rs.take hh) _ HHL1.out ?_ ?_ (by simp [maxLen]; omega)).mono ?_; (exact HCr.out.below (Below.refl _ wr).drew); (exact (HXr.out.take hh).below (Below.refl _ wr).drew); rintro e w11 ⟨fA, rfl, hx11, hb11⟩; rw [HTK.out] at hx11; rw [HTK.out, HHL2.out]; obtain ⟨hc11, hf11⟩ := bcell hb11; have hs11 : wr.heap.size ≤ w11.heap.size := hb11.size)
                | (go_at_call 21; refine (sameRows_len fA eA hh _ _ ((Circ.simV gs os ns rs st0).take hh) _ HHL2.out ?_ ?_ (by omega) HOT.out).mono ?_; (exact hx11.rows); (exact (HGr.out.take hh).on ((Below.refl _ wr).drew.trans hb11)); rintro e w12 ⟨rfl, hb12⟩; obtain ⟨hc12, hf12⟩ := bcell hb12))
            go_wp2
            go_ret
            have hbX : Below wr.heap.size wr w11 := (Below.refl _ wr).drew.trans hb11
            have h1 := HL6s.out.size
            have h2 := HBR.out.size
            exact ⟨rfl, ((HL6s.out.trans (HBR.out.mono h1)).trans (hbX.mono (by omega))).trans (hb12.mono (by omega))⟩
  · go_enter Try.func5, Try.ntmps5
    go_wp2
    go_ret
    exact ⟨rfl, Below.refl _ _⟩
end Go.Proofs.Ytbhkpjcflghgbaa
