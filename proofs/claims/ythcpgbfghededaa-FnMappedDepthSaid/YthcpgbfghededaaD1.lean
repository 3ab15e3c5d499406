/- The contracts of levels and depth. -/
import Derived.Test.YthcpgbfghededaaW3
import Derived.Test.YthcpgbfghededaaQA
import Derived.StillTailTactics
namespace Go.Proofs.Ythcpgbfghededaa
open Go.RowKit Go.Deep

set_option maxHeartbeats 400000 in
theorem highest_any (A A' : Option Addr) (cap cap' : Nat) (L xs : List Int) (B : Nat) (w : World) (hL : IntsAt w B A L) (hx : IntsAt w B A' xs) (hl : L.length ≤ 1000) (hxl : xs.length ≤ 1000)
    (hok : ∀ k, k < xs.length → 0 ≤ xs.getD k 0 ∧ xs.getD k 0 < 2 * (L.length : Int)) :
    Calls Try.prog 60 #[.slice A L.length cap, .slice A' xs.length cap'] w fun e w' => e = .returned (.int .i64 (Circ.hi L xs)) ∧ w = w' := by
  have HX := Lib.hid hx
  have HL := Lib.hid hL
  have HO := Lib.hid hok
  clear hx hL hok
  generalize hn : xs.length = n at *
  have HN := Lib.hid hn
  generalize hm : L.length = m at *
  have HM := Lib.hid hm
  clear hn hm
  go_enter Try.func60, Try.ntmps60
  go_wp2
  go_loop [5, 10] (fun hv iv => ∃ (k : Nat) (h : Int), k ≤ n ∧ iv = .int .i64 k ∧ hv = .int .i64 h ∧ Hid (Circ.hi L (xs.take k) = h)) (fun _ iv => n - (intOf iv).toNat)
  case atStart => exact ⟨0, 0, Nat.zero_le _, rfl, rfl, Lib.hid (by simp [Circ.hi, Circ.hiFrom])⟩
  case round =>
    obtain ⟨k, h, hk, rfl, rfl, HR⟩ := hrel
    by_cases hlt : k < n
    · obtain ⟨b, off, rfl, _, hcell⟩ := HX.out k (by rw [HN.out]; exact hlt)
      have HS := Lib.hid (Circ.hi_step L xs k (by rw [HN.out]; exact hlt))
      obtain ⟨o1, o2⟩ := HO.out k (by omega)
      generalize xs.getD k 0 = v at *
      obtain ⟨q, hq⟩ : ∃ q : Nat, v / 2 = q := ⟨(v / 2).toNat, by omega⟩
      have hqm : q < m := by omega
      obtain ⟨b', off', rfl, _, hcell'⟩ := HL.out q (by rw [HM.out]; exact hqm)
      have HQ := Lib.hid hq
      have HQ2 := Lib.hid (show (v / 2).toNat = q by omega)
      clear hq
      generalize hg : L.getD q 0 = lq at *
      have HG := Lib.hid hg
      clear hg
      go_wp2_with (go_at_call 95; refine (var_any _ _).mono ?_; rintro e w' ⟨rfl, rfl⟩; rw [HQ.out])
      go_round
      case rel => exact ⟨k + 1, _, by omega, by go_num, rfl, Lib.hid (by rw [HS.out, HR.out, HQ2.out, HG.out]; split <;> omega)⟩
      case measure => simp [intOf]; omega
    · go_wp2
      go_ret
      exact ⟨ret_int (by rw [← HR.out, List.take_of_length_le (by rw [HN.out]; omega)]), rfl⟩

set_option maxHeartbeats 800000 in
theorem varLevels_any (i : Int) (nA gA oA : Option Addr) (nl nc gc ol oc : Nat) (gs : List (Int × Int)) (f : Nat) (w : World) (hg : GatesAt w w.heap.size gA gs) (hgl : gs.length ≤ 14) (h0 : 0 ≤ i) (h1 : i ≤ 4) (h2 : nl ≤ 3) (hf : 1 + i + (nl : Int) = f) (hok : Circ.gatesOk gs f = true) :
    Calls Try.prog 63 #[.agg #[.int .i64 i, .slice nA nl nc, .slice gA gs.length gc, .slice oA ol oc]] w fun e w' => ∃ g : Nat, e = .returned (.slice (some ⟨g, 0, none⟩) (f + gs.length) (f + gs.length)) ∧ w.heap.size ≤ g ∧ Below w.heap.size w w' ∧ IntsAt w' w'.heap.size (some ⟨g, 0, none⟩) (Circ.levels gs f) := by
  have HX := Lib.hid hg
  have HOK := Lib.hid hok
  have HF := Lib.hid hf
  have hf8 : f ≤ 8 := by omega
  have HLL := Lib.hid (Circ.levels_len gs f)
  clear hg hok hf
  have hbw : Below w.heap.size w (w.alloc (.cells #[.int .i64 i, .slice nA nl nc, .slice gA gs.length gc, .slice oA ol oc] 26)) := (Below.refl _ _).alloc (Nat.le_refl _) _
  have r0 : Row (w.alloc (.cells #[.int .i64 i, .slice nA nl nc, .slice gA gs.length gc, .slice oA ol oc] 26)) w.heap.size 26 #[.int .i64 i, .slice nA nl nc, .slice gA gs.length gc, .slice oA ol oc] := heap_alloc_new w _
  have HL0 := Lib.hid hbw
  have HR0 := Lib.hid r0
  clear hbw r0
  generalize hn : gs.length = n at *
  have HN := Lib.hid hn
  clear hn
  have ec : ((f + n : Nat) : Int) = (f : Int) + (n : Int) := by omega
  have hmk := fun W => run_make_row' (P := Try.prog) 23 3 (.int .i64 0) 8 Try.underlying23 Try.info3 rfl .i64 .i64 (f + n) (by omega) (by omega) W
  rw [ec] at hmk
  clear ec
  go_enter Try.func63, Try.ntmps63
  go_wp2_with fail
  refine (firstGate_any _ _ _ _ _ _ _ _ _ _ _ (by omega) (by omega) (by omega)).mono ?_
  rintro e w1 ⟨rfl, hb1⟩
  rw [HF.out]
  have HR1 := Lib.hid (HR0.out.below hb1 HR0.out.lt)
  have HL1 := Lib.hid (HL0.out.trans (hb1.mono HL0.out.size))
  clear hb1 HR0 HL0
  have q2 := HR1.out.cell 2
  simp at q2
  have hz := HR1.out.lt
  go_wp2
  clear hmk q2
  have hg : w.heap.size < w1.heap.size := hz
  have HRS := Lib.hid (show Row (w1.alloc (.cells (madeCells #[.int .i64 0] (f + n)) 3)) w1.heap.size 3 (madeCells #[.int .i64 0] (f + n)) from heap_alloc_new w1 _)
  have HBS := Lib.hid (HL1.out.alloc HL1.out.size (.cells (madeCells #[.int .i64 0] (f + n)) 3))
  generalize w1.alloc (.cells (madeCells #[.int .i64 0] (f + n)) 3) = w2 at *
  generalize w1.heap.size = g at *
  clear hz HR1 HL1 w1
  go_loopw [18] (fun iv wr => ∃ (k : Nat) (cs : Array Value), k ≤ n ∧ iv = .int .i64 k ∧ Hid (Row wr g 3 cs) ∧ Hid (FilledI cs (Circ.levels gs f) (f + k)) ∧ Below w.heap.size w wr) (fun iv _ => n - (intOf iv).toNat)
  case atStart => exact ⟨0, _, Nat.zero_le _, rfl, HRS, Lib.hid (FilledI.made HLL.out (by omega) (fun j hj => Circ.levels_zero gs f j hj)), HBS.out⟩
  case round =>
    clear HRS HBS
    obtain ⟨k, cs, hk, rfl, HRow, HFl, hbr⟩ := hrel
    by_cases hlt : k < n
    · obtain ⟨b, off, rfl, hbl, hcA, hcB⟩ := HX.out k (by rw [HN.out]; exact hlt)
      rw [← hbr.cell (by exact hbl)] at hcA hcB
      obtain ⟨oA1, oB1⟩ := Circ.gatesOk_get HOK.out (k := k) (by rw [HN.out]; exact hlt)
      obtain ⟨oA2, oA3⟩ := Circ.litOk_inv oA1
      obtain ⟨oB2, oB3⟩ := Circ.litOk_inv oB1
      clear oA1 oB1
      have HAT := Lib.hid (fun a b => Circ.levels_at gs f k a b (by rw [HN.out]; exact hlt))
      generalize (gs.getD k (0, 0)).1 = va at *
      generalize (gs.getD k (0, 0)).2 = vb at *
      obtain ⟨qa, hqa⟩ : ∃ q : Nat, va / 2 = q := ⟨(va / 2).toNat, by omega⟩
      obtain ⟨qb, hqb⟩ : ∃ q : Nat, vb / 2 = q := ⟨(vb / 2).toNat, by omega⟩
      have hqa1 : qa < f + k := by omega
      have hqb1 : qb < f + k := by omega
      have HV := Lib.hid (HAT.out qa qb (by omega) (by omega) hqa1 hqb1)
      have HQA := Lib.hid hqa
      have HQB := Lib.hid hqb
      clear hqa hqb HAT
      have hcs : cs.size = f + n := by rw [HFl.out.1, HLL.out]
      have HFN := Lib.hid (HFl.out.step (by rw [HLL.out]; omega))
      have hbdA := Circ.levels_bd gs f qa
      have hbdB := Circ.levels_bd gs f qb
      rw [HN.out] at hbdA hbdB
      have hla : wr.cell? ⟨g, qa, none⟩ = some (.int .i64 ((Circ.levels gs f).getD qa 0)) := by rw [HRow.out.cell]; exact HFl.out.2 qa hqa1
      have hlb : wr.cell? ⟨g, qb, none⟩ = some (.int .i64 ((Circ.levels gs f).getD qb 0)) := by rw [HRow.out.cell]; exact HFl.out.2 qb hqb1
      have hlt1 : wr.cell? ⟨g, f + k, none⟩ = some (cs[f + k]'(by omega)) := by rw [HRow.out.cell, Array.getElem?_eq_getElem (by omega)]
      rw [HV.out] at HFN
      generalize (Circ.levels gs f).getD qa 0 = la at *
      generalize (Circ.levels gs f).getD qb 0 = lb at *
      generalize cs[f + k]'(by omega) = old at *
      have hgl : g < wr.heap.size := HRow.out.lt
      have hfz := HRow.out.frozen (f + k)
      have hne : g ≠ wr.heap.size := by omega
      have s1 : IntKind.i64.wrap ((f : Int) + (k : Int)) = (f : Int) + (k : Int) := IntWalk.i64_in _ (by omega)
      have s2 : (0 : Int) ≤ (f : Int) + (k : Int) := by omega
      have s3 : ((f : Int) + (k : Int)).toNat = f + k := by omega
      have s4 : (f : Int) + (k : Int) < ((f + n : Nat) : Int) := by omega
      have t1 : (0 : Int) ≤ (qa : Int) := by omega
      have t2 : (qa : Int) < (f : Int) + (n : Int) := by omega
      have t3 : (0 : Int) ≤ (qb : Int) := by omega
      have t4 : (qb : Int) < (f : Int) + (n : Int) := by omega
      have n1 : ∀ (W : World) (u : Value), (W.setCell ⟨g, f + k, none⟩ u).cell? ⟨g, qa, none⟩ = W.cell? ⟨g, qa, none⟩ := fun W u => World.cell?_setCell_other W ⟨g, f + k, none⟩ ⟨g, qa, none⟩ u (fun e => by injection e; omega)
      have n2 : ∀ (W : World) (u : Value), (W.setCell ⟨g, f + k, none⟩ u).cell? ⟨g, qb, none⟩ = W.cell? ⟨g, qb, none⟩ := fun W u => World.cell?_setCell_other W ⟨g, f + k, none⟩ ⟨g, qb, none⟩ u (fun e => by injection e; omega)
      have s5 : IntKind.i64.wrap (1 + (if la < lb then lb else la)) = 1 + (if la < lb then lb else la) := IntWalk.i64_in _ (by split <;> omega)
      go_wp2
      clear hcA hcB
      have hA5 := hbr.alloc hbr.size (.cells #[.int .i64 va, .int .i64 vb] 79)
      have R5 : Row (wr.alloc (.cells #[.int .i64 va, .int .i64 vb] 79)) g 3 cs := (Below.heap_alloc _ _ _ hgl).trans HRow.out
      have e0 : (wr.alloc (.cells #[.int .i64 va, .int .i64 vb] 79)).cell? ⟨wr.heap.size, 0, none⟩ = some (.int .i64 va) := by simp
      have e1 : (wr.alloc (.cells #[.int .i64 va, .int .i64 vb] 79)).cell? ⟨wr.heap.size, 1, none⟩ = some (.int .i64 vb) := by simp
      have e2 : (wr.alloc (.cells #[.int .i64 va, .int .i64 vb] 79)).cell? ⟨g, qa, none⟩ = some (.int .i64 la) := (World.cell?_alloc_lt wr _ ⟨g, qa, none⟩ hgl).trans hla
      have e3 : (wr.alloc (.cells #[.int .i64 va, .int .i64 vb] 79)).cell? ⟨g, qb, none⟩ = some (.int .i64 lb) := (World.cell?_alloc_lt wr _ ⟨g, qb, none⟩ hgl).trans hlb
      have e4 : (wr.alloc (.cells #[.int .i64 va, .int .i64 vb] 79)).cell? ⟨g, f + k, none⟩ = some old := (World.cell?_alloc_lt wr _ ⟨g, f + k, none⟩ hgl).trans hlt1
      have e5 := R5.frozen (f + k)
      have HR5 := Lib.hid R5
      have HB5 := Lib.hid hA5
      clear hla hlb hlt1 hfz R5 hA5 HRow hbr
      generalize wr.alloc (.cells #[.int .i64 va, .int .i64 vb] 79) = w5 at *
      generalize wr.heap.size = z5 at *
      go_region_held3 (fun w' => w'.cell? ⟨z5, 0, none⟩ = some (.int .i64 va) ∧ w'.cell? ⟨z5, 1, none⟩ = some (.int .i64 vb) ∧ w'.cell? ⟨g, qa, none⟩ = some (.int .i64 la) ∧ w'.cell? ⟨g, qb, none⟩ = some (.int .i64 lb)) (go_keep)
        (first | (go_at_call 95; refine (var_any _ _).mono ?_; rintro e w' ⟨rfl, rfl⟩; first | rw [HQA.out] | rw [HQB.out]))
      have hmax : max la lb = if la < lb then lb else la := by split <;> omega
      rw [hmax] at HFN
      have HR6 := Lib.hid (HR5.out.set (f + k) (.int .i64 (1 + if la < lb then lb else la)))
      have HB6 := Lib.hid (HB5.out.setCell (p := ⟨g, f + k, none⟩) (Nat.le_of_lt hg) (.int .i64 (1 + if la < lb then lb else la)))
      clear s1 s2 s3 s4 s5 t1 t2 t3 t4 n1 n2 hmax HV HR5 HB5 e0 e1 e2 e3 e4 e5 HQA HQB
      generalize (1 + if la < lb then lb else la) = nv at *
      go_wp2
      go_roundw
      case rel => exact ⟨k + 1, _, by omega, by go_num, HR6, HFN, HB6.out.drew⟩
      case measure => simp [intOf]; omega
    · go_wp2
      go_ret
      exact ⟨g, rfl, Nat.le_of_lt hg, hbr, HFl.out.ints' HRow.out (by rw [HLL.out]; omega)⟩
end Go.Proofs.Ythcpgbfghededaa
