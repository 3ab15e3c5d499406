/- The contract of the specification's validity test. -/
import Derived.Test.YtkkkkalgfmddbaaW2
import Derived.Deep.OwnRows
import Derived.Test.YtkkkkalgfmddbaaK
import Derived.StillTailTactics
namespace Go.Proofs.Ytkkkkalgfmddbaa
open Go.RowKit

set_option maxHeartbeats 800000 in
theorem svalid_any (i : Int) (nA gA oA : Option Addr) (nc gc oc : Nat) (ns : List Int) (gs : List (Int × Int)) (os : List Int) (w : World) (hc : CircAt w w.heap.size nA gA oA ns gs os) :
    Calls Try.prog 136 #[.agg #[.int .i64 i, .slice nA ns.length nc, .slice gA gs.length gc, .slice oA os.length oc]] w fun e w' => e = .returned (.bool (Circ.validB i ns gs os)) ∧ Below w.heap.size w w' := by
  have HC := Lib.hid hc
  have hnl := hc.nl
  have hgl := hc.gl
  have hol := hc.ol
  unfold maxLen at hnl hgl hol
  clear hc
  by_cases hw : 0 ≤ i ∧ i ≤ 4 ∧ ns.length ≤ 3 ∧ gs.length ≤ 14 ∧ os.length ≤ 3
  · have HW := Lib.hid (Circ.within_t hw)
    obtain ⟨h0, h1, h2, h3, h4⟩ := hw
    have HI := Lib.hid (Circ.in_t h0 h1)
    have HP := Lib.hid hnl
    have HQ := Lib.hid hol
    clear hnl hgl hol
    have d1 : decide (3 < (ns.length : Int)) = false := by simp; omega
    have d2 : decide (14 < (gs.length : Int)) = false := by simp; omega
    have d3 : decide (3 < (os.length : Int)) = false := by simp; omega
    go_enter Try.func136, Try.ntmps136
    go_wp2_with (first
      | (go_at_call 107; refine (l1In_any _ _ _ _).mono ?_; rintro e w1 ⟨rfl, rfl⟩; rw [HI.out])
      | (go_at_call 152; refine (l1First_any _ _ _ _ _ _ _ _ _ _ _ ?_ ?_ ?_).mono ?_; (omega); (omega); (omega); rintro e w1 ⟨rfl, hb1⟩; obtain ⟨hc1, hf1⟩ := bcell hb1))
    have hb2 : Below (w.heap.size + 1) (w.alloc (.cells #[.int .i64 i, .slice nA ns.length nc, .slice gA gs.length gc, .slice oA os.length oc] 108)) w1 := hb1.mono (by simp)
    have c1 : w1.cell? ⟨w.heap.size, 1, none⟩ = some (.slice nA ns.length nc) := (hb2.cell (p := ⟨w.heap.size, 1, none⟩) (by simp)).trans (by simp)
    have c2 : w1.cell? ⟨w.heap.size, 2, none⟩ = some (.slice gA gs.length gc) := (hb2.cell (p := ⟨w.heap.size, 2, none⟩) (by simp)).trans (by simp)
    have c3 : w1.cell? ⟨w.heap.size, 3, none⟩ = some (.slice oA os.length oc) := (hb2.cell (p := ⟨w.heap.size, 3, none⟩) (by simp)).trans (by simp)
    have hB : Below w.heap.size w w1 := ((Below.refl _ _).alloc (Nat.le_refl _) _).trans (hb1.mono (by simp))
    have hz : w.heap.size < w1.heap.size := by have := hb1.size; simp at this; omega
    clear hc1 hf1 hb1 hb2 d1 d2 d3
    go_loopw [4] (fun iv wr => ∃ k : Nat, k ≤ gs.length ∧ iv = .int .i64 k ∧ Hid (Circ.gatesOk (gs.take k) (1 + i + ns.length) = true) ∧ Below w.heap.size w wr ∧ w.heap.size < wr.heap.size ∧
        wr.cell? ⟨w.heap.size, 1, none⟩ = some (.slice nA ns.length nc) ∧ wr.cell? ⟨w.heap.size, 2, none⟩ = some (.slice gA gs.length gc) ∧ wr.cell? ⟨w.heap.size, 3, none⟩ = some (.slice oA os.length oc)) (fun iv _ => gs.length - (intOf iv).toNat)
    case atStart => exact ⟨0, Nat.zero_le _, rfl, Lib.hid (by simp [Circ.gatesOk]), hB, hz, c1, c2, c3⟩
    case round =>
      clear c1 c2 c3 hB hz
      obtain ⟨k, hk, rfl, HR, hbr, hzr, c1, c2, c3⟩ := hrel
      by_cases hlt : k < gs.length
      · obtain ⟨b, off, rfl, hbl, hcA, hcB⟩ := HC.out.gates k hlt
        rw [← hbr.cell (by exact hbl)] at hcA hcB
        have HS := Lib.hid (Circ.gatesOk_snoc2 gs k (1 + i + ns.length) hlt)
        have HF := Lib.hid (fun h => Circ.gatesOk_f2 (gs := gs) (k := k) (f := (1 + i + ns.length)) hlt h)
        have hbw : b < wr.heap.size := by have := hbr.size; omega
        generalize (gs.getD k (0, 0)).1 = va at *
        generalize (gs.getD k (0, 0)).2 = vb at *
        have hk0 : (0 : Int) ≤ (k : Int) := Int.natCast_nonneg _
        have hk1 : (k : Int) < (gs.length : Int) := by omega
        have hwr : IntKind.i64.wrap (1 + i + (ns.length : Int) + (k : Int)) = 1 + i + (ns.length : Int) + (k : Int) := IntWalk.i64_in _ (by omega)
        go_wp2
        go_region_held3 (fun w' => w'.cell? ⟨w.heap.size, 2, none⟩ = some (.slice (some ⟨b, off, none⟩) gs.length gc) ∧ w'.cell? ⟨b, off + k * 2, none⟩ = some (.int .i64 va) ∧ w'.cell? ⟨b, off + k * 2 + 1, none⟩ = some (.int .i64 vb)) (go_keep)
          (first | (go_at_call 153; refine (l1Lits_two va vb _ _ _ _ _ ?_ ?_ ?_ ?_).mono ?_; (simp); (simp); (omega); (omega); rintro e w3 ⟨rfl, rfl⟩))
        clear hwr
        have hB3 := (hbr.alloc hbr.size (.cells #[.int .i64 va, .int .i64 vb] 3)).drew
        generalize Circ.twoOk va vb (1 + i + (ns.length : Int) + (k : Int)) = tv at *
        cases tv
        · go_wp2
          go_ret
          exact ⟨ret_bool (by rw [Circ.validB, HF.out (by trivial)]; simp), hB3⟩
        · go_wp2
          go_roundw
          case rel => exact ⟨k + 1, by omega, by go_num, Lib.hid (by rw [HS.out, HR.out]; rfl), hB3, by simp; omega, (World.cell?_alloc_lt wr _ ⟨w.heap.size, 1, none⟩ hzr).trans c1, (World.cell?_alloc_lt wr _ ⟨w.heap.size, 2, none⟩ hzr).trans c2, (World.cell?_alloc_lt wr _ ⟨w.heap.size, 3, none⟩ hzr).trans c3⟩
          case measure => simp [intOf]; omega
      · have HG := Lib.hid (Circ.gatesOk_all (gs := gs) (k := k) (f := 1 + i + ns.length) (by omega) HR.out)
        have hcn := Lib.hid (HC.out.next.below hbr)
        have hco := Lib.hid (HC.out.outs.below hbr)
        go_wp2_with fail
        refine (l1Lits_any _ _ _ _ _ _ hcn.out HP.out ?_ ?_).mono ?_
        · omega
        · omega
        rintro e w4 ⟨rfl, rfl⟩
        cases hn : Circ.litsOk ns (1 + i + ns.length + gs.length)
        · have HN := Lib.hid hn
          clear hn
          have HV : Hid (Circ.validB i ns gs os = false) := Lib.hid (by rw [Circ.validB, HW.out, HG.out, HN.out]; rfl)
          go_wp2
          go_ret
          exact ⟨ret_bool HV.out.symm, hbr⟩
        · have HN := Lib.hid hn
          clear hn
          have HV : Hid (Circ.validB i ns gs os = Circ.litsOk os (1 + i + ns.length + gs.length)) := Lib.hid (by rw [Circ.validB, HW.out, HG.out, HN.out]; rfl)
          go_wp2_with fail
          refine (l1Lits_any _ _ _ _ _ _ hco.out HQ.out ?_ ?_).mono ?_
          · omega
          · omega
          rintro e w4 ⟨rfl, rfl⟩
          go_wp2
          go_ret
          exact ⟨ret_bool HV.out.symm, hbr⟩
  · have HV : Hid (Circ.validB i ns gs os = false) := Lib.hid (by rw [Circ.validB, Circ.within_f hw]; rfl)
    by_cases h0 : 0 ≤ i ∧ i ≤ 4
    · have HI := Lib.hid (Circ.in_t h0.1 h0.2)
      by_cases h2 : ns.length ≤ 3
      · by_cases h3 : gs.length ≤ 14
        · have h4 : ¬ os.length ≤ 3 := fun h4 => hw ⟨h0.1, h0.2, h2, h3, h4⟩
          clear hw h0
          go_enter Try.func136, Try.ntmps136
          go_wp2_with (go_at_call 107; refine (l1In_any _ _ _ _).mono ?_; rintro e w1 ⟨rfl, rfl⟩; rw [HI.out])
          go_ret
          exact ⟨ret_bool HV.out.symm, (Below.refl _ _).alloc (Nat.le_refl _) _⟩
        · clear hw h0
          go_enter Try.func136, Try.ntmps136
          go_wp2_with (go_at_call 107; refine (l1In_any _ _ _ _).mono ?_; rintro e w1 ⟨rfl, rfl⟩; rw [HI.out])
          go_ret
          exact ⟨ret_bool HV.out.symm, (Below.refl _ _).alloc (Nat.le_refl _) _⟩
      · clear hw h0
        go_enter Try.func136, Try.ntmps136
        go_wp2_with (go_at_call 107; refine (l1In_any _ _ _ _).mono ?_; rintro e w1 ⟨rfl, rfl⟩; rw [HI.out])
        go_ret
        exact ⟨ret_bool HV.out.symm, (Below.refl _ _).alloc (Nat.le_refl _) _⟩
    · have HI := Lib.hid (Circ.in_f (a := i) (lo := 0) (hi := 4) (by omega))
      clear hw h0
      go_enter Try.func136, Try.ntmps136
      go_wp2_with (go_at_call 107; refine (l1In_any _ _ _ _).mono ?_; rintro e w1 ⟨rfl, rfl⟩; rw [HI.out])
      go_ret
      exact ⟨ret_bool HV.out.symm, (Below.refl _ _).alloc (Nat.le_refl _) _⟩
end Go.Proofs.Ytkkkkalgfmddbaa
/- The contracts of the copies: lists of integers and of gates. -/
namespace Go.Proofs.Ytkkkkalgfmddbaa
open Go.RowKit Go.Deep

/-- Block g is just the cells cs of element type t, none frozen. -/
def Row (w : World) (g : Nat) (t : TypeId) (cs : Array Value) : Prop := w.heap[g]? = some (.cells cs t (0, 0))
theorem Row.lt {w : World} {g : Nat} {t : TypeId} {cs : Array Value} (h : Row w g t cs) : g < w.heap.size := by
  unfold Row at h
  exact (Array.getElem?_eq_some_iff.1 h).1
theorem Row.cell {w : World} {g : Nat} {t : TypeId} {cs : Array Value} (h : Row w g t cs) (i : Nat) : w.cell? ⟨g, i, none⟩ = cs[i]? := cell_of_row w g i cs t (0, 0) h
theorem Row.frozen {w : World} {g : Nat} {t : TypeId} {cs : Array Value} (h : Row w g t cs) (i : Nat) : w.frozen? ⟨g, i, none⟩ = false := by
  unfold Row at h
  simp [World.frozen?, h]
theorem Row.set {w : World} {g : Nat} {t : TypeId} {cs : Array Value} (h : Row w g t cs) (i : Nat) (u : Value) : Row (w.setCell ⟨g, i, none⟩ u) g t (cs.setIfInBounds i u) := by
  unfold Row at h ⊢
  simp [World.setCell, Array.getElem?_modify, h]
theorem Row.below {w w' : World} {B g : Nat} {t : TypeId} {cs : Array Value} (h : Row w g t cs) (hb : Below B w w') (hg : g < B) : Row w' g t cs := (hb.block g hg).trans h

def FilledI (cs : Array Value) (xs : List Int) (k : Nat) : Prop := cs.size = xs.length ∧ ∀ j, j < k → cs[j]? = some (.int .i64 (xs.getD j 0))
theorem FilledI.start {cs : Array Value} {xs : List Int} (h : cs.size = xs.length) : FilledI cs xs 0 := ⟨h, fun j hj => absurd hj (by omega)⟩
theorem FilledI.step {cs : Array Value} {xs : List Int} {k : Nat} (h : FilledI cs xs k) (hk : k < xs.length) : FilledI (cs.setIfInBounds k (.int .i64 (xs.getD k 0))) xs (k + 1) := by
  refine ⟨by simpa using h.1, fun j hj => ?_⟩
  by_cases e : k = j
  · subst e
    simp [h.1, hk]
  · rw [Array.getElem?_setIfInBounds_ne e]
    exact h.2 j (by omega)
theorem FilledI.ints {w : World} {g : Nat} {t : TypeId} {cs : Array Value} {xs : List Int} (hr : Row w g t cs) (h : FilledI cs xs xs.length) : IntsAt w w.heap.size (some ⟨g, 0, none⟩) xs := fun k hk =>
  ⟨g, 0, rfl, hr.lt, by rw [Nat.zero_add, hr.cell]; exact h.2 k hk⟩

theorem FilledI.ints' {w : World} {g n : Nat} {t : TypeId} {cs : Array Value} {xs : List Int} (h : FilledI cs xs n) (hr : Row w g t cs) (hn : xs.length = n) : IntsAt w w.heap.size (some ⟨g, 0, none⟩) xs := by
  subst hn
  exact FilledI.ints hr h

/-- Block g is just these integers. -/
def IRow (w : World) (g : Nat) (xs : List Int) : Prop := ∃ cs, Row w g 3 cs ∧ FilledI cs xs xs.length
theorem IRow.ints {w : World} {g : Nat} {xs : List Int} (h : IRow w g xs) : IntsAt w w.heap.size (some ⟨g, 0, none⟩) xs := by
  obtain ⟨cs, hr, hf⟩ := h
  exact hf.ints' hr rfl
theorem IRow.below {w w' : World} {B g : Nat} {xs : List Int} (h : IRow w g xs) (hb : Below B w w') (hg : g < B) : IRow w' g xs := by
  obtain ⟨cs, hr, hf⟩ := h
  exact ⟨cs, hr.below hb hg, hf⟩
theorem IRow.lt {w : World} {g : Nat} {xs : List Int} (h : IRow w g xs) : g < w.heap.size := by
  obtain ⟨cs, hr, hf⟩ := h
  exact hr.lt

theorem Try.info3 : (Try.prog.info? 3).map (fun i => (i.zero, i.size, i.bytes)) = some (some (.int .i64 0), 1, 8) := by kernel_rfl

set_option maxHeartbeats 400000 in
theorem toIntS_row (A : Option Addr) (cap : Nat) (xs : List Int) (w : World) (hx : IntsAt w w.heap.size A xs) (hl : xs.length ≤ 2000000) :
    Calls Try.prog 148 #[.slice A xs.length cap] w fun e w' => e = .returned (.slice (some ⟨w.heap.size, 0, none⟩) xs.length xs.length) ∧ Below w.heap.size w w' ∧ IRow w' w.heap.size xs := by
  have HX := Lib.hid hx
  clear hx
  generalize hn : xs.length = n at *
  have HN := Lib.hid hn
  clear hn
  have hmk := fun W => run_make_row' (P := Try.prog) 31 3 (.int .i64 0) 8 Try.underlying31 Try.info3 rfl .i64 .i64 n (by omega) (by omega) W
  go_enter Try.func148, Try.ntmps148
  go_wp2
  clear hmk
  go_loopw [4] (fun iv wr => ∃ (k : Nat) (cs : Array Value), k ≤ n ∧ iv = .int .i64 k ∧ Hid (Row wr w.heap.size 3 cs) ∧ Hid (FilledI cs xs k) ∧ Below w.heap.size w wr) (fun iv _ => n - (intOf iv).toNat)
  case atStart => exact ⟨0, _, Nat.zero_le _, rfl, Lib.hid (heap_alloc_new w _), Lib.hid (FilledI.start (by rw [size_madeCells, HN.out])), (Below.refl _ _).alloc (Nat.le_refl _) _⟩
  case round =>
    obtain ⟨k, cs, hk, rfl, HRow, HF, hbr⟩ := hrel
    by_cases hlt : k < n
    · obtain ⟨b, off, rfl, hbl, hcell⟩ := HX.out k (by rw [HN.out]; exact hlt)
      rw [← hbr.cell (by exact hbl)] at hcell
      have HF2 := Lib.hid (HF.out.step (by rw [HN.out]; exact hlt))
      have hsz : k < cs.size := by rw [HF.out.1, HN.out]; exact hlt
      have hc0 : wr.cell? ⟨w.heap.size, k, none⟩ = some cs[k] := by rw [HRow.out.cell, Array.getElem?_eq_getElem hsz]
      have hf0 := HRow.out.frozen k
      have HB := Lib.hid (hbr.setCell (p := ⟨w.heap.size, k, none⟩) (Nat.le_refl _) (.int .i64 (xs.getD k 0)))
      have HR2 := Lib.hid (HRow.out.set k (.int .i64 (xs.getD k 0)))
      generalize xs.getD k 0 = v at *
      generalize cs[k] = old at *
      go_wp2
      go_roundw
      case rel => exact ⟨k + 1, _, by omega, by go_num, HR2, HF2, HB.out⟩
      case measure => simp [intOf]; omega
    · obtain rfl : k = n := by omega
      go_wp2
      go_ret
      exact ⟨rfl, hbr, _, HRow.out, by rw [HN.out]; exact HF.out⟩

theorem toIntS_any (A : Option Addr) (cap : Nat) (xs : List Int) (w : World) (hx : IntsAt w w.heap.size A xs) (hl : xs.length ≤ 2000000) :
    Calls Try.prog 148 #[.slice A xs.length cap] w fun e w' => e = .returned (.slice (some ⟨w.heap.size, 0, none⟩) xs.length xs.length) ∧ Below w.heap.size w w' ∧ IntsAt w' w'.heap.size (some ⟨w.heap.size, 0, none⟩) xs :=
  (toIntS_row A cap xs w hx hl).mono fun _ _ ⟨he, hb, hi⟩ => ⟨he, hb, hi.ints⟩

def FilledG (cs : Array Value) (gs : List (Int × Int)) (k : Nat) : Prop :=
  cs.size = gs.length * 2 ∧ ∀ j, j < k → cs[j * 2]? = some (.int .i64 (gs.getD j (0, 0)).1) ∧ cs[j * 2 + 1]? = some (.int .i64 (gs.getD j (0, 0)).2)
theorem FilledG.start {cs : Array Value} {gs : List (Int × Int)} (h : cs.size = gs.length * 2) : FilledG cs gs 0 := ⟨h, fun j hj => absurd hj (by omega)⟩
theorem FilledG.step {cs : Array Value} {gs : List (Int × Int)} {k : Nat} (h : FilledG cs gs k) (hk : k < gs.length) :
    FilledG ((cs.setIfInBounds (k * 2) (.int .i64 (gs.getD k (0, 0)).1)).setIfInBounds (k * 2 + 1) (.int .i64 (gs.getD k (0, 0)).2)) gs (k + 1) := by
  have hs := h.1
  refine ⟨by simpa using h.1, fun j hj => ?_⟩
  by_cases e : k = j
  · subst e
    constructor
    · rw [Array.getElem?_setIfInBounds_ne (by omega), Array.getElem?_setIfInBounds_self_of_lt (by omega)]
    · rw [Array.getElem?_setIfInBounds_self_of_lt (by simp; omega)]
  · have := h.2 j (by omega)
    constructor
    · rw [Array.getElem?_setIfInBounds_ne (by omega), Array.getElem?_setIfInBounds_ne (by omega)]; exact this.1
    · rw [Array.getElem?_setIfInBounds_ne (by omega), Array.getElem?_setIfInBounds_ne (by omega)]; exact this.2
theorem FilledG.gates {w : World} {g n : Nat} {t : TypeId} {cs : Array Value} {gs : List (Int × Int)} (h : FilledG cs gs n) (hr : Row w g t cs) (hn : gs.length = n) : GatesAt w w.heap.size (some ⟨g, 0, none⟩) gs := by
  subst hn
  intro k hk
  exact ⟨g, 0, rfl, hr.lt, by rw [Nat.zero_add, hr.cell]; exact (h.2 k hk).1, by rw [Nat.zero_add, hr.cell]; exact (h.2 k hk).2⟩

/-- Block g is just these gates. -/
def GRow (w : World) (g : Nat) (gs : List (Int × Int)) : Prop := ∃ cs, Row w g 180 cs ∧ FilledG cs gs gs.length
theorem GRow.gates {w : World} {g : Nat} {xs : List (Int × Int)} (h : GRow w g xs) : GatesAt w w.heap.size (some ⟨g, 0, none⟩) xs := by
  obtain ⟨cs, hr, hf⟩ := h
  exact hf.gates hr rfl
theorem GRow.below {w w' : World} {B g : Nat} {xs : List (Int × Int)} (h : GRow w g xs) (hb : Below B w w') (hg : g < B) : GRow w' g xs := by
  obtain ⟨cs, hr, hf⟩ := h
  exact ⟨cs, hr.below hb hg, hf⟩
theorem GRow.lt {w : World} {g : Nat} {xs : List (Int × Int)} (h : GRow w g xs) : g < w.heap.size := by
  obtain ⟨cs, hr, hf⟩ := h
  exact hr.lt

theorem Try.info31 : (Try.prog.info? 180).map (fun i => (i.zero, i.size, i.bytes)) = some (some (.agg #[.int .i64 0, .int .i64 0]), 2, 16) := by kernel_rfl
theorem make_gates (n : Nat) (hn : n ≤ 2000000) (w : World) :
    (Instr.makeSlice 106 (.int .i64 (n : Int)) (.int .i64 (n : Int))).run Try.prog w = .ok (.slice (some ⟨w.heap.size, 0, none⟩) n n) (w.alloc (.cells (madeCells #[.int .i64 0, .int .i64 0] (n * 2)) 180)) := by
  obtain ⟨i0, hi, hz0, hz1, hz2⟩ := info_parts Try.info31
  have hr := run_make (P := Try.prog) w 106 180 i0 _ Try.underlying106 hi hz0 .i64 .i64 n n (by omega) (Int.le_refl _) (by rw [hz2]; omega) (by omega)
  simp only [Int.toNat_natCast, hz1] at hr
  exact hr

end Go.Proofs.Ytkkkkalgfmddbaa
/- Small facts: cells that make lays, and integer rows of the call's own. -/
namespace Go.Proofs.Ytkkkkalgfmddbaa
open Go.RowKit Go.Deep

theorem made_int (n j : Nat) (hj : j < n) : (madeCells #[.int .i64 0] n)[j]? = some (.int .i64 0) := by
  simp [madeCells, hj, Nat.mod_one]
theorem FilledI.made {L : List Int} {n f : Nat} (hl : L.length = n) (hf : f ≤ n) (h0 : ∀ j, j < f → L.getD j 0 = 0) : FilledI (madeCells #[.int .i64 0] n) L f :=
  ⟨by rw [size_madeCells, hl], fun j hj => by rw [made_int n j (by omega), h0 j hj]⟩

def ivs (xs : List Int) : List Value := xs.map (Value.int .i64)
theorem ivs_len (xs : List Int) : (ivs xs).length = xs.length := by simp [ivs]
theorem ivs_get {xs : List Int} {k : Nat} (hk : k < xs.length) : (ivs xs)[k]? = some (.int .i64 (xs.getD k 0)) := by
  simp [ivs, List.getD_eq_getElem?_getD, hk]
theorem ivs_take_snoc {xs : List Int} {k : Nat} (hk : k < xs.length) : ivs (xs.take (k + 1)) = ivs (xs.take k) ++ [.int .i64 (xs.getD k 0)] := by
  unfold ivs
  rw [List.take_succ_eq_append_getElem hk, List.map_append]
  simp only [List.getD_eq_getElem?_getD, List.getElem?_eq_getElem hk, Option.getD_some, List.map_cons, List.map_nil]
theorem own_ints {w : World} {base g n cap : Nat} {xs : List Int} (h : w.ownsRow base 3 1 (.slice (some ⟨g, 0, none⟩) n cap) n (ivs xs)) (hn : xs.length = n) : IntsAt w w.heap.size (some ⟨g, 0, none⟩) xs := fun k hk => by
  refine ⟨g, 0, rfl, (h.lt g rfl).2, ?_⟩
  rw [Nat.zero_add, h.cellAt k (by omega)]
  exact ivs_get hk
theorem Row.grown {w w' : World} {row : Option Nat} {g : Nat} {t : TypeId} {cs : Array Value} (h : Row w g t cs) (hb : w.grownBy w' row) (hg : some g ≠ row) : Row w' g t cs := (hb.block g h.lt hg).trans h

end Go.Proofs.Ytkkkkalgfmddbaa
