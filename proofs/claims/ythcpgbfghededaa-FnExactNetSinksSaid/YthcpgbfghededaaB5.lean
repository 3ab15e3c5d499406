/- The contracts of EvalVars and Step of the program. -/
import Derived.Test.YthcpgbfghededaaB4
import Derived.Test.YthcpgbfghededaaB1a
namespace Go.Proofs.Ythcpgbfghededaa
open Go.RowKit Go.Deep

/-- A slice that is nil and empty, or a block of its own from lo on. -/
def BSl (w : World) (lo : Nat) (A : Option Addr) (xs : List Bool) : Prop := (A = none ∧ xs = []) ∨ ∃ g, A = some ⟨g, 0, none⟩ ∧ lo ≤ g ∧ BRow w g xs
theorem BSl.bools {w : World} {lo : Nat} {A : Option Addr} {xs : List Bool} (h : BSl w lo A xs) : BoolsAt w w.heap.size A xs := by
  rcases h with ⟨rfl, rfl⟩ | ⟨g, rfl, _, h⟩
  · exact BoolsAt.nil _ _ _
  · exact h.bools
theorem BSl.on {w w' : World} {lo : Nat} {A : Option Addr} {xs : List Bool} (h : BSl w lo A xs) (hb : Below w.heap.size w w') : BSl w' lo A xs := by
  rcases h with ⟨rfl, rfl⟩ | ⟨g, rfl, hl, h⟩
  · exact .inl ⟨rfl, rfl⟩
  · exact .inr ⟨g, rfl, hl, h.on hb⟩
def evalV (i : Int) (ns : List Int) (gs : List (Int × Int)) (os : List Int) (st ins : List Bool) : List Bool := if assignB i ns gs os st.length ins.length = true then Circ.valsOf gs st ins else []
theorem evalV_t {i : Int} {ns : List Int} {gs : List (Int × Int)} {os : List Int} {st ins : List Bool} (h : assignB i ns gs os st.length ins.length = true) : evalV i ns gs os st ins = Circ.valsOf gs st ins := if_pos h
theorem evalV_f {i : Int} {ns : List Int} {gs : List (Int × Int)} {os : List Int} {st ins : List Bool} (h : assignB i ns gs os st.length ins.length = false) : evalV i ns gs os st ins = [] := if_neg (by rw [h]; decide)
theorem evalV_le {i : Int} {ns : List Int} {gs : List (Int × Int)} {os : List Int} (st ins : List Bool) : (evalV i ns gs os st ins).length ≤ 22 := by
  cases h : assignB i ns gs os st.length ins.length
  · rw [evalV_f h]; simp
  · rw [evalV_t h, Circ.valsOf_len]
    obtain ⟨hv, h1, h2⟩ := assign_inv h
    obtain ⟨a0, a1, a2, a3, a4⟩ := Circ.valid_within hv
    omega

set_option maxHeartbeats 800000 in
theorem evalVars_t (i : Int) (nA gA oA sA iA : Option Addr) (nc gc oc sc ic : Nat) (ns : List Int) (gs : List (Int × Int)) (os : List Int) (st ins : List Bool) (w : World) (hc : CircAt w w.heap.size nA gA oA ns gs os)
    (hs : BoolsAt w w.heap.size sA st) (hin : BoolsAt w w.heap.size iA ins) (hv : assignB i ns gs os st.length ins.length = true) :
    Calls Try.prog 18 #[.agg #[.int .i64 i, .slice nA ns.length nc, .slice gA gs.length gc, .slice oA os.length oc], .slice sA st.length sc, .slice iA ins.length ic] w fun e w' =>
      ∃ g : Nat, e = .returned (.slice (some ⟨g, 0, none⟩) (Circ.valsOf gs st ins).length (Circ.valsOf gs st ins).length) ∧ w.heap.size ≤ g ∧ BRow w' g (Circ.valsOf gs st ins) ∧ Below w.heap.size w w' := by
  have HC := Lib.hid hc
  have HS := Lib.hid hs
  have HI := Lib.hid hin
  have HV := Lib.hid hv
  obtain ⟨hv1, hv2, hv3⟩ := assign_inv hv
  obtain ⟨a0, a1, a2, a3, a4⟩ := Circ.valid_within hv1
  have HG := Lib.hid (Circ.valid_gates hv1)
  have HV2 := Lib.hid hv2
  have HV3 := Lib.hid hv3
  have HLN := Lib.hid (Circ.valsOf_len gs st ins)
  clear hc hs hin hv hv1
  generalize hN : (Circ.valsOf gs st ins).length = N at *
  have HNN := Lib.hid hN
  have eN : 1 + i + (ns.length : Int) + (gs.length : Int) = (N : Int) := by have := HLN.out; omega
  have hN22 : N ≤ 22 := by omega
  have EN := Lib.hid eN
  have hbw : Below w.heap.size w (w.alloc (.cells #[.int .i64 i, .slice nA ns.length nc, .slice gA gs.length gc, .slice oA os.length oc] 26)) := (Below.refl _ _).alloc (Nat.le_refl _) _
  have r0 : Row (w.alloc (.cells #[.int .i64 i, .slice nA ns.length nc, .slice gA gs.length gc, .slice oA os.length oc] 26)) w.heap.size 26 #[.int .i64 i, .slice nA ns.length nc, .slice gA gs.length gc, .slice oA os.length oc] := heap_alloc_new w _
  have HL0 := Lib.hid hbw
  have HR0 := Lib.hid r0
  clear hbw r0 hN hv2 hv3 eN
  go_enter Try.func18, Try.ntmps18
  go_wp2_with fail
  refine (assignValid_any i nA gA oA sA iA nc gc oc _ sc _ ic ns gs os _ ((HC.out.below HL0.out).mono HL0.out.size)).mono ?_
  rintro e w1 ⟨rfl, hb1⟩
  rw [HV.out]
  have HR1 := Lib.hid (HR0.out.below hb1 HR0.out.lt)
  have HL1 := Lib.hid (HL0.out.trans (hb1.mono HL0.out.size))
  clear hb1 HR0 HL0
  have q0 := HR1.out.cell 0
  have q1 := HR1.out.cell 1
  have q2 := HR1.out.cell 2
  have q3 := HR1.out.cell 3
  simp at q0 q1 q2 q3
  go_wp2_with fail
  refine (trueVars_any i nA gA oA sA iA _ nc gc _ oc sc ic gs st ins _ ((HC.out.gates.below HL1.out).mono HL1.out.size) ((HS.out.below HL1.out).mono HL1.out.size) ((HI.out.below HL1.out).mono HL1.out.size) (by omega) (by omega) (by omega) HV2.out HV3.out HG.out).mono ?_
  rintro e w2 ⟨g, m, rfl, hg2, hr2, hB2, hb2⟩
  have HR2 := Lib.hid (HR1.out.below hb2 HR1.out.lt)
  have HL2 := Lib.hid (HL1.out.trans (hb2.mono HL1.out.size))
  have HW2 := Lib.hid hr2
  have HB2 := Lib.hid hB2
  have hgB : w.heap.size < g := Nat.lt_of_lt_of_le HR1.out.lt hg2
  clear hb2 hr2 hB2 HR1 HL1 q0 q1 q2 q3 hg2 w1
  have q0 := HR2.out.cell 0
  have q1 := HR2.out.cell 1
  have q2 := HR2.out.cell 2
  have q3 := HR2.out.cell 3
  simp at q0 q1 q2 q3
  have hz := HR2.out.lt
  have hgz := HW2.out.lt
  have hmk := fun W => run_make_row' (P := Try.prog) 36 4 (.bool false) 1 Try.underlying36 Try.infoB rfl .i64 .i64 N (by omega) (by omega) W
  have s1 : IntKind.i64.wrap (1 + i + (ns.length : Int) + (gs.length : Int)) = (N : Int) := by rw [EN.out]; exact IntWalk.i64_in _ (by omega)
  go_wp2
  go_region_held3 (fun w' => w'.cell? ⟨w.heap.size, 0, none⟩ = some (.int .i64 i) ∧ w'.cell? ⟨w.heap.size, 1, none⟩ = some (.slice nA ns.length nc) ∧ w'.cell? ⟨w.heap.size, 2, none⟩ = some (.slice gA gs.length gc) ∧ w'.cell? ⟨w.heap.size, 3, none⟩ = some (.slice oA os.length oc)) (first | go_keep | (refine ⟨?_, ?_, ?_, ?_⟩ <;> (rw [hc3 _ _ (by simp; omega)]; simp [*])))
        (first | (go_at_call 51; refine (firstGate_any _ _ _ _ _ _ _ _ _ _ _ ?_ ?_ ?_).mono ?_; (omega); (omega); (omega); rintro e w3 ⟨rfl, hb3⟩; obtain ⟨hc3, hf3⟩ := bcell hb3))
  clear hmk s1 hc3 hf3 q0 q1 q2 q3
  have hb3' : Below w2.heap.size w2 w3 := (Below.refl _ w2).drew.trans hb3
  have HR3 := Lib.hid (HW2.out.below hb3' hgz)
  have HL3 := Lib.hid (HL2.out.trans (hb3'.mono HL2.out.size))
  have hgz3 : g < w3.heap.size := HR3.out.lt
  have HRS := Lib.hid (show Row (w3.alloc (.cells (madeCells #[.bool false] N) 4)) w3.heap.size 4 (madeCells #[.bool false] N) from heap_alloc_new w3 _)
  have HWS : Hid (Row (w3.alloc (.cells (madeCells #[.bool false] N) 4)) g 110 #[.int .u64 m]) := Lib.hid ((Below.heap_alloc _ _ _ hgz3).trans HR3.out)
  have HBS := Lib.hid (HL3.out.alloc HL3.out.size (.cells (madeCells #[.bool false] N) 4))
  have hwz : w.heap.size ≤ w3.heap.size := by omega
  generalize w3.alloc (.cells (madeCells #[.bool false] N) 4) = w4 at *
  generalize w3.heap.size = z at *
  clear hb3 hb3' HR3 HL3 HL2 HR2 HW2 w3 hz hgz w2
  have HM := Lib.hid HB2.out.1
  go_wp2
  go_loopw [28] (fun iv wr => ∃ (k : Nat) (cs : Array Value), k ≤ N ∧ iv = .int .i64 k ∧ Hid (Row wr z 4 cs) ∧ Hid (FilledB cs (Circ.valsOf gs st ins) k) ∧ Hid (Row wr g 110 #[.int .u64 m]) ∧ Below w.heap.size w wr) (fun iv _ => N - (intOf iv).toNat)
  case atStart => exact ⟨0, _, Nat.zero_le _, rfl, HRS, Lib.hid (FilledB.start (by rw [size_madeCells, HNN.out])), HWS, HBS.out⟩
  case round =>
    clear HRS HWS HBS
    obtain ⟨k, cs, hk, rfl, HRow, HF, HW, hbr⟩ := hrel
    by_cases hlt : k < N
    · have HF2 := Lib.hid (HF.out.step (by rw [HNN.out]; exact hlt))
      have hsz : k < cs.size := by rw [HF.out.1, HNN.out]; exact hlt
      have hc0 : wr.cell? ⟨z, k, none⟩ = some cs[k] := by rw [HRow.out.cell, Array.getElem?_eq_getElem hsz]
      have hf0 := HRow.out.frozen k
      have HCW : Hid (wr.cell? ⟨g, 0, none⟩ = some (.int .u64 m)) := Lib.hid (by rw [HW.out.cell]; rfl)
      rw [← HB2.out.2 k] at HF2
      have HB3 := Lib.hid (hbr.setCell (p := ⟨z, k, none⟩) hwz (.bool (m.testBit k)))
      have HR3 := Lib.hid (HRow.out.set k (.bool (m.testBit k)))
      have HW3 := Lib.hid (HW.out.far (p := ⟨z, k, none⟩) (by simp; omega) (.bool (m.testBit k)))
      generalize cs[k] = old at *
      go_wp2_with (go_at_call 52; refine (has_any g m k _ HCW.out (by omega) HM.out).mono ?_; rintro e w' ⟨rfl, rfl⟩)
      go_roundw
      case rel => exact ⟨k + 1, _, by omega, by go_num, HR3, HF2, HW3, HB3.out⟩
      case measure => simp [intOf]; omega
    · obtain rfl : k = N := by omega
      go_wp2
      go_ret
      exact ⟨z, rfl, hwz, ⟨_, HRow.out, by rw [HNN.out]; exact HF.out⟩, hbr⟩

set_option maxHeartbeats 400000 in
theorem evalVars_f (i : Int) (nA gA oA sA iA : Option Addr) (nc gc oc sl sc il ic : Nat) (ns : List Int) (gs : List (Int × Int)) (os : List Int) (w : World) (hc : CircAt w w.heap.size nA gA oA ns gs os) (hv : assignB i ns gs os sl il = false) :
    Calls Try.prog 18 #[.agg #[.int .i64 i, .slice nA ns.length nc, .slice gA gs.length gc, .slice oA os.length oc], .slice sA sl sc, .slice iA il ic] w fun e w' => e = .returned (.slice none 0 0) ∧ Below w.heap.size w w' := by
  have HC := Lib.hid hc
  have HV := Lib.hid hv
  clear hc hv
  have hbw : Below w.heap.size w (w.alloc (.cells #[.int .i64 i, .slice nA ns.length nc, .slice gA gs.length gc, .slice oA os.length oc] 26)) := (Below.refl _ _).alloc (Nat.le_refl _) _
  have HL0 := Lib.hid hbw
  clear hbw
  go_enter Try.func18, Try.ntmps18
  go_wp2_with fail
  refine (assignValid_any i nA gA oA sA iA nc gc oc _ sc _ ic ns gs os _ ((HC.out.below HL0.out).mono HL0.out.size)).mono ?_
  rintro e w1 ⟨rfl, hb1⟩
  rw [HV.out]
  go_wp2
  go_ret
  exact ⟨rfl, HL0.out.trans (hb1.mono HL0.out.size)⟩

theorem evalVars_any (i : Int) (nA gA oA sA iA : Option Addr) (nc gc oc sc ic : Nat) (ns : List Int) (gs : List (Int × Int)) (os : List Int) (st ins : List Bool) (w : World) (hc : CircAt w w.heap.size nA gA oA ns gs os)
    (hs : BoolsAt w w.heap.size sA st) (hin : BoolsAt w w.heap.size iA ins) :
    Calls Try.prog 18 #[.agg #[.int .i64 i, .slice nA ns.length nc, .slice gA gs.length gc, .slice oA os.length oc], .slice sA st.length sc, .slice iA ins.length ic] w fun e w' =>
      ∃ A : Option Addr, e = .returned (.slice A (evalV i ns gs os st ins).length (evalV i ns gs os st ins).length) ∧ BSl w' w.heap.size A (evalV i ns gs os st ins) ∧ Below w.heap.size w w' := by
  cases h : assignB i ns gs os st.length ins.length
  · rw [evalV_f h]
    exact (evalVars_f i nA gA oA sA iA nc gc oc _ sc _ ic ns gs os w hc h).mono fun _ _ ⟨he, hb⟩ => ⟨none, he, .inl ⟨rfl, rfl⟩, hb⟩
  · rw [evalV_t h]
    exact (evalVars_t i nA gA oA sA iA nc gc oc sc ic ns gs os st ins w hc hs hin h).mono fun _ _ ⟨g, he, hg, hr, hb⟩ => ⟨some ⟨g, 0, none⟩, he, .inr ⟨g, rfl, hg, hr⟩, hb⟩

set_option maxHeartbeats 400000 in
theorem valuesOf_any (g m : Nat) (A : Option Addr) (cap : Nat) (L : List Bool) (xs : List Int) (w : World) (hR : Row w g 110 #[.int .u64 m]) (hB : Circ.Bits m L) (hx : IntsAt w w.heap.size A xs) (hl : xs.length ≤ 1000) (hok : ∀ k, k < xs.length → 0 ≤ xs.getD k 0 ∧ xs.getD k 0 < 128) :
    Calls Try.prog 99 #[.slice (some ⟨g, 0, none⟩) 1 1, .slice A xs.length cap] w fun e w' => e = .returned (.slice (some ⟨w.heap.size, 0, none⟩) xs.length xs.length) ∧ Below w.heap.size w w' ∧ BRow w' w.heap.size (Circ.litsV L xs) := by
  have HX := Lib.hid hx
  have HW := Lib.hid hR
  have HB := Lib.hid hB
  have HOK := Lib.hid hok
  have HLV := Lib.hid (Circ.litsV_len L xs)
  have hgz := hR.lt
  clear hx hR hB hok
  generalize hn : xs.length = n at *
  have HN := Lib.hid hn
  clear hn
  have hmk := fun W => run_make_row' (P := Try.prog) 36 4 (.bool false) 1 Try.underlying36 Try.infoB rfl .i64 .i64 n (by omega) (by omega) W
  go_enter Try.func99, Try.ntmps99
  go_wp2
  clear hmk
  go_loopw [13] (fun iv wr => ∃ (k : Nat) (cs : Array Value), k ≤ n ∧ iv = .int .i64 k ∧ Hid (Row wr w.heap.size 4 cs) ∧ Hid (FilledB cs (Circ.litsV L xs) k) ∧ Below w.heap.size w wr) (fun iv _ => n - (intOf iv).toNat)
  case atStart => exact ⟨0, _, Nat.zero_le _, rfl, Lib.hid (heap_alloc_new w _), Lib.hid (FilledB.start (by rw [size_madeCells, HLV.out])), (Below.refl _ _).alloc (Nat.le_refl _) _⟩
  case round =>
    obtain ⟨k, cs, hk, rfl, HRow, HF, hbr⟩ := hrel
    by_cases hlt : k < n
    · obtain ⟨b, off, rfl, hbl, hcell⟩ := HX.out k (by rw [HN.out]; exact hlt)
      rw [← hbr.cell (by exact hbl)] at hcell
      obtain ⟨o1, o2⟩ := HOK.out k hlt
      have HF2 := Lib.hid (HF.out.step (by rw [HLV.out]; exact hlt))
      rw [Circ.litsV_get L xs k (by rw [HN.out]; exact hlt)] at HF2
      have hsz : k < cs.size := by rw [HF.out.1, HLV.out]; exact hlt
      have hc0 : wr.cell? ⟨w.heap.size, k, none⟩ = some cs[k] := by rw [HRow.out.cell, Array.getElem?_eq_getElem hsz]
      have hf0 := HRow.out.frozen k
      have HCW : Hid (wr.cell? ⟨g, 0, none⟩ = some (.int .u64 m)) := Lib.hid (by rw [(HW.out.below hbr hgz).cell]; rfl)
      generalize xs.getD k 0 = v at *
      obtain ⟨q, rfl⟩ := Int.eq_ofNat_of_zero_le o1
      have hq : q < 128 := by omega
      clear o1 o2
      have HB3 := Lib.hid (hbr.setCell (p := ⟨w.heap.size, k, none⟩) (Nat.le_refl _) (.bool (Circ.litV L q)))
      have HR3 := Lib.hid (HRow.out.set k (.bool (Circ.litV L q)))
      generalize cs[k] = old at *
      go_wp2_with (go_at_call 94; refine (holds_any g m q L _ HCW.out HB.out hq).mono ?_; rintro e w' ⟨rfl, rfl⟩)
      go_roundw
      case rel => exact ⟨k + 1, _, by omega, by go_num, HR3, HF2, HB3.out⟩
      case measure => simp [intOf]; omega
    · obtain rfl : k = n := by omega
      go_wp2
      go_ret
      exact ⟨rfl, hbr, _, HRow.out, by rw [HLV.out]; exact HF.out⟩
end Go.Proofs.Ythcpgbfghededaa
/- The marks on a result. -/
namespace Go.Proofs.Ythcpgbfghededaa
open Go.RowKit Go.Deep

theorem Mid.bsl {lo hi : Nat} {w w' : World} (h : Mid lo hi w w') {A : Option Addr} {xs : List Bool} (hr : BSl w hi A xs) : BSl w' hi A xs := by
  rcases hr with ⟨rfl, rfl⟩ | ⟨g, rfl, hl, hr⟩
  · exact .inl ⟨rfl, rfl⟩
  · exact .inr ⟨g, rfl, hl, h.brow hr (.inr hl)⟩
theorem BSl.mono {w : World} {lo lo' : Nat} {A : Option Addr} {xs : List Bool} (h : BSl w lo A xs) (hl : lo' ≤ lo) : BSl w lo' A xs := by
  rcases h with ⟨rfl, rfl⟩ | ⟨g, rfl, h1, h⟩
  · exact .inl ⟨rfl, rfl⟩
  · exact .inr ⟨g, rfl, by omega, h⟩

end Go.Proofs.Ythcpgbfghededaa
