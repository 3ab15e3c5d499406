/- The contracts of EvalVars and Step of the program. -/
import Derived.Test.YthcpgbfghededaaB4
import Derived.Test.YthcpgbfghededaaB1a
import Derived.Test.YthcpgbfghededaaK
import Derived.Test.YthcpgbfghededaaR1
namespace Go.Proofs.Ythcpgbfghededaa
open Go.RowKit Go.Deep

/-- A slice that is nil and empty, or a block of its own from lo on. -/
def BSl (w : World) (lo : Nat) (A : Option Addr) (xs : List Bool) : Prop := (A = none ∧ xs = []) ∨ ∃ g, A = some ⟨g, 0, none⟩ ∧ lo ≤ g ∧ BRow w g xs
theorem BSl.bools {w : World} {lo : Nat} {A : Option Addr} {xs : List Bool} (h : BSl w lo A xs) : BoolsAt w w.heap.size A xs := by
  rcases h with ⟨rfl, rfl⟩ | ⟨g, rfl, _, h⟩
  · exact BoolsAt.nil _ _ _
  · exact h.bools
theorem BSl.on {w w' : World} {lo : Nat} {A : Option Addr} {xs : List Bool} (h : BSl w lo A xs) (hb : Below w.heap.size w w') : BSl w' lo A xs := by
  rcases h with ⟨rfl, rfl⟩ | ⟨g, rfl, hl, h⟩
  · exact .inl ⟨rfl, rfl⟩
  · exact .inr ⟨g, rfl, hl, h.on hb⟩
def evalV (i : Int) (ns : List Int) (gs : List (Int × Int)) (os : List Int) (st ins : List Bool) : List Bool := if assignB i ns gs os st.length ins.length = true then Circ.valsOf gs st ins else []
theorem evalV_t {i : Int} {ns : List Int} {gs : List (Int × Int)} {os : List Int} {st ins : List Bool} (h : assignB i ns gs os st.length ins.length = true) : evalV i ns gs os st ins = Circ.valsOf gs st ins := if_pos h
theorem evalV_f {i : Int} {ns : List Int} {gs : List (Int × Int)} {os : List Int} {st ins : List Bool} (h : assignB i ns gs os st.length ins.length = false) : evalV i ns gs os st ins = [] := if_neg (by rw [h]; decide)
theorem evalV_le {i : Int} {ns : List Int} {gs : List (Int × Int)} {os : List Int} (st ins : List Bool) : (evalV i ns gs os st ins).length ≤ 22 := by
  cases h : assignB i ns gs os st.length ins.length
  · rw [evalV_f h]; simp
  · rw [evalV_t h, Circ.valsOf_len]
    obtain ⟨hv, h1, h2⟩ := assign_inv h
    obtain ⟨a0, a1, a2, a3, a4⟩ := Circ.valid_within hv
    omega

set_option maxHeartbeats 800000 in
theorem evalVars_t (i : Int) (nA gA oA sA iA : Option Addr) (nc gc oc sc ic : Nat) (ns : List Int) (gs : List (Int × Int)) (os : List Int) (st ins : List Bool) (w : World) (hc : CircAt w w.heap.size nA gA oA ns gs os)
    (hs : BoolsAt w w.heap.size sA st) (hin : BoolsAt w w.heap.size iA ins) (hv : assignB i ns gs os st.length ins.length = true) :
    Calls Try.prog 18 #[.agg #[.int .i64 i, .slice nA ns.length nc, .slice gA gs.length gc, .slice oA os.length oc], .slice sA st.length sc, .slice iA ins.length ic] w fun e w' =>
      ∃ g : Nat, e = .returned (.slice (some ⟨g, 0, none⟩) (Circ.valsOf gs st ins).length (Circ.valsOf gs st ins).length) ∧ w.heap.size ≤ g ∧ BRow w' g (Circ.valsOf gs st ins) ∧ Below w.heap.size w w' := by
  have HC := Lib.hid hc
  have HS := Lib.hid hs
  have HI := Lib.hid hin
  have HV := Lib.hid hv
  obtain ⟨hv1, hv2, hv3⟩ := assign_inv hv
  obtain ⟨a0, a1, a2, a3, a4⟩ := Circ.valid_within hv1
  have HG := Lib.hid (Circ.valid_gates hv1)
  have HV2 := Lib.hid hv2
  have HV3 := Lib.hid hv3
  have HLN := Lib.hid (Circ.valsOf_len gs st ins)
  clear hc hs hin hv hv1
  generalize hN : (Circ.valsOf gs st ins).length = N at *
  have HNN := Lib.hid hN
  have eN : 1 + i + (ns.length : Int) + (gs.length : Int) = (N : Int) := by have := HLN.out; omega
  have hN22 : N ≤ 22 := by omega
  have EN := Lib.hid eN
  have hbw : Below w.heap.size w (w.alloc (.cells #[.int .i64 i, .slice nA ns.length nc, .slice gA gs.length gc, .slice oA os.length oc] 26)) := (Below.refl _ _).alloc (Nat.le_refl _) _
  have r0 : Row (w.alloc (.cells #[.int .i64 i, .slice nA ns.length nc, .slice gA gs.length gc, .slice oA os.length oc] 26)) w.heap.size 26 #[.int .i64 i, .slice nA ns.length nc, .slice gA gs.length gc, .slice oA os.length oc] := heap_alloc_new w _
  have HL0 := Lib.hid hbw
  have HR0 := Lib.hid r0
  clear hbw r0 hN hv2 hv3 eN
  go_enter Try.func18, Try.ntmps18
  go_wp2_with fail
  refine (assignValid_any i nA gA oA sA iA nc gc oc _ sc _ ic ns gs os _ ((HC.out.below HL0.out).mono HL0.out.size)).mono ?_
  rintro e w1 ⟨rfl, hb1⟩
  rw [HV.out]
  have HR1 := Lib.hid (HR0.out.below hb1 HR0.out.lt)
  have HL1 := Lib.hid (HL0.out.trans (hb1.mono HL0.out.size))
  clear hb1 HR0 HL0
  have q0 := HR1.out.cell 0
  have q1 := HR1.out.cell 1
  have q2 := HR1.out.cell 2
  have q3 := HR1.out.cell 3
  simp at q0 q1 q2 q3
  go_wp2_with fail
  refine (trueVars_any i nA gA oA sA iA _ nc gc _ oc sc ic gs st ins _ ((HC.out.gates.below HL1.out).mono HL1.out.size) ((HS.out.below HL1.out).mono HL1.out.size) ((HI.out.below HL1.out).mono HL1.out.size) (by omega) (by omega) (by omega) HV2.out HV3.out HG.out).mono ?_
  rintro e w2 ⟨g, m, rfl, hg2, hr2, hB2, hb2⟩
  have HR2 := Lib.hid (HR1.out.below hb2 HR1.out.lt)
  have HL2 := Lib.hid (HL1.out.trans (hb2.mono HL1.out.size))
  have HW2 := Lib.hid hr2
  have HB2 := Lib.hid hB2
  have hgB : w.heap.size < g := Nat.lt_of_lt_of_le HR1.out.lt hg2
  clear hb2 hr2 hB2 HR1 HL1 q0 q1 q2 q3 hg2 w1
  have q0 := HR2.out.cell 0
  have q1 := HR2.out.cell 1
  have q2 := HR2.out.cell 2
  have q3 := HR2.out.cell 3
  simp at q0 q1 q2 q3
  have hz := HR2.out.lt
  have hgz := HW2.out.lt
  have hmk := fun W => run_make_row' (P := Try.prog) 36 4 (.bool false) 1 Try.underlying36 Try.infoB rfl .i64 .i64 N (by omega) (by omega) W
  have s1 : IntKind.i64.wrap (1 + i + (ns.length : Int) + (gs.length : Int)) = (N : Int) := by rw [EN.out]; exact IntWalk.i64_in _ (by omega)
  go_wp2
  go_region_held3 (fun w' => w'.cell? ⟨w.heap.size, 0, none⟩ = some (.int .i64 i) ∧ w'.cell? ⟨w.heap.size, 1, none⟩ = some (.slice nA ns.length nc) ∧ w'.cell? ⟨w.heap.size, 2, none⟩ = some (.slice gA gs.length gc) ∧ w'.cell? ⟨w.heap.size, 3, none⟩ = some (.slice oA os.length oc)) (first | go_keep | (refine ⟨?_, ?_, ?_, ?_⟩ <;> (rw [hc3 _ _ (by simp; omega)]; simp [*])))
        (first | (go_at_call 51; refine (firstGate_any _ _ _ _ _ _ _ _ _ _ _ ?_ ?_ ?_).mono ?_; (omega); (omega); (omega); rintro e w3 ⟨rfl, hb3⟩; obtain ⟨hc3, hf3⟩ := bcell hb3))
  clear hmk s1 hc3 hf3 q0 q1 q2 q3
  have hb3' : Below w2.heap.size w2 w3 := (Below.refl _ w2).drew.trans hb3
  have HR3 := Lib.hid (HW2.out.below hb3' hgz)
  have HL3 := Lib.hid (HL2.out.trans (hb3'.mono HL2.out.size))
  have hgz3 : g < w3.heap.size := HR3.out.lt
  have HRS := Lib.hid (show Row (w3.alloc (.cells (madeCells #[.bool false] N) 4)) w3.heap.size 4 (madeCells #[.bool false] N) from heap_alloc_new w3 _)
  have HWS : Hid (Row (w3.alloc (.cells (madeCells #[.bool false] N) 4)) g 110 #[.int .u64 m]) := Lib.hid ((Below.heap_alloc _ _ _ hgz3).trans HR3.out)
  have HBS := Lib.hid (HL3.out.alloc HL3.out.size (.cells (madeCells #[.bool false] N) 4))
  have hwz : w.heap.size ≤ w3.heap.size := by omega
  generalize w3.alloc (.cells (madeCells #[.bool false] N) 4) = w4 at *
  generalize w3.heap.size = z at *
  clear hb3 hb3' HR3 HL3 HL2 HR2 HW2 w3 hz hgz w2
  have HM := Lib.hid HB2.out.1
  go_wp2
  go_loopw [28] (fun iv wr => ∃ (k : Nat) (cs : Array Value), k ≤ N ∧ iv = .int .i64 k ∧ Hid (Row wr z 4 cs) ∧ Hid (FilledB cs (Circ.valsOf gs st ins) k) ∧ Hid (Row wr g 110 #[.int .u64 m]) ∧ Below w.heap.size w wr) (fun iv _ => N - (intOf iv).toNat)
  case atStart => exact ⟨0, _, Nat.zero_le _, rfl, HRS, Lib.hid (FilledB.start (by rw [size_madeCells, HNN.out])), HWS, HBS.out⟩
  case round =>
    clear HRS HWS HBS
    obtain ⟨k, cs, hk, rfl, HRow, HF, HW, hbr⟩ := hrel
    by_cases hlt : k < N
    · have HF2 := Lib.hid (HF.out.step (by rw [HNN.out]; exact hlt))
      have hsz : k < cs.size := by rw [HF.out.1, HNN.out]; exact hlt
      have hc0 : wr.cell? ⟨z, k, none⟩ = some cs[k] := by rw [HRow.out.cell, Array.getElem?_eq_getElem hsz]
      have hf0 := HRow.out.frozen k
      have HCW : Hid (wr.cell? ⟨g, 0, none⟩ = some (.int .u64 m)) := Lib.hid (by rw [HW.out.cell]; rfl)
      rw [← HB2.out.2 k] at HF2
      have HB3 := Lib.hid (hbr.setCell (p := ⟨z, k, none⟩) hwz (.bool (m.testBit k)))
      have HR3 := Lib.hid (HRow.out.set k (.bool (m.testBit k)))
      have HW3 := Lib.hid (HW.out.far (p := ⟨z, k, none⟩) (by simp; omega) (.bool (m.testBit k)))
      generalize cs[k] = old at *
      go_wp2_with (go_at_call 52; refine (has_any g m k _ HCW.out (by omega) HM.out).mono ?_; rintro e w' ⟨rfl, rfl⟩)
      go_roundw
      case rel => exact ⟨k + 1, _, by omega, by go_num, HR3, HF2, HW3, HB3.out⟩
      case measure => simp [intOf]; omega
    · obtain rfl : k = N := by omega
      go_wp2
      go_ret
      exact ⟨z, rfl, hwz, ⟨_, HRow.out, by rw [HNN.out]; exact HF.out⟩, hbr⟩

set_option maxHeartbeats 400000 in
theorem evalVars_f (i : Int) (nA gA oA sA iA : Option Addr) (nc gc oc sl sc il ic : Nat) (ns : List Int) (gs : List (Int × Int)) (os : List Int) (w : World) (hc : CircAt w w.heap.size nA gA oA ns gs os) (hv : assignB i ns gs os sl il = false) :
    Calls Try.prog 18 #[.agg #[.int .i64 i, .slice nA ns.length nc, .slice gA gs.length gc, .slice oA os.length oc], .slice sA sl sc, .slice iA il ic] w fun e w' => e = .returned (.slice none 0 0) ∧ Below w.heap.size w w' := by
  have HC := Lib.hid hc
  have HV := Lib.hid hv
  clear hc hv
  have hbw : Below w.heap.size w (w.alloc (.cells #[.int .i64 i, .slice nA ns.length nc, .slice gA gs.length gc, .slice oA os.length oc] 26)) := (Below.refl _ _).alloc (Nat.le_refl _) _
  have HL0 := Lib.hid hbw
  clear hbw
  go_enter Try.func18, Try.ntmps18
  go_wp2_with fail
  refine (assignValid_any i nA gA oA sA iA nc gc oc _ sc _ ic ns gs os _ ((HC.out.below HL0.out).mono HL0.out.size)).mono ?_
  rintro e w1 ⟨rfl, hb1⟩
  rw [HV.out]
  go_wp2
  go_ret
  exact ⟨rfl, HL0.out.trans (hb1.mono HL0.out.size)⟩

theorem evalVars_any (i : Int) (nA gA oA sA iA : Option Addr) (nc gc oc sc ic : Nat) (ns : List Int) (gs : List (Int × Int)) (os : List Int) (st ins : List Bool) (w : World) (hc : CircAt w w.heap.size nA gA oA ns gs os)
    (hs : BoolsAt w w.heap.size sA st) (hin : BoolsAt w w.heap.size iA ins) :
    Calls Try.prog 18 #[.agg #[.int .i64 i, .slice nA ns.length nc, .slice gA gs.length gc, .slice oA os.length oc], .slice sA st.length sc, .slice iA ins.length ic] w fun e w' =>
      ∃ A : Option Addr, e = .returned (.slice A (evalV i ns gs os st ins).length (evalV i ns gs os st ins).length) ∧ BSl w' w.heap.size A (evalV i ns gs os st ins) ∧ Below w.heap.size w w' := by
  cases h : assignB i ns gs os st.length ins.length
  · rw [evalV_f h]
    exact (evalVars_f i nA gA oA sA iA nc gc oc _ sc _ ic ns gs os w hc h).mono fun _ _ ⟨he, hb⟩ => ⟨none, he, .inl ⟨rfl, rfl⟩, hb⟩
  · rw [evalV_t h]
    exact (evalVars_t i nA gA oA sA iA nc gc oc sc ic ns gs os st ins w hc hs hin h).mono fun _ _ ⟨g, he, hg, hr, hb⟩ => ⟨some ⟨g, 0, none⟩, he, .inr ⟨g, rfl, hg, hr⟩, hb⟩

set_option maxHeartbeats 400000 in
theorem valuesOf_any (g m : Nat) (A : Option Addr) (cap : Nat) (L : List Bool) (xs : List Int) (w : World) (hR : Row w g 110 #[.int .u64 m]) (hB : Circ.Bits m L) (hx : IntsAt w w.heap.size A xs) (hl : xs.length ≤ 1000) (hok : ∀ k, k < xs.length → 0 ≤ xs.getD k 0 ∧ xs.getD k 0 < 128) :
    Calls Try.prog 99 #[.slice (some ⟨g, 0, none⟩) 1 1, .slice A xs.length cap] w fun e w' => e = .returned (.slice (some ⟨w.heap.size, 0, none⟩) xs.length xs.length) ∧ Below w.heap.size w w' ∧ BRow w' w.heap.size (Circ.litsV L xs) := by
  have HX := Lib.hid hx
  have HW := Lib.hid hR
  have HB := Lib.hid hB
  have HOK := Lib.hid hok
  have HLV := Lib.hid (Circ.litsV_len L xs)
  have hgz := hR.lt
  clear hx hR hB hok
  generalize hn : xs.length = n at *
  have HN := Lib.hid hn
  clear hn
  have hmk := fun W => run_make_row' (P := Try.prog) 36 4 (.bool false) 1 Try.underlying36 Try.infoB rfl .i64 .i64 n (by omega) (by omega) W
  go_enter Try.func99, Try.ntmps99
  go_wp2
  clear hmk
  go_loopw [13] (fun iv wr => ∃ (k : Nat) (cs : Array Value), k ≤ n ∧ iv = .int .i64 k ∧ Hid (Row wr w.heap.size 4 cs) ∧ Hid (FilledB cs (Circ.litsV L xs) k) ∧ Below w.heap.size w wr) (fun iv _ => n - (intOf iv).toNat)
  case atStart => exact ⟨0, _, Nat.zero_le _, rfl, Lib.hid (heap_alloc_new w _), Lib.hid (FilledB.start (by rw [size_madeCells, HLV.out])), (Below.refl _ _).alloc (Nat.le_refl _) _⟩
  case round =>
    obtain ⟨k, cs, hk, rfl, HRow, HF, hbr⟩ := hrel
    by_cases hlt : k < n
    · obtain ⟨b, off, rfl, hbl, hcell⟩ := HX.out k (by rw [HN.out]; exact hlt)
      rw [← hbr.cell (by exact hbl)] at hcell
      obtain ⟨o1, o2⟩ := HOK.out k hlt
      have HF2 := Lib.hid (HF.out.step (by rw [HLV.out]; exact hlt))
      rw [Circ.litsV_get L xs k (by rw [HN.out]; exact hlt)] at HF2
      have hsz : k < cs.size := by rw [HF.out.1, HLV.out]; exact hlt
      have hc0 : wr.cell? ⟨w.heap.size, k, none⟩ = some cs[k] := by rw [HRow.out.cell, Array.getElem?_eq_getElem hsz]
      have hf0 := HRow.out.frozen k
      have HCW : Hid (wr.cell? ⟨g, 0, none⟩ = some (.int .u64 m)) := Lib.hid (by rw [(HW.out.below hbr hgz).cell]; rfl)
      generalize xs.getD k 0 = v at *
      obtain ⟨q, rfl⟩ := Int.eq_ofNat_of_zero_le o1
      have hq : q < 128 := by omega
      clear o1 o2
      have HB3 := Lib.hid (hbr.setCell (p := ⟨w.heap.size, k, none⟩) (Nat.le_refl _) (.bool (Circ.litV L q)))
      have HR3 := Lib.hid (HRow.out.set k (.bool (Circ.litV L q)))
      generalize cs[k] = old at *
      go_wp2_with (go_at_call 94; refine (holds_any g m q L _ HCW.out HB.out hq).mono ?_; rintro e w' ⟨rfl, rfl⟩)
      go_roundw
      case rel => exact ⟨k + 1, _, by omega, by go_num, HR3, HF2, HB3.out⟩
      case measure => simp [intOf]; omega
    · obtain rfl : k = n := by omega
      go_wp2
      go_ret
      exact ⟨rfl, hbr, _, HRow.out, by rw [HLV.out]; exact HF.out⟩
end Go.Proofs.Ythcpgbfghededaa
/- The marks on a result. -/
namespace Go.Proofs.Ythcpgbfghededaa
open Go.RowKit Go.Deep

theorem Mid.bsl {lo hi : Nat} {w w' : World} (h : Mid lo hi w w') {A : Option Addr} {xs : List Bool} (hr : BSl w hi A xs) : BSl w' hi A xs := by
  rcases hr with ⟨rfl, rfl⟩ | ⟨g, rfl, hl, hr⟩
  · exact .inl ⟨rfl, rfl⟩
  · exact .inr ⟨g, rfl, hl, h.brow hr (.inr hl)⟩
theorem BSl.mono {w : World} {lo lo' : Nat} {A : Option Addr} {xs : List Bool} (h : BSl w lo A xs) (hl : lo' ≤ lo) : BSl w lo' A xs := by
  rcases h with ⟨rfl, rfl⟩ | ⟨g, rfl, h1, h⟩
  · exact .inl ⟨rfl, rfl⟩
  · exact .inr ⟨g, rfl, by omega, h⟩

end Go.Proofs.Ythcpgbfghededaa
/- The contracts of the model's values of all variables. -/
namespace Go.Proofs.Ythcpgbfghededaa
open Go.RowKit Go.Deep

def bvs (xs : List Bool) : List Value := xs.map Value.bool
theorem bvs_len (xs : List Bool) : (bvs xs).length = xs.length := by simp [bvs]
theorem bvs_get {xs : List Bool} {k : Nat} (hk : k < xs.length) : (bvs xs)[k]? = some (.bool (xs.getD k false)) := by
  simp [bvs, List.getD_eq_getElem?_getD, hk]
theorem bvs_append (a b : List Bool) : bvs (a ++ b) = bvs a ++ bvs b := by simp [bvs]
theorem bvs_one (xs : List Bool) : ∀ u ∈ bvs xs, u.oneCell' = true := by
  intro u hu
  simp only [bvs, List.mem_map] at hu
  obtain ⟨n, _, rfl⟩ := hu
  rfl
theorem bools_src {w : World} {B : Nat} {A : Option Addr} {xs : List Bool} (h : BoolsAt w B A xs) : ∀ j u, (bvs xs)[j]? = some u → ∃ ad, A = some ad ∧ w.cell? (ad.add j) = some u := by
  intro j u hu
  have hj : j < xs.length := by have := (List.getElem?_eq_some_iff.1 hu).1; rwa [bvs_len] at this
  obtain ⟨b, off, e, _, hc⟩ := h j hj
  rw [bvs_get hj] at hu
  injection hu with hu
  subst hu
  exact ⟨_, e, by rw [← hc]; unfold Addr.add; split <;> simp_all⟩
theorem own_bools {w : World} {base g n cap : Nat} {xs : List Bool} (h : w.ownsRow base 4 1 (.slice (some ⟨g, 0, none⟩) n cap) n (bvs xs)) (hn : xs.length = n) : BoolsAt w w.heap.size (some ⟨g, 0, none⟩) xs := fun k hk => by
  refine ⟨g, 0, rfl, (h.lt g rfl).2, ?_⟩
  rw [Nat.zero_add, h.cellAt k (by omega)]
  exact bvs_get hk

end Go.Proofs.Ythcpgbfghededaa
/- The contracts of one clock cycle of the program. -/
namespace Go.Proofs.Ythcpgbfghededaa
open Go.RowKit Go.Deep

theorem lits_ok {xs : List Int} {c : Int} (h : Circ.litsOk xs c = true) (hc : c ≤ 60) : ∀ k, k < xs.length → 0 ≤ xs.getD k 0 ∧ xs.getD k 0 < 128 := fun k hk => by
  have := Circ.litsOk_get h hk
  omega

theorem valuesOf_ex (g m : Nat) (A : Option Addr) (cap : Nat) (L : List Bool) (xs : List Int) (w : World) (hR : Row w g 110 #[.int .u64 m]) (hB : Circ.Bits m L) (hx : IntsAt w w.heap.size A xs) (hl : xs.length ≤ 1000) (hok : ∀ k, k < xs.length → 0 ≤ xs.getD k 0 ∧ xs.getD k 0 < 128) :
    Calls Try.prog 99 #[.slice (some ⟨g, 0, none⟩) 1 1, .slice A xs.length cap] w fun e w' => ∃ z : Nat, e = .returned (.slice (some ⟨z, 0, none⟩) xs.length xs.length) ∧ w.heap.size ≤ z ∧ z < w'.heap.size ∧ Below w.heap.size w w' ∧ BRow w' z (Circ.litsV L xs) :=
  (valuesOf_any g m A cap L xs w hR hB hx hl hok).mono fun _ _ ⟨he, hb, hr⟩ => ⟨w.heap.size, he, Nat.le_refl _, hr.lt, hb, hr⟩

def StepOut (w : World) (L : List Bool) (ns os : List Int) (e : Ending) (w' : World) : Prop :=
  ∃ z1 z2 : Nat, e = .returned (.agg #[.slice (some ⟨z1, 0, none⟩) os.length os.length, .slice (some ⟨z2, 0, none⟩) ns.length ns.length]) ∧ w.heap.size ≤ z1 ∧ z1 < z2 ∧ BRow w' z1 (Circ.litsV L os) ∧ BRow w' z2 (Circ.litsV L ns) ∧ Below w.heap.size w w'

theorem BRow.far {w : World} {g : Nat} {xs : List Bool} (h : BRow w g xs) (p : Addr) (u : Value) (hp : g ≠ p.block) : BRow (w.setCell p u) g xs := by
  obtain ⟨cs, hr, hf⟩ := h
  exact ⟨cs, hr.far hp u, hf⟩

set_option maxHeartbeats 400000 in
theorem stepValid_any (i : Int) (nA gA oA sA iA : Option Addr) (nc gc oc sc ic : Nat) (ns : List Int) (gs : List (Int × Int)) (os : List Int) (st ins : List Bool) (w : World) (hc : CircAt w w.heap.size nA gA oA ns gs os)
    (hs : BoolsAt w w.heap.size sA st) (hin : BoolsAt w w.heap.size iA ins) (hv : assignB i ns gs os st.length ins.length = true) :
    Calls Try.prog 66 #[.agg #[.int .i64 i, .slice nA ns.length nc, .slice gA gs.length gc, .slice oA os.length oc], .slice sA st.length sc, .slice iA ins.length ic] w (StepOut w (Circ.valsOf gs st ins) ns os) := by
  have HC := Lib.hid hc
  have HS := Lib.hid hs
  have HI := Lib.hid hin
  have HV := Lib.hid hv
  obtain ⟨hv1, hv2, hv3⟩ := assign_inv hv
  obtain ⟨a0, a1, a2, a3, a4⟩ := Circ.valid_within hv1
  have HG := Lib.hid (Circ.valid_gates hv1)
  have HN := Lib.hid (lits_ok (Circ.valid_next hv1) (by omega))
  have HO := Lib.hid (lits_ok (Circ.valid_outs hv1) (by omega))
  have HV2 := Lib.hid hv2
  have HV3 := Lib.hid hv3
  clear hc hs hin hv hv1 hv2 hv3
  have hbw : Below w.heap.size w ((w.alloc (.cells #[.int .i64 i, .slice nA ns.length nc, .slice gA gs.length gc, .slice oA os.length oc] 26)).alloc (.cells #[.slice none 0 0, .slice none 0 0] 47)) := ((Below.refl _ _).alloc (Nat.le_refl _) _).alloc (by simp) _
  have r0 : Row ((w.alloc (.cells #[.int .i64 i, .slice nA ns.length nc, .slice gA gs.length gc, .slice oA os.length oc] 26)).alloc (.cells #[.slice none 0 0, .slice none 0 0] 47)) w.heap.size 26 #[.int .i64 i, .slice nA ns.length nc, .slice gA gs.length gc, .slice oA os.length oc] := (Below.heap_alloc _ _ _ (by simp)).trans (heap_alloc_new w _)
  have r1 : Row ((w.alloc (.cells #[.int .i64 i, .slice nA ns.length nc, .slice gA gs.length gc, .slice oA os.length oc] 26)).alloc (.cells #[.slice none 0 0, .slice none 0 0] 47)) (w.heap.size + 1) 47 #[.slice none 0 0, .slice none 0 0] := by
    have h := heap_alloc_new (w.alloc (.cells #[.int .i64 i, .slice nA ns.length nc, .slice gA gs.length gc, .slice oA os.length oc] 26)) (.cells #[.slice none 0 0, .slice none 0 0] 47)
    simpa [Row] using h
  have HL0 := Lib.hid hbw
  have HR0 := Lib.hid r0
  have HQ0 := Lib.hid r1
  clear hbw r0 r1
  go_enter Try.func66, Try.ntmps66
  go_wp2_with fail
  refine (trueVars_any i nA gA oA sA iA _ nc gc _ oc sc ic gs st ins _ ((HC.out.gates.below HL0.out).mono HL0.out.size) ((HS.out.below HL0.out).mono HL0.out.size) ((HI.out.below HL0.out).mono HL0.out.size) (by omega) (by omega) (by omega) HV2.out HV3.out HG.out).mono ?_
  rintro e w1 ⟨g, m, rfl, hg1, hr1, hB1, hb1⟩
  have HR1 := Lib.hid (HR0.out.below hb1 HR0.out.lt)
  have HQ1 := Lib.hid (HQ0.out.below hb1 HQ0.out.lt)
  have HL1 := Lib.hid (HL0.out.trans (hb1.mono HL0.out.size))
  have HW1 := Lib.hid hr1
  have HB1 := Lib.hid hB1
  have hgB : w.heap.size + 1 < g := Nat.lt_of_lt_of_le HQ0.out.lt hg1
  clear hb1 hr1 hB1 HR0 HL0 HQ0 hg1
  have q1 := HR1.out.cell 1
  have q3 := HR1.out.cell 3
  have p0 := HQ1.out.cell 0
  have p1 := HQ1.out.cell 1
  have f0 := HQ1.out.frozen 0
  have f1 := HQ1.out.frozen 1
  simp at q1 q3 p0 p1
  have hgz := HW1.out.lt
  have hqz := HQ1.out.lt
  have hN3 : ns.length ≤ 1000 := by omega
  have hO3 : os.length ≤ 1000 := by omega
  generalize Circ.valsOf gs st ins = L at *
  go_wp2
  go_region_held3 (fun w' => w'.cell? ⟨w.heap.size, 1, none⟩ = some (.slice nA ns.length nc) ∧ w'.cell? ⟨w.heap.size, 3, none⟩ = some (.slice oA os.length oc))
    (first | go_keep | (revert hb4; intro hb4; refine ⟨?_, ?_⟩; (exact (hc4 _ _ (by omega)).trans ((hc3 _ _ (by simp; omega)).trans q1)); (exact (hc4 _ _ (by omega)).trans ((hc3 _ _ (by simp; omega)).trans q3))) | (revert hb3; intro hb3; refine ⟨?_, ?_⟩; (exact (hc3 _ _ (by simp; omega)).trans q1); (exact (hc3 _ _ (by simp; omega)).trans q3)))
    (first
      | (go_at_call 99; revert hb3; intro hb3; refine (valuesOf_ex g m nA nc L ns _ ?_ ?_ ?_ ?_ ?_).mono ?_; (exact HW1.out.below ((Below.refl _ w1).drew.trans hb3) hgz); (exact HB1.out); (exact (HC.out.next.below (HL1.out.drew.trans (hb3.mono HL1.out.size))).mono (HL1.out.drew.trans (hb3.mono HL1.out.size)).size); (exact hN3); (exact HN.out); rintro e w4 ⟨z2, rfl, hz2, hz2w, hb4, hx4⟩; obtain ⟨hc4, hf4⟩ := bcell hb4; have s0 := (hc4 (w.heap.size + 1) 0 (by omega)).trans ((hc3 _ _ (by simp; omega)).trans p0); have s1 := (hc4 (w.heap.size + 1) 1 (by omega)).trans ((hc3 _ _ (by simp; omega)).trans p1); have t0 := (hf4 (w.heap.size + 1) 0 (by omega)).trans ((hf3 _ _ (by simp; omega)).trans f0); have t1 := (hf4 (w.heap.size + 1) 1 (by omega)).trans ((hf3 _ _ (by simp; omega)).trans f1))
      | (go_at_call 99; refine (valuesOf_ex g m oA oc L os _ ?_ ?_ ?_ ?_ ?_).mono ?_; (exact HW1.out); (exact HB1.out); (exact (HC.out.outs.below HL1.out.drew).mono HL1.out.drew.size); (exact hO3); (exact HO.out); rintro e w3 ⟨z1, rfl, hz1, hz1w, hb3, hx3⟩; obtain ⟨hc3, hf3⟩ := bcell hb3; have hz3 : w1.heap.size ≤ w3.heap.size := hb3.size))
  have hbd : Below w1.heap.size w1 w3 := (Below.refl _ w1).drew.trans hb3
  have hz34 : w3.heap.size ≤ w4.heap.size := hb4.size
  have hz1' : w1.heap.size ≤ z1 := hz1
  have X3 := Lib.hid (hx3.on hb4)
  have X4 := Lib.hid hx4
  have HL4 := Lib.hid ((HL1.out.trans (hbd.mono HL1.out.size)).trans (hb4.mono (Nat.le_trans HL1.out.size hz3)))
  clear hbd hc3 hf3 hc4 hf4 hx3 hx4 hb3 hb4 q1 q3 p0 p1 f0 f1
  go_wp2
  refine bodyPost_ret (v := .agg #[.slice (some ⟨z1, 0, none⟩) os.length os.length, .slice (some ⟨z2, 0, none⟩) ns.length ns.length]) (by simp [results, Try.results66, go_sem, s0, s1]) rfl ⟨z1, z2, rfl, by omega, by omega, ?_, ?_, ?_⟩
  · exact (X3.out.far _ _ (by simp; omega)).far _ _ (by simp; omega)
  · exact (X4.out.far _ _ (by simp; omega)).far _ _ (by simp; omega)
  · exact (HL4.out.setCell (by simp) _).setCell (by simp) _

/-- The outputs, or the next state, of one clock cycle: of an invalid assignment the empty list. -/
def stepV (i : Int) (ns : List Int) (gs : List (Int × Int)) (os : List Int) (st ins : List Bool) (xs : List Int) : List Bool := if assignB i ns gs os st.length ins.length = true then Circ.outV gs xs st ins else []
theorem stepV_t {i : Int} {ns : List Int} {gs : List (Int × Int)} {os : List Int} {st ins : List Bool} (xs : List Int) (h : assignB i ns gs os st.length ins.length = true) : stepV i ns gs os st ins xs = Circ.outV gs xs st ins := if_pos h
theorem stepV_f {i : Int} {ns : List Int} {gs : List (Int × Int)} {os : List Int} {st ins : List Bool} (xs : List Int) (h : assignB i ns gs os st.length ins.length = false) : stepV i ns gs os st ins xs = [] := if_neg (by rw [h]; decide)
theorem stepV_le {i : Int} {ns : List Int} {gs : List (Int × Int)} {os : List Int} (st ins : List Bool) (xs : List Int) (hx : xs.length ≤ 2000000) : (stepV i ns gs os st ins xs).length ≤ 2000000 := by
  cases h : assignB i ns gs os st.length ins.length
  · rw [stepV_f xs h]; simp
  · rw [stepV_t xs h, Circ.outV_len]; exact hx

/-- Two slices, each nil and empty or a block of its own. -/
structure BPair (w : World) (lo : Nat) (A1 A2 : Option Addr) (xs ys : List Bool) : Prop where
  fst : BSl w lo A1 xs
  snd : BSl w lo A2 ys
  ne : ∀ g, A1 = some ⟨g, 0, none⟩ → A2 ≠ some ⟨g, 0, none⟩
theorem BPair.on {w w' : World} {lo : Nat} {A1 A2 : Option Addr} {xs ys : List Bool} (h : BPair w lo A1 A2 xs ys) (hb : Below w.heap.size w w') : BPair w' lo A1 A2 xs ys := ⟨h.fst.on hb, h.snd.on hb, h.ne⟩
theorem Mid.bpair {lo hi : Nat} {w w' : World} (h : Mid lo hi w w') {A1 A2 : Option Addr} {xs ys : List Bool} (hr : BPair w hi A1 A2 xs ys) : BPair w' hi A1 A2 xs ys := ⟨h.bsl hr.fst, h.bsl hr.snd, hr.ne⟩

set_option maxHeartbeats 400000 in
theorem step_any (i : Int) (nA gA oA sA iA : Option Addr) (nc gc oc sc ic : Nat) (ns : List Int) (gs : List (Int × Int)) (os : List Int) (st ins : List Bool) (w : World) (hc : CircAt w w.heap.size nA gA oA ns gs os)
    (hs : BoolsAt w w.heap.size sA st) (hin : BoolsAt w w.heap.size iA ins) :
    Calls Try.prog 29 #[.agg #[.int .i64 i, .slice nA ns.length nc, .slice gA gs.length gc, .slice oA os.length oc], .slice sA st.length sc, .slice iA ins.length ic] w fun e w' =>
      ∃ A1 A2 : Option Addr, e = .returned (.agg #[.slice A1 (stepV i ns gs os st ins os).length (stepV i ns gs os st ins os).length, .slice A2 (stepV i ns gs os st ins ns).length (stepV i ns gs os st ins ns).length]) ∧ BPair w' w.heap.size A1 A2 (stepV i ns gs os st ins os) (stepV i ns gs os st ins ns) ∧ Below w.heap.size w w' := by
  have HC := Lib.hid hc
  have HS := Lib.hid hs
  have HI := Lib.hid hin
  clear hc hs hin
  have hbw : Below w.heap.size w ((w.alloc (.cells #[.int .i64 i, .slice nA ns.length nc, .slice gA gs.length gc, .slice oA os.length oc] 26)).alloc (.cells #[.slice none 0 0, .slice none 0 0] 47)) := ((Below.refl _ _).alloc (Nat.le_refl _) _).alloc (by simp) _
  have r0 : Row ((w.alloc (.cells #[.int .i64 i, .slice nA ns.length nc, .slice gA gs.length gc, .slice oA os.length oc] 26)).alloc (.cells #[.slice none 0 0, .slice none 0 0] 47)) w.heap.size 26 #[.int .i64 i, .slice nA ns.length nc, .slice gA gs.length gc, .slice oA os.length oc] := (Below.heap_alloc _ _ _ (by simp)).trans (heap_alloc_new w _)
  have r1 : Row ((w.alloc (.cells #[.int .i64 i, .slice nA ns.length nc, .slice gA gs.length gc, .slice oA os.length oc] 26)).alloc (.cells #[.slice none 0 0, .slice none 0 0] 47)) (w.heap.size + 1) 47 #[.slice none 0 0, .slice none 0 0] := by
    have h := heap_alloc_new (w.alloc (.cells #[.int .i64 i, .slice nA ns.length nc, .slice gA gs.length gc, .slice oA os.length oc] 26)) (.cells #[.slice none 0 0, .slice none 0 0] 47)
    simpa [Row] using h
  have HL0 := Lib.hid hbw
  have HR0 := Lib.hid r0
  have HQ0 := Lib.hid r1
  clear hbw r0 r1
  go_enter Try.func29, Try.ntmps29
  go_wp2_with fail
  refine (assignValid_any i nA gA oA sA iA nc gc oc _ sc _ ic ns gs os _ ((HC.out.below HL0.out).mono HL0.out.size)).mono ?_
  rintro e w1 ⟨rfl, hb1⟩
  have HR1 := Lib.hid (HR0.out.below hb1 HR0.out.lt)
  have HQ1 := Lib.hid (HQ0.out.below hb1 HQ0.out.lt)
  have HL1 := Lib.hid (HL0.out.trans (hb1.mono HL0.out.size))
  clear hb1 HR0 HQ0 HL0
  have p0 := HQ1.out.cell 0
  have p1 := HQ1.out.cell 1
  have f0 := HQ1.out.frozen 0
  have f1 := HQ1.out.frozen 1
  simp at p0 p1
  cases hv : assignB i ns gs os st.length ins.length
  · have HE := Lib.hid (stepV_f os hv)
    have HF := Lib.hid (stepV_f ns hv)
    clear hv
    go_wp2
    refine bodyPost_ret (v := .agg #[.slice none 0 0, .slice none 0 0]) (by simp [results, Try.results29, go_sem, p0, p1]) rfl ⟨none, none, by rw [HE.out, HF.out]; rfl, ⟨.inl ⟨rfl, HE.out⟩, .inl ⟨rfl, HF.out⟩, fun g h => by cases h⟩, (HL1.out.setCell (by simp) _).setCell (by simp) _⟩
  · have HE := Lib.hid (stepV_t os hv)
    have HF := Lib.hid (stepV_t ns hv)
    have HLE : Hid ((stepV i ns gs os st ins os).length = os.length) := Lib.hid (by rw [HE.out, Circ.outV_len])
    have HLF : Hid ((stepV i ns gs os st ins ns).length = ns.length) := Lib.hid (by rw [HF.out, Circ.outV_len])
    have HV := Lib.hid hv
    clear hv
    have q0 := HR1.out.cell 0
    have q1 := HR1.out.cell 1
    have q2 := HR1.out.cell 2
    have q3 := HR1.out.cell 3
    simp at q0 q1 q2 q3
    go_wp2_with fail
    refine (stepValid_any i nA gA oA sA iA nc gc oc sc ic ns gs os st ins _ ((HC.out.below HL1.out).mono HL1.out.size) ((HS.out.below HL1.out).mono HL1.out.size) ((HI.out.below HL1.out).mono HL1.out.size) HV.out).mono ?_
    rintro e w2 ⟨z1, z2, rfl, hz1, hz2, hx1, hx2, hb2⟩
    have hqz := HQ1.out.lt
    have HQ2 := Lib.hid (HQ1.out.below hb2 HQ1.out.lt)
    have HL2 := Lib.hid (HL1.out.trans (hb2.mono HL1.out.size))
    have X1 := Lib.hid hx1
    have X2 := Lib.hid hx2
    clear hx1 hx2 hb2 HQ1 HL1 HR1 p0 p1 f0 f1 q0 q1 q2 q3
    have p0 := HQ2.out.cell 0
    have p1 := HQ2.out.cell 1
    have f0 := HQ2.out.frozen 0
    have f1 := HQ2.out.frozen 1
    simp at p0 p1
    go_wp2
    refine bodyPost_ret (v := .agg #[.slice (some ⟨z1, 0, none⟩) os.length os.length, .slice (some ⟨z2, 0, none⟩) ns.length ns.length]) (by simp [results, Try.results29, go_sem, p0, p1]) rfl ⟨some ⟨z1, 0, none⟩, some ⟨z2, 0, none⟩, by rw [HLE.out, HLF.out], ⟨.inr ⟨z1, rfl, by omega, ?_⟩, .inr ⟨z2, rfl, by omega, ?_⟩, fun g h h' => ?_⟩, (HL2.out.setCell (by simp) _).setCell (by simp) _⟩
    · rw [HE.out]
      exact (X1.out.far _ _ (by simp; omega)).far _ _ (by simp; omega)
    · rw [HF.out]
      exact (X2.out.far _ _ (by simp; omega)).far _ _ (by simp; omega)
    · injection h with h
      injection h with h
      injection h' with h'
      injection h' with h'
      omega
end Go.Proofs.Ythcpgbfghededaa
