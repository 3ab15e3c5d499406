/- The contracts of the test of an assignment and of the set of true variables. -/
import Derived.Test.YthcpgbfghededaaB1
namespace Go.Proofs.Ythcpgbfghededaa
open Go.RowKit Go.Deep

def assignB (i : Int) (ns : List Int) (gs : List (Int × Int)) (os : List Int) (sl il : Nat) : Bool := Circ.validB i ns gs os && (decide (sl = ns.length) && decide ((il : Int) = i))
theorem assign_inv {i : Int} {ns : List Int} {gs : List (Int × Int)} {os : List Int} {sl il : Nat} (h : assignB i ns gs os sl il = true) : Circ.validB i ns gs os = true ∧ sl = ns.length ∧ (il : Int) = i := by
  simpa [assignB] using h

set_option maxHeartbeats 400000 in
theorem assignValid_any (i : Int) (nA gA oA sA iA : Option Addr) (nc gc oc sl sc il ic : Nat) (ns : List Int) (gs : List (Int × Int)) (os : List Int) (w : World) (hc : CircAt w w.heap.size nA gA oA ns gs os) :
    Calls Try.prog 58 #[.agg #[.int .i64 i, .slice nA ns.length nc, .slice gA gs.length gc, .slice oA os.length oc], .slice sA sl sc, .slice iA il ic] w fun e w' => e = .returned (.bool (assignB i ns gs os sl il)) ∧ Below w.heap.size w w' := by
  have HC := Lib.hid hc
  have hnl := hc.nl
  unfold maxLen at hnl
  clear hc
  have hbw : Below w.heap.size w (w.alloc (.cells #[.int .i64 i, .slice nA ns.length nc, .slice gA gs.length gc, .slice oA os.length oc] 26)) := (Below.refl _ _).alloc (Nat.le_refl _) _
  have r0 : Row (w.alloc (.cells #[.int .i64 i, .slice nA ns.length nc, .slice gA gs.length gc, .slice oA os.length oc] 26)) w.heap.size 26 #[.int .i64 i, .slice nA ns.length nc, .slice gA gs.length gc, .slice oA os.length oc] := heap_alloc_new w _
  have HL0 := Lib.hid hbw
  have HR0 := Lib.hid r0
  clear hbw r0
  go_enter Try.func58, Try.ntmps58
  go_wp2_with fail
  refine (valid_any i nA gA oA nc gc oc ns gs os _ ((HC.out.below HL0.out).mono HL0.out.size)).mono ?_
  rintro e w1 ⟨rfl, hb1⟩
  have HR1 := Lib.hid (HR0.out.below hb1 HR0.out.lt)
  have HL1 := Lib.hid (HL0.out.trans (hb1.mono HL0.out.size))
  clear hb1 HR0 HL0
  have q0 := HR1.out.cell 0
  have q1 := HR1.out.cell 1
  simp at q0 q1
  have HA : Hid (assignB i ns gs os sl il = (Circ.validB i ns gs os && (decide (sl = ns.length) && decide ((il : Int) = i)))) := Lib.hid rfl
  generalize Circ.validB i ns gs os = vv at *
  cases vv
  · go_wp2
    go_ret
    exact ⟨ret_bool (by rw [HA.out]; rfl), HL1.out⟩
  · by_cases h1 : sl = ns.length
    · by_cases h2 : (il : Int) = i
      · have e1 : ((sl : Int) == (ns.length : Int)) = true := by simp; omega
        have e2 : ((il : Int) == i) = true := by simpa using h2
        have HE : Hid (assignB i ns gs os sl il = true) := Lib.hid (by rw [HA.out]; simp [h1, h2])
        clear HA h1 h2
        go_wp2
        go_ret
        exact ⟨ret_bool HE.out.symm, HL1.out⟩
      · have e1 : ((sl : Int) == (ns.length : Int)) = true := by simp; omega
        have e2 : ((il : Int) == i) = false := by simpa using h2
        have HE : Hid (assignB i ns gs os sl il = false) := Lib.hid (by rw [HA.out]; simp [h2])
        clear HA h1 h2
        go_wp2
        go_ret
        exact ⟨ret_bool HE.out.symm, HL1.out⟩
    · have e1 : ((sl : Int) == (ns.length : Int)) = false := by simp; omega
      have HE : Hid (assignB i ns gs os sl il = false) := Lib.hid (by rw [HA.out]; simp [h1])
      clear HA h1
      go_wp2
      go_ret
      exact ⟨ret_bool HE.out.symm, HL1.out⟩

set_option maxHeartbeats 800000 in
theorem trueVars_any (i : Int) (nA gA oA sA iA : Option Addr) (nl nc gc ol oc sc ic : Nat) (gs : List (Int × Int)) (st ins : List Bool) (w : World) (hg : GatesAt w w.heap.size gA gs) (hs : BoolsAt w w.heap.size sA st) (hin : BoolsAt w w.heap.size iA ins)
    (hgl : gs.length ≤ 14) (h2 : nl ≤ 3) (h1 : i ≤ 4) (hsl : st.length = nl) (hil : (ins.length : Int) = i) (hok : Circ.gatesOk gs (1 + i + nl) = true) :
    Calls Try.prog 59 #[.agg #[.int .i64 i, .slice nA nl nc, .slice gA gs.length gc, .slice oA ol oc], .slice sA st.length sc, .slice iA ins.length ic] w fun e w' =>
      ∃ g m : Nat, e = .returned (.slice (some ⟨g, 0, none⟩) 1 1) ∧ w.heap.size ≤ g ∧ Row w' g 110 #[.int .u64 m] ∧ Circ.Bits m (Circ.valsOf gs st ins) ∧ Below w.heap.size w w' := by
  have HX := Lib.hid hg
  have HS := Lib.hid hs
  have HI := Lib.hid hin
  have HOK := Lib.hid hok
  obtain ⟨il, hil'⟩ : ∃ il : Nat, ins.length = il := ⟨_, rfl⟩
  have HIL := Lib.hid hil'
  have HSL := Lib.hid hsl
  rw [hil'] at hil
  subst hil
  have HOUT : Hid (Circ.valsOf gs st ins = Circ.vals gs (false :: (ins ++ st))) := Lib.hid rfl
  have HV0 : Hid ((false :: (ins ++ st)).length = 1 + il + nl) := Lib.hid (by simp [hil', hsl]; omega)
  have i4 : il ≤ 4 := by omega
  have hf8 : 1 + il + nl ≤ 8 := by omega
  clear hg hs hin hok h1
  rw [hsl, hil']
  clear hsl hil'
  have hbw : Below w.heap.size w (w.alloc (.cells #[.int .i64 il, .slice nA nl nc, .slice gA gs.length gc, .slice oA ol oc] 26)) := (Below.refl _ _).alloc (Nat.le_refl _) _
  have r0 : Row (w.alloc (.cells #[.int .i64 il, .slice nA nl nc, .slice gA gs.length gc, .slice oA ol oc] 26)) w.heap.size 26 #[.int .i64 il, .slice nA nl nc, .slice gA gs.length gc, .slice oA ol oc] := heap_alloc_new w _
  have HL0 := Lib.hid hbw
  have HR0 := Lib.hid r0
  clear hbw r0
  generalize hn : gs.length = n at *
  have HN := Lib.hid hn
  clear hn
  go_enter Try.func59, Try.ntmps59
  go_wp2_with fail
  refine (firstGate_any _ _ _ _ _ _ _ _ _ _ _ (by omega) (by omega) (by omega)).mono ?_
  rintro e w1 ⟨rfl, hb1⟩
  have ef : (1 : Int) + (il : Int) + (nl : Int) = ((1 + il + nl : Nat) : Int) := by omega
  rw [ef]
  clear ef
  have HFD : Hid (∃ f : Nat, 1 + il + nl = f) := Lib.hid ⟨_, rfl⟩
  obtain ⟨f, hf⟩ := HFD.out
  have HFE := Lib.hid hf
  rw [hf] at HV0 hf8 ⊢
  have hf1 : 1 + il ≤ f := by omega
  clear hf HFD
  have HR1 := Lib.hid (HR0.out.below hb1 HR0.out.lt)
  have HL1 := Lib.hid (HL0.out.trans (hb1.mono HL0.out.size))
  clear hb1 HR0 HL0
  have q0 := HR1.out.cell 0
  have q2 := HR1.out.cell 2
  simp at q0 q2
  go_wp2_with fail
  have en : (f : Int) + (n : Int) = ((f + n : Nat) : Int) := by omega
  rw [en]
  clear en
  refine (newBitSet_any (f + n) _ (by omega) (by omega)).mono ?_
  rintro e w2 ⟨rfl, hr2, hb2⟩
  have HR2 := Lib.hid (HR1.out.below hb2 HR1.out.lt)
  have HL2 := Lib.hid (HL1.out.trans (hb2.mono HL1.out.size))
  have hgB : w.heap.size < w1.heap.size := HR1.out.lt
  have HS2 := Lib.hid hr2
  clear hb2 hr2 HR1 HL1 q0 q2
  generalize w1.heap.size = g at *
  clear w1
  have q0 := HR2.out.cell 0
  have q2 := HR2.out.cell 2
  simp at q0 q2
  go_wp2_with fail
  rw [show (1 : Int) = ((1 : Nat) : Int) from rfl]
  refine (addTrue_len g 0 1 iA ic il [false] ins _ HIL.out HS2.out Circ.Bits.one rfl ((HI.out.below HL2.out).mono (by omega)) (by omega)).mono ?_
  rintro e w3 ⟨m3, rfl, hr3, hB3, hO3⟩
  have hBel3 : Below g w2 w3 := hO3.below (fun _ e => by injection e with e; omega) (Nat.le_of_lt HS2.out.lt)
  have HR3 := Lib.hid (HR2.out.below hBel3 hgB)
  have HL3 := Lib.hid (HL2.out.trans (hBel3.mono (Nat.le_of_lt hgB)))
  have HS3 := Lib.hid hr3
  have HB3 := Lib.hid hB3
  clear hr3 hB3 hO3 hBel3 HR2 HL2 HS2 q0 q2
  have q0 := HR3.out.cell 0
  have q2 := HR3.out.cell 2
  simp at q0 q2
  go_wp2_with fail
  have ei : (1 : Int) + (il : Int) = ((1 + il : Nat) : Int) := by omega
  rw [ei]
  clear ei
  refine (addTrue_len g m3 (1 + il) sA sc nl ([false] ++ ins) st _ HSL.out HS3.out HB3.out (by simp [HIL.out]; omega) ((HS.out.below HL3.out).mono (by omega)) (by omega)).mono ?_
  rintro e w4 ⟨m4, rfl, hr4, hB4, hO4⟩
  have hBel4 : Below g w3 w4 := hO4.below (fun _ e => by injection e with e; omega) (Nat.le_of_lt HS3.out.lt)
  have HR4 := Lib.hid (HR3.out.below hBel4 hgB)
  have HL4 := Lib.hid (HL3.out.trans (hBel4.mono (Nat.le_of_lt hgB)))
  have HS4 := Lib.hid hr4
  have HB4 : Hid (Circ.Bits m4 (false :: (ins ++ st))) := Lib.hid (by simpa using hB4)
  clear hr4 hB4 hO4 hBel4 HR3 HL3 HS3 HB3 q0 q2 w2 w3
  have q2 := HR4.out.cell 2
  simp at q2
  go_wp2
  clear q2
  go_loopw [31] (fun iv wr => ∃ (k m : Nat), k ≤ n ∧ iv = .int .i64 k ∧ Hid (Row wr g 110 #[.int .u64 m]) ∧ Hid (Circ.Bits m (Circ.vals (gs.take k) (false :: (ins ++ st)))) ∧ Below w.heap.size w wr) (fun iv _ => n - (intOf iv).toNat)
  case atStart => exact ⟨0, m4, Nat.zero_le _, rfl, HS4, Lib.hid (by simpa [Circ.vals] using HB4.out), HL4.out⟩
  case round =>
    clear HR4 HL4 HS4 HB4 m4 w4
    obtain ⟨k, m, hk, rfl, HRow, HB, hbr⟩ := hrel
    by_cases hlt : k < n
    · obtain ⟨b, off, rfl, hbl, hcA, hcB⟩ := HX.out k (by rw [HN.out]; exact hlt)
      rw [← hbr.cell (by exact hbl)] at hcA hcB
      obtain ⟨oA1, oB1⟩ := Circ.gatesOk_get HOK.out (k := k) (by rw [HN.out]; exact hlt)
      obtain ⟨oA2, oA3⟩ := Circ.litOk_inv oA1
      obtain ⟨oB2, oB3⟩ := Circ.litOk_inv oB1
      clear oA1 oB1
      have HSN := Lib.hid (Circ.vals_snoc gs k (false :: (ins ++ st)) (by rw [HN.out]; exact hlt))
      have HLN : Hid ((Circ.vals (gs.take k) (false :: (ins ++ st))).length = f + k) := Lib.hid (by rw [Circ.vals_take_len _ _ _ (by rw [HN.out]; exact hk), HV0.out])
      generalize (gs.getD k (0, 0)).1 = va at *
      generalize (gs.getD k (0, 0)).2 = vb at *
      obtain ⟨qa, rfl⟩ := Int.eq_ofNat_of_zero_le oA2
      obtain ⟨qb, rfl⟩ := Int.eq_ofNat_of_zero_le oB2
      have hfe := HFE.out
      have hqa : qa < 128 := by omega
      have hqb : qb < 128 := by omega
      clear hfe oA2 oA3 oB2 oB3
      generalize Circ.vals (gs.take k) (false :: (ins ++ st)) = L at *
      have hgl : g < wr.heap.size := HRow.out.lt
      have hwc : (wr.alloc (.cells #[.int .i64 qa, .int .i64 qb] 79)).cell? ⟨g, 0, none⟩ = some (.int .u64 m) := (World.cell?_alloc_lt wr _ ⟨g, 0, none⟩ hgl).trans (by rw [HRow.out.cell]; rfl)
      have HWC := Lib.hid hwc
      clear hwc
      have HRA : Hid (Row (wr.alloc (.cells #[.int .i64 qa, .int .i64 qb] 79)) g 110 #[.int .u64 m]) := Lib.hid ((Below.heap_alloc _ _ _ hgl).trans HRow.out)
      have HBA := Lib.hid (hbr.alloc hbr.size (.cells #[.int .i64 qa, .int .i64 qb] 79))
      have ec : ((f + k : Nat) : Int) = (f : Int) + (k : Int) := by omega
      have HM := Lib.hid HB.out.1
      cases ha : Circ.litV L (qa : Int)
      · have HA := Lib.hid ha
        clear ha
        have HS5 := Lib.hid HB.out.snocF
        have HE : Hid (Circ.vals (gs.take (k + 1)) (false :: (ins ++ st)) = L ++ [false]) := Lib.hid (by rw [HSN.out, HA.out]; rfl)
        rw [← HE.out] at HS5
        go_wp2_with (go_at_call 94; refine (holds_any g m qa L _ HWC.out HB.out hqa).mono ?_; rintro e w' ⟨rfl, rfl⟩; rw [HA.out])
        go_roundw
        case rel => exact ⟨k + 1, m, by omega, by go_num, HRA, HS5, HBA.out⟩
        case measure => simp [intOf]; omega
      · have HA := Lib.hid ha
        clear ha
        cases hb : Circ.litV L (qb : Int)
        · have HBv := Lib.hid hb
          clear hb
          have HS5 := Lib.hid HB.out.snocF
          have HE : Hid (Circ.vals (gs.take (k + 1)) (false :: (ins ++ st)) = L ++ [false]) := Lib.hid (by rw [HSN.out, HA.out, HBv.out]; rfl)
          rw [← HE.out] at HS5
          go_wp2_with fail
          refine (holds_any g m qa L _ HWC.out HB.out hqa).mono ?_
          rintro e w' ⟨rfl, rfl⟩
          rw [HA.out]
          go_wp2_with fail
          refine (holds_any g m qb L _ HWC.out HB.out hqb).mono ?_
          rintro e w' ⟨rfl, rfl⟩
          rw [HBv.out]
          go_wp2
          go_roundw
          case rel => exact ⟨k + 1, m, by omega, by go_num, HRA, HS5, HBA.out⟩
          case measure => simp [intOf]; omega
        · have HBv := Lib.hid hb
          clear hb
          have HS5 := Lib.hid (HB.out.snocT (by rw [HLN.out]; omega))
          have HE : Hid (Circ.vals (gs.take (k + 1)) (false :: (ins ++ st)) = L ++ [true]) := Lib.hid (by rw [HSN.out, HA.out, HBv.out]; rfl)
          rw [← HE.out, HLN.out] at HS5
          go_wp2_with fail
          refine (holds_any g m qa L _ HWC.out HB.out hqa).mono ?_
          rintro e w' ⟨rfl, rfl⟩
          rw [HA.out]
          go_wp2_with fail
          refine (holds_any g m qb L _ HWC.out HB.out hqb).mono ?_
          rintro e w' ⟨rfl, rfl⟩
          rw [HBv.out]
          go_wp2_with fail
          rw [← ec]
          refine (add_any g m (f + k) _ _ HRA.out (by omega) HM.out).mono ?_
          rintro e w' ⟨rfl, rfl⟩
          have HR6 : Hid (Row ((wr.alloc (.cells #[.int .i64 qa, .int .i64 qb] 79)).setCell ⟨g, 0, none⟩ (.int .u64 (m ||| 2 ^ (f + k) : Nat))) g 110 #[.int .u64 (m ||| 2 ^ (f + k) : Nat)]) := Lib.hid (by have := HRA.out.set 0 (.int .u64 (m ||| 2 ^ (f + k) : Nat)); simpa using this)
          have HB6 := Lib.hid (HBA.out.setCell (p := ⟨g, 0, none⟩) (Nat.le_of_lt hgB) (.int .u64 (m ||| 2 ^ (f + k) : Nat)))
          generalize (wr.alloc (.cells #[.int .i64 qa, .int .i64 qb] 79)).setCell ⟨g, 0, none⟩ (.int .u64 (m ||| 2 ^ (f + k) : Nat)) = w6 at *
          go_wp2
          go_roundw
          case rel => exact ⟨k + 1, _, by omega, by go_num, HR6, HS5, HB6.out⟩
          case measure => simp [intOf]; omega
    · obtain rfl : k = n := by omega
      go_wp2
      go_ret
      exact ⟨g, m, rfl, Nat.le_of_lt hgB, HRow.out, by have := HB.out; rwa [List.take_of_length_le (by rw [HN.out]; omega), ← HOUT.out] at this, hbr⟩
end Go.Proofs.Ythcpgbfghededaa
