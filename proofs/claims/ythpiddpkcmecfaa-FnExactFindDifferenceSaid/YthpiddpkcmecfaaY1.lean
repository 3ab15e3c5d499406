/- The contracts of SameInterface and of the comparisons of lists of values. -/
import Derived.Test.YthpiddpkcmecfaaQA
import Derived.Test.YthpiddpkcmecfaaW3
import Derived.Test.YthpiddpkcmecfaaB1a
import Derived.Test.YthpiddpkcmecfaaB5
namespace Circ
theorem take_same {xs ys : List Bool} {k : Nat} (hx : k < xs.length) (hy : k < ys.length) (h : xs.take k = ys.take k) (he : xs.getD k false = ys.getD k false) : xs.take (k + 1) = ys.take (k + 1) := by
  rw [List.take_succ_eq_append_getElem hx, List.take_succ_eq_append_getElem hy, h]
  congr 2
  simpa [List.getD_eq_getElem?_getD, hx, hy] using he
theorem beq_ne {xs ys : List Bool} {k : Nat} (he : xs.getD k false ≠ ys.getD k false) : (xs == ys) = false := by
  cases h : xs == ys
  · rfl
  · rw [beq_iff_eq] at h
    rw [h] at he
    exact absurd rfl he
theorem beq_len {xs ys : List Bool} (he : xs.length ≠ ys.length) : (xs == ys) = false := by
  cases h : xs == ys
  · rfl
  · rw [beq_iff_eq] at h
    rw [h] at he
    exact absurd rfl he
end Circ
namespace Go.Proofs.Ythpiddpkcmecfaa
open Go.RowKit Go.Deep
set_option maxRecDepth 100000

set_option maxHeartbeats 400000 in
theorem eqSl_any (A A' : Option Addr) (cap cap' : Nat) (xs ys : List Bool) (w : World) (hx : BoolsAt w w.heap.size A xs) (hy : BoolsAt w w.heap.size A' ys) (hl : xs.length ≤ 2000000) (_hl' : ys.length ≤ 2000000) :
    Calls Try.prog 100 #[.slice A xs.length cap, .slice A' ys.length cap'] w fun e w' => e = .returned (.bool (xs == ys)) ∧ Below w.heap.size w w' := by
  have HX := Lib.hid hx
  have HY := Lib.hid hy
  clear hx hy
  by_cases hne : xs.length = ys.length
  · generalize hn : xs.length = n at *
    have HN := Lib.hid hn
    have HM := Lib.hid hne.symm
    rw [← hne]
    clear hn hne _hl'
    go_enter Try.func100, Try.ntmps100
    go_wp2
    go_loopw [13] (fun iv wr => ∃ (k : Nat), k ≤ n ∧ iv = .int .i64 k ∧ Hid (xs.take k = ys.take k) ∧ Below w.heap.size w wr) (fun iv _ => n - (intOf iv).toNat)
    case atStart => exact ⟨0, Nat.zero_le _, rfl, Lib.hid (by simp), Below.refl _ _⟩
    case round =>
      obtain ⟨k, hk, rfl, HE, hbr⟩ := hrel
      by_cases hlt : k < n
      · obtain ⟨b, off, rfl, hbl, hcA⟩ := HX.out k (by rw [HN.out]; exact hlt)
        obtain ⟨b', off', rfl, hbl', hcB⟩ := HY.out k (by rw [HM.out]; exact hlt)
        rw [← hbr.cell (by exact hbl)] at hcA
        rw [← hbr.cell (by exact hbl')] at hcB
        have HT := Lib.hid (fun h => Circ.take_same (xs := xs) (ys := ys) (k := k) (by rw [HN.out]; exact hlt) (by rw [HM.out]; exact hlt) HE.out h)
        have HU := Lib.hid (fun h => Circ.beq_ne (xs := xs) (ys := ys) (k := k) h)
        generalize xs.getD k false = u at *
        generalize ys.getD k false = v at *
        have hk0 : (0 : Int) ≤ (k : Int) := Int.natCast_nonneg _
        have hk1 : (k : Int) < (n : Int) := by omega
        by_cases huv : u = v
        · subst huv
          have HT2 := Lib.hid (HT.out rfl)
          clear HT HU
          go_wp2
          go_quiet (fail)
          go_wp2
          go_roundw
          case rel => exact ⟨k + 1, by omega, by go_num, HT2, below_drewN hbr _⟩
          case measure => simp [intOf]; omega
        · have HD := Lib.hid (HU.out huv)
          have t1 : (u != v) = true := by simpa using huv
          have t2 : (u == v) = false := by simpa using huv
          clear huv HT HU
          go_wp2
          go_quiet (fail)
          clear t1 t2
          go_wp2
          go_ret
          exact ⟨ret_bool HD.out.symm, below_drewN hbr _⟩
      · have hEq : (xs == ys) = true := by
          rw [beq_iff_eq]
          have := HE.out
          rwa [List.take_of_length_le (by rw [HN.out]; omega), List.take_of_length_le (by rw [HM.out]; omega)] at this
        have HD := Lib.hid hEq
        clear hEq
        go_wp2
        go_ret
        exact ⟨ret_bool HD.out.symm, hbr⟩
  · have HD := Lib.hid (Circ.beq_len hne)
    have h1 : ((xs.length : Int) != (ys.length : Int)) = true := by simpa using fun h => hne (by omega)
    go_enter Try.func100, Try.ntmps100
    go_wp2
    go_ret
    exact ⟨ret_bool HD.out.symm, Below.refl _ _⟩

set_option maxHeartbeats 400000 in
theorem l4Same_any (A A' : Option Addr) (cap cap' : Nat) (xs ys : List Bool) (w : World) (hx : BoolsAt w w.heap.size A xs) (hy : BoolsAt w w.heap.size A' ys) (hl : xs.length ≤ 2000000) (_hl' : ys.length ≤ 2000000) :
    Calls Try.prog 68 #[.slice A xs.length cap, .slice A' ys.length cap'] w fun e w' => e = .returned (.bool (xs == ys)) ∧ Below w.heap.size w w' := by
  have HX := Lib.hid hx
  have HY := Lib.hid hy
  clear hx hy
  by_cases hne : xs.length = ys.length
  · generalize hn : xs.length = n at *
    have HN := Lib.hid hn
    have HM := Lib.hid hne.symm
    rw [← hne]
    clear hn hne _hl'
    go_enter Try.func68, Try.ntmps68
    go_wp2
    go_loopw [5] (fun iv wr => ∃ (k : Nat), k ≤ n ∧ iv = .int .i64 k ∧ Hid (xs.take k = ys.take k) ∧ Below w.heap.size w wr) (fun iv _ => n - (intOf iv).toNat)
    case atStart => exact ⟨0, Nat.zero_le _, rfl, Lib.hid (by simp), Below.refl _ _⟩
    case round =>
      obtain ⟨k, hk, rfl, HE, hbr⟩ := hrel
      by_cases hlt : k < n
      · obtain ⟨b, off, rfl, hbl, hcA⟩ := HX.out k (by rw [HN.out]; exact hlt)
        obtain ⟨b', off', rfl, hbl', hcB⟩ := HY.out k (by rw [HM.out]; exact hlt)
        rw [← hbr.cell (by exact hbl)] at hcA
        rw [← hbr.cell (by exact hbl')] at hcB
        have HT := Lib.hid (fun h => Circ.take_same (xs := xs) (ys := ys) (k := k) (by rw [HN.out]; exact hlt) (by rw [HM.out]; exact hlt) HE.out h)
        have HU := Lib.hid (fun h => Circ.beq_ne (xs := xs) (ys := ys) (k := k) h)
        generalize xs.getD k false = u at *
        generalize ys.getD k false = v at *
        have hk0 : (0 : Int) ≤ (k : Int) := Int.natCast_nonneg _
        have hk1 : (k : Int) < (n : Int) := by omega
        by_cases huv : u = v
        · subst huv
          have HT2 := Lib.hid (HT.out rfl)
          clear HT HU
          go_wp2
          go_quiet (fail)
          go_wp2
          go_roundw
          case rel => exact ⟨k + 1, by omega, by go_num, HT2, below_drewN hbr _⟩
          case measure => simp [intOf]; omega
        · have HD := Lib.hid (HU.out huv)
          have t1 : (u != v) = true := by simpa using huv
          have t2 : (u == v) = false := by simpa using huv
          clear huv HT HU
          go_wp2
          go_quiet (fail)
          clear t1 t2
          go_wp2
          go_ret
          exact ⟨ret_bool HD.out.symm, below_drewN hbr _⟩
      · have hEq : (xs == ys) = true := by
          rw [beq_iff_eq]
          have := HE.out
          rwa [List.take_of_length_le (by rw [HN.out]; omega), List.take_of_length_le (by rw [HM.out]; omega)] at this
        have HD := Lib.hid hEq
        clear hEq
        go_wp2
        go_ret
        exact ⟨ret_bool HD.out.symm, hbr⟩
  · have HD := Lib.hid (Circ.beq_len hne)
    have h1 : ((xs.length : Int) != (ys.length : Int)) = true := by simpa using fun h => hne (by omega)
    go_enter Try.func68, Try.ntmps68
    go_wp2
    go_ret
    exact ⟨ret_bool HD.out.symm, Below.refl _ _⟩

set_option maxHeartbeats 400000 in
theorem sameBools_any (A A' : Option Addr) (cap cap' : Nat) (xs ys : List Bool) (w : World) (hx : BoolsAt w w.heap.size A xs) (hy : BoolsAt w w.heap.size A' ys) (hl : xs.length ≤ 2000000) (_hl' : ys.length ≤ 2000000) :
    Calls Try.prog 22 #[.slice A xs.length cap, .slice A' ys.length cap'] w fun e w' => e = .returned (.bool (xs == ys)) ∧ Below w.heap.size w w' := by
  have HX := Lib.hid hx
  have HY := Lib.hid hy
  clear hx hy
  by_cases hne : xs.length = ys.length
  · generalize hn : xs.length = n at *
    have HN := Lib.hid hn
    have HM := Lib.hid hne.symm
    rw [← hne]
    clear hn hne _hl'
    go_enter Try.func22, Try.ntmps22
    go_wp2
    go_loopw [5] (fun iv wr => ∃ (k : Nat), k ≤ n ∧ iv = .int .i64 k ∧ Hid (xs.take k = ys.take k) ∧ Below w.heap.size w wr) (fun iv _ => n - (intOf iv).toNat)
    case atStart => exact ⟨0, Nat.zero_le _, rfl, Lib.hid (by simp), Below.refl _ _⟩
    case round =>
      obtain ⟨k, hk, rfl, HE, hbr⟩ := hrel
      by_cases hlt : k < n
      · obtain ⟨b, off, rfl, hbl, hcA⟩ := HX.out k (by rw [HN.out]; exact hlt)
        obtain ⟨b', off', rfl, hbl', hcB⟩ := HY.out k (by rw [HM.out]; exact hlt)
        rw [← hbr.cell (by exact hbl)] at hcA
        rw [← hbr.cell (by exact hbl')] at hcB
        have HT := Lib.hid (fun h => Circ.take_same (xs := xs) (ys := ys) (k := k) (by rw [HN.out]; exact hlt) (by rw [HM.out]; exact hlt) HE.out h)
        have HU := Lib.hid (fun h => Circ.beq_ne (xs := xs) (ys := ys) (k := k) h)
        generalize xs.getD k false = u at *
        generalize ys.getD k false = v at *
        have hk0 : (0 : Int) ≤ (k : Int) := Int.natCast_nonneg _
        have hk1 : (k : Int) < (n : Int) := by omega
        by_cases huv : u = v
        · subst huv
          have HT2 := Lib.hid (HT.out rfl)
          clear HT HU
          go_wp2
          go_quiet (fail)
          go_wp2
          go_roundw
          case rel => exact ⟨k + 1, by omega, by go_num, HT2, below_drewN hbr _⟩
          case measure => simp [intOf]; omega
        · have HD := Lib.hid (HU.out huv)
          have t1 : (u != v) = true := by simpa using huv
          have t2 : (u == v) = false := by simpa using huv
          clear huv HT HU
          go_wp2
          go_quiet (fail)
          clear t1 t2
          go_wp2
          go_ret
          exact ⟨ret_bool HD.out.symm, below_drewN hbr _⟩
      · have hEq : (xs == ys) = true := by
          rw [beq_iff_eq]
          have := HE.out
          rwa [List.take_of_length_le (by rw [HN.out]; omega), List.take_of_length_le (by rw [HM.out]; omega)] at this
        have HD := Lib.hid hEq
        clear hEq
        go_wp2
        go_ret
        exact ⟨ret_bool HD.out.symm, hbr⟩
  · have HD := Lib.hid (Circ.beq_len hne)
    have h1 : ((xs.length : Int) != (ys.length : Int)) = true := by simpa using fun h => hne (by omega)
    go_enter Try.func22, Try.ntmps22
    go_wp2
    go_ret
    exact ⟨ret_bool HD.out.symm, Below.refl _ _⟩

set_option maxHeartbeats 800000 in
theorem sameIf_any (i : Int) (nA gA oA : Option Addr) (nc gc oc : Nat) (ns : List Int) (gs : List (Int × Int)) (os : List Int) (i' : Int) (nA' gA' oA' : Option Addr) (nc' gc' oc' : Nat) (ns' : List Int) (gs' : List (Int × Int)) (os' : List Int) (w : World)
    (hc : CircAt w w.heap.size nA gA oA ns gs os) (hd : CircAt w w.heap.size nA' gA' oA' ns' gs' os') :
    Calls Try.prog 19 #[.agg #[.int .i64 i, .slice nA ns.length nc, .slice gA gs.length gc, .slice oA os.length oc], .agg #[.int .i64 i', .slice nA' ns'.length nc', .slice gA' gs'.length gc', .slice oA' os'.length oc']] w fun e w' => e = .returned (.bool (Circ.sameIf i ns gs os i' ns' gs' os')) ∧ Below w.heap.size w w' := by
  have HC := Lib.hid hc
  have HD := Lib.hid hd
  clear hc hd
  have hb0 : Below w.heap.size w ((w.alloc (.cells #[.int .i64 i, .slice nA ns.length nc, .slice gA gs.length gc, .slice oA os.length oc] 26)).alloc (.cells #[.int .i64 i', .slice nA' ns'.length nc', .slice gA' gs'.length gc', .slice oA' os'.length oc'] 26)) := ((Below.refl _ _).alloc (Nat.le_refl _) _).alloc (by simp) _
  have r1 : Row ((w.alloc (.cells #[.int .i64 i, .slice nA ns.length nc, .slice gA gs.length gc, .slice oA os.length oc] 26)).alloc (.cells #[.int .i64 i', .slice nA' ns'.length nc', .slice gA' gs'.length gc', .slice oA' os'.length oc'] 26)) w.heap.size 26 #[.int .i64 i, .slice nA ns.length nc, .slice gA gs.length gc, .slice oA os.length oc] := (Below.heap_alloc _ _ _ (by simp)).trans (heap_alloc_new w _)
  have r2 : Row ((w.alloc (.cells #[.int .i64 i, .slice nA ns.length nc, .slice gA gs.length gc, .slice oA os.length oc] 26)).alloc (.cells #[.int .i64 i', .slice nA' ns'.length nc', .slice gA' gs'.length gc', .slice oA' os'.length oc'] 26)) (w.heap.size + 1) 26 #[.int .i64 i', .slice nA' ns'.length nc', .slice gA' gs'.length gc', .slice oA' os'.length oc'] := by
    have := heap_alloc_new (w.alloc (.cells #[.int .i64 i, .slice nA ns.length nc, .slice gA gs.length gc, .slice oA os.length oc] 26)) (.cells #[.int .i64 i', .slice nA' ns'.length nc', .slice gA' gs'.length gc', .slice oA' os'.length oc'] 26)
    simpa [Row] using this
  have HL0 := Lib.hid hb0
  have HR0 := Lib.hid r1
  have HQ0 := Lib.hid r2
  clear hb0 r1 r2
  go_enter Try.func19, Try.ntmps19
  go_wp2_with fail
  refine (valid_any i nA gA oA nc gc oc ns gs os _ ((HC.out.below HL0.out).mono HL0.out.size)).mono ?_
  rintro e w1 ⟨rfl, hb1⟩
  have HL1 := Lib.hid (HL0.out.trans (hb1.mono HL0.out.size))
  have HR1 := Lib.hid (HR0.out.below hb1 HR0.out.lt)
  have HQ1 := Lib.hid (HQ0.out.below hb1 HQ0.out.lt)
  clear hb1 HL0 HR0 HQ0
  cases h1 : Circ.validB i ns gs os
  · have HS : Hid (Circ.sameIf i ns gs os i' ns' gs' os' = false) := Lib.hid (by unfold Circ.sameIf; rw [h1]; rfl)
    clear h1
    go_wp2
    go_ret
    exact ⟨ret_bool HS.out.symm, HL1.out⟩
  · have H1 := Lib.hid h1
    clear h1
    have q0 := HQ1.out.cell 0
    have q1 := HQ1.out.cell 1
    have q2 := HQ1.out.cell 2
    have q3 := HQ1.out.cell 3
    simp at q0 q1 q2 q3
    go_wp2_with fail
    refine (valid_any i' nA' gA' oA' nc' gc' oc' ns' gs' os' _ ((HD.out.below HL1.out).mono HL1.out.size)).mono ?_
    rintro e w2 ⟨rfl, hb2⟩
    have HL2 := Lib.hid (HL1.out.trans (hb2.mono HL1.out.size))
    have HR2 := Lib.hid (HR1.out.below hb2 HR1.out.lt)
    have HQ2 := Lib.hid (HQ1.out.below hb2 HQ1.out.lt)
    clear hb2 HL1 HR1 HQ1 q0 q1 q2 q3
    cases h2 : Circ.validB i' ns' gs' os'
    · have HS : Hid (Circ.sameIf i ns gs os i' ns' gs' os' = false) := Lib.hid (by unfold Circ.sameIf; rw [H1.out, h2]; rfl)
      clear h2
      go_wp2
      go_ret
      exact ⟨ret_bool HS.out.symm, HL2.out⟩
    · have H2 := Lib.hid h2
      clear h2
      have q0 := HQ2.out.cell 0
      have q1 := HQ2.out.cell 1
      have q3 := HQ2.out.cell 3
      have p0 := HR2.out.cell 0
      have p1 := HR2.out.cell 1
      have p3 := HR2.out.cell 3
      simp at q0 q1 q3 p0 p1 p3
      by_cases hi : i = i'
      · have HI := Lib.hid hi
        have t0 : (i == i') = true := by simpa using hi
        clear hi
        by_cases hn : ns.length = ns'.length
        · have HN := Lib.hid hn
          have t1 : ((ns.length : Int) == (ns'.length : Int)) = true := by rw [hn]; simp
          clear hn
          by_cases ho : os.length = os'.length
          · have HS := Lib.hid (Circ.sameIf_mk H1.out H2.out HI.out HN.out ho)
            have t2 : ((os.length : Int) == (os'.length : Int)) = true := by rw [ho]; simp
            clear ho
            go_wp2
            go_ret
            exact ⟨ret_bool HS.out.symm, HL2.out⟩
          · have HS : Hid (Circ.sameIf i ns gs os i' ns' gs' os' = false) := Lib.hid (by
              cases hs : Circ.sameIf i ns gs os i' ns' gs' os'
              · rfl
              · exact absurd (Circ.sameIf_inv hs).2.2.2.2 ho)
            have t2 : ((os.length : Int) == (os'.length : Int)) = false := by simpa using fun h => ho (by omega)
            clear ho
            go_wp2
            go_ret
            exact ⟨ret_bool HS.out.symm, HL2.out⟩
        · have HS : Hid (Circ.sameIf i ns gs os i' ns' gs' os' = false) := Lib.hid (by
            cases hs : Circ.sameIf i ns gs os i' ns' gs' os'
            · rfl
            · exact absurd (Circ.sameIf_inv hs).2.2.2.1 hn)
          have t1 : ((ns.length : Int) == (ns'.length : Int)) = false := by simpa using fun h => hn (by omega)
          clear hn
          go_wp2
          go_ret
          exact ⟨ret_bool HS.out.symm, HL2.out⟩
      · have HS : Hid (Circ.sameIf i ns gs os i' ns' gs' os' = false) := Lib.hid (by
          cases hs : Circ.sameIf i ns gs os i' ns' gs' os'
          · rfl
          · exact absurd (Circ.sameIf_inv hs).2.2.1 hi)
        have t0 : (i == i') = false := by simpa using hi
        clear hi
        go_wp2
        go_ret
        exact ⟨ret_bool HS.out.symm, HL2.out⟩

set_option maxHeartbeats 800000 in
theorem ssameIf_any (i : Int) (nA gA oA : Option Addr) (nc gc oc : Nat) (ns : List Int) (gs : List (Int × Int)) (os : List Int) (i' : Int) (nA' gA' oA' : Option Addr) (nc' gc' oc' : Nat) (ns' : List Int) (gs' : List (Int × Int)) (os' : List Int) (w : World)
    (hc : CircAt w w.heap.size nA gA oA ns gs os) (hd : CircAt w w.heap.size nA' gA' oA' ns' gs' os') :
    Calls Try.prog 30 #[.agg #[.int .i64 i, .slice nA ns.length nc, .slice gA gs.length gc, .slice oA os.length oc], .agg #[.int .i64 i', .slice nA' ns'.length nc', .slice gA' gs'.length gc', .slice oA' os'.length oc']] w fun e w' => e = .returned (.bool (Circ.sameIf i ns gs os i' ns' gs' os')) ∧ Below w.heap.size w w' := by
  have HC := Lib.hid hc
  have HD := Lib.hid hd
  clear hc hd
  have hb0 : Below w.heap.size w ((w.alloc (.cells #[.int .i64 i, .slice nA ns.length nc, .slice gA gs.length gc, .slice oA os.length oc] 26)).alloc (.cells #[.int .i64 i', .slice nA' ns'.length nc', .slice gA' gs'.length gc', .slice oA' os'.length oc'] 26)) := ((Below.refl _ _).alloc (Nat.le_refl _) _).alloc (by simp) _
  have r1 : Row ((w.alloc (.cells #[.int .i64 i, .slice nA ns.length nc, .slice gA gs.length gc, .slice oA os.length oc] 26)).alloc (.cells #[.int .i64 i', .slice nA' ns'.length nc', .slice gA' gs'.length gc', .slice oA' os'.length oc'] 26)) w.heap.size 26 #[.int .i64 i, .slice nA ns.length nc, .slice gA gs.length gc, .slice oA os.length oc] := (Below.heap_alloc _ _ _ (by simp)).trans (heap_alloc_new w _)
  have r2 : Row ((w.alloc (.cells #[.int .i64 i, .slice nA ns.length nc, .slice gA gs.length gc, .slice oA os.length oc] 26)).alloc (.cells #[.int .i64 i', .slice nA' ns'.length nc', .slice gA' gs'.length gc', .slice oA' os'.length oc'] 26)) (w.heap.size + 1) 26 #[.int .i64 i', .slice nA' ns'.length nc', .slice gA' gs'.length gc', .slice oA' os'.length oc'] := by
    have := heap_alloc_new (w.alloc (.cells #[.int .i64 i, .slice nA ns.length nc, .slice gA gs.length gc, .slice oA os.length oc] 26)) (.cells #[.int .i64 i', .slice nA' ns'.length nc', .slice gA' gs'.length gc', .slice oA' os'.length oc'] 26)
    simpa [Row] using this
  have HL0 := Lib.hid hb0
  have HR0 := Lib.hid r1
  have HQ0 := Lib.hid r2
  clear hb0 r1 r2
  go_enter Try.func30, Try.ntmps30
  go_wp2_with fail
  refine (svalid_any i nA gA oA nc gc oc ns gs os _ ((HC.out.below HL0.out).mono HL0.out.size)).mono ?_
  rintro e w1 ⟨rfl, hb1⟩
  have HL1 := Lib.hid (HL0.out.trans (hb1.mono HL0.out.size))
  have HR1 := Lib.hid (HR0.out.below hb1 HR0.out.lt)
  have HQ1 := Lib.hid (HQ0.out.below hb1 HQ0.out.lt)
  clear hb1 HL0 HR0 HQ0
  cases h1 : Circ.validB i ns gs os
  · have HS : Hid (Circ.sameIf i ns gs os i' ns' gs' os' = false) := Lib.hid (by unfold Circ.sameIf; rw [h1]; rfl)
    clear h1
    go_wp2
    go_ret
    exact ⟨ret_bool HS.out.symm, HL1.out⟩
  · have H1 := Lib.hid h1
    clear h1
    have q0 := HQ1.out.cell 0
    have q1 := HQ1.out.cell 1
    have q2 := HQ1.out.cell 2
    have q3 := HQ1.out.cell 3
    simp at q0 q1 q2 q3
    go_wp2_with fail
    refine (svalid_any i' nA' gA' oA' nc' gc' oc' ns' gs' os' _ ((HD.out.below HL1.out).mono HL1.out.size)).mono ?_
    rintro e w2 ⟨rfl, hb2⟩
    have HL2 := Lib.hid (HL1.out.trans (hb2.mono HL1.out.size))
    have HR2 := Lib.hid (HR1.out.below hb2 HR1.out.lt)
    have HQ2 := Lib.hid (HQ1.out.below hb2 HQ1.out.lt)
    clear hb2 HL1 HR1 HQ1 q0 q1 q2 q3
    cases h2 : Circ.validB i' ns' gs' os'
    · have HS : Hid (Circ.sameIf i ns gs os i' ns' gs' os' = false) := Lib.hid (by unfold Circ.sameIf; rw [H1.out, h2]; rfl)
      clear h2
      go_wp2
      go_ret
      exact ⟨ret_bool HS.out.symm, HL2.out⟩
    · have H2 := Lib.hid h2
      clear h2
      have q0 := HQ2.out.cell 0
      have q1 := HQ2.out.cell 1
      have q3 := HQ2.out.cell 3
      have p0 := HR2.out.cell 0
      have p1 := HR2.out.cell 1
      have p3 := HR2.out.cell 3
      simp at q0 q1 q3 p0 p1 p3
      by_cases hi : i = i'
      · have HI := Lib.hid hi
        have t0 : (i == i') = true := by simpa using hi
        clear hi
        by_cases hn : ns.length = ns'.length
        · have HN := Lib.hid hn
          have t1 : ((ns.length : Int) == (ns'.length : Int)) = true := by rw [hn]; simp
          clear hn
          by_cases ho : os.length = os'.length
          · have HS := Lib.hid (Circ.sameIf_mk H1.out H2.out HI.out HN.out ho)
            have t2 : ((os.length : Int) == (os'.length : Int)) = true := by rw [ho]; simp
            clear ho
            go_wp2
            go_ret
            exact ⟨ret_bool HS.out.symm, HL2.out⟩
          · have HS : Hid (Circ.sameIf i ns gs os i' ns' gs' os' = false) := Lib.hid (by
              cases hs : Circ.sameIf i ns gs os i' ns' gs' os'
              · rfl
              · exact absurd (Circ.sameIf_inv hs).2.2.2.2 ho)
            have t2 : ((os.length : Int) == (os'.length : Int)) = false := by simpa using fun h => ho (by omega)
            clear ho
            go_wp2
            go_ret
            exact ⟨ret_bool HS.out.symm, HL2.out⟩
        · have HS : Hid (Circ.sameIf i ns gs os i' ns' gs' os' = false) := Lib.hid (by
            cases hs : Circ.sameIf i ns gs os i' ns' gs' os'
            · rfl
            · exact absurd (Circ.sameIf_inv hs).2.2.2.1 hn)
          have t1 : ((ns.length : Int) == (ns'.length : Int)) = false := by simpa using fun h => hn (by omega)
          clear hn
          go_wp2
          go_ret
          exact ⟨ret_bool HS.out.symm, HL2.out⟩
      · have HS : Hid (Circ.sameIf i ns gs os i' ns' gs' os' = false) := Lib.hid (by
          cases hs : Circ.sameIf i ns gs os i' ns' gs' os'
          · rfl
          · exact absurd (Circ.sameIf_inv hs).2.2.1 hi)
        have t0 : (i == i') = false := by simpa using hi
        clear hi
        go_wp2
        go_ret
        exact ⟨ret_bool HS.out.symm, HL2.out⟩
end Go.Proofs.Ythpiddpkcmecfaa
