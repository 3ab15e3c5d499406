/- The contracts of the size and the comparison of circuits. -/
import Derived.Test.YtliedgaefgomjaaGreatW5
namespace Go.Proofs.YtliedgaefgomjaaGreat
open Go.RowKit Go.Deep

set_option maxHeartbeats 400000 in
theorem szIntS_ok (A : Option Addr) (n cap : Nat) (l : Int) (w : World) (h : (n : Int) ≤ l) (h1 : l ≤ 1048576) :
    Calls Tryz.prog 36 #[.slice A n cap, .int .i64 l] w fun e w' => e = .returned (.int .i64 (l - n)) ∧ w = w' := by
  go_enter Tryz.func36, Tryz.ntmps36
  go_wp2
  go_ret
  exact ⟨rfl, rfl⟩
set_option maxHeartbeats 400000 in
theorem szIntS_no (A : Option Addr) (n cap : Nat) (l : Int) (w : World) (h : l < (n : Int)) (h0 : 0 ≤ l) (h1 : l ≤ 1048576) (hn : n ≤ maxLen) :
    Calls Tryz.prog 36 #[.slice A n cap, .int .i64 l] w fun e w' => e = .returned (.int .i64 (-1)) ∧ w = w' := by
  unfold maxLen at hn
  go_enter Tryz.func36, Tryz.ntmps36
  go_wp2
  go_ret
  exact ⟨rfl, rfl⟩
set_option maxHeartbeats 400000 in
theorem szGateS_ok (A : Option Addr) (n cap : Nat) (l : Int) (w : World) (h : (n : Int) ≤ l) (h1 : l ≤ 1048576) :
    Calls Tryz.prog 37 #[.slice A n cap, .int .i64 l] w fun e w' => e = .returned (.int .i64 (l - n)) ∧ w = w' := by
  go_enter Tryz.func37, Tryz.ntmps37
  go_wp2
  go_ret
  exact ⟨rfl, rfl⟩
set_option maxHeartbeats 400000 in
theorem szGateS_no (A : Option Addr) (n cap : Nat) (l : Int) (w : World) (h : l < (n : Int)) (h0 : 0 ≤ l) (h1 : l ≤ 1048576) (hn : n ≤ maxLen) :
    Calls Tryz.prog 37 #[.slice A n cap, .int .i64 l] w fun e w' => e = .returned (.int .i64 (-1)) ∧ w = w' := by
  unfold maxLen at hn
  go_enter Tryz.func37, Tryz.ntmps37
  go_wp2
  go_ret
  exact ⟨rfl, rfl⟩

set_option maxHeartbeats 400000 in
theorem szCircuit_ok (i : Int) (nA gA oA : Option Addr) (nl nc gl gc ol oc : Nat) (l : Int) (w : World) (h : (nl : Int) + gl + ol ≤ l) (h1 : l ≤ 1048576) :
    Calls Tryz.prog 14 #[.agg #[.int .i64 i, .slice nA nl nc, .slice gA gl gc, .slice oA ol oc], .int .i64 l] w fun e w' => e = .returned (.int .i64 (l - nl - gl - ol)) ∧ Below w.heap.size w w' := by
  go_enter Tryz.func14, Tryz.ntmps14
  go_wp2_with (first
    | (go_at_call 36; refine (szIntS_ok _ _ _ _ _ ?_ ?_).mono ?_; (omega); (omega); rintro e w1 ⟨rfl, rfl⟩)
    | (go_at_call 37; refine (szGateS_ok _ _ _ _ _ ?_ ?_).mono ?_; (omega); (omega); rintro e w1 ⟨rfl, rfl⟩))
  go_ret
  exact ⟨rfl, (Below.refl _ _).alloc (Nat.le_refl _) _⟩
set_option maxHeartbeats 400000 in
theorem szCircuit_no (i : Int) (nA gA oA : Option Addr) (nl nc gl gc ol oc : Nat) (l : Int) (w : World) (h : l < (nl : Int) + gl + ol) (h0 : 0 ≤ l) (h1 : l ≤ 1048576) (a1 : nl ≤ maxLen) (a2 : gl ≤ maxLen) (a3 : ol ≤ maxLen) :
    Calls Tryz.prog 14 #[.agg #[.int .i64 i, .slice nA nl nc, .slice gA gl gc, .slice oA ol oc], .int .i64 l] w fun e w' => e = .returned (.int .i64 (-1)) ∧ Below w.heap.size w w' := by
  by_cases b1 : l < (nl : Int)
  · go_enter Tryz.func14, Tryz.ntmps14
    go_wp2_with (go_at_call 36; refine (szIntS_no _ _ _ _ _ ?_ ?_ ?_ a1).mono ?_; (omega); (omega); (omega); rintro e w1 ⟨rfl, rfl⟩)
    go_ret
    exact ⟨rfl, (Below.refl _ _).alloc (Nat.le_refl _) _⟩
  · by_cases b2 : l - nl < (gl : Int)
    · go_enter Tryz.func14, Tryz.ntmps14
      go_wp2_with (first
        | (go_at_call 36; refine (szIntS_ok _ _ _ _ _ ?_ ?_).mono ?_; (omega); (omega); rintro e w1 ⟨rfl, rfl⟩)
        | (go_at_call 37; refine (szGateS_no _ _ _ _ _ ?_ ?_ ?_ a2).mono ?_; (omega); (omega); (omega); rintro e w1 ⟨rfl, rfl⟩))
      go_ret
      exact ⟨rfl, (Below.refl _ _).alloc (Nat.le_refl _) _⟩
    · go_enter Tryz.func14, Tryz.ntmps14
      go_wp2_with fail
      refine (szIntS_ok _ _ _ _ _ ?_ ?_).mono ?_
      · omega
      · omega
      rintro e w1 ⟨rfl, rfl⟩
      go_wp2_with fail
      refine (szGateS_ok _ _ _ _ _ ?_ ?_).mono ?_
      · omega
      · omega
      rintro e w1 ⟨rfl, rfl⟩
      go_wp2_with fail
      refine (szIntS_no _ _ _ _ _ ?_ ?_ ?_ a3).mono ?_
      · omega
      · omega
      · omega
      rintro e w1 ⟨rfl, rfl⟩
      go_wp2
      go_ret
      exact ⟨rfl, (Below.refl _ _).alloc (Nat.le_refl _) _⟩

set_option maxHeartbeats 400000 in
theorem eqIntS_any (A A' : Option Addr) (cap cap' : Nat) (xs : List Int) (w : World) (hx : IntsAt w w.heap.size A xs) (hy : IntsAt w w.heap.size A' xs) (hl : xs.length ≤ 2000000) :
    Calls Tryz.prog 19 #[.slice A xs.length cap, .slice A' xs.length cap'] w fun e w' => e = .returned (.bool true) ∧ Below w.heap.size w w' := by
  have HX := Lib.hid hx
  have HY := Lib.hid hy
  clear hx hy
  generalize hn : xs.length = n at *
  have HN := Lib.hid hn
  clear hn
  go_enter Tryz.func19, Tryz.ntmps19
  go_wp2
  go_loopw [5] (fun iv wr => ∃ (k : Nat), k ≤ n ∧ iv = .int .i64 k ∧ Below w.heap.size w wr) (fun iv _ => n - (intOf iv).toNat)
  case atStart => exact ⟨0, Nat.zero_le _, rfl, Below.refl _ _⟩
  case round =>
    obtain ⟨k, hk, rfl, hbr⟩ := hrel
    by_cases hlt : k < n
    · obtain ⟨b, off, rfl, hbl, hcA⟩ := HX.out k (by rw [HN.out]; exact hlt)
      obtain ⟨b', off', rfl, hbl', hcB⟩ := HY.out k (by rw [HN.out]; exact hlt)
      rw [← hbr.cell (by exact hbl)] at hcA
      rw [← hbr.cell (by exact hbl')] at hcB
      generalize xs.getD k 0 = v at *
      have hk0 : (0 : Int) ≤ (k : Int) := Int.natCast_nonneg _
      have hk1 : (k : Int) < (n : Int) := by omega
      go_wp2
      go_quiet (fail)
      go_wp2
      go_roundw
      case rel => exact ⟨k + 1, by omega, by go_num, below_drewN hbr _⟩
      case measure => simp [intOf]; omega
    · go_wp2
      go_ret
      exact ⟨rfl, hbr⟩

set_option maxHeartbeats 400000 in
theorem eqGate_any (a b : Int) (w : World) :
    Calls Tryz.prog 69 #[.agg #[.int .i64 a, .int .i64 b], .agg #[.int .i64 a, .int .i64 b]] w fun e w' => e = .returned (.bool true) ∧ Below w.heap.size w w' := by
  go_enter Tryz.func69, Tryz.ntmps69
  go_wp2
  go_ret
  exact ⟨rfl, ((Below.refl _ _).alloc (Nat.le_refl _) _).alloc (by simp) _⟩

set_option maxHeartbeats 400000 in
theorem eqGateS_any (A A' : Option Addr) (cap cap' : Nat) (xs : List (Int × Int)) (w : World) (hx : GatesAt w w.heap.size A xs) (hy : GatesAt w w.heap.size A' xs) (hl : xs.length ≤ 2000000) :
    Calls Tryz.prog 40 #[.slice A xs.length cap, .slice A' xs.length cap'] w fun e w' => e = .returned (.bool true) ∧ Below w.heap.size w w' := by
  have HX := Lib.hid hx
  have HY := Lib.hid hy
  clear hx hy
  generalize hn : xs.length = n at *
  have HN := Lib.hid hn
  clear hn
  go_enter Tryz.func40, Tryz.ntmps40
  go_wp2
  go_loopw [5] (fun iv wr => ∃ (k : Nat), k ≤ n ∧ iv = .int .i64 k ∧ Below w.heap.size w wr) (fun iv _ => n - (intOf iv).toNat)
  case atStart => exact ⟨0, Nat.zero_le _, rfl, Below.refl _ _⟩
  case round =>
    obtain ⟨k, hk, rfl, hbr⟩ := hrel
    by_cases hlt : k < n
    · obtain ⟨b, off, rfl, hbl, hcA, hcA2⟩ := HX.out k (by rw [HN.out]; exact hlt)
      obtain ⟨b', off', rfl, hbl', hcB, hcB2⟩ := HY.out k (by rw [HN.out]; exact hlt)
      rw [← hbr.cell (by exact hbl)] at hcA hcA2
      rw [← hbr.cell (by exact hbl')] at hcB hcB2
      generalize (xs.getD k (0, 0)).1 = va at *
      generalize (xs.getD k (0, 0)).2 = vb at *
      have hk0 : (0 : Int) ≤ (k : Int) := Int.natCast_nonneg _
      have hk1 : (k : Int) < (n : Int) := by omega
      have hz := hbr.size
      go_wp2
      go_region_held3 (fun w' => w'.cell? ⟨b, off + k * 2, none⟩ = some (.int .i64 va) ∧ w'.cell? ⟨b, off + k * 2 + 1, none⟩ = some (.int .i64 vb) ∧ w'.cell? ⟨b', off' + k * 2, none⟩ = some (.int .i64 va) ∧ w'.cell? ⟨b', off' + k * 2 + 1, none⟩ = some (.int .i64 vb))
        (first | go_keep | (refine ⟨?_, ?_, ?_, ?_⟩ <;> (rw [hc3 _ _ (by simp; omega)]; simp [*])))
        (first | (go_at_call 69; refine (eqGate_any va vb _).mono ?_; rintro e w3 ⟨rfl, hb3⟩; obtain ⟨hc3, hf3⟩ := bcell hb3))
      go_wp2
      go_roundw
      case rel => exact ⟨k + 1, by omega, by go_num, hbr.drew.trans (hb3.mono hbr.size)⟩
      case measure => simp [intOf]; omega
    · go_wp2
      go_ret
      exact ⟨rfl, hbr⟩

set_option maxHeartbeats 400000 in
theorem eqCircuit_any (i : Int) (nA gA oA nA' gA' oA' : Option Addr) (nc gc oc nc' gc' oc' : Nat) (ns : List Int) (gs : List (Int × Int)) (os : List Int) (w : World) (hc : CircAt w w.heap.size nA gA oA ns gs os)
    (hd : CircAt w w.heap.size nA' gA' oA' ns gs os) (hnl : ns.length ≤ 2000000) (hgl : gs.length ≤ 2000000) (hol : os.length ≤ 2000000) :
    Calls Tryz.prog 18 #[.agg #[.int .i64 i, .slice nA ns.length nc, .slice gA gs.length gc, .slice oA os.length oc], .agg #[.int .i64 i, .slice nA' ns.length nc', .slice gA' gs.length gc', .slice oA' os.length oc']] w fun e w' => e = .returned (.bool true) ∧ Below w.heap.size w w' := by
  have HC := Lib.hid hc
  have HD := Lib.hid hd
  clear hc hd
  have hb0 : Below w.heap.size w ((w.alloc (.cells #[.int .i64 i, .slice nA ns.length nc, .slice gA gs.length gc, .slice oA os.length oc] 26)).alloc (.cells #[.int .i64 i, .slice nA' ns.length nc', .slice gA' gs.length gc', .slice oA' os.length oc'] 26)) :=
    ((Below.refl _ _).alloc (Nat.le_refl _) _).alloc (by simp) _
  have HL0 := Lib.hid hb0
  clear hb0
  go_enter Tryz.func18, Tryz.ntmps18
  go_wp2_with fail
  refine (eqIntS_any nA nA' nc nc' ns _ ((HC.out.next.below HL0.out).mono HL0.out.size) ((HD.out.next.below HL0.out).mono HL0.out.size) hnl).mono ?_
  rintro e w1 ⟨rfl, hb1⟩
  have HL1 := Lib.hid (HL0.out.trans (hb1.mono HL0.out.size))
  obtain ⟨hc1, hf1⟩ := bcell hb1
  go_wp2_with fail
  refine (eqGateS_any gA gA' gc gc' gs _ ((HC.out.gates.below HL1.out).mono HL1.out.size) ((HD.out.gates.below HL1.out).mono HL1.out.size) hgl).mono ?_
  rintro e w2 ⟨rfl, hb2⟩
  have HL2 := Lib.hid (HL1.out.trans (hb2.mono HL1.out.size))
  have hb12 := hb1.trans (hb2.mono hb1.size)
  clear hc1 hf1
  obtain ⟨hc2, hf2⟩ := bcell hb12
  clear hb12 hb1 hb2
  go_wp2_with fail
  refine (eqIntS_any oA oA' oc oc' os _ ((HC.out.outs.below HL2.out).mono HL2.out.size) ((HD.out.outs.below HL2.out).mono HL2.out.size) hol).mono ?_
  rintro e w3 ⟨rfl, hb3⟩
  go_wp2
  go_ret
  exact ⟨rfl, HL2.out.trans (hb3.mono HL2.out.size)⟩
end Go.Proofs.YtliedgaefgomjaaGreat
