/- The contracts of the program's literals and renamings. -/
import Derived.Test.YthpiddpkcmecfaaB1a
import Derived.Test.YthpiddpkcmecfaaQA
namespace Go.Proofs.Ythpiddpkcmecfaa
open Go.RowKit Go.Deep

theorem nat_xor_one (n : Nat) : n ^^^ 1 = Opt.neg1 n := by
  apply Nat.eq_of_testBit_eq
  intro i
  unfold Opt.neg1
  rw [Nat.testBit_xor]
  cases i with
  | zero =>
    simp only [Nat.testBit_zero]
    split <;> (rcases Nat.mod_two_eq_zero_or_one n with e | e <;> simp_all <;> omega)
  | succ i =>
    rw [Nat.testBit_succ, Nat.testBit_succ, Nat.testBit_succ]
    have : (if n % 2 = 0 then n + 1 else n - 1) / 2 = n / 2 := by split <;> omega
    rw [this]
    simp
theorem i64_xor_nat (n p : Nat) (hn : n < 9223372036854775808) (hp : p < 2) : bits .xor .i64 (n : Int) (p : Int) = ((Opt.xl n p : Nat) : Int) := by
  have h1 : (BitVec.ofInt 64 (n : Int)).toNat = n := by
    rw [BitVec.ofInt_natCast, BitVec.toNat_ofNat]; exact Nat.mod_eq_of_lt (by omega)
  have h2 : (BitVec.ofInt 64 (p : Int)).toNat = p := by
    rw [BitVec.ofInt_natCast, BitVec.toNat_ofNat]; exact Nat.mod_eq_of_lt (by omega)
  show IntKind.i64.wrap ((BitVec.ofInt 64 (n : Int) ^^^ BitVec.ofInt 64 (p : Int)).toNat : Int) = _
  rw [BitVec.toNat_xor, h1, h2, IntKind.wrap_i64]
  have e : n ^^^ p = Opt.xl n p := by
    unfold Opt.xl
    split
    · next h => rw [h]; simp
    · have : p = 1 := by omega
      rw [this, nat_xor_one]
  have hb : Opt.xl n p < 9223372036854775808 := by unfold Opt.xl Opt.neg1; split <;> (try split) <;> omega
  rw [e]
  omega
theorem i64_xor_one (n : Nat) (hn : n < 9223372036854775808) : bits .xor .i64 (n : Int) 1 = ((Opt.neg1 n : Nat) : Int) := by
  have := i64_xor_nat n 1 hn (by omega)
  simpa [Opt.xl] using this

set_option maxHeartbeats 400000 in
theorem compl_any (n : Nat) (w : World) (hn : n < 9223372036854775808) :
    Calls Try.prog 108 #[.int .i64 n] w fun e w' => e = .returned (.int .i64 (Opt.neg1 n : Nat)) ∧ w = w' := by
  have H := Lib.hid (i64_xor_one n hn)
  go_enter Try.func108, Try.ntmps108
  go_wp2
  go_ret
  exact ⟨ret_int H.out, rfl⟩

set_option maxHeartbeats 400000 in
theorem of_any (A : Option Addr) (n cap l B : Nat) (m : List Nat) (w : World) (hm : IntsAt w B A (Opt.intL m)) (hn : m.length = n) (hl : l / 2 < n) (hb : l < 1000000) (hx : m.getD (l / 2) 0 < 1000000) :
    Calls Try.prog 89 #[.slice A n cap, .int .i64 l] w fun e w' => e = .returned (.int .i64 (Opt.mapL m l : Nat)) ∧ w = w' := by
  obtain ⟨b, off, rfl, _, hc⟩ := hm (l / 2) (by rw [Opt.intL_len, hn]; exact hl)
  rw [Opt.intL_at] at hc
  have HM : Hid (Opt.mapL m l = Opt.xl (m.getD (l / 2) 0) (l % 2)) := Lib.hid rfl
  have hq : (l : Int) / 2 = ((l / 2 : Nat) : Int) := by omega
  have ho := i64_odd l (by omega)
  clear hm hn
  generalize m.getD (l / 2) 0 = x at *
  generalize l / 2 = q at *
  rcases Nat.mod_two_eq_zero_or_one l with e | e
  · rw [e] at ho HM
    clear e
    go_enter Try.func89, Try.ntmps89
    go_wp2_with (go_at_call 97; refine (var_any _ _).mono ?_; rintro e w' ⟨rfl, rfl⟩; rw [hq])
    go_ret
    exact ⟨ret_int (by rw [HM.out]; simp [Opt.xl]), rfl⟩
  · rw [e] at ho HM
    clear e
    go_enter Try.func89, Try.ntmps89
    go_wp2_with (first
      | (go_at_call 97; refine (var_any _ _).mono ?_; rintro e w' ⟨rfl, rfl⟩; rw [hq])
      | (go_at_call 108; refine (compl_any x _ (by omega)).mono ?_; rintro e w' ⟨rfl, rfl⟩))
    go_ret
    exact ⟨ret_int (by rw [HM.out]; simp [Opt.xl]), rfl⟩

/-- The literals' bound. -/
def LitB (m : List Nat) : Prop := ∀ v, m.getD v 0 < 1000000

theorem mapL_get (m xs : List Nat) (k : Nat) (hk : k < xs.length) : (xs.map (Opt.mapL m)).getD k 0 = Opt.mapL m (xs.getD k 0) := by
  simp [List.getD_eq_getElem?_getD, hk]

set_option maxHeartbeats 400000 in
theorem ofAll_any (A R : Option Addr) (n cap j c _B : Nat) (m xs : List Nat) (w : World) (hm : IntsAt w w.heap.size R (Opt.intL m)) (hn : m.length = n) (hB : LitB m) (hx : IntsAt w w.heap.size A (Opt.intL xs)) (hj : xs.length = j)
    (hl : ∀ k, k < j → xs.getD k 0 / 2 < n ∧ xs.getD k 0 < 1000000) (hjb : j ≤ 1000) :
    Calls Try.prog 90 #[.slice R n cap, .slice A j c] w fun e w' => e = .returned (.slice (some ⟨w.heap.size, 0, none⟩) j j) ∧ Below w.heap.size w w' ∧ IRow w' w.heap.size (Opt.intL (xs.map (Opt.mapL m))) := by
  have HM := Lib.hid hm
  have HX := Lib.hid hx
  have HN := Lib.hid hn
  have HJ := Lib.hid hj
  have HL := Lib.hid hl
  have HBd := Lib.hid hB
  clear hm hx hn hj hl hB
  have hmk := fun W => run_make_row' (P := Try.prog) 23 3 (.int .i64 0) 8 Try.underlying23 Try.info3 rfl .i64 .i64 j (by omega) (by omega) W
  go_enter Try.func90, Try.ntmps90
  go_wp2
  clear hmk
  go_loopw [13] (fun iv wr => ∃ (k : Nat) (cs : Array Value), k ≤ j ∧ iv = .int .i64 k ∧ Hid (Row wr w.heap.size 3 cs) ∧ Hid (FilledI cs (Opt.intL (xs.map (Opt.mapL m))) k) ∧ Below w.heap.size w wr) (fun iv _ => j - (intOf iv).toNat)
  case atStart => exact ⟨0, _, Nat.zero_le _, rfl, Lib.hid (heap_alloc_new w _), Lib.hid (FilledI.start (by rw [size_madeCells, Opt.intL_len, List.length_map, HJ.out])), (Below.refl _ _).alloc (Nat.le_refl _) _⟩
  case round =>
    obtain ⟨k, cs, hk, rfl, HRow, HF, hbr⟩ := hrel
    by_cases hlt : k < j
    · obtain ⟨b, off, rfl, hbl, hcell⟩ := HX.out k (by rw [Opt.intL_len, HJ.out]; exact hlt)
      rw [← hbr.cell (by exact hbl), Opt.intL_at] at hcell
      have HM2 := Lib.hid (HM.out.below hbr)
      have HF2 := Lib.hid (HF.out.step (by rw [Opt.intL_len, List.length_map, HJ.out]; exact hlt))
      have hsz : k < cs.size := by rw [HF.out.1, Opt.intL_len, List.length_map, HJ.out]; exact hlt
      have hc0 : wr.cell? ⟨w.heap.size, k, none⟩ = some cs[k] := by rw [HRow.out.cell, Array.getElem?_eq_getElem hsz]
      have hf0 := HRow.out.frozen k
      have ev : (Opt.intL (xs.map (Opt.mapL m))).getD k 0 = ((Opt.mapL m (xs.getD k 0) : Nat) : Int) := by rw [Opt.intL_at, mapL_get _ _ _ (by rw [HJ.out]; exact hlt)]
      rw [ev] at HF2
      obtain ⟨hl1, hl2⟩ := HL.out k hlt
      have HB := Lib.hid (hbr.setCell (p := ⟨w.heap.size, k, none⟩) (Nat.le_refl _) (.int .i64 (Opt.mapL m (xs.getD k 0) : Nat)))
      have HR2 := Lib.hid (HRow.out.set k (.int .i64 (Opt.mapL m (xs.getD k 0) : Nat)))
      have hbx := HBd.out (xs.getD k 0 / 2)
      clear ev
      generalize xs.getD k 0 = v at *
      generalize cs[k] = old at *
      go_wp2_with fail
      refine (of_any R n cap v _ m _ HM2.out HN.out hl1 hl2 hbx).mono ?_
      rintro e w' ⟨rfl, rfl⟩
      go_wp2
      go_roundw
      case rel => exact ⟨k + 1, _, by omega, by go_num, HR2, HF2, HB.out⟩
      case measure => simp [intOf]; omega
    · obtain rfl : k = j := by omega
      go_wp2
      go_ret
      exact ⟨rfl, hbr, _, HRow.out, by rw [Opt.intL_len, List.length_map, HJ.out]; exact HF.out⟩
end Go.Proofs.Ythpiddpkcmecfaa
/- The contracts of the pair of operands, and of the variables that are reached. -/
namespace Go.Proofs.Ythpiddpkcmecfaa
open Go.RowKit Go.Deep

/-- What a gate with these operands is replaced by. -/
def simpl (a b : Nat) : Nat × Bool := if a = 0 ∨ a = Opt.neg1 b then (0, true) else if a = 1 ∨ a = b then (b, true) else (0, false)
def SimplOut (w : World) (a b : Nat) (e : Ending) (w' : World) : Prop := e = .returned (.tuple #[.int .i64 ((simpl a b).1 : Nat), .bool (simpl a b).2]) ∧ Below w.heap.size w w'

set_option maxHeartbeats 400000 in
theorem simplified_any (a b : Nat) (w : World) (ha : a < 1000000) (hb : b < 1000000) :
    Calls Try.prog 107 #[.agg #[.int .i64 a, .int .i64 b]] w (SimplOut w a b) := by
  have hnb : Opt.neg1 b < 2000000 := by unfold Opt.neg1; split <;> omega
  have HL : Hid (Below w.heap.size w (w.alloc (.cells #[.int .i64 a, .int .i64 b] 125))) := Lib.hid ((Below.refl _ _).alloc (Nat.le_refl _) _)
  by_cases h0 : a = 0
  · subst h0
    have HS : Hid (simpl 0 b = (0, true)) := Lib.hid (by simp [simpl])
    go_enter Try.func107, Try.ntmps107
    go_wp2
    go_quiet (fail)
    go_wp2
    go_ret2
    exact ⟨by rw [HS.out]; rfl, below_drewN HL.out _⟩
  · have q0 : ((a : Int) == 0) = false := by simp; omega
    by_cases h1 : a = Opt.neg1 b
    · have HS : Hid (simpl a b = (0, true)) := Lib.hid (by simp [simpl, h1])
      have HE := Lib.hid h1
      clear h1
      generalize hc : Opt.neg1 b = c at *
      have HC := Lib.hid hc
      clear hc
      have q1 : ((a : Int) == (c : Int)) = true := by rw [HE.out]; simp
      go_enter Try.func107, Try.ntmps107
      go_wp2
      go_quiet (fail)
      go_wp2_with (go_at_call 108; refine (compl_any b _ (by omega)).mono ?_; rintro e w' ⟨rfl, rfl⟩; rw [HC.out])
      go_ret2
      exact ⟨by rw [HS.out]; rfl, below_drewN HL.out _⟩
    · generalize hc : Opt.neg1 b = c at *
      have HC := Lib.hid hc
      have HNE := Lib.hid h1
      have q1 : ((a : Int) == (c : Int)) = false := by simp; omega
      by_cases h2 : a = 1
      · subst h2
        have HS : Hid (simpl 1 b = (b, true)) := Lib.hid (by simp [simpl, hc, h1])
        clear hc h1
        go_enter Try.func107, Try.ntmps107
        go_wp2
        go_quiet (fail)
        go_wp2_with (go_at_call 108; refine (compl_any b _ (by omega)).mono ?_; rintro e w' ⟨rfl, rfl⟩; rw [HC.out])
        go_ret2
        exact ⟨by rw [HS.out]; rfl, below_drewN HL.out _⟩
      · have q2 : ((a : Int) == 1) = false := by simp; omega
        by_cases h3 : a = b
        · subst h3
          have HS : Hid (simpl a a = (a, true)) := Lib.hid (by simp [simpl, hc, h1, h0])
          clear hc h1 h2 h0
          go_enter Try.func107, Try.ntmps107
          go_wp2
          go_quiet (fail)
          go_wp2_with (go_at_call 108; refine (compl_any a _ (by omega)).mono ?_; rintro e w' ⟨rfl, rfl⟩; rw [HC.out])
          go_ret2
          exact ⟨by rw [HS.out]; rfl, below_drewN HL.out _⟩
        · have q3 : ((a : Int) == (b : Int)) = false := by simp; omega
          have HS : Hid (simpl a b = (0, false)) := Lib.hid (by simp [simpl, hc, h1, h0, h2, h3])
          clear hc h1 h2 h0 h3
          go_enter Try.func107, Try.ntmps107
          go_wp2
          go_quiet (fail)
          go_wp2_with (go_at_call 108; refine (compl_any b _ (by omega)).mono ?_; rintro e w' ⟨rfl, rfl⟩; rw [HC.out])
          go_ret2
          exact ⟨by rw [HS.out]; rfl, below_drewN HL.out _⟩
end Go.Proofs.Ythpiddpkcmecfaa
