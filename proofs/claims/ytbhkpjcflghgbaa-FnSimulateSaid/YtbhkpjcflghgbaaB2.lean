/- The contracts of the bit set. -/
import Derived.Test.YtbhkpjcflghgbaaB3
import Derived.Test.YtbhkpjcflghgbaaV
import Derived.Laws.BitsAllLaws
namespace Go.Proofs.Ytbhkpjcflghgbaa
open Go.RowKit Go.Deep

theorem word_bit (m v : Nat) (hm : m < 18446744073709551616) : (bits .and .u64 ((m : Int) / 2 ^ v) 1 == 1) = m.testBit v := by
  have h : (m : Int) / 2 ^ v = ((m / 2 ^ v : Nat) : Int) := by simp
  have hlt : m / 2 ^ v < 18446744073709551616 := Nat.lt_of_le_of_lt (Nat.div_le_self _ _) hm
  rw [h, show (1 : Int) = ((1 : Nat) : Int) from rfl, u64_and_nat _ 1 hlt (by omega), Nat.and_one_is_mod, Nat.testBit_eq_decide_div_mod_eq]
  rcases Nat.mod_two_eq_zero_or_one (m / 2 ^ v) with e | e <;> rw [e] <;> rfl
theorem word_or (m v : Nat) (hm : m < 18446744073709551616) (hv : v < 64) : bits .or .u64 (m : Int) (IntKind.u64.wrap (2 ^ v)) = ((m ||| 2 ^ v : Nat) : Int) := by
  have h2 : 2 ^ v < 2 ^ 64 := Nat.pow_lt_pow_right (by omega) hv
  have h3 : ((2 : Int) ^ v) = ((2 ^ v : Nat) : Int) := by simp
  have h4 : IntKind.u64.wrap ((2 : Int) ^ v) = ((2 ^ v : Nat) : Int) := by
    rw [h3]
    generalize (2 ^ v : Nat) = c at h2 ⊢
    simp only [IntKind.wrap, IntKind.bits, IntKind.signed]
    simp
    omega
  rw [h4, u64_or_nat m (2 ^ v) hm (by omega)]
theorem i64_odd (n : Nat) (hn : n < 9223372036854775808) : bits .and .i64 (n : Int) 1 = ((n % 2 : Nat) : Int) := by
  have h1 : (BitVec.ofInt 64 (n : Int)).toNat = n := by
    rw [BitVec.ofInt_natCast, BitVec.toNat_ofNat]; exact Nat.mod_eq_of_lt (by omega)
  show IntKind.i64.wrap ((BitVec.ofInt 64 (n : Int) &&& BitVec.ofInt 64 ((1 : Nat) : Int)).toNat : Int) = _
  have h2 : (BitVec.ofInt 64 ((1 : Nat) : Int)).toNat = 1 := by rfl
  rw [BitVec.toNat_and, h1, h2, Nat.and_one_is_mod, IntKind.wrap_i64]
  omega

set_option maxHeartbeats 400000 in
theorem has_any (g m v : Nat) (w : World) (hc : w.cell? ⟨g, 0, none⟩ = some (.int .u64 m)) (hv : v < 64) (hm : m < 18446744073709551616) :
    Calls Try.prog 46 #[.slice (some ⟨g, 0, none⟩) 1 1, .int .i64 v] w fun e w' => e = .returned (.bool (m.testBit v)) ∧ w = w' := by
  have d0 : (v : Int) / 64 = 0 := by omega
  have d1 : (v : Int) % 64 = v := by omega
  have d2 : v / 64 = 0 := by omega
  have HW := Lib.hid (word_bit m v hm)
  go_enter Try.func46, Try.ntmps46
  go_wp2
  go_ret
  exact ⟨ret_bool HW.out, rfl⟩

set_option maxHeartbeats 400000 in
theorem add_any (g m v : Nat) (t : TypeId) (w : World) (hR : Row w g t #[.int .u64 m]) (hv : v < 64) (hm : m < 18446744073709551616) :
    Calls Try.prog 70 #[.slice (some ⟨g, 0, none⟩) 1 1, .int .i64 v] w fun e w' => e = .returned (.tuple #[]) ∧ w' = w.setCell ⟨g, 0, none⟩ (.int .u64 (m ||| 2 ^ v : Nat)) := by
  have q0 := hR.cell 0
  have f0 := hR.frozen 0
  simp at q0
  have d0 : (v : Int) / 64 = 0 := by omega
  have d1 : (v : Int) % 64 = v := by omega
  have d2 : v / 64 = 0 := by omega
  have HW := Lib.hid (word_or m v hm hv)
  clear hR
  go_enter Try.func70, Try.ntmps70
  go_wp2
  go_end0
  exact ⟨rfl, by rw [HW.out]⟩

theorem litV_nat (L : List Bool) (n : Nat) : Circ.litV L (n : Int) = (L.getD (n / 2) false != ((n % 2 : Nat) == 1)) := by
  unfold Circ.litV
  have h1 : ((n : Int) / 2).toNat = n / 2 := by omega
  rw [h1]
  congr 1
  rcases Nat.mod_two_eq_zero_or_one n with e | e
  · rw [e, show (n : Int) % 2 = 0 by omega]; rfl
  · rw [e, show (n : Int) % 2 = 1 by omega]; rfl

set_option maxHeartbeats 400000 in
theorem holds_any (g m n : Nat) (L : List Bool) (w : World) (hc : w.cell? ⟨g, 0, none⟩ = some (.int .u64 m)) (hB : Circ.Bits m L) (hn : n < 128) :
    Calls Try.prog 69 #[.slice (some ⟨g, 0, none⟩) 1 1, .int .i64 n] w fun e w' => e = .returned (.bool (Circ.litV L n)) ∧ w = w' := by
  have HM := Lib.hid hB.1
  have HW := Lib.hid (hB.2 (n / 2))
  have HL := Lib.hid (litV_nat L n)
  clear hB
  have hq : (n : Int) / 2 = ((n / 2 : Nat) : Int) := by omega
  have hq64 : n / 2 < 64 := by omega
  have ho := i64_odd n (by omega)
  generalize n / 2 = q at *
  rcases Nat.mod_two_eq_zero_or_one n with e | e
  all_goals
    rw [e] at ho HL
    clear e
    go_enter Try.func69, Try.ntmps69
    go_wp2_with (first
      | (go_at_call 79; refine (var_any _ _).mono ?_; rintro e w' ⟨rfl, rfl⟩; rw [hq])
      | (go_at_call 46; refine (has_any g m q _ hc hq64 HM.out).mono ?_; rintro e w' ⟨rfl, rfl⟩))
    go_ret
    exact ⟨ret_bool (by rw [HL.out, HW.out]; cases L.getD q false <;> rfl), rfl⟩

theorem made_one (x : Value) : madeCells #[x] 1 = #[x] := by
  rw [← Array.toList_inj, toList_madeCells_one]
  rfl

theorem Try.infoU : (Try.prog.info? 90).map (fun i => (i.zero, i.size, i.bytes)) = some (some (.int .u64 0), 1, 8) := by kernel_rfl

set_option maxHeartbeats 400000 in
theorem newBitSet_any (n : Nat) (w : World) (h0 : 1 ≤ n) (h1 : n ≤ 64) :
    Calls Try.prog 67 #[.int .i64 n] w fun e w' => e = .returned (.slice (some ⟨w.heap.size, 0, none⟩) 1 1) ∧ Row w' w.heap.size 90 #[.int .u64 0] ∧ Below w.heap.size w w' := by
  have hd : ((n : Int) + 64 - 1) / 64 = 1 := by omega
  have hmk := fun W => run_make_row' (P := Try.prog) 68 90 (.int .u64 0) 8 Try.underlying68 Try.infoU rfl .i64 .i64 1 (by omega) (by omega) W
  simp at hmk
  go_enter Try.func67, Try.ntmps67
  go_wp2
  go_ret
  exact ⟨rfl, (by show (w.alloc _).heap[w.heap.size]? = _; rw [heap_alloc_new, made_one]), (Below.refl _ _).alloc (Nat.le_refl _) _⟩

set_option maxHeartbeats 400000 in
theorem addTrue_any (g m f : Nat) (A : Option Addr) (cap : Nat) (L xs : List Bool) (w : World) (hR : Row w g 90 #[.int .u64 m]) (hB : Circ.Bits m L) (hf : L.length = f) (hx : BoolsAt w g A xs) (hl : f + xs.length ≤ 64) :
    Calls Try.prog 68 #[.slice (some ⟨g, 0, none⟩) 1 1, .int .i64 f, .slice A xs.length cap] w fun e w' => ∃ m' : Nat, e = .returned (.tuple #[]) ∧ Row w' g 90 #[.int .u64 m'] ∧ Circ.Bits m' (L ++ xs) ∧ Only (some g) w w' := by
  have HR0 := Lib.hid hR
  have HB0 := Lib.hid hB
  have HF := Lib.hid hf
  have HX := Lib.hid hx
  clear hR hB hf hx
  generalize hn : xs.length = n at *
  have HN := Lib.hid hn
  clear hn
  go_enter Try.func68, Try.ntmps68
  go_wp2
  go_loopw [10] (fun iv wr => ∃ (k m : Nat), k ≤ n ∧ iv = .int .i64 k ∧ Hid (Row wr g 90 #[.int .u64 m]) ∧ Hid (Circ.Bits m (L ++ xs.take k)) ∧ Hid (Only (some g) w wr)) (fun iv _ => n - (intOf iv).toNat)
  case atStart => exact ⟨0, m, Nat.zero_le _, rfl, HR0, Lib.hid (by simpa using HB0.out), Lib.hid (Only.refl _ _)⟩
  case round =>
    clear HR0 HB0 m
    obtain ⟨k, m, hk, rfl, HRow, HB, HO⟩ := hrel
    by_cases hlt : k < n
    · obtain ⟨b, off, rfl, hbl, hcell⟩ := HX.out k (by rw [HN.out]; exact hlt)
      rw [← (HO.out.below (B := g) (fun _ e => by injection e with e; omega) (Nat.le_of_lt (by have := HRow.out.lt; rw [HO.out.size] at this; exact this))).cell (by exact hbl)] at hcell
      have HT : Hid (L ++ xs.take (k + 1) = (L ++ xs.take k) ++ [xs.getD k false]) := Lib.hid (by
        have hk' : k < xs.length := by rw [HN.out]; exact hlt
        rw [List.take_succ_eq_append_getElem hk', List.append_assoc]
        simp [List.getD_eq_getElem?_getD, hk'])
      have hlen : (L ++ xs.take k).length = f + k := by rw [List.length_append, List.length_take, HF.out, HN.out]; omega
      have HL := Lib.hid hlen
      have HS := Lib.hid (HB.out.snoc (by rw [hlen]; omega) (xs.getD k false))
      rw [← HT.out, hlen] at HS
      clear hlen
      generalize xs.getD k false = v at *
      have ec : ((f + k : Nat) : Int) = (f : Int) + (k : Int) := by omega
      have HM := Lib.hid HB.out.1
      cases v
      · go_wp2
        go_roundw
        case rel => exact ⟨k + 1, m, by omega, by go_num, HRow, HS, HO⟩
        case measure => simp [intOf]; omega
      · go_wp2_with (go_at_call 70; rw [← ec]; refine (add_any g m (f + k) _ _ HRow.out (by omega) HM.out).mono ?_; rintro e w' ⟨rfl, rfl⟩)
        go_roundw
        case rel => exact ⟨k + 1, m ||| 2 ^ (f + k), by omega, by go_num, Lib.hid (by have := HRow.out.set 0 (.int .u64 (m ||| 2 ^ (f + k) : Nat)); simpa using this), HS, Lib.hid (HO.out.set 0 _)⟩
        case measure => simp [intOf]; omega
    · obtain rfl : k = n := by omega
      go_wp2
      go_end0
      exact ⟨m, rfl, HRow.out, by have := HB.out; rwa [List.take_of_length_le (by rw [HN.out]; omega)] at this, HO.out⟩

theorem addTrue_len (g m f : Nat) (A : Option Addr) (cap n : Nat) (L xs : List Bool) (w : World) (hn : xs.length = n) (hR : Row w g 90 #[.int .u64 m]) (hB : Circ.Bits m L) (hf : L.length = f) (hx : BoolsAt w g A xs) (hl : f + n ≤ 64) :
    Calls Try.prog 68 #[.slice (some ⟨g, 0, none⟩) 1 1, .int .i64 f, .slice A n cap] w fun e w' => ∃ m' : Nat, e = .returned (.tuple #[]) ∧ Row w' g 90 #[.int .u64 m'] ∧ Circ.Bits m' (L ++ xs) ∧ Only (some g) w w' := by
  subst hn
  exact addTrue_any g m f A cap L xs w hR hB hf hx hl
end Go.Proofs.Ytbhkpjcflghgbaa
