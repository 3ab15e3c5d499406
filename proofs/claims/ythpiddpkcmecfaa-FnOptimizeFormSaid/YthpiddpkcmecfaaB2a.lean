/- The contracts of the bit set. -/
import Derived.Test.YthpiddpkcmecfaaB3a
import Derived.Test.YthpiddpkcmecfaaV
import Derived.Laws.BitsAllLaws
namespace Go.Proofs.Ythpiddpkcmecfaa
open Go.RowKit Go.Deep

theorem word_bit (m v : Nat) (hm : m < 18446744073709551616) : (bits .and .u64 ((m : Int) / 2 ^ v) 1 == 1) = m.testBit v := by
  have h : (m : Int) / 2 ^ v = ((m / 2 ^ v : Nat) : Int) := by simp
  have hlt : m / 2 ^ v < 18446744073709551616 := Nat.lt_of_le_of_lt (Nat.div_le_self _ _) hm
  rw [h, show (1 : Int) = ((1 : Nat) : Int) from rfl, u64_and_nat _ 1 hlt (by omega), Nat.and_one_is_mod, Nat.testBit_eq_decide_div_mod_eq]
  rcases Nat.mod_two_eq_zero_or_one (m / 2 ^ v) with e | e <;> rw [e] <;> rfl
theorem word_or (m v : Nat) (hm : m < 18446744073709551616) (hv : v < 64) : bits .or .u64 (m : Int) (IntKind.u64.wrap (2 ^ v)) = ((m ||| 2 ^ v : Nat) : Int) := by
  have h2 : 2 ^ v < 2 ^ 64 := Nat.pow_lt_pow_right (by omega) hv
  have h3 : ((2 : Int) ^ v) = ((2 ^ v : Nat) : Int) := by simp
  have h4 : IntKind.u64.wrap ((2 : Int) ^ v) = ((2 ^ v : Nat) : Int) := by
    rw [h3]
    generalize (2 ^ v : Nat) = c at h2 ⊢
    simp only [IntKind.wrap, IntKind.bits, IntKind.signed]
    simp
    omega
  rw [h4, u64_or_nat m (2 ^ v) hm (by omega)]
theorem i64_odd (n : Nat) (hn : n < 9223372036854775808) : bits .and .i64 (n : Int) 1 = ((n % 2 : Nat) : Int) := by
  have h1 : (BitVec.ofInt 64 (n : Int)).toNat = n := by
    rw [BitVec.ofInt_natCast, BitVec.toNat_ofNat]; exact Nat.mod_eq_of_lt (by omega)
  show IntKind.i64.wrap ((BitVec.ofInt 64 (n : Int) &&& BitVec.ofInt 64 ((1 : Nat) : Int)).toNat : Int) = _
  have h2 : (BitVec.ofInt 64 ((1 : Nat) : Int)).toNat = 1 := by rfl
  rw [BitVec.toNat_and, h1, h2, Nat.and_one_is_mod, IntKind.wrap_i64]
  omega

set_option maxHeartbeats 400000 in
theorem has_any (g m v : Nat) (w : World) (hc : w.cell? ⟨g, 0, none⟩ = some (.int .u64 m)) (hv : v < 64) (hm : m < 18446744073709551616) :
    Calls Try.prog 87 #[.slice (some ⟨g, 0, none⟩) 1 1, .int .i64 v] w fun e w' => e = .returned (.bool (m.testBit v)) ∧ w = w' := by
  have d0 : (v : Int) / 64 = 0 := by omega
  have d1 : (v : Int) % 64 = v := by omega
  have d2 : v / 64 = 0 := by omega
  have HW := Lib.hid (word_bit m v hm)
  go_enter Try.func87, Try.ntmps87
  go_wp2
  go_ret
  exact ⟨ret_bool HW.out, rfl⟩

set_option maxHeartbeats 400000 in
theorem add_any (g m v : Nat) (t : TypeId) (w : World) (hR : Row w g t #[.int .u64 m]) (hv : v < 64) (hm : m < 18446744073709551616) :
    Calls Try.prog 111 #[.slice (some ⟨g, 0, none⟩) 1 1, .int .i64 v] w fun e w' => e = .returned (.tuple #[]) ∧ w' = w.setCell ⟨g, 0, none⟩ (.int .u64 (m ||| 2 ^ v : Nat)) := by
  have q0 := hR.cell 0
  have f0 := hR.frozen 0
  simp at q0
  have d0 : (v : Int) / 64 = 0 := by omega
  have d1 : (v : Int) % 64 = v := by omega
  have d2 : v / 64 = 0 := by omega
  have HW := Lib.hid (word_or m v hm hv)
  clear hR
  go_enter Try.func111, Try.ntmps111
  go_wp2
  go_end0
  exact ⟨rfl, by rw [HW.out]⟩

theorem litV_nat (L : List Bool) (n : Nat) : Circ.litV L (n : Int) = (L.getD (n / 2) false != ((n % 2 : Nat) == 1)) := by
  unfold Circ.litV
  have h1 : ((n : Int) / 2).toNat = n / 2 := by omega
  rw [h1]
  congr 1
  rcases Nat.mod_two_eq_zero_or_one n with e | e
  · rw [e, show (n : Int) % 2 = 0 by omega]; rfl
  · rw [e, show (n : Int) % 2 = 1 by omega]; rfl

theorem made_one (x : Value) : madeCells #[x] 1 = #[x] := by
  rw [← Array.toList_inj, toList_madeCells_one]
  rfl

theorem Try.infoU : (Try.prog.info? 123).map (fun i => (i.zero, i.size, i.bytes)) = some (some (.int .u64 0), 1, 8) := by kernel_rfl

set_option maxHeartbeats 400000 in
theorem newBitSet_any (n : Nat) (w : World) (h0 : 1 ≤ n) (h1 : n ≤ 64) :
    Calls Try.prog 105 #[.int .i64 n] w fun e w' => e = .returned (.slice (some ⟨w.heap.size, 0, none⟩) 1 1) ∧ Row w' w.heap.size 123 #[.int .u64 0] ∧ Below w.heap.size w w' := by
  have hd : ((n : Int) + 64 - 1) / 64 = 1 := by omega
  have hmk := fun W => run_make_row' (P := Try.prog) 95 123 (.int .u64 0) 8 Try.underlying95 Try.infoU rfl .i64 .i64 1 (by omega) (by omega) W
  simp at hmk
  go_enter Try.func105, Try.ntmps105
  go_wp2
  go_ret
  exact ⟨rfl, (by show (w.alloc _).heap[w.heap.size]? = _; rw [heap_alloc_new, made_one]), (Below.refl _ _).alloc (Nat.le_refl _) _⟩

end Go.Proofs.Ythpiddpkcmecfaa
