/- The contracts of the program's literals and renamings. -/
import Derived.Test.YthcpgbfghededaaB1a
import Derived.Test.YthcpgbfghededaaQA
namespace Go.Proofs.Ythcpgbfghededaa
open Go.RowKit Go.Deep

theorem nat_xor_one (n : Nat) : n ^^^ 1 = Opt.neg1 n := by
  apply Nat.eq_of_testBit_eq
  intro i
  unfold Opt.neg1
  rw [Nat.testBit_xor]
  cases i with
  | zero =>
    simp only [Nat.testBit_zero]
    split <;> (rcases Nat.mod_two_eq_zero_or_one n with e | e <;> simp_all <;> omega)
  | succ i =>
    rw [Nat.testBit_succ, Nat.testBit_succ, Nat.testBit_succ]
    have : (if n % 2 = 0 then n + 1 else n - 1) / 2 = n / 2 := by split <;> omega
    rw [this]
    simp
theorem i64_xor_nat (n p : Nat) (hn : n < 9223372036854775808) (hp : p < 2) : bits .xor .i64 (n : Int) (p : Int) = ((Opt.xl n p : Nat) : Int) := by
  have h1 : (BitVec.ofInt 64 (n : Int)).toNat = n := by
    rw [BitVec.ofInt_natCast, BitVec.toNat_ofNat]; exact Nat.mod_eq_of_lt (by omega)
  have h2 : (BitVec.ofInt 64 (p : Int)).toNat = p := by
    rw [BitVec.ofInt_natCast, BitVec.toNat_ofNat]; exact Nat.mod_eq_of_lt (by omega)
  show IntKind.i64.wrap ((BitVec.ofInt 64 (n : Int) ^^^ BitVec.ofInt 64 (p : Int)).toNat : Int) = _
  rw [BitVec.toNat_xor, h1, h2, IntKind.wrap_i64]
  have e : n ^^^ p = Opt.xl n p := by
    unfold Opt.xl
    split
    · next h => rw [h]; simp
    · have : p = 1 := by omega
      rw [this, nat_xor_one]
  have hb : Opt.xl n p < 9223372036854775808 := by unfold Opt.xl Opt.neg1; split <;> (try split) <;> omega
  rw [e]
  omega
theorem i64_xor_one (n : Nat) (hn : n < 9223372036854775808) : bits .xor .i64 (n : Int) 1 = ((Opt.neg1 n : Nat) : Int) := by
  have := i64_xor_nat n 1 hn (by omega)
  simpa [Opt.xl] using this

/-- The literals' bound. -/
def LitB (m : List Nat) : Prop := ∀ v, m.getD v 0 < 1000000

theorem mapL_get (m xs : List Nat) (k : Nat) (hk : k < xs.length) : (xs.map (Opt.mapL m)).getD k 0 = Opt.mapL m (xs.getD k 0) := by
  simp [List.getD_eq_getElem?_getD, hk]

end Go.Proofs.Ythcpgbfghededaa
/- The contracts of the pair of operands, and of the variables that are reached. -/
namespace Go.Proofs.Ythcpgbfghededaa
open Go.RowKit Go.Deep

/-- What a gate with these operands is replaced by. -/
def simpl (a b : Nat) : Nat × Bool := if a = 0 ∨ a = Opt.neg1 b then (0, true) else if a = 1 ∨ a = b then (b, true) else (0, false)
def SimplOut (w : World) (a b : Nat) (e : Ending) (w' : World) : Prop := e = .returned (.tuple #[.int .i64 ((simpl a b).1 : Nat), .bool (simpl a b).2]) ∧ Below w.heap.size w w'

end Go.Proofs.Ythcpgbfghededaa
