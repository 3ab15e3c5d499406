/- The contracts of the program's literals and renamings. -/
import Derived.Test.YtkkkkalgfmddbaaB1a
import Derived.Test.YtkkkkalgfmddbaaQA
import Derived.Deep.RegionLaw
namespace Go.Proofs.Ytkkkkalgfmddbaa
open Go.RowKit Go.Deep

theorem nat_xor_one (n : Nat) : n ^^^ 1 = Opt.neg1 n := by
  apply Nat.eq_of_testBit_eq
  intro i
  unfold Opt.neg1
  rw [Nat.testBit_xor]
  cases i with
  | zero =>
    simp only [Nat.testBit_zero]
    split <;> (rcases Nat.mod_two_eq_zero_or_one n with e | e <;> simp_all <;> omega)
  | succ i =>
    rw [Nat.testBit_succ, Nat.testBit_succ, Nat.testBit_succ]
    have : (if n % 2 = 0 then n + 1 else n - 1) / 2 = n / 2 := by split <;> omega
    rw [this]
    simp
theorem i64_xor_nat (n p : Nat) (hn : n < 9223372036854775808) (hp : p < 2) : bits .xor .i64 (n : Int) (p : Int) = ((Opt.xl n p : Nat) : Int) := by
  have h1 : (BitVec.ofInt 64 (n : Int)).toNat = n := by
    rw [BitVec.ofInt_natCast, BitVec.toNat_ofNat]; exact Nat.mod_eq_of_lt (by omega)
  have h2 : (BitVec.ofInt 64 (p : Int)).toNat = p := by
    rw [BitVec.ofInt_natCast, BitVec.toNat_ofNat]; exact Nat.mod_eq_of_lt (by omega)
  show IntKind.i64.wrap ((BitVec.ofInt 64 (n : Int) ^^^ BitVec.ofInt 64 (p : Int)).toNat : Int) = _
  rw [BitVec.toNat_xor, h1, h2, IntKind.wrap_i64]
  have e : n ^^^ p = Opt.xl n p := by
    unfold Opt.xl
    split
    · next h => rw [h]; simp
    · have : p = 1 := by omega
      rw [this, nat_xor_one]
  have hb : Opt.xl n p < 9223372036854775808 := by unfold Opt.xl Opt.neg1; split <;> (try split) <;> omega
  rw [e]
  omega
theorem i64_xor_one (n : Nat) (hn : n < 9223372036854775808) : bits .xor .i64 (n : Int) 1 = ((Opt.neg1 n : Nat) : Int) := by
  have := i64_xor_nat n 1 hn (by omega)
  simpa [Opt.xl] using this

/-- The literals' bound. -/
def LitB (m : List Nat) : Prop := ∀ v, m.getD v 0 < 1000000

theorem mapL_get (m xs : List Nat) (k : Nat) (hk : k < xs.length) : (xs.map (Opt.mapL m)).getD k 0 = Opt.mapL m (xs.getD k 0) := by
  simp [List.getD_eq_getElem?_getD, hk]

end Go.Proofs.Ytkkkkalgfmddbaa
/- The contracts of the pair of operands, and of the variables that are reached. -/
namespace Go.Proofs.Ytkkkkalgfmddbaa
open Go.RowKit Go.Deep

/-- What a gate with these operands is replaced by. -/
def simpl (a b : Nat) : Nat × Bool := if a = 0 ∨ a = Opt.neg1 b then (0, true) else if a = 1 ∨ a = b then (b, true) else (0, false)
def SimplOut (w : World) (a b : Nat) (e : Ending) (w' : World) : Prop := e = .returned (.tuple #[.int .i64 ((simpl a b).1 : Nat), .bool (simpl a b).2]) ∧ Below w.heap.size w w'

end Go.Proofs.Ytkkkkalgfmddbaa
/- The contracts of the variables that are reached. -/
namespace Go.Proofs.Ytkkkkalgfmddbaa
open Go.RowKit Go.Deep

/-- Integers that do not lie in block g. -/
def IntsNe (w : World) (g : Nat) (A : Option Addr) (xs : List Int) : Prop :=
  ∀ k, k < xs.length → ∃ b off, A = some ⟨b, off, none⟩ ∧ b < w.heap.size ∧ b ≠ g ∧ w.cell? ⟨b, off + k, none⟩ = some (.int .i64 (xs.getD k 0))
theorem IntsAt.ne {w : World} {B g : Nat} {A : Option Addr} {xs : List Int} (h : IntsAt w B A xs) (hg : B ≤ g) (hB : B ≤ w.heap.size) : IntsNe w g A xs := fun k hk => by
  obtain ⟨b, off, e, hlt, hc⟩ := h k hk
  exact ⟨b, off, e, by omega, by omega, hc⟩

theorem natL_int {xs : List Int} {c : Int} (h : Circ.litsOk xs c = true) : Opt.intL (Opt.natL xs) = xs := by
  unfold Opt.intL Opt.natL
  rw [List.map_map]
  refine (List.map_congr_left (fun x hx => ?_)).trans (List.map_id xs)
  have := Opt.litsOk_mem h hx
  simp
  omega

/-- The circuit's blocks and the box of the call's argument. -/
structure Boxed (w : World) (H : Nat) (i : Int) (nA gA oA : Option Addr) (nl nc gl gc ol oc : Nat) : Prop where
  c0 : w.cell? ⟨H, 0, none⟩ = some (.int .i64 i)
  c1 : w.cell? ⟨H, 1, none⟩ = some (.slice nA nl nc)
  c2 : w.cell? ⟨H, 2, none⟩ = some (.slice gA gl gc)
  c3 : w.cell? ⟨H, 3, none⟩ = some (.slice oA ol oc)
theorem Boxed.new (w : World) (i : Int) (nA gA oA : Option Addr) (nl nc gl gc ol oc : Nat) (t : TypeId) : Boxed (w.alloc (.cells #[.int .i64 i, .slice nA nl nc, .slice gA gl gc, .slice oA ol oc] t)) w.heap.size i nA gA oA nl nc gl gc ol oc := by
  have h : Row (w.alloc (.cells #[.int .i64 i, .slice nA nl nc, .slice gA gl gc, .slice oA ol oc] t)) w.heap.size t #[.int .i64 i, .slice nA nl nc, .slice gA gl gc, .slice oA ol oc] := heap_alloc_new w _
  exact ⟨h.cell 0, h.cell 1, h.cell 2, h.cell 3⟩
theorem Boxed.below {w w' : World} {B H : Nat} {i : Int} {nA gA oA : Option Addr} {nl nc gl gc ol oc : Nat} (h : Boxed w H i nA gA oA nl nc gl gc ol oc) (hb : Below B w w') (hH : H < B) : Boxed w' H i nA gA oA nl nc gl gc ol oc :=
  ⟨(hb.cell (p := ⟨H, 0, none⟩) hH).trans h.c0, (hb.cell (p := ⟨H, 1, none⟩) hH).trans h.c1, (hb.cell (p := ⟨H, 2, none⟩) hH).trans h.c2, (hb.cell (p := ⟨H, 3, none⟩) hH).trans h.c3⟩

def ReachOut (w : World) (M : Nat) (e : Ending) (w' : World) : Prop := ∃ g : Nat, e = .returned (.slice (some ⟨g, 0, none⟩) 1 1) ∧ w.heap.size ≤ g ∧ Row w' g 101 #[.int .u64 M] ∧ Below w.heap.size w w'

theorem backW_step (f : Nat) (gs : List Opt.G) (m j : Nat) (hj : j < gs.length) : Opt.backW f gs m (gs.length - j) =
    if (Opt.backW f gs m (gs.length - (j + 1))).testBit (f + j) = true then Opt.orV (Opt.backW f gs m (gs.length - (j + 1))) [(Opt.at_ gs j).1, (Opt.at_ gs j).2] else Opt.backW f gs m (gs.length - (j + 1)) := by
  have e : gs.length - j = (gs.length - (j + 1)) + 1 := by omega
  have e2 : gs.length - (gs.length - (j + 1) + 1) = j := by omega
  rw [e]
  show (if (Opt.backW f gs m (gs.length - (j + 1))).testBit (f + (gs.length - (gs.length - (j + 1) + 1))) = true then _ else _) = _
  rw [e2]

/-- A circuit's sizes within the limits. -/
structure Fits (i : Int) (f nl gl ol : Nat) (c : Opt.C) : Prop where
  i0 : 0 ≤ i
  i4 : i ≤ 4
  ln : c.ns.length = nl
  lg : c.gs.length = gl
  lo : c.os.length = ol
  n3 : nl ≤ 3
  g14 : gl ≤ 14
  o3 : ol ≤ 3
  hf : 1 + i + (nl : Int) = f
  ok : Opt.Ok f c

theorem twoInts (W : World) (a b g : Nat) (t : TypeId) (hg : W.heap.size ≠ g) : IntsNe (W.alloc (.cells #[.int .i64 a, .int .i64 b] t)).drew g (some ⟨W.heap.size, 0, none⟩) (Opt.intL [a, b]) := fun k hk => by
  have h : Row (W.alloc (.cells #[.int .i64 a, .int .i64 b] t)) W.heap.size t #[.int .i64 a, .int .i64 b] := heap_alloc_new W _
  refine ⟨_, _, rfl, by simp, hg, ?_⟩
  have hk2 : k < 2 := hk
  show (W.alloc (.cells #[.int .i64 a, .int .i64 b] t)).cell? _ = _
  rw [Nat.zero_add, h.cell]
  match k, hk2 with
  | 0, _ => rfl
  | 1, _ => rfl
end Go.Proofs.Ytkkkkalgfmddbaa
