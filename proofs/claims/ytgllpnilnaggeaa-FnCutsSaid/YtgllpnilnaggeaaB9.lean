/- The contracts of one clock cycle of the program. -/
import Derived.Test.YtgllpnilnaggeaaB5
import Derived.Test.YtgllpnilnaggeaaR1
namespace Go.Proofs.Ytgllpnilnaggeaa
open Go.RowKit Go.Deep

theorem lits_ok {xs : List Int} {c : Int} (h : Circ.litsOk xs c = true) (hc : c ≤ 60) : ∀ k, k < xs.length → 0 ≤ xs.getD k 0 ∧ xs.getD k 0 < 128 := fun k hk => by
  have := Circ.litsOk_get h hk
  omega

def StepOut (w : World) (L : List Bool) (ns os : List Int) (e : Ending) (w' : World) : Prop :=
  ∃ z1 z2 : Nat, e = .returned (.agg #[.slice (some ⟨z1, 0, none⟩) os.length os.length, .slice (some ⟨z2, 0, none⟩) ns.length ns.length]) ∧ w.heap.size ≤ z1 ∧ z1 < z2 ∧ BRow w' z1 (Circ.litsV L os) ∧ BRow w' z2 (Circ.litsV L ns) ∧ Below w.heap.size w w'

theorem BRow.far {w : World} {g : Nat} {xs : List Bool} (h : BRow w g xs) (p : Addr) (u : Value) (hp : g ≠ p.block) : BRow (w.setCell p u) g xs := by
  obtain ⟨cs, hr, hf⟩ := h
  exact ⟨cs, hr.far hp u, hf⟩

/-- The outputs, or the next state, of one clock cycle: of an invalid assignment the empty list. -/
def stepV (i : Int) (ns : List Int) (gs : List (Int × Int)) (os : List Int) (st ins : List Bool) (xs : List Int) : List Bool := if assignB i ns gs os st.length ins.length = true then Circ.outV gs xs st ins else []
theorem stepV_t {i : Int} {ns : List Int} {gs : List (Int × Int)} {os : List Int} {st ins : List Bool} (xs : List Int) (h : assignB i ns gs os st.length ins.length = true) : stepV i ns gs os st ins xs = Circ.outV gs xs st ins := if_pos h
theorem stepV_f {i : Int} {ns : List Int} {gs : List (Int × Int)} {os : List Int} {st ins : List Bool} (xs : List Int) (h : assignB i ns gs os st.length ins.length = false) : stepV i ns gs os st ins xs = [] := if_neg (by rw [h]; decide)
theorem stepV_le {i : Int} {ns : List Int} {gs : List (Int × Int)} {os : List Int} (st ins : List Bool) (xs : List Int) (hx : xs.length ≤ 2000000) : (stepV i ns gs os st ins xs).length ≤ 2000000 := by
  cases h : assignB i ns gs os st.length ins.length
  · rw [stepV_f xs h]; simp
  · rw [stepV_t xs h, Circ.outV_len]; exact hx

/-- Two slices, each nil and empty or a block of its own. -/
structure BPair (w : World) (lo : Nat) (A1 A2 : Option Addr) (xs ys : List Bool) : Prop where
  fst : BSl w lo A1 xs
  snd : BSl w lo A2 ys
  ne : ∀ g, A1 = some ⟨g, 0, none⟩ → A2 ≠ some ⟨g, 0, none⟩
theorem BPair.on {w w' : World} {lo : Nat} {A1 A2 : Option Addr} {xs ys : List Bool} (h : BPair w lo A1 A2 xs ys) (hb : Below w.heap.size w w') : BPair w' lo A1 A2 xs ys := ⟨h.fst.on hb, h.snd.on hb, h.ne⟩
theorem Mid.bpair {lo hi : Nat} {w w' : World} (h : Mid lo hi w w') {A1 A2 : Option Addr} {xs ys : List Bool} (hr : BPair w hi A1 A2 xs ys) : BPair w' hi A1 A2 xs ys := ⟨h.bsl hr.fst, h.bsl hr.snd, hr.ne⟩

end Go.Proofs.Ytgllpnilnaggeaa
