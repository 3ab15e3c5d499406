/- A table of truth values that comes in as an argument is opened to its cells. -/
import Derived.Test.YtbhkpjcflghgbaaO3
import Derived.Test.YtbhkpjcflghgbaaB15
namespace Go.Proofs.Ytbhkpjcflghgbaa
open Go.ChangeShapes Go.WideShapes Go.ChangeAt Go.RowKit Go.Deep Go.Joins

section
variable {H : Type} {enc : TypeId × Value → H} {P : Program} {W : World} {base : Nat} {held : Bool}

theorem open_rowsAt {t e f : TypeId} {fuel : Nat} {v : Value} {x : DataW H × List MemPlace} (ht : P.underlying t = some (.slice e)) (he : P.underlying e = some (.slice f)) (hf : P.underlying f = some .bool) (hC : P.cellsOf e = 1) (hD : P.cellsOf f = 1)
    (h : DataW.trod enc P W base (fun _ => true) held fuel t [v] = some x) :
    ∃ (A : Option Addr) (rs : List (List Bool)) (cap : Nat), v = .slice A rs.length cap ∧ RowsAt W W.heap.size A rs ∧ rs.length ≤ maxLen ∧ ∀ k, k < rs.length → (rs.getD k []).length ≤ maxLen := by
  rcases open_slice ht h with ⟨hcs, _⟩ | ⟨a, len, cap, m, n, D, Pl, hcs, _, hl, hm, hmm, _, hi⟩
  · simp at hcs
    exact ⟨none, [], 0, hcs, RowsAt.nil _ _ _, by simp, fun k hk => absurd hk (by simp)⟩
  · simp at hcs hmm
    subst hmm
    have key : ∀ i, i < len → ∃ p : List Bool × (Option Addr × Nat), W.cell? (a.add i) = some (.slice p.2.1 p.1.length p.2.2) ∧ BoolsAt W W.heap.size p.2.1 p.1 ∧ p.1.length ≤ maxLen := by
      intro i hil
      obtain ⟨cs', hc', ht'⟩ := hi i (by omega)
      rw [hC] at hc'
      obtain ⟨_, hcl, hat⟩ := World.cells?_some hc'
      match cs', hcl with
      | [u], _ =>
        obtain ⟨A, xs, c, hu, hb, hx⟩ := open_boolsAt he hf hD ht'
        have a0 := hat 0 (by omega)
        rw [Go.Deep.add_add] at a0
        subst hu
        exact ⟨(xs, A, c), by simpa using a0, hb, hx⟩
    let pf : Nat → List Bool × (Option Addr × Nat) := fun i => if hi : i < len then (key i hi).choose else ([], none, 0)
    have hpf : ∀ i, i < len → W.cell? (a.add i) = some (.slice (pf i).2.1 (pf i).1.length (pf i).2.2) ∧ BoolsAt W W.heap.size (pf i).2.1 (pf i).1 ∧ (pf i).1.length ≤ maxLen := by
      intro i hil
      have : pf i = (key i hil).choose := by simp [pf, hil]
      rw [this]
      exact (key i hil).choose_spec
    have hlen : ((List.range len).map fun i => (pf i).1).length = len := by simp
    have hg : ∀ k, k < len → ((List.range len).map fun i => (pf i).1).getD k [] = (pf k).1 := fun k hk => by simp [List.getD_eq_getElem?_getD, hk]
    refine ⟨some a, (List.range len).map fun i => (pf i).1, m, by rw [hlen]; exact hcs, fun k hk => ?_, by rw [hlen]; omega, fun k hk => ?_⟩
    · rw [hlen] at hk
      rw [hg k hk]
      obtain ⟨q0, q1, _⟩ := hpf k hk
      obtain ⟨b, off, rfl, hb⟩ := addr_of (a := a) (by simpa using (hpf 0 (by omega)).1)
      rw [add_flat] at q0
      exact ⟨b, off, rfl, hb, _, _, q0, q1⟩
    · rw [hlen] at hk
      rw [hg k hk]
      exact (hpf k hk).2.2
end
end Go.Proofs.Ytbhkpjcflghgbaa
