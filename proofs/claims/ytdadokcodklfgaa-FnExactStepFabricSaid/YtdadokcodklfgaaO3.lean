/- A list of truth values that comes in as an argument is opened to its cells. -/
import Derived.Test.YtdadokcodklfgaaO
import Derived.Test.YtdadokcodklfgaaB1
namespace Go.Proofs.Ytdadokcodklfgaa
open Go.ChangeShapes Go.WideShapes Go.ChangeAt Go.RowKit Go.Deep Go.Joins

section
variable {H : Type} {enc : TypeId × Value → H} {P : Program} {W : World} {base : Nat} {held : Bool}

theorem open_boolsAt {t e : TypeId} {fuel : Nat} {v : Value} {x : DataW H × List MemPlace} (ht : P.underlying t = some (.slice e)) (he : P.underlying e = some .bool) (hC : P.cellsOf e = 1)
    (h : DataW.trod enc P W base (fun _ => true) held fuel t [v] = some x) :
    ∃ (A : Option Addr) (xs : List Bool) (cap : Nat), v = .slice A xs.length cap ∧ BoolsAt W W.heap.size A xs ∧ xs.length ≤ maxLen := by
  rcases open_slice ht h with ⟨hcs, _⟩ | ⟨a, len, cap, m, n, D, Pl, hcs, _, hl, hm, hmm, _, hi⟩
  · simp at hcs
    exact ⟨none, [], 0, hcs, fun k hk => absurd hk (by simp), by simp⟩
  · simp at hcs hmm
    subst hmm
    have key : ∀ i, i < len → ∃ p : Bool, W.cell? (a.add i) = some (.bool p) := by
      intro i hil
      obtain ⟨cs', hc', ht'⟩ := hi i (by omega)
      rw [hC] at hc'
      obtain ⟨b, hb, _⟩ := DataW.trod_bool he ht'
      obtain ⟨_, hcl, hat⟩ := World.cells?_some hc'
      subst hb
      have a0 := hat 0 (by omega)
      rw [Go.Deep.add_add] at a0
      exact ⟨b, by simpa using a0⟩
    let pf : Nat → Bool := fun i => if hi : i < len then (key i hi).choose else false
    have hpf : ∀ i, i < len → W.cell? (a.add i) = some (.bool (pf i)) := by
      intro i hil
      have : pf i = (key i hil).choose := by simp [pf, hil]
      rw [this]
      exact (key i hil).choose_spec
    have hlen : ((List.range len).map pf).length = len := by simp
    refine ⟨some a, (List.range len).map pf, m, by rw [hlen]; exact hcs, fun k hk => ?_, by rw [hlen]; omega⟩
    rw [hlen] at hk
    have hg : ((List.range len).map pf).getD k false = pf k := by simp [List.getD_eq_getElem?_getD, hk]
    rw [hg]
    have q0 := hpf k hk
    obtain ⟨b, off, rfl, hb⟩ := addr_of (a := a) (by simpa using hpf 0 (by omega))
    rw [add_flat] at q0
    exact ⟨b, off, rfl, hb, q0⟩
end
end Go.Proofs.Ytdadokcodklfgaa
