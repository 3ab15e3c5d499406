/- A circuit that comes in as an argument is opened to its cells. -/
import Derived.Test.YtkkkkalgfmddbaaW2
import Derived.ProofKit
import Derived.OpenShut
import Derived.ChangeOld
import Derived.Deep.Slices
import Derived.Deep.Fields
import Derived.Lib.SmallJoins
namespace Go.Proofs.Ytkkkkalgfmddbaa
open Go.ChangeShapes Go.WideShapes Go.ChangeAt Go.RowKit Go.Deep Go.Joins

theorem Try.own : ownKnob Try.prog.godebug = none := by kernel_rfl
theorem Try.laidOut : laidOutB Try.prog = true := by kernel_rfl

section
variable {H : Type} {enc : TypeId × Value → H} {P : Program} {W : World} {base : Nat} {held : Bool}

theorem addr_of {W : World} {a : Addr} {v : Value} (h : W.cell? (a.add 0) = some v) : ∃ b off, a = ⟨b, off, none⟩ ∧ b < W.heap.size := by
  obtain ⟨b, off, spot⟩ := a
  have hl := World.block_lt_of_cell? W _ h
  have hs : spot = none := by simpa [Addr.add] using World.cell?_spot h
  subst hs
  exact ⟨b, off, rfl, by simpa [Addr.add] using hl⟩
theorem add_flat (b off i : Nat) : (⟨b, off, none⟩ : Addr).add i = ⟨b, off + i, none⟩ := by
  unfold Addr.add
  split
  · simp_all
  · rfl

theorem open_intsAt {t e : TypeId} {fuel : Nat} {v : Value} {x : DataW H × List MemPlace} (ht : P.underlying t = some (.slice e)) (he : P.underlying e = some (.int .i64)) (hc : P.cellsOf e = 1)
    (h : DataW.trod enc P W base (fun _ => true) held fuel t [v] = some x) :
    ∃ (A : Option Addr) (xs : List Int) (cap : Nat), v = .slice A xs.length cap ∧ IntsAt W W.heap.size A xs ∧ xs.length ≤ maxLen := by
  rcases open_ints ht he hc h with ⟨hcs, _⟩ | ⟨a, len, cap, zs, hcs, _, hl, hm, hz, _, hcell, hwz⟩
  · simp at hcs
    exact ⟨none, [], 0, hcs, fun k hk => absurd hk (by simp), by simp⟩
  · simp at hcs hz
    have hlen : (zs.take len).length = len := by simp; omega
    refine ⟨some a, zs.take len, cap, by rw [hlen]; exact hcs, fun k hk => ?_, by rw [hlen]; omega⟩
    rw [hlen] at hk
    obtain ⟨b, off, rfl, hb⟩ := addr_of (hcell 0 (by omega))
    have hcl := hcell k (by omega)
    rw [add_flat] at hcl
    refine ⟨b, off, rfl, hb, ?_⟩
    rw [hcl]
    simp [List.getD_eq_getElem?_getD, hk]

theorem open_gatesAt {t e : TypeId} {f0 f1 : Field} {fuel : Nat} {v : Value} {x : DataW H × List MemPlace} (ht : P.underlying t = some (.slice e)) (he : P.underlying e = some (.struct #[f0, f1])) (hC : P.cellsOf e = 2)
    (h0 : P.underlying f0.type = some (.int .i64)) (h1 : P.underlying f1.type = some (.int .i64)) (o0 : f0.offset = 0) (o1 : f1.offset = 1) (k0 : P.cellsOf f0.type = 1) (k1 : P.cellsOf f1.type = 1)
    (h : DataW.trod enc P W base (fun _ => true) held fuel t [v] = some x) :
    ∃ (A : Option Addr) (gs : List (Int × Int)) (cap : Nat), v = .slice A gs.length cap ∧ GatesAt W W.heap.size A gs ∧ gs.length ≤ maxLen := by
  rcases open_slice ht h with ⟨hcs, _⟩ | ⟨a, len, cap, m, n, D, Pl, hcs, _, hl, hm, hmm, _, hi⟩
  · simp at hcs
    exact ⟨none, [], 0, hcs, fun k hk => absurd hk (by simp), by simp⟩
  · simp at hcs hmm
    subst hmm
    have key : ∀ i, i < len → ∃ p : Int × Int, W.cell? (a.add (i * 2)) = some (.int .i64 p.1) ∧ W.cell? (a.add (i * 2 + 1)) = some (.int .i64 p.2) := by
      intro i hil
      obtain ⟨cs', hc', ht'⟩ := hi i (by omega)
      rw [hC] at hc'
      obtain ⟨ys, n', _, _, hlen, hyl, hf⟩ := DataW.trod_struct he ht'
      obtain ⟨_, hcl, hat⟩ := World.cells?_some hc'
      match cs', hcl with
      | [u0, u1], _ =>
        have g0 := hf 0 f0 rfl
        have g1 := hf 1 f1 rfl
        rw [o0, k0] at g0
        rw [o1, k1] at g1
        match ys, hyl with
        | [y0, y1], _ =>
          simp at g0 g1
          obtain ⟨z0, e0, _, _⟩ := DataW.trod_int h0 g0
          obtain ⟨z1, e1, _, _⟩ := DataW.trod_int h1 g1
          simp at e0 e1
          subst e0 e1
          have a0 := hat 0 (by omega)
          have a1 := hat 1 (by omega)
          rw [Go.Deep.add_add] at a0 a1
          exact ⟨(z0, z1), by simpa using a0, by simpa using a1⟩
    let pf : Nat → Int × Int := fun i => if hi : i < len then (key i hi).choose else (0, 0)
    have hpf : ∀ i, i < len → W.cell? (a.add (i * 2)) = some (.int .i64 (pf i).1) ∧ W.cell? (a.add (i * 2 + 1)) = some (.int .i64 (pf i).2) := by
      intro i hil
      have : pf i = (key i hil).choose := by simp [pf, hil]
      rw [this]
      exact (key i hil).choose_spec
    have hlen : ((List.range len).map pf).length = len := by simp
    refine ⟨some a, (List.range len).map pf, m, by rw [hlen]; exact hcs, fun k hk => ?_, by rw [hlen]; omega⟩
    rw [hlen] at hk
    have hg : ((List.range len).map pf).getD k (0, 0) = pf k := by simp [List.getD_eq_getElem?_getD, hk]
    rw [hg]
    obtain ⟨q0, q1⟩ := hpf k hk
    obtain ⟨b, off, rfl, hb⟩ := addr_of (a := a) (by simpa using (hpf 0 (by omega)).1)
    rw [add_flat] at q0 q1
    exact ⟨b, off, rfl, hb, q0, by rw [Nat.add_assoc]; exact q1⟩
end
end Go.Proofs.Ytkkkkalgfmddbaa
