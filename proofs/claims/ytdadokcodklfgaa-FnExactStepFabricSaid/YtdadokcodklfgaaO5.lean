/- A configuration that comes in as an argument is opened to its cells. -/
import Derived.Test.YtdadokcodklfgaaO
import Derived.Test.YtdadokcodklfgaaKF
namespace Go.Proofs.Ytdadokcodklfgaa
open Go.ChangeShapes Go.WideShapes Go.ChangeAt Go.RowKit Go.Deep Go.Joins

section
variable {H : Type} {enc : TypeId × Value → H} {P : Program} {W : World} {base : Nat} {held : Bool}

/-- The slice's length is at most its capacity. -/
theorem open_intsC {t e : TypeId} {fuel : Nat} {v : Value} {x : DataW H × List MemPlace} (ht : P.underlying t = some (.slice e)) (he : P.underlying e = some (.int .i64)) (hc : P.cellsOf e = 1)
    (h : DataW.trod enc P W base (fun _ => true) held fuel t [v] = some x) :
    ∃ (A : Option Addr) (xs : List Int) (cap : Nat), v = .slice A xs.length cap ∧ IntsAt W W.heap.size A xs ∧ xs.length ≤ maxLen ∧ xs.length ≤ cap := by
  rcases open_ints ht he hc h with ⟨hcs, _⟩ | ⟨a, len, cap, zs, hcs, _, hl, hm, hz, _, hcell, hwz⟩
  · simp at hcs
    exact ⟨none, [], 0, hcs, fun k hk => absurd hk (by simp), by simp, by simp⟩
  · simp at hcs hz
    have hlen : (zs.take len).length = len := by simp; omega
    refine ⟨some a, zs.take len, cap, by rw [hlen]; exact hcs, fun k hk => ?_, by rw [hlen]; omega, by rw [hlen]; omega⟩
    rw [hlen] at hk
    obtain ⟨b, off, rfl, hb⟩ := addr_of (hcell 0 (by omega))
    have hcl := hcell k (by omega)
    rw [add_flat] at hcl
    refine ⟨b, off, rfl, hb, ?_⟩
    rw [hcl]
    simp [List.getD_eq_getElem?_getD, hk]
theorem open_tilesAt {t e : TypeId} {f0 f1 f2 f3 : Field} {ei : TypeId} {fuel : Nat} {v : Value} {x : DataW H × List MemPlace} (ht : P.underlying t = some (.slice e)) (he : P.underlying e = some (.struct #[f0, f1, f2, f3])) (hC : P.cellsOf e = 4)
    (h0 : P.underlying f0.type = some (.int .i64)) (h1 : P.underlying f1.type = some (.slice ei)) (h2 : P.underlying f2.type = some .bool) (h3 : P.underlying f3.type = some (.slice ei)) (hi64 : P.underlying ei = some (.int .i64)) (hci : P.cellsOf ei = 1)
    (o0 : f0.offset = 0) (o1 : f1.offset = 1) (o2 : f2.offset = 2) (o3 : f3.offset = 3) (k0 : P.cellsOf f0.type = 1) (k1 : P.cellsOf f1.type = 1) (k2 : P.cellsOf f2.type = 1) (k3 : P.cellsOf f3.type = 1)
    (h : DataW.trod enc P W base (fun _ => true) held fuel t [v] = some x) :
    ∃ (A : Option Addr) (ts : List Tl) (cap : Nat), v = .slice A ts.length cap ∧ TlIn W W.heap.size A ts ∧ ts.length ≤ maxLen ∧ ∀ k, k < ts.length → (ts.getD k tl0).2.1.length ≤ maxLen ∧ (ts.getD k tl0).2.2.2.length ≤ maxLen := by
  rcases open_slice ht h with ⟨hcs, _⟩ | ⟨a, len, cap, m, n, D, Pl, hcs, _, hl, hm, hmm, _, hi⟩
  · simp at hcs
    exact ⟨none, [], 0, hcs, fun k hk => absurd hk (by simp), by simp, fun k hk => absurd hk (by simp)⟩
  · simp at hcs hmm
    subst hmm
    have key : ∀ i, i < len → ∃ p : Tl × ((Option Addr × Nat) × (Option Addr × Nat)), (W.cell? (a.add (i * 4)) = some (.int .i64 p.1.1) ∧ W.cell? (a.add (i * 4 + 1)) = some (.slice p.2.1.1 p.1.2.1.length p.2.1.2) ∧ W.cell? (a.add (i * 4 + 2)) = some (.bool p.1.2.2.1) ∧ W.cell? (a.add (i * 4 + 3)) = some (.slice p.2.2.1 p.1.2.2.2.length p.2.2.2)) ∧ (IntsAt W W.heap.size p.2.1.1 p.1.2.1 ∧ IntsAt W W.heap.size p.2.2.1 p.1.2.2.2) ∧ (p.1.2.1.length ≤ p.2.1.2 ∧ p.1.2.2.2.length ≤ p.2.2.2) ∧ (p.1.2.1.length ≤ maxLen ∧ p.1.2.2.2.length ≤ maxLen) := by
      intro i hil
      obtain ⟨cs', hc', ht'⟩ := hi i (by omega)
      rw [hC] at hc'
      obtain ⟨ys, n', _, _, hlen, hyl, hf⟩ := DataW.trod_struct he ht'
      obtain ⟨_, hcl, hat⟩ := World.cells?_some hc'
      match cs', hcl with
      | [u0, u1, u2, u3], _ =>
        have g0 := hf 0 f0 rfl
        have g1 := hf 1 f1 rfl
        have g2 := hf 2 f2 rfl
        have g3 := hf 3 f3 rfl
        rw [o0, k0] at g0
        rw [o1, k1] at g1
        rw [o2, k2] at g2
        rw [o3, k3] at g3
        match ys, hyl with
        | [y0, y1, y2, y3], _ =>
          simp at g0 g1 g2 g3
          obtain ⟨z0, e0, _, _⟩ := DataW.trod_int h0 g0
          obtain ⟨A1, xs1, c1, e1, i1, m1, l1⟩ := open_intsC h1 hi64 hci g1
          obtain ⟨b2, e2, _⟩ := DataW.trod_bool h2 g2
          obtain ⟨A3, xs3, c3, e3, i3, m3, l3⟩ := open_intsC h3 hi64 hci g3
          simp at e0 e2
          subst e0 e1 e2 e3
          have a0 := hat 0 (by omega)
          have a1 := hat 1 (by omega)
          have a2 := hat 2 (by omega)
          have a3 := hat 3 (by omega)
          rw [Go.Deep.add_add] at a0 a1 a2 a3
          exact ⟨((z0, xs1, b2, xs3), ((A1, c1), (A3, c3))), ⟨by simpa using a0, by simpa using a1, by simpa using a2, by simpa using a3⟩, ⟨i1, i3⟩, ⟨l1, l3⟩, m1, m3⟩
    let pf : Nat → Tl × ((Option Addr × Nat) × (Option Addr × Nat)) := fun i => if hi : i < len then (key i hi).choose else (tl0, ((none, 0), (none, 0)))
    have hpf : ∀ i, i < len → (W.cell? (a.add (i * 4)) = some (.int .i64 (pf i).1.1) ∧ W.cell? (a.add (i * 4 + 1)) = some (.slice (pf i).2.1.1 (pf i).1.2.1.length (pf i).2.1.2) ∧ W.cell? (a.add (i * 4 + 2)) = some (.bool (pf i).1.2.2.1) ∧ W.cell? (a.add (i * 4 + 3)) = some (.slice (pf i).2.2.1 (pf i).1.2.2.2.length (pf i).2.2.2)) ∧ (IntsAt W W.heap.size (pf i).2.1.1 (pf i).1.2.1 ∧ IntsAt W W.heap.size (pf i).2.2.1 (pf i).1.2.2.2) ∧ ((pf i).1.2.1.length ≤ (pf i).2.1.2 ∧ (pf i).1.2.2.2.length ≤ (pf i).2.2.2) ∧ ((pf i).1.2.1.length ≤ maxLen ∧ (pf i).1.2.2.2.length ≤ maxLen) := by
      intro i hil
      have : pf i = (key i hil).choose := by simp [pf, hil]
      rw [this]
      exact (key i hil).choose_spec
    have hlen : ((List.range len).map fun i => (pf i).1).length = len := by simp
    have hg : ∀ k, k < len → ((List.range len).map fun i => (pf i).1).getD k tl0 = (pf k).1 := fun k hk => by simp [List.getD_eq_getElem?_getD, hk]
    refine ⟨some a, (List.range len).map fun i => (pf i).1, m, by rw [hlen]; exact hcs, fun k hk => ?_, by rw [hlen]; omega, fun k hk => ?_⟩
    · rw [hlen] at hk
      rw [hg k hk]
      obtain ⟨⟨q0, q1, q2, q3⟩, hi', hc', _⟩ := hpf k hk
      obtain ⟨b, off, rfl, hb⟩ := addr_of (a := a) (by simpa using (hpf 0 (by omega)).1.1)
      rw [add_flat] at q0 q1 q2 q3
      exact ⟨b, off, rfl, hb, _, _, _, _, ⟨q0, by rw [Nat.add_assoc]; exact q1, by rw [Nat.add_assoc]; exact q2, by rw [Nat.add_assoc]; exact q3⟩, hi', hc'⟩
    · rw [hlen] at hk
      rw [hg k hk]
      exact (hpf k hk).2.2.2
theorem open_padsAt {t e : TypeId} {f0 f1 : Field} {fuel : Nat} {v : Value} {x : DataW H × List MemPlace} (ht : P.underlying t = some (.slice e)) (he : P.underlying e = some (.struct #[f0, f1])) (hC : P.cellsOf e = 2)
    (h0 : P.underlying f0.type = some (.int .i64)) (h1 : P.underlying f1.type = some .bool) (o0 : f0.offset = 0) (o1 : f1.offset = 1) (k0 : P.cellsOf f0.type = 1) (k1 : P.cellsOf f1.type = 1)
    (h : DataW.trod enc P W base (fun _ => true) held fuel t [v] = some x) :
    ∃ (A : Option Addr) (ps : List Pd) (cap : Nat), v = .slice A ps.length cap ∧ PdIn W W.heap.size A ps ∧ ps.length ≤ maxLen := by
  rcases open_slice ht h with ⟨hcs, _⟩ | ⟨a, len, cap, m, n, D, Pl, hcs, _, hl, hm, hmm, _, hi⟩
  · simp at hcs
    exact ⟨none, [], 0, hcs, fun k hk => absurd hk (by simp), by simp⟩
  · simp at hcs hmm
    subst hmm
    have key : ∀ i, i < len → ∃ p : Pd, W.cell? (a.add (i * 2)) = some (.int .i64 p.1) ∧ W.cell? (a.add (i * 2 + 1)) = some (.bool p.2) := by
      intro i hil
      obtain ⟨cs', hc', ht'⟩ := hi i (by omega)
      rw [hC] at hc'
      obtain ⟨ys, n', _, _, hlen, hyl, hf⟩ := DataW.trod_struct he ht'
      obtain ⟨_, hcl, hat⟩ := World.cells?_some hc'
      match cs', hcl with
      | [u0, u1], _ =>
        have g0 := hf 0 f0 rfl
        have g1 := hf 1 f1 rfl
        rw [o0, k0] at g0
        rw [o1, k1] at g1
        match ys, hyl with
        | [y0, y1], _ =>
          simp at g0 g1
          obtain ⟨z0, e0, _, _⟩ := DataW.trod_int h0 g0
          obtain ⟨b1, e1, _⟩ := DataW.trod_bool h1 g1
          simp at e0 e1
          subst e0 e1
          have a0 := hat 0 (by omega)
          have a1 := hat 1 (by omega)
          rw [Go.Deep.add_add] at a0 a1
          exact ⟨(z0, b1), by simpa using a0, by simpa using a1⟩
    let pf : Nat → Pd := fun i => if hi : i < len then (key i hi).choose else pd0
    have hpf : ∀ i, i < len → W.cell? (a.add (i * 2)) = some (.int .i64 (pf i).1) ∧ W.cell? (a.add (i * 2 + 1)) = some (.bool (pf i).2) := by
      intro i hil
      have : pf i = (key i hil).choose := by simp [pf, hil]
      rw [this]
      exact (key i hil).choose_spec
    have hlen : ((List.range len).map pf).length = len := by simp
    refine ⟨some a, (List.range len).map pf, m, by rw [hlen]; exact hcs, fun k hk => ?_, by rw [hlen]; omega⟩
    rw [hlen] at hk
    have hg : ((List.range len).map pf).getD k pd0 = pf k := by simp [List.getD_eq_getElem?_getD, hk]
    rw [hg]
    obtain ⟨q0, q1⟩ := hpf k hk
    obtain ⟨b, off, rfl, hb⟩ := addr_of (a := a) (by simpa using (hpf 0 (by omega)).1)
    rw [add_flat] at q0 q1
    exact ⟨b, off, rfl, hb, q0, by rw [Nat.add_assoc]; exact q1⟩
end
end Go.Proofs.Ytdadokcodklfgaa
