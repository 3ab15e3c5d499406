/- A circuit and a placement, drawn. -/
import Derived.Test.YtliaommpnaagiaaR9
namespace Go.Proofs.Ytliaommpnaagiaa
open Go.RowKit Go.Deep Cut

theorem g4_on {w w' : World} {R cc : Nat} {a0 a1 a2 a3 : Value} (hg : w.grownBy w' (some R)) (hR : R ≠ cc) (h : w.cell? ⟨cc, 0, none⟩ = some a0 ∧ w.cell? ⟨cc, 1, none⟩ = some a1 ∧ w.cell? ⟨cc, 2, none⟩ = some a2 ∧ w.cell? ⟨cc, 3, none⟩ = some a3) : w'.cell? ⟨cc, 0, none⟩ = some a0 ∧ w'.cell? ⟨cc, 1, none⟩ = some a1 ∧ w'.cell? ⟨cc, 2, none⟩ = some a2 ∧ w'.cell? ⟨cc, 3, none⟩ = some a3 :=
  ⟨gb_cell hg hR h.1, gb_cell hg hR h.2.1, gb_cell hg hR h.2.2.1, gb_cell hg hR h.2.2.2⟩
theorem s4_on {w : World} {D cc j : Nat} {u a0 a1 a2 a3 : Value} (hD : D ≠ cc) (h : w.cell? ⟨cc, 0, none⟩ = some a0 ∧ w.cell? ⟨cc, 1, none⟩ = some a1 ∧ w.cell? ⟨cc, 2, none⟩ = some a2 ∧ w.cell? ⟨cc, 3, none⟩ = some a3) : (w.setCell ⟨D, j, none⟩ u).cell? ⟨cc, 0, none⟩ = some a0 ∧ (w.setCell ⟨D, j, none⟩ u).cell? ⟨cc, 1, none⟩ = some a1 ∧ (w.setCell ⟨D, j, none⟩ u).cell? ⟨cc, 2, none⟩ = some a2 ∧ (w.setCell ⟨D, j, none⟩ u).cell? ⟨cc, 3, none⟩ = some a3 := by
  have k : ∀ o, (w.setCell ⟨D, j, none⟩ u).cell? ⟨cc, o, none⟩ = w.cell? ⟨cc, o, none⟩ := fun o => World.cell?_of_block (a := ⟨cc, o, none⟩) (Below.heap_setCell w ⟨D, j, none⟩ u cc (fun e => hD e.symm))
  simp only [k]
  exact h
theorem IntsAt.farN {w : World} {D j B : Nat} {A : Option Addr} {xs : List Int} (h : IntsAt w w.heap.size A xs) (u : Value) (hD : D < B) (hf : FreshA B A) : IntsAt (w.setCell ⟨D, j, none⟩ u) (w.setCell ⟨D, j, none⟩ u).heap.size A xs := fun k hk => by
  obtain ⟨b, off, e, hlt, hc⟩ := h k hk
  have hb := hf b off e
  exact ⟨b, off, e, by simpa using hlt, (World.cell?_of_block (a := ⟨b, off + k, none⟩) (Below.heap_setCell w ⟨D, j, none⟩ u b (by simp; omega))).trans hc⟩

end Go.Proofs.Ytliaommpnaagiaa
