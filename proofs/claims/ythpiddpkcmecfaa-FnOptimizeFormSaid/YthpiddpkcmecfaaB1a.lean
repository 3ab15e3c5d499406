/- Lists of truth values in memory. -/
import Derived.Test.YthpiddpkcmecfaaI
import Derived.Test.YthpiddpkcmecfaaW5
namespace Go.Proofs.Ythpiddpkcmecfaa
open Go.RowKit Go.Deep

def BoolsAt (w : World) (B : Nat) (A : Option Addr) (xs : List Bool) : Prop :=
  ∀ k, k < xs.length → ∃ b off, A = some ⟨b, off, none⟩ ∧ b < B ∧ w.cell? ⟨b, off + k, none⟩ = some (.bool (xs.getD k false))
theorem BoolsAt.below {w w' : World} {B : Nat} {A : Option Addr} {xs : List Bool} (h : BoolsAt w B A xs) (hb : Below B w w') : BoolsAt w' B A xs := fun k hk => by
  obtain ⟨b, off, e, hlt, hc⟩ := h k hk
  exact ⟨b, off, e, hlt, (hb.cell (p := ⟨b, off + k, none⟩) hlt).trans hc⟩
theorem BoolsAt.mono {w : World} {B B' : Nat} {A : Option Addr} {xs : List Bool} (h : BoolsAt w B A xs) (hb : B ≤ B') : BoolsAt w B' A xs := fun k hk => by
  obtain ⟨b, off, e, hlt, hc⟩ := h k hk
  exact ⟨b, off, e, by omega, hc⟩
theorem BoolsAt.on {w w' : World} {A : Option Addr} {xs : List Bool} (h : BoolsAt w w.heap.size A xs) (hb : Below w.heap.size w w') : BoolsAt w' w'.heap.size A xs := (h.below hb).mono hb.size
theorem BoolsAt.nil (w : World) (B : Nat) (A : Option Addr) : BoolsAt w B A [] := fun k hk => absurd hk (by simp)

def FilledB (cs : Array Value) (xs : List Bool) (k : Nat) : Prop := cs.size = xs.length ∧ ∀ j, j < k → cs[j]? = some (.bool (xs.getD j false))
theorem FilledB.start {cs : Array Value} {xs : List Bool} (h : cs.size = xs.length) : FilledB cs xs 0 := ⟨h, fun j hj => absurd hj (by omega)⟩
theorem FilledB.step {cs : Array Value} {xs : List Bool} {k : Nat} (h : FilledB cs xs k) (hk : k < xs.length) : FilledB (cs.setIfInBounds k (.bool (xs.getD k false))) xs (k + 1) := by
  refine ⟨by simpa using h.1, fun j hj => ?_⟩
  by_cases e : k = j
  · subst e
    simp [h.1, hk]
  · rw [Array.getElem?_setIfInBounds_ne e]
    exact h.2 j (by omega)
/-- Block g is just these truth values. -/
def BRow (w : World) (g : Nat) (xs : List Bool) : Prop := ∃ cs, Row w g 4 cs ∧ FilledB cs xs xs.length
theorem BRow.lt {w : World} {g : Nat} {xs : List Bool} (h : BRow w g xs) : g < w.heap.size := by
  obtain ⟨cs, hr, hf⟩ := h
  exact hr.lt
theorem BRow.bools {w : World} {g : Nat} {xs : List Bool} (h : BRow w g xs) : BoolsAt w w.heap.size (some ⟨g, 0, none⟩) xs := by
  obtain ⟨cs, hr, hf⟩ := h
  exact fun k hk => ⟨g, 0, rfl, hr.lt, by rw [Nat.zero_add, hr.cell]; exact hf.2 k hk⟩
theorem BRow.below {w w' : World} {B g : Nat} {xs : List Bool} (h : BRow w g xs) (hb : Below B w w') (hg : g < B) : BRow w' g xs := by
  obtain ⟨cs, hr, hf⟩ := h
  exact ⟨cs, hr.below hb hg, hf⟩
theorem BRow.on {w w' : World} {g : Nat} {xs : List Bool} (h : BRow w g xs) (hb : Below w.heap.size w w') : BRow w' g xs := h.below hb h.lt

theorem Try.infoB : (Try.prog.info? 4).map (fun i => (i.zero, i.size, i.bytes)) = some (some (.bool false), 1, 1) := by kernel_rfl

end Go.Proofs.Ythpiddpkcmecfaa
