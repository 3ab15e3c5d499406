/- The contract of determined. -/
import Derived.Test.YtliaommpnaagiaaC5
import Derived.Test.YtliaommpnaagiaaQD
import Derived.Test.YtliaommpnaagiaaB9
import Derived.Test.YtliaommpnaagiaaY2
import Derived.Deep.DeepCutAuto
import Derived.Deep.CutBlock
namespace Go.Proofs.Ytliaommpnaagiaa
open Go.RowKit Go.Deep Cut

/-- What the cells of 'seen' say. -/
def SeenC (T : List Bool → Bool) (n : Nat) (cs : Array Value) : Prop := cs.size = 2 ^ n ∧ ∀ a, a < 2 ^ n → ∃ s : Nat, cs[a]? = some (.int .i64 (s : Int)) ∧ (s = 0 ∨ ∃ bs : List Bool, bs.length = n ∧ num bs = a ∧ s = if T bs then 2 else 1)
theorem SeenC.at {T : List Bool → Bool} {n : Nat} {cs : Array Value} (h : SeenC T n cs) {bs : List Bool} (hb : bs.length = n) : ∃ s : Nat, cs[num bs]? = some (.int .i64 (s : Int)) ∧ (s = 0 ∨ s = if T bs then 2 else 1) := by
  obtain ⟨s, h1, h2⟩ := h.2 (num bs) (by rw [← hb]; exact num_lt bs)
  refine ⟨s, h1, ?_⟩
  rcases h2 with h2 | ⟨bs', h3, h4, h5⟩
  · exact .inl h2
  · rw [num_inj (by rw [h3, hb]) h4] at h5
    exact .inr h5
theorem SeenC.set {T : List Bool → Bool} {n : Nat} {cs : Array Value} (h : SeenC T n cs) {bs : List Bool} (hb : bs.length = n) {s : Nat} (hs : s = if T bs then 2 else 1) : SeenC T n (cs.setIfInBounds (num bs) (.int .i64 (s : Int))) := by
  refine ⟨by simpa using h.1, fun a ha => ?_⟩
  by_cases e : num bs = a
  · subst e
    refine ⟨s, ?_, .inr ⟨bs, hb, rfl, hs⟩⟩
    have := h.1
    rw [Array.getElem?_setIfInBounds, if_pos rfl, if_pos (by omega)]
  · rw [Array.getElem?_setIfInBounds_ne e]
    exact h.2 a ha
theorem four_on {w w' : World} {cc : Nat} {a0 a1 a2 a3 : Value} (hb : Below w.heap.size w w')
    (h : w.cell? ⟨cc, 0, none⟩ = some a0 ∧ w.cell? ⟨cc, 1, none⟩ = some a1 ∧ w.cell? ⟨cc, 2, none⟩ = some a2 ∧ w.cell? ⟨cc, 3, none⟩ = some a3) :
    w'.cell? ⟨cc, 0, none⟩ = some a0 ∧ w'.cell? ⟨cc, 1, none⟩ = some a1 ∧ w'.cell? ⟨cc, 2, none⟩ = some a2 ∧ w'.cell? ⟨cc, 3, none⟩ = some a3 := by
  have k : ∀ (a : Addr) (u : Value), w.cell? a = some u → w'.cell? a = some u := fun a u h => (hb.cell (World.block_lt_of_cell? w a h)).trans h
  exact ⟨k _ _ h.1, k _ _ h.2.1, k _ _ h.2.2.1, k _ _ h.2.2.2⟩
theorem map_take_snoc (x : List Nat) (val : Nat → Bool) (k : Nat) (hk : k < x.length) : (x.take (k + 1)).map val = (x.take k).map val ++ [val (x.getD k 0)] := by
  rw [take_succ_getD x k 0 hk, List.map_append]; rfl

end Go.Proofs.Ytliaommpnaagiaa
