/- The contract of the program's Cuts. -/
import Derived.Test.YtkkkkalgfmddbaaCC
import Derived.Test.YtkkkkalgfmddbaaC5
namespace Go.Proofs.Ytkkkkalgfmddbaa
open Go.RowKit Go.Deep Cut

theorem DistH.append {a b : List Value} (ha : DistH a) (hb : DistH b) (hab : ∀ u, u ∈ a → ∀ v, v ∈ b → ∀ x, vblk u = some x → vblk v ≠ some x) : DistH (a ++ b) := by
  intro j k hjk u v hu hv x hx
  by_cases h1 : k < a.length
  · rw [List.getElem?_append_left h1] at hv
    rw [List.getElem?_append_left (by omega)] at hu
    exact ha j k hjk u v hu hv x hx
  · rw [List.getElem?_append_right (by omega)] at hv
    by_cases h2 : j < a.length
    · rw [List.getElem?_append_left h2] at hu
      exact hab u (List.mem_of_getElem? hu) v (List.mem_of_getElem? hv) x hx
    · rw [List.getElem?_append_right (by omega)] at hu
      exact hb (j - a.length) (k - a.length) (by omega) u v hu hv x hx
theorem DistH.one (v : Value) : DistH [v] := fun j k hjk u v' hu hv' => by
  have h1 := (List.getElem?_eq_some_iff.1 hu).1
  have h2 := (List.getElem?_eq_some_iff.1 hv').1
  simp at h1 h2
  omega
theorem AllAt.blk {w : World} {B g cap : Nat} {cs : List Cs} {HH : List (List Value)} (h : AllAt w B cs HH g cap) : ∀ u, u ∈ HH.flatten → ∀ b, vblk u = some b → b < w.heap.size := by
  obtain ⟨hs, h1, h2⟩ := h
  intro u hu b hb
  obtain ⟨H, hH, huH⟩ := List.mem_flatten.1 hu
  obtain ⟨k, hk, e⟩ := List.mem_iff_getElem.1 hH
  obtain ⟨A, c, _, hr⟩ := h2.2.2 k (by have := h2.2.1; omega)
  rw [List.getD_eq_getElem?_getD, List.getElem?_eq_getElem hk, Option.getD_some, e] at hr
  exact (hr.2.blk u huH b hb).2.1
theorem dist_push {w : World} {B g cap : Nat} {cs : List Cs} {HH : List (List Value)} {H : List Value} (h : AllAt w B cs HH g cap) (hd : DistH HH.flatten) (hH : DistH H) (hn : ∀ v, v ∈ H → ∀ b, vblk v = some b → w.heap.size ≤ b) : DistH (HH ++ [H]).flatten := by
  rw [List.flatten_append]
  simp only [List.flatten_cons, List.flatten_nil, List.append_nil]
  exact hd.append hH (fun u hu v hv x hx hx' => by have := h.blk u hu x hx; have := hn v hv x hx'; omega)
theorem LstAt.mono {w : World} {B B' g cap : Nat} {xs : Cs} {hs : List Value} (h : LstAt w B xs hs g cap) (hb : B' ≤ B) : LstAt w B' xs hs g cap := by
  refine ⟨⟨h.1.1, ?_⟩, h.2.kept (fun _ _ => rfl) (fun b hb' => ⟨by have := hb'.1; omega, hb'.2⟩)⟩
  rcases h.1.2 with h | ⟨g', cap', cur, hv, h3, h4⟩
  · exact .inl h
  · exact .inr ⟨g', cap', cur, hv, by omega, h4⟩
def ICutsOut (w : World) (f : Nat) (gs : List Opt.G) (e : Ending) (w' : World) : Prop := ∃ g cap HH, e = .returned (.slice (some ⟨g, 0, none⟩) (f + gs.length) cap) ∧ AllAt w' w.heap.size (cuts f gs) HH g cap ∧ DistH HH.flatten ∧ Below w.heap.size w w'

end Go.Proofs.Ytkkkkalgfmddbaa
