/- The contracts of comparison and marks of a list. -/
import Derived.Test.YtliedgaefgomjaaGreatC4
import Derived.Test.YtliedgaefgomjaaGreatW6
import Derived.Test.YtliedgaefgomjaaGreatB1a
import Derived.Test.YtliedgaefgomjaaGreatEL
import Derived.Test.YtliedgaefgomjaaGreatCC
namespace Go.Proofs.YtliedgaefgomjaaGreat
open Go.RowKit Go.Deep Cut

/-- The first n cells bear marks from k on. -/
def MarksC (cs : Array Value) (k n : Nat) : Prop := ∀ t, t < n → cs[t]? = some (.int .i64 ((k + t : Nat) : Int))
end Go.Proofs.YtliedgaefgomjaaGreat
/- The contracts of comparing lookup tables. -/
namespace Go.Proofs.YtliedgaefgomjaaGreat
open Go.RowKit Go.Deep Cut

end Go.Proofs.YtliedgaefgomjaaGreat
/- Marks on the leaves of a list of structs; no function of the laws. -/
namespace Go.Proofs.YtliedgaefgomjaaGreat
open Go.RowKit Go.Deep Cut

def ofT (T : Nat) (ls : List Nat) : Nat → Nat
  | 0 => 0
  | j + 1 => ofT T ls j + (ls.getD j 0 + T)
/-- Leaves in blocks of their own from B on, the first m of them marked. -/
structure HT (w : World) (B T : Nat) (hs : List Value) (ls : List Nat) (m K : Nat) : Prop where
  len : hs.length = ls.length
  lf : ∀ j, j < ls.length → ∃ (A : Option Addr) (cap : Nat), hs[j]? = some (.slice A (ls.getD j 0) cap) ∧ (ls.getD j 0 = 0 ∨ ∃ (b : Nat) (cs : Array Value), A = some ⟨b, 0, none⟩ ∧ B ≤ b ∧ Row w b 3 cs ∧ ls.getD j 0 ≤ cs.size ∧ (j < m → MarksC cs (K + ofT T ls j + 1) (ls.getD j 0)))
theorem HT.on {w w' : World} {B T m K : Nat} {hs : List Value} {ls : List Nat} (h : HT w B T hs ls m K) (hb : Below w.heap.size w w') : HT w' B T hs ls m K := ⟨h.len, fun j hj => by
  obtain ⟨A, cap, e, h1⟩ := h.lf j hj
  refine ⟨A, cap, e, ?_⟩
  rcases h1 with h1 | ⟨b, cs, e1, h2, h3, h4, h5⟩
  · exact .inl h1
  · exact .inr ⟨b, cs, e1, h2, h3.below hb h3.lt, h4, h5⟩⟩
theorem HT.set {w : World} {B T m K g : Nat} {t : TypeId} {cg : Array Value} {hs : List Value} {ls : List Nat} (h : HT w B T hs ls m K) (hg : Row w g t cg) (ht : t ≠ 3) (i : Nat) (u : Value) : HT (w.setCell ⟨g, i, none⟩ u) B T hs ls m K := ⟨h.len, fun j hj => by
  obtain ⟨A, cap, e, h1⟩ := h.lf j hj
  refine ⟨A, cap, e, ?_⟩
  rcases h1 with h1 | ⟨b, cs, e1, h2, h3, h4, h5⟩
  · exact .inl h1
  · exact .inr ⟨b, cs, e1, h2, h3.far (p := ⟨g, i, none⟩) (h3.ne hg (fun e => ht e.symm)) u, h4, h5⟩⟩
/-- One more slice is marked. -/
theorem HT.mark {w w' : World} {B T m K b : Nat} {hs : List Value} {ls : List Nat} {cs' : Array Value} {cap : Nat} (h : HT w B T hs ls m K) (hd : DistH hs) (hm : m < ls.length) (he : hs[m]? = some (.slice (some ⟨b, 0, none⟩) (ls.getD m 0) cap)) (hpos : 0 < ls.getD m 0)
    (ho : Only (some b) w w') (hB : B ≤ b) (hr : Row w' b 3 cs') (hs' : ls.getD m 0 ≤ cs'.size) (hk : MarksC cs' (K + ofT T ls m + 1) (ls.getD m 0)) : HT w' B T hs ls (m + 1) K := ⟨h.len, fun j hj => by
  by_cases e : j = m
  · subst e
    exact ⟨_, cap, he, .inr ⟨b, cs', rfl, hB, hr, hs', fun _ => hk⟩⟩
  · obtain ⟨A, cap2, e2, h1⟩ := h.lf j hj
    refine ⟨A, cap2, e2, ?_⟩
    rcases h1 with h1 | ⟨b2, cs2, e1, h2, h3, h4, h5⟩
    · exact .inl h1
    · by_cases hz : ls.getD j 0 = 0
      · exact .inl hz
      · refine .inr ⟨b2, cs2, e1, h2, ho.row h3 (fun eb => ?_), h4, fun hjm => h5 (by omega)⟩
        injection eb with eb
        subst eb e1
        have v1 : vblk (.slice (some ⟨b2, 0, none⟩) (ls.getD j 0) cap2) = some b2 := by
          obtain ⟨q, hq⟩ : ∃ q, ls.getD j 0 = q + 1 := ⟨ls.getD j 0 - 1, by omega⟩
          rw [hq]; rfl
        have v2 : vblk (.slice (some ⟨b2, 0, none⟩) (ls.getD m 0) cap) = some b2 := by
          obtain ⟨q, hq⟩ : ∃ q, ls.getD m 0 = q + 1 := ⟨ls.getD m 0 - 1, by omega⟩
          rw [hq]; rfl
        rcases Nat.lt_or_gt_of_ne e with h6 | h6
        · exact hd j m h6 _ _ e2 he b2 v1 v2
        · exact hd m j h6 _ _ he e2 b2 v2 v1⟩
theorem HT.skip {w : World} {B T m K : Nat} {hs : List Value} {ls : List Nat} (h : HT w B T hs ls m K) (hz : ls.getD m 0 = 0) : HT w B T hs ls (m + 1) K := ⟨h.len, fun j hj => by
  obtain ⟨A, cap, e, h1⟩ := h.lf j hj
  refine ⟨A, cap, e, ?_⟩
  rcases h1 with h1 | ⟨b, cs, e1, h2, h3, h4, h5⟩
  · exact .inl h1
  · by_cases hj2 : j = m
    · subst hj2; exact .inl hz
    · exact .inr ⟨b, cs, e1, h2, h3, h4, fun h => h5 (by omega)⟩⟩
end Go.Proofs.YtliedgaefgomjaaGreat
/- The contracts of marks on lookup tables. -/
namespace Go.Proofs.YtliedgaefgomjaaGreat
open Go.RowKit Go.Deep Cut

/-- What the marks on struct j of such a row are. -/
def LuMk (cs : Array Value) (ls : List Nat) (K j : Nat) : Prop := cs[j * 3]? = some (.int .i64 (K + ofT 2 ls j : Nat)) ∧ cs[j * 3 + 2]? = some (.int .i64 (K + ofT 2 ls j + 1 + ls.getD j 0 : Nat))
/-- The row of the structs, the first m of them marked. -/
def LuRow (w : World) (g : Nat) (hs : List Value) (ls : List Nat) (m K : Nat) : Prop := ∃ cs, Row w g 108 cs ∧ ls.length * 3 ≤ cs.size ∧ (∀ j, j < ls.length → cs[j * 3 + 1]? = hs[j]?) ∧ ∀ j, j < m → LuMk cs ls K j
theorem LuRow.below {w w' : World} {g m K B : Nat} {hs : List Value} {ls : List Nat} (h : LuRow w g hs ls m K) (hb : Below B w w') (hg : g < B) : LuRow w' g hs ls m K := by
  obtain ⟨cs, hr, h1, h2, h3⟩ := h
  exact ⟨cs, hr.below hb hg, h1, h2, h3⟩
theorem LuRow.lt {w : World} {g m K : Nat} {hs : List Value} {ls : List Nat} (h : LuRow w g hs ls m K) : g < w.heap.size := by
  obtain ⟨cs, hr, _⟩ := h
  exact hr.lt
theorem LuMk.set {cs : Array Value} {hs : List Value} {ls : List Nat} {m K : Nat} (h1 : ls.length * 3 ≤ cs.size) (h2 : ∀ j, j < ls.length → cs[j * 3 + 1]? = hs[j]?) (h3 : ∀ j, j < m → LuMk cs ls K j) (hm : m < ls.length) :
    ls.length * 3 ≤ ((cs.setIfInBounds (m * 3) (.int .i64 (K + ofT 2 ls m : Nat))).setIfInBounds (m * 3 + 2) (.int .i64 (K + ofT 2 ls m + 1 + ls.getD m 0 : Nat))).size ∧ (∀ j, j < ls.length → ((cs.setIfInBounds (m * 3) (.int .i64 (K + ofT 2 ls m : Nat))).setIfInBounds (m * 3 + 2) (.int .i64 (K + ofT 2 ls m + 1 + ls.getD m 0 : Nat)))[j * 3 + 1]? = hs[j]?) ∧ ∀ j, j < m + 1 → LuMk ((cs.setIfInBounds (m * 3) (.int .i64 (K + ofT 2 ls m : Nat))).setIfInBounds (m * 3 + 2) (.int .i64 (K + ofT 2 ls m + 1 + ls.getD m 0 : Nat))) ls K j := by
  refine ⟨by simpa using h1, fun j hj => ?_, fun j hj => ?_⟩
  · rw [Array.getElem?_setIfInBounds_ne (by omega), Array.getElem?_setIfInBounds_ne (by omega)]
    exact h2 j hj
  · by_cases e : j = m
    · subst e
      refine ⟨?_, ?_⟩
      · rw [Array.getElem?_setIfInBounds_ne (by omega), Array.getElem?_setIfInBounds_self_of_lt (by omega)]
      · rw [Array.getElem?_setIfInBounds_self_of_lt (by simp; omega)]
    · obtain ⟨a, b⟩ := h3 j (by omega)
      refine ⟨?_, ?_⟩
      · rw [Array.getElem?_setIfInBounds_ne (by omega), Array.getElem?_setIfInBounds_ne (by omega)]; exact a
      · rw [Array.getElem?_setIfInBounds_ne (by omega), Array.getElem?_setIfInBounds_ne (by omega)]; exact b

end Go.Proofs.YtliedgaefgomjaaGreat
