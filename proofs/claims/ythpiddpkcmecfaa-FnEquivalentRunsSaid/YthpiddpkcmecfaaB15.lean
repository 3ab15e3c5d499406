/- The contracts of tables of truth values: copy, size, comparison, marks. -/
import Derived.Test.YthpiddpkcmecfaaB5
import Derived.Test.YthpiddpkcmecfaaW6
namespace Go.Proofs.Ythpiddpkcmecfaa
open Go.RowKit Go.Deep

def RowsAt (w : World) (B : Nat) (A : Option Addr) (rs : List (List Bool)) : Prop :=
  ∀ k, k < rs.length → ∃ b off, A = some ⟨b, off, none⟩ ∧ b < B ∧ ∃ (A' : Option Addr) (cap : Nat), w.cell? ⟨b, off + k, none⟩ = some (.slice A' (rs.getD k []).length cap) ∧ BoolsAt w B A' (rs.getD k [])
theorem RowsAt.below {w w' : World} {B : Nat} {A : Option Addr} {rs : List (List Bool)} (h : RowsAt w B A rs) (hb : Below B w w') : RowsAt w' B A rs := fun k hk => by
  obtain ⟨b, off, e, hlt, A', cap, hc, hx⟩ := h k hk
  exact ⟨b, off, e, hlt, A', cap, (hb.cell (p := ⟨b, off + k, none⟩) hlt).trans hc, hx.below hb⟩
theorem RowsAt.mono {w : World} {B B' : Nat} {A : Option Addr} {rs : List (List Bool)} (h : RowsAt w B A rs) (hb : B ≤ B') : RowsAt w B' A rs := fun k hk => by
  obtain ⟨b, off, e, hlt, A', cap, hc, hx⟩ := h k hk
  exact ⟨b, off, e, by omega, A', cap, hc, hx.mono hb⟩
theorem RowsAt.on {w w' : World} {A : Option Addr} {rs : List (List Bool)} (h : RowsAt w w.heap.size A rs) (hb : Below w.heap.size w w') : RowsAt w' w'.heap.size A rs := (h.below hb).mono hb.size
theorem RowsAt.nil (w : World) (B : Nat) (A : Option Addr) : RowsAt w B A [] := fun k hk => absurd hk (by simp)

/-- The first k rows of a table in a block of its own, each in a block of its own. -/
structure RPart (w : World) (g : Nat) (cs : Array Value) (bs : List Nat) (rs : List (List Bool)) (k : Nat) : Prop where
  row : Row w g 33 cs
  size : cs.size = rs.length
  len : bs.length = k
  cell : ∀ j, j < k → cs[j]? = some (.slice (some ⟨bs.getD j 0, 0, none⟩) (rs.getD j []).length (rs.getD j []).length)
  brow : ∀ j, j < k → BRow w (bs.getD j 0) (rs.getD j [])
  gt : ∀ j, j < k → g < bs.getD j 0
  inc : ∀ j l, j < l → l < k → bs.getD j 0 < bs.getD l 0
theorem RPart.on {w w' : World} {g k : Nat} {cs : Array Value} {bs : List Nat} {rs : List (List Bool)} (h : RPart w g cs bs rs k) (hb : Below w.heap.size w w') : RPart w' g cs bs rs k :=
  ⟨h.row.below hb h.row.lt, h.size, h.len, h.cell, fun j hj => (h.brow j hj).on hb, h.gt, h.inc⟩
theorem getD_snoc_lt {bs : List Nat} {z j : Nat} (h : j < bs.length) : (bs ++ [z]).getD j 0 = bs.getD j 0 := by
  simp [List.getD_eq_getElem?_getD, List.getElem?_append_left h]
theorem getD_snoc_eq (bs : List Nat) (z : Nat) : (bs ++ [z]).getD bs.length 0 = z := by
  simp [List.getD_eq_getElem?_getD]
theorem BRow.farR {w : World} {g : Nat} {xs : List Bool} (h : BRow w g xs) {p : Addr} (u : Value) (hp : g ≠ p.block) : BRow (w.setCell p u) g xs := by
  obtain ⟨cs, hr, hf⟩ := h
  exact ⟨cs, hr.far hp u, hf⟩
theorem RPart.step {w : World} {g k z : Nat} {cs : Array Value} {bs : List Nat} {rs : List (List Bool)} (h : RPart w g cs bs rs k) (hk : k < rs.length) (hz : BRow w z (rs.getD k [])) (hg : g < z) (hb : ∀ j, j < k → bs.getD j 0 < z) :
    RPart (w.setCell ⟨g, k, none⟩ (.slice (some ⟨z, 0, none⟩) (rs.getD k []).length (rs.getD k []).length)) g (cs.setIfInBounds k (.slice (some ⟨z, 0, none⟩) (rs.getD k []).length (rs.getD k []).length)) (bs ++ [z]) rs (k + 1) := by
  have hl := h.len
  refine ⟨h.row.set k _, by simpa using h.size, by simp [hl], fun j hj => ?_, fun j hj => ?_, fun j hj => ?_, fun j l hj hlk => ?_⟩
  · by_cases e : j = k
    · subst e
      rw [← hl, getD_snoc_eq, hl]
      simp [h.size, hk]
    · rw [getD_snoc_lt (by omega), Array.getElem?_setIfInBounds_ne (by omega)]
      exact h.cell j (by omega)
  · by_cases e : j = k
    · subst e
      rw [← hl, getD_snoc_eq, hl]
      exact hz.farR _ (by show z ≠ g; omega)
    · rw [getD_snoc_lt (by omega)]
      exact (h.brow j (by omega)).farR _ (by have := h.gt j (by omega); show bs.getD j 0 ≠ g; omega)
  · by_cases e : j = k
    · subst e
      rw [← hl, getD_snoc_eq]
      exact hg
    · rw [getD_snoc_lt (by omega)]
      exact h.gt j (by omega)
  · by_cases e : l = k
    · subst e
      rw [getD_snoc_lt (by omega), ← hl, getD_snoc_eq]
      exact hb j (by omega)
    · rw [getD_snoc_lt (by omega), getD_snoc_lt (by omega)]
      exact h.inc j l hj (by omega)
/-- A whole table. -/
def RRow (w : World) (g : Nat) (rs : List (List Bool)) : Prop := ∃ cs bs, RPart w g cs bs rs rs.length
theorem RRow.on {w w' : World} {g : Nat} {rs : List (List Bool)} (h : RRow w g rs) (hb : Below w.heap.size w w') : RRow w' g rs := by
  obtain ⟨cs, bs, h⟩ := h
  exact ⟨cs, bs, h.on hb⟩
theorem RRow.lt {w : World} {g : Nat} {rs : List (List Bool)} (h : RRow w g rs) : g < w.heap.size := by
  obtain ⟨cs, bs, h⟩ := h
  exact h.row.lt
theorem RRow.rows {w : World} {g : Nat} {rs : List (List Bool)} (h : RRow w g rs) : RowsAt w w.heap.size (some ⟨g, 0, none⟩) rs := by
  obtain ⟨cs, bs, h⟩ := h
  exact fun k hk => ⟨g, 0, rfl, h.row.lt, some ⟨bs.getD k 0, 0, none⟩, _, by rw [Nat.zero_add, h.row.cell]; exact h.cell k hk, (h.brow k hk).bools⟩

theorem Try.infoBS : (Try.prog.info? 33).map (fun i => (i.zero, i.size, i.bytes)) = some (some (.slice none 0 0), 1, 24) := by kernel_rfl

/-- The sum of a number and of the lengths of the first rows. -/
def offs (K : Nat) (rs : List (List Bool)) : Nat → Nat
  | 0 => K
  | j + 1 => offs K rs j + (rs.getD j []).length
theorem offs_mono (K : Nat) (rs : List (List Bool)) {j l : Nat} (h : j ≤ l) : offs K rs j ≤ offs K rs l := by
  induction l with
  | zero => have : j = 0 := by omega
            subst this; exact Nat.le_refl _
  | succ l ih =>
    by_cases e : j = l + 1
    · subst e; exact Nat.le_refl _
    · have := ih (by omega)
      simp only [offs]
      omega
theorem row_le (K : Nat) (rs : List (List Bool)) {k : Nat} (hk : k < rs.length) : (rs.getD k []).length ≤ offs K rs rs.length := by
  have h1 := offs_mono K rs (show k + 1 ≤ rs.length by omega)
  simp only [offs] at h1
  omega

end Go.Proofs.Ythpiddpkcmecfaa
/- The contracts of size and marks of tables of truth values. -/
namespace Go.Proofs.Ythpiddpkcmecfaa
open Go.RowKit Go.Deep

/-- The table whose rows bear marks, numbered on from K. -/
def MRow (w : World) (g : Nat) (cs : Array Value) (bs : List Nat) (rs : List (List Bool)) (K : Nat) : Prop :=
  Row w g 33 cs ∧ (∀ j, j < rs.length → cs[j]? = some (.slice (some ⟨bs.getD j 0, 0, none⟩) (rs.getD j []).length (rs.getD j []).length)) ∧ (∀ j, j < rs.length → BRow w (bs.getD j 0) (mk3 (offs K rs j) (rs.getD j []).length))
theorem MRow.on {w w' : World} {g K : Nat} {cs : Array Value} {bs : List Nat} {rs : List (List Bool)} (h : MRow w g cs bs rs K) (hb : Below w.heap.size w w') : MRow w' g cs bs rs K :=
  ⟨h.1.below hb h.1.lt, h.2.1, fun j hj => (h.2.2 j hj).on hb⟩

end Go.Proofs.Ythpiddpkcmecfaa
