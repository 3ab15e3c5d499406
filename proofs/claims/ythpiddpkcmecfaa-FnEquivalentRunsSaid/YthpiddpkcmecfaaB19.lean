/- Tables of truth values as results: what marks leave alone. -/
import Derived.Test.YthpiddpkcmecfaaB15
import Derived.Test.YthpiddpkcmecfaaB17
namespace Go.Proofs.Ythpiddpkcmecfaa
open Go.RowKit Go.Deep

theorem offs_le (K m : Nat) (rs : List (List Bool)) (h : ∀ k, k < rs.length → (rs.getD k []).length ≤ m) : ∀ j, j ≤ rs.length → offs K rs j ≤ K + j * m := by
  intro j
  induction j with
  | zero => intro _; simp [offs]
  | succ j ih =>
    intro hj
    have h1 := ih (by omega)
    have h2 := h j (by omega)
    simp only [offs]
    rw [Nat.add_mul]
    omega
theorem offs_add (K : Nat) (rs : List (List Bool)) (j : Nat) : offs K rs j = K + offs 0 rs j := by
  induction j with
  | zero => simp [offs]
  | succ j ih => simp only [offs, ih]; omega
theorem simul_le (i : Int) (ns : List Int) (gs : List (Int × Int)) (os : List Int) (rs : List (List Bool)) (K : Nat) : (Circ.simulV i ns gs os rs).length ≤ 40 ∧ offs K (Circ.simulV i ns gs os rs) (Circ.simulV i ns gs os rs).length ≤ K + 120 := by
  cases h : (Circ.validB i ns gs os && Circ.rowsB i rs)
  · have hs : Circ.simulV i ns gs os rs = [] := by rw [Circ.simulV, if_neg (by rw [h]; decide)]
    rw [hs]
    exact ⟨by simp, by simp [offs]⟩
  · have hs : Circ.simulV i ns gs os rs = Circ.simV gs os ns rs (List.replicate ns.length false) := by rw [Circ.simulV, if_pos h]
    obtain ⟨h1, h2⟩ : Circ.validB i ns gs os = true ∧ Circ.rowsB i rs = true := by simpa using h
    obtain ⟨a0, a1, a2, a3, a4⟩ := Circ.valid_within h1
    have h40 : rs.length ≤ 40 := by simp only [Circ.rowsB, Bool.and_eq_true, decide_eq_true_eq] at h2; exact h2.1
    have hl : (Circ.simV gs os ns rs (List.replicate ns.length false)).length = rs.length := Circ.simV_len _ _ _ _ _
    rw [hs]
    refine ⟨by rw [hl]; exact h40, ?_⟩
    have := offs_le K 3 (Circ.simV gs os ns rs (List.replicate ns.length false)) (fun k hk => by rw [Circ.simV_get _ _ _ _ _ _ (by rw [← hl]; exact hk), Circ.outV_len]; exact a4) _ (Nat.le_refl _)
    rw [hl] at this ⊢
    omega

/-- A table whose rows lie below hi. -/
def RIn (w : World) (g hi : Nat) (rs : List (List Bool)) : Prop := ∃ cs bs, RPart w g cs bs rs rs.length ∧ ∀ j, j < rs.length → bs.getD j 0 < hi
theorem RIn.on {w w' : World} {g hi : Nat} {rs : List (List Bool)} (h : RIn w g hi rs) (hb : Below w.heap.size w w') : RIn w' g hi rs := by
  obtain ⟨cs, bs, h, h2⟩ := h
  exact ⟨cs, bs, h.on hb, h2⟩
theorem RRow.rin {w : World} {g : Nat} {rs : List (List Bool)} (h : RRow w g rs) : RIn w g w.heap.size rs := by
  obtain ⟨cs, bs, h⟩ := h
  exact ⟨cs, bs, h, fun j hj => (h.brow j hj).lt⟩
theorem RIn.row {w : World} {g hi : Nat} {rs : List (List Bool)} (h : RIn w g hi rs) : RRow w g rs := by
  obtain ⟨cs, bs, h, _⟩ := h
  exact ⟨cs, bs, h⟩
theorem Mid.rpart {lo hi : Nat} {w w' : World} (h : Mid lo hi w w') {g k : Nat} {cs : Array Value} {bs : List Nat} {rs : List (List Bool)} (hr : RPart w g cs bs rs k) (hg : hi ≤ g) : RPart w' g cs bs rs k :=
  ⟨h.row hr.row (.inr hg), hr.size, hr.len, hr.cell, fun j hj => h.brow (hr.brow j hj) (.inr (by have := hr.gt j hj; omega)), hr.gt, hr.inc⟩
theorem Mid.rin {lo hi : Nat} {w w' : World} (h : Mid lo hi w w') {g t : Nat} {rs : List (List Bool)} (hr : RIn w g t rs) (hg : hi ≤ g) : RIn w' g t rs := by
  obtain ⟨cs, bs, h1, h2⟩ := hr
  exact ⟨cs, bs, h.rpart h1 hg, h2⟩
theorem Mid.rsl {lo hi : Nat} {w w' : World} (h : Mid lo hi w w') {A : Option Addr} {rs : List (List Bool)} (hr : RSl w hi A rs) : RSl w' hi A rs := by
  rcases hr with ⟨rfl, rfl⟩ | ⟨g, rfl, hl, cs, bs, hr⟩
  · exact .inl ⟨rfl, rfl⟩
  · exact .inr ⟨g, rfl, hl, cs, bs, h.rpart hr hl⟩
theorem Mid.rows {lo hi B : Nat} {w w' : World} (h : Mid lo hi w w') {A : Option Addr} {rs : List (List Bool)} (hr : RowsAt w B A rs) (hB : B ≤ lo) (hs : lo ≤ w.heap.size) : RowsAt w' B A rs := hr.below ((h.below hs).mono hB)

def MSl (w : World) (A : Option Addr) (rs : List (List Bool)) (K : Nat) : Prop := (A = none ∧ rs = []) ∨ ∃ g cs bs, A = some ⟨g, 0, none⟩ ∧ MRow w g cs bs rs K
theorem MSl.on {w w' : World} {A : Option Addr} {rs : List (List Bool)} {K : Nat} (h : MSl w A rs K) (hb : Below w.heap.size w w') : MSl w' A rs K := by
  rcases h with ⟨rfl, rfl⟩ | ⟨g, cs, bs, rfl, h⟩
  · exact .inl ⟨rfl, rfl⟩
  · exact .inr ⟨g, cs, bs, rfl, h.on hb⟩
end Go.Proofs.Ythpiddpkcmecfaa
