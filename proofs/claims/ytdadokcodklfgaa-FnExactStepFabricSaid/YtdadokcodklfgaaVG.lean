/- A configuration in memory that is changed in place. -/
import Derived.Test.YtdadokcodklfgaaKC
import Derived.Test.YtdadokcodklfgaaKV
namespace Go.Proofs.Ytdadokcodklfgaa
open Go.RowKit Go.Deep Cut

theorem DistH.put {hs : List Value} (h : DistH hs) (i : Nat) {v : Value} (hv : vblk v = none) : DistH (hs.set i v) := by
  intro j k hjk u u' hu hu' b hb
  rw [List.getElem?_set] at hu hu'
  split at hu
  · split at hu
    · injection hu with hu; subst hu; rw [hv] at hb; cases hb
    · cases hu
  · split at hu'
    · split at hu'
      · injection hu' with hu'; subst hu'; rw [hv]; simp
      · cases hu'
    · exact h j k hjk u u' hu hu' b hb
theorem getD_setT {α : Type} (l : List α) (i j : Nat) (v d : α) : (l.set i v).getD j d = if i = j ∧ j < l.length then v else l.getD j d := by
  rw [List.getD_eq_getElem?_getD, List.getElem?_set, List.getD_eq_getElem?_getD]
  by_cases h : i = j
  · subst h
    by_cases h2 : i < l.length
    · simp [h2]
    · simp [h2]
  · simp [h]
theorem row_ne {w : World} {g g' : Nat} {t t' : TypeId} {cs cs' : Array Value} (h : Row w g t cs) (h' : Row w g' t' cs') (ht : t ≠ t') : g ≠ g' := fun e => by
  subst e
  unfold Row at h h'
  rw [h] at h'
  injection h' with h'
  injection h' with _ h'
  exact ht h'
/-- A tile's cells. -/
structure TileK (w : World) (B g : Nat) (hs : List Value) (k : Nat) (x : Tl) (b1 c1 b2 c2 : Nat) : Prop where
  v0 : w.cell? ⟨g, k * 4, none⟩ = some (.int .i64 x.1)
  v1 : w.cell? ⟨g, k * 4 + 1, none⟩ = some (.slice (some ⟨b1, 0, none⟩) x.2.1.length c1)
  v2 : w.cell? ⟨g, k * 4 + 2, none⟩ = some (.bool x.2.2.1)
  v3 : w.cell? ⟨g, k * 4 + 3, none⟩ = some (.slice (some ⟨b2, 0, none⟩) x.2.2.2.length c2)
  fz : ∀ j, w.frozen? ⟨g, j, none⟩ = false
  h1 : hs[k * 4 + 1]? = some (.slice (some ⟨b1, 0, none⟩) x.2.1.length c1)
  h3 : hs[k * 4 + 3]? = some (.slice (some ⟨b2, 0, none⟩) x.2.2.2.length c2)
  r1 : ∃ cs, Row w b1 3 cs ∧ ∀ j, j < x.2.1.length → cs[j]? = some (.int .i64 (x.2.1.getD j 0))
  r2 : ∃ cs, Row w b2 3 cs ∧ ∀ j, j < x.2.2.2.length → cs[j]? = some (.int .i64 (x.2.2.2.getD j 0))
  lo : B ≤ b1 ∧ B ≤ b2 ∧ b1 < w.heap.size ∧ b2 < w.heap.size ∧ b1 ≠ g ∧ b2 ≠ g ∧ b1 ≠ b2
  le : x.2.1.length ≤ c1 ∧ x.2.2.2.length ≤ c2
theorem CfAt.tile {w : World} {B : Nat} {ts : List Tl} {ps : List Pd} {hs : List Value} {g tc gp pc : Nat} (h : CfAt w B ts ps hs (some ⟨g, 0, none⟩) tc (some ⟨gp, 0, none⟩) pc) {k : Nat} (hk : k < ts.length) (p1 : 0 < (ts.getD k tl0).2.1.length) (p2 : 0 < (ts.getD k tl0).2.2.2.length) :
    ∃ b1 c1 b2 c2 : Nat, TileK w B g hs k (ts.getD k tl0) b1 c1 b2 c2 := by
  obtain ⟨cur, hrow, hBg, hnc, hcs, hhl, hget⟩ := own_partsE h.tl.1
  obtain ⟨A1, c1, A2, c2, ⟨e0, e1, e2, e3⟩, ⟨x1, x2⟩, hc⟩ := h.tl.2.2 k hk
  rcases x1 with x1 | ⟨b1, cs1, rfl, hS1, hr1, hz1⟩
  · rw [x1] at p1; simp at p1
  rcases x2 with x2 | ⟨b2, cs2, rfl, hS2, hr2, hz2⟩
  · rw [x2] at p2; simp at p2
  have n1 : b1 ≠ g := fun e => by have := hS1.2.2; rw [e] at this; simp at this
  have n2 : b2 ≠ g := fun e => by have := hS2.2.2; rw [e] at this; simp at this
  have n3 : b1 ≠ b2 := fun e => by
    have hv1 : vblk (.slice (some ⟨b1, 0, none⟩) (ts.getD k tl0).2.1.length c1) = some b1 := by
      obtain ⟨m, hm⟩ : ∃ m, (ts.getD k tl0).2.1.length = m + 1 := ⟨_, (Nat.succ_pred_eq_of_pos p1).symm⟩
      rw [hm]; rfl
    have hv2 : vblk (.slice (some ⟨b2, 0, none⟩) (ts.getD k tl0).2.2.2.length c2) = some b2 := by
      obtain ⟨m, hm⟩ : ∃ m, (ts.getD k tl0).2.2.2.length = m + 1 := ⟨_, (Nat.succ_pred_eq_of_pos p2).symm⟩
      rw [hm]; rfl
    exact h.dist (k * 4 + 1) (k * 4 + 3) (by omega) _ _ e1 e3 b1 hv1 (by rw [hv2, e])
  refine ⟨b1, c1, b2, c2, ?_, ?_, ?_, ?_, fun j => hrow.frozen j, e1, e3, ⟨cs1, hr1, hz1⟩, ⟨cs2, hr2, hz2⟩, ⟨hS1.1, hS2.1, hS1.2.1, hS2.2.1, n1, n2, n3⟩, hc⟩ <;> (rw [hrow.cell, hget _ (by omega)]; assumption)
theorem setCell_size (w : World) (p : Addr) (u : Value) : (w.setCell p u).heap.size = w.heap.size := by simp [World.setCell]
theorem setCell_far (w : World) {g b : Nat} (j : Nat) (u : Value) (h : b ≠ g) : (w.setCell ⟨g, j, none⟩ u).heap[b]? = w.heap[b]? := Below.heap_setCell _ _ _ _ h
theorem PdAt.far {w : World} {B pc gp : Nat} {ps : List Pd} (h : PdAt w B ps (some ⟨gp, 0, none⟩) pc) {b : Nat} (hb : gp ≠ b) (j : Nat) (u : Value) : PdAt (w.setCell ⟨b, j, none⟩ u) B ps (some ⟨gp, 0, none⟩) pc :=
  own_keepA h fun g' e => by injection e with e; injection e with e; subst e; exact setCell_far w j u hb
theorem TlAt.far {w : World} {B tc g gp : Nat} {ts : List Tl} {hs : List Value} (h : TlAt w B ts hs (some ⟨g, 0, none⟩) tc) {cs : Array Value} (hp : Row w gp 81 cs) (j : Nat) (u : Value) : TlAt (w.setCell ⟨gp, j, none⟩ u) B ts hs (some ⟨g, 0, none⟩) tc := by
  obtain ⟨_, h1, _⟩ := own_partsE h.1
  refine ⟨own_keepA h.1 (fun g' e => by injection e with e; injection e with e; subst e; exact setCell_far w _ _ (row_ne h1 hp (by decide))), h.2.1, fun i hi => ?_⟩
  obtain ⟨A1, c1, A2, c2, e, ⟨x1, x2⟩, hc⟩ := h.2.2 i hi
  have key : ∀ {A x}, LeafZ w (OffA w B (some ⟨g, 0, none⟩)) A x → LeafZ (w.setCell ⟨gp, j, none⟩ u) (OffA (w.setCell ⟨gp, j, none⟩ u) B (some ⟨g, 0, none⟩)) A x := fun {A x} hx => by
    rcases hx with hx | ⟨b', cs', rfl, hs', hr, hz⟩
    · exact .inl hx
    · exact .inr ⟨b', cs', rfl, OffA.on (by rw [setCell_size]; exact Nat.le_refl _) _ hs', (setCell_far w j u (row_ne hr hp (by decide))).trans hr, hz⟩
  exact ⟨A1, c1, A2, c2, e, ⟨key x1, key x2⟩, hc⟩
end Go.Proofs.Ytdadokcodklfgaa
