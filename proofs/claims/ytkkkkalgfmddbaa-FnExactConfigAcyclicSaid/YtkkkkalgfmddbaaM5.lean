/- Places in a list of lists that is laid end to end; no program. -/
import Derived.Test.YtkkkkalgfmddbaaQD
import Derived.Test.YtkkkkalgfmddbaaM1
import Derived.Test.YtkkkkalgfmddbaaM6
import Derived.Test.YtkkkkalgfmddbaaCD
import Derived.Deep.DeepCutAuto
import Derived.Deep.CutBlock
namespace Go.Proofs.Ytkkkkalgfmddbaa

/-- How many stand ahead of list r. -/
def sg {α : Type} : List (List α) → Nat → Nat
  | _, 0 => 0
  | [], _ + 1 => 0
  | a :: L, r + 1 => a.length + sg L r
theorem sg_zero {α : Type} (L : List (List α)) : sg L 0 = 0 := by cases L <;> rfl
theorem sg_step {α : Type} : ∀ (L : List (List α)) (r : Nat), r < L.length → sg L (r + 1) = sg L r + (L.getD r []).length
  | [], r, h => by simp at h
  | a :: L, 0, _ => by simp [sg]
  | a :: L, r + 1, h => by
    have := sg_step L r (by simpa using h)
    simp only [sg] at this ⊢
    rw [this]
    simp
    omega
theorem sg_all {α : Type} : ∀ (L : List (List α)), sg L L.length = L.flatten.length
  | [] => rfl
  | a :: L => by simp [sg, sg_all L]
theorem sg_mono {α : Type} (L : List (List α)) {r : Nat} (h : r ≤ L.length) : sg L r ≤ L.flatten.length := by
  rw [← sg_all]
  obtain ⟨d, hd⟩ := Nat.le.dest h
  rw [← hd]
  have : ∀ d, r + d ≤ L.length → sg L r ≤ sg L (r + d) := fun d => by
    induction d with
    | zero => intro _; exact Nat.le_refl _
    | succ d ih =>
      intro h
      have h1 := sg_step L (r + d) (by omega)
      have h2 := ih (by omega)
      show _ ≤ sg L (r + d + 1)
      omega
  exact this d (by omega)
theorem flat_get {α : Type} : ∀ (L : List (List α)) (r j : Nat), r < L.length → j < (L.getD r []).length → L.flatten[sg L r + j]? = (L.getD r [])[j]?
  | [], r, _, h, _ => by simp at h
  | a :: L, 0, j, _, hj => by
    simp at hj
    simp [sg, List.getElem?_append_left hj]
  | a :: L, r + 1, j, h, hj => by
    have := flat_get L r j (by simpa using h) (by simpa using hj)
    simp only [sg, List.flatten_cons]
    rw [List.getElem?_append_right (by omega), show a.length + sg L r + j - a.length = sg L r + j by omega, this]
    simp
theorem flat_split {α : Type} : ∀ (L : List (List α)) (i : Nat), i < L.flatten.length → ∃ r j, r < L.length ∧ j < (L.getD r []).length ∧ i = sg L r + j
  | [], i, h => by simp at h
  | a :: L, i, h => by
    by_cases h1 : i < a.length
    · exact ⟨0, i, by simp, by simpa using h1, by simp [sg]⟩
    · obtain ⟨r, j, hr, hj, e⟩ := flat_split L (i - a.length) (by rw [List.flatten_cons, List.length_append] at h; omega)
      exact ⟨r + 1, j, by simpa using hr, by simpa using hj, by simp only [sg]; omega⟩
theorem sg_congr {α β : Type} : ∀ (L : List (List α)) (M : List (List β)) (r : Nat), L.length = M.length → (∀ k, k < L.length → (L.getD k []).length = (M.getD k []).length) → sg L r = sg M r
  | [], [], r, _, _ => by cases r <;> rfl
  | [], _ :: _, _, h, _ => by simp at h
  | _ :: _, [], _, h, _ => by simp at h
  | a :: L, b :: M, 0, _, _ => rfl
  | a :: L, b :: M, r + 1, h, hk => by
    have h0 := hk 0 (by simp)
    have := sg_congr L M r (by simpa using h) (fun k hk' => by have := hk (k + 1) (by simpa using hk'); simpa using this)
    simp only [sg]
    simp at h0
    omega
theorem sg_le {α : Type} (L : List (List α)) (r : Nat) : ∀ d, r + d ≤ L.length → sg L r ≤ sg L (r + d)
  | 0, _ => Nat.le_refl _
  | d + 1, h => by
    have h1 := sg_step L (r + d) (by omega)
    have h2 := sg_le L r d (by omega)
    show _ ≤ sg L (r + d + 1)
    omega
theorem sg_lt {α : Type} (L : List (List α)) {r r' j j' : Nat} (h : r < r') (hr : r' < L.length) (hj : j < (L.getD r []).length) : sg L r + j < sg L r' + j' := by
  have h1 := sg_step L r (by omega)
  have h2 := sg_le L (r + 1) (r' - (r + 1)) (by omega)
  rw [show r + 1 + (r' - (r + 1)) = r' by omega] at h2
  omega
end Go.Proofs.Ytkkkkalgfmddbaa
/- The contract of mappingOf. -/
namespace Go.Proofs.Ytkkkkalgfmddbaa
open Go.RowKit Go.Deep Cut

theorem IntsAt.farT {w : World} {B g : Nat} {t : TypeId} {cs : Array Value} {A : Option Addr} {xs : List Int} (h : IntsAt w B A xs) (r : Row w g t cs) (hcs : ∀ (j : Nat) (v : Int), cs[j]? ≠ some (.int .i64 v)) (j : Nat) (u : Value) : IntsAt (w.setCell ⟨g, j, none⟩ u) B A xs := fun k hk => by
  obtain ⟨b, off, e, hb, hc⟩ := h k hk
  refine ⟨b, off, e, hb, ?_⟩
  by_cases e2 : b = g
  · subst e2
    rw [r.cell] at hc
    exact absurd hc (hcs _ _)
  · rw [World.cell?_setCell_far w ⟨g, j, none⟩ ⟨b, off + k, none⟩ u (fun h => e2 h.symm)]
    exact hc
theorem AllAt.capAt {w : World} {B g cap : Nat} {cs : List Cs} {HH : List (List Value)} (h : AllAt w B cs HH g cap) (v : Nat) (hv : v < cs.length) :
    ∃ (A' : Option Addr) (cap' : Nat), w.cell? ⟨g, v, none⟩ = some (.slice A' (cs.getD v []).length cap') ∧ (cs.getD v []).length ≤ cap' ∧ RowIn w (Off w B g) A' (HH.getD v []) (cs.getD v []) := by
  obtain ⟨hs, h1, h2⟩ := h
  obtain ⟨A', cap', e, hx⟩ := h2.2.2 v hv
  exact ⟨A', cap', by rw [h1.cellAt v (by have := h1.1; have := h2.1; omega)]; exact e.1, e.2, hx⟩
theorem row0 (w : World) (c0 c1 c2 : Array Value) (t0 t1 t2 : TypeId) : Row (((w.alloc (.cells c0 t0)).alloc (.cells c1 t1)).alloc (.cells c2 t2)).drew w.heap.size t0 c0 := (Below.heap_alloc _ _ _ (by simp; omega)).trans ((Below.heap_alloc _ _ _ (by simp)).trans (heap_alloc_new w _))
theorem row1 (w : World) (c0 c1 c2 : Array Value) (t0 t1 t2 : TypeId) : Row (((w.alloc (.cells c0 t0)).alloc (.cells c1 t1)).alloc (.cells c2 t2)).drew (w.heap.size + 1) t1 c1 := (Below.heap_alloc _ _ _ (by simp)).trans (by
  have h := heap_alloc_new (w.alloc (.cells c0 t0)) (.cells c1 t1)
  simpa using h)
theorem row2 (w : World) (c0 c1 c2 : Array Value) (t0 t1 t2 : TypeId) : Row (((w.alloc (.cells c0 t0)).alloc (.cells c1 t1)).alloc (.cells c2 t2)).drew (w.heap.size + 1 + 1) t2 c2 := by
  have h := heap_alloc_new ((w.alloc (.cells c0 t0)).alloc (.cells c1 t1)) (.cells c2 t2)
  rwa [show ((w.alloc (.cells c0 t0)).alloc (.cells c1 t1)).heap.size = w.heap.size + 1 + 1 by simp] at h
theorem rowB (w : World) (c0 c1 c2 : Array Value) (t0 t1 t2 : TypeId) : Below w.heap.size w (((w.alloc (.cells c0 t0)).alloc (.cells c1 t1)).alloc (.cells c2 t2)).drew := ((((Below.refl _ _).alloc (Nat.le_refl _) _).alloc (by simp) _).alloc (by simp; omega) _).drew

theorem late_cg {a b : List Nat} (h : ∀ v, a.getD v 0 = b.getD v 0) (x : List Nat) : late a x = late b x := late_congr (fun l _ => h l)
theorem better_cg {a b : List Nat} (h : ∀ v, a.getD v 0 = b.getD v 0) (x y : List Nat) : better a x y = better b x y := by simp only [better, late_cg h]
theorem pick_cg {a b : List Nat} (h : ∀ v, a.getD v 0 = b.getD v 0) (L : Cs) : ∀ m, pick a L m = pick b L m
  | 0 => rfl
  | m + 1 => by simp only [pick, better_cg h, pick_cg h L m]
theorem getD_over {α : Type} (l : List α) (d : α) {v : Nat} (h : l.length ≤ v) : l.getD v d = d := by rw [List.getD_eq_getElem?_getD, List.getElem?_eq_none h]; rfl
theorem setA {cs : Array Value} {nn j t : Nat} {M : List Nat} {z : Int} (hz : z = (t : Int)) (hj : j < nn) (hM : M.length = j) (h : cs.size = nn ∧ ∀ v, v < nn → cs[v]? = some (.int .i64 (M.getD v 0 : Nat))) :
    (cs.setIfInBounds j (.int .i64 z)).size = nn ∧ ∀ v, v < nn → (cs.setIfInBounds j (.int .i64 z))[v]? = some (.int .i64 ((M ++ [t]).getD v 0 : Nat)) := by
  subst hz
  refine ⟨by simpa using h.1, fun v hv => ?_⟩
  by_cases e : j = v
  · subst e
    rw [Array.getElem?_setIfInBounds_self_of_lt (by rw [h.1]; exact hj), Circ.getD_app_at _ _ _ _ hM.symm]
  · rw [Array.getElem?_setIfInBounds_ne e, h.2 v hv]
    by_cases e2 : v < M.length
    · rw [Circ.getD_app_lt _ _ _ _ e2]
    · rw [getD_over M 0 (by omega), getD_over (M ++ [t]) 0 (by rw [List.length_append, List.length_singleton]; omega)]
/-- A best cut's header: nil, or that of one of the cuts. -/
def HdrOf (HH : List (List Value)) (cs : List Cs) (v : Nat) (u : Value) (x : List Nat) : Prop := (x = [] ∧ ∃ n c, u = .slice none n c) ∨ ∃ j, (HH.getD v [])[j]? = some u ∧ j < (cs.getD v []).length ∧ (cs.getD v []).getD j [] = x
theorem setB {w : World} {s : Nat} {cs : Array Value} {HH : List (List Value)} {css : List Cs} {nn j m c : Nat} {A : Option Addr} {M : Cs} {x : List Nat} (hj : j < nn) (hM : M.length = j) (hm : x.length = m) (hx : IntsAt w s A (Opt.intL x)) (hp : HdrOf HH css j (.slice A m c) x) (h : cs.size = nn ∧ ∀ v, v < nn → ∃ (A' : Option Addr) (c' : Nat), cs[v]? = some (.slice A' (M.getD v []).length c') ∧ IntsAt w s A' (Opt.intL (M.getD v [])) ∧ HdrOf HH css v (.slice A' (M.getD v []).length c') (M.getD v [])) :
    (cs.setIfInBounds j (.slice A m c)).size = nn ∧ ∀ v, v < nn → ∃ (A' : Option Addr) (c' : Nat), (cs.setIfInBounds j (.slice A m c))[v]? = some (.slice A' ((M ++ [x]).getD v []).length c') ∧ IntsAt w s A' (Opt.intL ((M ++ [x]).getD v [])) ∧ HdrOf HH css v (.slice A' ((M ++ [x]).getD v []).length c') ((M ++ [x]).getD v []) := by
  subst hm
  refine ⟨by simpa using h.1, fun v hv => ?_⟩
  by_cases e : j = v
  · subst e
    rw [Array.getElem?_setIfInBounds_self_of_lt (by rw [h.1]; exact hj), Circ.getD_app_at _ _ _ _ hM.symm]
    exact ⟨A, c, rfl, hx, hp⟩
  · rw [Array.getElem?_setIfInBounds_ne e]
    obtain ⟨A', c', h1, h2, h3⟩ := h.2 v hv
    by_cases e2 : v < M.length
    · rw [Circ.getD_app_lt _ _ _ _ e2]; exact ⟨A', c', h1, h2, h3⟩
    · rw [getD_over M [] (by omega)] at h1 h2 h3
      rw [getD_over (M ++ [x]) [] (by rw [List.length_append, List.length_singleton]; omega)]
      exact ⟨A', c', h1, h2, h3⟩
theorem AllAt.leaf {w : World} {B g cap : Nat} {cs : List Cs} {HH : List (List Value)} (h : AllAt w B cs HH g cap) {v : Nat} (hv : v < cs.length) {A' : Option Addr} {n c : Nat} {x : List Nat} (hd : HdrOf HH cs v (.slice A' n c) x) : LeafIn w (Off w B g) A' x := by
  rcases hd with ⟨rfl, _⟩ | ⟨j, e1, hj, rfl⟩
  · exact .inl rfl
  · obtain ⟨hs, _, h2⟩ := h
    obtain ⟨A2, c2, _, hR⟩ := h2.2.2 v hv
    obtain ⟨A3, c3, e3, hL⟩ := hR.2.2 j hj
    rw [e1] at e3
    injection e3 with e3
    injection e3 with e3 _ _
    subst e3
    exact hL
theorem dist_of {HH : List (List Value)} {cs : List Cs} {xs : Cs} {cells : List Value} (hd : DistH HH.flatten) (hl : cells.length ≤ HH.length) (h : ∀ v, v < cells.length → ∃ u, cells[v]? = some u ∧ HdrOf HH cs v u (xs.getD v [])) : DistH cells := by
  intro j k hjk u v hu hv b hb hb'
  have hk := (List.getElem?_eq_some_iff.1 hv).1
  obtain ⟨u2, e1, p1⟩ := h j (by omega)
  obtain ⟨v2, e2, p2⟩ := h k hk
  rw [hu] at e1
  rw [hv] at e2
  injection e1 with e1
  injection e2 with e2
  subst e1 e2
  rcases p1 with ⟨_, n, c, rfl⟩ | ⟨i1, q1, _, _⟩
  · cases hb
  rcases p2 with ⟨_, n, c, rfl⟩ | ⟨i2, q2, _, _⟩
  · cases hb'
  have l1 := (List.getElem?_eq_some_iff.1 q1).1
  have l2 := (List.getElem?_eq_some_iff.1 q2).1
  exact hd (sg HH j + i1) (sg HH k + i2) (sg_lt HH hjk (by omega) l1) u v (by rw [flat_get HH j i1 (by omega) l1]; exact q1) (by rw [flat_get HH k i2 (by omega) l2]; exact q2) b hb hb'
/-- Slices of integers in blocks of their own from B on, their headers in a block of their own. -/
def OwnL (w : World) (B g : Nat) (xs : Cs) : Prop := ∃ cells, Row w g 31 cells ∧ B ≤ g ∧ cells.size = xs.length ∧ (∀ v, v < xs.length → ∃ (A' : Option Addr) (c' : Nat), cells[v]? = some (.slice A' (xs.getD v []).length c') ∧ LeafIn w (fun b => B ≤ b ∧ b < w.heap.size) A' (xs.getD v [])) ∧ DistH cells.toList
theorem OwnL.list {w : World} {B g : Nat} {xs : Cs} (h : OwnL w B g xs) : ListAt w w.heap.size (some ⟨g, 0, none⟩) xs := fun v hv => by
  obtain ⟨cells, hr, _, _, hk, _⟩ := h
  obtain ⟨A', c', e1, hx⟩ := hk v hv
  exact ⟨g, 0, rfl, hr.lt, A', c', by rw [Nat.zero_add]; exact (hr.cell v).trans e1, (hx.kept (fun _ _ => rfl) (T := fun b => b < w.heap.size) (fun b hb => hb.2)).ints⟩
theorem OwnL.below {w w' : World} {B g : Nat} {xs : Cs} (h : OwnL w B g xs) (hb : Below w.heap.size w w') : OwnL w' B g xs := by
  obtain ⟨cells, hr, h1, h2, hk, hd⟩ := h
  refine ⟨cells, hr.below hb hr.lt, h1, h2, fun v hv => ?_, hd⟩
  obtain ⟨A', c', e1, hx⟩ := hk v hv
  exact ⟨A', c', e1, hx.kept (fun b hb' => hb.block b hb'.2) (fun b hb' => ⟨hb'.1, Nat.lt_of_lt_of_le hb'.2 hb.size⟩)⟩
theorem LeafIn.far {w : World} {S : Nat → Prop} {A : Option Addr} {x : List Nat} (h : LeafIn w S A x) {g : Nat} (hS : ∀ b, S b → b ≠ g) (j : Nat) (u : Value) : LeafIn (w.setCell ⟨g, j, none⟩ u) S A x := by
  rcases h with h | ⟨b, cs, e, hs, hr, hc⟩
  · exact .inl h
  · exact .inr ⟨b, cs, e, hs, hr.far (p := ⟨g, j, none⟩) (hS b hs) u, hc⟩

end Go.Proofs.Ytkkkkalgfmddbaa
