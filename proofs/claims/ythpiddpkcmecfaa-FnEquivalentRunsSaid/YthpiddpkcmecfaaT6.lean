/- The contract of one pass of rebuilding. -/
import Derived.Test.YthpiddpkcmecfaaT5
namespace Go.Proofs.Ythpiddpkcmecfaa
open Go.RowKit Go.Deep Go.Maps Go.WideMaps
set_option maxRecDepth 100000

theorem and_any (a c base p b f : Nat) (vG : Value) (x : List Opt.G) (w : World) (hB : Bld w base p b f vG x) (hd : ∀ j l, j < l → l < x.length → Opt.at_ x j ≠ Opt.at_ x l)
    (hs : ∀ g, g ∈ x → Sm g) (h1 : a < 1000000) (h2 : c < 1000000) (hf : f ≤ 1000) (hx : x.length ≤ 1000) :
    Calls Try.prog 88 #[.pointer (some ⟨p, 0, none⟩), .int .i64 a, .int .i64 c] w (AndOut w base p b f vG (Opt.and3 f x a c)) := by
  rw [and3_mm]
  exact and_core a c (min a c) (max a c) (by omega) base p b f vG x w hB hd hs (by omega) (by omega) hf hx

/-- Block g is just these literals. -/
def LRow (w : World) (g : Nat) (m : List Nat) : Prop := ∃ cs, Row w g 101 cs ∧ FilledI cs (Opt.intL m) m.length
theorem LRow.lt {w : World} {g : Nat} {m : List Nat} (h : LRow w g m) : g < w.heap.size := by
  obtain ⟨cs, hr, _⟩ := h
  exact hr.lt
theorem LRow.ints {w : World} {g : Nat} {m : List Nat} (h : LRow w g m) : IntsAt w w.heap.size (some ⟨g, 0, none⟩) (Opt.intL m) := by
  obtain ⟨cs, hr, hf⟩ := h
  exact hf.ints' hr (Opt.intL_len m)
theorem LRow.below {w w' : World} {B g : Nat} {m : List Nat} (h : LRow w g m) (hb : Below B w w') (hg : g < B) : LRow w' g m := by
  obtain ⟨cs, hr, hf⟩ := h
  exact ⟨cs, hr.below hb hg, hf⟩
theorem getD_set_ne {m : List Nat} {j k v : Nat} (h : j ≠ k) : (m.set j v).getD k 0 = m.getD k 0 := by
  simp [List.getD_eq_getElem?_getD, List.getElem?_set_ne h]
theorem getD_set_eq {m : List Nat} {j v : Nat} (h : j < m.length) : (m.set j v).getD j 0 = v := by
  simp [List.getD_eq_getElem?_getD, h]
theorem LRow.set {w : World} {g : Nat} {m : List Nat} (h : LRow w g m) {j : Nat} (hj : j < m.length) (v : Nat) : LRow (w.setCell ⟨g, j, none⟩ (.int .i64 v)) g (m.set j v) := by
  obtain ⟨cs, hr, hf⟩ := h
  have hsz : cs.size = m.length := by rw [hf.1, Opt.intL_len]
  refine ⟨_, hr.set j _, ?_, fun k hk => ?_⟩
  · rw [Array.size_setIfInBounds, Opt.intL_len, List.length_set, hsz]
  · rw [List.length_set] at hk
    rw [Opt.intL_at]
    by_cases e : j = k
    · subst e
      rw [getD_set_eq hj]
      simp [hsz, hj]
    · rw [Array.getElem?_setIfInBounds_ne e, getD_set_ne e, hf.2 k hk, Opt.intL_at]
theorem LRow.cell {w : World} {g : Nat} {m : List Nat} (h : LRow w g m) {j : Nat} (hj : j < m.length) : w.cell? ⟨g, j, none⟩ = some (.int .i64 (m.getD j 0 : Nat)) := by
  obtain ⟨cs, hr, hf⟩ := h
  rw [hr.cell, hf.2 j hj, Opt.intL_at]
theorem LRow.frozen {w : World} {g : Nat} {m : List Nat} (h : LRow w g m) (j : Nat) : w.frozen? ⟨g, j, none⟩ = false := by
  obtain ⟨cs, hr, hf⟩ := h
  exact hr.frozen j
theorem LRow.buts {w w' : World} {p b g base n : Nat} {v : Value} {xs : List Value} {m : List Nat} (h : LRow w g m) (hb : Buts p b v.ownBlock w w') (ho : w.ownsRow base 46 2 v n xs) (h1 : g ≠ p) (h2 : g ≠ b) : LRow w' g m := by
  obtain ⟨cs, hr, hf⟩ := h
  exact ⟨cs, hb.row hr h1 h2 (own_ne88 hr ho), hf⟩
theorem LRow.far {w : World} {g : Nat} {m : List Nat} (h : LRow w g m) (p : Addr) (u : Value) (hp : g ≠ p.block) : LRow (w.setCell p u) g m := by
  obtain ⟨cs, hr, hf⟩ := h
  exact ⟨cs, hr.far hp u, hf⟩

/-- The names behind k gates: the rest are still 0. -/
def nm (share : Bool) (f : Nat) (gs : List (Opt.G × Bool)) (k : Nat) : List Nat := (Opt.built share f (gs.take k)).2 ++ List.replicate (gs.length - k) 0
section
variable {f : Nat} {gs : List (Opt.G × Bool)}
theorem built_len (share : Bool) (k : Nat) (hk : k ≤ gs.length) : (Opt.built share f (gs.take k)).2.length = f + k := by
  induction k with
  | zero => simp [Opt.built, Opt.evens_len]
  | succ k ih =>
    rw [Opt.built_snoc _ _ _ _ (by omega)]
    have h := ih (by omega)
    unfold Opt.bstep
    split
    · split <;> simp [h] <;> omega
    · simp [h]; omega
theorem nm_len (share : Bool) {k : Nat} (hk : k ≤ gs.length) : (nm share f gs k).length = f + gs.length := by
  unfold nm
  rw [List.length_append, built_len share k hk, List.length_replicate]
  omega
theorem nm_get (share : Bool) {k v : Nat} (hk : k ≤ gs.length) (hv : v < f + k) : (nm share f gs k).getD v 0 = (Opt.built share f (gs.take k)).2.getD v 0 := by
  unfold nm
  rw [List.getD_eq_getElem?_getD, List.getD_eq_getElem?_getD, List.getElem?_append_left (by rw [built_len share k hk]; exact hv)]
theorem nm_map (share : Bool) {k l : Nat} (hk : k ≤ gs.length) (hv : l / 2 < f + k) : Opt.mapL (nm share f gs k) l = Opt.mapL (Opt.built share f (gs.take k)).2 l := by
  unfold Opt.mapL
  rw [nm_get share hk hv]
theorem nm_zero (share : Bool) : nm share f gs 0 = Opt.evens f ++ List.replicate gs.length 0 := rfl
theorem rep_succ (k : Nat) (hk : k < gs.length) : List.replicate (gs.length - k) 0 = 0 :: List.replicate (gs.length - (k + 1)) 0 := by
  rw [show gs.length - k = (gs.length - (k + 1)) + 1 by omega, List.replicate_succ]
theorem nm_snoc {s : List Nat} {z k : Nat} (hs : s.length = f + k) (hk : k < gs.length) : (s ++ [z]) ++ List.replicate (gs.length - (k + 1)) 0 = (s ++ List.replicate (gs.length - k) 0).set (f + k) z := by
  rw [rep_succ k hk, ← hs, List.set_append_right _ _ (Nat.le_refl _), Nat.sub_self, List.set_cons_zero, List.append_assoc, List.singleton_append]
theorem nm_no (share : Bool) {k : Nat} (hk : k < gs.length) (hu : (gs.getD k ((0, 0), false)).2 = false) : nm share f gs (k + 1) = nm share f gs k ∧ (Opt.built share f (gs.take (k + 1))).1 = (Opt.built share f (gs.take k)).1 := by
  unfold nm
  rw [Opt.built_snoc _ _ _ _ hk]
  unfold Opt.bstep
  rw [hu, if_neg (by simp)]
  refine ⟨?_, rfl⟩
  rw [rep_succ k hk, List.append_assoc, List.singleton_append]
theorem nm_yes {k : Nat} (hk : k < gs.length) (hu : (gs.getD k ((0, 0), false)).2 = true) (h1 : (gs.getD k ((0, 0), false)).1.1 / 2 < f + k) (h2 : (gs.getD k ((0, 0), false)).1.2 / 2 < f + k) :
    nm true f gs (k + 1) = (nm true f gs k).set (f + k) (Opt.and3 f (Opt.built true f (gs.take k)).1 (Opt.mapL (nm true f gs k) (gs.getD k ((0, 0), false)).1.1) (Opt.mapL (nm true f gs k) (gs.getD k ((0, 0), false)).1.2)).2 ∧
    (Opt.built true f (gs.take (k + 1))).1 = (Opt.and3 f (Opt.built true f (gs.take k)).1 (Opt.mapL (nm true f gs k) (gs.getD k ((0, 0), false)).1.1) (Opt.mapL (nm true f gs k) (gs.getD k ((0, 0), false)).1.2)).1 := by
  rw [nm_map true (by omega) h1, nm_map true (by omega) h2]
  have hb := Opt.built_snoc true f gs k hk
  unfold Opt.bstep at hb
  rw [hu, if_pos rfl, if_pos rfl] at hb
  refine ⟨?_, by rw [hb]⟩
  show (Opt.built true f (gs.take (k + 1))).2 ++ _ = _
  rw [hb]
  exact nm_snoc (built_len true k (by omega)) hk
end
end Go.Proofs.Ythpiddpkcmecfaa
