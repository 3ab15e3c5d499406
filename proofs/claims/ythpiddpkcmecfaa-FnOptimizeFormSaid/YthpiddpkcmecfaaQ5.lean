/- Plain mathematics of optimization: the same for circuits as the program has them. -/
import Derived.Test.YthpiddpkcmecfaaQ4
import Derived.Test.YthpiddpkcmecfaaL
namespace Opt
open Circ
def natG (gs : List (Int × Int)) : List G := gs.map fun g => (g.1.toNat, g.2.toNat)
def natL (xs : List Int) : List Nat := xs.map Int.toNat
def intG (gs : List G) : List (Int × Int) := gs.map fun g => ((g.1 : Int), (g.2 : Int))
def intL (xs : List Nat) : List Int := xs.map fun (x : Nat) => (x : Int)
theorem natG_len (gs : List (Int × Int)) : (natG gs).length = gs.length := by simp [natG]
theorem natL_len (xs : List Int) : (natL xs).length = xs.length := by simp [natL]
theorem intG_len (gs : List G) : (intG gs).length = gs.length := by simp [intG]
theorem intL_len (xs : List Nat) : (intL xs).length = xs.length := by simp [intL]
theorem nat_intG (gs : List G) : natG (intG gs) = gs := by simp [natG, intG, Function.comp_def]
theorem nat_intL (xs : List Nat) : natL (intL xs) = xs := by simp [natL, intL, Function.comp_def]
theorem natG_at (gs : List (Int × Int)) (k : Nat) : at_ (natG gs) k = ((gs.getD k (0, 0)).1.toNat, (gs.getD k (0, 0)).2.toNat) := by
  by_cases h : k < gs.length <;> simp [at_, natG, List.getD_eq_getElem?_getD, h]
theorem intG_at (gs : List G) (k : Nat) : (intG gs).getD k (0, 0) = (((at_ gs k).1 : Int), ((at_ gs k).2 : Int)) := by
  by_cases h : k < gs.length <;> simp [at_, intG, List.getD_eq_getElem?_getD, h]
theorem intL_at (xs : List Nat) (k : Nat) : (intL xs).getD k 0 = (xs.getD k 0 : Int) := by
  by_cases h : k < xs.length <;> simp [intL, List.getD_eq_getElem?_getD, h]
theorem natL_at (xs : List Int) (k : Nat) : (natL xs).getD k 0 = (xs.getD k 0).toNat := by
  by_cases h : k < xs.length <;> simp [natL, List.getD_eq_getElem?_getD, h]
theorem litsOk_mem {xs : List Int} {c : Int} (h : litsOk xs c = true) {x : Int} (hx : x ∈ xs) : 0 ≤ x ∧ x < 2 * c := by
  unfold litsOk at h
  rw [List.all_eq_true] at h
  exact litOk_inv (h x hx)
theorem litsOk_of {xs : List Int} {c : Int} (h : ∀ x, x ∈ xs → 0 ≤ x ∧ x < 2 * c) : litsOk xs c = true := by
  unfold litsOk
  rw [List.all_eq_true]
  exact fun x hx => litOk_t (h x hx).1 (h x hx).2
theorem gatesOk_of {gs : List (Int × Int)} {f : Int} (h : ∀ k, k < gs.length → litOk (gs.getD k (0, 0)).1 (f + k) = true ∧ litOk (gs.getD k (0, 0)).2 (f + k) = true) : gatesOk gs f = true := by
  have key : ∀ k, k ≤ gs.length → gatesOk (gs.take k) f = true := by
    intro k
    induction k with
    | zero => intro _; rfl
    | succ k ih => intro hk; rw [gatesOk_snoc _ _ _ (by omega), ih (by omega), (h k (by omega)).1, (h k (by omega)).2]; rfl
  have := key gs.length (Nat.le_refl _)
  rwa [List.take_of_length_le (Nat.le_refl _)] at this

/-- The first variable of a gate. -/
def fst (i : Int) (ns : List Int) : Nat := (1 + i + ns.length).toNat
def natC (ns : List Int) (gs : List (Int × Int)) (os : List Int) : C := ⟨natG gs, natL os, natL ns⟩
theorem natC_ok {i : Int} {ns : List Int} {gs : List (Int × Int)} {os : List Int} (h : validB i ns gs os = true) : 0 < fst i ns ∧ Ok (fst i ns) (natC ns gs os) := by
  have hw := valid_within h
  have hf : (fst i ns : Int) = 1 + i + ns.length := by unfold fst; omega
  refine ⟨by omega, fun k hk => ?_, fun r hr => ?_⟩
  · have hk' : k < gs.length := by rw [← natG_len gs]; exact hk
    obtain ⟨a, b⟩ := gatesOk_get (valid_gates h) hk'
    have a' := litOk_inv a
    have b' := litOk_inv b
    show (at_ (natG gs) k).1 / 2 < _ ∧ (at_ (natG gs) k).2 / 2 < _
    rw [natG_at]
    simp only []
    omega
  · show r / 2 < fst i ns + (natG gs).length
    rw [natG_len]
    have hr' : r ∈ natL os ∨ r ∈ natL ns := List.mem_append.mp hr
    rcases hr' with h1 | h1
    · obtain ⟨x, hx, rfl⟩ := List.mem_map.mp h1
      have := litsOk_mem (valid_outs h) hx
      omega
    · obtain ⟨x, hx, rfl⟩ := List.mem_map.mp h1
      have := litsOk_mem (valid_next h) hx
      omega
theorem int_valid {i : Int} {c : C} {f : Nat} (hi : 0 ≤ i ∧ i ≤ 4) (hf : (f : Int) = 1 + i + c.ns.length) (h : Ok f c) (h1 : c.gs.length ≤ 14) (h2 : c.ns.length ≤ 3) (h3 : c.os.length ≤ 3) : validB i (intL c.ns) (intG c.gs) (intL c.os) = true := by
  have e1 : withinB i (intL c.ns).length (intG c.gs).length (intL c.os).length = true := within_t (by rw [intL_len, intL_len, intG_len]; omega)
  have e2 : gatesOk (intG c.gs) (1 + i + (intL c.ns).length) = true := gatesOk_of fun k hk => by
    rw [intG_len] at hk
    have := h.ord k hk
    rw [intG_at, intL_len]
    exact ⟨litOk_t (by simp only []; omega) (by simp only []; omega), litOk_t (by simp only []; omega) (by simp only []; omega)⟩
  have e3 : ∀ xs : List Nat, (∀ x, x ∈ xs → x ∈ c.roots) → litsOk (intL xs) (1 + i + (intL c.ns).length + (intG c.gs).length) = true := fun xs hx => litsOk_of fun x hm => by
    obtain ⟨y, hy, rfl⟩ := List.mem_map.mp hm
    have := h.root y (hx y hy)
    rw [intL_len, intG_len]
    omega
  unfold validB
  rw [e1, e2, e3 c.ns (fun x hx => List.mem_append_right _ hx), e3 c.os (fun x hx => List.mem_append_left _ hx)]
  rfl

/-- The optimized circuit's gates, outputs and next states. -/
def optC (i : Int) (ns : List Int) (gs : List (Int × Int)) (os : List Int) : C := opt (fst i ns) (natC ns gs os)
def optG (i : Int) (ns : List Int) (gs : List (Int × Int)) (os : List Int) : List (Int × Int) := intG (optC i ns gs os).gs
def optO (i : Int) (ns : List Int) (gs : List (Int × Int)) (os : List Int) : List Int := intL (optC i ns gs os).os
def optN (i : Int) (ns : List Int) (gs : List (Int × Int)) (os : List Int) : List Int := intL (optC i ns gs os).ns
section
variable {i : Int} {ns : List Int} {gs : List (Int × Int)} {os : List Int}
theorem optC_form (h : validB i ns gs os = true) : Form (fst i ns) (optC i ns gs os) ∧ (optC i ns gs os).gs.length ≤ gs.length ∧ (optC i ns gs os).os.length = os.length ∧ (optC i ns gs os).ns.length = ns.length := by
  obtain ⟨hf, hk⟩ := natC_ok h
  obtain ⟨a, b, c, d⟩ := opt_form hf hk
  refine ⟨a, Nat.le_trans b ?_, c.trans ?_, d.trans ?_⟩
  · show (natG gs).length ≤ _
    rw [natG_len]; exact Nat.le_refl _
  · exact natL_len os
  · exact natL_len ns
theorem optG_len (h : validB i ns gs os = true) : (optG i ns gs os).length ≤ gs.length := by unfold optG; rw [intG_len]; exact (optC_form h).2.1
theorem optO_len (h : validB i ns gs os = true) : (optO i ns gs os).length = os.length := by unfold optO; rw [intL_len]; exact (optC_form h).2.2.1
theorem optN_len (h : validB i ns gs os = true) : (optN i ns gs os).length = ns.length := by unfold optN; rw [intL_len]; exact (optC_form h).2.2.2
theorem opt_fst (h : validB i ns gs os = true) : fst i (optN i ns gs os) = fst i ns := by unfold fst; rw [optN_len h]
theorem opt_valid (h : validB i ns gs os = true) : validB i (optN i ns gs os) (optG i ns gs os) (optO i ns gs os) = true := by
  obtain ⟨a, b, c, d⟩ := optC_form h
  have hw := valid_within h
  exact int_valid (f := fst i ns) ⟨hw.1, hw.2.1⟩ (by rw [d]; unfold fst; omega) a.ok (by omega) (by omega) (by omega)
theorem opt_nat : natC (optN i ns gs os) (optG i ns gs os) (optO i ns gs os) = optC i ns gs os := by
  unfold natC optN optG optO
  rw [nat_intG, nat_intL, nat_intL]
/-- Optimizing again changes nothing. -/
theorem opt_again (h : validB i ns gs os = true) : optC i (optN i ns gs os) (optG i ns gs os) (optO i ns gs os) = optC i ns gs os := by
  show opt (fst i (optN i ns gs os)) (natC (optN i ns gs os) (optG i ns gs os) (optO i ns gs os)) = _
  rw [opt_fst h, opt_nat]
  exact opt_same (optC_form h).1

/-- Levels as the depth has them. -/
theorem lev_levels {f : Nat} {xs : List (Int × Int)} (h : ∀ k, k < xs.length → litOk (xs.getD k (0, 0)).1 (f + k) = true ∧ litOk (xs.getD k (0, 0)).2 (f + k) = true) : Lev f (natG xs) (fun v => ((levels xs f).getD v 0).toNat) := by
  refine ⟨fun v hv => ?_, fun k hk => ?_⟩
  · show ((levels xs f).getD v 0).toNat = 0
    rw [levels_zero xs f v hv]; rfl
  · rw [natG_len] at hk
    obtain ⟨a, b⟩ := h k hk
    have a' := litOk_inv a
    have b' := litOk_inv b
    rw [natG_at]
    show ((levels xs f).getD (f + k) 0).toNat = 1 + max ((levels xs f).getD ((xs.getD k (0, 0)).1.toNat / 2) 0).toNat ((levels xs f).getD ((xs.getD k (0, 0)).2.toNat / 2) 0).toNat
    rw [levels_at xs f k ((xs.getD k (0, 0)).1.toNat / 2) ((xs.getD k (0, 0)).2.toNat / 2) hk (by omega) (by omega) (by omega) (by omega)]
    have b1 := levels_bd xs f ((xs.getD k (0, 0)).1.toNat / 2)
    have b2 := levels_bd xs f ((xs.getD k (0, 0)).2.toNat / 2)
    omega
theorem hiFrom_le (l l' : List Int) (g : Nat → Nat) : ∀ (xs : List Int) (m m' : Int), m ≤ m' → (∀ x, x ∈ xs → l.getD (g x.toNat / 2) 0 ≤ l'.getD (x / 2).toNat 0) → hiFrom l m (intL ((natL xs).map g)) ≤ hiFrom l' m' xs := by
  intro xs
  induction xs with
  | nil => intro m m' h _; exact h
  | cons x r ih =>
    intro m m' h hx
    show hiFrom l (max m (l.getD (((g x.toNat : Nat) : Int) / 2).toNat 0)) (intL ((natL r).map g)) ≤ hiFrom l' (max m' (l'.getD (x / 2).toNat 0)) r
    refine ih _ _ ?_ (fun y hy => hx y (by simp [hy]))
    have h1 := hx x (by simp)
    have e : (((g x.toNat : Nat) : Int) / 2).toNat = g x.toNat / 2 := by omega
    rw [e]
    omega
/-- Optimization never makes a circuit deeper. -/
theorem opt_depth (h : validB i ns gs os = true) : depthZ i (optN i ns gs os) (optG i ns gs os) (optO i ns gs os) ≤ depthZ i ns gs os := by
  have hv := opt_valid h
  have hw := valid_within h
  obtain ⟨hf, hk⟩ := natC_ok h
  rw [depth_t h, depth_t hv]
  show max (hi (levels _ (fst i (optN i ns gs os))) _) (hi (levels _ (fst i (optN i ns gs os))) _) ≤ max (hi (levels gs (fst i ns)) ns) (hi (levels gs (fst i ns)) os)
  have hF : (fst i ns : Int) = 1 + i + ns.length := by unfold fst; omega
  have L1 := lev_levels (f := fst i ns) (xs := gs) (fun k hk => by have := gatesOk_get (valid_gates h) hk; rw [hF]; exact this)
  have L2 := lev_levels (f := fst i ns) (xs := optG i ns gs os) (fun k hk => by have := gatesOk_get (valid_gates hv) hk; rw [optN_len h] at this; rw [hF]; exact this)
  rw [opt_fst h]
  have eG : natG (optG i ns gs os) = (opt (fst i ns) (natC ns gs os)).gs := nat_intG _
  rw [eG] at L2
  have key : ∀ x, x ∈ os ∨ x ∈ ns → (levels (optG i ns gs os) (fst i ns)).getD (lits (fst i ns) (natC ns gs os) x.toNat / 2) 0 ≤ (levels gs (fst i ns)).getD (x / 2).toNat 0 := fun x hx => by
    have hm : x.toNat ∈ (natC ns gs os).roots := by
      rcases hx with hx | hx
      · exact List.mem_append_left _ (List.mem_map_of_mem hx)
      · exact List.mem_append_right _ (List.mem_map_of_mem hx)
    have h1 := opt_lev hf hk L1 L2 hm
    (try dsimp only at h1)
    have b1 := levels_bd (optG i ns gs os) (fst i ns) (lits (fst i ns) (natC ns gs os) x.toNat / 2)
    have b2 := levels_bd gs (fst i ns) (x.toNat / 2)
    have e : (x / 2).toNat = x.toNat / 2 := by omega
    rw [e]
    omega
  have eO : optO i ns gs os = intL ((natL os).map (lits (fst i ns) (natC ns gs os))) := by unfold optO optC; rw [opt_os]; rfl
  have eN : optN i ns gs os = intL ((natL ns).map (lits (fst i ns) (natC ns gs os))) := by unfold optN optC; rw [opt_ns]; rfl
  have k1 : hi (levels (optG i ns gs os) (fst i ns)) (optO i ns gs os) ≤ hi (levels gs (fst i ns)) os := by
    rw [eO]; exact hiFrom_le _ _ _ _ _ _ (Int.le_refl _) (fun x hx => key x (.inl hx))
  have k2 : hi (levels (optG i ns gs os) (fst i ns)) (optN i ns gs os) ≤ hi (levels gs (fst i ns)) ns := by
    rw [eN]; exact hiFrom_le _ _ _ _ _ _ (Int.le_refl _) (fun x hx => key x (.inr hx))
  omega
end
end Opt
