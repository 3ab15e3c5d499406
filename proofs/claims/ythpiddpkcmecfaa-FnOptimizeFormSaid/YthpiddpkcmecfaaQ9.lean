/- Plain mathematics: the normal form of an optimized circuit, over integers; no program. -/
import Derived.Test.YthpiddpkcmecfaaQ5
namespace Circ
/-- A gate among those from a to j refers to the variable t. -/
def ug (t : Int) (gs : List (Int × Int)) (a j : Nat) : Bool := ((gs.take j).drop a).any fun g => g.1 / 2 == t || g.2 / 2 == t
theorem ug_start (t : Int) (gs : List (Int × Int)) (a : Nat) : ug t gs a a = false := by
  unfold ug
  rw [List.drop_of_length_le (by simp; omega)]
  rfl
theorem ug_step (t : Int) (gs : List (Int × Int)) (a j : Nat) (ha : a ≤ j) (hj : j < gs.length) : ug t gs a (j + 1) = ((ug t gs a j || (gs.getD j (0, 0)).1 / 2 == t) || (gs.getD j (0, 0)).2 / 2 == t) := by
  unfold ug
  rw [List.take_succ_eq_append_getElem hj, List.drop_append_of_le_length (by simp; omega), List.any_append]
  simp only [List.any_cons, List.any_nil, Bool.or_false, List.getD_eq_getElem?_getD, List.getElem?_eq_getElem hj, Option.getD_some, Bool.or_assoc]
/-- A literal refers to the variable t. -/
def ul (t : Int) (xs : List Int) : Bool := xs.any fun x => x / 2 == t
theorem ul_step (t : Int) (xs : List Int) (j : Nat) (hj : j < xs.length) : ul t (xs.take (j + 1)) = (ul t (xs.take j) || xs.getD j 0 / 2 == t) := by
  unfold ul
  rw [List.take_succ_eq_append_getElem hj, List.any_append]
  simp only [List.any_cons, List.any_nil, Bool.or_false, List.getD_eq_getElem?_getD, List.getElem?_eq_getElem hj, Option.getD_some]
structure NF (f : Int) (ns : List Int) (gs : List (Int × Int)) (os : List Int) : Prop where
  low : ∀ k, k < gs.length → 2 ≤ (gs.getD k (0, 0)).1
  ord : ∀ k, k < gs.length → (gs.getD k (0, 0)).1 < (gs.getD k (0, 0)).2
  dif : ∀ k, k < gs.length → (gs.getD k (0, 0)).1 / 2 ≠ (gs.getD k (0, 0)).2 / 2
  ref : ∀ k, k < gs.length → (gs.getD k (0, 0)).2 < 2 * (f + k)
  inj : ∀ k l, k < l → l < gs.length → (gs.getD l (0, 0)).1 ≠ (gs.getD k (0, 0)).1 ∨ (gs.getD l (0, 0)).2 ≠ (gs.getD k (0, 0)).2
  use : ∀ k, k < gs.length → ((ug (f + k) gs (k + 1) gs.length || ul (f + k) os) || ul (f + k) ns) = true
theorem NF.nil (f : Int) : NF f [] [] [] := ⟨fun k h => absurd h (by simp), fun k h => absurd h (by simp), fun k h => absurd h (by simp), fun k h => absurd h (by simp), fun k l _ h => absurd h (by simp), fun k h => absurd h (by simp)⟩
theorem ul_mem {t : Nat} {xs : List Nat} {r : Nat} (h : r ∈ xs) (hr : r / 2 = t) : ul (t : Int) (Opt.intL xs) = true := by
  unfold ul Opt.intL
  rw [List.any_map, List.any_eq_true]
  refine ⟨r, h, ?_⟩
  show ((r : Int) / 2 == (t : Int)) = true
  rw [beq_iff_eq]; omega
theorem ug_mem {t : Nat} {gs : List Opt.G} {a l : Nat} (ha : a ≤ l) (hl : l < gs.length) (h : (Opt.at_ gs l).1 / 2 = t ∨ (Opt.at_ gs l).2 / 2 = t) : ug (t : Int) (Opt.intG gs) a (Opt.intG gs).length = true := by
  have key : ∀ j, l < j → j ≤ gs.length → ug (t : Int) (Opt.intG gs) a j = true := by
    intro j
    induction j with
    | zero => intro h; omega
    | succ j ih =>
      intro h1 h2
      rw [ug_step _ _ _ _ (by omega) (by rw [Opt.intG_len]; omega), Opt.intG_at]
      by_cases e : j = l
      · subst e
        rcases h with h | h
        · have : (((Opt.at_ gs j).1 : Int) / 2 == (t : Int)) = true := by rw [beq_iff_eq]; omega
          simp only [this, Bool.or_true, Bool.true_or]
        · have : (((Opt.at_ gs j).2 : Int) / 2 == (t : Int)) = true := by rw [beq_iff_eq]; omega
          simp only [this, Bool.or_true]
      · rw [ih (by omega) (by omega)]; rfl
  rw [Opt.intG_len]
  exact key _ hl (Nat.le_refl _)
theorem NF.of {f : Nat} {c : Opt.C} (h : Opt.Form f c) : NF (f : Int) (Opt.intL c.ns) (Opt.intG c.gs) (Opt.intL c.os) := by
  refine ⟨fun k hk => ?_, fun k hk => ?_, fun k hk => ?_, fun k hk => ?_, fun k l hkl hl => ?_, fun k hk => ?_⟩
  · rw [Opt.intG_len] at hk; have := h.norm.low k hk; rw [Opt.intG_at]; simp only []; omega
  · rw [Opt.intG_len] at hk; have := h.norm.ord k hk; rw [Opt.intG_at]; simp only []; omega
  · rw [Opt.intG_len] at hk; have := h.norm.dif k hk; rw [Opt.intG_at]; simp only []; omega
  · rw [Opt.intG_len] at hk; have := h.norm.ref k hk; rw [Opt.intG_at]; simp only []; omega
  · rw [Opt.intG_len] at hl
    have := h.norm.inj k l hkl hl
    rw [Opt.intG_at, Opt.intG_at]
    simp only []
    by_cases e : (Opt.at_ c.gs l).1 = (Opt.at_ c.gs k).1
    · right
      intro e2
      exact this (Prod.ext e.symm (by omega))
    · left; omega
  · rw [Opt.intG_len] at hk
    have hc : ((f : Int) + (k : Int)) = ((f + k : Nat) : Int) := by omega
    rw [hc]
    rcases h.use k hk with ⟨r, hr, e⟩ | ⟨l, h1, h2, h3⟩
    · rcases List.mem_append.mp hr with hr | hr
      · rw [ul_mem hr e]; simp
      · rw [ul_mem hr e]; simp
    · rw [ug_mem (a := k + 1) (by omega) h2 h3]; rfl
end Circ
