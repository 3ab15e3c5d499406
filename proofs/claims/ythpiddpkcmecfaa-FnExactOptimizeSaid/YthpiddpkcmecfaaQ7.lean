/- Plain mathematics of optimization: marking the gates that are used, from the last one to the first. -/
import Derived.Test.YthpiddpkcmecfaaQ6
namespace Opt
/-- The marks behind k gates from the last one on; p marks variables. -/
structure Mk (f : Nat) (gs : List G) (roots : List Nat) (k : Nat) (p : Nat → Bool) : Prop where
  root : ∀ r, r ∈ roots → f ≤ r / 2 → p (r / 2) = true
  op : ∀ t, gs.length ≤ t + k → t < gs.length → p (f + t) = true → (f ≤ (at_ gs t).1 / 2 → p ((at_ gs t).1 / 2) = true) ∧ (f ≤ (at_ gs t).2 / 2 → p ((at_ gs t).2 / 2) = true)
  why : ∀ v, f ≤ v → p v = true → (∃ r, r ∈ roots ∧ r / 2 = v) ∨ ∃ t, gs.length ≤ t + k ∧ t < gs.length ∧ p (f + t) = true ∧ ((at_ gs t).1 / 2 = v ∨ (at_ gs t).2 / 2 = v)
theorem Mk.start {f : Nat} {gs : List G} {roots : List Nat} {p : Nat → Bool} (h : ∀ v, f ≤ v → p v = roots.any fun r => r / 2 == v) : Mk f gs roots 0 p := by
  refine ⟨fun r hr hf => ?_, fun t h1 h2 => by omega, fun v hv hp => ?_⟩
  · rw [h _ hf, List.any_eq_true]
    exact ⟨r, hr, by simp⟩
  · rw [h _ hv, List.any_eq_true] at hp
    obtain ⟨r, h1, h2⟩ := hp
    exact .inl ⟨r, h1, by simpa using h2⟩
theorem Mk.step {f : Nat} {gs : List G} {roots : List Nat} {k i : Nat} {p p' : Nat → Bool} (h : Mk f gs roots k p) (hg : ordered f gs) (hi : i + (k + 1) = gs.length)
    (hp : ∀ v, f ≤ v → p' v = (p v || (p (f + i) && ((at_ gs i).1 / 2 == v || (at_ gs i).2 / 2 == v)))) : Mk f gs roots (k + 1) p' := by
  obtain ⟨o1, o2⟩ := hg i (by omega)
  have up : ∀ v, f ≤ v → p v = true → p' v = true := fun v hv h1 => by rw [hp v hv, h1]; rfl
  have same : ∀ t, i ≤ t → p' (f + t) = p (f + t) := fun t ht => by
    rw [hp _ (by omega)]
    have e1 : ((at_ gs i).1 / 2 == f + t) = false := by simp; omega
    have e2 : ((at_ gs i).2 / 2 == f + t) = false := by simp; omega
    rw [e1, e2]
    simp
  refine ⟨fun r hr hf => up _ hf (h.root r hr hf), fun t h1 h2 h3 => ?_, fun v hv h1 => ?_⟩
  · rw [same t (by omega)] at h3
    by_cases e : t = i
    · subst e
      constructor
      · intro hf
        rw [hp _ hf, h3]
        simp
      · intro hf
        rw [hp _ hf, h3]
        simp
    · obtain ⟨a, b⟩ := h.op t (by omega) h2 h3
      exact ⟨fun hf => up _ hf (a hf), fun hf => up _ hf (b hf)⟩
  · rw [hp v hv] at h1
    cases hpv : p v with
    | true =>
      rcases h.why v hv hpv with h2 | ⟨t, h2, h3, h4, h5⟩
      · exact .inl h2
      · exact .inr ⟨t, by omega, h3, up _ (by omega) h4, h5⟩
    | false =>
      rw [hpv, Bool.false_or, Bool.and_eq_true] at h1
      obtain ⟨h2, h3⟩ := h1
      refine .inr ⟨i, by omega, by omega, up _ (by omega) h2, ?_⟩
      simpa using h3
def marks (f n : Nat) (p : Nat → Bool) : List Bool := (List.range n).map fun t => p (f + t)
theorem marks_get {f n t : Nat} (p : Nat → Bool) (h : t < n) : (marks f n p).getD t false = p (f + t) := by
  simp [marks, List.getD_eq_getElem?_getD, h]
theorem Mk.use {f : Nat} {gs : List G} {roots : List Nat} {p : Nat → Bool} (h : Mk f gs roots gs.length p) (hg : ordered f gs) : marks f gs.length p = used f gs roots := by
  have hU : Use f gs roots (marks f gs.length p) := by
    refine ⟨by simp [marks], fun t ht hr => ?_, fun t t' htt ht hu ho => ?_, fun t ht hu => ?_⟩
    · obtain ⟨r, h1, h2⟩ := hr
      rw [marks_get p ht, ← h2]
      exact h.root r h1 (by omega)
    · rw [marks_get p ht] at hu
      rw [marks_get p (by omega)]
      obtain ⟨a, b⟩ := h.op t' (by omega) ht hu
      rcases ho with ho | ho
      · rw [← ho]; exact a (by omega)
      · rw [← ho]; exact b (by omega)
    · rw [marks_get p ht] at hu
      rcases h.why (f + t) (by omega) hu with h1 | ⟨t', h1, h2, h3, h4⟩
      · exact .inl h1
      · have := hg t' h2
        exact .inr ⟨t', by omega, h2, by rw [marks_get p h2]; exact h3, h4⟩
  exact hU.uniq (used_use f gs roots)
theorem used_mem (f : Nat) (gs : List G) {roots roots' : List Nat} (h : ∀ r, r ∈ roots ↔ r ∈ roots') : used f gs roots = used f gs roots' := by
  have hU := used_use f gs roots
  refine Use.uniq (f := f) (gs := gs) (roots := roots') ⟨hU.len, fun t ht ⟨r, h1, h2⟩ => hU.root t ht ⟨r, (h r).2 h1, h2⟩, hU.op, fun t ht hu => ?_⟩ (used_use f gs roots')
  rcases hU.why t ht hu with ⟨r, h1, h2⟩ | h1
  · exact .inl ⟨r, (h r).1 h1, h2⟩
  · exact .inr h1

/-- Variables put into a word of bits. -/
def orV (m : Nat) : List Nat → Nat
  | [] => m
  | x :: r => orV (m ||| 2 ^ (x / 2)) r
theorem orV_snoc (m : Nat) (xs : List Nat) (x : Nat) : orV m (xs ++ [x]) = orV m xs ||| 2 ^ (x / 2) := by
  induction xs generalizing m with
  | nil => rfl
  | cons y r ih => exact ih _
theorem bit_or (m x v : Nat) : (m ||| 2 ^ x).testBit v = (m.testBit v || x == v) := by
  rw [Nat.testBit_or, Nat.testBit_two_pow]
  rfl
theorem orV_bit (m : Nat) (xs : List Nat) (v : Nat) : (orV m xs).testBit v = (m.testBit v || xs.any fun x => x / 2 == v) := by
  induction xs generalizing m with
  | nil => simp [orV]
  | cons x r ih =>
    show (orV (m ||| 2 ^ (x / 2)) r).testBit v = _
    rw [ih, bit_or, List.any_cons, Bool.or_assoc]
theorem orV_lt {m : Nat} {xs : List Nat} (hm : m < 18446744073709551616) (hx : ∀ x, x ∈ xs → x / 2 < 64) : orV m xs < 18446744073709551616 := by
  induction xs generalizing m with
  | nil => exact hm
  | cons x r ih =>
    refine ih ?_ (fun y hy => hx y (by simp [hy]))
    have h1 : 2 ^ (x / 2) < 2 ^ 64 := Nat.pow_lt_pow_right (by omega) (hx x (by simp))
    exact Nat.or_lt_two_pow (n := 64) hm h1
/-- The word behind k gates from the last one on. -/
def backW (f : Nat) (gs : List G) (m : Nat) : Nat → Nat
  | 0 => m
  | k + 1 => if (backW f gs m k).testBit (f + (gs.length - (k + 1))) = true then orV (backW f gs m k) [(at_ gs (gs.length - (k + 1))).1, (at_ gs (gs.length - (k + 1))).2] else backW f gs m k
theorem backW_lt {f : Nat} {gs : List G} {m : Nat} (hg : ordered f gs) (hf : f + gs.length ≤ 64) (hm : m < 18446744073709551616) (k : Nat) (hk : k ≤ gs.length) : backW f gs m k < 18446744073709551616 := by
  induction k with
  | zero => exact hm
  | succ k ih =>
    have o := hg (gs.length - (k + 1)) (by omega)
    unfold backW
    split
    · refine orV_lt (ih (by omega)) (fun x hx => ?_)
      simp at hx
      rcases hx with rfl | rfl <;> omega
    · exact ih (by omega)
theorem backW_mk {f : Nat} {gs : List G} {roots : List Nat} {m : Nat} (hg : ordered f gs) (h : ∀ v, m.testBit v = roots.any fun r => r / 2 == v) : ∀ k, k ≤ gs.length → Mk f gs roots k (fun v => (backW f gs m k).testBit v) := by
  intro k
  induction k with
  | zero => intro _; exact Mk.start fun v _ => h v
  | succ k ih =>
    intro hk
    refine (ih (by omega)).step hg (i := gs.length - (k + 1)) (by omega) (fun v hv => ?_)
    show (backW f gs m (k + 1)).testBit v = _
    by_cases e : (backW f gs m k).testBit (f + (gs.length - (k + 1))) = true
    · have e2 : backW f gs m (k + 1) = orV (backW f gs m k) [(at_ gs (gs.length - (k + 1))).1, (at_ gs (gs.length - (k + 1))).2] := by
        show (if (backW f gs m k).testBit (f + (gs.length - (k + 1))) = true then _ else _) = _
        rw [if_pos e]
      rw [e2, orV_bit, e]
      simp
    · have e2 : backW f gs m (k + 1) = backW f gs m k := by
        show (if (backW f gs m k).testBit (f + (gs.length - (k + 1))) = true then _ else _) = _
        rw [if_neg e]
      rw [e2]
      simp [e]
/-- The word of the variables that are reached. -/
def reachW (f : Nat) (c : C) : Nat := backW f c.gs (orV (orV 0 c.ns) c.os) c.gs.length
theorem reachW_used {f : Nat} {c : C} (h : Ok f c) {t : Nat} (ht : t < c.gs.length) : (reachW f c).testBit (f + t) = (used f c.gs c.roots).getD t false := by
  have hb : ∀ v, (orV (orV 0 c.ns) c.os).testBit v = c.roots.any fun r => r / 2 == v := fun v => by
    rw [orV_bit, orV_bit]
    simp [C.roots, Bool.or_comm]
  have := (backW_mk h.ord hb c.gs.length (Nat.le_refl _)).use h.ord
  rw [← this, marks_get _ ht]
  rfl
theorem reachW_lt {f : Nat} {c : C} (h : Ok f c) (hf : f + c.gs.length ≤ 64) : reachW f c < 18446744073709551616 := by
  have ho : ∀ x, x ∈ c.os → x / 2 < 64 := fun x hx => by have := h.root x (List.mem_append_left _ hx); omega
  have hn : ∀ x, x ∈ c.ns → x / 2 < 64 := fun x hx => by have := h.root x (List.mem_append_right _ hx); omega
  exact backW_lt h.ord hf (orV_lt (orV_lt (by omega) hn) ho) _ (Nat.le_refl _)
end Opt
