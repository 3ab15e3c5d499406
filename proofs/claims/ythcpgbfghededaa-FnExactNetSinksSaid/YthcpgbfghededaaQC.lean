/- Plain mathematics of cuts; no program. -/
import Derived.Test.YthcpgbfghededaaQA
namespace Cut
open Opt
abbrev Cs := List (List Nat)
def SA (l : List Nat) : Prop := l.Pairwise (· < ·)
/-- The union of two ascending lists. -/
def merge : List Nat → List Nat → List Nat
  | [], ys => ys
  | x :: xs, [] => x :: xs
  | x :: xs, y :: ys => if x < y then x :: merge xs (y :: ys) else if y < x then y :: merge (x :: xs) ys else x :: merge xs ys
termination_by xs ys => xs.length + ys.length
theorem merge_nil_l (ys : List Nat) : merge [] ys = ys := by rw [merge]
theorem merge_nil_r (xs : List Nat) : merge xs [] = xs := by cases xs <;> rw [merge]
theorem merge_lt {x y : Nat} (xs ys : List Nat) (h : x < y) : merge (x :: xs) (y :: ys) = x :: merge xs (y :: ys) := by rw [merge, if_pos h]
theorem merge_gt {x y : Nat} (xs ys : List Nat) (h : y < x) : merge (x :: xs) (y :: ys) = y :: merge (x :: xs) ys := by rw [merge, if_neg (by omega), if_pos h]
theorem merge_eq (x : Nat) (xs ys : List Nat) : merge (x :: xs) (x :: ys) = x :: merge xs ys := by rw [merge, if_neg (by omega), if_neg (by omega)]
theorem merge_mem : ∀ (xs ys : List Nat) (z : Nat), z ∈ merge xs ys ↔ z ∈ xs ∨ z ∈ ys
  | [], ys, z => by rw [merge_nil_l]; simp
  | x :: xs, [], z => by rw [merge_nil_r]; simp
  | x :: xs, y :: ys, z => by
    rcases Nat.lt_trichotomy x y with h | h | h
    · rw [merge_lt _ _ h, List.mem_cons, merge_mem xs (y :: ys) z]
      simp only [List.mem_cons]
      exact or_assoc.symm
    · subst h
      rw [merge_eq, List.mem_cons, merge_mem xs ys z]
      simp only [List.mem_cons]
      constructor
      · rintro (h | h | h)
        · exact .inl (.inl h)
        · exact .inl (.inr h)
        · exact .inr (.inr h)
      · rintro ((h | h) | (h | h))
        · exact .inl h
        · exact .inr (.inl h)
        · exact .inl h
        · exact .inr (.inr h)
    · rw [merge_gt _ _ h, List.mem_cons, merge_mem (x :: xs) ys z]
      simp only [List.mem_cons]
      constructor
      · rintro (h | (h | h) | h)
        · exact .inr (.inl h)
        · exact .inl (.inl h)
        · exact .inl (.inr h)
        · exact .inr (.inr h)
      · rintro ((h | h) | (h | h))
        · exact .inr (.inl (.inl h))
        · exact .inr (.inl (.inr h))
        · exact .inl h
        · exact .inr (.inr h)
termination_by xs ys => xs.length + ys.length
theorem merge_sa : ∀ (xs ys : List Nat), SA xs → SA ys → SA (merge xs ys)
  | [], ys, _, h => by rw [merge_nil_l]; exact h
  | x :: xs, [], h, _ => by rw [merge_nil_r]; exact h
  | x :: xs, y :: ys, hx, hy => by
    have hx1 := List.pairwise_cons.1 hx
    have hy1 := List.pairwise_cons.1 hy
    rcases Nat.lt_trichotomy x y with h | h | h
    · rw [merge_lt _ _ h]
      refine List.pairwise_cons.2 ⟨fun z hz => ?_, merge_sa xs (y :: ys) hx1.2 hy⟩
      rcases (merge_mem _ _ _).1 hz with h1 | h1
      · exact hx1.1 z h1
      · rcases List.mem_cons.1 h1 with h2 | h2
        · omega
        · have := hy1.1 z h2; omega
    · subst h
      rw [merge_eq]
      refine List.pairwise_cons.2 ⟨fun z hz => ?_, merge_sa xs ys hx1.2 hy1.2⟩
      rcases (merge_mem _ _ _).1 hz with h1 | h1
      · exact hx1.1 z h1
      · exact hy1.1 z h1
    · rw [merge_gt _ _ h]
      refine List.pairwise_cons.2 ⟨fun z hz => ?_, merge_sa (x :: xs) ys hx hy1.2⟩
      rcases (merge_mem _ _ _).1 hz with h1 | h1
      · rcases List.mem_cons.1 h1 with h2 | h2
        · omega
        · have := hx1.1 z h2; omega
      · exact hy1.1 z h1
termination_by xs ys => xs.length + ys.length
theorem merge_len : ∀ (xs ys : List Nat), (merge xs ys).length ≤ xs.length + ys.length
  | [], ys => by rw [merge_nil_l]; simp
  | x :: xs, [] => by rw [merge_nil_r]; simp
  | x :: xs, y :: ys => by
    rcases Nat.lt_trichotomy x y with h | h | h
    · rw [merge_lt _ _ h]; have := merge_len xs (y :: ys); simp at this ⊢; omega
    · subst h; rw [merge_eq]; have := merge_len xs ys; simp at this ⊢; omega
    · rw [merge_gt _ _ h]; have := merge_len (x :: xs) ys; simp at this ⊢; omega
termination_by xs ys => xs.length + ys.length
/-- Two ascending lists of integers with the same members are one. -/
theorem sai_ext : ∀ {l l' : List Int}, l.Pairwise (· < ·) → l'.Pairwise (· < ·) → (∀ z, z ∈ l ↔ z ∈ l') → l = l'
  | [], [], _, _, _ => rfl
  | [], b :: l', _, _, h => absurd ((h b).2 (by simp)) (by simp)
  | a :: l, [], _, _, h => absurd ((h a).1 (by simp)) (by simp)
  | a :: l, b :: l', h1, h2, h => by
    have h1' := List.pairwise_cons.1 h1
    have h2' := List.pairwise_cons.1 h2
    have e : a = b := by
      have ha := (h a).1 (by simp)
      have hb := (h b).2 (by simp)
      rcases List.mem_cons.1 ha with ha | ha
      · exact ha
      · rcases List.mem_cons.1 hb with hb | hb
        · exact hb.symm
        · have := h1'.1 b hb
          have := h2'.1 a ha
          omega
    subst e
    rw [sai_ext h1'.2 h2'.2 (fun z => ?_)]
    constructor
    · intro hz
      rcases List.mem_cons.1 ((h z).1 (List.mem_cons_of_mem _ hz)) with e | e
      · have := h1'.1 z hz; omega
      · exact e
    · intro hz
      rcases List.mem_cons.1 ((h z).2 (List.mem_cons_of_mem _ hz)) with e | e
      · have := h2'.1 z hz; omega
      · exact e
theorem intL_sa {l : List Nat} (h : SA l) : (intL l).Pairwise (· < ·) := by
  unfold intL
  rw [List.pairwise_map]
  exact h.imp (fun h => by omega)
theorem drop_get {xs : List Nat} {k : Nat} (h : k < xs.length) : xs.drop k = xs.getD k 0 :: xs.drop (k + 1) := by
  rw [List.drop_eq_getElem_cons h, List.getD_eq_getElem?_getD, List.getElem?_eq_getElem h]; rfl

/-- One more union, where it fits. -/
def put (u : Cs) (l : List Nat) : Cs := if l.length ≤ 3 ∧ u.length < 8 ∧ l ∉ u then u ++ [l] else u
def uni1 (u : Cs) (x : List Nat) (ys : Cs) : Cs := ys.foldl (fun u y => put u (merge x y)) u
def uniA (u : Cs) (xs ys : Cs) : Cs := xs.foldl (fun u x => uni1 u x ys) u
def uni (xs ys : Cs) : Cs := uniA [] xs ys
theorem take_succ_getD {α : Type} (xs : List α) (k : Nat) (d : α) (h : k < xs.length) : xs.take (k + 1) = xs.take k ++ [xs.getD k d] := by
  rw [List.take_succ_eq_append_getElem h, List.getD_eq_getElem?_getD, List.getElem?_eq_getElem h]; rfl
theorem uni1_step (u : Cs) (x : List Nat) (ys : Cs) (k : Nat) (h : k < ys.length) : uni1 u x (ys.take (k + 1)) = put (uni1 u x (ys.take k)) (merge x (ys.getD k [])) := by
  unfold uni1
  rw [take_succ_getD ys k [] h, List.foldl_append]
  rfl
theorem uniA_step (u : Cs) (xs ys : Cs) (k : Nat) (h : k < xs.length) : uniA u (xs.take (k + 1)) ys = uni1 (uniA u (xs.take k) ys) (xs.getD k []) ys := by
  unfold uniA
  rw [take_succ_getD xs k [] h, List.foldl_append]
  rfl
theorem put_full {u : Cs} (l : List Nat) (h : u.length = 8) : put u l = u := by
  unfold put
  rw [if_neg (by omega)]
theorem uni1_full {u : Cs} (x : List Nat) (ys : Cs) (h : u.length = 8) : uni1 u x ys = u := by
  unfold uni1
  induction ys with
  | nil => rfl
  | cons y ys ih => rw [List.foldl_cons, put_full _ h]; exact ih
theorem uniA_full {u : Cs} (xs ys : Cs) (h : u.length = 8) : uniA u xs ys = u := by
  unfold uniA
  induction xs with
  | nil => rfl
  | cons x xs ih => rw [List.foldl_cons, uni1_full _ _ h]; exact ih
theorem uni_split (xs ys : Cs) (i k : Nat) (hi : i < xs.length) : uni xs ys = uniA (uni1 (uni1 (uniA [] (xs.take i) ys) (xs.getD i []) (ys.take k)) (xs.getD i []) (ys.drop k)) (xs.drop (i + 1)) ys := by
  have e1 : uni1 (uni1 (uniA [] (xs.take i) ys) (xs.getD i []) (ys.take k)) (xs.getD i []) (ys.drop k) = uniA [] (xs.take (i + 1)) ys := by
    rw [uniA_step _ _ _ _ hi]
    unfold uni1
    rw [← List.foldl_append, List.take_append_drop]
  rw [e1]
  unfold uni uniA
  rw [← List.foldl_append, List.take_append_drop]
theorem uni_done (xs ys : Cs) (i k : Nat) (hi : i < xs.length) (h : (uni1 (uniA [] (xs.take i) ys) (xs.getD i []) (ys.take k)).length = 8) : uni xs ys = uni1 (uniA [] (xs.take i) ys) (xs.getD i []) (ys.take k) := by
  rw [uni_split xs ys i k hi, uni1_full _ _ h, uniA_full _ _ h]
theorem put_le {u : Cs} {l : List Nat} (h : u.length ≤ 8) : (put u l).length ≤ 8 := by
  unfold put
  split
  · simp; omega
  · exact h
theorem uni1_le {u : Cs} {x : List Nat} {ys : Cs} (h : u.length ≤ 8) : (uni1 u x ys).length ≤ 8 := by
  unfold uni1
  induction ys generalizing u with
  | nil => exact h
  | cons y ys ih => rw [List.foldl_cons]; exact ih (put_le h)
theorem uniA_le {u : Cs} {xs ys : Cs} (h : u.length ≤ 8) : (uniA u xs ys).length ≤ 8 := by
  unfold uniA
  induction xs generalizing u with
  | nil => exact h
  | cons x xs ih => rw [List.foldl_cons]; exact ih (uni1_le h)
/-- What all unions keep. -/
theorem put_all {P : List Nat → Prop} {u : Cs} {l : List Nat} (h : ∀ x, x ∈ u → P x) (hl : l.length ≤ 3 → P l) : ∀ x, x ∈ put u l → P x := by
  unfold put
  split
  · next hc =>
    intro x hx
    rcases List.mem_append.1 hx with h1 | h1
    · exact h x h1
    · simp at h1; subst h1; exact hl hc.1
  · exact h
theorem uni1_all {P : List Nat → Prop} {u : Cs} {x : List Nat} {ys : Cs} (h : ∀ z, z ∈ u → P z) (hl : ∀ y, y ∈ ys → (merge x y).length ≤ 3 → P (merge x y)) : ∀ z, z ∈ uni1 u x ys → P z := by
  unfold uni1
  induction ys generalizing u with
  | nil => exact h
  | cons y ys ih => exact ih (u := put u (merge x y)) (put_all h (hl y (by simp))) (fun z hz => hl z (by simp [hz]))
theorem uniA_all {P : List Nat → Prop} {u xs ys : Cs} (h : ∀ x, x ∈ u → P x) (hl : ∀ x, x ∈ xs → ∀ y, y ∈ ys → (merge x y).length ≤ 3 → P (merge x y)) : ∀ x, x ∈ uniA u xs ys → P x := by
  unfold uniA
  induction xs generalizing u with
  | nil => exact h
  | cons x xs ih => exact ih (u := uni1 u x ys) (uni1_all h (fun y hy => hl x (by simp) y hy)) (fun z hz => hl z (by simp [hz]))
theorem uni_all {P : List Nat → Prop} {xs ys : Cs} (hl : ∀ x, x ∈ xs → ∀ y, y ∈ ys → (merge x y).length ≤ 3 → P (merge x y)) : ∀ x, x ∈ uni xs ys → P x :=
  uniA_all (fun x hx => absurd hx (by simp)) hl
theorem put_ne {u : Cs} {l : List Nat} (h : u ≠ [] ∨ l.length ≤ 3) : put u l ≠ [] := by
  unfold put
  split
  · simp
  · next hc =>
    rcases h with h | h
    · exact h
    · intro e
      exact hc ⟨h, by simp [e], by simp [e]⟩
theorem uni1_ne {u : Cs} {x : List Nat} {ys : Cs} (h : u ≠ [] ∨ ∃ y, y ∈ ys ∧ (merge x y).length ≤ 3) : uni1 u x ys ≠ [] := by
  unfold uni1
  induction ys generalizing u with
  | nil =>
    rcases h with h | ⟨y, hy, _⟩
    · exact h
    · simp at hy
  | cons y ys ih =>
    rw [List.foldl_cons]
    rcases h with h | ⟨z, hz, hl⟩
    · exact ih (.inl (put_ne (.inl h)))
    · rcases List.mem_cons.1 hz with e | e
      · subst e; exact ih (.inl (put_ne (.inr hl)))
      · exact ih (.inr ⟨z, e, hl⟩)
theorem uniA_ne {u xs ys : Cs} (h : u ≠ [] ∨ ∃ x, x ∈ xs ∧ ∃ y, y ∈ ys ∧ (merge x y).length ≤ 3) : uniA u xs ys ≠ [] := by
  unfold uniA
  induction xs generalizing u with
  | nil =>
    rcases h with h | ⟨y, hy, _⟩
    · exact h
    · simp at hy
  | cons x xs ih =>
    rw [List.foldl_cons]
    rcases h with h | ⟨z, hz, hl⟩
    · exact ih (.inl (uni1_ne (.inl h)))
    · rcases List.mem_cons.1 hz with e | e
      · subst e; exact ih (.inl (uni1_ne (.inr hl)))
      · exact ih (.inr ⟨z, e, hl⟩)

/-- The cuts of the variables ahead of the gates, and of all when the first k gates are known. -/
def own (v : Nat) : List Nat := if v = 0 then [] else [v]
def cutsTo (f : Nat) (gs : List G) : Nat → List Cs
  | 0 => (List.range f).map fun v => [own v]
  | k + 1 => cutsTo f gs k ++ [uni ((cutsTo f gs k).getD ((at_ gs k).1 / 2) []) ((cutsTo f gs k).getD ((at_ gs k).2 / 2) []) ++ [[f + k]]]
def cuts (f : Nat) (gs : List G) : List Cs := cutsTo f gs gs.length
theorem cutsTo_len (f : Nat) (gs : List G) (k : Nat) : (cutsTo f gs k).length = f + k := by
  induction k with
  | zero => simp [cutsTo]
  | succ k ih => simp [cutsTo, ih]; omega
theorem cuts_len (f : Nat) (gs : List G) : (cuts f gs).length = f + gs.length := cutsTo_len _ _ _
theorem cutsTo_pre (f : Nat) (gs : List G) (k m j : Nat) (hj : j < f + k) : (cutsTo f gs (k + m)).getD j [] = (cutsTo f gs k).getD j [] := by
  induction m with
  | zero => rfl
  | succ m ih =>
    show (cutsTo f gs (k + m) ++ _).getD j [] = _
    rw [Circ.getD_app_lt _ _ _ _ (by rw [cutsTo_len]; omega), ih]
theorem cuts_pre (f : Nat) (gs : List G) (k j : Nat) (hk : k ≤ gs.length) (hj : j < f + k) : (cuts f gs).getD j [] = (cutsTo f gs k).getD j [] := by
  obtain ⟨m, hm⟩ := Nat.le.dest hk
  unfold cuts
  rw [← hm]
  exact cutsTo_pre f gs k m j hj
theorem cuts_low (f : Nat) (gs : List G) (v : Nat) (h : v < f) : (cuts f gs).getD v [] = [own v] := by
  rw [cuts_pre f gs 0 v (Nat.zero_le _) (by omega)]
  simp [cutsTo, List.getD_eq_getElem?_getD, h]
theorem cuts_gate (f : Nat) (gs : List G) (k : Nat) (hk : k < gs.length) (hg : ordered f gs) : (cuts f gs).getD (f + k) [] = uni ((cuts f gs).getD ((at_ gs k).1 / 2) []) ((cuts f gs).getD ((at_ gs k).2 / 2) []) ++ [[f + k]] := by
  obtain ⟨h1, h2⟩ := hg k hk
  rw [cuts_pre f gs (k + 1) (f + k) hk (by omega), cuts_pre f gs k _ (by omega) h1, cuts_pre f gs k _ (by omega) h2]
  show (cutsTo f gs k ++ [_]).getD (f + k) [] = _
  exact Circ.getD_app_at _ _ _ _ (by rw [cutsTo_len])

/-- What is true of the cuts of a variable. -/
structure Gd (v : Nat) (cs : Cs) : Prop where
  len : cs.length ≤ 9
  fit : ∀ x, x ∈ cs → x.length ≤ 3
  sa : ∀ x, x ∈ cs → SA x
  le : ∀ x, x ∈ cs → ∀ l, l ∈ x → l ≤ v
  own : own v ∈ cs
theorem own_len (v : Nat) : (own v).length ≤ 1 := by unfold Cut.own; split <;> simp
theorem own_sa (v : Nat) : SA (own v) := by unfold Cut.own SA; split <;> simp
theorem own_le (v : Nat) : ∀ l, l ∈ own v → l ≤ v := by unfold Cut.own; split <;> simp
structure GdU (v : Nat) (u : Cs) : Prop where
  len : u.length ≤ 8
  ne : u ≠ []
  fit : ∀ x, x ∈ u → x.length ≤ 3
  sa : ∀ x, x ∈ u → SA x
  lt : ∀ x, x ∈ u → ∀ l, l ∈ x → l < v
theorem uni_gd {v a b : Nat} {xs ys : Cs} (hx : Gd a xs) (hy : Gd b ys) (ha : a < v) (hb : b < v) : GdU v (uni xs ys) := by
  refine ⟨uniA_le (by simp), uniA_ne (.inr ⟨_, hx.own, _, hy.own, ?_⟩), uni_all fun x _ y _ h => h, uni_all fun x hx1 y hy1 _ => merge_sa _ _ (hx.sa x hx1) (hy.sa y hy1), uni_all fun x hx1 y hy1 _ l hl => ?_⟩
  · have := merge_len (own a) (own b)
    have := own_len a
    have := own_len b
    omega
  · rcases (merge_mem _ _ _).1 hl with h | h
    · have := hx.le x hx1 l h; omega
    · have := hy.le y hy1 l h; omega
theorem GdU.gd {v : Nat} {u : Cs} (h : GdU v u) (hv : 0 < v) : Gd v (u ++ [[v]]) := by
  refine ⟨by have := h.len; simp; omega, fun x hx => ?_, fun x hx => ?_, fun x hx l hl => ?_, ?_⟩
  · rcases List.mem_append.1 hx with h1 | h1
    · exact h.fit x h1
    · simp at h1; subst h1; simp
  · rcases List.mem_append.1 hx with h1 | h1
    · exact h.sa x h1
    · simp at h1; subst h1; simp [SA]
  · rcases List.mem_append.1 hx with h1 | h1
    · have := h.lt x h1 l hl; omega
    · simp at h1; subst h1; simp at hl; omega
  · unfold Cut.own
    rw [if_neg (by omega)]
    simp
theorem cutsTo_gd {f : Nat} {gs : List G} (hf : 0 < f) (hg : ordered f gs) : ∀ k, k ≤ gs.length → ∀ v, v < f + k → Gd v ((cutsTo f gs k).getD v [])
  | 0, _, v, hv => by
    have e : (cutsTo f gs 0).getD v [] = [own v] := by
      simp [cutsTo, List.getD_eq_getElem?_getD]
      rw [List.getElem?_eq_getElem (by simpa using hv)]
      simp
    rw [e]
    refine ⟨by simp, fun x hx => ?_, fun x hx => ?_, fun x hx => ?_, by simp⟩
    · simp at hx; subst hx; have := own_len v; omega
    · simp at hx; subst hx; exact own_sa v
    · simp at hx; subst hx; exact own_le v
  | k + 1, hk, v, hv => by
    have ih := cutsTo_gd hf hg k (by omega)
    obtain ⟨h1, h2⟩ := hg k hk
    by_cases e : v < f + k
    · have := cutsTo_pre f gs k 1 v e
      rw [this]
      exact ih v e
    · obtain rfl : v = f + k := by omega
      have e1 : (cutsTo f gs (k + 1)).getD (f + k) [] = uni ((cutsTo f gs k).getD ((at_ gs k).1 / 2) []) ((cutsTo f gs k).getD ((at_ gs k).2 / 2) []) ++ [[f + k]] := by
        show (cutsTo f gs k ++ [_]).getD (f + k) [] = _
        exact Circ.getD_app_at _ _ _ _ (by rw [cutsTo_len])
      rw [e1]
      exact (uni_gd (ih _ h1) (ih _ h2) h1 h2).gd (by omega)
theorem cuts_gd {f : Nat} {gs : List G} (hf : 0 < f) (hg : ordered f gs) (v : Nat) (hv : v < f + gs.length) : Gd v ((cuts f gs).getD v []) := cutsTo_gd hf hg gs.length (Nat.le_refl _) v hv
/-- The unions of a gate. -/
def unis (f : Nat) (gs : List G) (k : Nat) : Cs := uni ((cuts f gs).getD ((at_ gs k).1 / 2) []) ((cuts f gs).getD ((at_ gs k).2 / 2) [])
theorem unis_gd {f : Nat} {gs : List G} (hf : 0 < f) (hg : ordered f gs) (k : Nat) (hk : k < gs.length) : GdU (f + k) (unis f gs k) := by
  obtain ⟨h1, h2⟩ := hg k hk
  exact uni_gd (cuts_gd hf hg _ (by omega)) (cuts_gd hf hg _ (by omega)) h1 h2
end Cut
