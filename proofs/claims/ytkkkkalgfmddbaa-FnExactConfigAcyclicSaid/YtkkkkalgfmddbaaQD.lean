/- Plain mathematics of cuts; no program. -/
import Derived.Test.YtkkkkalgfmddbaaQA
namespace Cut
open Opt
abbrev Cs := List (List Nat)
def SA (l : List Nat) : Prop := l.Pairwise (· < ·)
/-- The union of two ascending lists. -/
def merge : List Nat → List Nat → List Nat
  | [], ys => ys
  | x :: xs, [] => x :: xs
  | x :: xs, y :: ys => if x < y then x :: merge xs (y :: ys) else if y < x then y :: merge (x :: xs) ys else x :: merge xs ys
termination_by xs ys => xs.length + ys.length
theorem merge_nil_l (ys : List Nat) : merge [] ys = ys := by rw [merge]
theorem merge_nil_r (xs : List Nat) : merge xs [] = xs := by cases xs <;> rw [merge]
theorem merge_lt {x y : Nat} (xs ys : List Nat) (h : x < y) : merge (x :: xs) (y :: ys) = x :: merge xs (y :: ys) := by rw [merge, if_pos h]
theorem merge_gt {x y : Nat} (xs ys : List Nat) (h : y < x) : merge (x :: xs) (y :: ys) = y :: merge (x :: xs) ys := by rw [merge, if_neg (by omega), if_pos h]
theorem merge_eq (x : Nat) (xs ys : List Nat) : merge (x :: xs) (x :: ys) = x :: merge xs ys := by rw [merge, if_neg (by omega), if_neg (by omega)]
theorem merge_mem : ∀ (xs ys : List Nat) (z : Nat), z ∈ merge xs ys ↔ z ∈ xs ∨ z ∈ ys
  | [], ys, z => by rw [merge_nil_l]; simp
  | x :: xs, [], z => by rw [merge_nil_r]; simp
  | x :: xs, y :: ys, z => by
    rcases Nat.lt_trichotomy x y with h | h | h
    · rw [merge_lt _ _ h, List.mem_cons, merge_mem xs (y :: ys) z]
      simp only [List.mem_cons]
      exact or_assoc.symm
    · subst h
      rw [merge_eq, List.mem_cons, merge_mem xs ys z]
      simp only [List.mem_cons]
      constructor
      · rintro (h | h | h)
        · exact .inl (.inl h)
        · exact .inl (.inr h)
        · exact .inr (.inr h)
      · rintro ((h | h) | (h | h))
        · exact .inl h
        · exact .inr (.inl h)
        · exact .inl h
        · exact .inr (.inr h)
    · rw [merge_gt _ _ h, List.mem_cons, merge_mem (x :: xs) ys z]
      simp only [List.mem_cons]
      constructor
      · rintro (h | (h | h) | h)
        · exact .inr (.inl h)
        · exact .inl (.inl h)
        · exact .inl (.inr h)
        · exact .inr (.inr h)
      · rintro ((h | h) | (h | h))
        · exact .inr (.inl (.inl h))
        · exact .inr (.inl (.inr h))
        · exact .inl h
        · exact .inr (.inr h)
termination_by xs ys => xs.length + ys.length
theorem merge_sa : ∀ (xs ys : List Nat), SA xs → SA ys → SA (merge xs ys)
  | [], ys, _, h => by rw [merge_nil_l]; exact h
  | x :: xs, [], h, _ => by rw [merge_nil_r]; exact h
  | x :: xs, y :: ys, hx, hy => by
    have hx1 := List.pairwise_cons.1 hx
    have hy1 := List.pairwise_cons.1 hy
    rcases Nat.lt_trichotomy x y with h | h | h
    · rw [merge_lt _ _ h]
      refine List.pairwise_cons.2 ⟨fun z hz => ?_, merge_sa xs (y :: ys) hx1.2 hy⟩
      rcases (merge_mem _ _ _).1 hz with h1 | h1
      · exact hx1.1 z h1
      · rcases List.mem_cons.1 h1 with h2 | h2
        · omega
        · have := hy1.1 z h2; omega
    · subst h
      rw [merge_eq]
      refine List.pairwise_cons.2 ⟨fun z hz => ?_, merge_sa xs ys hx1.2 hy1.2⟩
      rcases (merge_mem _ _ _).1 hz with h1 | h1
      · exact hx1.1 z h1
      · exact hy1.1 z h1
    · rw [merge_gt _ _ h]
      refine List.pairwise_cons.2 ⟨fun z hz => ?_, merge_sa (x :: xs) ys hx hy1.2⟩
      rcases (merge_mem _ _ _).1 hz with h1 | h1
      · rcases List.mem_cons.1 h1 with h2 | h2
        · omega
        · have := hx1.1 z h2; omega
      · exact hy1.1 z h1
termination_by xs ys => xs.length + ys.length
theorem merge_len : ∀ (xs ys : List Nat), (merge xs ys).length ≤ xs.length + ys.length
  | [], ys => by rw [merge_nil_l]; simp
  | x :: xs, [] => by rw [merge_nil_r]; simp
  | x :: xs, y :: ys => by
    rcases Nat.lt_trichotomy x y with h | h | h
    · rw [merge_lt _ _ h]; have := merge_len xs (y :: ys); simp at this ⊢; omega
    · subst h; rw [merge_eq]; have := merge_len xs ys; simp at this ⊢; omega
    · rw [merge_gt _ _ h]; have := merge_len (x :: xs) ys; simp at this ⊢; omega
termination_by xs ys => xs.length + ys.length
/-- Two ascending lists of integers with the same members are one. -/
theorem sai_ext : ∀ {l l' : List Int}, l.Pairwise (· < ·) → l'.Pairwise (· < ·) → (∀ z, z ∈ l ↔ z ∈ l') → l = l'
  | [], [], _, _, _ => rfl
  | [], b :: l', _, _, h => absurd ((h b).2 (by simp)) (by simp)
  | a :: l, [], _, _, h => absurd ((h a).1 (by simp)) (by simp)
  | a :: l, b :: l', h1, h2, h => by
    have h1' := List.pairwise_cons.1 h1
    have h2' := List.pairwise_cons.1 h2
    have e : a = b := by
      have ha := (h a).1 (by simp)
      have hb := (h b).2 (by simp)
      rcases List.mem_cons.1 ha with ha | ha
      · exact ha
      · rcases List.mem_cons.1 hb with hb | hb
        · exact hb.symm
        · have := h1'.1 b hb
          have := h2'.1 a ha
          omega
    subst e
    rw [sai_ext h1'.2 h2'.2 (fun z => ?_)]
    constructor
    · intro hz
      rcases List.mem_cons.1 ((h z).1 (List.mem_cons_of_mem _ hz)) with e | e
      · have := h1'.1 z hz; omega
      · exact e
    · intro hz
      rcases List.mem_cons.1 ((h z).2 (List.mem_cons_of_mem _ hz)) with e | e
      · have := h2'.1 z hz; omega
      · exact e
theorem intL_sa {l : List Nat} (h : SA l) : (intL l).Pairwise (· < ·) := by
  unfold intL
  rw [List.pairwise_map]
  exact h.imp (fun h => by omega)
theorem drop_get {xs : List Nat} {k : Nat} (h : k < xs.length) : xs.drop k = xs.getD k 0 :: xs.drop (k + 1) := by
  rw [List.drop_eq_getElem_cons h, List.getD_eq_getElem?_getD, List.getElem?_eq_getElem h]; rfl

/-- One more union, where it fits. -/
def put (u : Cs) (l : List Nat) : Cs := if l.length ≤ 3 ∧ u.length < 8 ∧ l ∉ u then u ++ [l] else u
def uni1 (u : Cs) (x : List Nat) (ys : Cs) : Cs := ys.foldl (fun u y => put u (merge x y)) u
def uniA (u : Cs) (xs ys : Cs) : Cs := xs.foldl (fun u x => uni1 u x ys) u
def uni (xs ys : Cs) : Cs := uniA [] xs ys
theorem take_succ_getD {α : Type} (xs : List α) (k : Nat) (d : α) (h : k < xs.length) : xs.take (k + 1) = xs.take k ++ [xs.getD k d] := by
  rw [List.take_succ_eq_append_getElem h, List.getD_eq_getElem?_getD, List.getElem?_eq_getElem h]; rfl
theorem uni1_step (u : Cs) (x : List Nat) (ys : Cs) (k : Nat) (h : k < ys.length) : uni1 u x (ys.take (k + 1)) = put (uni1 u x (ys.take k)) (merge x (ys.getD k [])) := by
  unfold uni1
  rw [take_succ_getD ys k [] h, List.foldl_append]
  rfl
theorem uniA_step (u : Cs) (xs ys : Cs) (k : Nat) (h : k < xs.length) : uniA u (xs.take (k + 1)) ys = uni1 (uniA u (xs.take k) ys) (xs.getD k []) ys := by
  unfold uniA
  rw [take_succ_getD xs k [] h, List.foldl_append]
  rfl
theorem put_full {u : Cs} (l : List Nat) (h : u.length = 8) : put u l = u := by
  unfold put
  rw [if_neg (by omega)]
theorem uni1_full {u : Cs} (x : List Nat) (ys : Cs) (h : u.length = 8) : uni1 u x ys = u := by
  unfold uni1
  induction ys with
  | nil => rfl
  | cons y ys ih => rw [List.foldl_cons, put_full _ h]; exact ih
theorem uniA_full {u : Cs} (xs ys : Cs) (h : u.length = 8) : uniA u xs ys = u := by
  unfold uniA
  induction xs with
  | nil => rfl
  | cons x xs ih => rw [List.foldl_cons, uni1_full _ _ h]; exact ih
theorem uni_split (xs ys : Cs) (i k : Nat) (hi : i < xs.length) : uni xs ys = uniA (uni1 (uni1 (uniA [] (xs.take i) ys) (xs.getD i []) (ys.take k)) (xs.getD i []) (ys.drop k)) (xs.drop (i + 1)) ys := by
  have e1 : uni1 (uni1 (uniA [] (xs.take i) ys) (xs.getD i []) (ys.take k)) (xs.getD i []) (ys.drop k) = uniA [] (xs.take (i + 1)) ys := by
    rw [uniA_step _ _ _ _ hi]
    unfold uni1
    rw [← List.foldl_append, List.take_append_drop]
  rw [e1]
  unfold uni uniA
  rw [← List.foldl_append, List.take_append_drop]
theorem uni_done (xs ys : Cs) (i k : Nat) (hi : i < xs.length) (h : (uni1 (uniA [] (xs.take i) ys) (xs.getD i []) (ys.take k)).length = 8) : uni xs ys = uni1 (uniA [] (xs.take i) ys) (xs.getD i []) (ys.take k) := by
  rw [uni_split xs ys i k hi, uni1_full _ _ h, uniA_full _ _ h]
theorem put_le {u : Cs} {l : List Nat} (h : u.length ≤ 8) : (put u l).length ≤ 8 := by
  unfold put
  split
  · simp; omega
  · exact h
theorem uni1_le {u : Cs} {x : List Nat} {ys : Cs} (h : u.length ≤ 8) : (uni1 u x ys).length ≤ 8 := by
  unfold uni1
  induction ys generalizing u with
  | nil => exact h
  | cons y ys ih => rw [List.foldl_cons]; exact ih (put_le h)
theorem uniA_le {u : Cs} {xs ys : Cs} (h : u.length ≤ 8) : (uniA u xs ys).length ≤ 8 := by
  unfold uniA
  induction xs generalizing u with
  | nil => exact h
  | cons x xs ih => rw [List.foldl_cons]; exact ih (uni1_le h)
/-- What all unions keep. -/
theorem put_all {P : List Nat → Prop} {u : Cs} {l : List Nat} (h : ∀ x, x ∈ u → P x) (hl : l.length ≤ 3 → P l) : ∀ x, x ∈ put u l → P x := by
  unfold put
  split
  · next hc =>
    intro x hx
    rcases List.mem_append.1 hx with h1 | h1
    · exact h x h1
    · simp at h1; subst h1; exact hl hc.1
  · exact h
theorem uni1_all {P : List Nat → Prop} {u : Cs} {x : List Nat} {ys : Cs} (h : ∀ z, z ∈ u → P z) (hl : ∀ y, y ∈ ys → (merge x y).length ≤ 3 → P (merge x y)) : ∀ z, z ∈ uni1 u x ys → P z := by
  unfold uni1
  induction ys generalizing u with
  | nil => exact h
  | cons y ys ih => exact ih (u := put u (merge x y)) (put_all h (hl y (by simp))) (fun z hz => hl z (by simp [hz]))
theorem uniA_all {P : List Nat → Prop} {u xs ys : Cs} (h : ∀ x, x ∈ u → P x) (hl : ∀ x, x ∈ xs → ∀ y, y ∈ ys → (merge x y).length ≤ 3 → P (merge x y)) : ∀ x, x ∈ uniA u xs ys → P x := by
  unfold uniA
  induction xs generalizing u with
  | nil => exact h
  | cons x xs ih => exact ih (u := uni1 u x ys) (uni1_all h (fun y hy => hl x (by simp) y hy)) (fun z hz => hl z (by simp [hz]))
theorem uni_all {P : List Nat → Prop} {xs ys : Cs} (hl : ∀ x, x ∈ xs → ∀ y, y ∈ ys → (merge x y).length ≤ 3 → P (merge x y)) : ∀ x, x ∈ uni xs ys → P x :=
  uniA_all (fun x hx => absurd hx (by simp)) hl
theorem put_ne {u : Cs} {l : List Nat} (h : u ≠ [] ∨ l.length ≤ 3) : put u l ≠ [] := by
  unfold put
  split
  · simp
  · next hc =>
    rcases h with h | h
    · exact h
    · intro e
      exact hc ⟨h, by simp [e], by simp [e]⟩
theorem uni1_ne {u : Cs} {x : List Nat} {ys : Cs} (h : u ≠ [] ∨ ∃ y, y ∈ ys ∧ (merge x y).length ≤ 3) : uni1 u x ys ≠ [] := by
  unfold uni1
  induction ys generalizing u with
  | nil =>
    rcases h with h | ⟨y, hy, _⟩
    · exact h
    · simp at hy
  | cons y ys ih =>
    rw [List.foldl_cons]
    rcases h with h | ⟨z, hz, hl⟩
    · exact ih (.inl (put_ne (.inl h)))
    · rcases List.mem_cons.1 hz with e | e
      · subst e; exact ih (.inl (put_ne (.inr hl)))
      · exact ih (.inr ⟨z, e, hl⟩)
theorem uniA_ne {u xs ys : Cs} (h : u ≠ [] ∨ ∃ x, x ∈ xs ∧ ∃ y, y ∈ ys ∧ (merge x y).length ≤ 3) : uniA u xs ys ≠ [] := by
  unfold uniA
  induction xs generalizing u with
  | nil =>
    rcases h with h | ⟨y, hy, _⟩
    · exact h
    · simp at hy
  | cons x xs ih =>
    rw [List.foldl_cons]
    rcases h with h | ⟨z, hz, hl⟩
    · exact ih (.inl (uni1_ne (.inl h)))
    · rcases List.mem_cons.1 hz with e | e
      · subst e; exact ih (.inl (uni1_ne (.inr hl)))
      · exact ih (.inr ⟨z, e, hl⟩)

/-- The cuts of the variables ahead of the gates, and of all when the first k gates are known. -/
def own (v : Nat) : List Nat := if v = 0 then [] else [v]
def cutsTo (f : Nat) (gs : List G) : Nat → List Cs
  | 0 => (List.range f).map fun v => [own v]
  | k + 1 => cutsTo f gs k ++ [uni ((cutsTo f gs k).getD ((at_ gs k).1 / 2) []) ((cutsTo f gs k).getD ((at_ gs k).2 / 2) []) ++ [[f + k]]]
def cuts (f : Nat) (gs : List G) : List Cs := cutsTo f gs gs.length
theorem cutsTo_len (f : Nat) (gs : List G) (k : Nat) : (cutsTo f gs k).length = f + k := by
  induction k with
  | zero => simp [cutsTo]
  | succ k ih => simp [cutsTo, ih]; omega
theorem cuts_len (f : Nat) (gs : List G) : (cuts f gs).length = f + gs.length := cutsTo_len _ _ _
theorem cutsTo_pre (f : Nat) (gs : List G) (k m j : Nat) (hj : j < f + k) : (cutsTo f gs (k + m)).getD j [] = (cutsTo f gs k).getD j [] := by
  induction m with
  | zero => rfl
  | succ m ih =>
    show (cutsTo f gs (k + m) ++ _).getD j [] = _
    rw [Circ.getD_app_lt _ _ _ _ (by rw [cutsTo_len]; omega), ih]
theorem cuts_pre (f : Nat) (gs : List G) (k j : Nat) (hk : k ≤ gs.length) (hj : j < f + k) : (cuts f gs).getD j [] = (cutsTo f gs k).getD j [] := by
  obtain ⟨m, hm⟩ := Nat.le.dest hk
  unfold cuts
  rw [← hm]
  exact cutsTo_pre f gs k m j hj
theorem cuts_low (f : Nat) (gs : List G) (v : Nat) (h : v < f) : (cuts f gs).getD v [] = [own v] := by
  rw [cuts_pre f gs 0 v (Nat.zero_le _) (by omega)]
  simp [cutsTo, List.getD_eq_getElem?_getD, h]
theorem cuts_gate (f : Nat) (gs : List G) (k : Nat) (hk : k < gs.length) (hg : ordered f gs) : (cuts f gs).getD (f + k) [] = uni ((cuts f gs).getD ((at_ gs k).1 / 2) []) ((cuts f gs).getD ((at_ gs k).2 / 2) []) ++ [[f + k]] := by
  obtain ⟨h1, h2⟩ := hg k hk
  rw [cuts_pre f gs (k + 1) (f + k) hk (by omega), cuts_pre f gs k _ (by omega) h1, cuts_pre f gs k _ (by omega) h2]
  show (cutsTo f gs k ++ [_]).getD (f + k) [] = _
  exact Circ.getD_app_at _ _ _ _ (by rw [cutsTo_len])

/-- What is true of the cuts of a variable. -/
structure Gd (v : Nat) (cs : Cs) : Prop where
  len : cs.length ≤ 9
  fit : ∀ x, x ∈ cs → x.length ≤ 3
  sa : ∀ x, x ∈ cs → SA x
  le : ∀ x, x ∈ cs → ∀ l, l ∈ x → l ≤ v
  own : own v ∈ cs
theorem own_len (v : Nat) : (own v).length ≤ 1 := by unfold Cut.own; split <;> simp
theorem own_sa (v : Nat) : SA (own v) := by unfold Cut.own SA; split <;> simp
theorem own_le (v : Nat) : ∀ l, l ∈ own v → l ≤ v := by unfold Cut.own; split <;> simp
structure GdU (v : Nat) (u : Cs) : Prop where
  len : u.length ≤ 8
  ne : u ≠ []
  fit : ∀ x, x ∈ u → x.length ≤ 3
  sa : ∀ x, x ∈ u → SA x
  lt : ∀ x, x ∈ u → ∀ l, l ∈ x → l < v
theorem uni_gd {v a b : Nat} {xs ys : Cs} (hx : Gd a xs) (hy : Gd b ys) (ha : a < v) (hb : b < v) : GdU v (uni xs ys) := by
  refine ⟨uniA_le (by simp), uniA_ne (.inr ⟨_, hx.own, _, hy.own, ?_⟩), uni_all fun x _ y _ h => h, uni_all fun x hx1 y hy1 _ => merge_sa _ _ (hx.sa x hx1) (hy.sa y hy1), uni_all fun x hx1 y hy1 _ l hl => ?_⟩
  · have := merge_len (own a) (own b)
    have := own_len a
    have := own_len b
    omega
  · rcases (merge_mem _ _ _).1 hl with h | h
    · have := hx.le x hx1 l h; omega
    · have := hy.le y hy1 l h; omega
theorem GdU.gd {v : Nat} {u : Cs} (h : GdU v u) (hv : 0 < v) : Gd v (u ++ [[v]]) := by
  refine ⟨by have := h.len; simp; omega, fun x hx => ?_, fun x hx => ?_, fun x hx l hl => ?_, ?_⟩
  · rcases List.mem_append.1 hx with h1 | h1
    · exact h.fit x h1
    · simp at h1; subst h1; simp
  · rcases List.mem_append.1 hx with h1 | h1
    · exact h.sa x h1
    · simp at h1; subst h1; simp [SA]
  · rcases List.mem_append.1 hx with h1 | h1
    · have := h.lt x h1 l hl; omega
    · simp at h1; subst h1; simp at hl; omega
  · unfold Cut.own
    rw [if_neg (by omega)]
    simp
theorem cutsTo_gd {f : Nat} {gs : List G} (hf : 0 < f) (hg : ordered f gs) : ∀ k, k ≤ gs.length → ∀ v, v < f + k → Gd v ((cutsTo f gs k).getD v [])
  | 0, _, v, hv => by
    have e : (cutsTo f gs 0).getD v [] = [own v] := by
      simp [cutsTo, List.getD_eq_getElem?_getD]
      rw [List.getElem?_eq_getElem (by simpa using hv)]
      simp
    rw [e]
    refine ⟨by simp, fun x hx => ?_, fun x hx => ?_, fun x hx => ?_, by simp⟩
    · simp at hx; subst hx; have := own_len v; omega
    · simp at hx; subst hx; exact own_sa v
    · simp at hx; subst hx; exact own_le v
  | k + 1, hk, v, hv => by
    have ih := cutsTo_gd hf hg k (by omega)
    obtain ⟨h1, h2⟩ := hg k hk
    by_cases e : v < f + k
    · have := cutsTo_pre f gs k 1 v e
      rw [this]
      exact ih v e
    · obtain rfl : v = f + k := by omega
      have e1 : (cutsTo f gs (k + 1)).getD (f + k) [] = uni ((cutsTo f gs k).getD ((at_ gs k).1 / 2) []) ((cutsTo f gs k).getD ((at_ gs k).2 / 2) []) ++ [[f + k]] := by
        show (cutsTo f gs k ++ [_]).getD (f + k) [] = _
        exact Circ.getD_app_at _ _ _ _ (by rw [cutsTo_len])
      rw [e1]
      exact (uni_gd (ih _ h1) (ih _ h2) h1 h2).gd (by omega)
theorem cuts_gd {f : Nat} {gs : List G} (hf : 0 < f) (hg : ordered f gs) (v : Nat) (hv : v < f + gs.length) : Gd v ((cuts f gs).getD v []) := cutsTo_gd hf hg gs.length (Nat.le_refl _) v hv
/-- The unions of a gate. -/
def unis (f : Nat) (gs : List G) (k : Nat) : Cs := uni ((cuts f gs).getD ((at_ gs k).1 / 2) []) ((cuts f gs).getD ((at_ gs k).2 / 2) [])
theorem unis_gd {f : Nat} {gs : List G} (hf : 0 < f) (hg : ordered f gs) (k : Nat) (hk : k < gs.length) : GdU (f + k) (unis f gs k) := by
  obtain ⟨h1, h2⟩ := hg k hk
  exact uni_gd (cuts_gd hf hg _ (by omega)) (cuts_gd hf hg _ (by omega)) h1 h2
end Cut
/- Plain mathematics of cuts: a cut determines its variable; no program. -/
namespace Cut
open Opt
/-- The value of l if the members of L have these values. -/
def look (L : List Nat) (bs : List Bool) (l : Nat) : Bool := bs.getD (L.idxOf l) false
theorem look_map {L : List Nat} {val : Nat → Bool} {l : Nat} (h : l ∈ L) : look L (L.map val) l = val l := by
  unfold look
  have hi := List.idxOf_lt_length_of_mem h
  rw [List.getD_eq_getElem?_getD, List.getElem?_map, List.getElem?_eq_getElem hi]
  simp
/-- The leaves determine the variable. -/
def Det (f : Nat) (gs : List G) (v : Nat) (x : List Nat) : Prop := ∃ T : List Bool → Bool, ∀ val : Nat → Bool, Sem f gs val → val v = T (x.map val)
theorem det_own (f : Nat) (gs : List G) (v : Nat) : Det f gs v (own v) := by
  by_cases h : v = 0
  · subst h
    exact ⟨fun _ => false, fun val hs => hs.zero⟩
  · refine ⟨fun bs => bs.getD 0 false, fun val _ => ?_⟩
    unfold Cut.own
    rw [if_neg h]
    rfl
theorem Det.wide {f : Nat} {gs : List G} {v : Nat} {x L : List Nat} (h : Det f gs v x) (hx : ∀ l, l ∈ x → l ∈ L) : Det f gs v L := by
  obtain ⟨T, hT⟩ := h
  refine ⟨fun bs => T (x.map (look L bs)), fun val hs => ?_⟩
  rw [hT val hs]
  congr 1
  exact List.map_congr_left (fun l hl => (look_map (hx l hl)).symm)
theorem det_gate {f : Nat} {gs : List G} {k : Nat} (hk : k < gs.length) {L : List Nat} (ha : Det f gs ((at_ gs k).1 / 2) L) (hb : Det f gs ((at_ gs k).2 / 2) L) : Det f gs (f + k) L := by
  obtain ⟨A, hA⟩ := ha
  obtain ⟨B, hB⟩ := hb
  refine ⟨fun bs => (A bs != ((at_ gs k).1 % 2 == 1)) && (B bs != ((at_ gs k).2 % 2 == 1)), fun val hs => ?_⟩
  rw [hs.gate k hk]
  unfold litB
  rw [hA val hs, hB val hs]
theorem cutsTo_det {f : Nat} {gs : List G} (hg : ordered f gs) : ∀ k, k ≤ gs.length → ∀ v, v < f + k → ∀ x, x ∈ (cutsTo f gs k).getD v [] → Det f gs v x
  | 0, _, v, hv => by
    have e : (cutsTo f gs 0).getD v [] = [own v] := by
      simp [cutsTo, List.getD_eq_getElem?_getD]
      rw [List.getElem?_eq_getElem (by simpa using hv)]
      simp
    rw [e]
    intro x hx
    simp at hx
    subst hx
    exact det_own f gs v
  | k + 1, hk, v, hv => by
    have ih := cutsTo_det hg k (by omega)
    obtain ⟨h1, h2⟩ := hg k hk
    by_cases e : v < f + k
    · have := cutsTo_pre f gs k 1 v e
      rw [this]
      exact ih v e
    · obtain rfl : v = f + k := by omega
      have e1 : (cutsTo f gs (k + 1)).getD (f + k) [] = uni ((cutsTo f gs k).getD ((at_ gs k).1 / 2) []) ((cutsTo f gs k).getD ((at_ gs k).2 / 2) []) ++ [[f + k]] := by
        show (cutsTo f gs k ++ [_]).getD (f + k) [] = _
        exact Circ.getD_app_at _ _ _ _ (by rw [cutsTo_len])
      rw [e1]
      intro x hx
      rcases List.mem_append.1 hx with h | h
      · exact uni_all (P := Det f gs (f + k)) (fun a ha b hb _ => det_gate hk ((ih _ h1 a ha).wide (fun l hl => (merge_mem _ _ _).2 (.inl hl))) ((ih _ h2 b hb).wide (fun l hl => (merge_mem _ _ _).2 (.inr hl)))) x h
      · simp at h
        subst h
        exact ⟨fun bs => bs.getD 0 false, fun val _ => rfl⟩
theorem cuts_det {f : Nat} {gs : List G} (hg : ordered f gs) (v : Nat) (hv : v < f + gs.length) (x : List Nat) (hx : x ∈ (cuts f gs).getD v []) : Det f gs v x := cutsTo_det hg gs.length (Nat.le_refl _) v hv x hx
/-- The last cut of a variable is the variable itself. -/
theorem cuts_last {f : Nat} {gs : List G} (hg : ordered f gs) (v : Nat) (hv : v < f + gs.length) : ((cuts f gs).getD v []).getD (((cuts f gs).getD v []).length - 1) [] = own v ∨ v = 0 := by
  by_cases h : v < f
  · rw [cuts_low f gs v h]; exact .inl rfl
  · obtain ⟨k, rfl⟩ : ∃ k, v = f + k := ⟨v - f, by omega⟩
    by_cases h0 : f + k = 0
    · exact .inr h0
    · left
      rw [cuts_gate f gs k (by omega) hg]
      rw [Circ.getD_app_at _ _ _ _ (by simp)]
      unfold Cut.own
      rw [if_neg h0]

/-- The number of these digits, the first one the lowest. -/
def num : List Bool → Nat
  | [] => 0
  | b :: bs => (if b then 1 else 0) + 2 * num bs
theorem num_lt : ∀ bs : List Bool, num bs < 2 ^ bs.length
  | [] => by simp [num]
  | b :: bs => by
    have := num_lt bs
    simp only [num, List.length_cons, Nat.pow_succ]
    split <;> omega
theorem num_inj : ∀ {a b : List Bool}, a.length = b.length → num a = num b → a = b
  | [], [], _, _ => rfl
  | [], _ :: _, h, _ => by simp at h
  | _ :: _, [], h, _ => by simp at h
  | x :: xs, y :: ys, h, e => by
    simp only [num] at e
    have h1 : xs.length = ys.length := by simpa using h
    cases x <;> cases y <;> simp at e
    · rw [num_inj h1 (by omega)]
    · omega
    · omega
    · rw [num_inj h1 (by omega)]
theorem num_snoc : ∀ (bs : List Bool) (b : Bool), num (bs ++ [b]) = num bs + (if b then 2 ^ bs.length else 0)
  | [], b => by simp [num]
  | x :: xs, b => by
    rw [List.cons_append, num, num_snoc xs b, num, List.length_cons, Nat.pow_succ]
    split <;> split <;> omega
end Cut
/- Plain mathematics of the mapping: arrival times and best cuts; no program. -/
namespace Cut
open Opt
/-- The latest arrival time of the leaves. -/
def lateFrom (arr : List Nat) : Nat → List Nat → Nat
  | t, [] => t
  | t, l :: x => lateFrom arr (max t (arr.getD l 0)) x
def late (arr : List Nat) (x : List Nat) : Nat := lateFrom arr 0 x
theorem lateFrom_snoc (arr : List Nat) : ∀ (x : List Nat) (t l : Nat), lateFrom arr t (x ++ [l]) = max (lateFrom arr t x) (arr.getD l 0)
  | [], _, _ => rfl
  | _ :: x, _, l => by
    show lateFrom arr _ (x ++ [l]) = max (lateFrom arr _ x) _
    exact lateFrom_snoc arr x _ l
theorem late_snoc (arr : List Nat) (x : List Nat) (l : Nat) : late arr (x ++ [l]) = max (late arr x) (arr.getD l 0) := lateFrom_snoc arr x 0 l
theorem late_take (arr : List Nat) (x : List Nat) (k : Nat) (hk : k < x.length) : late arr (x.take (k + 1)) = max (late arr (x.take k)) (arr.getD (x.getD k 0) 0) := by
  have e : x.take (k + 1) = x.take k ++ [x.getD k 0] := by
    rw [List.take_add_one, List.getD_eq_getElem?_getD, List.getElem?_eq_getElem hk]
    rfl
  rw [e, late_snoc]
theorem late_le {arr : List Nat} {n : Nat} : ∀ {x : List Nat}, (∀ l, l ∈ x → arr.getD l 0 ≤ n) → late arr x ≤ n := by
  have key : ∀ (x : List Nat) (t : Nat), t ≤ n → (∀ l, l ∈ x → arr.getD l 0 ≤ n) → lateFrom arr t x ≤ n := by
    intro x
    induction x with
    | nil => intro t ht _; exact ht
    | cons a x ih =>
      intro t ht h
      exact ih _ (Nat.max_le.2 ⟨ht, h a (by simp)⟩) (fun l hl => h l (by simp [hl]))
  intro x h
  exact key x 0 (Nat.zero_le _) h
theorem late_ge {arr : List Nat} : ∀ {x : List Nat} {l : Nat}, l ∈ x → arr.getD l 0 ≤ late arr x := by
  have mono : ∀ (x : List Nat) (t : Nat), t ≤ lateFrom arr t x := by
    intro x
    induction x with
    | nil => intro t; exact Nat.le_refl _
    | cons a x ih => intro t; exact Nat.le_trans (Nat.le_max_left _ _) (ih _)
  have key : ∀ (x : List Nat) (t l : Nat), l ∈ x → arr.getD l 0 ≤ lateFrom arr t x := by
    intro x
    induction x with
    | nil => intro t l h; cases h
    | cons a x ih =>
      intro t l h
      rcases List.mem_cons.1 h with h | h
      · subst h; exact Nat.le_trans (Nat.le_max_right _ _) (mono x _)
      · exact ih _ l h
  intro x l h
  exact key x 0 l h
/-- The times agree on the leaves. -/
theorem late_congr {a b : List Nat} : ∀ {x : List Nat}, (∀ l, l ∈ x → a.getD l 0 = b.getD l 0) → late a x = late b x := by
  have key : ∀ (x : List Nat) (t : Nat), (∀ l, l ∈ x → a.getD l 0 = b.getD l 0) → lateFrom a t x = lateFrom b t x := by
    intro x
    induction x with
    | nil => intro t _; rfl
    | cons c x ih =>
      intro t h
      show lateFrom a _ x = lateFrom b _ x
      rw [h c (by simp)]
      exact ih _ (fun l hl => h l (by simp [hl]))
  intro x h
  exact key x 0 h
/-- x is preferred to y. -/
def better (arr : List Nat) (x y : List Nat) : Bool := decide (late arr x < late arr y) || (late arr x == late arr y && decide (x.length < y.length))
/-- The place of the best of the first m + 1 cuts. -/
def pick (arr : List Nat) (L : Cs) : Nat → Nat
  | 0 => 0
  | m + 1 => if better arr (L.getD (m + 1) []) (L.getD (pick arr L m) []) then m + 1 else pick arr L m
theorem pick_le (arr : List Nat) (L : Cs) : ∀ m, pick arr L m ≤ m
  | 0 => Nat.le_refl _
  | m + 1 => by
    have := pick_le arr L m
    unfold pick
    split <;> omega
/-- The best cut, the last one left out. -/
def bestOf (arr : List Nat) (L : Cs) : List Nat := L.getD (pick arr L (L.length - 2)) []
/-- Best cuts and arrival times after k gates. -/
def mapTo (f : Nat) (cs : List Cs) : Nat → List (List Nat) × List Nat
  | 0 => (List.replicate f [], List.replicate f 0)
  | k + 1 => ((mapTo f cs k).1 ++ [bestOf (mapTo f cs k).2 (cs.getD (f + k) [])], (mapTo f cs k).2 ++ [1 + late (mapTo f cs k).2 (bestOf (mapTo f cs k).2 (cs.getD (f + k) []))])
theorem mapTo_len (f : Nat) (cs : List Cs) : ∀ k, (mapTo f cs k).1.length = f + k ∧ (mapTo f cs k).2.length = f + k
  | 0 => by simp [mapTo]
  | k + 1 => by
    obtain ⟨h1, h2⟩ := mapTo_len f cs k
    simp only [mapTo, List.length_append, List.length_singleton, h1, h2]
    omega
def bests (f : Nat) (gs : List G) : List (List Nat) := (mapTo f (cuts f gs) gs.length).1
def times (f : Nat) (gs : List G) : List Nat := (mapTo f (cuts f gs) gs.length).2
theorem arr_le (f : Nat) (cs : List Cs) : ∀ k v, (mapTo f cs k).2.getD v 0 ≤ k
  | 0, v => by
    simp only [mapTo, List.getD_eq_getElem?_getD, List.getElem?_replicate]
    split <;> simp
  | k + 1, v => by
    have ih := arr_le f cs k
    simp only [mapTo]
    rw [List.getD_eq_getElem?_getD, List.getElem?_append]
    split
    · have := ih v
      rw [List.getD_eq_getElem?_getD] at this
      omega
    · have hl := (mapTo_len f cs k).2
      rw [List.getElem?_singleton]
      split
      · have := late_le (arr := (mapTo f cs k).2) (n := k) (x := bestOf (mapTo f cs k).2 (cs.getD (f + k) [])) (fun l _ => ih l)
        simp only [Option.getD_some]
        omega
      · simp
end Cut
/- Plain mathematics of lookup tables: cones, tables, needed variables; no program. -/
namespace Cut
open Opt
/-- The value of leaf v in assignment x. -/
def leafB (x : Nat) (lv : List Nat) (v : Nat) : Bool := lv.contains v && x.testBit (lv.idxOf v)
def litN (L : List Bool) (l : Nat) : Bool := L.getD (l / 2) false != (l % 2 == 1)
/-- The values of all variables up to gate k, the leaves as x says. -/
def coneL (f : Nat) (gs : List G) (x : Nat) (lv : List Nat) : Nat → List Bool
  | 0 => (List.range f).map (leafB x lv)
  | k + 1 => coneL f gs x lv k ++ [if lv.contains (f + k) then leafB x lv (f + k) else litN (coneL f gs x lv k) (at_ gs k).1 && litN (coneL f gs x lv k) (at_ gs k).2]
def coneV (f : Nat) (gs : List G) (x : Nat) (lv : List Nat) (v : Nat) : Bool := (coneL f gs x lv (v + 1 - f)).getD v false
theorem coneL_len (f : Nat) (gs : List G) (x : Nat) (lv : List Nat) : ∀ k, (coneL f gs x lv k).length = f + k
  | 0 => by simp [coneL]
  | k + 1 => by
    have := coneL_len f gs x lv k
    simp only [coneL, List.length_append, List.length_singleton, this]
    omega
theorem getD_snoc_lt {α : Type} (l : List α) (a d : α) {v : Nat} (h : v < l.length) : (l ++ [a]).getD v d = l.getD v d := by
  rw [List.getD_eq_getElem?_getD, List.getD_eq_getElem?_getD, List.getElem?_append_left h]
theorem getD_snoc_at {α : Type} (l : List α) (a d : α) {v : Nat} (h : v = l.length) : (l ++ [a]).getD v d = a := by
  subst h
  rw [List.getD_eq_getElem?_getD, List.getElem?_append_right (Nat.le_refl _)]
  simp
theorem getD_out {α : Type} (l : List α) (d : α) {v : Nat} (h : l.length ≤ v) : l.getD v d = d := by
  rw [List.getD_eq_getElem?_getD, List.getElem?_eq_none h]; rfl
theorem coneL_add (f : Nat) (gs : List G) (x : Nat) (lv : List Nat) (k : Nat) {u : Nat} (h : u < f + k) : ∀ d, (coneL f gs x lv (k + d)).getD u false = (coneL f gs x lv k).getD u false
  | 0 => rfl
  | d + 1 => by
    show (coneL f gs x lv (k + d) ++ [_]).getD u false = _
    rw [getD_snoc_lt _ _ _ (by rw [coneL_len]; omega)]
    exact coneL_add f gs x lv k h d
theorem coneL_v (f : Nat) (gs : List G) (x : Nat) (lv : List Nat) {k u : Nat} (h : u < f + k) : (coneL f gs x lv k).getD u false = coneV f gs x lv u := by
  unfold coneV
  obtain ⟨d, hd⟩ : ∃ d, k = (u + 1 - f) + d := ⟨k - (u + 1 - f), by omega⟩
  rw [hd]
  exact coneL_add f gs x lv (u + 1 - f) (by omega) d
theorem range_getD {α : Type} (g : Nat → α) (d : α) {n u : Nat} (h : u < n) : ((List.range n).map g).getD u d = g u := by
  rw [List.getD_eq_getElem?_getD, List.getElem?_map, List.getElem?_range h]
  rfl
theorem coneV_low (f : Nat) (gs : List G) (x : Nat) (lv : List Nat) {v : Nat} (h : v < f) : coneV f gs x lv v = leafB x lv v := by
  rw [← coneL_v f gs x lv (k := 0) (by omega)]
  exact range_getD _ _ h
theorem coneV_gate (f : Nat) (gs : List G) (x : Nat) (lv : List Nat) {k : Nat} (ha : (at_ gs k).1 / 2 < f + k) (hb : (at_ gs k).2 / 2 < f + k) : coneV f gs x lv (f + k) = if lv.contains (f + k) then leafB x lv (f + k) else (coneV f gs x lv ((at_ gs k).1 / 2) != ((at_ gs k).1 % 2 == 1)) && (coneV f gs x lv ((at_ gs k).2 / 2) != ((at_ gs k).2 % 2 == 1)) := by
  rw [← coneL_v f gs x lv (k := k + 1) (by omega)]
  show (coneL f gs x lv k ++ [_]).getD (f + k) false = _
  rw [getD_snoc_at _ _ _ (by rw [coneL_len])]
  unfold litN
  rw [coneL_v f gs x lv ha, coneL_v f gs x lv hb]
/-- The value at a leaf. -/
theorem coneV_leaf (f : Nat) (gs : List G) (x : Nat) (lv : List Nat) {v : Nat} (h : lv.contains v = true) (hg : ordered f gs) (hv : v < f + gs.length) : coneV f gs x lv v = x.testBit (lv.idxOf v) := by
  by_cases hf : v < f
  · rw [coneV_low f gs x lv hf]; unfold leafB; rw [h]; rfl
  · obtain ⟨k, rfl⟩ : ∃ k, v = f + k := ⟨v - f, by omega⟩
    obtain ⟨h1, h2⟩ := hg k (by omega)
    rw [coneV_gate f gs x lv h1 h2, if_pos h]
    unfold leafB; rw [h]; rfl
/-- The program's bits after i gates. -/
def progF (f : Nat) (gs : List G) (x : Nat) (lv : List Nat) (i u : Nat) : Bool := if u < f + i then (coneL f gs x lv i).getD u false else leafB x lv u
theorem progF_0 (f : Nat) (gs : List G) (x : Nat) (lv : List Nat) (u : Nat) : progF f gs x lv 0 u = leafB x lv u := by
  unfold progF
  split
  · exact range_getD _ _ (by omega)
  · rfl
theorem progF_step (f : Nat) (gs : List G) (x : Nat) (lv : List Nat) (i u : Nat) : progF f gs x lv (i + 1) u = (progF f gs x lv i u || (!lv.contains (f + i) && (litN (coneL f gs x lv i) (at_ gs i).1 && litN (coneL f gs x lv i) (at_ gs i).2) && (f + i == u))) := by
  unfold progF
  have hl := coneL_len f gs x lv i
  by_cases h1 : u < f + i
  · rw [if_pos h1, if_pos (by omega)]
    show (coneL f gs x lv i ++ [_]).getD u false = _
    rw [getD_snoc_lt _ _ _ (by omega)]
    have : (f + i == u) = false := by simp; omega
    rw [this, Bool.and_false, Bool.or_false]
  · rw [if_neg h1]
    by_cases h2 : u = f + i
    · subst h2
      rw [if_pos (by omega)]
      show (coneL f gs x lv i ++ [_]).getD (f + i) false = _
      rw [getD_snoc_at _ _ _ (by omega)]
      unfold leafB
      cases lv.contains (f + i) <;> simp
    · rw [if_neg (by omega)]
      have : (f + i == u) = false := by simp; omega
      rw [this, Bool.and_false, Bool.or_false]
theorem progF_lit (f : Nat) (gs : List G) (x : Nat) (lv : List Nat) (i l : Nat) (h : l / 2 < f + i) : (progF f gs x lv i (l / 2) != (l % 2 == 1)) = litN (coneL f gs x lv i) l := by
  unfold progF litN
  rw [if_pos h]
theorem progF_end (f : Nat) (gs : List G) (x : Nat) (lv : List Nat) {v : Nat} (h : f ≤ v) : progF f gs x lv (v + 1 - f) v = coneV f gs x lv v := by
  unfold progF coneV
  rw [if_pos (by omega)]
/-- The bits that the leaves set. -/
def setN (x : Nat) (lv : List Nat) : Nat → Nat
  | 0 => 0
  | k + 1 => if x.testBit k then setN x lv k ||| 2 ^ (lv.getD k 0) else setN x lv k
theorem setN_bit (x : Nat) (lv : List Nat) (u : Nat) : ∀ k, (setN x lv k).testBit u = (List.range k).any fun j => x.testBit j && lv.getD j 0 == u
  | 0 => by simp [setN]
  | k + 1 => by
    have ih := setN_bit x lv u k
    rw [List.range_succ, List.any_append, ← ih]
    show (if x.testBit k = true then setN x lv k ||| 2 ^ (lv.getD k 0) else setN x lv k).testBit u = _
    cases h : x.testBit k
    · simp [h]
    · rw [if_pos rfl, bit_or]
      simp [h]
theorem setN_lt (x : Nat) (lv : List Nat) (hl : ∀ l, l ∈ lv → l < 64) : ∀ k, k ≤ lv.length → setN x lv k < 18446744073709551616
  | 0, _ => by simp [setN]
  | k + 1, hk => by
    have ih := setN_lt x lv hl k (by omega)
    unfold setN
    split
    · have h1 : lv.getD k 0 < 64 := hl _ (by rw [List.getD_eq_getElem?_getD, List.getElem?_eq_getElem (by omega)]; exact List.getElem_mem _)
      have h2 : 2 ^ (lv.getD k 0) < 2 ^ 64 := Nat.pow_lt_pow_right (by omega) h1
      exact Nat.or_lt_two_pow (n := 64) ih h2
    · exact ih
/-- No variable twice. -/
def Once (lv : List Nat) : Prop := ∀ j k, j < lv.length → k < lv.length → lv.getD j 0 = lv.getD k 0 → j = k
theorem idx_get {lv : List Nat} {u : Nat} (h : u ∈ lv) : lv.idxOf u < lv.length ∧ lv.getD (lv.idxOf u) 0 = u := by
  have h1 := List.idxOf_lt_length_of_mem h
  refine ⟨h1, ?_⟩
  rw [List.getD_eq_getElem?_getD, List.getElem?_eq_getElem h1]
  simp
theorem setN_leaf (x : Nat) (lv : List Nat) (h : Once lv) (u : Nat) : (setN x lv lv.length).testBit u = leafB x lv u := by
  rw [setN_bit]
  unfold leafB
  by_cases hm : u ∈ lv
  · obtain ⟨h1, h2⟩ := idx_get hm
    rw [List.contains_iff_mem.2 hm, Bool.true_and]
    cases hb : x.testBit (lv.idxOf u)
    · rw [Bool.eq_false_iff]
      intro hc
      rw [List.any_eq_true] at hc
      obtain ⟨j, hj, hc⟩ := hc
      simp at hj hc
      have e := h j (lv.idxOf u) hj h1 (by rw [h2, List.getD_eq_getElem?_getD]; exact hc.2)
      rw [e, hb] at hc
      simp at hc
    · rw [List.any_eq_true]
      refine ⟨lv.idxOf u, by simpa using h1, ?_⟩
      rw [hb, h2]
      simp
  · have : lv.contains u = false := by
      rw [Bool.eq_false_iff]
      intro hc
      exact hm (List.contains_iff_mem.1 hc)
    rw [this, Bool.false_and, Bool.eq_false_iff]
    intro hc
    rw [List.any_eq_true] at hc
    obtain ⟨j, hj, hc⟩ := hc
    simp at hj hc
    refine hm ?_
    rw [← hc.2, List.getElem?_eq_getElem hj]
    exact List.getElem_mem hj
/-- The table of variable v over the leaves. -/
def tabN (f : Nat) (gs : List G) (lv : List Nat) (v : Nat) : Nat → Nat
  | 0 => 0
  | x + 1 => if coneV f gs x lv v then tabN f gs lv v x + 2 ^ x else tabN f gs lv v x
def tabV (f : Nat) (gs : List G) (lv : List Nat) (v : Nat) : Nat := tabN f gs lv v (2 ^ lv.length)
theorem tabN_lt (f : Nat) (gs : List G) (lv : List Nat) (v : Nat) : ∀ x, tabN f gs lv v x < 2 ^ x
  | 0 => by simp [tabN]
  | x + 1 => by
    have := tabN_lt f gs lv v x
    unfold tabN
    rw [Nat.pow_succ]
    split <;> omega
theorem tabN_or (f : Nat) (gs : List G) (lv : List Nat) (v x : Nat) : tabN f gs lv v x ||| 2 ^ x = tabN f gs lv v x + 2 ^ x := by
  have h := tabN_lt f gs lv v x
  rw [Nat.or_comm, Nat.add_comm]
  have := Nat.two_pow_add_eq_or_of_lt h 1
  rw [Nat.mul_one] at this
  exact this.symm
theorem tabN_bit (f : Nat) (gs : List G) (lv : List Nat) (v : Nat) : ∀ n x, x < n → (tabN f gs lv v n).testBit x = coneV f gs x lv v
  | 0, x, h => by omega
  | n + 1, x, h => by
    unfold tabN
    by_cases e : x = n
    · subst e
      have hlt := tabN_lt f gs lv v x
      split
      · next hc => rw [← tabN_or, Nat.testBit_or, Nat.testBit_two_pow_self, Bool.or_true, hc]
      · next hc => rw [Nat.testBit_lt_two_pow hlt]; simpa using hc
    · have ih := tabN_bit f gs lv v n x (by omega)
      split
      · rw [← tabN_or, Nat.testBit_or, Nat.testBit_two_pow_of_ne (by omega), Bool.or_false, ih]
      · exact ih
/-- Bits of the leaves added. -/
def orL (m : Nat) : List Nat → Nat
  | [] => m
  | x :: r => orL (m ||| 2 ^ x) r
theorem orL_snoc (m : Nat) (xs : List Nat) (x : Nat) : orL m (xs ++ [x]) = orL m xs ||| 2 ^ x := by
  induction xs generalizing m with
  | nil => rfl
  | cons y r ih => exact ih _
theorem orL_bit (m : Nat) (xs : List Nat) (v : Nat) : (orL m xs).testBit v = (m.testBit v || xs.contains v) := by
  induction xs generalizing m with
  | nil => simp [orL]
  | cons x r ih =>
    show (orL (m ||| 2 ^ x) r).testBit v = _
    rw [ih, bit_or, List.contains_cons, Bool.or_assoc]
    congr 1
    rw [show (v == x) = (x == v) from BEq.comm]
theorem orL_lt {m : Nat} {xs : List Nat} (hm : m < 18446744073709551616) (hx : ∀ x, x ∈ xs → x < 64) : orL m xs < 18446744073709551616 := by
  induction xs generalizing m with
  | nil => exact hm
  | cons x r ih =>
    refine ih ?_ (fun y hy => hx y (by simp [hy]))
    have h1 : 2 ^ x < 2 ^ 64 := Nat.pow_lt_pow_right (by omega) (hx x (by simp))
    exact Nat.or_lt_two_pow (n := 64) hm h1
/-- The needed variables when those from n - k on have been looked at. -/
def needN (bs : Cs) (n m : Nat) : Nat → Nat
  | 0 => m
  | k + 1 => if (needN bs n m k).testBit (n - (k + 1)) then orL (needN bs n m k) (bs.getD (n - (k + 1)) []) else needN bs n m k
theorem needN_lt {bs : Cs} {n m : Nat} (hm : m < 18446744073709551616) (hb : ∀ v l, l ∈ bs.getD v [] → l < 64) : ∀ k, needN bs n m k < 18446744073709551616
  | 0 => hm
  | k + 1 => by
    have ih := needN_lt (n := n) hm hb k
    unfold needN
    split
    · exact orL_lt ih (hb _)
    · exact ih
/-- What lies above is settled. -/
theorem needN_step {bs : Cs} {n m : Nat} (hb : ∀ v l, l ∈ bs.getD v [] → l < v) (k : Nat) {v : Nat} (hv : n - (k + 1) ≤ v) : (needN bs n m (k + 1)).testBit v = (needN bs n m k).testBit v := by
  show (if (needN bs n m k).testBit (n - (k + 1)) then orL (needN bs n m k) (bs.getD (n - (k + 1)) []) else needN bs n m k).testBit v = _
  split
  · rw [orL_bit]
    have : (bs.getD (n - (k + 1)) []).contains v = false := by
      rw [Bool.eq_false_iff]
      intro hc
      have := hb _ _ (List.contains_iff_mem.1 hc)
      omega
    rw [this, Bool.or_false]
  · rfl
theorem needN_keep {bs : Cs} {n m : Nat} (hb : ∀ v l, l ∈ bs.getD v [] → l < v) (k : Nat) {v : Nat} (hv : n - (k + 1) ≤ v) : ∀ d, (needN bs n m (k + d)).testBit v = (needN bs n m k).testBit v
  | 0 => rfl
  | d + 1 => by
    have h1 := needN_step (m := m) (n := n) hb (k + d) (v := v) (by omega)
    exact h1.trans (needN_keep hb k hv d)
/-- A variable without leaves adds none. -/
theorem needN_none {bs : Cs} {n m : Nat} {f : Nat} (hf : 0 < f) (hb : ∀ v, v < f → bs.getD v [] = []) : ∀ d, needN bs n m (n - f + d) = needN bs n m (n - f)
  | 0 => rfl
  | d + 1 => by
    have ih := needN_none (n := n) (m := m) hf hb d
    show (if (needN bs n m (n - f + d)).testBit (n - (n - f + d + 1)) then orL (needN bs n m (n - f + d)) (bs.getD (n - (n - f + d + 1)) []) else needN bs n m (n - f + d)) = _
    rw [ih, hb (n - (n - f + d + 1)) (by omega)]
    split <;> rfl
theorem mapTo_pre (f : Nat) (cs : List Cs) (k : Nat) {v : Nat} (hv : v < f + k) : ∀ d, (mapTo f cs (k + d)).1.getD v [] = (mapTo f cs k).1.getD v [] ∧ (mapTo f cs (k + d)).2.getD v 0 = (mapTo f cs k).2.getD v 0
  | 0 => ⟨rfl, rfl⟩
  | d + 1 => by
    obtain ⟨h1, h2⟩ := mapTo_pre f cs k hv d
    obtain ⟨l1, l2⟩ := mapTo_len f cs (k + d)
    show ((mapTo f cs (k + d)).1 ++ [_]).getD v [] = _ ∧ ((mapTo f cs (k + d)).2 ++ [_]).getD v 0 = _
    rw [getD_snoc_lt _ _ _ (by omega), getD_snoc_lt _ _ _ (by omega)]
    exact ⟨h1, h2⟩
theorem bests_low (f : Nat) (gs : List G) {v : Nat} (hv : v < f) : (bests f gs).getD v [] = [] := by
  have h := (mapTo_pre f (cuts f gs) 0 (v := v) (by omega) gs.length).1
  rw [Nat.zero_add] at h
  refine h.trans ?_
  show (List.replicate f ([] : List Nat)).getD v [] = []
  rw [List.getD_eq_getElem?_getD, List.getElem?_replicate]; split <;> rfl
theorem times_low (f : Nat) (gs : List G) {v : Nat} (hv : v < f) : (times f gs).getD v 0 = 0 := by
  have h := (mapTo_pre f (cuts f gs) 0 (v := v) (by omega) gs.length).2
  rw [Nat.zero_add] at h
  refine h.trans ?_
  show (List.replicate f 0).getD v 0 = 0
  rw [List.getD_eq_getElem?_getD, List.getElem?_replicate]; split <;> rfl
theorem bests_gate (f : Nat) (gs : List G) {k : Nat} (hk : k < gs.length) : (bests f gs).getD (f + k) [] = bestOf (mapTo f (cuts f gs) k).2 ((cuts f gs).getD (f + k) []) := by
  obtain ⟨d, hd⟩ : ∃ d, gs.length = k + 1 + d := ⟨gs.length - (k + 1), by omega⟩
  unfold bests
  rw [hd, (mapTo_pre f (cuts f gs) (k + 1) (v := f + k) (by omega) d).1]
  show ((mapTo f (cuts f gs) k).1 ++ [_]).getD (f + k) [] = _
  rw [getD_snoc_at _ _ _ (mapTo_len f (cuts f gs) k).1.symm]
theorem late_pre (f : Nat) (gs : List G) {k : Nat} (hk : k ≤ gs.length) {x : List Nat} (hx : ∀ l, l ∈ x → l < f + k) : late (mapTo f (cuts f gs) k).2 x = late (times f gs) x := by
  obtain ⟨d, hd⟩ : ∃ d, gs.length = k + d := ⟨gs.length - k, by omega⟩
  refine late_congr (fun l hl => ?_)
  unfold times
  rw [hd, (mapTo_pre f (cuts f gs) k (hx l hl) d).2]
theorem times_gate0 (f : Nat) (gs : List G) {k : Nat} (hk : k < gs.length) : (times f gs).getD (f + k) 0 = 1 + late (mapTo f (cuts f gs) k).2 ((bests f gs).getD (f + k) []) := by
  rw [bests_gate f gs hk]
  obtain ⟨d, hd⟩ : ∃ d, gs.length = k + 1 + d := ⟨gs.length - (k + 1), by omega⟩
  unfold times
  rw [hd, (mapTo_pre f (cuts f gs) (k + 1) (v := f + k) (by omega) d).2]
  show ((mapTo f (cuts f gs) k).2 ++ [_]).getD (f + k) 0 = _
  rw [getD_snoc_at _ _ _ (mapTo_len f (cuts f gs) k).2.symm]
theorem bests_len (f : Nat) (gs : List G) : (bests f gs).length = f + gs.length := (mapTo_len _ _ _).1
theorem memD0 {X : Type} {l : List X} {d : X} {j : Nat} (h : j < l.length) : l.getD j d ∈ l := by
  rw [List.getD_eq_getElem?_getD, List.getElem?_eq_getElem h]
  exact List.getElem_mem h
theorem bests_mem {f : Nat} {gs : List G} (hf : 0 < f) (hg : ordered f gs) {k : Nat} (hk : k < gs.length) : (bests f gs).getD (f + k) [] ∈ unis f gs k := by
  have U := unis_gd hf hg k hk
  have e : (cuts f gs).getD (f + k) [] = unis f gs k ++ [[f + k]] := cuts_gate f gs k hk hg
  have hp : 0 < (unis f gs k).length := List.length_pos_iff.2 U.ne
  rw [bests_gate f gs hk]
  unfold bestOf
  rw [e]
  have hpk := pick_le (mapTo f (cuts f gs) k).2 (unis f gs k ++ [[f + k]]) ((unis f gs k ++ [[f + k]]).length - 2)
  rw [List.length_append, List.length_singleton] at hpk ⊢
  rw [getD_snoc_lt _ _ _ (by omega)]
  exact memD0 (by omega)
theorem best_cases {f : Nat} {gs : List G} (hf : 0 < f) (hg : ordered f gs) (v : Nat) : (bests f gs).getD v [] = [] ∨ ∃ k, k < gs.length ∧ v = f + k ∧ (bests f gs).getD v [] ∈ unis f gs k := by
  by_cases h1 : v < f
  · exact .inl (bests_low f gs h1)
  · by_cases h2 : v < f + gs.length
    · obtain ⟨k, rfl⟩ : ∃ k, v = f + k := ⟨v - f, by omega⟩
      exact .inr ⟨k, by omega, rfl, bests_mem hf hg (by omega)⟩
    · exact .inl (getD_out _ _ (by rw [bests_len]; omega))
theorem best_lt {f : Nat} {gs : List G} (hf : 0 < f) (hg : ordered f gs) (v l : Nat) (hl : l ∈ (bests f gs).getD v []) : l < v := by
  rcases best_cases hf hg v with h | ⟨k, hk, rfl, h⟩
  · rw [h] at hl; cases hl
  · exact (unis_gd hf hg k hk).lt _ h l hl
theorem best_fit {f : Nat} {gs : List G} (hf : 0 < f) (hg : ordered f gs) (v : Nat) : ((bests f gs).getD v []).length ≤ 3 := by
  rcases best_cases hf hg v with h | ⟨k, hk, rfl, h⟩
  · rw [h]; simp
  · exact (unis_gd hf hg k hk).fit _ h
theorem sa_once {l : List Nat} (h : SA l) : Once l := by
  intro j k hj hk e
  rw [List.getD_eq_getElem?_getD, List.getD_eq_getElem?_getD, List.getElem?_eq_getElem hj, List.getElem?_eq_getElem hk] at e
  simp at e
  have hp := List.pairwise_iff_getElem.1 h
  rcases Nat.lt_trichotomy j k with c | c | c
  · have := hp j k hj hk c; omega
  · exact c
  · have := hp k j hk hj c; omega
theorem best_once {f : Nat} {gs : List G} (hf : 0 < f) (hg : ordered f gs) (v : Nat) : Once ((bests f gs).getD v []) := by
  rcases best_cases hf hg v with h | ⟨k, hk, rfl, h⟩
  · rw [h]; intro j k hj; simp at hj
  · exact sa_once ((unis_gd hf hg k hk).sa _ h)
abbrev Lt := Nat × List Nat × Nat
def lutOf (f : Nat) (gs : List G) (bs : Cs) (v : Nat) : Lt := (v, bs.getD v [], tabV f gs (bs.getD v []) v)
/-- The lookup tables of the needed ones of the first k gates. -/
def lutsTo (f : Nat) (gs : List G) (bs : Cs) (m : Nat) : Nat → List Lt
  | 0 => []
  | k + 1 => if m.testBit (f + k) then lutsTo f gs bs m k ++ [lutOf f gs bs (f + k)] else lutsTo f gs bs m k
/-- Those of the last k gates. -/
def lutsFrom (f : Nat) (gs : List G) (bs : Cs) (m : Nat) : Nat → List Lt
  | 0 => []
  | k + 1 => if m.testBit (f + (gs.length - (k + 1))) then lutOf f gs bs (f + (gs.length - (k + 1))) :: lutsFrom f gs bs m k else lutsFrom f gs bs m k
theorem luts_split (f : Nat) (gs : List G) (bs : Cs) (m : Nat) : ∀ k, k ≤ gs.length → lutsTo f gs bs m gs.length = lutsTo f gs bs m (gs.length - k) ++ lutsFrom f gs bs m k
  | 0, _ => by simp [lutsFrom]
  | k + 1, h => by
    rw [luts_split f gs bs m k (by omega)]
    obtain ⟨j, hj⟩ : ∃ j, gs.length - k = j + 1 := ⟨gs.length - k - 1, by omega⟩
    rw [hj, show gs.length - (k + 1) = j by omega]
    show (if m.testBit (f + j) then lutsTo f gs bs m j ++ [lutOf f gs bs (f + j)] else lutsTo f gs bs m j) ++ lutsFrom f gs bs m k = _ ++ (if m.testBit (f + (gs.length - (k + 1))) then lutOf f gs bs (f + (gs.length - (k + 1))) :: lutsFrom f gs bs m k else lutsFrom f gs bs m k)
    rw [show gs.length - (k + 1) = j by omega]
    split <;> simp
theorem luts_whole (f : Nat) (gs : List G) (bs : Cs) (m : Nat) : lutsTo f gs bs m gs.length = lutsFrom f gs bs m gs.length := by
  have := luts_split f gs bs m gs.length (Nat.le_refl _)
  rw [Nat.sub_self] at this
  simpa [lutsTo] using this
theorem lutsTo_len (f : Nat) (gs : List G) (bs : Cs) (m : Nat) : ∀ k, (lutsTo f gs bs m k).length ≤ k
  | 0 => Nat.le_refl _
  | k + 1 => by
    have := lutsTo_len f gs bs m k
    unfold lutsTo
    split
    · rw [List.length_append, List.length_singleton]; omega
    · omega
theorem lutsFrom_len (f : Nat) (gs : List G) (bs : Cs) (m : Nat) : ∀ k, (lutsFrom f gs bs m k).length ≤ k
  | 0 => Nat.le_refl _
  | k + 1 => by
    have := lutsFrom_len f gs bs m k
    unfold lutsFrom
    split
    · rw [List.length_cons]; omega
    · omega
/-- The variables of the roots. -/
def rootN (ns os : List Nat) : Nat := orV (orV 0 ns) os
def needV (f : Nat) (gs : List G) (ns os : List Nat) : Nat := needN (bests f gs) (f + gs.length) (rootN ns os) (f + gs.length)
def lutsV (f : Nat) (gs : List G) (ns os : List Nat) : List Lt := lutsTo f gs (bests f gs) (needV f gs ns os) gs.length
theorem need_gates {f : Nat} {gs : List G} (hf : 0 < f) (ns os : List Nat) : needV f gs ns os = needN (bests f gs) (f + gs.length) (rootN ns os) gs.length := by
  unfold needV
  have h := needN_none (bs := bests f gs) (n := f + gs.length) (m := rootN ns os) hf (fun v hv => bests_low f gs hv) f
  rw [show f + gs.length - f + f = f + gs.length by omega, show f + gs.length - f = gs.length by omega] at h
  exact h
theorem need_bit {f : Nat} {gs : List G} (hf : 0 < f) (hg : ordered f gs) (ns os : List Nat) {k v : Nat} (hk : k ≤ gs.length) (hv : f + gs.length - (k + 1) ≤ v) : (needV f gs ns os).testBit v = (needN (bests f gs) (f + gs.length) (rootN ns os) k).testBit v := by
  rw [need_gates hf]
  have h := needN_keep (bs := bests f gs) (n := f + gs.length) (m := rootN ns os) (best_lt hf hg) k hv (gs.length - k)
  rwa [show k + (gs.length - k) = gs.length by omega] at h
end Cut
/- Plain mathematics of lookup tables: they compute their variables, lie in order, and are all there; no program. -/
namespace Cut
open Opt
/-- Every way from v down meets a leaf or constant false. -/
inductive Cov (f : Nat) (gs : List G) (lv : List Nat) : Nat → Prop
  | leaf (v : Nat) (h : v ∈ lv) : Cov f gs lv v
  | zero : Cov f gs lv 0
  | gate (k : Nat) (h : k < gs.length) (ha : Cov f gs lv ((at_ gs k).1 / 2)) (hb : Cov f gs lv ((at_ gs k).2 / 2)) : Cov f gs lv (f + k)
theorem Cov.wide {f : Nat} {gs : List G} {x L : List Nat} {v : Nat} (h : Cov f gs x v) (hx : ∀ l, l ∈ x → l ∈ L) : Cov f gs L v := by
  induction h with
  | leaf v h => exact .leaf v (hx v h)
  | zero => exact .zero
  | gate k h _ _ ha hb => exact .gate k h ha hb
theorem cov_own (f : Nat) (gs : List G) (v : Nat) : Cov f gs (own v) v := by
  by_cases h : v = 0
  · subst h; exact .zero
  · refine .leaf v ?_
    unfold Cut.own
    rw [if_neg h]
    simp
theorem cutsTo_cov {f : Nat} {gs : List G} (hg : ordered f gs) : ∀ k, k ≤ gs.length → ∀ v, v < f + k → ∀ x, x ∈ (cutsTo f gs k).getD v [] → Cov f gs x v
  | 0, _, v, hv => by
    have e : (cutsTo f gs 0).getD v [] = [own v] := by
      simp [cutsTo, List.getD_eq_getElem?_getD]
      rw [List.getElem?_eq_getElem (by simpa using hv)]
      simp
    rw [e]
    intro x hx
    simp at hx
    subst hx
    exact cov_own f gs v
  | k + 1, hk, v, hv => by
    have ih := cutsTo_cov hg k (by omega)
    obtain ⟨h1, h2⟩ := hg k hk
    by_cases e : v < f + k
    · have := cutsTo_pre f gs k 1 v e
      rw [this]
      exact ih v e
    · obtain rfl : v = f + k := by omega
      have e1 : (cutsTo f gs (k + 1)).getD (f + k) [] = uni ((cutsTo f gs k).getD ((at_ gs k).1 / 2) []) ((cutsTo f gs k).getD ((at_ gs k).2 / 2) []) ++ [[f + k]] := by
        show (cutsTo f gs k ++ [_]).getD (f + k) [] = _
        exact Circ.getD_app_at _ _ _ _ (by rw [cutsTo_len])
      rw [e1]
      intro x hx
      rcases List.mem_append.1 hx with h | h
      · exact uni_all (P := fun x => Cov f gs x (f + k)) (fun a ha b hb _ => .gate k hk ((ih _ h1 a ha).wide (fun l hl => (merge_mem _ _ _).2 (.inl hl))) ((ih _ h2 b hb).wide (fun l hl => (merge_mem _ _ _).2 (.inr hl)))) x h
      · simp at h
        subst h
        exact .leaf _ (by simp)
theorem best_cov {f : Nat} {gs : List G} (hf : 0 < f) (hg : ordered f gs) {k : Nat} (hk : k < gs.length) : Cov f gs ((bests f gs).getD (f + k) []) (f + k) := by
  have h := bests_mem hf hg hk
  have e : (cuts f gs).getD (f + k) [] = unis f gs k ++ [[f + k]] := cuts_gate f gs k hk hg
  exact cutsTo_cov hg gs.length (Nat.le_refl _) (f + k) (by omega) _ (by show _ ∈ (cuts f gs).getD (f + k) []; rw [e]; exact List.mem_append_left _ h)
/-- The cone's value is the variable's. -/
theorem cone_sem {f : Nat} {gs : List G} {val : Nat → Bool} (hf : 0 < f) (hg : ordered f gs) (hs : Sem f gs val) {x : Nat} {lv : List Nat} (hx : ∀ k, k < lv.length → x.testBit k = val (lv.getD k 0)) {v : Nat} (hc : Cov f gs lv v) (hv : v < f + gs.length) : coneV f gs x lv v = val v := by
  have hleaf : ∀ v, v ∈ lv → v < f + gs.length → coneV f gs x lv v = val v := fun v h hv => by
    obtain ⟨h1, h2⟩ := idx_get h
    rw [coneV_leaf f gs x lv (List.contains_iff_mem.2 h) hg hv, hx _ h1, h2]
  induction hc with
  | leaf v h => exact hleaf v h hv
  | zero =>
    by_cases h : 0 ∈ lv
    · exact hleaf 0 h hv
    · rw [coneV_low f gs x lv hf, hs.zero]
      unfold leafB
      have : lv.contains 0 = false := by
        rw [Bool.eq_false_iff]
        exact fun hc => h (List.contains_iff_mem.1 hc)
      rw [this]; rfl
  | gate k h _ _ iha ihb =>
    by_cases h' : (f + k) ∈ lv
    · exact hleaf _ h' hv
    · obtain ⟨o1, o2⟩ := hg k h
      have hc : lv.contains (f + k) = false := by
        rw [Bool.eq_false_iff]
        exact fun hc => h' (List.contains_iff_mem.1 hc)
      rw [coneV_gate f gs x lv o1 o2, hc, if_neg (by simp), iha (by omega), ihb (by omega), hs.gate k h]
      rfl
theorem num_bit : ∀ (bs : List Bool) (k : Nat), (num bs).testBit k = bs.getD k false
  | [], k => by simp [num]
  | b :: bs, 0 => by
    simp only [num, Nat.testBit_zero]
    cases b
    · simp
    · have : (1 + 2 * num bs) % 2 = 1 := by omega
      simp [this]
  | b :: bs, k + 1 => by
    simp only [num, Nat.testBit_succ]
    have e : ((if b = true then 1 else 0) + 2 * num bs) / 2 = num bs := by split <;> omega
    rw [e, num_bit bs k]
    rfl
/-- The entry that the leaves select. -/
theorem tab_sem {f : Nat} {gs : List G} {val : Nat → Bool} (hf : 0 < f) (hg : ordered f gs) (hs : Sem f gs val) {k : Nat} (hk : k < gs.length) : (tabV f gs ((bests f gs).getD (f + k) []) (f + k)).testBit (num (((bests f gs).getD (f + k) []).map val)) = val (f + k) := by
  unfold tabV
  have hl := num_lt (((bests f gs).getD (f + k) []).map val)
  rw [List.length_map] at hl
  rw [tabN_bit _ _ _ _ _ _ hl]
  refine cone_sem hf hg hs (fun j hj => ?_) (best_cov hf hg hk) (by omega)
  generalize (bests f gs).getD (f + k) [] = lv at *
  rw [num_bit, List.getD_eq_getElem?_getD, List.getElem?_map, List.getD_eq_getElem?_getD, List.getElem?_eq_getElem hj]
  rfl
theorem needN_up {bs : Cs} {n m v : Nat} (k : Nat) (h : (needN bs n m k).testBit v = true) : ∀ d, (needN bs n m (k + d)).testBit v = true
  | 0 => h
  | d + 1 => by
    have ih := needN_up k h d
    show (if (needN bs n m (k + d)).testBit (n - (k + d + 1)) then orL (needN bs n m (k + d)) (bs.getD (n - (k + d + 1)) []) else needN bs n m (k + d)).testBit v = true
    split
    · rw [orL_bit, ih]; rfl
    · exact ih
theorem need_root {f : Nat} {gs : List G} {ns os : List Nat} {r : Nat} (h : r ∈ os ++ ns) : (needV f gs ns os).testBit (r / 2) = true := by
  unfold needV
  have h0 : (needN (bests f gs) (f + gs.length) (rootN ns os) 0).testBit (r / 2) = true := by
    show (rootN ns os).testBit (r / 2) = true
    unfold rootN
    rw [orV_bit, orV_bit, Nat.zero_testBit, Bool.false_or]
    rcases List.mem_append.1 h with h | h
    · have : (os.any fun x => x / 2 == r / 2) = true := List.any_eq_true.2 ⟨r, h, by simp⟩
      rw [this, Bool.or_true]
    · have : (ns.any fun x => x / 2 == r / 2) = true := List.any_eq_true.2 ⟨r, h, by simp⟩
      rw [this]; rfl
  have := needN_up 0 h0 (f + gs.length)
  rwa [Nat.zero_add] at this
theorem need_leaf {f : Nat} {gs : List G} (hf : 0 < f) (hg : ordered f gs) {ns os : List Nat} {v l : Nat} (hv : v < f + gs.length) (h : (needV f gs ns os).testBit v = true) (hl : l ∈ (bests f gs).getD v []) : (needV f gs ns os).testBit l = true := by
  obtain ⟨k, hk⟩ : ∃ k, k = f + gs.length - 1 - v := ⟨_, rfl⟩
  have e1 : f + gs.length - (k + 1) = v := by omega
  have hb : (needN (bests f gs) (f + gs.length) (rootN ns os) k).testBit v = true := by
    have h1 := needN_keep (bs := bests f gs) (n := f + gs.length) (m := rootN ns os) (best_lt hf hg) k (v := v) (by omega) (f + gs.length - k)
    rw [show k + (f + gs.length - k) = f + gs.length by omega] at h1
    rw [← h1]; exact h
  have h2 : (needN (bests f gs) (f + gs.length) (rootN ns os) (k + 1)).testBit l = true := by
    show (if (needN (bests f gs) (f + gs.length) (rootN ns os) k).testBit (f + gs.length - (k + 1)) then orL (needN (bests f gs) (f + gs.length) (rootN ns os) k) ((bests f gs).getD (f + gs.length - (k + 1)) []) else needN (bests f gs) (f + gs.length) (rootN ns os) k).testBit l = true
    rw [e1, hb, if_pos rfl, orL_bit, List.contains_iff_mem.2 hl, Bool.or_true]
  have h3 := needN_up (k + 1) h2 (f + gs.length - (k + 1))
  rw [show k + 1 + (f + gs.length - (k + 1)) = f + gs.length by omega] at h3
  exact h3
/-- A needed gate has its table. -/
theorem luts_has {f : Nat} {gs : List G} {bs : Cs} {m : Nat} : ∀ (k j : Nat), j < k → m.testBit (f + j) = true → (f + j) ∈ (lutsTo f gs bs m k).map (·.1)
  | 0, j, h, _ => by omega
  | k + 1, j, h, hb => by
    unfold lutsTo
    by_cases e : j = k
    · subst e
      rw [if_pos hb, List.map_append]
      exact List.mem_append_right _ (by simp [lutOf])
    · have ih := luts_has (gs := gs) (bs := bs) k j (by omega) hb
      split
      · rw [List.map_append]; exact List.mem_append_left _ ih
      · exact ih
/-- Leaves that are gates have tables ahead. -/
theorem luts_ahead {f : Nat} {gs : List G} {bs : Cs} {m : Nat} (hl : ∀ v l, l ∈ bs.getD v [] → l < v) (hc : ∀ k, k < gs.length → m.testBit (f + k) = true → ∀ l, l ∈ bs.getD (f + k) [] → m.testBit l = true) : ∀ k, k ≤ gs.length → ∀ i, i < (lutsTo f gs bs m k).length → ∀ l, l ∈ ((lutsTo f gs bs m k).getD i (0, [], 0)).2.1 → f ≤ l → l ∈ ((lutsTo f gs bs m k).take i).map (·.1)
  | 0, _, i, hi => by simp [lutsTo] at hi
  | k + 1, hk, i, hi => by
    have ih := luts_ahead hl hc k (by omega)
    unfold lutsTo at hi ⊢
    split
    · next hb =>
      rw [if_pos hb, List.length_append, List.length_singleton] at hi
      intro l hm hf
      by_cases e : i < (lutsTo f gs bs m k).length
      · rw [getD_snoc_lt _ _ _ e] at hm
        rw [List.take_append_of_le_length (by omega)]
        exact ih i e l hm hf
      · have e2 : i = (lutsTo f gs bs m k).length := by omega
        rw [getD_snoc_at _ _ _ e2] at hm
        rw [List.take_append_of_le_length (by omega), List.take_of_length_le (by omega)]
        have hlt := hl _ _ hm
        obtain ⟨j, rfl⟩ : ∃ j, l = f + j := ⟨l - f, by omega⟩
        exact luts_has k j (by omega) (hc k (by omega) hb _ hm)
    · next hb =>
      rw [if_neg hb] at hi
      exact ih i hi
theorem luts_form {f : Nat} {gs : List G} {bs : Cs} {m : Nat} : ∀ k, ∀ e, e ∈ lutsTo f gs bs m k → ∃ j, j < k ∧ m.testBit (f + j) = true ∧ e = lutOf f gs bs (f + j)
  | 0, e, h => by cases h
  | k + 1, e, h => by
    unfold lutsTo at h
    split at h
    · next hb =>
      rcases List.mem_append.1 h with h | h
      · obtain ⟨j, h1, h2⟩ := luts_form k e h
        exact ⟨j, by omega, h2⟩
      · simp at h
        exact ⟨k, by omega, hb, h⟩
    · obtain ⟨j, h1, h2⟩ := luts_form k e h
      exact ⟨j, by omega, h2⟩
/-- All that the law asks of the tables. -/
structure LutK (f : Nat) (gs : List G) (ns os : List Nat) (es : List Lt) : Prop where
  len : es.length ≤ gs.length
  bd : ∀ k, k < es.length → (es.getD k (0, [], 0)).1 < f + gs.length ∧ (es.getD k (0, [], 0)).2.1.length ≤ 3 ∧ (es.getD k (0, [], 0)).2.2 < 256
  lt : ∀ k, k < es.length → ∀ l, l ∈ (es.getD k (0, [], 0)).2.1 → l < f + gs.length
  ahead : ∀ i, i < es.length → ∀ l, l ∈ (es.getD i (0, [], 0)).2.1 → f ≤ l → l ∈ (es.take i).map (·.1)
  root : ∀ r, r ∈ os ++ ns → f ≤ r / 2 → r / 2 ∈ es.map (·.1)
  sem : ∀ val, Sem f gs val → ∀ k, k < es.length → (es.getD k (0, [], 0)).2.2.testBit (num ((es.getD k (0, [], 0)).2.1.map val)) = val (es.getD k (0, [], 0)).1
theorem lutsV_k {f : Nat} {gs : List G} (hf : 0 < f) (hg : ordered f gs) {ns os : List Nat} (hr : ∀ r, r ∈ os ++ ns → r / 2 < f + gs.length) : LutK f gs ns os (lutsV f gs ns os) := by
  have form : ∀ k, k < (lutsV f gs ns os).length → ∃ j, j < gs.length ∧ (lutsV f gs ns os).getD k (0, [], 0) = lutOf f gs (bests f gs) (f + j) := fun k hk => by
    obtain ⟨j, h1, _, h3⟩ := luts_form gs.length _ (memD0 (d := (0, [], 0)) hk)
    exact ⟨j, h1, h3⟩
  refine ⟨lutsTo_len _ _ _ _ _, fun k hk => ?_, fun k hk l hl => ?_, fun i hi l hl hfl => ?_, fun r h hfr => ?_, fun val hs k hk => ?_⟩
  · obtain ⟨j, h1, h2⟩ := form k hk
    have hb := best_fit hf hg (f + j)
    rw [h2]
    refine ⟨by show f + j < _; omega, hb, ?_⟩
    have t1 := tabN_lt f gs ((bests f gs).getD (f + j) []) (f + j) (2 ^ ((bests f gs).getD (f + j) []).length)
    have t2 : 2 ^ ((bests f gs).getD (f + j) []).length ≤ 2 ^ 3 := Nat.pow_le_pow_right (by omega) hb
    have t3 : 2 ^ (2 ^ ((bests f gs).getD (f + j) []).length) ≤ 2 ^ (2 ^ 3) := Nat.pow_le_pow_right (by omega) t2
    show tabN f gs _ (f + j) _ < 256
    omega
  · obtain ⟨j, h1, h2⟩ := form k hk
    rw [h2] at hl
    have := best_lt hf hg (f + j) l hl
    omega
  · exact luts_ahead (best_lt hf hg) (fun k hk hb l hl => need_leaf hf hg (by omega) hb hl) gs.length (Nat.le_refl _) i hi l hl hfl
  · have hb := need_root (f := f) (gs := gs) h
    have := hr r h
    obtain ⟨j, hj⟩ : ∃ j, r / 2 = f + j := ⟨r / 2 - f, by omega⟩
    rw [hj] at hb ⊢
    exact luts_has gs.length j (by omega) hb
  · obtain ⟨j, h1, h2⟩ := form k hk
    rw [h2]
    exact tab_sem hf hg hs h1
end Cut
