/- Plain mathematics of placements; no program. -/
import Derived.Test.YtkkkkalgfmddbaaQD
namespace Plc
/-- A placement of n cells on 25 tiles. -/
def okP (n : Nat) (p : List Int) : Bool := decide (p.length = n) && (p.all fun x => decide (0 ≤ x ∧ x ≤ 24)) && decide p.Nodup
theorem okP_iff {n : Nat} {p : List Int} : okP n p = true ↔ p.length = n ∧ (∀ x, x ∈ p → 0 ≤ x ∧ x ≤ 24) ∧ p.Nodup := by
  unfold okP
  simp only [Bool.and_eq_true, decide_eq_true_eq, List.all_eq_true]
  exact ⟨fun ⟨⟨a, b⟩, c⟩ => ⟨a, b, c⟩, fun ⟨a, b, c⟩ => ⟨⟨a, b⟩, c⟩⟩
/-- The first k tiles are fit. -/
def preP (p : List Int) (k : Nat) : Prop := (∀ j, j < k → 0 ≤ p.getD j 0 ∧ p.getD j 0 ≤ 24) ∧ ∀ i j, i < j → j < k → p.getD i 0 ≠ p.getD j 0
theorem preP_zero (p : List Int) : preP p 0 := ⟨fun j h => by omega, fun i j _ h => by omega⟩
theorem preP_step {p : List Int} {k : Nat} (h : preP p k) (h1 : 0 ≤ p.getD k 0 ∧ p.getD k 0 ≤ 24) (h2 : ∀ i, i < k → p.getD i 0 ≠ p.getD k 0) : preP p (k + 1) :=
  ⟨fun j hj => by by_cases e : j = k
                  · subst e; exact h1
                  · exact h.1 j (by omega),
   fun i j hij hj => by by_cases e : j = k
                        · subst e; exact h2 i hij
                        · exact h.2 i j hij (by omega)⟩
theorem getD_eq {p : List Int} {k : Nat} (h : k < p.length) : p.getD k 0 = p[k] := by simp [List.getD_eq_getElem?_getD, h]
theorem preP_all {p : List Int} (h : preP p p.length) : okP p.length p = true := by
  rw [okP_iff]
  refine ⟨rfl, fun x hx => ?_, ?_⟩
  · obtain ⟨j, hj, e⟩ := List.mem_iff_getElem.1 hx
    have := h.1 j hj
    rw [getD_eq hj, e] at this
    exact this
  · rw [List.nodup_iff_pairwise_ne, List.pairwise_iff_getElem]
    intro i j hi hj hij
    have := h.2 i j hij hj
    rwa [getD_eq hi, getD_eq hj] at this
theorem preP_of {n : Nat} {p : List Int} (h : okP n p = true) : preP p p.length := by
  obtain ⟨_, h2, h3⟩ := okP_iff.1 h
  rw [List.nodup_iff_pairwise_ne, List.pairwise_iff_getElem] at h3
  refine ⟨fun j hj => ?_, fun i j hij hj => ?_⟩
  · rw [getD_eq hj]; exact h2 _ (List.getElem_mem hj)
  · rw [getD_eq hj, getD_eq (by omega)]; exact h3 i j (by omega) hj hij
/-- A tile that is not fit, or stands twice. -/
theorem okP_bad {n : Nat} {p : List Int} {k : Nat} (hk : k < p.length) (h : ¬ (0 ≤ p.getD k 0 ∧ p.getD k 0 ≤ 24) ∨ ∃ i, i < k ∧ p.getD i 0 = p.getD k 0) : okP n p = false := by
  rw [Bool.eq_false_iff]
  intro h2
  have h3 := preP_of h2
  rcases h with h | ⟨i, hi, e⟩
  · exact h (h3.1 k hk)
  · exact h3.2 i k hi hk e
theorem okP_len {n : Nat} {p : List Int} (h : p.length ≠ n) : okP n p = false := by
  rw [Bool.eq_false_iff]
  intro h2
  exact h (okP_iff.1 h2).1
theorem okP_rev {n : Nat} {p : List Int} (h : okP n p = true) : okP n p.reverse = true := by
  obtain ⟨h1, h2, h3⟩ := okP_iff.1 h
  exact okP_iff.2 ⟨by rw [List.length_reverse]; exact h1, fun x hx => h2 x (List.mem_reverse.1 hx), by
    rw [List.nodup_iff_pairwise_ne] at h3 ⊢
    exact List.pairwise_reverse.2 (h3.imp (fun h e => h e.symm))⟩
theorem okP_out {n : Nat} {p : List Int} (hp : p ≠ []) : okP n (p.set 0 25) = false := by
  have hl : 0 < p.length := List.length_pos_iff.2 hp
  refine okP_bad (k := 0) (by simpa using hl) (.inl ?_)
  have e : (p.set 0 25).getD 0 0 = 25 := by simp [List.getD_eq_getElem?_getD, hl]
  rw [e]
  omega
theorem okP_twice {n : Nat} {p : List Int} (h : okP n p = true) (hp : p ≠ []) : okP n (p.set (p.length - 1) (p.getD 0 0)) = decide (p.length = 1) := by
  have hl : 0 < p.length := List.length_pos_iff.2 hp
  by_cases e : p.length = 1
  · have e1 : p.set (p.length - 1) (p.getD 0 0) = p := by
      refine List.ext_getElem (by simp) (fun j h1 h2 => ?_)
      have hj : j = 0 := by omega
      subst hj
      simp [e, List.getD_eq_getElem?_getD]
    rw [e1, h]
    simp [e]
  · have : okP n (p.set (p.length - 1) (p.getD 0 0)) = false := by
      refine okP_bad (k := p.length - 1) (by simp; omega) (.inr ⟨0, by omega, ?_⟩)
      have a : (p.set (p.length - 1) (p.getD 0 0)).getD (p.length - 1) 0 = p.getD 0 0 := by
        simp only [List.getD_eq_getElem?_getD]
        rw [List.getElem?_set_self (by omega)]
        rfl
      have b : (p.set (p.length - 1) (p.getD 0 0)).getD 0 0 = p.getD 0 0 := by
        simp only [List.getD_eq_getElem?_getD]
        rw [List.getElem?_set_ne (by omega)]
      rw [a, b]
    rw [this]
    simp [e]
/-- Smallest and largest of a list, from a start. -/
def lo (f : Nat → Nat) (s : Nat) (ts : List Nat) : Nat := ts.foldl (fun m t => min m (f t)) s
def hi (f : Nat → Nat) (s : Nat) (ts : List Nat) : Nat := ts.foldl (fun m t => max m (f t)) s
theorem lo_snoc (f : Nat → Nat) (s : Nat) (ts : List Nat) (t : Nat) : lo f s (ts ++ [t]) = min (lo f s ts) (f t) := by simp [lo]
theorem hi_snoc (f : Nat → Nat) (s : Nat) (ts : List Nat) (t : Nat) : hi f s (ts ++ [t]) = max (hi f s ts) (f t) := by simp [hi]
theorem lo_le (f : Nat → Nat) : ∀ (ts : List Nat) (s : Nat), lo f s ts ≤ s ∧ ∀ t, t ∈ ts → lo f s ts ≤ f t
  | [], s => ⟨Nat.le_refl _, fun t h => by cases h⟩
  | a :: r, s => by
    obtain ⟨h1, h2⟩ := lo_le f r (min s (f a))
    show lo f (min s (f a)) r ≤ s ∧ ∀ t, t ∈ a :: r → lo f (min s (f a)) r ≤ f t
    refine ⟨by omega, fun t h => ?_⟩
    rcases List.mem_cons.1 h with h | h
    · subst h; omega
    · exact h2 t h
theorem lo_get (f : Nat → Nat) : ∀ (ts : List Nat) (s : Nat), lo f s ts = s ∨ ∃ t, t ∈ ts ∧ lo f s ts = f t
  | [], s => .inl rfl
  | a :: r, s => by
    show lo f (min s (f a)) r = s ∨ ∃ t, t ∈ a :: r ∧ lo f (min s (f a)) r = f t
    rcases lo_get f r (min s (f a)) with h | ⟨t, h1, h2⟩
    · by_cases e : s ≤ f a
      · left; omega
      · right; exact ⟨a, by simp, by omega⟩
    · right; exact ⟨t, by simp [h1], h2⟩
theorem hi_ge (f : Nat → Nat) : ∀ (ts : List Nat) (s : Nat), s ≤ hi f s ts ∧ ∀ t, t ∈ ts → f t ≤ hi f s ts
  | [], s => ⟨Nat.le_refl _, fun t h => by cases h⟩
  | a :: r, s => by
    obtain ⟨h1, h2⟩ := hi_ge f r (max s (f a))
    show s ≤ hi f (max s (f a)) r ∧ ∀ t, t ∈ a :: r → f t ≤ hi f (max s (f a)) r
    refine ⟨by omega, fun t h => ?_⟩
    rcases List.mem_cons.1 h with h | h
    · subst h; omega
    · exact h2 t h
theorem hi_get (f : Nat → Nat) : ∀ (ts : List Nat) (s : Nat), hi f s ts = s ∨ ∃ t, t ∈ ts ∧ hi f s ts = f t
  | [], s => .inl rfl
  | a :: r, s => by
    show hi f (max s (f a)) r = s ∨ ∃ t, t ∈ a :: r ∧ hi f (max s (f a)) r = f t
    rcases hi_get f r (max s (f a)) with h | ⟨t, h1, h2⟩
    · by_cases e : f a ≤ s
      · left; omega
      · right; exact ⟨a, by simp, by omega⟩
    · right; exact ⟨t, by simp [h1], h2⟩
/-- Half the perimeter of the box of tiles; 0 of none. -/
def dist (ts : List Nat) : Nat := if ts = [] then 0 else hi (· / 5) 0 ts - lo (· / 5) 5 ts + (hi (· % 5) 0 ts - lo (· % 5) 5 ts)
theorem ext_lo {f : Nat → Nat} {a b : List Nat} {s : Nat} (h : ∀ t, t ∈ a ↔ t ∈ b) : lo f s a = lo f s b := by
  obtain ⟨a1, a2⟩ := lo_le f a s
  obtain ⟨b1, b2⟩ := lo_le f b s
  apply Nat.le_antisymm
  · rcases lo_get f b s with e | ⟨t, ht, e⟩
    · omega
    · have := a2 t ((h t).2 ht); omega
  · rcases lo_get f a s with e | ⟨t, ht, e⟩
    · omega
    · have := b2 t ((h t).1 ht); omega
theorem ext_hi {f : Nat → Nat} {a b : List Nat} {s : Nat} (h : ∀ t, t ∈ a ↔ t ∈ b) : hi f s a = hi f s b := by
  obtain ⟨a1, a2⟩ := hi_ge f a s
  obtain ⟨b1, b2⟩ := hi_ge f b s
  apply Nat.le_antisymm
  · rcases hi_get f a s with e | ⟨t, ht, e⟩
    · omega
    · have := b2 t ((h t).1 ht); omega
  · rcases hi_get f b s with e | ⟨t, ht, e⟩
    · omega
    · have := a2 t ((h t).2 ht); omega
/-- The box knows neither order nor repetitions. -/
theorem dist_ext {a b : List Nat} (h : ∀ t, t ∈ a ↔ t ∈ b) : dist a = dist b := by
  unfold dist
  have e : a = [] ↔ b = [] := by
    constructor
    · intro e; subst e
      cases b with
      | nil => rfl
      | cons x r => exact absurd ((h x).2 (by simp)) (by simp)
    · intro e; subst e
      cases a with
      | nil => rfl
      | cons x r => exact absurd ((h x).1 (by simp)) (by simp)
  rw [ext_lo h, ext_hi h, ext_lo (f := (· % 5)) h, ext_hi (f := (· % 5)) h]
  by_cases e1 : a = []
  · rw [if_pos e1, if_pos (e.1 e1)]
  · rw [if_neg e1, if_neg (fun x => e1 (e.2 x))]
theorem dist_le {ts : List Nat} (h : ∀ t, t ∈ ts → t ≤ 24) : dist ts ≤ 8 := by
  unfold dist
  split
  · omega
  · have h1 : hi (· / 5) 0 ts ≤ 4 := by
      rcases hi_get (· / 5) ts 0 with e | ⟨t, ht, e⟩
      · omega
      · have := h t ht; show hi (· / 5) 0 ts ≤ 4; rw [e]; show t / 5 ≤ 4; omega
    have h2 : hi (· % 5) 0 ts ≤ 4 := by
      rcases hi_get (· % 5) ts 0 with e | ⟨t, ht, e⟩
      · omega
      · rw [e]; show t % 5 ≤ 4; omega
    omega
/-- The sum over nets 1 to n. -/
def sumTo (d : Nat → Nat) : Nat → Nat
  | 0 => 0
  | n + 1 => sumTo d n + d (n + 1)
theorem sumTo_le {d : Nat → Nat} {b : Nat} (h : ∀ n, d n ≤ b) : ∀ n, sumTo d n ≤ b * n
  | 0 => by simp [sumTo]
  | n + 1 => by
    have := sumTo_le h n
    have := h (n + 1)
    simp only [sumTo, Nat.mul_succ]
    omega
theorem sumTo_congr {d e : Nat → Nat} : ∀ n, (∀ k, k ≤ n → d k = e k) → sumTo d n = sumTo e n
  | 0, _ => rfl
  | n + 1, h => by
    simp only [sumTo]
    rw [sumTo_congr n (fun k hk => h k (by omega)), h (n + 1) (Nat.le_refl _)]
/-- Cell i to tile t, in exchange with the cell that is there. -/
def tryP (p : List Nat) (i t : Nat) : List Nat := (p.map fun x => if x = t then p.getD i 0 else x).set i t
theorem tryP_len (p : List Nat) (i t : Nat) : (tryP p i t).length = p.length := by simp [tryP]
theorem tryP_at {p : List Nat} {i t j : Nat} (hj : j < p.length) : (tryP p i t).getD j 0 = if j = i then t else if p.getD j 0 = t then p.getD i 0 else p.getD j 0 := by
  unfold tryP
  simp only [List.getD_eq_getElem?_getD]
  by_cases e : j = i
  · subst e
    rw [List.getElem?_set_self (by simpa using hj), if_pos rfl]
    rfl
  · rw [List.getElem?_set_ne (fun h => e h.symm), if_neg e, List.getElem?_map, List.getElem?_eq_getElem hj]
    rfl
/-- What a placement of cells 0 to n - 1 is, as naturals. -/
structure Pl (n : Nat) (p : List Nat) : Prop where
  len : p.length = n
  le : ∀ j, j < n → p.getD j 0 ≤ 24
  ne : ∀ i j, i < j → j < n → p.getD i 0 ≠ p.getD j 0
theorem Pl.try {n i t : Nat} {p : List Nat} (h : Pl n p) (hi : i < n) (ht : t ≤ 24) : Pl n (tryP p i t) := by
  have inj : ∀ a b, a < n → b < n → a ≠ b → p.getD a 0 ≠ p.getD b 0 := fun a b ha hb hab => by
    rcases Nat.lt_or_gt_of_ne hab with h1 | h1
    · exact h.ne a b h1 hb
    · exact fun e => h.ne b a h1 ha e.symm
  refine ⟨by rw [tryP_len, h.len], fun j hj => ?_, fun a b hab hb => ?_⟩
  · rw [tryP_at (by rw [h.len]; exact hj)]
    have h1 := h.le j hj
    have h2 := h.le i hi
    split
    · exact ht
    · split <;> omega
  · rw [tryP_at (by rw [h.len]; omega), tryP_at (by rw [h.len]; exact hb)]
    by_cases e1 : a = i
    · rw [if_pos e1, if_neg (by omega)]
      by_cases e2 : p.getD b 0 = t
      · rw [if_pos e2, ← e2]
        exact fun e => inj b i hb hi (by omega) e
      · rw [if_neg e2]
        exact fun e => e2 e.symm
    · rw [if_neg e1]
      by_cases e3 : b = i
      · rw [if_pos e3]
        by_cases e2 : p.getD a 0 = t
        · rw [if_pos e2, ← e2]
          exact fun e => inj i a hi (by omega) (by omega) e
        · rw [if_neg e2]
          exact e2
      · rw [if_neg e3]
        have hab2 := inj a b (by omega) hb (by omega)
        by_cases e2 : p.getD a 0 = t
        · rw [if_pos e2, if_neg (fun e => hab2 (e2.trans e.symm))]
          exact fun e => inj i b hi hb (by omega) e
        · rw [if_neg e2]
          by_cases e4 : p.getD b 0 = t
          · rw [if_pos e4]
            exact fun e => inj a i (by omega) hi (by omega) e
          · rw [if_neg e4]
            exact hab2
/-- One trial: the better one stays. -/
def stepP (C : List Nat → Nat) (p : List Nat) (i t : Nat) : List Nat := if C (tryP p i t) < C p then tryP p i t else p
/-- Trials of cell i at the first t tiles; of the first i cells at all tiles; the first s sweeps. -/
def tilesP (C : List Nat → Nat) (p : List Nat) (i : Nat) : Nat → List Nat
  | 0 => p
  | t + 1 => stepP C (tilesP C p i t) i t
def rowsP (C : List Nat → Nat) (p : List Nat) : Nat → List Nat
  | 0 => p
  | i + 1 => tilesP C (rowsP C p i) i 25
def sweepsP (C : List Nat → Nat) (n : Nat) (p : List Nat) : Nat → List Nat
  | 0 => p
  | s + 1 => rowsP C (sweepsP C n p s) n
theorem stepP_ok {C : List Nat → Nat} {n i t : Nat} {p : List Nat} (h : Pl n p) (hi : i < n) (ht : t ≤ 24) : Pl n (stepP C p i t) ∧ C (stepP C p i t) ≤ C p := by
  unfold stepP
  split
  · exact ⟨h.try hi ht, by omega⟩
  · exact ⟨h, Nat.le_refl _⟩
theorem tilesP_ok {C : List Nat → Nat} {n i : Nat} {p : List Nat} (h : Pl n p) (hi : i < n) : ∀ t, t ≤ 25 → Pl n (tilesP C p i t) ∧ C (tilesP C p i t) ≤ C p
  | 0, _ => ⟨h, Nat.le_refl _⟩
  | t + 1, ht => by
    obtain ⟨h1, h2⟩ := tilesP_ok (C := C) h hi t (by omega)
    obtain ⟨h3, h4⟩ := stepP_ok (C := C) h1 hi (t := t) (by omega)
    exact ⟨h3, by show C (stepP C (tilesP C p i t) i t) ≤ C p; omega⟩
theorem rowsP_ok {C : List Nat → Nat} {n : Nat} {p : List Nat} (h : Pl n p) : ∀ i, i ≤ n → Pl n (rowsP C p i) ∧ C (rowsP C p i) ≤ C p
  | 0, _ => ⟨h, Nat.le_refl _⟩
  | i + 1, hi => by
    obtain ⟨h1, h2⟩ := rowsP_ok (C := C) h i (by omega)
    obtain ⟨h3, h4⟩ := tilesP_ok (C := C) h1 (i := i) (by omega) 25 (Nat.le_refl _)
    exact ⟨h3, by show C (tilesP C (rowsP C p i) i 25) ≤ C p; omega⟩
theorem sweepsP_ok {C : List Nat → Nat} {n : Nat} {p : List Nat} (h : Pl n p) : ∀ s, Pl n (sweepsP C n p s) ∧ C (sweepsP C n p s) ≤ C p
  | 0 => ⟨h, Nat.le_refl _⟩
  | s + 1 => by
    obtain ⟨h1, h2⟩ := sweepsP_ok (C := C) h s
    obtain ⟨h3, h4⟩ := rowsP_ok (C := C) h1 n (Nat.le_refl _)
    exact ⟨h3, by show C (rowsP C (sweepsP C n p s) n) ≤ C p; omega⟩
/-- The placement that it starts from. -/
theorem start_ok {n : Nat} (h : n ≤ 25) : Pl n (List.range n) := by
  have e : ∀ j, j < n → (List.range n).getD j 0 = j := fun j hj => by simp [List.getD_eq_getElem?_getD, hj]
  exact ⟨List.length_range, fun j hj => by rw [e j hj]; omega, fun i j hij hj => by rw [e j hj, e i (by omega)]; omega⟩
/-- The indices below k that P picks. -/
def pickTo (P : Nat → Bool) : Nat → List Nat
  | 0 => []
  | k + 1 => if P k = true then pickTo P k ++ [k] else pickTo P k
theorem pickTo_mem (P : Nat → Bool) : ∀ k j, j ∈ pickTo P k ↔ j < k ∧ P j = true
  | 0, j => by simp [pickTo]
  | k + 1, j => by
    have ih := pickTo_mem P k j
    unfold pickTo
    split
    · next h =>
      rw [List.mem_append, ih, List.mem_singleton]
      constructor
      · rintro (⟨a, b⟩ | rfl)
        · exact ⟨by omega, b⟩
        · exact ⟨by omega, h⟩
      · rintro ⟨a, b⟩
        by_cases e : j = k
        · exact .inr e
        · exact .inl ⟨by omega, b⟩
    · next h =>
      rw [ih]
      constructor
      · rintro ⟨a, b⟩; exact ⟨by omega, b⟩
      · rintro ⟨a, b⟩
        by_cases e : j = k
        · subst e; exact absurd b h
        · exact ⟨by omega, b⟩
theorem pickTo_len (P : Nat → Bool) : ∀ k, (pickTo P k).length ≤ k
  | 0 => Nat.le_refl _
  | k + 1 => by
    have := pickTo_len P k
    unfold pickTo
    split
    · simp; omega
    · omega
/-- A list with further members, each once. -/
def addTo (out : List Nat) : List Nat → List Nat
  | [] => out
  | t :: r => addTo (if out.contains t = true then out else out ++ [t]) r
theorem addTo_mem : ∀ (ts out : List Nat) (x : Nat), x ∈ addTo out ts ↔ x ∈ out ∨ x ∈ ts
  | [], out, x => by simp [addTo]
  | t :: r, out, x => by
    show x ∈ addTo (if out.contains t = true then out else out ++ [t]) r ↔ _
    rw [addTo_mem r]
    split
    · next h =>
      have ht := List.contains_iff_mem.1 h
      constructor
      · rintro (a | a)
        · exact .inl a
        · exact .inr (by simp [a])
      · rintro (a | a)
        · exact .inl a
        · rcases List.mem_cons.1 a with a | a
          · subst a; exact .inl ht
          · exact .inr a
    · constructor
      · rintro (a | a)
        · rcases List.mem_append.1 a with a | a
          · exact .inl a
          · simp at a; subst a; exact .inr (by simp)
        · exact .inr (by simp [a])
      · rintro (a | a)
        · exact .inl (by simp [a])
        · rcases List.mem_cons.1 a with a | a
          · subst a; exact .inl (by simp)
          · exact .inr a
theorem addTo_snoc (ts out : List Nat) (t : Nat) : addTo out (ts ++ [t]) = if (addTo out ts).contains t = true then addTo out ts else addTo out ts ++ [t] := by
  induction ts generalizing out with
  | nil => rfl
  | cons a r ih => exact ih _
abbrev Ce := Nat × List Nat × Nat × Bool
/-- The tiles of the cells and pads that use a net; its source; what it connects. -/
def snkP (os : List Nat) (ce : List Ce) (p : List Nat) (net : Nat) : List Nat :=
  ((pickTo (fun j => (ce.getD j (0, [], 0, false)).2.1.contains net) ce.length).map fun j => p.getD j 0) ++ ((pickTo (fun o => os.getD o 0 / 2 == net) os.length).map fun o => o * 5 + 4)
def srcP (m : Nat) (ce : List Ce) (p : List Nat) (net : Nat) : List Nat :=
  (if 1 ≤ net ∧ net ≤ m then [(net - 1) * 5] else []) ++ ((pickTo (fun j => (ce.getD j (0, [], 0, false)).1 == net) ce.length).map fun j => p.getD j 0)
def pinsP (m : Nat) (os : List Nat) (ce : List Ce) (p : List Nat) (net : Nat) : List Nat := if snkP os ce p net = [] then [] else addTo (srcP m ce p net) (snkP os ce p net)
theorem pinsP_mem (m : Nat) (os : List Nat) (ce : List Ce) (p : List Nat) (net x : Nat) : x ∈ pinsP m os ce p net ↔ snkP os ce p net ≠ [] ∧ (x ∈ srcP m ce p net ∨ x ∈ snkP os ce p net) := by
  unfold pinsP
  split
  · next h => rw [h]; simp
  · next h => rw [addTo_mem]; exact ⟨fun a => ⟨h, a⟩, fun a => a.2⟩
theorem pinsP_le {m : Nat} {os : List Nat} {ce : List Ce} {p : List Nat} (hp : Pl ce.length p) (hm : m ≤ 4) (ho : os.length ≤ 3) (net : Nat) : ∀ x, x ∈ pinsP m os ce p net → x ≤ 24 := fun x hx => by
  obtain ⟨_, h⟩ := (pinsP_mem m os ce p net x).1 hx
  have cell : ∀ P, x ∈ (pickTo P ce.length).map (fun j => p.getD j 0) → x ≤ 24 := fun P h => by
    obtain ⟨j, hj, rfl⟩ := List.mem_map.1 h
    exact hp.le j ((pickTo_mem P _ j).1 hj).1
  rcases h with h | h
  · unfold srcP at h
    rcases List.mem_append.1 h with h | h
    · split at h
      · simp at h; omega
      · cases h
    · exact cell _ h
  · unfold snkP at h
    rcases List.mem_append.1 h with h | h
    · exact cell _ h
    · obtain ⟨o, ho', rfl⟩ := List.mem_map.1 h
      have := ((pickTo_mem _ _ o).1 ho').1
      omega
/-- The total wire length, over nets 1 to z. -/
def costP (m z : Nat) (os : List Nat) (ce : List Ce) (p : List Nat) : Nat := sumTo (fun net => dist (pinsP m os ce p net)) z
theorem costP_le {m z : Nat} {os : List Nat} {ce : List Ce} {p : List Nat} (hp : Pl ce.length p) (hm : m ≤ 4) (ho : os.length ≤ 3) : costP m z os ce p ≤ 8 * z := sumTo_le (fun net => dist_le (pinsP_le hp hm ho net)) z
/-- A placement as naturals, and back. -/
theorem okP_nat {n : Nat} {p : List Int} (h : okP n p = true) : ∃ q, Pl n q ∧ p = Opt.intL q := by
  obtain ⟨h1, h2, _⟩ := okP_iff.1 h
  have h3 := preP_of h
  have e : ∀ j, j < n → (p.map Int.toNat).getD j 0 = (p.getD j 0).toNat := fun j hj => by simp [List.getD_eq_getElem?_getD, h1, hj]
  refine ⟨p.map Int.toNat, ⟨by simp [h1], fun j hj => ?_, fun i j hij hj => ?_⟩, ?_⟩
  · rw [e j hj]
    have := h3.1 j (by omega)
    omega
  · rw [e j hj, e i (by omega)]
    have a := h3.1 j (by omega)
    have b := h3.1 i (by omega)
    have := h3.2 i j hij (by omega)
    omega
  · refine List.ext_getElem (by simp [Opt.intL]) (fun j a b => ?_)
    have := h2 _ (List.getElem_mem a)
    simp [Opt.intL]
    omega
theorem Pl.ok {n : Nat} {q : List Nat} (h : Pl n q) : okP n (Opt.intL q) = true := by
  have hl : (Opt.intL q).length = n := by rw [Opt.intL_len]; exact h.len
  have hp : preP (Opt.intL q) (Opt.intL q).length := by
    rw [hl]
    refine ⟨fun j hj => ?_, fun i j hij hj => ?_⟩
    · rw [Opt.intL_at]; have := h.le j hj; omega
    · rw [Opt.intL_at, Opt.intL_at]; have := h.ne i j hij hj; omega
  have := preP_all hp
  rwa [hl] at this
end Plc
