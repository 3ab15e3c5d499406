/- Plain mathematics of placements; no program. -/
import Derived.Test.YtliedgaefgomjaaGreatQD
namespace Plc
/-- A placement of n cells on 25 tiles. -/
def okP (n : Nat) (p : List Int) : Bool := decide (p.length = n) && (p.all fun x => decide (0 ≤ x ∧ x ≤ 24)) && decide p.Nodup
theorem okP_iff {n : Nat} {p : List Int} : okP n p = true ↔ p.length = n ∧ (∀ x, x ∈ p → 0 ≤ x ∧ x ≤ 24) ∧ p.Nodup := by
  unfold okP
  simp only [Bool.and_eq_true, decide_eq_true_eq, List.all_eq_true]
  exact ⟨fun ⟨⟨a, b⟩, c⟩ => ⟨a, b, c⟩, fun ⟨a, b, c⟩ => ⟨⟨a, b⟩, c⟩⟩
/-- The first k tiles are fit. -/
def preP (p : List Int) (k : Nat) : Prop := (∀ j, j < k → 0 ≤ p.getD j 0 ∧ p.getD j 0 ≤ 24) ∧ ∀ i j, i < j → j < k → p.getD i 0 ≠ p.getD j 0
theorem preP_zero (p : List Int) : preP p 0 := ⟨fun j h => by omega, fun i j _ h => by omega⟩
theorem preP_step {p : List Int} {k : Nat} (h : preP p k) (h1 : 0 ≤ p.getD k 0 ∧ p.getD k 0 ≤ 24) (h2 : ∀ i, i < k → p.getD i 0 ≠ p.getD k 0) : preP p (k + 1) :=
  ⟨fun j hj => by by_cases e : j = k
                  · subst e; exact h1
                  · exact h.1 j (by omega),
   fun i j hij hj => by by_cases e : j = k
                        · subst e; exact h2 i hij
                        · exact h.2 i j hij (by omega)⟩
theorem getD_eq {p : List Int} {k : Nat} (h : k < p.length) : p.getD k 0 = p[k] := by simp [List.getD_eq_getElem?_getD, h]
theorem preP_all {p : List Int} (h : preP p p.length) : okP p.length p = true := by
  rw [okP_iff]
  refine ⟨rfl, fun x hx => ?_, ?_⟩
  · obtain ⟨j, hj, e⟩ := List.mem_iff_getElem.1 hx
    have := h.1 j hj
    rw [getD_eq hj, e] at this
    exact this
  · rw [List.nodup_iff_pairwise_ne, List.pairwise_iff_getElem]
    intro i j hi hj hij
    have := h.2 i j hij hj
    rwa [getD_eq hi, getD_eq hj] at this
theorem preP_of {n : Nat} {p : List Int} (h : okP n p = true) : preP p p.length := by
  obtain ⟨_, h2, h3⟩ := okP_iff.1 h
  rw [List.nodup_iff_pairwise_ne, List.pairwise_iff_getElem] at h3
  refine ⟨fun j hj => ?_, fun i j hij hj => ?_⟩
  · rw [getD_eq hj]; exact h2 _ (List.getElem_mem hj)
  · rw [getD_eq hj, getD_eq (by omega)]; exact h3 i j (by omega) hj hij
/-- A tile that is not fit, or stands twice. -/
theorem okP_bad {n : Nat} {p : List Int} {k : Nat} (hk : k < p.length) (h : ¬ (0 ≤ p.getD k 0 ∧ p.getD k 0 ≤ 24) ∨ ∃ i, i < k ∧ p.getD i 0 = p.getD k 0) : okP n p = false := by
  rw [Bool.eq_false_iff]
  intro h2
  have h3 := preP_of h2
  rcases h with h | ⟨i, hi, e⟩
  · exact h (h3.1 k hk)
  · exact h3.2 i k hi hk e
theorem okP_len {n : Nat} {p : List Int} (h : p.length ≠ n) : okP n p = false := by
  rw [Bool.eq_false_iff]
  intro h2
  exact h (okP_iff.1 h2).1
/-- Smallest and largest of a list, from a start. -/
def lo (f : Nat → Nat) (s : Nat) (ts : List Nat) : Nat := ts.foldl (fun m t => min m (f t)) s
def hi (f : Nat → Nat) (s : Nat) (ts : List Nat) : Nat := ts.foldl (fun m t => max m (f t)) s
/-- Cell i to tile t, in exchange with the cell that is there. -/
def tryP (p : List Nat) (i t : Nat) : List Nat := (p.map fun x => if x = t then p.getD i 0 else x).set i t
theorem tryP_len (p : List Nat) (i t : Nat) : (tryP p i t).length = p.length := by simp [tryP]
theorem tryP_at {p : List Nat} {i t j : Nat} (hj : j < p.length) : (tryP p i t).getD j 0 = if j = i then t else if p.getD j 0 = t then p.getD i 0 else p.getD j 0 := by
  unfold tryP
  simp only [List.getD_eq_getElem?_getD]
  by_cases e : j = i
  · subst e
    rw [List.getElem?_set_self (by simpa using hj), if_pos rfl]
    rfl
  · rw [List.getElem?_set_ne (fun h => e h.symm), if_neg e, List.getElem?_map, List.getElem?_eq_getElem hj]
    rfl
/-- What a placement of cells 0 to n - 1 is, as naturals. -/
structure Pl (n : Nat) (p : List Nat) : Prop where
  len : p.length = n
  le : ∀ j, j < n → p.getD j 0 ≤ 24
  ne : ∀ i j, i < j → j < n → p.getD i 0 ≠ p.getD j 0
theorem Pl.try {n i t : Nat} {p : List Nat} (h : Pl n p) (hi : i < n) (ht : t ≤ 24) : Pl n (tryP p i t) := by
  have inj : ∀ a b, a < n → b < n → a ≠ b → p.getD a 0 ≠ p.getD b 0 := fun a b ha hb hab => by
    rcases Nat.lt_or_gt_of_ne hab with h1 | h1
    · exact h.ne a b h1 hb
    · exact fun e => h.ne b a h1 ha e.symm
  refine ⟨by rw [tryP_len, h.len], fun j hj => ?_, fun a b hab hb => ?_⟩
  · rw [tryP_at (by rw [h.len]; exact hj)]
    have h1 := h.le j hj
    have h2 := h.le i hi
    split
    · exact ht
    · split <;> omega
  · rw [tryP_at (by rw [h.len]; omega), tryP_at (by rw [h.len]; exact hb)]
    by_cases e1 : a = i
    · rw [if_pos e1, if_neg (by omega)]
      by_cases e2 : p.getD b 0 = t
      · rw [if_pos e2, ← e2]
        exact fun e => inj b i hb hi (by omega) e
      · rw [if_neg e2]
        exact fun e => e2 e.symm
    · rw [if_neg e1]
      by_cases e3 : b = i
      · rw [if_pos e3]
        by_cases e2 : p.getD a 0 = t
        · rw [if_pos e2, ← e2]
          exact fun e => inj i a hi (by omega) (by omega) e
        · rw [if_neg e2]
          exact e2
      · rw [if_neg e3]
        have hab2 := inj a b (by omega) hb (by omega)
        by_cases e2 : p.getD a 0 = t
        · rw [if_pos e2, if_neg (fun e => hab2 (e2.trans e.symm))]
          exact fun e => inj i b hi hb (by omega) e
        · rw [if_neg e2]
          by_cases e4 : p.getD b 0 = t
          · rw [if_pos e4]
            exact fun e => inj a i (by omega) hi (by omega) e
          · rw [if_neg e4]
            exact hab2
/-- The indices below k that P picks. -/
def pickTo (P : Nat → Bool) : Nat → List Nat
  | 0 => []
  | k + 1 => if P k = true then pickTo P k ++ [k] else pickTo P k
theorem pickTo_mem (P : Nat → Bool) : ∀ k j, j ∈ pickTo P k ↔ j < k ∧ P j = true
  | 0, j => by simp [pickTo]
  | k + 1, j => by
    have ih := pickTo_mem P k j
    unfold pickTo
    split
    · next h =>
      rw [List.mem_append, ih, List.mem_singleton]
      constructor
      · rintro (⟨a, b⟩ | rfl)
        · exact ⟨by omega, b⟩
        · exact ⟨by omega, h⟩
      · rintro ⟨a, b⟩
        by_cases e : j = k
        · exact .inr e
        · exact .inl ⟨by omega, b⟩
    · next h =>
      rw [ih]
      constructor
      · rintro ⟨a, b⟩; exact ⟨by omega, b⟩
      · rintro ⟨a, b⟩
        by_cases e : j = k
        · subst e; exact absurd b h
        · exact ⟨by omega, b⟩
theorem pickTo_len (P : Nat → Bool) : ∀ k, (pickTo P k).length ≤ k
  | 0 => Nat.le_refl _
  | k + 1 => by
    have := pickTo_len P k
    unfold pickTo
    split
    · simp; omega
    · omega
/-- A list with further members, each once. -/
def addTo (out : List Nat) : List Nat → List Nat
  | [] => out
  | t :: r => addTo (if out.contains t = true then out else out ++ [t]) r
theorem addTo_mem : ∀ (ts out : List Nat) (x : Nat), x ∈ addTo out ts ↔ x ∈ out ∨ x ∈ ts
  | [], out, x => by simp [addTo]
  | t :: r, out, x => by
    show x ∈ addTo (if out.contains t = true then out else out ++ [t]) r ↔ _
    rw [addTo_mem r]
    split
    · next h =>
      have ht := List.contains_iff_mem.1 h
      constructor
      · rintro (a | a)
        · exact .inl a
        · exact .inr (by simp [a])
      · rintro (a | a)
        · exact .inl a
        · rcases List.mem_cons.1 a with a | a
          · subst a; exact .inl ht
          · exact .inr a
    · constructor
      · rintro (a | a)
        · rcases List.mem_append.1 a with a | a
          · exact .inl a
          · simp at a; subst a; exact .inr (by simp)
        · exact .inr (by simp [a])
      · rintro (a | a)
        · exact .inl (by simp [a])
        · rcases List.mem_cons.1 a with a | a
          · subst a; exact .inl (by simp)
          · exact .inr a
theorem addTo_snoc (ts out : List Nat) (t : Nat) : addTo out (ts ++ [t]) = if (addTo out ts).contains t = true then addTo out ts else addTo out ts ++ [t] := by
  induction ts generalizing out with
  | nil => rfl
  | cons a r ih => exact ih _
abbrev Ce := Nat × List Nat × Nat × Bool
/-- The tiles of the cells and pads that use a net; its source; what it connects. -/
def snkP (os : List Nat) (ce : List Ce) (p : List Nat) (net : Nat) : List Nat :=
  ((pickTo (fun j => (ce.getD j (0, [], 0, false)).2.1.contains net) ce.length).map fun j => p.getD j 0) ++ ((pickTo (fun o => os.getD o 0 / 2 == net) os.length).map fun o => o * 5 + 4)
def srcP (m : Nat) (ce : List Ce) (p : List Nat) (net : Nat) : List Nat :=
  (if 1 ≤ net ∧ net ≤ m then [(net - 1) * 5] else []) ++ ((pickTo (fun j => (ce.getD j (0, [], 0, false)).1 == net) ce.length).map fun j => p.getD j 0)
def pinsP (m : Nat) (os : List Nat) (ce : List Ce) (p : List Nat) (net : Nat) : List Nat := if snkP os ce p net = [] then [] else addTo (srcP m ce p net) (snkP os ce p net)
theorem pinsP_mem (m : Nat) (os : List Nat) (ce : List Ce) (p : List Nat) (net x : Nat) : x ∈ pinsP m os ce p net ↔ snkP os ce p net ≠ [] ∧ (x ∈ srcP m ce p net ∨ x ∈ snkP os ce p net) := by
  unfold pinsP
  split
  · next h => rw [h]; simp
  · next h => rw [addTo_mem]; exact ⟨fun a => ⟨h, a⟩, fun a => a.2⟩
theorem pinsP_le {m : Nat} {os : List Nat} {ce : List Ce} {p : List Nat} (hp : Pl ce.length p) (hm : m ≤ 4) (ho : os.length ≤ 3) (net : Nat) : ∀ x, x ∈ pinsP m os ce p net → x ≤ 24 := fun x hx => by
  obtain ⟨_, h⟩ := (pinsP_mem m os ce p net x).1 hx
  have cell : ∀ P, x ∈ (pickTo P ce.length).map (fun j => p.getD j 0) → x ≤ 24 := fun P h => by
    obtain ⟨j, hj, rfl⟩ := List.mem_map.1 h
    exact hp.le j ((pickTo_mem P _ j).1 hj).1
  rcases h with h | h
  · unfold srcP at h
    rcases List.mem_append.1 h with h | h
    · split at h
      · simp at h; omega
      · cases h
    · exact cell _ h
  · unfold snkP at h
    rcases List.mem_append.1 h with h | h
    · exact cell _ h
    · obtain ⟨o, ho', rfl⟩ := List.mem_map.1 h
      have := ((pickTo_mem _ _ o).1 ho').1
      omega
/-- A placement as naturals, and back. -/
theorem okP_nat {n : Nat} {p : List Int} (h : okP n p = true) : ∃ q, Pl n q ∧ p = Opt.intL q := by
  obtain ⟨h1, h2, _⟩ := okP_iff.1 h
  have h3 := preP_of h
  have e : ∀ j, j < n → (p.map Int.toNat).getD j 0 = (p.getD j 0).toNat := fun j hj => by simp [List.getD_eq_getElem?_getD, h1, hj]
  refine ⟨p.map Int.toNat, ⟨by simp [h1], fun j hj => ?_, fun i j hij hj => ?_⟩, ?_⟩
  · rw [e j hj]
    have := h3.1 j (by omega)
    omega
  · rw [e j hj, e i (by omega)]
    have a := h3.1 j (by omega)
    have b := h3.1 i (by omega)
    have := h3.2 i j hij (by omega)
    omega
  · refine List.ext_getElem (by simp [Opt.intL]) (fun j a b => ?_)
    have := h2 _ (List.getElem_mem a)
    simp [Opt.intL]
    omega
theorem Pl.ok {n : Nat} {q : List Nat} (h : Pl n q) : okP n (Opt.intL q) = true := by
  have hl : (Opt.intL q).length = n := by rw [Opt.intL_len]; exact h.len
  have hp : preP (Opt.intL q) (Opt.intL q).length := by
    rw [hl]
    refine ⟨fun j hj => ?_, fun i j hij hj => ?_⟩
    · rw [Opt.intL_at]; have := h.le j hj; omega
    · rw [Opt.intL_at, Opt.intL_at]; have := h.ne i j hij hj; omega
  have := preP_all hp
  rwa [hl] at this
end Plc
