/- Plain mathematics of placements; no program. -/
import Derived.Test.YtdadokcodklfgaaQD
namespace Plc
/-- A placement of n cells on 25 tiles. -/
def okP (n : Nat) (p : List Int) : Bool := decide (p.length = n) && (p.all fun x => decide (0 ≤ x ∧ x ≤ 24)) && decide p.Nodup
theorem okP_iff {n : Nat} {p : List Int} : okP n p = true ↔ p.length = n ∧ (∀ x, x ∈ p → 0 ≤ x ∧ x ≤ 24) ∧ p.Nodup := by
  unfold okP
  simp only [Bool.and_eq_true, decide_eq_true_eq, List.all_eq_true]
  exact ⟨fun ⟨⟨a, b⟩, c⟩ => ⟨a, b, c⟩, fun ⟨a, b, c⟩ => ⟨⟨a, b⟩, c⟩⟩
/-- The first k tiles are fit. -/
def preP (p : List Int) (k : Nat) : Prop := (∀ j, j < k → 0 ≤ p.getD j 0 ∧ p.getD j 0 ≤ 24) ∧ ∀ i j, i < j → j < k → p.getD i 0 ≠ p.getD j 0
theorem getD_eq {p : List Int} {k : Nat} (h : k < p.length) : p.getD k 0 = p[k] := by simp [List.getD_eq_getElem?_getD, h]
theorem preP_all {p : List Int} (h : preP p p.length) : okP p.length p = true := by
  rw [okP_iff]
  refine ⟨rfl, fun x hx => ?_, ?_⟩
  · obtain ⟨j, hj, e⟩ := List.mem_iff_getElem.1 hx
    have := h.1 j hj
    rw [getD_eq hj, e] at this
    exact this
  · rw [List.nodup_iff_pairwise_ne, List.pairwise_iff_getElem]
    intro i j hi hj hij
    have := h.2 i j hij hj
    rwa [getD_eq hi, getD_eq hj] at this
/-- Smallest and largest of a list, from a start. -/
def lo (f : Nat → Nat) (s : Nat) (ts : List Nat) : Nat := ts.foldl (fun m t => min m (f t)) s
def hi (f : Nat → Nat) (s : Nat) (ts : List Nat) : Nat := ts.foldl (fun m t => max m (f t)) s
/-- Half the perimeter of the box of tiles; 0 of none. -/
def dist (ts : List Nat) : Nat := if ts = [] then 0 else hi (· / 5) 0 ts - lo (· / 5) 5 ts + (hi (· % 5) 0 ts - lo (· % 5) 5 ts)
/-- Cell i to tile t, in exchange with the cell that is there. -/
def tryP (p : List Nat) (i t : Nat) : List Nat := (p.map fun x => if x = t then p.getD i 0 else x).set i t
theorem tryP_len (p : List Nat) (i t : Nat) : (tryP p i t).length = p.length := by simp [tryP]
theorem tryP_at {p : List Nat} {i t j : Nat} (hj : j < p.length) : (tryP p i t).getD j 0 = if j = i then t else if p.getD j 0 = t then p.getD i 0 else p.getD j 0 := by
  unfold tryP
  simp only [List.getD_eq_getElem?_getD]
  by_cases e : j = i
  · subst e
    rw [List.getElem?_set_self (by simpa using hj), if_pos rfl]
    rfl
  · rw [List.getElem?_set_ne (fun h => e h.symm), if_neg e, List.getElem?_map, List.getElem?_eq_getElem hj]
    rfl
/-- What a placement of cells 0 to n - 1 is, as naturals. -/
structure Pl (n : Nat) (p : List Nat) : Prop where
  len : p.length = n
  le : ∀ j, j < n → p.getD j 0 ≤ 24
  ne : ∀ i j, i < j → j < n → p.getD i 0 ≠ p.getD j 0
theorem Pl.try {n i t : Nat} {p : List Nat} (h : Pl n p) (hi : i < n) (ht : t ≤ 24) : Pl n (tryP p i t) := by
  have inj : ∀ a b, a < n → b < n → a ≠ b → p.getD a 0 ≠ p.getD b 0 := fun a b ha hb hab => by
    rcases Nat.lt_or_gt_of_ne hab with h1 | h1
    · exact h.ne a b h1 hb
    · exact fun e => h.ne b a h1 ha e.symm
  refine ⟨by rw [tryP_len, h.len], fun j hj => ?_, fun a b hab hb => ?_⟩
  · rw [tryP_at (by rw [h.len]; exact hj)]
    have h1 := h.le j hj
    have h2 := h.le i hi
    split
    · exact ht
    · split <;> omega
  · rw [tryP_at (by rw [h.len]; omega), tryP_at (by rw [h.len]; exact hb)]
    by_cases e1 : a = i
    · rw [if_pos e1, if_neg (by omega)]
      by_cases e2 : p.getD b 0 = t
      · rw [if_pos e2, ← e2]
        exact fun e => inj b i hb hi (by omega) e
      · rw [if_neg e2]
        exact fun e => e2 e.symm
    · rw [if_neg e1]
      by_cases e3 : b = i
      · rw [if_pos e3]
        by_cases e2 : p.getD a 0 = t
        · rw [if_pos e2, ← e2]
          exact fun e => inj i a hi (by omega) (by omega) e
        · rw [if_neg e2]
          exact e2
      · rw [if_neg e3]
        have hab2 := inj a b (by omega) hb (by omega)
        by_cases e2 : p.getD a 0 = t
        · rw [if_pos e2, if_neg (fun e => hab2 (e2.trans e.symm))]
          exact fun e => inj i b hi hb (by omega) e
        · rw [if_neg e2]
          by_cases e4 : p.getD b 0 = t
          · rw [if_pos e4]
            exact fun e => inj a i (by omega) hi (by omega) e
          · rw [if_neg e4]
            exact hab2
abbrev Ce := Nat × List Nat × Nat × Bool
theorem Pl.ok {n : Nat} {q : List Nat} (h : Pl n q) : okP n (Opt.intL q) = true := by
  have hl : (Opt.intL q).length = n := by rw [Opt.intL_len]; exact h.len
  have hp : preP (Opt.intL q) (Opt.intL q).length := by
    rw [hl]
    refine ⟨fun j hj => ?_, fun i j hij hj => ?_⟩
    · rw [Opt.intL_at]; have := h.le j hj; omega
    · rw [Opt.intL_at, Opt.intL_at]; have := h.ne i j hij hj; omega
  have := preP_all hp
  rwa [hl] at this
end Plc
