/- Plain mathematics of the mapping: arrival times and best cuts; no program. -/
import Derived.Test.YthcpgbfghededaaQD
namespace Cut
open Opt
/-- The latest arrival time of the leaves. -/
def lateFrom (arr : List Nat) : Nat → List Nat → Nat
  | t, [] => t
  | t, l :: x => lateFrom arr (max t (arr.getD l 0)) x
def late (arr : List Nat) (x : List Nat) : Nat := lateFrom arr 0 x
theorem lateFrom_snoc (arr : List Nat) : ∀ (x : List Nat) (t l : Nat), lateFrom arr t (x ++ [l]) = max (lateFrom arr t x) (arr.getD l 0)
  | [], _, _ => rfl
  | _ :: x, _, l => by
    show lateFrom arr _ (x ++ [l]) = max (lateFrom arr _ x) _
    exact lateFrom_snoc arr x _ l
theorem late_snoc (arr : List Nat) (x : List Nat) (l : Nat) : late arr (x ++ [l]) = max (late arr x) (arr.getD l 0) := lateFrom_snoc arr x 0 l
theorem late_take (arr : List Nat) (x : List Nat) (k : Nat) (hk : k < x.length) : late arr (x.take (k + 1)) = max (late arr (x.take k)) (arr.getD (x.getD k 0) 0) := by
  have e : x.take (k + 1) = x.take k ++ [x.getD k 0] := by
    rw [List.take_add_one, List.getD_eq_getElem?_getD, List.getElem?_eq_getElem hk]
    rfl
  rw [e, late_snoc]
theorem late_le {arr : List Nat} {n : Nat} : ∀ {x : List Nat}, (∀ l, l ∈ x → arr.getD l 0 ≤ n) → late arr x ≤ n := by
  have key : ∀ (x : List Nat) (t : Nat), t ≤ n → (∀ l, l ∈ x → arr.getD l 0 ≤ n) → lateFrom arr t x ≤ n := by
    intro x
    induction x with
    | nil => intro t ht _; exact ht
    | cons a x ih =>
      intro t ht h
      exact ih _ (Nat.max_le.2 ⟨ht, h a (by simp)⟩) (fun l hl => h l (by simp [hl]))
  intro x h
  exact key x 0 (Nat.zero_le _) h
theorem late_ge {arr : List Nat} : ∀ {x : List Nat} {l : Nat}, l ∈ x → arr.getD l 0 ≤ late arr x := by
  have mono : ∀ (x : List Nat) (t : Nat), t ≤ lateFrom arr t x := by
    intro x
    induction x with
    | nil => intro t; exact Nat.le_refl _
    | cons a x ih => intro t; exact Nat.le_trans (Nat.le_max_left _ _) (ih _)
  have key : ∀ (x : List Nat) (t l : Nat), l ∈ x → arr.getD l 0 ≤ lateFrom arr t x := by
    intro x
    induction x with
    | nil => intro t l h; cases h
    | cons a x ih =>
      intro t l h
      rcases List.mem_cons.1 h with h | h
      · subst h; exact Nat.le_trans (Nat.le_max_right _ _) (mono x _)
      · exact ih _ l h
  intro x l h
  exact key x 0 l h
/-- The times agree on the leaves. -/
theorem late_congr {a b : List Nat} : ∀ {x : List Nat}, (∀ l, l ∈ x → a.getD l 0 = b.getD l 0) → late a x = late b x := by
  have key : ∀ (x : List Nat) (t : Nat), (∀ l, l ∈ x → a.getD l 0 = b.getD l 0) → lateFrom a t x = lateFrom b t x := by
    intro x
    induction x with
    | nil => intro t _; rfl
    | cons c x ih =>
      intro t h
      show lateFrom a _ x = lateFrom b _ x
      rw [h c (by simp)]
      exact ih _ (fun l hl => h l (by simp [hl]))
  intro x h
  exact key x 0 h
/-- x is preferred to y. -/
def better (arr : List Nat) (x y : List Nat) : Bool := decide (late arr x < late arr y) || (late arr x == late arr y && decide (x.length < y.length))
/-- The place of the best of the first m + 1 cuts. -/
def pick (arr : List Nat) (L : Cs) : Nat → Nat
  | 0 => 0
  | m + 1 => if better arr (L.getD (m + 1) []) (L.getD (pick arr L m) []) then m + 1 else pick arr L m
theorem pick_le (arr : List Nat) (L : Cs) : ∀ m, pick arr L m ≤ m
  | 0 => Nat.le_refl _
  | m + 1 => by
    have := pick_le arr L m
    unfold pick
    split <;> omega
/-- The best cut, the last one left out. -/
def bestOf (arr : List Nat) (L : Cs) : List Nat := L.getD (pick arr L (L.length - 2)) []
/-- Best cuts and arrival times after k gates. -/
def mapTo (f : Nat) (cs : List Cs) : Nat → List (List Nat) × List Nat
  | 0 => (List.replicate f [], List.replicate f 0)
  | k + 1 => ((mapTo f cs k).1 ++ [bestOf (mapTo f cs k).2 (cs.getD (f + k) [])], (mapTo f cs k).2 ++ [1 + late (mapTo f cs k).2 (bestOf (mapTo f cs k).2 (cs.getD (f + k) []))])
theorem mapTo_len (f : Nat) (cs : List Cs) : ∀ k, (mapTo f cs k).1.length = f + k ∧ (mapTo f cs k).2.length = f + k
  | 0 => by simp [mapTo]
  | k + 1 => by
    obtain ⟨h1, h2⟩ := mapTo_len f cs k
    simp only [mapTo, List.length_append, List.length_singleton, h1, h2]
    omega
def bests (f : Nat) (gs : List G) : List (List Nat) := (mapTo f (cuts f gs) gs.length).1
def times (f : Nat) (gs : List G) : List Nat := (mapTo f (cuts f gs) gs.length).2
theorem arr_le (f : Nat) (cs : List Cs) : ∀ k v, (mapTo f cs k).2.getD v 0 ≤ k
  | 0, v => by
    simp only [mapTo, List.getD_eq_getElem?_getD, List.getElem?_replicate]
    split <;> simp
  | k + 1, v => by
    have ih := arr_le f cs k
    simp only [mapTo]
    rw [List.getD_eq_getElem?_getD, List.getElem?_append]
    split
    · have := ih v
      rw [List.getD_eq_getElem?_getD] at this
      omega
    · have hl := (mapTo_len f cs k).2
      rw [List.getElem?_singleton]
      split
      · have := late_le (arr := (mapTo f cs k).2) (n := k) (x := bestOf (mapTo f cs k).2 (cs.getD (f + k) [])) (fun l _ => ih l)
        simp only [Option.getD_some]
        omega
      · simp
end Cut
