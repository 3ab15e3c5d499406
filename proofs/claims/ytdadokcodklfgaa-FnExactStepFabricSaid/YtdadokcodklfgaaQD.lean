/- Plain mathematics of cuts; no program. -/
import Derived.Test.YtdadokcodklfgaaQA
namespace Cut
open Opt
abbrev Cs := List (List Nat)
/-- The union of two ascending lists. -/
def merge : List Nat → List Nat → List Nat
  | [], ys => ys
  | x :: xs, [] => x :: xs
  | x :: xs, y :: ys => if x < y then x :: merge xs (y :: ys) else if y < x then y :: merge (x :: xs) ys else x :: merge xs ys
termination_by xs ys => xs.length + ys.length
/-- One more union, where it fits. -/
def put (u : Cs) (l : List Nat) : Cs := if l.length ≤ 3 ∧ u.length < 8 ∧ l ∉ u then u ++ [l] else u
def uni1 (u : Cs) (x : List Nat) (ys : Cs) : Cs := ys.foldl (fun u y => put u (merge x y)) u
def uniA (u : Cs) (xs ys : Cs) : Cs := xs.foldl (fun u x => uni1 u x ys) u
def uni (xs ys : Cs) : Cs := uniA [] xs ys
/-- The cuts of the variables ahead of the gates, and of all when the first k gates are known. -/
def own (v : Nat) : List Nat := if v = 0 then [] else [v]
def cutsTo (f : Nat) (gs : List G) : Nat → List Cs
  | 0 => (List.range f).map fun v => [own v]
  | k + 1 => cutsTo f gs k ++ [uni ((cutsTo f gs k).getD ((at_ gs k).1 / 2) []) ((cutsTo f gs k).getD ((at_ gs k).2 / 2) []) ++ [[f + k]]]
def cuts (f : Nat) (gs : List G) : List Cs := cutsTo f gs gs.length
end Cut
/- Plain mathematics of cuts: a cut determines its variable; no program. -/
namespace Cut
open Opt
/-- The number of these digits, the first one the lowest. -/
def num : List Bool → Nat
  | [] => 0
  | b :: bs => (if b then 1 else 0) + 2 * num bs
end Cut
/- Plain mathematics of the mapping: arrival times and best cuts; no program. -/
namespace Cut
open Opt
/-- The latest arrival time of the leaves. -/
def lateFrom (arr : List Nat) : Nat → List Nat → Nat
  | t, [] => t
  | t, l :: x => lateFrom arr (max t (arr.getD l 0)) x
def late (arr : List Nat) (x : List Nat) : Nat := lateFrom arr 0 x
/-- x is preferred to y. -/
def better (arr : List Nat) (x y : List Nat) : Bool := decide (late arr x < late arr y) || (late arr x == late arr y && decide (x.length < y.length))
/-- The place of the best of the first m + 1 cuts. -/
def pick (arr : List Nat) (L : Cs) : Nat → Nat
  | 0 => 0
  | m + 1 => if better arr (L.getD (m + 1) []) (L.getD (pick arr L m) []) then m + 1 else pick arr L m
/-- The best cut, the last one left out. -/
def bestOf (arr : List Nat) (L : Cs) : List Nat := L.getD (pick arr L (L.length - 2)) []
/-- Best cuts and arrival times after k gates. -/
def mapTo (f : Nat) (cs : List Cs) : Nat → List (List Nat) × List Nat
  | 0 => (List.replicate f [], List.replicate f 0)
  | k + 1 => ((mapTo f cs k).1 ++ [bestOf (mapTo f cs k).2 (cs.getD (f + k) [])], (mapTo f cs k).2 ++ [1 + late (mapTo f cs k).2 (bestOf (mapTo f cs k).2 (cs.getD (f + k) []))])
def times (f : Nat) (gs : List G) : List Nat := (mapTo f (cuts f gs) gs.length).2
end Cut
/- Plain mathematics of lookup tables: cones, tables, needed variables; no program. -/
namespace Cut
open Opt
theorem getD_snoc_lt {α : Type} (l : List α) (a d : α) {v : Nat} (h : v < l.length) : (l ++ [a]).getD v d = l.getD v d := by
  rw [List.getD_eq_getElem?_getD, List.getD_eq_getElem?_getD, List.getElem?_append_left h]
theorem getD_snoc_at {α : Type} (l : List α) (a d : α) {v : Nat} (h : v = l.length) : (l ++ [a]).getD v d = a := by
  subst h
  rw [List.getD_eq_getElem?_getD, List.getElem?_append_right (Nat.le_refl _)]
  simp
/-- No variable twice. -/
def Once (lv : List Nat) : Prop := ∀ j k, j < lv.length → k < lv.length → lv.getD j 0 = lv.getD k 0 → j = k
theorem memD0 {X : Type} {l : List X} {d : X} {j : Nat} (h : j < l.length) : l.getD j d ∈ l := by
  rw [List.getD_eq_getElem?_getD, List.getElem?_eq_getElem h]
  exact List.getElem_mem h
abbrev Lt := Nat × List Nat × Nat
end Cut
/- Plain mathematics of lookup tables: they compute their variables, lie in order, and are all there; no program. -/
namespace Cut
open Opt
end Cut
