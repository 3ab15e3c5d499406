/- Plain mathematics of levels and depths; no program. -/
import Derived.Test.YtkkkkalgfmddbaaM
namespace Circ
/-- The levels of the variables when the first k gates are known; f variables come before the gates. -/
def lv (gs : List (Int × Int)) (f : Nat) : Nat → List Int
  | 0 => List.replicate f 0
  | k + 1 => lv gs f k ++ [1 + max ((lv gs f k).getD ((gs.getD k (0, 0)).1 / 2).toNat 0) ((lv gs f k).getD ((gs.getD k (0, 0)).2 / 2).toNat 0)]
def levels (gs : List (Int × Int)) (f : Nat) : List Int := lv gs f gs.length
theorem lv_len (gs : List (Int × Int)) (f k : Nat) : (lv gs f k).length = f + k := by
  induction k with
  | zero => simp [lv]
  | succ k ih => simp [lv, ih]; omega
theorem levels_len (gs : List (Int × Int)) (f : Nat) : (levels gs f).length = f + gs.length := lv_len gs f _
theorem getD_app_lt {α : Type} (xs ys : List α) (j : Nat) (d : α) (h : j < xs.length) : (xs ++ ys).getD j d = xs.getD j d := by
  simp [List.getD_eq_getElem?_getD, List.getElem?_append_left h]
theorem getD_app_at {α : Type} (xs : List α) (y d : α) (j : Nat) (h : j = xs.length) : (xs ++ [y]).getD j d = y := by
  subst h
  simp [List.getD_eq_getElem?_getD]
theorem lv_pre (gs : List (Int × Int)) (f k m : Nat) (j : Nat) (hj : j < f + k) : (lv gs f (k + m)).getD j 0 = (lv gs f k).getD j 0 := by
  induction m with
  | zero => rfl
  | succ m ih =>
    rw [← Nat.add_assoc]
    show (lv gs f (k + m) ++ _).getD j 0 = _
    rw [getD_app_lt _ _ _ _ (by rw [lv_len]; omega), ih]
theorem levels_pre (gs : List (Int × Int)) (f k j : Nat) (hk : k ≤ gs.length) (hj : j < f + k) : (levels gs f).getD j 0 = (lv gs f k).getD j 0 := by
  unfold levels
  have h := lv_pre gs f k (gs.length - k) j hj
  rwa [show k + (gs.length - k) = gs.length from by omega] at h
theorem levels_zero (gs : List (Int × Int)) (f j : Nat) (hj : j < f) : (levels gs f).getD j 0 = 0 := by
  rw [levels_pre gs f 0 j (by omega) (by omega)]
  simp [lv, List.getD_eq_getElem?_getD, hj]
theorem levels_at (gs : List (Int × Int)) (f k a b : Nat) (hk : k < gs.length) (ea : ((gs.getD k (0, 0)).1 / 2).toNat = a) (eb : ((gs.getD k (0, 0)).2 / 2).toNat = b) (ha : a < f + k) (hb : b < f + k) :
    (levels gs f).getD (f + k) 0 = 1 + max ((levels gs f).getD a 0) ((levels gs f).getD b 0) := by
  rw [levels_pre gs f (k + 1) (f + k) (by omega) (by omega), levels_pre gs f k a (by omega) ha, levels_pre gs f k b (by omega) hb]
  show (lv gs f k ++ _).getD (f + k) 0 = _
  rw [getD_app_at _ _ _ _ (by rw [lv_len]), ea, eb]
theorem levels_take (gs : List (Int × Int)) (f : Nat) : (levels gs f).take f = List.replicate f 0 := by
  have hl := levels_len gs f
  refine List.ext_getElem (by simp; omega) (fun j h1 h2 => ?_)
  have hj : j < f := by simpa using h2
  have hz := levels_zero gs f j hj
  rw [List.getD_eq_getElem?_getD, List.getElem?_eq_getElem (by omega), Option.getD_some] at hz
  simpa using hz
theorem getD_mem (l : List Int) (j : Nat) (P : Int → Prop) (h0 : P 0) (h : ∀ x ∈ l, P x) : P (l.getD j 0) := by
  by_cases hj : j < l.length
  · rw [List.getD_eq_getElem?_getD, List.getElem?_eq_getElem hj]
    exact h _ (List.getElem_mem hj)
  · rw [List.getD_eq_getElem?_getD, List.getElem?_eq_none (by omega)]
    exact h0
theorem lv_bd (gs : List (Int × Int)) (f k : Nat) : ∀ x ∈ lv gs f k, 0 ≤ x ∧ x ≤ k := by
  induction k with
  | zero => intro x hx; simp [lv] at hx; omega
  | succ k ih =>
    intro x hx
    rw [lv, List.mem_append] at hx
    rcases hx with hx | hx
    · have := ih x hx; omega
    · simp only [List.mem_singleton] at hx
      have h1 := getD_mem (lv gs f k) ((gs.getD k (0, 0)).1 / 2).toNat (fun x => 0 ≤ x ∧ x ≤ k) ⟨by omega, by omega⟩ ih
      have h2 := getD_mem (lv gs f k) ((gs.getD k (0, 0)).2 / 2).toNat (fun x => 0 ≤ x ∧ x ≤ k) ⟨by omega, by omega⟩ ih
      omega
theorem levels_bd (gs : List (Int × Int)) (f j : Nat) : 0 ≤ (levels gs f).getD j 0 ∧ (levels gs f).getD j 0 ≤ gs.length :=
  getD_mem (levels gs f) j (fun x => 0 ≤ x ∧ x ≤ gs.length) ⟨by omega, by omega⟩ (lv_bd gs f gs.length)

/-- The highest level of literals, at least m. -/
def hiFrom (l : List Int) (m : Int) : List Int → Int
  | [] => m
  | x :: r => hiFrom l (max m (l.getD (x / 2).toNat 0)) r
def hi (l xs : List Int) : Int := hiFrom l 0 xs
theorem hiFrom_snoc (l : List Int) (m : Int) (xs : List Int) (x : Int) : hiFrom l m (xs ++ [x]) = max (hiFrom l m xs) (l.getD (x / 2).toNat 0) := by
  induction xs generalizing m with
  | nil => rfl
  | cons y r ih => exact ih _
theorem hi_step (l xs : List Int) (k : Nat) (hk : k < xs.length) : hi l (xs.take (k + 1)) = max (hi l (xs.take k)) (l.getD (xs.getD k 0 / 2).toNat 0) := by
  unfold hi
  rw [List.take_succ_eq_append_getElem hk, hiFrom_snoc]
  simp only [List.getD_eq_getElem?_getD, List.getElem?_eq_getElem hk, Option.getD_some]
theorem hiFrom_append (l : List Int) (m : Int) (xs ys : List Int) : hiFrom l m (xs ++ ys) = hiFrom l (hiFrom l m xs) ys := by
  induction xs generalizing m with
  | nil => rfl
  | cons y r ih => exact ih _
theorem hiFrom_max (l : List Int) (m n : Int) (xs : List Int) : hiFrom l (max m n) xs = max m (hiFrom l n xs) := by
  induction xs generalizing n with
  | nil => rfl
  | cons y r ih =>
    show hiFrom l (max (max m n) (l.getD (y / 2).toNat 0)) r = _
    rw [Int.max_assoc]
    exact ih _
theorem hi_ge (l xs : List Int) : 0 ≤ hi l xs := by
  have h := hiFrom_max l 0 0 xs
  have e : max (0 : Int) 0 = 0 := by omega
  rw [e] at h
  unfold hi
  omega
theorem hi_append (l xs ys : List Int) : hi l (xs ++ ys) = max (hi l xs) (hi l ys) := by
  have h0 := hi_ge l xs
  unfold hi at *
  rw [hiFrom_append]
  have e : hiFrom l 0 xs = max (hiFrom l 0 xs) 0 := by omega
  rw [e, hiFrom_max, ← e]
theorem hi_bd (l xs : List Int) (m : Int) (hm : 0 ≤ m) (h : ∀ j, l.getD j 0 ≤ m) : hi l xs ≤ m := by
  unfold hi
  have key : ∀ n, n ≤ m → hiFrom l n xs ≤ m := by
    induction xs with
    | nil => intro n hn; exact hn
    | cons y r ih => intro n hn; exact ih _ (by have := h (y / 2).toNat; omega)
  exact key 0 hm
def depthZ (i : Int) (ns : List Int) (gs : List (Int × Int)) (os : List Int) : Int :=
  if validB i ns gs os = true then max (hi (levels gs (1 + i + ns.length).toNat) ns) (hi (levels gs (1 + i + ns.length).toNat) os) else -1
theorem depth_t {i : Int} {ns : List Int} {gs : List (Int × Int)} {os : List Int} (h : validB i ns gs os = true) : depthZ i ns gs os = max (hi (levels gs (1 + i + ns.length).toNat) ns) (hi (levels gs (1 + i + ns.length).toNat) os) := by rw [depthZ, if_pos h]
theorem depth_f {i : Int} {ns : List Int} {gs : List (Int × Int)} {os : List Int} (h : validB i ns gs os = false) : depthZ i ns gs os = -1 := by rw [depthZ, if_neg (by rw [h]; decide)]
end Circ
/- Plain mathematics of simulation: values of literals and of all variables, one clock cycle, a run; no program. -/
namespace Circ
def litV (v : List Bool) (lit : Int) : Bool := v.getD (lit / 2).toNat false != (lit % 2 == 1)
def vals : List (Int × Int) → List Bool → List Bool
  | [], v => v
  | g :: r, v => vals r (v ++ [litV v g.1 && litV v g.2])
theorem vals_pre (gs : List (Int × Int)) (v : List Bool) : ∃ t, vals gs v = v ++ t ∧ t.length = gs.length := by
  induction gs generalizing v with
  | nil => exact ⟨[], by simp [vals], rfl⟩
  | cons g r ih =>
    obtain ⟨t, h, hl⟩ := ih (v ++ [litV v g.1 && litV v g.2])
    exact ⟨(litV v g.1 && litV v g.2) :: t, by rw [vals, h]; simp, by simp [hl]⟩
theorem vals_len (gs : List (Int × Int)) (v : List Bool) : (vals gs v).length = v.length + gs.length := by
  obtain ⟨t, h, hl⟩ := vals_pre gs v
  rw [h, List.length_append, hl]
theorem vals_append (xs ys : List (Int × Int)) (v : List Bool) : vals (xs ++ ys) v = vals ys (vals xs v) := by
  induction xs generalizing v with
  | nil => rfl
  | cons g r ih => rw [List.cons_append, vals, vals, ih]
theorem vals_snoc (gs : List (Int × Int)) (k : Nat) (v : List Bool) (hk : k < gs.length) :
    vals (gs.take (k + 1)) v = vals (gs.take k) v ++ [litV (vals (gs.take k) v) (gs.getD k (0, 0)).1 && litV (vals (gs.take k) v) (gs.getD k (0, 0)).2] := by
  rw [List.take_succ_eq_append_getElem hk, vals_append]
  simp only [vals, List.getD_eq_getElem?_getD, List.getElem?_eq_getElem hk, Option.getD_some]
theorem vals_take_len (gs : List (Int × Int)) (k : Nat) (v : List Bool) (hk : k ≤ gs.length) : (vals (gs.take k) v).length = v.length + k := by
  rw [vals_len, List.length_take, Nat.min_eq_left hk]
theorem vals_full (gs : List (Int × Int)) (k : Nat) (v : List Bool) : ∃ t, vals gs v = vals (gs.take k) v ++ t := by
  obtain ⟨t, h, _⟩ := vals_pre (gs.drop k) (vals (gs.take k) v)
  refine ⟨t, ?_⟩
  rw [← h, ← vals_append, List.take_append_drop]
theorem getD_app_left (a t : List Bool) (j : Nat) (h : j < a.length) : (a ++ t).getD j false = a.getD j false := by
  rw [List.getD_eq_getElem?_getD, List.getD_eq_getElem?_getD, List.getElem?_append_left h]
theorem litV_app (a t : List Bool) (lit : Int) (h0 : 0 ≤ lit) (h : lit < 2 * (a.length : Int)) : litV (a ++ t) lit = litV a lit := by
  unfold litV
  rw [getD_app_left a t _ (by omega)]
/-- The value of gate k in the full list of values. -/
theorem vals_at (gs : List (Int × Int)) (k : Nat) (v : List Bool) (hk : k < gs.length) (hok : gatesOk gs v.length = true) :
    (vals gs v).getD (v.length + k) false = (litV (vals gs v) (gs.getD k (0, 0)).1 && litV (vals gs v) (gs.getD k (0, 0)).2) := by
  obtain ⟨o1, o2⟩ := gatesOk_get hok hk
  obtain ⟨a1, a2⟩ := litOk_inv o1
  obtain ⟨b1, b2⟩ := litOk_inv o2
  obtain ⟨t, ht⟩ := vals_full gs (k + 1) v
  have hl := vals_take_len gs k v (by omega)
  have hs := vals_snoc gs k v hk
  rw [hs] at ht
  rw [ht, List.append_assoc, litV_app _ _ _ a1 (by rw [hl]; omega), litV_app _ _ _ b1 (by rw [hl]; omega), ← List.append_assoc, getD_app_left _ t _ (by simp [hl]), List.getD_eq_getElem?_getD, ← hl]
  simp
theorem vals_low (gs : List (Int × Int)) (v : List Bool) (j : Nat) (h : j < v.length) : (vals gs v).getD j false = v.getD j false := by
  obtain ⟨t, ht, _⟩ := vals_pre gs v
  rw [ht, getD_app_left _ _ _ h]
def litsV (v : List Bool) (xs : List Int) : List Bool := xs.map (litV v)
theorem litsV_len (v : List Bool) (xs : List Int) : (litsV v xs).length = xs.length := by simp [litsV]
theorem litsV_get (v : List Bool) (xs : List Int) (k : Nat) (hk : k < xs.length) : (litsV v xs).getD k false = litV v (xs.getD k 0) := by
  simp [litsV, List.getD_eq_getElem?_getD, hk]
/-- The values of all variables for a state and inputs. -/
def valsOf (gs : List (Int × Int)) (st ins : List Bool) : List Bool := vals gs (false :: (ins ++ st))
def outV (gs : List (Int × Int)) (os : List Int) (st ins : List Bool) : List Bool := litsV (valsOf gs st ins) os
theorem valsOf_len (gs : List (Int × Int)) (st ins : List Bool) : (valsOf gs st ins).length = 1 + ins.length + st.length + gs.length := by
  rw [valsOf, vals_len]; simp; omega
def simV (gs : List (Int × Int)) (os ns : List Int) : List (List Bool) → List Bool → List (List Bool)
  | [], _ => []
  | r :: rs, st => outV gs os st r :: simV gs os ns rs (outV gs ns st r)
/-- The state that rows lead to. -/
def runV (gs : List (Int × Int)) (ns : List Int) : List (List Bool) → List Bool → List Bool
  | [], st => st
  | r :: rs, st => runV gs ns rs (outV gs ns st r)
theorem runV_append (gs : List (Int × Int)) (ns : List Int) (xs ys : List (List Bool)) (st : List Bool) : runV gs ns (xs ++ ys) st = runV gs ns ys (runV gs ns xs st) := by
  induction xs generalizing st with
  | nil => rfl
  | cons r rs ih => exact ih _
theorem simV_append (gs : List (Int × Int)) (os ns : List Int) (xs ys : List (List Bool)) (st : List Bool) : simV gs os ns (xs ++ ys) st = simV gs os ns xs st ++ simV gs os ns ys (runV gs ns xs st) := by
  induction xs generalizing st with
  | nil => rfl
  | cons r rs ih => simp only [List.cons_append, simV, runV, ih]
theorem simV_len (gs : List (Int × Int)) (os ns : List Int) (rs : List (List Bool)) (st : List Bool) : (simV gs os ns rs st).length = rs.length := by
  induction rs generalizing st with
  | nil => rfl
  | cons r rs ih => simp [simV, ih]
theorem simV_take (gs : List (Int × Int)) (os ns : List Int) (rs : List (List Bool)) (st : List Bool) (k : Nat) : (simV gs os ns rs st).take k = simV gs os ns (rs.take k) st := by
  induction rs generalizing st k with
  | nil => simp [simV]
  | cons r rs ih =>
    cases k with
    | zero => rfl
    | succ k => simp only [simV, List.take_succ_cons, ih]
theorem runV_step (gs : List (Int × Int)) (ns : List Int) (rs : List (List Bool)) (st : List Bool) (k : Nat) (hk : k < rs.length) : runV gs ns (rs.take (k + 1)) st = outV gs ns (runV gs ns (rs.take k) st) (rs.getD k []) := by
  rw [List.take_succ_eq_append_getElem hk, runV_append]
  simp only [runV, List.getD_eq_getElem?_getD, List.getElem?_eq_getElem hk, Option.getD_some]
theorem simV_step (gs : List (Int × Int)) (os ns : List Int) (rs : List (List Bool)) (st : List Bool) (k : Nat) (hk : k < rs.length) : simV gs os ns (rs.take (k + 1)) st = simV gs os ns (rs.take k) st ++ [outV gs os (runV gs ns (rs.take k) st) (rs.getD k [])] := by
  rw [List.take_succ_eq_append_getElem hk, simV_append]
  simp only [simV, List.getD_eq_getElem?_getD, List.getElem?_eq_getElem hk, Option.getD_some]
theorem outV_len (gs : List (Int × Int)) (os : List Int) (st ins : List Bool) : (outV gs os st ins).length = os.length := litsV_len _ _
theorem runV_len (gs : List (Int × Int)) (ns : List Int) (rs : List (List Bool)) (st : List Bool) (h : st.length = ns.length) : (runV gs ns rs st).length = ns.length := by
  induction rs generalizing st with
  | nil => exact h
  | cons r rs ih => exact ih _ (outV_len _ _ _ _)

/-- A machine word whose bits are the values of a list. -/
def Bits (m : Nat) (L : List Bool) : Prop := m < 18446744073709551616 ∧ ∀ j, m.testBit j = L.getD j false
theorem getD_snoc (L : List Bool) (b : Bool) (j : Nat) : (L ++ [b]).getD j false = if j < L.length then L.getD j false else if j = L.length then b else false := by
  rw [List.getD_eq_getElem?_getD, List.getD_eq_getElem?_getD, List.getElem?_append]
  split
  · rfl
  · split
    · next h => subst h; simp
    · rw [List.getElem?_eq_none (by simp; omega)]; rfl
theorem Bits.one : Bits 0 [false] := ⟨by omega, fun j => by cases j <;> simp⟩
theorem Bits.snocF {m : Nat} {L : List Bool} (h : Bits m L) : Bits m (L ++ [false]) := ⟨h.1, fun j => by
  rw [h.2 j, getD_snoc]
  split
  · rfl
  · rw [List.getD_eq_getElem?_getD, List.getElem?_eq_none (by omega)]; simp⟩
theorem Bits.snocT {m : Nat} {L : List Bool} (h : Bits m L) (hl : L.length < 64) : Bits (m ||| 2 ^ L.length) (L ++ [true]) := by
  refine ⟨?_, fun j => ?_⟩
  · have h1 := h.1
    have h2 : 2 ^ L.length < 2 ^ 64 := Nat.pow_lt_pow_right (by omega) hl
    have := Nat.or_lt_two_pow (n := 64) (x := m) (by omega) h2
    omega
  · rw [Nat.testBit_or, Nat.testBit_two_pow, h.2 j, getD_snoc]
    by_cases h1 : j < L.length
    · rw [if_pos h1]
      have : ¬ L.length = j := by omega
      simp [this]
    · rw [if_neg h1]
      by_cases h2 : j = L.length
      · simp [h2]
      · have : ¬ L.length = j := by omega
        rw [if_neg h2, List.getD_eq_getElem?_getD, List.getElem?_eq_none (by omega)]
        simp [this]
theorem Bits.snoc {m : Nat} {L : List Bool} (h : Bits m L) (hl : L.length < 64) (b : Bool) : Bits (if b = true then m ||| 2 ^ L.length else m) (L ++ [b]) := by
  cases b
  · exact h.snocF
  · exact h.snocT hl
end Circ
/- Plain mathematics of optimization: structural hashing, unused gates, the normal form; no program. -/
namespace Opt
abbrev G := Nat × Nat
def neg1 (x : Nat) : Nat := if x % 2 = 0 then x + 1 else x - 1
/-- A literal, complemented if p is not 0. -/
def xl (x p : Nat) : Nat := if p = 0 then x else neg1 x
theorem xl_var (x p : Nat) : xl x p / 2 = x / 2 := by
  unfold xl neg1
  split
  · rfl
  · split <;> omega
/-- The literal of the rebuilt circuit for a literal: m holds the literal of every variable. -/
def mapL (m : List Nat) (l : Nat) : Nat := xl (m.getD (l / 2) 0) (l % 2)
theorem mapL_var (m : List Nat) (l : Nat) : mapL m l / 2 = m.getD (l / 2) 0 / 2 := xl_var _ _
theorem xl_even (v p : Nat) (hp : p < 2) : xl (2 * v) p = 2 * v + p := by
  unfold xl neg1
  split
  · omega
  · rw [if_pos (by omega)]; omega

def at_ (x : List G) (j : Nat) : G := x.getD j (0, 0)
theorem at_lt {x y : List G} {j : Nat} (h : j < x.length) : at_ (x ++ y) j = at_ x j := by
  simp [at_, List.getD_eq_getElem?_getD, List.getElem?_append_left h]
theorem at_eq (x : List G) (g : G) : at_ (x ++ [g]) x.length = g := by
  simp [at_, List.getD_eq_getElem?_getD]
theorem at_take {x : List G} {j k : Nat} (h : j < k) : at_ (x.take k) j = at_ x j := by
  simp [at_, List.getD_eq_getElem?_getD, h]

/-- The place of a gate, the length if it is not there. -/
def idx : List G → G → Nat
  | [], _ => 0
  | g :: r, p => if g = p then 0 else idx r p + 1
theorem idx_le (x : List G) (p : G) : idx x p ≤ x.length := by
  induction x with
  | nil => exact Nat.le_refl _
  | cons g r ih => unfold idx; split <;> simp; omega
theorem idx_at {x : List G} {p : G} (h : idx x p < x.length) : at_ x (idx x p) = p := by
  induction x with
  | nil => simp at h
  | cons g r ih =>
    unfold idx at h ⊢
    split
    · next e => subst e; rfl
    · next e =>
      rw [if_neg e] at h
      have := ih (by simpa using h)
      simpa [at_, List.getD_eq_getElem?_getD] using this
theorem idx_ne {x : List G} {p : G} {j : Nat} (h : j < idx x p) : at_ x j ≠ p := by
  induction x generalizing j with
  | nil => simp [idx] at h
  | cons g r ih =>
    unfold idx at h
    split at h
    · omega
    · next e =>
      cases j with
      | zero => simpa [at_] using e
      | succ j =>
        have := ih (j := j) (by omega)
        simpa [at_, List.getD_eq_getElem?_getD] using this

/-- The conjunction of two literals over the gates built so far. -/
def and3 (f : Nat) (x : List G) (a b : Nat) : List G × Nat :=
  if min a b = 0 ∨ (min a b + 1 = max a b ∧ min a b % 2 = 0) then (x, 0)
  else if min a b = 1 ∨ min a b = max a b then (x, max a b)
  else if idx x (min a b, max a b) < x.length then (x, 2 * (f + idx x (min a b, max a b)))
  else (x ++ [(min a b, max a b)], 2 * (f + x.length))

/-- The normal form of a list of gates whose first variable is f. -/
structure Norm (f : Nat) (x : List G) : Prop where
  low : ∀ j, j < x.length → 2 ≤ (at_ x j).1
  ord : ∀ j, j < x.length → (at_ x j).1 < (at_ x j).2
  dif : ∀ j, j < x.length → (at_ x j).1 / 2 ≠ (at_ x j).2 / 2
  ref : ∀ j, j < x.length → (at_ x j).2 / 2 < f + j
  inj : ∀ j l, j < l → l < x.length → at_ x j ≠ at_ x l
theorem Norm.nil (f : Nat) : Norm f [] := ⟨fun j h => absurd h (by simp), fun j h => absurd h (by simp), fun j h => absurd h (by simp), fun j h => absurd h (by simp), fun j l _ h => absurd h (by simp)⟩
theorem Norm.snoc {f : Nat} {x : List G} {g : G} (h : Norm f x) (h1 : 2 ≤ g.1) (h2 : g.1 < g.2) (h3 : g.1 / 2 ≠ g.2 / 2) (h4 : g.2 / 2 < f + x.length) (h5 : ∀ j, j < x.length → at_ x j ≠ g) : Norm f (x ++ [g]) := by
  have key : ∀ (P : Nat → G → Prop), (∀ j, j < x.length → P j (at_ x j)) → P x.length g → ∀ j, j < (x ++ [g]).length → P j (at_ (x ++ [g]) j) := fun P hp hg j hj => by
    rw [List.length_append, List.length_singleton] at hj
    by_cases e : j = x.length
    · subst e; rw [at_eq]; exact hg
    · rw [at_lt (by omega)]; exact hp j (by omega)
  refine ⟨key (fun _ g => 2 ≤ g.1) h.low h1, key (fun _ g => g.1 < g.2) h.ord h2, key (fun _ g => g.1 / 2 ≠ g.2 / 2) h.dif h3, key (fun j g => g.2 / 2 < f + j) h.ref h4, fun j l hj hl => ?_⟩
  rw [List.length_append, List.length_singleton] at hl
  rw [at_lt (by omega : j < x.length)]
  by_cases e : l = x.length
  · subst e; rw [at_eq]; exact h5 j hj
  · rw [at_lt (by omega)]; exact h.inj j l hj (by omega)

theorem and3_norm {f : Nat} {x : List G} {a b : Nat} (h : Norm f x) (ha : a / 2 < f + x.length) (hb : b / 2 < f + x.length) (_hf : 0 < f) :
    Norm f (and3 f x a b).1 ∧ (and3 f x a b).2 / 2 < f + (and3 f x a b).1.length ∧ (∃ t, (and3 f x a b).1 = x ++ t ∧ t.length ≤ 1) := by
  unfold and3
  split
  · exact ⟨h, by simp; omega, [], by simp, by simp⟩
  · next e1 =>
    split
    · exact ⟨h, by simp only []; omega, [], by simp, by simp⟩
    · next e2 =>
      split
      · next e3 => exact ⟨h, by simp only []; omega, [], by simp, by simp⟩
      · next e3 =>
        have hi := idx_le x (min a b, max a b)
        refine ⟨h.snoc (by simp only []; omega) (by simp only []; omega) (by simp only []; omega) (by simp only []; omega) (fun j hj => idx_ne (by omega)), by simp only [List.length_append, List.length_singleton]; omega, _, rfl, by simp⟩

/-- One gate of the rebuilding: the gates so far and the literals of the variables so far. -/
def bstep (share : Bool) (f : Nat) (s : List G × List Nat) (g : G × Bool) : List G × List Nat :=
  if g.2 = true then
    if share = true then ((and3 f s.1 (mapL s.2 g.1.1) (mapL s.2 g.1.2)).1, s.2 ++ [(and3 f s.1 (mapL s.2 g.1.1) (mapL s.2 g.1.2)).2])
    else (s.1 ++ [(mapL s.2 g.1.1, mapL s.2 g.1.2)], s.2 ++ [2 * (f + s.1.length)])
  else (s.1, s.2 ++ [0])
def evens (n : Nat) : List Nat := (List.range n).map (2 * ·)
theorem evens_len (n : Nat) : (evens n).length = n := by simp [evens]
theorem evens_get {n v : Nat} (h : v < n) : (evens n).getD v 0 = 2 * v := by simp [evens, List.getD_eq_getElem?_getD, h]
theorem evens_succ (n : Nat) : evens (n + 1) = evens n ++ [2 * n] := by simp [evens, List.range_succ]
theorem mapL_evens {n l : Nat} (h : l / 2 < n) : mapL (evens n) l = l := by
  unfold mapL
  rw [evens_get h, xl_even _ _ (Nat.mod_lt _ (by omega))]
  omega
/-- The state behind k gates. -/
def built (share : Bool) (f : Nat) (gs : List (G × Bool)) : List G × List Nat := gs.foldl (bstep share f) ([], evens f)
theorem built_snoc (share : Bool) (f : Nat) (gs : List (G × Bool)) (k : Nat) (hk : k < gs.length) : built share f (gs.take (k + 1)) = bstep share f (built share f (gs.take k)) (gs.getD k ((0, 0), false)) := by
  unfold built
  rw [List.take_succ_eq_append_getElem hk, List.foldl_append]
  simp [List.getD_eq_getElem?_getD, hk]

/-- What the sharing rebuilding keeps. -/
structure Good (f : Nat) (k : Nat) (s : List G × List Nat) : Prop where
  norm : Norm f s.1
  len : s.2.length = f + k
  le : s.1.length ≤ k
  var : ∀ v, v < f + k → s.2.getD v 0 / 2 < f + s.1.length
  base : ∀ v, v < f → s.2.getD v 0 = 2 * v
theorem getD_app_lt {m : List Nat} {z v : Nat} (h : v < m.length) : (m ++ [z]).getD v 0 = m.getD v 0 := by
  simp [List.getD_eq_getElem?_getD, List.getElem?_append_left h]
theorem getD_app_eq (m : List Nat) (z : Nat) : (m ++ [z]).getD m.length 0 = z := by
  simp [List.getD_eq_getElem?_getD]
theorem Good.step {f k : Nat} {s : List G × List Nat} (h : Good f k s) (hf : 0 < f) (g : G × Bool) (h1 : g.1.1 / 2 < f + k) (h2 : g.1.2 / 2 < f + k) : Good f (k + 1) (bstep true f s g) := by
  have hl := h.len
  have snoc : ∀ (x' : List G) (z : Nat), Norm f x' → s.1.length ≤ x'.length → x'.length ≤ s.1.length + 1 → z / 2 < f + x'.length → Good f (k + 1) (x', s.2 ++ [z]) := fun x' z hn hle hle2 hz => by
    refine ⟨hn, by simp [hl]; omega, by have := h.le; simp only []; omega, fun v hv => ?_, fun v hv => ?_⟩
    · by_cases e : v = f + k
      · subst e
        show (s.2 ++ [z]).getD (f + k) 0 / 2 < _
        rw [← hl, getD_app_eq]
        exact hz
      · show (s.2 ++ [z]).getD v 0 / 2 < _
        rw [getD_app_lt (by omega)]
        have := h.var v (by omega)
        simp only []
        omega
    · show (s.2 ++ [z]).getD v 0 = _
      rw [getD_app_lt (by omega)]
      exact h.base v hv
  unfold bstep
  split
  · simp only [if_true]
    have ha : mapL s.2 g.1.1 / 2 < f + s.1.length := by rw [mapL_var]; exact h.var _ h1
    have hb : mapL s.2 g.1.2 / 2 < f + s.1.length := by rw [mapL_var]; exact h.var _ h2
    obtain ⟨n1, n2, t, n3, n4⟩ := and3_norm h.norm ha hb hf
    have hl3 : (and3 f s.1 (mapL s.2 g.1.1) (mapL s.2 g.1.2)).1.length = s.1.length + t.length := by rw [n3, List.length_append]
    exact snoc _ _ n1 (by omega) (by omega) n2
  · exact snoc _ 0 h.norm (Nat.le_refl _) (by omega) (by simp; omega)
/-- The gates refer to earlier variables. -/
def gOk (f : Nat) (gs : List (G × Bool)) : Prop := ∀ k, k < gs.length → (gs.getD k ((0, 0), false)).1.1 / 2 < f + k ∧ (gs.getD k ((0, 0), false)).1.2 / 2 < f + k
theorem built_good {f : Nat} (hf : 0 < f) (gs : List (G × Bool)) (hg : gOk f gs) : ∀ k, k ≤ gs.length → Good f k (built true f (gs.take k)) := by
  intro k
  induction k with
  | zero => intro _; exact ⟨Norm.nil f, by simp [built, evens_len], by simp [built], fun v hv => by show (evens f).getD v 0 / 2 < f + 0; rw [evens_get (by omega)]; omega, fun v hv => by show (evens f).getD v 0 = _; exact evens_get hv⟩
  | succ k ih =>
    intro hk
    rw [built_snoc _ _ _ _ (by omega)]
    exact (ih (by omega)).step hf _ (hg k (by omega)).1 (hg k (by omega)).2

/-- How many of the first numbers are marked. -/
def rank (u : Nat → Bool) : Nat → Nat
  | 0 => 0
  | t + 1 => rank u t + (if u t = true then 1 else 0)
theorem rank_le (u : Nat → Bool) (t : Nat) : rank u t ≤ t := by
  induction t with
  | zero => exact Nat.le_refl _
  | succ t ih => unfold rank; split <;> omega
theorem rank_mono (u : Nat → Bool) {s t : Nat} (h : s ≤ t) : rank u s ≤ rank u t := by
  induction t with
  | zero => have : s = 0 := by omega
            subst this; exact Nat.le_refl _
  | succ t ih =>
    by_cases e : s = t + 1
    · subst e; exact Nat.le_refl _
    · have h1 := ih (by omega)
      have h2 : rank u (t + 1) = rank u t + (if u t = true then 1 else 0) := rfl
      rw [h2]
      split <;> omega
theorem rank_lt {u : Nat → Bool} {s t : Nat} (h : s < t) (hu : u s = true) : rank u s < rank u t := by
  have h1 := rank_mono u (show s + 1 ≤ t by omega)
  have h2 : rank u (s + 1) = rank u s + 1 := by simp [rank, hu]
  omega
theorem rank_surj (u : Nat → Bool) (k j : Nat) (h : j < rank u k) : ∃ t, t < k ∧ u t = true ∧ rank u t = j := by
  induction k with
  | zero => simp [rank] at h
  | succ k ih =>
    by_cases hj : j < rank u k
    · obtain ⟨t, h1, h2, h3⟩ := ih hj
      exact ⟨t, by omega, h2, h3⟩
    · unfold rank at h
      split at h
      · next e => exact ⟨k, by omega, e, by omega⟩
      · omega

section removal
variable (f : Nat) (gs : List (G × Bool))
def U (t : Nat) : Bool := (gs.getD t ((0, 0), false)).2
def A (t : Nat) : Nat := (gs.getD t ((0, 0), false)).1.1
def B (t : Nat) : Nat := (gs.getD t ((0, 0), false)).1.2
def ren (v : Nat) : Nat := if v < f then v else f + rank (U gs) (v - f)
def rl (l : Nat) : Nat := 2 * ren f gs (l / 2) + l % 2
/-- A variable that stays. -/
def live (v : Nat) : Prop := v < f ∨ (f ≤ v ∧ U gs (v - f) = true)
theorem ren_lt {v v' : Nat} (h : v < v') (hl : live f gs v) : ren f gs v < ren f gs v' := by
  unfold ren
  rcases hl with hl | ⟨hl, hu⟩
  · rw [if_pos hl]
    split <;> omega
  · rw [if_neg (by omega), if_neg (by omega)]
    have := rank_lt (u := U gs) (s := v - f) (t := v' - f) (by omega) hu
    omega
theorem rl_inj {l l' : Nat} (h : live f gs (l / 2)) (h' : live f gs (l' / 2)) (e : rl f gs l = rl f gs l') : l = l' := by
  unfold rl at e
  have hv : l / 2 = l' / 2 := by
    rcases Nat.lt_trichotomy (l / 2) (l' / 2) with h1 | h1 | h1
    · have := ren_lt f gs h1 h; omega
    · exact h1
    · have := ren_lt f gs h1 h'; omega
  omega
theorem rl_var (l : Nat) : rl f gs l / 2 = ren f gs (l / 2) := by unfold rl; omega

/-- Every gate that stays is wanted by an output or by a later gate that stays, and no other gate is. -/
structure UsedOf (roots : List Nat) : Prop where
  root : ∀ t, t < gs.length → (∃ r, r ∈ roots ∧ r / 2 = f + t) → U gs t = true
  op : ∀ t t', t < t' → t' < gs.length → U gs t' = true → (A gs t' / 2 = f + t ∨ B gs t' / 2 = f + t) → U gs t = true
  why : ∀ t, t < gs.length → U gs t = true → (∃ r, r ∈ roots ∧ r / 2 = f + t) ∨ ∃ t', t < t' ∧ t' < gs.length ∧ U gs t' = true ∧ (A gs t' / 2 = f + t ∨ B gs t' / 2 = f + t)
theorem UsedOf.live {roots : List Nat} (h : UsedOf f gs roots) (hg : gOk f gs) {t : Nat} (ht : t < gs.length) (hu : U gs t = true) : live f gs (A gs t / 2) ∧ live f gs (B gs t / 2) := by
  obtain ⟨g1, g2⟩ := hg t ht
  have g1' : A gs t / 2 < f + t := g1
  have g2' : B gs t / 2 < f + t := g2
  constructor
  · by_cases e : A gs t / 2 < f
    · exact .inl e
    · exact .inr ⟨by omega, h.op _ t (by omega) ht hu (.inl (by omega))⟩
  · by_cases e : B gs t / 2 < f
    · exact .inl e
    · exact .inr ⟨by omega, h.op _ t (by omega) ht hu (.inr (by omega))⟩

/-- What the removal keeps. -/
structure Rem (k : Nat) (s : List G × List Nat) : Prop where
  len : s.2.length = f + k
  map : ∀ v, v < f + k → live f gs v → s.2.getD v 0 = 2 * ren f gs v
  sz : s.1.length = rank (U gs) k
  gate : ∀ t, t < k → U gs t = true → at_ s.1 (rank (U gs) t) = (rl f gs (A gs t), rl f gs (B gs t))
theorem Rem.lit {k : Nat} {s : List G × List Nat} (h : Rem f gs k s) {l : Nat} (hl : l / 2 < f + k) (hv : live f gs (l / 2)) : mapL s.2 l = rl f gs l := by
  unfold mapL rl
  rw [h.map _ hl hv, xl_even _ _ (Nat.mod_lt _ (by omega))]
theorem Rem.step {k : Nat} {s : List G × List Nat} {roots : List Nat} (hU : UsedOf f gs roots) (hg : gOk f gs) (hk : k < gs.length) (h : Rem f gs k s) : Rem f gs (k + 1) (bstep false f s (gs.getD k ((0, 0), false))) := by
  have hl := h.len
  have ext : ∀ z, (live f gs (f + k) → z = 2 * ren f gs (f + k)) → ∀ v, v < f + (k + 1) → live f gs v → (s.2 ++ [z]).getD v 0 = 2 * ren f gs v := fun z hz v hv hlv => by
    by_cases e : v = f + k
    · subst e
      rw [← hl, getD_app_eq, hl]
      exact hz hlv
    · rw [getD_app_lt (by omega)]
      exact h.map v (by omega) hlv
  have hren : ren f gs (f + k) = f + rank (U gs) k := by
    unfold ren
    rw [if_neg (by omega), show f + k - f = k by omega]
  unfold bstep
  by_cases hu : U gs k = true
  · have hu' : (gs.getD k ((0, 0), false)).2 = true := hu
    rw [if_pos hu', if_neg (by simp)]
    obtain ⟨l1, l2⟩ := hU.live f gs hg hk hu
    obtain ⟨o1, o2⟩ := hg k hk
    refine ⟨by simp [hl]; omega, ext _ (fun _ => by rw [hren, h.sz]), ?_, fun t ht hut => ?_⟩
    · show (s.1 ++ [_]).length = _
      rw [List.length_append, List.length_singleton, h.sz]
      simp [rank, hu]
    · show at_ (s.1 ++ [_]) _ = _
      by_cases e : t = k
      · subst e
        rw [← h.sz, at_eq]
        rw [show mapL s.2 (gs.getD t ((0, 0), false)).1.1 = rl f gs (A gs t) from h.lit f gs o1 l1, show mapL s.2 (gs.getD t ((0, 0), false)).1.2 = rl f gs (B gs t) from h.lit f gs o2 l2]
      · rw [at_lt (by rw [h.sz]; exact rank_lt (by omega) hut)]
        exact h.gate t (by omega) hut
  · have hu' : ¬ (gs.getD k ((0, 0), false)).2 = true := hu
    rw [if_neg hu']
    refine ⟨by simp [hl]; omega, ext _ (fun hlv => ?_), ?_, fun t ht hut => ?_⟩
    · rcases hlv with hlv | ⟨_, hlv⟩
      · omega
      · rw [show f + k - f = k by omega] at hlv
        exact absurd hlv hu
    · show s.1.length = _
      rw [h.sz]
      simp [rank, hu]
    · by_cases e : t = k
      · subst e; exact absurd hut hu
      · exact h.gate t (by omega) hut
theorem built_rem {roots : List Nat} (hU : UsedOf f gs roots) (hg : gOk f gs) : ∀ k, k ≤ gs.length → Rem f gs k (built false f (gs.take k)) := by
  intro k
  induction k with
  | zero =>
    intro _
    refine ⟨by simp [built, evens_len], fun v hv hlv => ?_, by simp [built, rank], fun t ht => absurd ht (by omega)⟩
    show (evens f).getD v 0 = _
    rw [evens_get (by omega), ren, if_pos (by omega)]
  | succ k ih =>
    intro hk
    rw [built_snoc _ _ _ _ (by omega)]
    exact (ih (by omega)).step f gs hU hg (by omega)

/-- The normal form stays when unused gates go. -/
theorem rem_norm {s : List G × List Nat} {roots : List Nat} (h : Rem f gs gs.length s) (hU : UsedOf f gs roots) (hg : gOk f gs) (hn : Norm f (gs.map Prod.fst)) (hf : 0 < f) : Norm f s.1 := by
  have hat : ∀ t, t < gs.length → at_ (gs.map Prod.fst) t = (A gs t, B gs t) := fun t ht => by
    simp [at_, A, B, List.getD_eq_getElem?_getD, ht]
  have hlen : (gs.map Prod.fst).length = gs.length := by simp
  have get : ∀ j, j < s.1.length → ∃ t, t < gs.length ∧ U gs t = true ∧ rank (U gs) t = j ∧ at_ s.1 j = (rl f gs (A gs t), rl f gs (B gs t)) := fun j hj => by
    rw [h.sz] at hj
    obtain ⟨t, h1, h2, h3⟩ := rank_surj _ _ _ hj
    exact ⟨t, h1, h2, h3, by rw [← h3]; exact h.gate t h1 h2⟩
  refine ⟨fun j hj => ?_, fun j hj => ?_, fun j hj => ?_, fun j hj => ?_, fun j l hjl hl => ?_⟩
  · obtain ⟨t, h1, h2, h3, h4⟩ := get j hj
    have := hn.low t (by omega)
    rw [hat t h1] at this
    obtain ⟨l1, l2⟩ := hU.live f gs hg h1 h2
    rw [h4]
    have h0 : ren f gs 0 < ren f gs (A gs t / 2) := ren_lt f gs (by simp only [] at this; omega) (.inl hf)
    show 2 ≤ rl f gs (A gs t)
    unfold rl
    omega
  · obtain ⟨t, h1, h2, h3, h4⟩ := get j hj
    have a := hn.ord t (by omega)
    have b := hn.dif t (by omega)
    rw [hat t h1] at a b
    obtain ⟨l1, l2⟩ := hU.live f gs hg h1 h2
    rw [h4]
    have := ren_lt f gs (v := A gs t / 2) (v' := B gs t / 2) (by simp only [] at a b; omega) l1
    show rl f gs (A gs t) < rl f gs (B gs t)
    unfold rl
    omega
  · obtain ⟨t, h1, h2, h3, h4⟩ := get j hj
    have a := hn.ord t (by omega)
    have b := hn.dif t (by omega)
    rw [hat t h1] at a b
    obtain ⟨l1, l2⟩ := hU.live f gs hg h1 h2
    rw [h4]
    have := ren_lt f gs (v := A gs t / 2) (v' := B gs t / 2) (by simp only [] at a b; omega) l1
    show rl f gs (A gs t) / 2 ≠ rl f gs (B gs t) / 2
    rw [rl_var, rl_var]
    omega
  · obtain ⟨t, h1, h2, h3, h4⟩ := get j hj
    have a := hn.ref t (by omega)
    rw [hat t h1] at a
    obtain ⟨l1, l2⟩ := hU.live f gs hg h1 h2
    rw [h4]
    have := ren_lt f gs (v := B gs t / 2) (v' := f + t) a l2
    have hr : ren f gs (f + t) = f + j := by unfold ren; rw [if_neg (by omega), show f + t - f = t by omega, h3]
    show rl f gs (B gs t) / 2 < f + j
    rw [rl_var]
    omega
  · obtain ⟨t, h1, h2, h3, h4⟩ := get j (by omega)
    obtain ⟨t', h1', h2', h3', h4'⟩ := get l hl
    rw [h4, h4']
    obtain ⟨l1, l2⟩ := hU.live f gs hg h1 h2
    obtain ⟨l1', l2'⟩ := hU.live f gs hg h1' h2'
    intro e
    injection e with e1 e2
    have ea := rl_inj f gs l1 l1' e1
    have eb := rl_inj f gs l2 l2' e2
    rcases Nat.lt_trichotomy t t' with ht | ht | ht
    · exact hn.inj t t' ht (by omega) (by rw [hat t h1, hat t' h1', ea, eb])
    · subst ht; omega
    · exact hn.inj t' t ht (by omega) (by rw [hat t h1, hat t' h1', ea, eb])
end removal
end Opt
/- Plain mathematics of optimization: which gates are used, the optimized circuit, its normal form, and that optimizing again changes nothing. -/
namespace Opt
/-- Which gates are used, the last gate first: a gate is if a root, or an operand of a used gate, is its literal. -/
def needRev (f : Nat) : List G → List Nat → List Bool
  | [], _ => []
  | g :: r, roots => (roots.any fun x => x / 2 == f + r.length) :: needRev f r (if (roots.any fun x => x / 2 == f + r.length) = true then g.1 :: g.2 :: roots else roots)
theorem needRev_len (f : Nat) (gs : List G) (roots : List Nat) : (needRev f gs roots).length = gs.length := by
  induction gs generalizing roots with
  | nil => rfl
  | cons g r ih => simp [needRev, ih]
def used (f : Nat) (gs : List G) (roots : List Nat) : List Bool := (needRev f gs.reverse roots).reverse
theorem used_len (f : Nat) (gs : List G) (roots : List Nat) : (used f gs roots).length = gs.length := by simp [used, needRev_len]
theorem used_snoc (f : Nat) (gs : List G) (g : G) (roots : List Nat) : used f (gs ++ [g]) roots = used f gs (if (roots.any fun x => x / 2 == f + gs.length) = true then g.1 :: g.2 :: roots else roots) ++ [roots.any fun x => x / 2 == f + gs.length] := by
  simp [used, needRev]

theorem zip_len (gs : List G) (u : List Bool) (h : u.length = gs.length) : (gs.zip u).length = gs.length := by simp [h]
theorem zip_A (gs : List G) (u : List Bool) (h : u.length = gs.length) {t : Nat} (ht : t < gs.length) : A (gs.zip u) t = (at_ gs t).1 := by
  simp [A, at_, List.getD_eq_getElem?_getD, ht, h, List.getElem_zip]
theorem zip_B (gs : List G) (u : List Bool) (h : u.length = gs.length) {t : Nat} (ht : t < gs.length) : B (gs.zip u) t = (at_ gs t).2 := by
  simp [B, at_, List.getD_eq_getElem?_getD, ht, h, List.getElem_zip]
theorem zip_U (gs : List G) (u : List Bool) (h : u.length = gs.length) {t : Nat} (ht : t < gs.length) : U (gs.zip u) t = u.getD t false := by
  simp [U, List.getD_eq_getElem?_getD, ht, h, List.getElem_zip]
theorem zip_fst (gs : List G) (u : List Bool) (h : u.length = gs.length) : (gs.zip u).map Prod.fst = gs := by
  rw [List.map_fst_zip (by omega)]

/-- A list of marks says which gates are used. -/
structure Use (f : Nat) (gs : List G) (roots : List Nat) (u : List Bool) : Prop where
  len : u.length = gs.length
  root : ∀ t, t < gs.length → (∃ r, r ∈ roots ∧ r / 2 = f + t) → u.getD t false = true
  op : ∀ t t', t < t' → t' < gs.length → u.getD t' false = true → ((at_ gs t').1 / 2 = f + t ∨ (at_ gs t').2 / 2 = f + t) → u.getD t false = true
  why : ∀ t, t < gs.length → u.getD t false = true → (∃ r, r ∈ roots ∧ r / 2 = f + t) ∨ ∃ t', t < t' ∧ t' < gs.length ∧ u.getD t' false = true ∧ ((at_ gs t').1 / 2 = f + t ∨ (at_ gs t').2 / 2 = f + t)
theorem Use.of {f : Nat} {gs : List G} {roots : List Nat} {u : List Bool} (h : Use f gs roots u) : UsedOf f (gs.zip u) roots := by
  have hl := zip_len gs u h.len
  refine ⟨fun t ht hr => ?_, fun t t' htt ht hu ho => ?_, fun t ht hu => ?_⟩
  · rw [hl] at ht
    rw [zip_U gs u h.len ht]; exact h.root t ht hr
  · rw [hl] at ht
    rw [zip_A gs u h.len ht, zip_B gs u h.len ht] at ho
    rw [zip_U gs u h.len ht] at hu
    rw [zip_U gs u h.len (by omega)]; exact h.op t t' htt ht hu ho
  · rw [hl] at ht
    rw [zip_U gs u h.len ht] at hu
    rcases h.why t ht hu with h1 | ⟨t', h1, h2, h3, h4⟩
    · exact .inl h1
    · exact .inr ⟨t', h1, by omega, by rw [zip_U gs u h.len h2]; exact h3, by rw [zip_A gs u h.len h2, zip_B gs u h.len h2]; exact h4⟩
/-- There is but one such list. -/
theorem Use.uniq {f : Nat} {gs : List G} {roots : List Nat} {u u' : List Bool} (h : Use f gs roots u) (h' : Use f gs roots u') : u = u' := by
  have key : ∀ d t, t < gs.length → gs.length - t ≤ d → u.getD t false = u'.getD t false := by
    intro d
    induction d with
    | zero => intro t ht hd; omega
    | succ d ih =>
      intro t ht hd
      have imp : ∀ (v v' : List Bool), Use f gs roots v → Use f gs roots v' → (∀ t', t < t' → t' < gs.length → v.getD t' false = v'.getD t' false) → v.getD t false = true → v'.getD t false = true := fun v v' hv hv' he hvt => by
        rcases hv.why t ht hvt with h1 | ⟨t', h1, h2, h3, h4⟩
        · exact hv'.root t ht h1
        · exact hv'.op t t' h1 h2 (by rw [← he t' h1 h2]; exact h3) h4
      have e1 := imp u u' h h' (fun t' h1 h2 => ih t' h2 (by omega))
      have e2 := imp u' u h' h (fun t' h1 h2 => (ih t' h2 (by omega)).symm)
      cases hx : u.getD t false <;> cases hy : u'.getD t false
      · rfl
      · exact absurd (e2 hy) (by rw [hx]; simp)
      · exact absurd (e1 hx) (by rw [hy]; simp)
      · rfl
  refine List.ext_getElem (by rw [h.len, h'.len]) (fun t h1 h2 => ?_)
  have := key gs.length t (by rw [← h.len]; exact h1) (by omega)
  simpa [List.getD_eq_getElem?_getD, h1, h2] using this
theorem getD_b_lt {u : List Bool} {b : Bool} {t : Nat} (h : t < u.length) : (u ++ [b]).getD t false = u.getD t false := by
  simp [List.getD_eq_getElem?_getD, List.getElem?_append_left h]
theorem getD_b_eq (u : List Bool) (b : Bool) {t : Nat} (h : t = u.length) : (u ++ [b]).getD t false = b := by
  subst h
  simp [List.getD_eq_getElem?_getD]
theorem used_use (f : Nat) (gs : List G) (roots : List Nat) : Use f gs roots (used f gs roots) := by
  induction hn : gs.length generalizing gs roots with
  | zero =>
    have : gs = [] := List.eq_nil_of_length_eq_zero hn
    subst this
    exact ⟨rfl, fun t ht => absurd ht (by simp), fun t t' _ ht => absurd ht (by simp), fun t ht => absurd ht (by simp)⟩
  | succ n ih =>
    obtain ⟨gi, g, rfl⟩ : ∃ gi g, gs = gi ++ [g] := ⟨gs.dropLast, gs.getLast (by intro e; simp [e] at hn), (List.dropLast_concat_getLast _).symm⟩
    have hl : gi.length = n := by simpa using hn
    rw [used_snoc]
    generalize hb : (roots.any fun x => x / 2 == f + gi.length) = b
    have hb1 : b = true ↔ ∃ r, r ∈ roots ∧ r / 2 = f + n := by
      rw [← hb, List.any_eq_true, hl]
      simp
    have I := ih gi (if b = true then g.1 :: g.2 :: roots else roots) hl
    generalize hu : used f gi (if b = true then g.1 :: g.2 :: roots else roots) = u at *
    have hul := I.len
    refine ⟨by simp [hul], fun t ht hr => ?_, fun t t' htt ht hut ho => ?_, fun t ht hut => ?_⟩
    · rw [hn] at ht
      by_cases e : t = n
      · rw [getD_b_eq _ _ (by omega), hb1]
        obtain ⟨r, h1, h2⟩ := hr
        exact ⟨r, h1, by omega⟩
      · rw [getD_b_lt (by omega)]
        obtain ⟨r, h1, h2⟩ := hr
        refine I.root t (by omega) ⟨r, ?_, h2⟩
        split
        · exact List.mem_cons_of_mem _ (List.mem_cons_of_mem _ h1)
        · exact h1
    · rw [hn] at ht
      rw [getD_b_lt (by omega : t < u.length)]
      by_cases e : t' = n
      · rw [getD_b_eq _ _ (by omega)] at hut
        subst e
        rw [← hl, at_eq] at ho
        rcases ho with ho | ho
        · exact I.root t (by omega) ⟨g.1, by rw [if_pos hut]; exact List.mem_cons_self .., ho⟩
        · exact I.root t (by omega) ⟨g.2, by rw [if_pos hut]; exact List.mem_cons_of_mem _ (List.mem_cons_self ..), ho⟩
      · rw [getD_b_lt (by omega)] at hut
        rw [at_lt (by omega : t' < gi.length)] at ho
        exact I.op t t' htt (by omega) hut ho
    · rw [hn] at ht
      by_cases e : t = n
      · rw [getD_b_eq _ _ (by omega), hb1] at hut
        obtain ⟨r, h1, h2⟩ := hut
        exact .inl ⟨r, h1, by omega⟩
      · rw [getD_b_lt (by omega)] at hut
        rcases I.why t (by omega) hut with ⟨r, h1, h2⟩ | ⟨t', h1, h2, h3, h4⟩
        · split at h1
          · next hbt =>
            rcases List.mem_cons.1 h1 with rfl | h1
            · exact .inr ⟨n, by omega, by omega, by rw [getD_b_eq _ _ (by omega)]; exact hbt, .inl (by rw [← hl, at_eq]; exact h2)⟩
            · rcases List.mem_cons.1 h1 with rfl | h1
              · exact .inr ⟨n, by omega, by omega, by rw [getD_b_eq _ _ (by omega)]; exact hbt, .inr (by rw [← hl, at_eq]; exact h2)⟩
              · exact .inl ⟨r, h1, h2⟩
          · exact .inl ⟨r, h1, h2⟩
        · exact .inr ⟨t', h1, by omega, by rw [getD_b_lt (by omega)]; exact h3, by rw [at_lt (by omega : t' < gi.length)]; exact h4⟩

/-- Gates in order: operands are earlier variables. -/
def ordered (f : Nat) (gs : List G) : Prop := ∀ k, k < gs.length → (at_ gs k).1 / 2 < f + k ∧ (at_ gs k).2 / 2 < f + k
theorem ordered_gOk {f : Nat} {gs : List G} (h : ordered f gs) (u : List Bool) (hu : u.length = gs.length) : gOk f (gs.zip u) := fun k hk => by
  rw [zip_len gs u hu] at hk
  have h1 := zip_A gs u hu hk
  have h2 := zip_B gs u hu hk
  have := h k hk
  rw [← h1, ← h2] at this
  exact this
theorem Norm.ordered {f : Nat} {x : List G} (h : Norm f x) : ordered f x := fun k hk => by
  have h1 := h.ord k hk
  have h2 := h.ref k hk
  omega

/-- The rebuilding with sharing: its gates, and the literals of the variables. -/
def hashed (f : Nat) (gs : List G) (roots : List Nat) : List G × List Nat := built true f (gs.zip (used f gs roots))
/-- The removal of unused gates. -/
def pruned (f : Nat) (gs : List G) (roots : List Nat) : List G × List Nat := built false f (gs.zip (used f gs roots))
theorem hashed_good {f : Nat} (hf : 0 < f) {gs : List G} (hg : ordered f gs) (roots : List Nat) : Good f gs.length (hashed f gs roots) := by
  have hu := used_len f gs roots
  have h := built_good hf (gs.zip (used f gs roots)) (ordered_gOk hg _ hu) gs.length (by rw [zip_len _ _ hu]; exact Nat.le_refl _)
  rwa [List.take_of_length_le (by rw [zip_len _ _ hu]; exact Nat.le_refl _)] at h
theorem pruned_rem {f : Nat} {gs : List G} (hg : ordered f gs) (roots : List Nat) : Rem f (gs.zip (used f gs roots)) gs.length (pruned f gs roots) := by
  have hu := used_len f gs roots
  have h := built_rem f (gs.zip (used f gs roots)) (used_use f gs roots).of (ordered_gOk hg _ hu) gs.length (by rw [zip_len _ _ hu]; exact Nat.le_refl _)
  rwa [List.take_of_length_le (by rw [zip_len _ _ hu]; exact Nat.le_refl _)] at h
theorem pruned_norm {f : Nat} (hf : 0 < f) {x : List G} (hn : Norm f x) (roots : List Nat) : Norm f (pruned f x roots).1 := by
  have hu := used_len f x roots
  have h := pruned_rem hn.ordered roots
  rw [← zip_len x _ hu] at h
  exact rem_norm f _ h (used_use f x roots).of (ordered_gOk hn.ordered _ hu) (by rw [zip_fst _ _ hu]; exact hn) hf
theorem pruned_len {f : Nat} {x : List G} (hg : ordered f x) (roots : List Nat) : (pruned f x roots).1.length ≤ x.length := by
  rw [(pruned_rem hg roots).sz]
  exact rank_le _ _

/-- Every gate is wanted by a root or by a later gate. -/
def AllUsed (f : Nat) (x : List G) (roots : List Nat) : Prop := ∀ t, t < x.length → (∃ r, r ∈ roots ∧ r / 2 = f + t) ∨ ∃ t', t < t' ∧ t' < x.length ∧ ((at_ x t').1 / 2 = f + t ∨ (at_ x t').2 / 2 = f + t)
theorem allUsed_used {f : Nat} {x : List G} {roots : List Nat} (h : AllUsed f x roots) : used f x roots = List.replicate x.length true := by
  have hU : Use f x roots (List.replicate x.length true) := by
    have ht : ∀ t, t < x.length → (List.replicate x.length true).getD t false = true := fun t ht => by simp [List.getD_eq_getElem?_getD, ht]
    refine ⟨by simp, fun t h1 _ => ht t h1, fun t t' h1 h2 _ _ => ht t (by omega), fun t h1 _ => ?_⟩
    rcases h t h1 with h2 | ⟨t', h2, h3, h4⟩
    · exact .inl h2
    · exact .inr ⟨t', h2, h3, ht t' h3, h4⟩
  exact (used_use f x roots).uniq hU
theorem pruned_used {f : Nat} {x : List G} (hg : ordered f x) (roots : List Nat) (_hr : ∀ r, r ∈ roots → r / 2 < f + x.length) : AllUsed f (pruned f x roots).1 (roots.map (mapL (pruned f x roots).2)) := by
  have hu := used_len f x roots
  have hl := zip_len x _ hu
  have R := pruned_rem hg roots
  have UO := (used_use f x roots).of
  have GO := ordered_gOk hg (used f x roots) hu
  intro j hj
  rw [R.sz] at hj
  obtain ⟨t, h1, h2, h3⟩ := rank_surj _ _ _ hj
  have hren : ren f (x.zip (used f x roots)) (f + t) = f + j := by unfold ren; rw [if_neg (by omega), show f + t - f = t by omega, h3]
  rcases UO.why t (by omega) h2 with ⟨r, hr1, hr2⟩ | ⟨t', k1, k2, k3, k4⟩
  · left
    refine ⟨mapL (pruned f x roots).2 r, List.mem_map.2 ⟨r, hr1, rfl⟩, ?_⟩
    rw [R.lit f _ (by rw [hr2]; omega) (by rw [hr2]; exact .inr ⟨by omega, by rw [show f + t - f = t by omega]; exact h2⟩), rl_var, hr2, hren]
  · right
    have hg' := R.gate t' (by omega) k3
    refine ⟨rank (U (x.zip (used f x roots))) t', by rw [← h3]; exact rank_lt k1 h2, by rw [R.sz]; exact rank_lt (by omega) k3, ?_⟩
    rw [hg']
    rcases k4 with k4 | k4
    · left; show rl f _ (A _ t') / 2 = _; rw [rl_var, k4, hren]
    · right; show rl f _ (B _ t') / 2 = _; rw [rl_var, k4, hren]
theorem pruned_root {f : Nat} {x : List G} (hg : ordered f x) (roots : List Nat) (hr : ∀ r, r ∈ roots → r / 2 < f + x.length) : ∀ r, r ∈ roots → mapL (pruned f x roots).2 r / 2 < f + (pruned f x roots).1.length := by
  intro r hrm
  have hu := used_len f x roots
  have R := pruned_rem hg roots
  have UO := (used_use f x roots).of
  have hl := zip_len x _ hu
  have hlive : live f (x.zip (used f x roots)) (r / 2) := by
    by_cases e : r / 2 < f
    · exact .inl e
    · exact .inr ⟨by omega, UO.root _ (by have := hr r hrm; omega) ⟨r, hrm, by omega⟩⟩
  rw [R.lit f _ (hr r hrm) hlive, rl_var, R.sz]
  have h1 := ren_lt f (x.zip (used f x roots)) (hr r hrm) hlive
  have h2 : ren f (x.zip (used f x roots)) (f + x.length) = f + rank (U (x.zip (used f x roots))) x.length := by unfold ren; rw [if_neg (by omega), show f + x.length - f = x.length by omega]
  omega

/-- Over gates in normal form that are all used, rebuilding changes nothing. -/
theorem built_same {f : Nat} {x : List G} (share : Bool) (hn : Norm f x) : ∀ k, k ≤ x.length → built share f ((x.zip (List.replicate x.length true)).take k) = (x.take k, evens (f + k)) := by
  have hu : (List.replicate x.length true).length = x.length := by simp
  have hl := zip_len x _ hu
  intro k
  induction k with
  | zero => intro _; rfl
  | succ k ih =>
    intro hk
    rw [built_snoc _ _ _ _ (by omega), ih (by omega)]
    have hg : (x.zip (List.replicate x.length true)).getD k ((0, 0), false) = (at_ x k, true) := by
      have hk' : k < x.length := by omega
      simp [List.getD_eq_getElem?_getD, at_, hk', List.getElem_zip]
    rw [hg]
    have ho := hn.ordered k (by omega)
    have h1 := hn.low k (by omega)
    have h2 := hn.ord k (by omega)
    have h3 := hn.dif k (by omega)
    have hxk : x.take (k + 1) = x.take k ++ [at_ x k] := by
      rw [List.take_succ_eq_append_getElem (by omega)]
      simp [at_, List.getD_eq_getElem?_getD, List.getElem?_eq_getElem (show k < x.length by omega)]
    have hlk : (x.take k).length = k := by simp; omega
    have hidx : idx (x.take k) (at_ x k) = k := by
      rcases Nat.lt_or_ge (idx (x.take k) (at_ x k)) k with hlt | hge
      · have h := idx_at (x := x.take k) (p := at_ x k) (by omega)
        rw [at_take hlt] at h
        exact absurd h (hn.inj _ k hlt (by omega))
      · have := idx_le (x.take k) (at_ x k); omega
    unfold bstep
    simp only [if_true]
    rw [mapL_evens ho.1, mapL_evens ho.2, show f + (k + 1) = (f + k) + 1 from rfl, evens_succ, hxk]
    split
    · have hand : and3 f (x.take k) (at_ x k).1 (at_ x k).2 = (x.take k ++ [at_ x k], 2 * (f + k)) := by
        unfold and3
        have hmin : min (at_ x k).1 (at_ x k).2 = (at_ x k).1 := by omega
        have hmax : max (at_ x k).1 (at_ x k).2 = (at_ x k).2 := by omega
        rw [hmin, hmax, if_neg (by omega), if_neg (by omega)]
        have hp : ((at_ x k).1, (at_ x k).2) = at_ x k := rfl
        rw [hp, hidx, hlk, if_neg (by omega)]
      rw [hand]
    · rw [hlk]
/-- Optimizing a circuit in normal form whose gates are all used changes nothing. -/
theorem hashed_same {f : Nat} {x : List G} {roots : List Nat} (hn : Norm f x) (h : AllUsed f x roots) : hashed f x roots = (x, evens (f + x.length)) := by
  unfold hashed
  rw [allUsed_used h]
  have := built_same true hn x.length (Nat.le_refl _)
  rwa [List.take_of_length_le (by simp), List.take_of_length_le (Nat.le_refl _)] at this
theorem pruned_same {f : Nat} {x : List G} {roots : List Nat} (hn : Norm f x) (h : AllUsed f x roots) : pruned f x roots = (x, evens (f + x.length)) := by
  unfold pruned
  rw [allUsed_used h]
  have := built_same false hn x.length (Nat.le_refl _)
  rwa [List.take_of_length_le (by simp), List.take_of_length_le (Nat.le_refl _)] at this
end Opt
/- Plain mathematics of optimization: the values and the levels of the optimized circuit. -/
namespace Opt
def litB (v : Nat → Bool) (l : Nat) : Bool := v (l / 2) != (l % 2 == 1)
/-- Values of the variables that fit the gates. -/
structure Sem (f : Nat) (gs : List G) (v : Nat → Bool) : Prop where
  zero : v 0 = false
  gate : ∀ k, k < gs.length → v (f + k) = (litB v (at_ gs k).1 && litB v (at_ gs k).2)
/-- Levels of the variables that fit the gates. -/
structure Lev (f : Nat) (gs : List G) (L : Nat → Nat) : Prop where
  base : ∀ v, v < f → L v = 0
  gate : ∀ k, k < gs.length → L (f + k) = 1 + max (L ((at_ gs k).1 / 2)) (L ((at_ gs k).2 / 2))
theorem Sem.pre {f : Nat} {x t : List G} {v : Nat → Bool} (h : Sem f (x ++ t) v) : Sem f x v := ⟨h.zero, fun k hk => by have := h.gate k (by simp; omega); rwa [at_lt hk] at this⟩
theorem Lev.pre {f : Nat} {x t : List G} {L : Nat → Nat} (h : Lev f (x ++ t) L) : Lev f x L := ⟨h.base, fun k hk => by have := h.gate k (by simp; omega); rwa [at_lt hk] at this⟩
theorem litB_xl (v : Nat → Bool) (x p : Nat) (hp : p < 2) : litB v (xl x p) = (litB v x != (p == 1)) := by
  unfold litB
  rw [xl_var]
  have h1 : p = 0 ∨ p = 1 := by omega
  rcases h1 with rfl | rfl
  · simp [xl]
  · rcases Nat.mod_two_eq_zero_or_one x with e | e
    · have : xl x 1 % 2 = 1 := by simp [xl, neg1, e]; omega
      rw [this, e]
      cases v (x / 2) <;> rfl
    · have : xl x 1 % 2 = 0 := by simp [xl, neg1, e]; omega
      rw [this, e]
      cases v (x / 2) <;> rfl
theorem litB_zero {v : Nat → Bool} (h : v 0 = false) : litB v 0 = false := by simp [litB, h]
theorem litB_one {v : Nat → Bool} (h : v 0 = false) : litB v 1 = true := by simp [litB, h]
theorem litB_neg (v : Nat → Bool) {a : Nat} (h : a % 2 = 0) : litB v (a + 1) = !litB v a := by
  unfold litB
  rw [show (a + 1) / 2 = a / 2 by omega, show (a + 1) % 2 = 1 by omega, h]
  cases v (a / 2) <;> rfl
theorem litB_even (v : Nat → Bool) (k : Nat) : litB v (2 * k) = v k := by
  unfold litB
  rw [show 2 * k / 2 = k by omega, show 2 * k % 2 = 0 by omega]
  simp
theorem and_minmax (P : Nat → Bool) (a b : Nat) : (P (min a b) && P (max a b)) = (P a && P b) := by
  rcases Nat.le_total a b with h | h
  · rw [Nat.min_eq_left h, Nat.max_eq_right h]
  · rw [Nat.min_eq_right h, Nat.max_eq_left h, Bool.and_comm]
theorem max_minmax (P : Nat → Nat) (a b : Nat) : max (P (min a b)) (P (max a b)) = max (P a) (P b) := by
  rcases Nat.le_total a b with h | h
  · rw [Nat.min_eq_left h, Nat.max_eq_right h]
  · rw [Nat.min_eq_right h, Nat.max_eq_left h, Nat.max_comm]

theorem and3_sem {f : Nat} {x : List G} {a b : Nat} {y : Nat → Bool} (h : Sem f (and3 f x a b).1 y) : litB y (and3 f x a b).2 = (litB y a && litB y b) := by
  rw [← and_minmax (litB y) a b]
  have hz := h.zero
  unfold and3 at h ⊢
  generalize min a b = lo at *
  generalize max a b = hi at *
  split
  · next e =>
    rcases e with rfl | ⟨rfl, e⟩
    · simp [litB_zero hz]
    · rw [litB_zero hz, litB_neg y e]
      cases litB y lo <;> rfl
  · next e1 =>
    rw [if_neg e1] at h
    split
    · next e =>
      rcases e with rfl | rfl
      · simp [litB_one hz]
      · cases litB y lo <;> rfl
    · next e2 =>
      rw [if_neg e2] at h
      split
      · next e =>
        rw [if_pos e] at h
        rw [litB_even, h.gate _ e, idx_at e]
      · next e =>
        rw [if_neg e] at h
        rw [litB_even, h.gate x.length (by simp), at_eq]
theorem and3_lev {f : Nat} {x : List G} {a b : Nat} {L : Nat → Nat} (hf : 0 < f) (h : Lev f (and3 f x a b).1 L) : L ((and3 f x a b).2 / 2) ≤ 1 + max (L (a / 2)) (L (b / 2)) := by
  rw [← max_minmax (fun z => L (z / 2)) a b]
  have hz := h.base 0 hf
  unfold and3 at h ⊢
  generalize min a b = lo at *
  generalize max a b = hi at *
  split
  · simp [hz]
  · next e1 =>
    rw [if_neg e1] at h
    split
    · show L (hi / 2) ≤ 1 + max (L (lo / 2)) (L (hi / 2)); omega
    · next e2 =>
      rw [if_neg e2] at h
      split
      · next e =>
        rw [if_pos e] at h
        have := h.gate _ e
        rw [idx_at e] at this
        show L (2 * (f + idx x (lo, hi)) / 2) ≤ _
        rw [show 2 * (f + idx x (lo, hi)) / 2 = f + idx x (lo, hi) by omega, this]
        exact Nat.le_refl _
      · next e =>
        rw [if_neg e] at h
        have := h.gate x.length (by simp)
        rw [at_eq] at this
        show L (2 * (f + x.length) / 2) ≤ _
        rw [show 2 * (f + x.length) / 2 = f + x.length by omega, this]
        exact Nat.le_refl _
theorem and3_app (f : Nat) (x : List G) (a b : Nat) : ∃ t, (and3 f x a b).1 = x ++ t := by
  unfold and3
  split
  · exact ⟨[], by simp⟩
  · split
    · exact ⟨[], by simp⟩
    · split
      · exact ⟨[], by simp⟩
      · exact ⟨_, rfl⟩
theorem bstep_app (f : Nat) (s : List G × List Nat) (g : G × Bool) : ∃ t, (bstep true f s g).1 = s.1 ++ t := by
  unfold bstep
  split
  · exact and3_app _ _ _ _
  · exact ⟨[], by simp⟩
theorem built_app (f : Nat) (gs : List (G × Bool)) (k : Nat) (hk : k ≤ gs.length) : ∃ t, (built true f gs).1 = (built true f (gs.take k)).1 ++ t := by
  obtain ⟨d, hd⟩ : ∃ d, gs.length = k + d := ⟨gs.length - k, by omega⟩
  have key : ∀ e, k + e ≤ gs.length → ∃ t, (built true f (gs.take (k + e))).1 = (built true f (gs.take k)).1 ++ t := by
    intro e
    induction e with
    | zero => intro _; exact ⟨[], by simp⟩
    | succ e ih =>
      intro he
      obtain ⟨t, ht⟩ := ih (by omega)
      rw [← Nat.add_assoc, built_snoc _ _ _ _ (by omega)]
      obtain ⟨t', ht'⟩ := bstep_app f (built true f (gs.take (k + e))) (gs.getD (k + e) ((0, 0), false))
      exact ⟨t ++ t', by rw [ht', ht, List.append_assoc]⟩
  obtain ⟨t, ht⟩ := key d (by omega)
  rw [List.take_of_length_le (by omega)] at ht
  exact ⟨t, ht⟩

section
variable {f : Nat} {gs : List G} {u : List Bool} {roots : List Nat}
theorem built_sem (hf : 0 < f) (hg : ordered f gs) (hu : Use f gs roots u) {v y : Nat → Bool} (hv : Sem f gs v) (hy : Sem f (built true f (gs.zip u)).1 y) (hb : ∀ w, w < f → y w = v w) :
    ∀ k, k ≤ gs.length → ∀ t, t < f + k → live f (gs.zip u) t → litB y ((built true f ((gs.zip u).take k)).2.getD t 0) = v t := by
  have hl := zip_len gs u hu.len
  have hG := built_good hf (gs.zip u) (ordered_gOk hg u hu.len)
  intro k
  induction k with
  | zero =>
    intro _ t ht _
    show litB y ((evens f).getD t 0) = v t
    rw [evens_get (by omega), litB_even]
    exact hb t (by omega)
  | succ k ih =>
    intro hk t ht hlt
    have I := ih (by omega)
    have GK := hG k (by omega)
    obtain ⟨tl, htl⟩ := built_app f (gs.zip u) (k + 1) (by omega)
    rw [htl] at hy
    have hy' := hy.pre
    rw [built_snoc _ _ _ _ (by omega)] at hy' ⊢
    by_cases e : t = f + k
    · subst e
      have hU : U (gs.zip u) k = true := by
        rcases hlt with hlt | ⟨_, hlt⟩
        · omega
        · rwa [show f + k - f = k by omega] at hlt
      have hU' : ((gs.zip u).getD k ((0, 0), false)).2 = true := hU
      obtain ⟨l1, l2⟩ := hu.of.live f _ (ordered_gOk hg u hu.len) (by omega : k < (gs.zip u).length) hU
      obtain ⟨o1, o2⟩ := hg k (by omega)
      have eA : ((gs.zip u).getD k ((0, 0), false)).1.1 = (at_ gs k).1 := zip_A gs u hu.len (by omega)
      have eB : ((gs.zip u).getD k ((0, 0), false)).1.2 = (at_ gs k).2 := zip_B gs u hu.len (by omega)
      rw [zip_A gs u hu.len (by omega)] at l1
      rw [zip_B gs u hu.len (by omega)] at l2
      unfold bstep at hy' ⊢
      rw [if_pos hU', if_pos rfl] at hy' ⊢
      rw [eA, eB] at hy' ⊢
      have lit : ∀ l, l / 2 < f + k → live f (gs.zip u) (l / 2) → litB y (mapL (built true f ((gs.zip u).take k)).2 l) = litB v l := fun l h1 h2 => by
        unfold mapL
        rw [litB_xl _ _ _ (Nat.mod_lt _ (by omega)), I _ h1 h2]
        rfl
      show litB y (((built true f ((gs.zip u).take k)).2 ++ [_]).getD (f + k) 0) = _
      rw [← GK.len, getD_app_eq, and3_sem hy', lit _ o1 l1, lit _ o2 l2, GK.len, hv.gate k (by omega)]
    · have hm : ∀ z, ((built true f ((gs.zip u).take k)).2 ++ [z]).getD t 0 = (built true f ((gs.zip u).take k)).2.getD t 0 := fun z => getD_app_lt (by rw [GK.len]; omega)
      unfold bstep
      split
      · show litB y (((built true f ((gs.zip u).take k)).2 ++ [_]).getD t 0) = _
        rw [hm]; exact I t (by omega) hlt
      · show litB y (((built true f ((gs.zip u).take k)).2 ++ [_]).getD t 0) = _
        rw [hm]; exact I t (by omega) hlt
theorem built_lev (hf : 0 < f) (hg : ordered f gs) (hu : Use f gs roots u) {L M : Nat → Nat} (hL : Lev f gs L) (hM : Lev f (built true f (gs.zip u)).1 M) :
    ∀ k, k ≤ gs.length → ∀ t, t < f + k → live f (gs.zip u) t → M ((built true f ((gs.zip u).take k)).2.getD t 0 / 2) ≤ L t := by
  have hl := zip_len gs u hu.len
  have hG := built_good hf (gs.zip u) (ordered_gOk hg u hu.len)
  intro k
  induction k with
  | zero =>
    intro _ t ht _
    show M ((evens f).getD t 0 / 2) ≤ L t
    rw [evens_get (by omega), show 2 * t / 2 = t by omega, hM.base t (by omega)]
    exact Nat.zero_le _
  | succ k ih =>
    intro hk t ht hlt
    have I := ih (by omega)
    have GK := hG k (by omega)
    obtain ⟨tl, htl⟩ := built_app f (gs.zip u) (k + 1) (by omega)
    rw [htl] at hM
    have hM' := hM.pre
    rw [built_snoc _ _ _ _ (by omega)] at hM' ⊢
    by_cases e : t = f + k
    · subst e
      have hU : U (gs.zip u) k = true := by
        rcases hlt with hlt | ⟨_, hlt⟩
        · omega
        · rwa [show f + k - f = k by omega] at hlt
      have hU' : ((gs.zip u).getD k ((0, 0), false)).2 = true := hU
      obtain ⟨l1, l2⟩ := hu.of.live f _ (ordered_gOk hg u hu.len) (by omega : k < (gs.zip u).length) hU
      obtain ⟨o1, o2⟩ := hg k (by omega)
      have eA : ((gs.zip u).getD k ((0, 0), false)).1.1 = (at_ gs k).1 := zip_A gs u hu.len (by omega)
      have eB : ((gs.zip u).getD k ((0, 0), false)).1.2 = (at_ gs k).2 := zip_B gs u hu.len (by omega)
      rw [zip_A gs u hu.len (by omega)] at l1
      rw [zip_B gs u hu.len (by omega)] at l2
      unfold bstep at hM' ⊢
      rw [if_pos hU', if_pos rfl] at hM' ⊢
      rw [eA, eB] at hM' ⊢
      have h1 := I _ o1 l1
      have h2 := I _ o2 l2
      rw [← mapL_var] at h1 h2
      show M (((built true f ((gs.zip u).take k)).2 ++ [_]).getD (f + k) 0 / 2) ≤ _
      rw [← GK.len, getD_app_eq, GK.len, hL.gate k (by omega)]
      have h3 := and3_lev hf hM'
      omega
    · have hm : ∀ z, ((built true f ((gs.zip u).take k)).2 ++ [z]).getD t 0 = (built true f ((gs.zip u).take k)).2.getD t 0 := fun z => getD_app_lt (by rw [GK.len]; omega)
      unfold bstep
      split
      · show M (((built true f ((gs.zip u).take k)).2 ++ [_]).getD t 0 / 2) ≤ _
        rw [hm]; exact I t (by omega) hlt
      · show M (((built true f ((gs.zip u).take k)).2 ++ [_]).getD t 0 / 2) ≤ _
        rw [hm]; exact I t (by omega) hlt

/-- The removal keeps the values and the levels of the variables that stay. -/
theorem rem_sem {s : List G × List Nat} (hR : Rem f (gs.zip u) gs.length s) (hg : ordered f gs) (hu : Use f gs roots u) {v y : Nat → Bool} (hv : Sem f gs v) (hy : Sem f s.1 y) (hb : ∀ w, w < f → y w = v w) :
    ∀ k, k ≤ gs.length → ∀ t, t < f + k → live f (gs.zip u) t → y (ren f (gs.zip u) t) = v t := by
  have hl := zip_len gs u hu.len
  intro k
  induction k with
  | zero => intro _ t ht _; rw [ren, if_pos (by omega)]; exact hb t (by omega)
  | succ k ih =>
    intro hk t ht hlt
    by_cases e : t = f + k
    · subst e
      have hU : U (gs.zip u) k = true := by
        rcases hlt with hlt | ⟨_, hlt⟩
        · omega
        · rwa [show f + k - f = k by omega] at hlt
      obtain ⟨l1, l2⟩ := hu.of.live f _ (ordered_gOk hg u hu.len) (by omega : k < (gs.zip u).length) hU
      obtain ⟨o1, o2⟩ := hg k (by omega)
      have hgt := hR.gate k (by omega) hU
      rw [zip_A gs u hu.len (by omega)] at l1 hgt
      rw [zip_B gs u hu.len (by omega)] at l2 hgt
      have hren : ren f (gs.zip u) (f + k) = f + rank (U (gs.zip u)) k := by unfold ren; rw [if_neg (by omega), show f + k - f = k by omega]
      have lit : ∀ l, l / 2 < f + k → live f (gs.zip u) (l / 2) → litB y (rl f (gs.zip u) l) = litB v l := fun l h1 h2 => by
        have h3 : rl f (gs.zip u) l % 2 = l % 2 := by unfold rl; omega
        unfold litB
        rw [rl_var, ih (by omega) _ h1 h2, h3]
      rw [hren, hy.gate _ (by rw [hR.sz]; exact rank_lt (by omega) hU), hgt]
      show (litB y (rl f (gs.zip u) (at_ gs k).1) && litB y (rl f (gs.zip u) (at_ gs k).2)) = _
      rw [lit _ o1 l1, lit _ o2 l2, hv.gate k (by omega)]
    · exact ih (by omega) t (by omega) hlt
theorem rem_lev {s : List G × List Nat} (hR : Rem f (gs.zip u) gs.length s) (hg : ordered f gs) (hu : Use f gs roots u) {L M : Nat → Nat} (hL : Lev f gs L) (hM : Lev f s.1 M) :
    ∀ k, k ≤ gs.length → ∀ t, t < f + k → live f (gs.zip u) t → M (ren f (gs.zip u) t) = L t := by
  have hl := zip_len gs u hu.len
  intro k
  induction k with
  | zero => intro _ t ht _; rw [ren, if_pos (by omega), hL.base t (by omega)]; exact hM.base t (by omega)
  | succ k ih =>
    intro hk t ht hlt
    by_cases e : t = f + k
    · subst e
      have hU : U (gs.zip u) k = true := by
        rcases hlt with hlt | ⟨_, hlt⟩
        · omega
        · rwa [show f + k - f = k by omega] at hlt
      obtain ⟨l1, l2⟩ := hu.of.live f _ (ordered_gOk hg u hu.len) (by omega : k < (gs.zip u).length) hU
      obtain ⟨o1, o2⟩ := hg k (by omega)
      have hgt := hR.gate k (by omega) hU
      rw [zip_A gs u hu.len (by omega)] at l1 hgt
      rw [zip_B gs u hu.len (by omega)] at l2 hgt
      have hren : ren f (gs.zip u) (f + k) = f + rank (U (gs.zip u)) k := by unfold ren; rw [if_neg (by omega), show f + k - f = k by omega]
      rw [hren, hM.gate _ (by rw [hR.sz]; exact rank_lt (by omega) hU), hgt, hL.gate k (by omega)]
      show 1 + max (M (rl f (gs.zip u) (at_ gs k).1 / 2)) (M (rl f (gs.zip u) (at_ gs k).2 / 2)) = _
      rw [rl_var, rl_var, ih (by omega) _ o1 l1, ih (by omega) _ o2 l2]
    · exact ih (by omega) t (by omega) hlt
end
end Opt
/- Plain mathematics of optimization: both passes together: the normal form, the size, the levels, the values, and that optimizing again changes nothing. -/
namespace Opt
theorem Lev.zero (f : Nat) : Lev f [] (fun _ => 0) := ⟨fun _ _ => rfl, fun k hk => absurd hk (by simp)⟩
theorem lev_ex (f : Nat) (gs : List G) (hg : ordered f gs) : ∃ L, Lev f gs L := by
  have key : ∀ k, k ≤ gs.length → ∃ L, Lev f (gs.take k) L := by
    intro k
    induction k with
    | zero => intro _; exact ⟨_, by rw [List.take_zero]; exact Lev.zero f⟩
    | succ k ih =>
      intro hk
      obtain ⟨L, hL⟩ := ih (by omega)
      have hl : (gs.take k).length = k := by simp; omega
      obtain ⟨o1, o2⟩ := hg k (by omega)
      refine ⟨fun v => if v = f + k then 1 + max (L ((at_ gs k).1 / 2)) (L ((at_ gs k).2 / 2)) else L v, fun v hv => ?_, fun j hj => ?_⟩
      · (try dsimp only); rw [if_neg (by omega)]; exact hL.base v hv
      · have hj' : j < k + 1 := by simp at hj; omega
        rw [at_take hj']
        by_cases e : j = k
        · subst e
          rw [if_pos rfl, if_neg (by omega), if_neg (by omega)]
        · have hjk := hg j (by omega)
          try dsimp only
          rw [if_neg (by omega), if_neg (by omega), if_neg (by omega)]
          have := hL.gate j (by omega)
          rwa [at_take (by omega)] at this
  have := key gs.length (Nat.le_refl _)
  rwa [List.take_of_length_le (Nat.le_refl _)] at this
theorem sem_ex (f : Nat) (hf : 0 < f) (gs : List G) (hg : ordered f gs) (b : Nat → Bool) (hb : b 0 = false) : ∃ v, Sem f gs v ∧ ∀ w, w < f → v w = b w := by
  have key : ∀ k, k ≤ gs.length → ∃ L, Sem f (gs.take k) L ∧ ∀ w, w < f → L w = b w := by
    intro k
    induction k with
    | zero => intro _; exact ⟨b, ⟨hb, fun k hk => absurd hk (by simp)⟩, fun _ _ => rfl⟩
    | succ k ih =>
      intro hk
      obtain ⟨L, hL, hw⟩ := ih (by omega)
      have hl : (gs.take k).length = k := by simp; omega
      obtain ⟨o1, o2⟩ := hg k (by omega)
      have lit : ∀ z l, l / 2 < f + k → litB (fun v => if v = f + k then z else L v) l = litB L l := fun z l h => by
        unfold litB
        try dsimp only
        rw [if_neg (by omega)]
      refine ⟨fun v => if v = f + k then (litB L (at_ gs k).1 && litB L (at_ gs k).2) else L v, ⟨?_, fun j hj => ?_⟩, fun w hw' => ?_⟩
      · (try dsimp only); rw [if_neg (by omega)]; exact hL.zero
      · have hj' : j < k + 1 := by simp at hj; omega
        rw [at_take hj']
        have hjk := hg j (by omega)
        rw [lit _ _ (by omega), lit _ _ (by omega)]
        by_cases e : j = k
        · subst e
          rw [if_pos rfl]
        · try dsimp only
          rw [if_neg (by omega)]
          have := hL.gate j (by omega)
          rwa [at_take (by omega)] at this
      · (try dsimp only); rw [if_neg (by omega)]; exact hw w hw'
  have := key gs.length (Nat.le_refl _)
  rwa [List.take_of_length_le (Nat.le_refl _)] at this

section
variable {f : Nat} {gs : List G} {roots : List Nat}
theorem root_live (hr : ∀ r, r ∈ roots → r / 2 < f + gs.length) {r : Nat} (h : r ∈ roots) : live f (gs.zip (used f gs roots)) (r / 2) := by
  have hu := used_len f gs roots
  by_cases e : r / 2 < f
  · exact .inl e
  · have h1 := hr r h
    refine .inr ⟨by omega, ?_⟩
    rw [zip_U _ _ hu (by omega)]
    exact (used_use f gs roots).root _ (by omega) ⟨r, h, by omega⟩
theorem hashed_take : built true f ((gs.zip (used f gs roots)).take gs.length) = hashed f gs roots := by
  rw [List.take_of_length_le (by rw [zip_len _ _ (used_len f gs roots)]; exact Nat.le_refl _)]; rfl
theorem hashed_lev (hf : 0 < f) (hg : ordered f gs) (hr : ∀ r, r ∈ roots → r / 2 < f + gs.length) {L K : Nat → Nat} (hL : Lev f gs L) (hK : Lev f (hashed f gs roots).1 K) {r : Nat} (h : r ∈ roots) :
    K (mapL (hashed f gs roots).2 r / 2) ≤ L (r / 2) := by
  rw [mapL_var, ← hashed_take]
  exact built_lev hf hg (used_use f gs roots) hL hK gs.length (Nat.le_refl _) _ (hr r h) (root_live hr h)
theorem hashed_sem (hf : 0 < f) (hg : ordered f gs) (hr : ∀ r, r ∈ roots → r / 2 < f + gs.length) {v y : Nat → Bool} (hv : Sem f gs v) (hy : Sem f (hashed f gs roots).1 y) (hb : ∀ w, w < f → y w = v w) {r : Nat} (h : r ∈ roots) :
    litB y (mapL (hashed f gs roots).2 r) = litB v r := by
  have := built_sem hf hg (used_use f gs roots) hv hy hb gs.length (Nat.le_refl _) _ (hr r h) (root_live hr h)
  rw [hashed_take] at this
  unfold mapL
  rw [litB_xl _ _ _ (Nat.mod_lt _ (by omega)), this]
  rfl
theorem pruned_rl (hg : ordered f gs) (hr : ∀ r, r ∈ roots → r / 2 < f + gs.length) {r : Nat} (h : r ∈ roots) : mapL (pruned f gs roots).2 r = rl f (gs.zip (used f gs roots)) r :=
  (pruned_rem hg roots).lit f _ (hr r h) (root_live hr h)
theorem pruned_lev (hg : ordered f gs) (hr : ∀ r, r ∈ roots → r / 2 < f + gs.length) {L K : Nat → Nat} (hL : Lev f gs L) (hK : Lev f (pruned f gs roots).1 K) {r : Nat} (h : r ∈ roots) :
    K (mapL (pruned f gs roots).2 r / 2) = L (r / 2) := by
  rw [pruned_rl hg hr h, rl_var]
  exact rem_lev (pruned_rem hg roots) hg (used_use f gs roots) hL hK gs.length (Nat.le_refl _) _ (hr r h) (root_live hr h)
theorem pruned_sem (hg : ordered f gs) (hr : ∀ r, r ∈ roots → r / 2 < f + gs.length) {v y : Nat → Bool} (hv : Sem f gs v) (hy : Sem f (pruned f gs roots).1 y) (hb : ∀ w, w < f → y w = v w) {r : Nat} (h : r ∈ roots) :
    litB y (mapL (pruned f gs roots).2 r) = litB v r := by
  have := rem_sem (pruned_rem hg roots) hg (used_use f gs roots) hv hy hb gs.length (Nat.le_refl _) _ (hr r h) (root_live hr h)
  rw [pruned_rl hg hr h]
  have h3 : rl f (gs.zip (used f gs roots)) r % 2 = r % 2 := by unfold rl; omega
  unfold litB
  rw [rl_var, this, h3]
theorem hashed_root (hf : 0 < f) (hg : ordered f gs) (hr : ∀ r, r ∈ roots → r / 2 < f + gs.length) {r : Nat} (h : r ∈ roots) : mapL (hashed f gs roots).2 r / 2 < f + (hashed f gs roots).1.length := by
  rw [mapL_var]
  exact (hashed_good hf hg roots).var _ (hr r h)
end

/-- Gates, outputs and next states. -/
structure C where
  gs : List G
  os : List Nat
  ns : List Nat
def C.roots (c : C) : List Nat := c.os ++ c.ns
structure Ok (f : Nat) (c : C) : Prop where
  ord : ordered f c.gs
  root : ∀ r, r ∈ c.roots → r / 2 < f + c.gs.length
/-- One pass: the circuit rebuilt, with sharing or without. -/
def bld (share : Bool) (f : Nat) (c : C) : C :=
  ⟨(built share f (c.gs.zip (used f c.gs c.roots))).1, c.os.map (mapL (built share f (c.gs.zip (used f c.gs c.roots))).2), c.ns.map (mapL (built share f (c.gs.zip (used f c.gs c.roots))).2)⟩
def opt (f : Nat) (c : C) : C := bld false f (bld true f c)
theorem bld_roots (share : Bool) (f : Nat) (c : C) : (bld share f c).roots = c.roots.map (mapL (built share f (c.gs.zip (used f c.gs c.roots))).2) := by
  simp [C.roots, bld]
theorem bld_t_gs (f : Nat) (c : C) : (bld true f c).gs = (hashed f c.gs c.roots).1 := rfl
theorem bld_t_roots (f : Nat) (c : C) : (bld true f c).roots = c.roots.map (mapL (hashed f c.gs c.roots).2) := bld_roots true f c
theorem bld_f_gs (f : Nat) (c : C) : (bld false f c).gs = (pruned f c.gs c.roots).1 := rfl
theorem bld_f_roots (f : Nat) (c : C) : (bld false f c).roots = c.roots.map (mapL (pruned f c.gs c.roots).2) := bld_roots false f c
theorem bld_t_ok {f : Nat} {c : C} (hf : 0 < f) (h : Ok f c) : Ok f (bld true f c) ∧ Norm f (bld true f c).gs ∧ (bld true f c).gs.length ≤ c.gs.length := by
  have hG := hashed_good hf h.ord c.roots
  refine ⟨⟨hG.norm.ordered, fun r hr => ?_⟩, hG.norm, hG.le⟩
  rw [bld_t_roots, List.mem_map] at hr
  obtain ⟨q, hq, rfl⟩ := hr
  exact hashed_root hf h.ord h.root hq
theorem bld_f_ok {f : Nat} {c : C} (hf : 0 < f) (h : Ok f c) (hn : Norm f c.gs) : Ok f (bld false f c) ∧ Norm f (bld false f c).gs ∧ (bld false f c).gs.length ≤ c.gs.length ∧ AllUsed f (bld false f c).gs (bld false f c).roots := by
  refine ⟨⟨(pruned_norm hf hn _).ordered, fun r hr => ?_⟩, pruned_norm hf hn _, pruned_len h.ord _, ?_⟩
  · rw [bld_f_roots, List.mem_map] at hr
    obtain ⟨q, hq, rfl⟩ := hr
    exact pruned_root h.ord c.roots h.root q hq
  · rw [bld_f_roots]
    exact pruned_used h.ord c.roots h.root
/-- The normal form. -/
structure Form (f : Nat) (c : C) : Prop where
  ok : Ok f c
  norm : Norm f c.gs
  use : AllUsed f c.gs c.roots
theorem opt_form {f : Nat} {c : C} (hf : 0 < f) (h : Ok f c) : Form f (opt f c) ∧ (opt f c).gs.length ≤ c.gs.length ∧ (opt f c).os.length = c.os.length ∧ (opt f c).ns.length = c.ns.length := by
  obtain ⟨a1, a2, a3⟩ := bld_t_ok hf h
  obtain ⟨b1, b2, b3, b4⟩ := bld_f_ok hf a1 a2
  exact ⟨⟨b1, b2, b4⟩, Nat.le_trans b3 a3, by simp [opt, bld], by simp [opt, bld]⟩
theorem map_id_of {xs : List Nat} {g : Nat → Nat} (h : ∀ x, x ∈ xs → g x = x) : xs.map g = xs := by
  induction xs with
  | nil => rfl
  | cons x r ih => rw [List.map_cons, h x (by simp), ih (fun y hy => h y (by simp [hy]))]
theorem bld_same {f : Nat} {c : C} (h : Form f c) (share : Bool) : bld share f c = c := by
  have e : built share f (c.gs.zip (used f c.gs c.roots)) = (c.gs, evens (f + c.gs.length)) := by
    cases share
    · exact pruned_same h.norm h.use
    · exact hashed_same h.norm h.use
  unfold bld
  rw [e]
  have hm : ∀ x, x ∈ c.roots → mapL (evens (f + c.gs.length)) x = x := fun x hx => mapL_evens (h.ok.root x hx)
  rw [map_id_of (fun x hx => hm x (by simp [C.roots, hx])), map_id_of (fun x hx => hm x (by simp [C.roots, hx]))]
theorem opt_same {f : Nat} {c : C} (h : Form f c) : opt f c = c := by
  unfold opt
  rw [bld_same h true, bld_same h false]
/-- The literals of the two passes. -/
def lits (f : Nat) (c : C) (l : Nat) : Nat := mapL (pruned f (bld true f c).gs (bld true f c).roots).2 (mapL (hashed f c.gs c.roots).2 l)
theorem opt_os (f : Nat) (c : C) : (opt f c).os = c.os.map (lits f c) := by
  show (c.os.map _).map _ = _
  rw [List.map_map]; rfl
theorem opt_ns (f : Nat) (c : C) : (opt f c).ns = c.ns.map (lits f c) := by
  show (c.ns.map _).map _ = _
  rw [List.map_map]; rfl
theorem opt_lev {f : Nat} {c : C} (hf : 0 < f) (h : Ok f c) {L M : Nat → Nat} (hL : Lev f c.gs L) (hM : Lev f (opt f c).gs M) {r : Nat} (hr : r ∈ c.roots) : M (lits f c r / 2) ≤ L (r / 2) := by
  obtain ⟨a1, a2, a3⟩ := bld_t_ok hf h
  obtain ⟨K, hK⟩ := lev_ex f _ a1.ord
  have h1 := hashed_lev hf h.ord h.root hL hK hr
  have hq : mapL (hashed f c.gs c.roots).2 r ∈ (bld true f c).roots := by rw [bld_t_roots]; exact List.mem_map_of_mem hr
  have h2 := pruned_lev a1.ord a1.root hK hM hq
  show M (mapL _ (mapL _ r) / 2) ≤ _
  rw [h2]
  exact h1
theorem opt_sem {f : Nat} {c : C} (hf : 0 < f) (h : Ok f c) {v y : Nat → Bool} (hv : Sem f c.gs v) (hy : Sem f (opt f c).gs y) (hb : ∀ w, w < f → y w = v w) {r : Nat} (hr : r ∈ c.roots) : litB y (lits f c r) = litB v r := by
  obtain ⟨a1, a2, a3⟩ := bld_t_ok hf h
  obtain ⟨z, hz, hzb⟩ := sem_ex f hf _ a1.ord v hv.zero
  have h1 := hashed_sem hf h.ord h.root hv hz (fun w hw => hzb w hw) hr
  have hq : mapL (hashed f c.gs c.roots).2 r ∈ (bld true f c).roots := by rw [bld_t_roots]; exact List.mem_map_of_mem hr
  have h2 := pruned_sem a1.ord a1.root hz hy (fun w hw => by rw [hb w hw, hzb w hw]) hq
  show litB y (mapL _ (mapL _ r)) = _
  rw [h2]
  exact h1
end Opt
/- Plain mathematics of optimization: the same for circuits as the program has them. -/
namespace Opt
open Circ
def natG (gs : List (Int × Int)) : List G := gs.map fun g => (g.1.toNat, g.2.toNat)
def natL (xs : List Int) : List Nat := xs.map Int.toNat
def intG (gs : List G) : List (Int × Int) := gs.map fun g => ((g.1 : Int), (g.2 : Int))
def intL (xs : List Nat) : List Int := xs.map fun (x : Nat) => (x : Int)
theorem natG_len (gs : List (Int × Int)) : (natG gs).length = gs.length := by simp [natG]
theorem natL_len (xs : List Int) : (natL xs).length = xs.length := by simp [natL]
theorem intG_len (gs : List G) : (intG gs).length = gs.length := by simp [intG]
theorem intL_len (xs : List Nat) : (intL xs).length = xs.length := by simp [intL]
theorem nat_intG (gs : List G) : natG (intG gs) = gs := by simp [natG, intG, Function.comp_def]
theorem nat_intL (xs : List Nat) : natL (intL xs) = xs := by simp [natL, intL, Function.comp_def]
theorem natG_at (gs : List (Int × Int)) (k : Nat) : at_ (natG gs) k = ((gs.getD k (0, 0)).1.toNat, (gs.getD k (0, 0)).2.toNat) := by
  by_cases h : k < gs.length <;> simp [at_, natG, List.getD_eq_getElem?_getD, h]
theorem intG_at (gs : List G) (k : Nat) : (intG gs).getD k (0, 0) = (((at_ gs k).1 : Int), ((at_ gs k).2 : Int)) := by
  by_cases h : k < gs.length <;> simp [at_, intG, List.getD_eq_getElem?_getD, h]
theorem intL_at (xs : List Nat) (k : Nat) : (intL xs).getD k 0 = (xs.getD k 0 : Int) := by
  by_cases h : k < xs.length <;> simp [intL, List.getD_eq_getElem?_getD, h]
theorem natL_at (xs : List Int) (k : Nat) : (natL xs).getD k 0 = (xs.getD k 0).toNat := by
  by_cases h : k < xs.length <;> simp [natL, List.getD_eq_getElem?_getD, h]
theorem litsOk_mem {xs : List Int} {c : Int} (h : litsOk xs c = true) {x : Int} (hx : x ∈ xs) : 0 ≤ x ∧ x < 2 * c := by
  unfold litsOk at h
  rw [List.all_eq_true] at h
  exact litOk_inv (h x hx)
theorem litsOk_of {xs : List Int} {c : Int} (h : ∀ x, x ∈ xs → 0 ≤ x ∧ x < 2 * c) : litsOk xs c = true := by
  unfold litsOk
  rw [List.all_eq_true]
  exact fun x hx => litOk_t (h x hx).1 (h x hx).2
theorem gatesOk_of {gs : List (Int × Int)} {f : Int} (h : ∀ k, k < gs.length → litOk (gs.getD k (0, 0)).1 (f + k) = true ∧ litOk (gs.getD k (0, 0)).2 (f + k) = true) : gatesOk gs f = true := by
  have key : ∀ k, k ≤ gs.length → gatesOk (gs.take k) f = true := by
    intro k
    induction k with
    | zero => intro _; rfl
    | succ k ih => intro hk; rw [gatesOk_snoc _ _ _ (by omega), ih (by omega), (h k (by omega)).1, (h k (by omega)).2]; rfl
  have := key gs.length (Nat.le_refl _)
  rwa [List.take_of_length_le (Nat.le_refl _)] at this

/-- The first variable of a gate. -/
def fst (i : Int) (ns : List Int) : Nat := (1 + i + ns.length).toNat
def natC (ns : List Int) (gs : List (Int × Int)) (os : List Int) : C := ⟨natG gs, natL os, natL ns⟩
theorem natC_ok {i : Int} {ns : List Int} {gs : List (Int × Int)} {os : List Int} (h : validB i ns gs os = true) : 0 < fst i ns ∧ Ok (fst i ns) (natC ns gs os) := by
  have hw := valid_within h
  have hf : (fst i ns : Int) = 1 + i + ns.length := by unfold fst; omega
  refine ⟨by omega, fun k hk => ?_, fun r hr => ?_⟩
  · have hk' : k < gs.length := by rw [← natG_len gs]; exact hk
    obtain ⟨a, b⟩ := gatesOk_get (valid_gates h) hk'
    have a' := litOk_inv a
    have b' := litOk_inv b
    show (at_ (natG gs) k).1 / 2 < _ ∧ (at_ (natG gs) k).2 / 2 < _
    rw [natG_at]
    simp only []
    omega
  · show r / 2 < fst i ns + (natG gs).length
    rw [natG_len]
    have hr' : r ∈ natL os ∨ r ∈ natL ns := List.mem_append.mp hr
    rcases hr' with h1 | h1
    · obtain ⟨x, hx, rfl⟩ := List.mem_map.mp h1
      have := litsOk_mem (valid_outs h) hx
      omega
    · obtain ⟨x, hx, rfl⟩ := List.mem_map.mp h1
      have := litsOk_mem (valid_next h) hx
      omega
theorem int_valid {i : Int} {c : C} {f : Nat} (hi : 0 ≤ i ∧ i ≤ 4) (hf : (f : Int) = 1 + i + c.ns.length) (h : Ok f c) (h1 : c.gs.length ≤ 14) (h2 : c.ns.length ≤ 3) (h3 : c.os.length ≤ 3) : validB i (intL c.ns) (intG c.gs) (intL c.os) = true := by
  have e1 : withinB i (intL c.ns).length (intG c.gs).length (intL c.os).length = true := within_t (by rw [intL_len, intL_len, intG_len]; omega)
  have e2 : gatesOk (intG c.gs) (1 + i + (intL c.ns).length) = true := gatesOk_of fun k hk => by
    rw [intG_len] at hk
    have := h.ord k hk
    rw [intG_at, intL_len]
    exact ⟨litOk_t (by simp only []; omega) (by simp only []; omega), litOk_t (by simp only []; omega) (by simp only []; omega)⟩
  have e3 : ∀ xs : List Nat, (∀ x, x ∈ xs → x ∈ c.roots) → litsOk (intL xs) (1 + i + (intL c.ns).length + (intG c.gs).length) = true := fun xs hx => litsOk_of fun x hm => by
    obtain ⟨y, hy, rfl⟩ := List.mem_map.mp hm
    have := h.root y (hx y hy)
    rw [intL_len, intG_len]
    omega
  unfold validB
  rw [e1, e2, e3 c.ns (fun x hx => List.mem_append_right _ hx), e3 c.os (fun x hx => List.mem_append_left _ hx)]
  rfl

/-- The optimized circuit's gates, outputs and next states. -/
def optC (i : Int) (ns : List Int) (gs : List (Int × Int)) (os : List Int) : C := opt (fst i ns) (natC ns gs os)
def optG (i : Int) (ns : List Int) (gs : List (Int × Int)) (os : List Int) : List (Int × Int) := intG (optC i ns gs os).gs
def optO (i : Int) (ns : List Int) (gs : List (Int × Int)) (os : List Int) : List Int := intL (optC i ns gs os).os
def optN (i : Int) (ns : List Int) (gs : List (Int × Int)) (os : List Int) : List Int := intL (optC i ns gs os).ns
section
variable {i : Int} {ns : List Int} {gs : List (Int × Int)} {os : List Int}
theorem optC_form (h : validB i ns gs os = true) : Form (fst i ns) (optC i ns gs os) ∧ (optC i ns gs os).gs.length ≤ gs.length ∧ (optC i ns gs os).os.length = os.length ∧ (optC i ns gs os).ns.length = ns.length := by
  obtain ⟨hf, hk⟩ := natC_ok h
  obtain ⟨a, b, c, d⟩ := opt_form hf hk
  refine ⟨a, Nat.le_trans b ?_, c.trans ?_, d.trans ?_⟩
  · show (natG gs).length ≤ _
    rw [natG_len]; exact Nat.le_refl _
  · exact natL_len os
  · exact natL_len ns
theorem optG_len (h : validB i ns gs os = true) : (optG i ns gs os).length ≤ gs.length := by unfold optG; rw [intG_len]; exact (optC_form h).2.1
theorem optO_len (h : validB i ns gs os = true) : (optO i ns gs os).length = os.length := by unfold optO; rw [intL_len]; exact (optC_form h).2.2.1
theorem optN_len (h : validB i ns gs os = true) : (optN i ns gs os).length = ns.length := by unfold optN; rw [intL_len]; exact (optC_form h).2.2.2
theorem opt_fst (h : validB i ns gs os = true) : fst i (optN i ns gs os) = fst i ns := by unfold fst; rw [optN_len h]
theorem opt_valid (h : validB i ns gs os = true) : validB i (optN i ns gs os) (optG i ns gs os) (optO i ns gs os) = true := by
  obtain ⟨a, b, c, d⟩ := optC_form h
  have hw := valid_within h
  exact int_valid (f := fst i ns) ⟨hw.1, hw.2.1⟩ (by rw [d]; unfold fst; omega) a.ok (by omega) (by omega) (by omega)
theorem opt_nat : natC (optN i ns gs os) (optG i ns gs os) (optO i ns gs os) = optC i ns gs os := by
  unfold natC optN optG optO
  rw [nat_intG, nat_intL, nat_intL]
/-- Optimizing again changes nothing. -/
theorem opt_again (h : validB i ns gs os = true) : optC i (optN i ns gs os) (optG i ns gs os) (optO i ns gs os) = optC i ns gs os := by
  show opt (fst i (optN i ns gs os)) (natC (optN i ns gs os) (optG i ns gs os) (optO i ns gs os)) = _
  rw [opt_fst h, opt_nat]
  exact opt_same (optC_form h).1

/-- Levels as the depth has them. -/
theorem lev_levels {f : Nat} {xs : List (Int × Int)} (h : ∀ k, k < xs.length → litOk (xs.getD k (0, 0)).1 (f + k) = true ∧ litOk (xs.getD k (0, 0)).2 (f + k) = true) : Lev f (natG xs) (fun v => ((levels xs f).getD v 0).toNat) := by
  refine ⟨fun v hv => ?_, fun k hk => ?_⟩
  · show ((levels xs f).getD v 0).toNat = 0
    rw [levels_zero xs f v hv]; rfl
  · rw [natG_len] at hk
    obtain ⟨a, b⟩ := h k hk
    have a' := litOk_inv a
    have b' := litOk_inv b
    rw [natG_at]
    show ((levels xs f).getD (f + k) 0).toNat = 1 + max ((levels xs f).getD ((xs.getD k (0, 0)).1.toNat / 2) 0).toNat ((levels xs f).getD ((xs.getD k (0, 0)).2.toNat / 2) 0).toNat
    rw [levels_at xs f k ((xs.getD k (0, 0)).1.toNat / 2) ((xs.getD k (0, 0)).2.toNat / 2) hk (by omega) (by omega) (by omega) (by omega)]
    have b1 := levels_bd xs f ((xs.getD k (0, 0)).1.toNat / 2)
    have b2 := levels_bd xs f ((xs.getD k (0, 0)).2.toNat / 2)
    omega
theorem hiFrom_le (l l' : List Int) (g : Nat → Nat) : ∀ (xs : List Int) (m m' : Int), m ≤ m' → (∀ x, x ∈ xs → l.getD (g x.toNat / 2) 0 ≤ l'.getD (x / 2).toNat 0) → hiFrom l m (intL ((natL xs).map g)) ≤ hiFrom l' m' xs := by
  intro xs
  induction xs with
  | nil => intro m m' h _; exact h
  | cons x r ih =>
    intro m m' h hx
    show hiFrom l (max m (l.getD (((g x.toNat : Nat) : Int) / 2).toNat 0)) (intL ((natL r).map g)) ≤ hiFrom l' (max m' (l'.getD (x / 2).toNat 0)) r
    refine ih _ _ ?_ (fun y hy => hx y (by simp [hy]))
    have h1 := hx x (by simp)
    have e : (((g x.toNat : Nat) : Int) / 2).toNat = g x.toNat / 2 := by omega
    rw [e]
    omega
/-- Optimization never makes a circuit deeper. -/
theorem opt_depth (h : validB i ns gs os = true) : depthZ i (optN i ns gs os) (optG i ns gs os) (optO i ns gs os) ≤ depthZ i ns gs os := by
  have hv := opt_valid h
  have hw := valid_within h
  obtain ⟨hf, hk⟩ := natC_ok h
  rw [depth_t h, depth_t hv]
  show max (hi (levels _ (fst i (optN i ns gs os))) _) (hi (levels _ (fst i (optN i ns gs os))) _) ≤ max (hi (levels gs (fst i ns)) ns) (hi (levels gs (fst i ns)) os)
  have hF : (fst i ns : Int) = 1 + i + ns.length := by unfold fst; omega
  have L1 := lev_levels (f := fst i ns) (xs := gs) (fun k hk => by have := gatesOk_get (valid_gates h) hk; rw [hF]; exact this)
  have L2 := lev_levels (f := fst i ns) (xs := optG i ns gs os) (fun k hk => by have := gatesOk_get (valid_gates hv) hk; rw [optN_len h] at this; rw [hF]; exact this)
  rw [opt_fst h]
  have eG : natG (optG i ns gs os) = (opt (fst i ns) (natC ns gs os)).gs := nat_intG _
  rw [eG] at L2
  have key : ∀ x, x ∈ os ∨ x ∈ ns → (levels (optG i ns gs os) (fst i ns)).getD (lits (fst i ns) (natC ns gs os) x.toNat / 2) 0 ≤ (levels gs (fst i ns)).getD (x / 2).toNat 0 := fun x hx => by
    have hm : x.toNat ∈ (natC ns gs os).roots := by
      rcases hx with hx | hx
      · exact List.mem_append_left _ (List.mem_map_of_mem hx)
      · exact List.mem_append_right _ (List.mem_map_of_mem hx)
    have h1 := opt_lev hf hk L1 L2 hm
    (try dsimp only at h1)
    have b1 := levels_bd (optG i ns gs os) (fst i ns) (lits (fst i ns) (natC ns gs os) x.toNat / 2)
    have b2 := levels_bd gs (fst i ns) (x.toNat / 2)
    have e : (x / 2).toNat = x.toNat / 2 := by omega
    rw [e]
    omega
  have eO : optO i ns gs os = intL ((natL os).map (lits (fst i ns) (natC ns gs os))) := by unfold optO optC; rw [opt_os]; rfl
  have eN : optN i ns gs os = intL ((natL ns).map (lits (fst i ns) (natC ns gs os))) := by unfold optN optC; rw [opt_ns]; rfl
  have k1 : hi (levels (optG i ns gs os) (fst i ns)) (optO i ns gs os) ≤ hi (levels gs (fst i ns)) os := by
    rw [eO]; exact hiFrom_le _ _ _ _ _ _ (Int.le_refl _) (fun x hx => key x (.inl hx))
  have k2 : hi (levels (optG i ns gs os) (fst i ns)) (optN i ns gs os) ≤ hi (levels gs (fst i ns)) ns := by
    rw [eN]; exact hiFrom_le _ _ _ _ _ _ (Int.le_refl _) (fun x hx => key x (.inr hx))
  omega
end
end Opt
/- Plain mathematics of optimization: in a circuit in normal form sharing finds nothing to share, so the second pass may share or not. -/
namespace Opt
theorem and3_new {f : Nat} {x : List G} {a b : Nat} (h1 : 2 ≤ a) (h2 : a < b) (h3 : a / 2 ≠ b / 2) (h4 : ∀ j, j < x.length → at_ x j ≠ (a, b)) : and3 f x a b = (x ++ [(a, b)], 2 * (f + x.length)) := by
  have hmin : min a b = a := by omega
  have hmax : max a b = b := by omega
  unfold and3
  rw [hmin, hmax, if_neg (by omega), if_neg (by omega), if_neg]
  intro h
  exact h4 _ h (idx_at h)
theorem built_tf {f : Nat} (hf : 0 < f) {gs : List G} {u : List Bool} {roots : List Nat} (hn : Norm f gs) (hU : Use f gs roots u) :
    ∀ k, k ≤ gs.length → built true f ((gs.zip u).take k) = built false f ((gs.zip u).take k) := by
  have hl := zip_len gs u hU.len
  have hg := ordered_gOk hn.ordered u hU.len
  have hO := hU.of
  intro k
  induction k with
  | zero => intro _; rfl
  | succ k ih =>
    intro hk
    have R := built_rem f (gs.zip u) hO hg k (by omega)
    rw [built_snoc _ _ _ _ (by omega), built_snoc _ _ _ _ (by omega), ih (by omega)]
    generalize built false f ((gs.zip u).take k) = s at R
    unfold bstep
    by_cases hu : U (gs.zip u) k = true
    · have hu' : ((gs.zip u).getD k ((0, 0), false)).2 = true := hu
      rw [if_pos hu', if_pos hu', if_pos rfl, if_neg (by simp)]
      obtain ⟨l1, l2⟩ := hO.live f (gs.zip u) hg (by omega) hu
      obtain ⟨o1, o2⟩ := hg k (by omega)
      have ea : mapL s.2 ((gs.zip u).getD k ((0, 0), false)).1.1 = rl f (gs.zip u) (A (gs.zip u) k) := R.lit f _ o1 l1
      have eb : mapL s.2 ((gs.zip u).getD k ((0, 0), false)).1.2 = rl f (gs.zip u) (B (gs.zip u) k) := R.lit f _ o2 l2
      have a1 := zip_A gs u hU.len (t := k) (by omega)
      have b1 := zip_B gs u hU.len (t := k) (by omega)
      have n1 := hn.low k (by omega)
      have n2 := hn.ord k (by omega)
      have n3 := hn.dif k (by omega)
      rw [← a1] at n1 n2 n3
      rw [← b1] at n2 n3
      have r0 : ren f (gs.zip u) 0 < ren f (gs.zip u) (A (gs.zip u) k / 2) := ren_lt f _ (by omega) (.inl hf)
      have r1 : ren f (gs.zip u) (A (gs.zip u) k / 2) < ren f (gs.zip u) (B (gs.zip u) k / 2) := ren_lt f _ (by omega) l1
      have hnew := and3_new (f := f) (x := s.1) (a := rl f (gs.zip u) (A (gs.zip u) k)) (b := rl f (gs.zip u) (B (gs.zip u) k)) (by unfold rl; omega) (by unfold rl; omega) (by rw [rl_var, rl_var]; omega) (fun j hj e => by
        rw [R.sz] at hj
        obtain ⟨t, h1, h2, h3⟩ := rank_surj _ _ _ hj
        have hgt := R.gate t h1 h2
        rw [h3, e] at hgt
        injection hgt with e1 e2
        obtain ⟨m1, m2⟩ := hO.live f (gs.zip u) hg (t := t) (by omega) h2
        have x1 := rl_inj f _ l1 m1 e1
        have x2 := rl_inj f _ l2 m2 e2
        refine hn.inj t k h1 (by omega) ?_
        have a2 := zip_A gs u hU.len (t := t) (by omega)
        have b2 := zip_B gs u hU.len (t := t) (by omega)
        exact Prod.ext (by rw [← a1, ← a2, x1]) (by rw [← b1, ← b2, x2]))
      rw [ea, eb, hnew]
    · have hu' : ¬ ((gs.zip u).getD k ((0, 0), false)).2 = true := hu
      rw [if_neg hu', if_neg hu']
theorem bld_tf {f : Nat} (hf : 0 < f) {c : C} (hn : Norm f c.gs) : bld true f c = bld false f c := by
  have h := built_tf hf hn (used_use f c.gs c.roots) c.gs.length (Nat.le_refl _)
  rw [List.take_of_length_le (by rw [zip_len _ _ (used_len f c.gs c.roots)]; exact Nat.le_refl _)] at h
  unfold bld
  rw [h]
/-- Both passes may share. -/
theorem opt_tt {f : Nat} (hf : 0 < f) {c : C} (h : Ok f c) : bld true f (bld true f c) = opt f c := bld_tf hf (bld_t_ok hf h).2.1
end Opt
/- Plain mathematics of optimization: marking the gates that are used, from the last one to the first. -/
namespace Opt
/-- The marks behind k gates from the last one on; p marks variables. -/
structure Mk (f : Nat) (gs : List G) (roots : List Nat) (k : Nat) (p : Nat → Bool) : Prop where
  root : ∀ r, r ∈ roots → f ≤ r / 2 → p (r / 2) = true
  op : ∀ t, gs.length ≤ t + k → t < gs.length → p (f + t) = true → (f ≤ (at_ gs t).1 / 2 → p ((at_ gs t).1 / 2) = true) ∧ (f ≤ (at_ gs t).2 / 2 → p ((at_ gs t).2 / 2) = true)
  why : ∀ v, f ≤ v → p v = true → (∃ r, r ∈ roots ∧ r / 2 = v) ∨ ∃ t, gs.length ≤ t + k ∧ t < gs.length ∧ p (f + t) = true ∧ ((at_ gs t).1 / 2 = v ∨ (at_ gs t).2 / 2 = v)
theorem Mk.start {f : Nat} {gs : List G} {roots : List Nat} {p : Nat → Bool} (h : ∀ v, f ≤ v → p v = roots.any fun r => r / 2 == v) : Mk f gs roots 0 p := by
  refine ⟨fun r hr hf => ?_, fun t h1 h2 => by omega, fun v hv hp => ?_⟩
  · rw [h _ hf, List.any_eq_true]
    exact ⟨r, hr, by simp⟩
  · rw [h _ hv, List.any_eq_true] at hp
    obtain ⟨r, h1, h2⟩ := hp
    exact .inl ⟨r, h1, by simpa using h2⟩
theorem Mk.step {f : Nat} {gs : List G} {roots : List Nat} {k i : Nat} {p p' : Nat → Bool} (h : Mk f gs roots k p) (hg : ordered f gs) (hi : i + (k + 1) = gs.length)
    (hp : ∀ v, f ≤ v → p' v = (p v || (p (f + i) && ((at_ gs i).1 / 2 == v || (at_ gs i).2 / 2 == v)))) : Mk f gs roots (k + 1) p' := by
  obtain ⟨o1, o2⟩ := hg i (by omega)
  have up : ∀ v, f ≤ v → p v = true → p' v = true := fun v hv h1 => by rw [hp v hv, h1]; rfl
  have same : ∀ t, i ≤ t → p' (f + t) = p (f + t) := fun t ht => by
    rw [hp _ (by omega)]
    have e1 : ((at_ gs i).1 / 2 == f + t) = false := by simp; omega
    have e2 : ((at_ gs i).2 / 2 == f + t) = false := by simp; omega
    rw [e1, e2]
    simp
  refine ⟨fun r hr hf => up _ hf (h.root r hr hf), fun t h1 h2 h3 => ?_, fun v hv h1 => ?_⟩
  · rw [same t (by omega)] at h3
    by_cases e : t = i
    · subst e
      constructor
      · intro hf
        rw [hp _ hf, h3]
        simp
      · intro hf
        rw [hp _ hf, h3]
        simp
    · obtain ⟨a, b⟩ := h.op t (by omega) h2 h3
      exact ⟨fun hf => up _ hf (a hf), fun hf => up _ hf (b hf)⟩
  · rw [hp v hv] at h1
    cases hpv : p v with
    | true =>
      rcases h.why v hv hpv with h2 | ⟨t, h2, h3, h4, h5⟩
      · exact .inl h2
      · exact .inr ⟨t, by omega, h3, up _ (by omega) h4, h5⟩
    | false =>
      rw [hpv, Bool.false_or, Bool.and_eq_true] at h1
      obtain ⟨h2, h3⟩ := h1
      refine .inr ⟨i, by omega, by omega, up _ (by omega) h2, ?_⟩
      simpa using h3
def marks (f n : Nat) (p : Nat → Bool) : List Bool := (List.range n).map fun t => p (f + t)
theorem marks_get {f n t : Nat} (p : Nat → Bool) (h : t < n) : (marks f n p).getD t false = p (f + t) := by
  simp [marks, List.getD_eq_getElem?_getD, h]
theorem Mk.use {f : Nat} {gs : List G} {roots : List Nat} {p : Nat → Bool} (h : Mk f gs roots gs.length p) (hg : ordered f gs) : marks f gs.length p = used f gs roots := by
  have hU : Use f gs roots (marks f gs.length p) := by
    refine ⟨by simp [marks], fun t ht hr => ?_, fun t t' htt ht hu ho => ?_, fun t ht hu => ?_⟩
    · obtain ⟨r, h1, h2⟩ := hr
      rw [marks_get p ht, ← h2]
      exact h.root r h1 (by omega)
    · rw [marks_get p ht] at hu
      rw [marks_get p (by omega)]
      obtain ⟨a, b⟩ := h.op t' (by omega) ht hu
      rcases ho with ho | ho
      · rw [← ho]; exact a (by omega)
      · rw [← ho]; exact b (by omega)
    · rw [marks_get p ht] at hu
      rcases h.why (f + t) (by omega) hu with h1 | ⟨t', h1, h2, h3, h4⟩
      · exact .inl h1
      · have := hg t' h2
        exact .inr ⟨t', by omega, h2, by rw [marks_get p h2]; exact h3, h4⟩
  exact hU.uniq (used_use f gs roots)
theorem used_mem (f : Nat) (gs : List G) {roots roots' : List Nat} (h : ∀ r, r ∈ roots ↔ r ∈ roots') : used f gs roots = used f gs roots' := by
  have hU := used_use f gs roots
  refine Use.uniq (f := f) (gs := gs) (roots := roots') ⟨hU.len, fun t ht ⟨r, h1, h2⟩ => hU.root t ht ⟨r, (h r).2 h1, h2⟩, hU.op, fun t ht hu => ?_⟩ (used_use f gs roots')
  rcases hU.why t ht hu with ⟨r, h1, h2⟩ | h1
  · exact .inl ⟨r, (h r).1 h1, h2⟩
  · exact .inr h1

/-- Variables put into a word of bits. -/
def orV (m : Nat) : List Nat → Nat
  | [] => m
  | x :: r => orV (m ||| 2 ^ (x / 2)) r
theorem orV_snoc (m : Nat) (xs : List Nat) (x : Nat) : orV m (xs ++ [x]) = orV m xs ||| 2 ^ (x / 2) := by
  induction xs generalizing m with
  | nil => rfl
  | cons y r ih => exact ih _
theorem bit_or (m x v : Nat) : (m ||| 2 ^ x).testBit v = (m.testBit v || x == v) := by
  rw [Nat.testBit_or, Nat.testBit_two_pow]
  rfl
theorem orV_bit (m : Nat) (xs : List Nat) (v : Nat) : (orV m xs).testBit v = (m.testBit v || xs.any fun x => x / 2 == v) := by
  induction xs generalizing m with
  | nil => simp [orV]
  | cons x r ih =>
    show (orV (m ||| 2 ^ (x / 2)) r).testBit v = _
    rw [ih, bit_or, List.any_cons, Bool.or_assoc]
theorem orV_lt {m : Nat} {xs : List Nat} (hm : m < 18446744073709551616) (hx : ∀ x, x ∈ xs → x / 2 < 64) : orV m xs < 18446744073709551616 := by
  induction xs generalizing m with
  | nil => exact hm
  | cons x r ih =>
    refine ih ?_ (fun y hy => hx y (by simp [hy]))
    have h1 : 2 ^ (x / 2) < 2 ^ 64 := Nat.pow_lt_pow_right (by omega) (hx x (by simp))
    exact Nat.or_lt_two_pow (n := 64) hm h1
/-- The word behind k gates from the last one on. -/
def backW (f : Nat) (gs : List G) (m : Nat) : Nat → Nat
  | 0 => m
  | k + 1 => if (backW f gs m k).testBit (f + (gs.length - (k + 1))) = true then orV (backW f gs m k) [(at_ gs (gs.length - (k + 1))).1, (at_ gs (gs.length - (k + 1))).2] else backW f gs m k
theorem backW_lt {f : Nat} {gs : List G} {m : Nat} (hg : ordered f gs) (hf : f + gs.length ≤ 64) (hm : m < 18446744073709551616) (k : Nat) (hk : k ≤ gs.length) : backW f gs m k < 18446744073709551616 := by
  induction k with
  | zero => exact hm
  | succ k ih =>
    have o := hg (gs.length - (k + 1)) (by omega)
    unfold backW
    split
    · refine orV_lt (ih (by omega)) (fun x hx => ?_)
      simp at hx
      rcases hx with rfl | rfl <;> omega
    · exact ih (by omega)
theorem backW_mk {f : Nat} {gs : List G} {roots : List Nat} {m : Nat} (hg : ordered f gs) (h : ∀ v, m.testBit v = roots.any fun r => r / 2 == v) : ∀ k, k ≤ gs.length → Mk f gs roots k (fun v => (backW f gs m k).testBit v) := by
  intro k
  induction k with
  | zero => intro _; exact Mk.start fun v _ => h v
  | succ k ih =>
    intro hk
    refine (ih (by omega)).step hg (i := gs.length - (k + 1)) (by omega) (fun v hv => ?_)
    show (backW f gs m (k + 1)).testBit v = _
    by_cases e : (backW f gs m k).testBit (f + (gs.length - (k + 1))) = true
    · have e2 : backW f gs m (k + 1) = orV (backW f gs m k) [(at_ gs (gs.length - (k + 1))).1, (at_ gs (gs.length - (k + 1))).2] := by
        show (if (backW f gs m k).testBit (f + (gs.length - (k + 1))) = true then _ else _) = _
        rw [if_pos e]
      rw [e2, orV_bit, e]
      simp
    · have e2 : backW f gs m (k + 1) = backW f gs m k := by
        show (if (backW f gs m k).testBit (f + (gs.length - (k + 1))) = true then _ else _) = _
        rw [if_neg e]
      rw [e2]
      simp [e]
/-- The word of the variables that are reached. -/
def reachW (f : Nat) (c : C) : Nat := backW f c.gs (orV (orV 0 c.ns) c.os) c.gs.length
theorem reachW_used {f : Nat} {c : C} (h : Ok f c) {t : Nat} (ht : t < c.gs.length) : (reachW f c).testBit (f + t) = (used f c.gs c.roots).getD t false := by
  have hb : ∀ v, (orV (orV 0 c.ns) c.os).testBit v = c.roots.any fun r => r / 2 == v := fun v => by
    rw [orV_bit, orV_bit]
    simp [C.roots, Bool.or_comm]
  have := (backW_mk h.ord hb c.gs.length (Nat.le_refl _)).use h.ord
  rw [← this, marks_get _ ht]
  rfl
theorem reachW_lt {f : Nat} {c : C} (h : Ok f c) (hf : f + c.gs.length ≤ 64) : reachW f c < 18446744073709551616 := by
  have ho : ∀ x, x ∈ c.os → x / 2 < 64 := fun x hx => by have := h.root x (List.mem_append_left _ hx); omega
  have hn : ∀ x, x ∈ c.ns → x / 2 < 64 := fun x hx => by have := h.root x (List.mem_append_right _ hx); omega
  exact backW_lt h.ord hf (orV_lt (orV_lt (by omega) hn) ho) _ (Nat.le_refl _)
end Opt
/- Plain mathematics of equivalence: an optimized circuit has the values of the original one; assignments by number; the first difference of two circuits; no program. -/
namespace Opt
open Circ
section
variable {i : Int} {ns : List Int} {gs : List (Int × Int)} {os : List Int}
theorem litV_litB (l : List Bool) (x : Int) (h : 0 ≤ x) : litV l x = litB (fun v => l.getD v false) x.toNat := by
  unfold litV litB
  have e1 : (x / 2).toNat = x.toNat / 2 := by omega
  have e2 : (x % 2 == 1) = (x.toNat % 2 == 1) := by
    rw [Bool.eq_iff_iff, beq_iff_eq, beq_iff_eq]; omega
  rw [e1, e2]
theorem sem_vals {f : Nat} (st ins : List Bool) (hf : f = 1 + ins.length + st.length) (h : gatesOk gs f = true) : Sem f (natG gs) (fun v => (valsOf gs st ins).getD v false) := by
  have hl : (false :: (ins ++ st)).length = f := by simp; omega
  refine ⟨?_, fun k hk => ?_⟩
  · show (vals gs _).getD 0 false = false
    rw [vals_low _ _ _ (by simp)]; rfl
  · rw [natG_len] at hk
    obtain ⟨a, b⟩ := gatesOk_get h hk
    have a' := litOk_inv a
    have b' := litOk_inv b
    have := vals_at gs k (false :: (ins ++ st)) hk (by rw [hl]; exact h)
    rw [hl] at this
    rw [natG_at]
    show (vals gs _).getD (f + k) false = _
    rw [this, litV_litB _ _ a'.1, litV_litB _ _ b'.1]
    rfl
theorem opt_out (h : validB i ns gs os = true) (st ins : List Bool) (hs : st.length = ns.length) (hi : (ins.length : Int) = i) (xs : List Int) (hx : ∀ x, x ∈ natL xs → x ∈ (natC ns gs os).roots) (hx0 : ∀ x, x ∈ xs → 0 ≤ x) :
    outV (optG i ns gs os) (intL ((natL xs).map (lits (fst i ns) (natC ns gs os)))) st ins = outV gs xs st ins := by
  obtain ⟨hf0, hk⟩ := natC_ok h
  have hw := valid_within h
  have hf : fst i ns = 1 + ins.length + st.length := by unfold fst; omega
  have hfi : (fst i ns : Int) = 1 + i + ns.length := by unfold fst; omega
  have hS := sem_vals (f := fst i ns) st ins hf (by rw [hfi]; exact valid_gates h)
  have ho := valid_gates (opt_valid h)
  rw [optN_len h] at ho
  have hY := sem_vals (f := fst i ns) st ins hf (gs := optG i ns gs os) (by rw [hfi]; exact ho)
  have hY' : Sem (fst i ns) (opt (fst i ns) (natC ns gs os)).gs (fun v => (valsOf (optG i ns gs os) st ins).getD v false) := by
    have e : natG (optG i ns gs os) = (opt (fst i ns) (natC ns gs os)).gs := nat_intG _
    rw [← e]; exact hY
  have hb : ∀ w, w < fst i ns → (valsOf (optG i ns gs os) st ins).getD w false = (valsOf gs st ins).getD w false := by
    intro w hw
    have hl : w < (false :: (ins ++ st)).length := by simp; omega
    show (vals _ _).getD w false = (vals _ _).getD w false
    rw [vals_low _ _ _ hl, vals_low _ _ _ hl]
  unfold outV litsV intL natL
  rw [List.map_map, List.map_map, List.map_map]
  refine List.map_congr_left (fun x hxm => ?_)
  have h0 := hx0 x hxm
  have hr := hx x.toNat (by unfold natL; exact List.mem_map.mpr ⟨x, hxm, rfl⟩)
  have := opt_sem hf0 hk hS hY' hb hr
  rw [litV_litB _ x h0, ← this]
  show litV _ ((lits _ _ x.toNat : Nat) : Int) = _
  rw [litV_litB _ _ (by omega)]
  rfl
theorem optO_eq : optO i ns gs os = intL ((natL os).map (lits (fst i ns) (natC ns gs os))) := by
  show intL (opt _ _).os = _
  rw [opt_os]; rfl
theorem optN_eq : optN i ns gs os = intL ((natL ns).map (lits (fst i ns) (natC ns gs os))) := by
  show intL (opt _ _).ns = _
  rw [opt_ns]; rfl
/-- The optimized circuit computes the same outputs. -/
theorem opt_outs (h : validB i ns gs os = true) (st ins : List Bool) (hs : st.length = ns.length) (hi : (ins.length : Int) = i) : outV (optG i ns gs os) (optO i ns gs os) st ins = outV gs os st ins := by
  rw [optO_eq]
  exact opt_out h st ins hs hi os (fun x hx => List.mem_append_left _ hx) (fun x hx => (litsOk_mem (valid_outs h) hx).1)
/-- The optimized circuit computes the same next state. -/
theorem opt_next (h : validB i ns gs os = true) (st ins : List Bool) (hs : st.length = ns.length) (hi : (ins.length : Int) = i) : outV (optG i ns gs os) (optN i ns gs os) st ins = outV gs ns st ins := by
  rw [optN_eq]
  exact opt_out h st ins hs hi ns (fun x hx => List.mem_append_right _ hx) (fun x hx => (litsOk_mem (valid_next h) hx).1)
end
end Opt
namespace Circ
/-- The n low-order bits of a number, the lowest first. -/
def bitsN (x n : Nat) : List Bool := (List.range n).map fun j => x / 2 ^ j % 2 == 1
theorem bitsN_len (x n : Nat) : (bitsN x n).length = n := by simp [bitsN]
theorem bitsN_get (x n j : Nat) (hj : j < n) : (bitsN x n).getD j false = (x / 2 ^ j % 2 == 1) := by simp [bitsN, List.getD_eq_getElem?_getD, hj]
theorem bitsN_snoc (x n : Nat) : bitsN x (n + 1) = bitsN x n ++ [x / 2 ^ n % 2 == 1] := by simp [bitsN, List.range_succ]
theorem bitsN_take (x n k : Nat) (hk : k ≤ n) : (bitsN x n).take k = bitsN x k := by
  unfold bitsN
  rw [← List.map_take, List.take_range, Nat.min_eq_left hk]
/-- A number with given low-order bits. -/
def numB : List Bool → Nat
  | [] => 0
  | b :: r => (if b = true then 1 else 0) + 2 * numB r
theorem numB_lt (l : List Bool) : numB l < 2 ^ l.length := by
  induction l with
  | nil => simp [numB]
  | cons b r ih => simp only [numB, List.length_cons, Nat.pow_succ]; split <;> omega
theorem bitsN_cons (b : Bool) (m n : Nat) : bitsN ((if b = true then 1 else 0) + 2 * m) (n + 1) = b :: bitsN m n := by
  unfold bitsN
  rw [List.range_succ_eq_map, List.map_cons, List.map_map]
  congr 1
  · cases b <;> simp
  · refine List.map_congr_left (fun j _ => ?_)
    show (((if b = true then 1 else 0) + 2 * m) / 2 ^ (j + 1) % 2 == 1) = (m / 2 ^ j % 2 == 1)
    have e : ((if b = true then 1 else 0) + 2 * m) / 2 ^ (j + 1) = m / 2 ^ j := by
      rw [Nat.pow_succ, Nat.mul_comm (2 ^ j) 2, ← Nat.div_div_eq_div_mul]
      congr 1
      cases b <;> simp <;> omega
    rw [e]
theorem bits_num (l : List Bool) : bitsN (numB l) l.length = l := by
  induction l with
  | nil => rfl
  | cons b r ih =>
    rw [numB, List.length_cons, bitsN_cons, ih]
theorem bitsN_mod (x n c : Nat) : bitsN (x + 2 ^ n * c) n = bitsN x n := by
  unfold bitsN
  refine List.map_congr_left (fun j hj => ?_)
  have hj := List.mem_range.mp hj
  have e : (x + 2 ^ n * c) / 2 ^ j = x / 2 ^ j + 2 * (2 ^ (n - j - 1) * c) := by
    have : 2 ^ n * c = 2 ^ j * (2 * (2 ^ (n - j - 1) * c)) := by
      rw [← Nat.mul_assoc 2, ← Nat.pow_succ', ← Nat.mul_assoc, ← Nat.pow_add]
      congr 2; omega
    rw [this, Nat.add_mul_div_left _ _ (Nat.two_pow_pos j)]
  rw [e]
  have : (x / 2 ^ j + 2 * (2 ^ (n - j - 1) * c)) % 2 = x / 2 ^ j % 2 := by omega
  rw [this]
/-- Every assignment has a number. -/
theorem num_ex (ins st : List Bool) : ∃ x, x < 2 ^ (ins.length + st.length) ∧ bitsN x ins.length = ins ∧ bitsN (x / 2 ^ ins.length) st.length = st := by
  refine ⟨numB ins + 2 ^ ins.length * numB st, ?_, ?_, ?_⟩
  · have h1 := numB_lt ins
    have h2 := numB_lt st
    rw [Nat.pow_add]
    have : 2 ^ ins.length * (numB st + 1) ≤ 2 ^ ins.length * 2 ^ st.length := Nat.mul_le_mul_left _ h2
    rw [Nat.mul_add, Nat.mul_one] at this
    omega
  · rw [bitsN_mod, bits_num]
  · rw [Nat.add_mul_div_left _ _ (Nat.two_pow_pos _), Nat.div_eq_of_lt (numB_lt ins), Nat.zero_add, bits_num]
/-- The two circuits compute different outputs or a different next state for the assignment with this number. -/
def differB (i nl : Nat) (ns : List Int) (gs : List (Int × Int)) (os ns' : List Int) (gs' : List (Int × Int)) (os' : List Int) (x : Nat) : Bool :=
  !((outV gs os (bitsN (x / 2 ^ i) nl) (bitsN x i) == outV gs' os' (bitsN (x / 2 ^ i) nl) (bitsN x i)) && (outV gs ns (bitsN (x / 2 ^ i) nl) (bitsN x i) == outV gs' ns' (bitsN (x / 2 ^ i) nl) (bitsN x i)))
def firstD (i nl : Nat) (ns : List Int) (gs : List (Int × Int)) (os ns' : List Int) (gs' : List (Int × Int)) (os' : List Int) : Option Nat :=
  (List.range (2 ^ (i + nl))).find? (differB i nl ns gs os ns' gs' os')
def sameIf (i : Int) (ns : List Int) (gs : List (Int × Int)) (os : List Int) (i' : Int) (ns' : List Int) (gs' : List (Int × Int)) (os' : List Int) : Bool :=
  validB i ns gs os && validB i' ns' gs' os' && decide (i = i') && decide (ns.length = ns'.length) && decide (os.length = os'.length)
theorem sameIf_inv {i : Int} {ns : List Int} {gs : List (Int × Int)} {os : List Int} {i' : Int} {ns' : List Int} {gs' : List (Int × Int)} {os' : List Int} (h : sameIf i ns gs os i' ns' gs' os' = true) :
    validB i ns gs os = true ∧ validB i' ns' gs' os' = true ∧ i = i' ∧ ns.length = ns'.length ∧ os.length = os'.length := by
  unfold sameIf at h
  simp only [Bool.and_eq_true, decide_eq_true_eq] at h
  exact ⟨h.1.1.1.1, h.1.1.1.2, h.1.1.2, h.1.2, h.2⟩
theorem sameIf_mk {i : Int} {ns : List Int} {gs : List (Int × Int)} {os : List Int} {i' : Int} {ns' : List Int} {gs' : List (Int × Int)} {os' : List Int} (h1 : validB i ns gs os = true) (h2 : validB i' ns' gs' os' = true) (h3 : i = i') (h4 : ns.length = ns'.length) (h5 : os.length = os'.length) :
    sameIf i ns gs os i' ns' gs' os' = true := by
  unfold sameIf
  simp only [Bool.and_eq_true, decide_eq_true_eq]
  exact ⟨⟨⟨⟨h1, h2⟩, h3⟩, h4⟩, h5⟩
theorem sameIf_symm (i : Int) (ns : List Int) (gs : List (Int × Int)) (os : List Int) (i' : Int) (ns' : List Int) (gs' : List (Int × Int)) (os' : List Int) : sameIf i ns gs os i' ns' gs' os' = sameIf i' ns' gs' os' i ns gs os := by
  rw [Bool.eq_iff_iff]
  constructor
  · intro h
    obtain ⟨a, b, c, d, e⟩ := sameIf_inv h
    exact sameIf_mk b a c.symm d.symm e.symm
  · intro h
    obtain ⟨a, b, c, d, e⟩ := sameIf_inv h
    exact sameIf_mk b a c.symm d.symm e.symm
theorem sameIf_self (i : Int) (ns : List Int) (gs : List (Int × Int)) (os : List Int) : sameIf i ns gs os i ns gs os = validB i ns gs os := by
  cases h : validB i ns gs os
  · unfold sameIf; rw [h]; rfl
  · exact sameIf_mk h h rfl rfl rfl
/-- No difference. -/
def noDiff (i : Int) (ns : List Int) (gs : List (Int × Int)) (os ns' : List Int) (gs' : List (Int × Int)) (os' : List Int) : Bool := (firstD i.toNat ns.length ns gs os ns' gs' os').isNone
def equivB (i : Int) (ns : List Int) (gs : List (Int × Int)) (os : List Int) (i' : Int) (ns' : List Int) (gs' : List (Int × Int)) (os' : List Int) : Bool :=
  sameIf i ns gs os i' ns' gs' os' && noDiff i ns gs os ns' gs' os'
theorem noDiff_iff {i : Int} {ns : List Int} {gs : List (Int × Int)} {os ns' : List Int} {gs' : List (Int × Int)} {os' : List Int} :
    noDiff i ns gs os ns' gs' os' = true ↔ ∀ x, x < 2 ^ (i.toNat + ns.length) → differB i.toNat ns.length ns gs os ns' gs' os' x = false := by
  unfold noDiff firstD
  rw [Option.isNone_iff_eq_none, List.find?_eq_none]
  simp
theorem differB_f {i nl : Nat} {ns : List Int} {gs : List (Int × Int)} {os ns' : List Int} {gs' : List (Int × Int)} {os' : List Int} {x : Nat} :
    differB i nl ns gs os ns' gs' os' x = false ↔ outV gs os (bitsN (x / 2 ^ i) nl) (bitsN x i) = outV gs' os' (bitsN (x / 2 ^ i) nl) (bitsN x i) ∧ outV gs ns (bitsN (x / 2 ^ i) nl) (bitsN x i) = outV gs' ns' (bitsN (x / 2 ^ i) nl) (bitsN x i) := by
  unfold differB
  simp only [Bool.not_eq_false', Bool.and_eq_true, beq_iff_eq]
/-- The two circuits agree for every state and all inputs. -/
def Agree (i : Int) (ns : List Int) (gs : List (Int × Int)) (os ns' : List Int) (gs' : List (Int × Int)) (os' : List Int) : Prop :=
  ∀ st ins : List Bool, st.length = ns.length → (ins.length : Int) = i → outV gs os st ins = outV gs' os' st ins ∧ outV gs ns st ins = outV gs' ns' st ins
theorem agree_iff {i : Int} {ns : List Int} {gs : List (Int × Int)} {os ns' : List Int} {gs' : List (Int × Int)} {os' : List Int} (hi : 0 ≤ i) :
    noDiff i ns gs os ns' gs' os' = true ↔ Agree i ns gs os ns' gs' os' := by
  rw [noDiff_iff]
  constructor
  · intro h st ins hs hin
    obtain ⟨x, hx, e1, e2⟩ := num_ex ins st
    have hn : i.toNat = ins.length := by omega
    have := h x (by rw [hn, ← hs]; exact hx)
    rw [differB_f, hn, ← hs, e1, e2] at this
    exact this
  · intro h x _
    rw [differB_f]
    exact h _ _ (bitsN_len _ _) (by rw [bitsN_len]; omega)
theorem Agree.symm {i : Int} {ns : List Int} {gs : List (Int × Int)} {os ns' : List Int} {gs' : List (Int × Int)} {os' : List Int} (h : Agree i ns gs os ns' gs' os') (hl : ns.length = ns'.length) : Agree i ns' gs' os' ns gs os :=
  fun st ins hs hi => by
    obtain ⟨a, b⟩ := h st ins (by omega) hi
    exact ⟨a.symm, b.symm⟩
theorem equivB_iff {i : Int} {ns : List Int} {gs : List (Int × Int)} {os : List Int} {i' : Int} {ns' : List Int} {gs' : List (Int × Int)} {os' : List Int} :
    equivB i ns gs os i' ns' gs' os' = true ↔ sameIf i ns gs os i' ns' gs' os' = true ∧ Agree i ns gs os ns' gs' os' := by
  unfold equivB
  rw [Bool.and_eq_true]
  constructor
  · rintro ⟨a, b⟩
    exact ⟨a, (agree_iff (valid_within (sameIf_inv a).1).1).1 b⟩
  · rintro ⟨a, b⟩
    exact ⟨a, (agree_iff (valid_within (sameIf_inv a).1).1).2 b⟩
theorem equivB_symm (i : Int) (ns : List Int) (gs : List (Int × Int)) (os : List Int) (i' : Int) (ns' : List Int) (gs' : List (Int × Int)) (os' : List Int) : equivB i ns gs os i' ns' gs' os' = equivB i' ns' gs' os' i ns gs os := by
  rw [Bool.eq_iff_iff, equivB_iff, equivB_iff, sameIf_symm]
  constructor
  · rintro ⟨a, b⟩
    obtain ⟨_, _, e, f, _⟩ := sameIf_inv a
    subst e
    exact ⟨a, b.symm f.symm⟩
  · rintro ⟨a, b⟩
    obtain ⟨_, _, e, f, _⟩ := sameIf_inv a
    subst e
    exact ⟨a, b.symm f⟩
theorem equivB_self (i : Int) (ns : List Int) (gs : List (Int × Int)) (os : List Int) : equivB i ns gs os i ns gs os = validB i ns gs os := by
  rw [Bool.eq_iff_iff, equivB_iff, sameIf_self]
  exact ⟨fun h => h.1, fun h => ⟨h, fun _ _ _ _ => ⟨rfl, rfl⟩⟩⟩
section
variable {i : Int} {ns : List Int} {gs : List (Int × Int)} {os : List Int}
open Opt
theorem opt_agree (h : validB i ns gs os = true) : Agree i ns gs os (optN i ns gs os) (optG i ns gs os) (optO i ns gs os) :=
  fun st ins hs hi => ⟨(opt_outs h st ins hs hi).symm, (opt_next h st ins hs hi).symm⟩
theorem opt_same_if (h : validB i ns gs os = true) : sameIf i ns gs os i (optN i ns gs os) (optG i ns gs os) (optO i ns gs os) = true :=
  sameIf_mk h (opt_valid h) rfl (optN_len h).symm (optO_len h).symm
theorem opt_equiv (h : validB i ns gs os = true) : equivB i ns gs os i (optN i ns gs os) (optG i ns gs os) (optO i ns gs os) = true :=
  equivB_iff.2 ⟨opt_same_if h, opt_agree h⟩
theorem opt_both {i' : Int} {ns' : List Int} {gs' : List (Int × Int)} {os' : List Int} (h : validB i ns gs os = true) (h' : validB i' ns' gs' os' = true) :
    equivB i (optN i ns gs os) (optG i ns gs os) (optO i ns gs os) i' (optN i' ns' gs' os') (optG i' ns' gs' os') (optO i' ns' gs' os') = equivB i ns gs os i' ns' gs' os' := by
  rw [Bool.eq_iff_iff, equivB_iff, equivB_iff]
  have A := opt_agree h
  have A' := opt_agree h'
  constructor
  · rintro ⟨a, b⟩
    obtain ⟨_, _, e, f, g⟩ := sameIf_inv a
    subst e
    rw [optN_len h, optN_len h'] at f
    rw [optO_len h, optO_len h'] at g
    refine ⟨sameIf_mk h h' rfl f g, fun st ins hs hi => ?_⟩
    have h1 := A st ins hs hi
    have h2 := b st ins (by rw [optN_len h]; exact hs) hi
    have h3 := A' st ins (by omega) hi
    exact ⟨(h1.1.trans h2.1).trans h3.1.symm, (h1.2.trans h2.2).trans h3.2.symm⟩
  · rintro ⟨a, b⟩
    obtain ⟨_, _, e, f, g⟩ := sameIf_inv a
    subst e
    refine ⟨sameIf_mk (opt_valid h) (opt_valid h') rfl (by rw [optN_len h, optN_len h']; exact f) (by rw [optO_len h, optO_len h']; exact g), fun st ins hs hi => ?_⟩
    rw [optN_len h] at hs
    have h1 := A st ins hs hi
    have h2 := b st ins hs hi
    have h3 := A' st ins (by omega) hi
    exact ⟨(h1.1.symm.trans h2.1).trans h3.1, (h1.2.symm.trans h2.2).trans h3.2⟩
end
/-- Circuits that agree have equal simulations. -/
theorem agree_sim {i : Int} {ns : List Int} {gs : List (Int × Int)} {os ns' : List Int} {gs' : List (Int × Int)} {os' : List Int} (h : Agree i ns gs os ns' gs' os') :
    ∀ (rs : List (List Bool)) (st : List Bool), st.length = ns.length → (∀ r, r ∈ rs → (r.length : Int) = i) → simV gs os ns rs st = simV gs' os' ns' rs st := by
  intro rs
  induction rs with
  | nil => intro st _ _; rfl
  | cons r rs ih =>
    intro st hs hr
    obtain ⟨a, b⟩ := h st r hs (hr r (by simp))
    rw [simV, simV, a, ← b]
    rw [ih _ (outV_len _ _ _ _) (fun q hq => hr q (by simp [hq]))]
end Circ
/- Plain mathematics: the normal form of an optimized circuit, over integers; no program. -/
namespace Circ
/-- A gate among those from a to j refers to the variable t. -/
def ug (t : Int) (gs : List (Int × Int)) (a j : Nat) : Bool := ((gs.take j).drop a).any fun g => g.1 / 2 == t || g.2 / 2 == t
theorem ug_start (t : Int) (gs : List (Int × Int)) (a : Nat) : ug t gs a a = false := by
  unfold ug
  rw [List.drop_of_length_le (by simp; omega)]
  rfl
theorem ug_step (t : Int) (gs : List (Int × Int)) (a j : Nat) (ha : a ≤ j) (hj : j < gs.length) : ug t gs a (j + 1) = ((ug t gs a j || (gs.getD j (0, 0)).1 / 2 == t) || (gs.getD j (0, 0)).2 / 2 == t) := by
  unfold ug
  rw [List.take_succ_eq_append_getElem hj, List.drop_append_of_le_length (by simp; omega), List.any_append]
  simp only [List.any_cons, List.any_nil, Bool.or_false, List.getD_eq_getElem?_getD, List.getElem?_eq_getElem hj, Option.getD_some, Bool.or_assoc]
/-- A literal refers to the variable t. -/
def ul (t : Int) (xs : List Int) : Bool := xs.any fun x => x / 2 == t
theorem ul_step (t : Int) (xs : List Int) (j : Nat) (hj : j < xs.length) : ul t (xs.take (j + 1)) = (ul t (xs.take j) || xs.getD j 0 / 2 == t) := by
  unfold ul
  rw [List.take_succ_eq_append_getElem hj, List.any_append]
  simp only [List.any_cons, List.any_nil, Bool.or_false, List.getD_eq_getElem?_getD, List.getElem?_eq_getElem hj, Option.getD_some]
structure NF (f : Int) (ns : List Int) (gs : List (Int × Int)) (os : List Int) : Prop where
  low : ∀ k, k < gs.length → 2 ≤ (gs.getD k (0, 0)).1
  ord : ∀ k, k < gs.length → (gs.getD k (0, 0)).1 < (gs.getD k (0, 0)).2
  dif : ∀ k, k < gs.length → (gs.getD k (0, 0)).1 / 2 ≠ (gs.getD k (0, 0)).2 / 2
  ref : ∀ k, k < gs.length → (gs.getD k (0, 0)).2 < 2 * (f + k)
  inj : ∀ k l, k < l → l < gs.length → (gs.getD l (0, 0)).1 ≠ (gs.getD k (0, 0)).1 ∨ (gs.getD l (0, 0)).2 ≠ (gs.getD k (0, 0)).2
  use : ∀ k, k < gs.length → ((ug (f + k) gs (k + 1) gs.length || ul (f + k) os) || ul (f + k) ns) = true
theorem NF.nil (f : Int) : NF f [] [] [] := ⟨fun k h => absurd h (by simp), fun k h => absurd h (by simp), fun k h => absurd h (by simp), fun k h => absurd h (by simp), fun k l _ h => absurd h (by simp), fun k h => absurd h (by simp)⟩
theorem ul_mem {t : Nat} {xs : List Nat} {r : Nat} (h : r ∈ xs) (hr : r / 2 = t) : ul (t : Int) (Opt.intL xs) = true := by
  unfold ul Opt.intL
  rw [List.any_map, List.any_eq_true]
  refine ⟨r, h, ?_⟩
  show ((r : Int) / 2 == (t : Int)) = true
  rw [beq_iff_eq]; omega
theorem ug_mem {t : Nat} {gs : List Opt.G} {a l : Nat} (ha : a ≤ l) (hl : l < gs.length) (h : (Opt.at_ gs l).1 / 2 = t ∨ (Opt.at_ gs l).2 / 2 = t) : ug (t : Int) (Opt.intG gs) a (Opt.intG gs).length = true := by
  have key : ∀ j, l < j → j ≤ gs.length → ug (t : Int) (Opt.intG gs) a j = true := by
    intro j
    induction j with
    | zero => intro h; omega
    | succ j ih =>
      intro h1 h2
      rw [ug_step _ _ _ _ (by omega) (by rw [Opt.intG_len]; omega), Opt.intG_at]
      by_cases e : j = l
      · subst e
        rcases h with h | h
        · have : (((Opt.at_ gs j).1 : Int) / 2 == (t : Int)) = true := by rw [beq_iff_eq]; omega
          simp only [this, Bool.or_true, Bool.true_or]
        · have : (((Opt.at_ gs j).2 : Int) / 2 == (t : Int)) = true := by rw [beq_iff_eq]; omega
          simp only [this, Bool.or_true]
      · rw [ih (by omega) (by omega)]; rfl
  rw [Opt.intG_len]
  exact key _ hl (Nat.le_refl _)
theorem NF.of {f : Nat} {c : Opt.C} (h : Opt.Form f c) : NF (f : Int) (Opt.intL c.ns) (Opt.intG c.gs) (Opt.intL c.os) := by
  refine ⟨fun k hk => ?_, fun k hk => ?_, fun k hk => ?_, fun k hk => ?_, fun k l hkl hl => ?_, fun k hk => ?_⟩
  · rw [Opt.intG_len] at hk; have := h.norm.low k hk; rw [Opt.intG_at]; simp only []; omega
  · rw [Opt.intG_len] at hk; have := h.norm.ord k hk; rw [Opt.intG_at]; simp only []; omega
  · rw [Opt.intG_len] at hk; have := h.norm.dif k hk; rw [Opt.intG_at]; simp only []; omega
  · rw [Opt.intG_len] at hk; have := h.norm.ref k hk; rw [Opt.intG_at]; simp only []; omega
  · rw [Opt.intG_len] at hl
    have := h.norm.inj k l hkl hl
    rw [Opt.intG_at, Opt.intG_at]
    simp only []
    by_cases e : (Opt.at_ c.gs l).1 = (Opt.at_ c.gs k).1
    · right
      intro e2
      exact this (Prod.ext e.symm (by omega))
    · left; omega
  · rw [Opt.intG_len] at hk
    have hc : ((f : Int) + (k : Int)) = ((f + k : Nat) : Int) := by omega
    rw [hc]
    rcases h.use k hk with ⟨r, hr, e⟩ | ⟨l, h1, h2, h3⟩
    · rcases List.mem_append.mp hr with hr | hr
      · rw [ul_mem hr e]; simp
      · rw [ul_mem hr e]; simp
    · rw [ug_mem (a := k + 1) (by omega) h2 h3]; rfl
end Circ
