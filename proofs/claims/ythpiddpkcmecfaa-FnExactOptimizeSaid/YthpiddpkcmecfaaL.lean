/- Plain mathematics of levels and depths; no program. -/
import Derived.Test.YthpiddpkcmecfaaM
namespace Circ
/-- The levels of the variables when the first k gates are known; f variables come before the gates. -/
def lv (gs : List (Int × Int)) (f : Nat) : Nat → List Int
  | 0 => List.replicate f 0
  | k + 1 => lv gs f k ++ [1 + max ((lv gs f k).getD ((gs.getD k (0, 0)).1 / 2).toNat 0) ((lv gs f k).getD ((gs.getD k (0, 0)).2 / 2).toNat 0)]
def levels (gs : List (Int × Int)) (f : Nat) : List Int := lv gs f gs.length
theorem lv_len (gs : List (Int × Int)) (f k : Nat) : (lv gs f k).length = f + k := by
  induction k with
  | zero => simp [lv]
  | succ k ih => simp [lv, ih]; omega
theorem levels_len (gs : List (Int × Int)) (f : Nat) : (levels gs f).length = f + gs.length := lv_len gs f _
theorem getD_app_lt {α : Type} (xs ys : List α) (j : Nat) (d : α) (h : j < xs.length) : (xs ++ ys).getD j d = xs.getD j d := by
  simp [List.getD_eq_getElem?_getD, List.getElem?_append_left h]
theorem getD_app_at {α : Type} (xs : List α) (y d : α) (j : Nat) (h : j = xs.length) : (xs ++ [y]).getD j d = y := by
  subst h
  simp [List.getD_eq_getElem?_getD]
theorem lv_pre (gs : List (Int × Int)) (f k m : Nat) (j : Nat) (hj : j < f + k) : (lv gs f (k + m)).getD j 0 = (lv gs f k).getD j 0 := by
  induction m with
  | zero => rfl
  | succ m ih =>
    rw [← Nat.add_assoc]
    show (lv gs f (k + m) ++ _).getD j 0 = _
    rw [getD_app_lt _ _ _ _ (by rw [lv_len]; omega), ih]
theorem levels_pre (gs : List (Int × Int)) (f k j : Nat) (hk : k ≤ gs.length) (hj : j < f + k) : (levels gs f).getD j 0 = (lv gs f k).getD j 0 := by
  unfold levels
  have h := lv_pre gs f k (gs.length - k) j hj
  rwa [show k + (gs.length - k) = gs.length from by omega] at h
theorem levels_zero (gs : List (Int × Int)) (f j : Nat) (hj : j < f) : (levels gs f).getD j 0 = 0 := by
  rw [levels_pre gs f 0 j (by omega) (by omega)]
  simp [lv, List.getD_eq_getElem?_getD, hj]
theorem levels_at (gs : List (Int × Int)) (f k a b : Nat) (hk : k < gs.length) (ea : ((gs.getD k (0, 0)).1 / 2).toNat = a) (eb : ((gs.getD k (0, 0)).2 / 2).toNat = b) (ha : a < f + k) (hb : b < f + k) :
    (levels gs f).getD (f + k) 0 = 1 + max ((levels gs f).getD a 0) ((levels gs f).getD b 0) := by
  rw [levels_pre gs f (k + 1) (f + k) (by omega) (by omega), levels_pre gs f k a (by omega) ha, levels_pre gs f k b (by omega) hb]
  show (lv gs f k ++ _).getD (f + k) 0 = _
  rw [getD_app_at _ _ _ _ (by rw [lv_len]), ea, eb]
theorem levels_take (gs : List (Int × Int)) (f : Nat) : (levels gs f).take f = List.replicate f 0 := by
  have hl := levels_len gs f
  refine List.ext_getElem (by simp; omega) (fun j h1 h2 => ?_)
  have hj : j < f := by simpa using h2
  have hz := levels_zero gs f j hj
  rw [List.getD_eq_getElem?_getD, List.getElem?_eq_getElem (by omega), Option.getD_some] at hz
  simpa using hz
theorem getD_mem (l : List Int) (j : Nat) (P : Int → Prop) (h0 : P 0) (h : ∀ x ∈ l, P x) : P (l.getD j 0) := by
  by_cases hj : j < l.length
  · rw [List.getD_eq_getElem?_getD, List.getElem?_eq_getElem hj]
    exact h _ (List.getElem_mem hj)
  · rw [List.getD_eq_getElem?_getD, List.getElem?_eq_none (by omega)]
    exact h0
theorem lv_bd (gs : List (Int × Int)) (f k : Nat) : ∀ x ∈ lv gs f k, 0 ≤ x ∧ x ≤ k := by
  induction k with
  | zero => intro x hx; simp [lv] at hx; omega
  | succ k ih =>
    intro x hx
    rw [lv, List.mem_append] at hx
    rcases hx with hx | hx
    · have := ih x hx; omega
    · simp only [List.mem_singleton] at hx
      have h1 := getD_mem (lv gs f k) ((gs.getD k (0, 0)).1 / 2).toNat (fun x => 0 ≤ x ∧ x ≤ k) ⟨by omega, by omega⟩ ih
      have h2 := getD_mem (lv gs f k) ((gs.getD k (0, 0)).2 / 2).toNat (fun x => 0 ≤ x ∧ x ≤ k) ⟨by omega, by omega⟩ ih
      omega
theorem levels_bd (gs : List (Int × Int)) (f j : Nat) : 0 ≤ (levels gs f).getD j 0 ∧ (levels gs f).getD j 0 ≤ gs.length :=
  getD_mem (levels gs f) j (fun x => 0 ≤ x ∧ x ≤ gs.length) ⟨by omega, by omega⟩ (lv_bd gs f gs.length)

/-- The highest level of literals, at least m. -/
def hiFrom (l : List Int) (m : Int) : List Int → Int
  | [] => m
  | x :: r => hiFrom l (max m (l.getD (x / 2).toNat 0)) r
def hi (l xs : List Int) : Int := hiFrom l 0 xs
theorem hiFrom_snoc (l : List Int) (m : Int) (xs : List Int) (x : Int) : hiFrom l m (xs ++ [x]) = max (hiFrom l m xs) (l.getD (x / 2).toNat 0) := by
  induction xs generalizing m with
  | nil => rfl
  | cons y r ih => exact ih _
theorem hi_step (l xs : List Int) (k : Nat) (hk : k < xs.length) : hi l (xs.take (k + 1)) = max (hi l (xs.take k)) (l.getD (xs.getD k 0 / 2).toNat 0) := by
  unfold hi
  rw [List.take_succ_eq_append_getElem hk, hiFrom_snoc]
  simp only [List.getD_eq_getElem?_getD, List.getElem?_eq_getElem hk, Option.getD_some]
theorem hiFrom_append (l : List Int) (m : Int) (xs ys : List Int) : hiFrom l m (xs ++ ys) = hiFrom l (hiFrom l m xs) ys := by
  induction xs generalizing m with
  | nil => rfl
  | cons y r ih => exact ih _
theorem hiFrom_max (l : List Int) (m n : Int) (xs : List Int) : hiFrom l (max m n) xs = max m (hiFrom l n xs) := by
  induction xs generalizing n with
  | nil => rfl
  | cons y r ih =>
    show hiFrom l (max (max m n) (l.getD (y / 2).toNat 0)) r = _
    rw [Int.max_assoc]
    exact ih _
theorem hi_ge (l xs : List Int) : 0 ≤ hi l xs := by
  have h := hiFrom_max l 0 0 xs
  have e : max (0 : Int) 0 = 0 := by omega
  rw [e] at h
  unfold hi
  omega
theorem hi_append (l xs ys : List Int) : hi l (xs ++ ys) = max (hi l xs) (hi l ys) := by
  have h0 := hi_ge l xs
  unfold hi at *
  rw [hiFrom_append]
  have e : hiFrom l 0 xs = max (hiFrom l 0 xs) 0 := by omega
  rw [e, hiFrom_max, ← e]
theorem hi_bd (l xs : List Int) (m : Int) (hm : 0 ≤ m) (h : ∀ j, l.getD j 0 ≤ m) : hi l xs ≤ m := by
  unfold hi
  have key : ∀ n, n ≤ m → hiFrom l n xs ≤ m := by
    induction xs with
    | nil => intro n hn; exact hn
    | cons y r ih => intro n hn; exact ih _ (by have := h (y / 2).toNat; omega)
  exact key 0 hm
def depthZ (i : Int) (ns : List Int) (gs : List (Int × Int)) (os : List Int) : Int :=
  if validB i ns gs os = true then max (hi (levels gs (1 + i + ns.length).toNat) ns) (hi (levels gs (1 + i + ns.length).toNat) os) else -1
theorem depth_t {i : Int} {ns : List Int} {gs : List (Int × Int)} {os : List Int} (h : validB i ns gs os = true) : depthZ i ns gs os = max (hi (levels gs (1 + i + ns.length).toNat) ns) (hi (levels gs (1 + i + ns.length).toNat) os) := by rw [depthZ, if_pos h]
theorem depth_f {i : Int} {ns : List Int} {gs : List (Int × Int)} {os : List Int} (h : validB i ns gs os = false) : depthZ i ns gs os = -1 := by rw [depthZ, if_neg (by rw [h]; decide)]
end Circ
