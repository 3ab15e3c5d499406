/- Plain mathematics of simulation: values of literals and of all variables, one clock cycle, a run; no program. -/
import Derived.Test.YthpiddpkcmecfaaM
namespace Circ
def litV (v : List Bool) (lit : Int) : Bool := v.getD (lit / 2).toNat false != (lit % 2 == 1)
def vals : List (Int × Int) → List Bool → List Bool
  | [], v => v
  | g :: r, v => vals r (v ++ [litV v g.1 && litV v g.2])
theorem vals_pre (gs : List (Int × Int)) (v : List Bool) : ∃ t, vals gs v = v ++ t ∧ t.length = gs.length := by
  induction gs generalizing v with
  | nil => exact ⟨[], by simp [vals], rfl⟩
  | cons g r ih =>
    obtain ⟨t, h, hl⟩ := ih (v ++ [litV v g.1 && litV v g.2])
    exact ⟨(litV v g.1 && litV v g.2) :: t, by rw [vals, h]; simp, by simp [hl]⟩
theorem vals_len (gs : List (Int × Int)) (v : List Bool) : (vals gs v).length = v.length + gs.length := by
  obtain ⟨t, h, hl⟩ := vals_pre gs v
  rw [h, List.length_append, hl]
theorem vals_append (xs ys : List (Int × Int)) (v : List Bool) : vals (xs ++ ys) v = vals ys (vals xs v) := by
  induction xs generalizing v with
  | nil => rfl
  | cons g r ih => rw [List.cons_append, vals, vals, ih]
theorem vals_snoc (gs : List (Int × Int)) (k : Nat) (v : List Bool) (hk : k < gs.length) :
    vals (gs.take (k + 1)) v = vals (gs.take k) v ++ [litV (vals (gs.take k) v) (gs.getD k (0, 0)).1 && litV (vals (gs.take k) v) (gs.getD k (0, 0)).2] := by
  rw [List.take_succ_eq_append_getElem hk, vals_append]
  simp only [vals, List.getD_eq_getElem?_getD, List.getElem?_eq_getElem hk, Option.getD_some]
theorem vals_take_len (gs : List (Int × Int)) (k : Nat) (v : List Bool) (hk : k ≤ gs.length) : (vals (gs.take k) v).length = v.length + k := by
  rw [vals_len, List.length_take, Nat.min_eq_left hk]
theorem vals_full (gs : List (Int × Int)) (k : Nat) (v : List Bool) : ∃ t, vals gs v = vals (gs.take k) v ++ t := by
  obtain ⟨t, h, _⟩ := vals_pre (gs.drop k) (vals (gs.take k) v)
  refine ⟨t, ?_⟩
  rw [← h, ← vals_append, List.take_append_drop]
theorem getD_app_left (a t : List Bool) (j : Nat) (h : j < a.length) : (a ++ t).getD j false = a.getD j false := by
  rw [List.getD_eq_getElem?_getD, List.getD_eq_getElem?_getD, List.getElem?_append_left h]
theorem litV_app (a t : List Bool) (lit : Int) (h0 : 0 ≤ lit) (h : lit < 2 * (a.length : Int)) : litV (a ++ t) lit = litV a lit := by
  unfold litV
  rw [getD_app_left a t _ (by omega)]
/-- The value of gate k in the full list of values. -/
theorem vals_at (gs : List (Int × Int)) (k : Nat) (v : List Bool) (hk : k < gs.length) (hok : gatesOk gs v.length = true) :
    (vals gs v).getD (v.length + k) false = (litV (vals gs v) (gs.getD k (0, 0)).1 && litV (vals gs v) (gs.getD k (0, 0)).2) := by
  obtain ⟨o1, o2⟩ := gatesOk_get hok hk
  obtain ⟨a1, a2⟩ := litOk_inv o1
  obtain ⟨b1, b2⟩ := litOk_inv o2
  obtain ⟨t, ht⟩ := vals_full gs (k + 1) v
  have hl := vals_take_len gs k v (by omega)
  have hs := vals_snoc gs k v hk
  rw [hs] at ht
  rw [ht, List.append_assoc, litV_app _ _ _ a1 (by rw [hl]; omega), litV_app _ _ _ b1 (by rw [hl]; omega), ← List.append_assoc, getD_app_left _ t _ (by simp [hl]), List.getD_eq_getElem?_getD, ← hl]
  simp
theorem vals_low (gs : List (Int × Int)) (v : List Bool) (j : Nat) (h : j < v.length) : (vals gs v).getD j false = v.getD j false := by
  obtain ⟨t, ht, _⟩ := vals_pre gs v
  rw [ht, getD_app_left _ _ _ h]
def litsV (v : List Bool) (xs : List Int) : List Bool := xs.map (litV v)
theorem litsV_len (v : List Bool) (xs : List Int) : (litsV v xs).length = xs.length := by simp [litsV]
theorem litsV_get (v : List Bool) (xs : List Int) (k : Nat) (hk : k < xs.length) : (litsV v xs).getD k false = litV v (xs.getD k 0) := by
  simp [litsV, List.getD_eq_getElem?_getD, hk]
/-- The values of all variables for a state and inputs. -/
def valsOf (gs : List (Int × Int)) (st ins : List Bool) : List Bool := vals gs (false :: (ins ++ st))
def outV (gs : List (Int × Int)) (os : List Int) (st ins : List Bool) : List Bool := litsV (valsOf gs st ins) os
theorem valsOf_len (gs : List (Int × Int)) (st ins : List Bool) : (valsOf gs st ins).length = 1 + ins.length + st.length + gs.length := by
  rw [valsOf, vals_len]; simp; omega
def simV (gs : List (Int × Int)) (os ns : List Int) : List (List Bool) → List Bool → List (List Bool)
  | [], _ => []
  | r :: rs, st => outV gs os st r :: simV gs os ns rs (outV gs ns st r)
/-- The state that rows lead to. -/
def runV (gs : List (Int × Int)) (ns : List Int) : List (List Bool) → List Bool → List Bool
  | [], st => st
  | r :: rs, st => runV gs ns rs (outV gs ns st r)
theorem runV_append (gs : List (Int × Int)) (ns : List Int) (xs ys : List (List Bool)) (st : List Bool) : runV gs ns (xs ++ ys) st = runV gs ns ys (runV gs ns xs st) := by
  induction xs generalizing st with
  | nil => rfl
  | cons r rs ih => exact ih _
theorem simV_append (gs : List (Int × Int)) (os ns : List Int) (xs ys : List (List Bool)) (st : List Bool) : simV gs os ns (xs ++ ys) st = simV gs os ns xs st ++ simV gs os ns ys (runV gs ns xs st) := by
  induction xs generalizing st with
  | nil => rfl
  | cons r rs ih => simp only [List.cons_append, simV, runV, ih]
theorem simV_len (gs : List (Int × Int)) (os ns : List Int) (rs : List (List Bool)) (st : List Bool) : (simV gs os ns rs st).length = rs.length := by
  induction rs generalizing st with
  | nil => rfl
  | cons r rs ih => simp [simV, ih]
theorem simV_take (gs : List (Int × Int)) (os ns : List Int) (rs : List (List Bool)) (st : List Bool) (k : Nat) : (simV gs os ns rs st).take k = simV gs os ns (rs.take k) st := by
  induction rs generalizing st k with
  | nil => simp [simV]
  | cons r rs ih =>
    cases k with
    | zero => rfl
    | succ k => simp only [simV, List.take_succ_cons, ih]
theorem runV_step (gs : List (Int × Int)) (ns : List Int) (rs : List (List Bool)) (st : List Bool) (k : Nat) (hk : k < rs.length) : runV gs ns (rs.take (k + 1)) st = outV gs ns (runV gs ns (rs.take k) st) (rs.getD k []) := by
  rw [List.take_succ_eq_append_getElem hk, runV_append]
  simp only [runV, List.getD_eq_getElem?_getD, List.getElem?_eq_getElem hk, Option.getD_some]
theorem simV_step (gs : List (Int × Int)) (os ns : List Int) (rs : List (List Bool)) (st : List Bool) (k : Nat) (hk : k < rs.length) : simV gs os ns (rs.take (k + 1)) st = simV gs os ns (rs.take k) st ++ [outV gs os (runV gs ns (rs.take k) st) (rs.getD k [])] := by
  rw [List.take_succ_eq_append_getElem hk, simV_append]
  simp only [simV, List.getD_eq_getElem?_getD, List.getElem?_eq_getElem hk, Option.getD_some]
theorem outV_len (gs : List (Int × Int)) (os : List Int) (st ins : List Bool) : (outV gs os st ins).length = os.length := litsV_len _ _
theorem runV_len (gs : List (Int × Int)) (ns : List Int) (rs : List (List Bool)) (st : List Bool) (h : st.length = ns.length) : (runV gs ns rs st).length = ns.length := by
  induction rs generalizing st with
  | nil => exact h
  | cons r rs ih => exact ih _ (outV_len _ _ _ _)

/-- A machine word whose bits are the values of a list. -/
def Bits (m : Nat) (L : List Bool) : Prop := m < 18446744073709551616 ∧ ∀ j, m.testBit j = L.getD j false
theorem getD_snoc (L : List Bool) (b : Bool) (j : Nat) : (L ++ [b]).getD j false = if j < L.length then L.getD j false else if j = L.length then b else false := by
  rw [List.getD_eq_getElem?_getD, List.getD_eq_getElem?_getD, List.getElem?_append]
  split
  · rfl
  · split
    · next h => subst h; simp
    · rw [List.getElem?_eq_none (by simp; omega)]; rfl
theorem Bits.one : Bits 0 [false] := ⟨by omega, fun j => by cases j <;> simp⟩
theorem Bits.snocF {m : Nat} {L : List Bool} (h : Bits m L) : Bits m (L ++ [false]) := ⟨h.1, fun j => by
  rw [h.2 j, getD_snoc]
  split
  · rfl
  · rw [List.getD_eq_getElem?_getD, List.getElem?_eq_none (by omega)]; simp⟩
theorem Bits.snocT {m : Nat} {L : List Bool} (h : Bits m L) (hl : L.length < 64) : Bits (m ||| 2 ^ L.length) (L ++ [true]) := by
  refine ⟨?_, fun j => ?_⟩
  · have h1 := h.1
    have h2 : 2 ^ L.length < 2 ^ 64 := Nat.pow_lt_pow_right (by omega) hl
    have := Nat.or_lt_two_pow (n := 64) (x := m) (by omega) h2
    omega
  · rw [Nat.testBit_or, Nat.testBit_two_pow, h.2 j, getD_snoc]
    by_cases h1 : j < L.length
    · rw [if_pos h1]
      have : ¬ L.length = j := by omega
      simp [this]
    · rw [if_neg h1]
      by_cases h2 : j = L.length
      · simp [h2]
      · have : ¬ L.length = j := by omega
        rw [if_neg h2, List.getD_eq_getElem?_getD, List.getElem?_eq_none (by omega)]
        simp [this]
theorem Bits.snoc {m : Nat} {L : List Bool} (h : Bits m L) (hl : L.length < 64) (b : Bool) : Bits (if b = true then m ||| 2 ^ L.length else m) (L ++ [b]) := by
  cases b
  · exact h.snocF
  · exact h.snocT hl
end Circ
