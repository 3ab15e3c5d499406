/- Plain mathematics: removing the last gate, and a gate that refers to itself. -/
import Derived.Test.YtkpcefgchmcjnaaM
namespace Circ
def usesB (last : Int) (xs : List Int) : Bool := xs.any fun x => x / 2 == last
theorem uses_step (last : Int) (xs : List Int) (k : Nat) (hk : k < xs.length) : usesB last (xs.take (k + 1)) = (usesB last (xs.take k) || (xs.getD k 0 / 2 == last)) := by
  unfold usesB
  rw [List.take_succ_eq_append_getElem hk, List.any_append]
  simp only [List.getD_eq_getElem?_getD, List.getElem?_eq_getElem hk, Option.getD_some, List.any_cons, List.any_nil, Bool.or_false]
theorem lits_less {xs : List Int} {c last : Int} (hc : c = last + 1) (h : litsOk xs c = true) : litsOk xs last = !usesB last xs := by
  subst hc
  unfold litsOk usesB at *
  induction xs with
  | nil => rfl
  | cons x r ih =>
    simp only [List.all_cons, List.any_cons, Bool.and_eq_true] at h ⊢
    rw [ih h.2]
    obtain ⟨a, b⟩ := litOk_inv h.1
    by_cases hx : x / 2 = last
    · rw [litOk_f (by omega)]
      simp [hx]
    · rw [litOk_t (by omega) (by omega)]
      have : (x / 2 == last) = false := by simpa using hx
      rw [this]
      simp
theorem within_less {i : Int} {nl gl ol : Nat} (h : withinB i nl (gl + 1) ol = true) : withinB i nl gl ol = true := by
  have := within_inv h
  exact within_t (by omega)
theorem valid_less {i : Int} {ns : List Int} {gs : List (Int × Int)} {g : Int × Int} {os : List Int} (h : validB i ns (gs ++ [g]) os = true) :
    validB i ns gs os = !(usesB (i + ns.length + (gs.length + 1)) os || usesB (i + ns.length + (gs.length + 1)) ns) := by
  have h1 := valid_gates h
  have h2 := valid_next h
  have h3 := valid_outs h
  have hw : withinB i ns.length (gs ++ [g]).length os.length = true := by
    unfold validB at h
    simp only [Bool.and_eq_true] at h
    exact h.1.1.1
  rw [gatesOk_append, Bool.and_eq_true] at h1
  simp only [List.length_append, List.length_cons, List.length_nil, Nat.zero_add] at hw h2 h3
  have e : (1 + i + (ns.length : Int) + (gs.length : Int)) = i + ns.length + (gs.length + 1) := by omega
  unfold validB
  rw [within_less hw, h1.1, e, lits_less (last := i + ns.length + (gs.length + 1)) (by omega) h2, lits_less (last := i + ns.length + (gs.length + 1)) (by omega) h3]
  cases usesB (i + ns.length + (gs.length + 1)) os <;> cases usesB (i + ns.length + (gs.length + 1)) ns <;> rfl
theorem valid_loop {i : Int} {ns : List Int} {gs : List (Int × Int)} {os : List Int} : validB i ns (gs ++ [(2 * (i + ns.length + (gs.length + 1)), 0)]) os = false := by
  have hg : gatesOk (gs ++ [(2 * (i + ns.length + (gs.length + 1)), 0)]) (1 + i + ns.length) = false := by
    rw [gatesOk_append]
    have : litOk (2 * (i + ns.length + (gs.length + 1))) (1 + i + ns.length + gs.length) = false := litOk_f (by omega)
    simp [gatesOk, this]
  unfold validB
  rw [hg]
  simp
end Circ
