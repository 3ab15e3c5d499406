/- Plain mathematics: the depth's bounds; complementing the outputs changes neither validity nor depth. -/
import Derived.Test.YtkpcefgchmcjnaaL
namespace Circ
theorem depth_bd {i : Int} {ns : List Int} {gs : List (Int × Int)} {os : List Int} (h : validB i ns gs os = true) : 0 ≤ depthZ i ns gs os ∧ depthZ i ns gs os ≤ gs.length := by
  rw [depth_t h]
  have h1 := hi_ge (levels gs (1 + i + ns.length).toNat) ns
  have h2 := hi_ge (levels gs (1 + i + ns.length).toNat) os
  have h3 := hi_bd (levels gs (1 + i + ns.length).toNat) ns gs.length (by omega) (fun j => (levels_bd gs _ j).2)
  have h4 := hi_bd (levels gs (1 + i + ns.length).toNat) os gs.length (by omega) (fun j => (levels_bd gs _ j).2)
  omega
theorem hiFrom_map (l : List Int) (f : Int → Int) (xs : List Int) (h : ∀ x ∈ xs, f x / 2 = x / 2) (m : Int) : hiFrom l m (xs.map f) = hiFrom l m xs := by
  induction xs generalizing m with
  | nil => rfl
  | cons y r ih =>
    show hiFrom l (max m (l.getD (f y / 2).toNat 0)) (r.map f) = hiFrom l (max m (l.getD (y / 2).toNat 0)) r
    rw [h y (by simp)]
    exact ih (fun x hx => h x (by simp [hx])) _
theorem litsOk_map (f : Int → Int) (xs : List Int) (c : Int) (h : ∀ x ∈ xs, litOk x c = true → litOk (f x) c = true) (ho : litsOk xs c = true) : litsOk (xs.map f) c = true := by
  unfold litsOk at *
  rw [List.all_eq_true] at *
  intro y hy
  obtain ⟨x, hx, rfl⟩ := List.mem_map.1 hy
  exact h x hx (ho x hx)
theorem outs_lits {i : Int} {ns : List Int} {gs : List (Int × Int)} {os : List Int} (h : validB i ns gs os = true) : ∀ x ∈ os, 0 ≤ x ∧ x < 2 * (1 + i + ns.length + gs.length) := by
  have ho := valid_outs h
  unfold litsOk at ho
  rw [List.all_eq_true] at ho
  exact fun x hx => litOk_inv (ho x hx)
theorem valid_map {i : Int} {ns : List Int} {gs : List (Int × Int)} {os : List Int} (f : Int → Int) (h : validB i ns gs os = true) (hf : ∀ x, 0 ≤ x → x < 1000 → f x / 2 = x / 2) : validB i ns gs (os.map f) = true ∧ depthZ i ns gs (os.map f) = depthZ i ns gs os := by
  have hw := valid_within h
  have hl := outs_lits h
  have hv : validB i ns gs (os.map f) = true := by
    unfold validB at h ⊢
    simp only [Bool.and_eq_true, List.length_map] at h ⊢
    refine ⟨h.1, litsOk_map f os _ (fun x hx hx2 => ?_) h.2⟩
    obtain ⟨a, b⟩ := litOk_inv hx2
    have := hf x a (by omega)
    exact litOk_t (by omega) (by omega)
  refine ⟨hv, ?_⟩
  rw [depth_t hv, depth_t h]
  unfold hi
  rw [hiFrom_map _ f os (fun x hx => hf x (hl x hx).1 (by have := (hl x hx).2; omega))]
theorem xor_half (a : Nat) : (a ^^^ 1) / 2 = a / 2 := by
  rw [Nat.xor_div_two]
  simp
end Circ
