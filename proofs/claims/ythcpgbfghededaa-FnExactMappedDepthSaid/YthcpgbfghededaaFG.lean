/- Places in a list of lists that is laid end to end; no program. -/
import Derived.Test.YthcpgbfghededaaQD
namespace Go.Proofs.Ythcpgbfghededaa

/-- How many stand ahead of list r. -/
def sg {α : Type} : List (List α) → Nat → Nat
  | _, 0 => 0
  | [], _ + 1 => 0
  | a :: L, r + 1 => a.length + sg L r
theorem sg_zero {α : Type} (L : List (List α)) : sg L 0 = 0 := by cases L <;> rfl
theorem sg_step {α : Type} : ∀ (L : List (List α)) (r : Nat), r < L.length → sg L (r + 1) = sg L r + (L.getD r []).length
  | [], r, h => by simp at h
  | a :: L, 0, _ => by simp [sg]
  | a :: L, r + 1, h => by
    have := sg_step L r (by simpa using h)
    simp only [sg] at this ⊢
    rw [this]
    simp
    omega
theorem sg_all {α : Type} : ∀ (L : List (List α)), sg L L.length = L.flatten.length
  | [] => rfl
  | a :: L => by simp [sg, sg_all L]
theorem sg_mono {α : Type} (L : List (List α)) {r : Nat} (h : r ≤ L.length) : sg L r ≤ L.flatten.length := by
  rw [← sg_all]
  obtain ⟨d, hd⟩ := Nat.le.dest h
  rw [← hd]
  have : ∀ d, r + d ≤ L.length → sg L r ≤ sg L (r + d) := fun d => by
    induction d with
    | zero => intro _; exact Nat.le_refl _
    | succ d ih =>
      intro h
      have h1 := sg_step L (r + d) (by omega)
      have h2 := ih (by omega)
      show _ ≤ sg L (r + d + 1)
      omega
  exact this d (by omega)
theorem flat_get {α : Type} : ∀ (L : List (List α)) (r j : Nat), r < L.length → j < (L.getD r []).length → L.flatten[sg L r + j]? = (L.getD r [])[j]?
  | [], r, _, h, _ => by simp at h
  | a :: L, 0, j, _, hj => by
    simp at hj
    simp [sg, List.getElem?_append_left hj]
  | a :: L, r + 1, j, h, hj => by
    have := flat_get L r j (by simpa using h) (by simpa using hj)
    simp only [sg, List.flatten_cons]
    rw [List.getElem?_append_right (by omega), show a.length + sg L r + j - a.length = sg L r + j by omega, this]
    simp
theorem flat_split {α : Type} : ∀ (L : List (List α)) (i : Nat), i < L.flatten.length → ∃ r j, r < L.length ∧ j < (L.getD r []).length ∧ i = sg L r + j
  | [], i, h => by simp at h
  | a :: L, i, h => by
    by_cases h1 : i < a.length
    · exact ⟨0, i, by simp, by simpa using h1, by simp [sg]⟩
    · obtain ⟨r, j, hr, hj, e⟩ := flat_split L (i - a.length) (by rw [List.flatten_cons, List.length_append] at h; omega)
      exact ⟨r + 1, j, by simpa using hr, by simpa using hj, by simp only [sg]; omega⟩
theorem sg_congr {α β : Type} : ∀ (L : List (List α)) (M : List (List β)) (r : Nat), L.length = M.length → (∀ k, k < L.length → (L.getD k []).length = (M.getD k []).length) → sg L r = sg M r
  | [], [], r, _, _ => by cases r <;> rfl
  | [], _ :: _, _, h, _ => by simp at h
  | _ :: _, [], _, h, _ => by simp at h
  | a :: L, b :: M, 0, _, _ => rfl
  | a :: L, b :: M, r + 1, h, hk => by
    have h0 := hk 0 (by simp)
    have := sg_congr L M r (by simpa using h) (fun k hk' => by have := hk (k + 1) (by simpa using hk'); simpa using this)
    simp only [sg]
    simp at h0
    omega
theorem sg_le {α : Type} (L : List (List α)) (r : Nat) : ∀ d, r + d ≤ L.length → sg L r ≤ sg L (r + d)
  | 0, _ => Nat.le_refl _
  | d + 1, h => by
    have h1 := sg_step L (r + d) (by omega)
    have h2 := sg_le L r d (by omega)
    show _ ≤ sg L (r + d + 1)
    omega
theorem sg_lt {α : Type} (L : List (List α)) {r r' j j' : Nat} (h : r < r') (hr : r' < L.length) (hj : j < (L.getD r []).length) : sg L r + j < sg L r' + j' := by
  have h1 := sg_step L r (by omega)
  have h2 := sg_le L (r + 1) (r' - (r + 1)) (by omega)
  rw [show r + 1 + (r' - (r + 1)) = r' by omega] at h2
  omega
end Go.Proofs.Ythcpgbfghededaa
