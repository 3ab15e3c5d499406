/- Plain mathematics of cuts: a cut determines its variable; no program. -/
import Derived.Test.YthcpgbfghededaaQC
namespace Cut
open Opt
/-- The value of l if the members of L have these values. -/
def look (L : List Nat) (bs : List Bool) (l : Nat) : Bool := bs.getD (L.idxOf l) false
theorem look_map {L : List Nat} {val : Nat → Bool} {l : Nat} (h : l ∈ L) : look L (L.map val) l = val l := by
  unfold look
  have hi := List.idxOf_lt_length_of_mem h
  rw [List.getD_eq_getElem?_getD, List.getElem?_map, List.getElem?_eq_getElem hi]
  simp
/-- The leaves determine the variable. -/
def Det (f : Nat) (gs : List G) (v : Nat) (x : List Nat) : Prop := ∃ T : List Bool → Bool, ∀ val : Nat → Bool, Sem f gs val → val v = T (x.map val)
theorem det_own (f : Nat) (gs : List G) (v : Nat) : Det f gs v (own v) := by
  by_cases h : v = 0
  · subst h
    exact ⟨fun _ => false, fun val hs => hs.zero⟩
  · refine ⟨fun bs => bs.getD 0 false, fun val _ => ?_⟩
    unfold Cut.own
    rw [if_neg h]
    rfl
theorem Det.wide {f : Nat} {gs : List G} {v : Nat} {x L : List Nat} (h : Det f gs v x) (hx : ∀ l, l ∈ x → l ∈ L) : Det f gs v L := by
  obtain ⟨T, hT⟩ := h
  refine ⟨fun bs => T (x.map (look L bs)), fun val hs => ?_⟩
  rw [hT val hs]
  congr 1
  exact List.map_congr_left (fun l hl => (look_map (hx l hl)).symm)
theorem det_gate {f : Nat} {gs : List G} {k : Nat} (hk : k < gs.length) {L : List Nat} (ha : Det f gs ((at_ gs k).1 / 2) L) (hb : Det f gs ((at_ gs k).2 / 2) L) : Det f gs (f + k) L := by
  obtain ⟨A, hA⟩ := ha
  obtain ⟨B, hB⟩ := hb
  refine ⟨fun bs => (A bs != ((at_ gs k).1 % 2 == 1)) && (B bs != ((at_ gs k).2 % 2 == 1)), fun val hs => ?_⟩
  rw [hs.gate k hk]
  unfold litB
  rw [hA val hs, hB val hs]
theorem cutsTo_det {f : Nat} {gs : List G} (hg : ordered f gs) : ∀ k, k ≤ gs.length → ∀ v, v < f + k → ∀ x, x ∈ (cutsTo f gs k).getD v [] → Det f gs v x
  | 0, _, v, hv => by
    have e : (cutsTo f gs 0).getD v [] = [own v] := by
      simp [cutsTo, List.getD_eq_getElem?_getD]
      rw [List.getElem?_eq_getElem (by simpa using hv)]
      simp
    rw [e]
    intro x hx
    simp at hx
    subst hx
    exact det_own f gs v
  | k + 1, hk, v, hv => by
    have ih := cutsTo_det hg k (by omega)
    obtain ⟨h1, h2⟩ := hg k hk
    by_cases e : v < f + k
    · have := cutsTo_pre f gs k 1 v e
      rw [this]
      exact ih v e
    · obtain rfl : v = f + k := by omega
      have e1 : (cutsTo f gs (k + 1)).getD (f + k) [] = uni ((cutsTo f gs k).getD ((at_ gs k).1 / 2) []) ((cutsTo f gs k).getD ((at_ gs k).2 / 2) []) ++ [[f + k]] := by
        show (cutsTo f gs k ++ [_]).getD (f + k) [] = _
        exact Circ.getD_app_at _ _ _ _ (by rw [cutsTo_len])
      rw [e1]
      intro x hx
      rcases List.mem_append.1 hx with h | h
      · exact uni_all (P := Det f gs (f + k)) (fun a ha b hb _ => det_gate hk ((ih _ h1 a ha).wide (fun l hl => (merge_mem _ _ _).2 (.inl hl))) ((ih _ h2 b hb).wide (fun l hl => (merge_mem _ _ _).2 (.inr hl)))) x h
      · simp at h
        subst h
        exact ⟨fun bs => bs.getD 0 false, fun val _ => rfl⟩
theorem cuts_det {f : Nat} {gs : List G} (hg : ordered f gs) (v : Nat) (hv : v < f + gs.length) (x : List Nat) (hx : x ∈ (cuts f gs).getD v []) : Det f gs v x := cutsTo_det hg gs.length (Nat.le_refl _) v hv x hx
/-- The last cut of a variable is the variable itself. -/
theorem cuts_last {f : Nat} {gs : List G} (hg : ordered f gs) (v : Nat) (hv : v < f + gs.length) : ((cuts f gs).getD v []).getD (((cuts f gs).getD v []).length - 1) [] = own v ∨ v = 0 := by
  by_cases h : v < f
  · rw [cuts_low f gs v h]; exact .inl rfl
  · obtain ⟨k, rfl⟩ : ∃ k, v = f + k := ⟨v - f, by omega⟩
    by_cases h0 : f + k = 0
    · exact .inr h0
    · left
      rw [cuts_gate f gs k (by omega) hg]
      rw [Circ.getD_app_at _ _ _ _ (by simp)]
      unfold Cut.own
      rw [if_neg h0]

/-- The number of these digits, the first one the lowest. -/
def num : List Bool → Nat
  | [] => 0
  | b :: bs => (if b then 1 else 0) + 2 * num bs
theorem num_lt : ∀ bs : List Bool, num bs < 2 ^ bs.length
  | [] => by simp [num]
  | b :: bs => by
    have := num_lt bs
    simp only [num, List.length_cons, Nat.pow_succ]
    split <;> omega
theorem num_inj : ∀ {a b : List Bool}, a.length = b.length → num a = num b → a = b
  | [], [], _, _ => rfl
  | [], _ :: _, h, _ => by simp at h
  | _ :: _, [], h, _ => by simp at h
  | x :: xs, y :: ys, h, e => by
    simp only [num] at e
    have h1 : xs.length = ys.length := by simpa using h
    cases x <;> cases y <;> simp at e
    · rw [num_inj h1 (by omega)]
    · omega
    · omega
    · rw [num_inj h1 (by omega)]
theorem num_snoc : ∀ (bs : List Bool) (b : Bool), num (bs ++ [b]) = num bs + (if b then 2 ^ bs.length else 0)
  | [], b => by simp [num]
  | x :: xs, b => by
    rw [List.cons_append, num, num_snoc xs b, num, List.length_cons, Nat.pow_succ]
    split <;> split <;> omega
end Cut
