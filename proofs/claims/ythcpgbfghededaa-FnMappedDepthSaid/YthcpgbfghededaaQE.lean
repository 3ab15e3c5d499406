/- Plain mathematics: arrival times as levels of the tables, and levels of the gates above them; no program. -/
import Derived.Test.YthcpgbfghededaaQD
namespace Cut
open Opt
theorem cutsTo_lev {f : Nat} {gs : List G} {L : Nat → Nat} (hg : ordered f gs) (hl : Lev f gs L) : ∀ k, k ≤ gs.length → ∀ v, v < f + k → ∀ x, x ∈ (cutsTo f gs k).getD v [] → ∀ l, l ∈ x → L l ≤ L v
  | 0, _, v, hv => by
    have e : (cutsTo f gs 0).getD v [] = [own v] := by
      simp [cutsTo, List.getD_eq_getElem?_getD]
      rw [List.getElem?_eq_getElem (by simpa using hv)]
      simp
    rw [e]
    intro x hx l hm
    simp at hx
    subst hx
    unfold Cut.own at hm
    split at hm
    · cases hm
    · simp at hm; subst hm; exact Nat.le_refl _
  | k + 1, hk, v, hv => by
    have ih := cutsTo_lev hg hl k (by omega)
    obtain ⟨h1, h2⟩ := hg k hk
    by_cases e : v < f + k
    · have := cutsTo_pre f gs k 1 v e
      rw [this]
      exact ih v e
    · obtain rfl : v = f + k := by omega
      have e1 : (cutsTo f gs (k + 1)).getD (f + k) [] = uni ((cutsTo f gs k).getD ((at_ gs k).1 / 2) []) ((cutsTo f gs k).getD ((at_ gs k).2 / 2) []) ++ [[f + k]] := by
        show (cutsTo f gs k ++ [_]).getD (f + k) [] = _
        exact Circ.getD_app_at _ _ _ _ (by rw [cutsTo_len])
      rw [e1]
      intro x hx l hm
      rcases List.mem_append.1 hx with h | h
      · have hgt := hl.gate k hk
        refine uni_all (P := fun x => ∀ l, l ∈ x → L l ≤ L (f + k)) (fun a ha b hb _ l hl => ?_) x h l hm
        rcases (merge_mem _ _ _).1 hl with h | h
        · have := ih _ h1 a ha l h; omega
        · have := ih _ h2 b hb l h; omega
      · simp at h
        subst h
        simp at hm
        subst hm
        exact Nat.le_refl _
theorem unis_lev {f : Nat} {gs : List G} {L : Nat → Nat} (hg : ordered f gs) (hl : Lev f gs L) {k : Nat} (hk : k < gs.length) : ∀ x, x ∈ unis f gs k → ∀ l, l ∈ x → L l + 1 ≤ L (f + k) := fun x hx l hm => by
  have hgt := hl.gate k hk
  obtain ⟨h1, h2⟩ := hg k hk
  refine uni_all (P := fun x => ∀ l, l ∈ x → L l + 1 ≤ L (f + k)) (fun a ha b hb _ l hm => ?_) x hx l hm
  rcases (merge_mem _ _ _).1 hm with h | h
  · have := cutsTo_lev hg hl gs.length (Nat.le_refl _) _ (by omega) a ha l h; omega
  · have := cutsTo_lev hg hl gs.length (Nat.le_refl _) _ (by omega) b hb l h; omega
theorem times_best {f : Nat} {gs : List G} (hf : 0 < f) (hg : ordered f gs) {k : Nat} (hk : k < gs.length) : (times f gs).getD (f + k) 0 = 1 + late (times f gs) ((bests f gs).getD (f + k) []) := by
  rw [times_gate0 f gs hk, late_pre f gs (Nat.le_of_lt hk) (fun l hl => best_lt hf hg (f + k) l hl)]
/-- An arrival time is at most the level. -/
theorem times_le {f : Nat} {gs : List G} {L : Nat → Nat} (hf : 0 < f) (hg : ordered f gs) (hl : Lev f gs L) (v : Nat) : v < f + gs.length → (times f gs).getD v 0 ≤ L v := by
  induction v using Nat.strongRecOn with
  | _ v ih =>
    intro hv
    by_cases h : v < f
    · rw [times_low f gs h]; exact Nat.zero_le _
    · obtain ⟨k, rfl⟩ : ∃ k, v = f + k := ⟨v - f, by omega⟩
      have hk : k < gs.length := by omega
      rw [times_best hf hg hk]
      have hm := bests_mem hf hg hk
      have h1 : 1 ≤ L (f + k) := by have := hl.gate k hk; omega
      have := late_le (arr := times f gs) (n := L (f + k) - 1) (x := (bests f gs).getD (f + k) []) (fun l hx => by
        have h2 := unis_lev hg hl hk _ hm l hx
        have h3 := best_lt hf hg (f + k) l hx
        have h4 := ih l h3 (by omega)
        omega)
      omega
/-- The levels behind the first k tables. -/
def levT (n : Nat) (es : List Lt) : Nat → List Nat
  | 0 => List.replicate n 0
  | k + 1 => (levT n es k).set (es.getD k (0, [], 0)).1 (1 + late (levT n es k) (es.getD k (0, [], 0)).2.1)
theorem levT_len (n : Nat) (es : List Lt) : ∀ k, (levT n es k).length = n
  | 0 => by simp [levT]
  | k + 1 => by simp [levT, levT_len n es k]
theorem set_getD {l : List Nat} {v u t : Nat} (hv : v < l.length) : (l.set v t).getD u 0 = if u = v then t else l.getD u 0 := by
  simp only [List.getD_eq_getElem?_getD, List.getElem?_set]
  by_cases e : v = u
  · subst e; simp [hv]
  · rw [if_neg e, if_neg (fun h => e h.symm)]
structure LutT (f : Nat) (gs : List G) (es : List Lt) : Prop where
  gate : ∀ k, k < es.length → f ≤ (es.getD k (0, [], 0)).1
  time : ∀ k, k < es.length → (times f gs).getD (es.getD k (0, [], 0)).1 0 = 1 + late (times f gs) (es.getD k (0, [], 0)).2.1
theorem lutsV_t {f : Nat} {gs : List G} (hf : 0 < f) (hg : ordered f gs) (ns os : List Nat) : LutT f gs (lutsV f gs ns os) := by
  have form : ∀ k, k < (lutsV f gs ns os).length → ∃ j, j < gs.length ∧ (lutsV f gs ns os).getD k (0, [], 0) = lutOf f gs (bests f gs) (f + j) := fun k hk => by
    obtain ⟨j, h1, _, h3⟩ := luts_form gs.length _ (memD0 (d := (0, [], 0)) hk)
    exact ⟨j, h1, h3⟩
  refine ⟨fun k hk => ?_, fun k hk => ?_⟩
  · obtain ⟨j, h1, h2⟩ := form k hk
    rw [h2]
    exact Nat.le_add_right _ _
  · obtain ⟨j, h1, h2⟩ := form k hk
    rw [h2]
    exact times_best hf hg h1
/-- A level is the arrival time where a table is ahead, and 0 elsewhere. -/
theorem levT_at {f : Nat} {gs : List G} {ns os : List Nat} {es : List Lt} (K : LutK f gs ns os es) (T : LutT f gs es) {n : Nat} (hn : f + gs.length = n) : ∀ k, k ≤ es.length → ∀ v, (levT n es k).getD v 0 = if v ∈ (es.take k).map (·.1) then (times f gs).getD v 0 else 0
  | 0, _, v => by
    simp [levT, List.getD_eq_getElem?_getD, List.getElem?_replicate]
    split <;> rfl
  | k + 1, hk, v => by
    have ih := levT_at K T hn k (by omega)
    have hb := (K.bd k hk).1
    have hl : late (levT n es k) (es.getD k (0, [], 0)).2.1 = late (times f gs) (es.getD k (0, [], 0)).2.1 := by
      refine late_congr (fun l hm => ?_)
      rw [ih l]
      by_cases h : l < f
      · rw [times_low f gs h]; split <;> rfl
      · rw [if_pos (K.ahead k hk l hm (by omega))]
    have e : (es.take (k + 1)).map (·.1) = (es.take k).map (·.1) ++ [(es.getD k (0, [], 0)).1] := by
      have hkl : k < es.length := hk
      rw [List.take_succ_eq_append_getElem hkl, List.map_append]
      simp [List.getD_eq_getElem?_getD, hkl]
    show ((levT n es k).set (es.getD k (0, [], 0)).1 (1 + late (levT n es k) (es.getD k (0, [], 0)).2.1)).getD v 0 = _
    rw [set_getD (by rw [levT_len]; omega), hl, ← T.time k hk, e, ih v]
    by_cases h : v = (es.getD k (0, [], 0)).1
    · rw [if_pos h, if_pos (by rw [h]; simp), h]
    · rw [if_neg h]
      have : (v ∈ (es.take k).map (·.1) ++ [(es.getD k (0, [], 0)).1]) ↔ v ∈ (es.take k).map (·.1) := by simp only [List.mem_append, List.mem_singleton, h, or_false]
      simp only [this]
/-- What the law reads at a root. -/
theorem levT_root {f : Nat} {gs : List G} {ns os : List Nat} {es : List Lt} (K : LutK f gs ns os es) (T : LutT f gs es) {n : Nat} (hn : f + gs.length = n) {r : Nat} (hr : r ∈ os ++ ns) : (levT n es es.length).getD (r / 2) 0 = (times f gs).getD (r / 2) 0 := by
  rw [levT_at K T hn es.length (Nat.le_refl _), List.take_length]
  by_cases h : r / 2 < f
  · rw [times_low f gs h]; split <;> rfl
  · rw [if_pos (K.root r hr (by omega))]
theorem levT_le {f : Nat} {gs : List G} {ns os : List Nat} {es : List Lt} (K : LutK f gs ns os es) (T : LutT f gs es) {n : Nat} (hn : f + gs.length = n) (k : Nat) (hk : k ≤ es.length) (v : Nat) : (levT n es k).getD v 0 ≤ gs.length := by
  rw [levT_at K T hn k hk v]
  split
  · exact arr_le _ _ _ _
  · exact Nat.zero_le _
theorem hiFrom_mono (l l' : List Int) : ∀ (xs : List Int) (m m' : Int), m ≤ m' → (∀ x, x ∈ xs → l.getD (x / 2).toNat 0 ≤ l'.getD (x / 2).toNat 0) → Circ.hiFrom l m xs ≤ Circ.hiFrom l' m' xs := by
  intro xs
  induction xs with
  | nil => intro m m' h _; exact h
  | cons x r ih =>
    intro m m' h hx
    show Circ.hiFrom l (max m (l.getD (x / 2).toNat 0)) r ≤ Circ.hiFrom l' (max m' (l'.getD (x / 2).toNat 0)) r
    have h1 := hx x (by simp)
    exact ih _ _ (by omega) (fun y hy => hx y (by simp [hy]))
end Cut
