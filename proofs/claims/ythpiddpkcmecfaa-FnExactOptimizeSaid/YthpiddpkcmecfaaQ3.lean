/- Plain mathematics of optimization: the values and the levels of the optimized circuit. -/
import Derived.Test.YthpiddpkcmecfaaQ2
namespace Opt
def litB (v : Nat → Bool) (l : Nat) : Bool := v (l / 2) != (l % 2 == 1)
/-- Values of the variables that fit the gates. -/
structure Sem (f : Nat) (gs : List G) (v : Nat → Bool) : Prop where
  zero : v 0 = false
  gate : ∀ k, k < gs.length → v (f + k) = (litB v (at_ gs k).1 && litB v (at_ gs k).2)
/-- Levels of the variables that fit the gates. -/
structure Lev (f : Nat) (gs : List G) (L : Nat → Nat) : Prop where
  base : ∀ v, v < f → L v = 0
  gate : ∀ k, k < gs.length → L (f + k) = 1 + max (L ((at_ gs k).1 / 2)) (L ((at_ gs k).2 / 2))
theorem Sem.pre {f : Nat} {x t : List G} {v : Nat → Bool} (h : Sem f (x ++ t) v) : Sem f x v := ⟨h.zero, fun k hk => by have := h.gate k (by simp; omega); rwa [at_lt hk] at this⟩
theorem Lev.pre {f : Nat} {x t : List G} {L : Nat → Nat} (h : Lev f (x ++ t) L) : Lev f x L := ⟨h.base, fun k hk => by have := h.gate k (by simp; omega); rwa [at_lt hk] at this⟩
theorem litB_xl (v : Nat → Bool) (x p : Nat) (hp : p < 2) : litB v (xl x p) = (litB v x != (p == 1)) := by
  unfold litB
  rw [xl_var]
  have h1 : p = 0 ∨ p = 1 := by omega
  rcases h1 with rfl | rfl
  · simp [xl]
  · rcases Nat.mod_two_eq_zero_or_one x with e | e
    · have : xl x 1 % 2 = 1 := by simp [xl, neg1, e]; omega
      rw [this, e]
      cases v (x / 2) <;> rfl
    · have : xl x 1 % 2 = 0 := by simp [xl, neg1, e]; omega
      rw [this, e]
      cases v (x / 2) <;> rfl
theorem litB_zero {v : Nat → Bool} (h : v 0 = false) : litB v 0 = false := by simp [litB, h]
theorem litB_one {v : Nat → Bool} (h : v 0 = false) : litB v 1 = true := by simp [litB, h]
theorem litB_neg (v : Nat → Bool) {a : Nat} (h : a % 2 = 0) : litB v (a + 1) = !litB v a := by
  unfold litB
  rw [show (a + 1) / 2 = a / 2 by omega, show (a + 1) % 2 = 1 by omega, h]
  cases v (a / 2) <;> rfl
theorem litB_even (v : Nat → Bool) (k : Nat) : litB v (2 * k) = v k := by
  unfold litB
  rw [show 2 * k / 2 = k by omega, show 2 * k % 2 = 0 by omega]
  simp
theorem and_minmax (P : Nat → Bool) (a b : Nat) : (P (min a b) && P (max a b)) = (P a && P b) := by
  rcases Nat.le_total a b with h | h
  · rw [Nat.min_eq_left h, Nat.max_eq_right h]
  · rw [Nat.min_eq_right h, Nat.max_eq_left h, Bool.and_comm]
theorem max_minmax (P : Nat → Nat) (a b : Nat) : max (P (min a b)) (P (max a b)) = max (P a) (P b) := by
  rcases Nat.le_total a b with h | h
  · rw [Nat.min_eq_left h, Nat.max_eq_right h]
  · rw [Nat.min_eq_right h, Nat.max_eq_left h, Nat.max_comm]

theorem and3_sem {f : Nat} {x : List G} {a b : Nat} {y : Nat → Bool} (h : Sem f (and3 f x a b).1 y) : litB y (and3 f x a b).2 = (litB y a && litB y b) := by
  rw [← and_minmax (litB y) a b]
  have hz := h.zero
  unfold and3 at h ⊢
  generalize min a b = lo at *
  generalize max a b = hi at *
  split
  · next e =>
    rcases e with rfl | ⟨rfl, e⟩
    · simp [litB_zero hz]
    · rw [litB_zero hz, litB_neg y e]
      cases litB y lo <;> rfl
  · next e1 =>
    rw [if_neg e1] at h
    split
    · next e =>
      rcases e with rfl | rfl
      · simp [litB_one hz]
      · cases litB y lo <;> rfl
    · next e2 =>
      rw [if_neg e2] at h
      split
      · next e =>
        rw [if_pos e] at h
        rw [litB_even, h.gate _ e, idx_at e]
      · next e =>
        rw [if_neg e] at h
        rw [litB_even, h.gate x.length (by simp), at_eq]
theorem and3_lev {f : Nat} {x : List G} {a b : Nat} {L : Nat → Nat} (hf : 0 < f) (h : Lev f (and3 f x a b).1 L) : L ((and3 f x a b).2 / 2) ≤ 1 + max (L (a / 2)) (L (b / 2)) := by
  rw [← max_minmax (fun z => L (z / 2)) a b]
  have hz := h.base 0 hf
  unfold and3 at h ⊢
  generalize min a b = lo at *
  generalize max a b = hi at *
  split
  · simp [hz]
  · next e1 =>
    rw [if_neg e1] at h
    split
    · show L (hi / 2) ≤ 1 + max (L (lo / 2)) (L (hi / 2)); omega
    · next e2 =>
      rw [if_neg e2] at h
      split
      · next e =>
        rw [if_pos e] at h
        have := h.gate _ e
        rw [idx_at e] at this
        show L (2 * (f + idx x (lo, hi)) / 2) ≤ _
        rw [show 2 * (f + idx x (lo, hi)) / 2 = f + idx x (lo, hi) by omega, this]
        exact Nat.le_refl _
      · next e =>
        rw [if_neg e] at h
        have := h.gate x.length (by simp)
        rw [at_eq] at this
        show L (2 * (f + x.length) / 2) ≤ _
        rw [show 2 * (f + x.length) / 2 = f + x.length by omega, this]
        exact Nat.le_refl _
theorem and3_app (f : Nat) (x : List G) (a b : Nat) : ∃ t, (and3 f x a b).1 = x ++ t := by
  unfold and3
  split
  · exact ⟨[], by simp⟩
  · split
    · exact ⟨[], by simp⟩
    · split
      · exact ⟨[], by simp⟩
      · exact ⟨_, rfl⟩
theorem bstep_app (f : Nat) (s : List G × List Nat) (g : G × Bool) : ∃ t, (bstep true f s g).1 = s.1 ++ t := by
  unfold bstep
  split
  · exact and3_app _ _ _ _
  · exact ⟨[], by simp⟩
theorem built_app (f : Nat) (gs : List (G × Bool)) (k : Nat) (hk : k ≤ gs.length) : ∃ t, (built true f gs).1 = (built true f (gs.take k)).1 ++ t := by
  obtain ⟨d, hd⟩ : ∃ d, gs.length = k + d := ⟨gs.length - k, by omega⟩
  have key : ∀ e, k + e ≤ gs.length → ∃ t, (built true f (gs.take (k + e))).1 = (built true f (gs.take k)).1 ++ t := by
    intro e
    induction e with
    | zero => intro _; exact ⟨[], by simp⟩
    | succ e ih =>
      intro he
      obtain ⟨t, ht⟩ := ih (by omega)
      rw [← Nat.add_assoc, built_snoc _ _ _ _ (by omega)]
      obtain ⟨t', ht'⟩ := bstep_app f (built true f (gs.take (k + e))) (gs.getD (k + e) ((0, 0), false))
      exact ⟨t ++ t', by rw [ht', ht, List.append_assoc]⟩
  obtain ⟨t, ht⟩ := key d (by omega)
  rw [List.take_of_length_le (by omega)] at ht
  exact ⟨t, ht⟩

section
variable {f : Nat} {gs : List G} {u : List Bool} {roots : List Nat}
theorem built_sem (hf : 0 < f) (hg : ordered f gs) (hu : Use f gs roots u) {v y : Nat → Bool} (hv : Sem f gs v) (hy : Sem f (built true f (gs.zip u)).1 y) (hb : ∀ w, w < f → y w = v w) :
    ∀ k, k ≤ gs.length → ∀ t, t < f + k → live f (gs.zip u) t → litB y ((built true f ((gs.zip u).take k)).2.getD t 0) = v t := by
  have hl := zip_len gs u hu.len
  have hG := built_good hf (gs.zip u) (ordered_gOk hg u hu.len)
  intro k
  induction k with
  | zero =>
    intro _ t ht _
    show litB y ((evens f).getD t 0) = v t
    rw [evens_get (by omega), litB_even]
    exact hb t (by omega)
  | succ k ih =>
    intro hk t ht hlt
    have I := ih (by omega)
    have GK := hG k (by omega)
    obtain ⟨tl, htl⟩ := built_app f (gs.zip u) (k + 1) (by omega)
    rw [htl] at hy
    have hy' := hy.pre
    rw [built_snoc _ _ _ _ (by omega)] at hy' ⊢
    by_cases e : t = f + k
    · subst e
      have hU : U (gs.zip u) k = true := by
        rcases hlt with hlt | ⟨_, hlt⟩
        · omega
        · rwa [show f + k - f = k by omega] at hlt
      have hU' : ((gs.zip u).getD k ((0, 0), false)).2 = true := hU
      obtain ⟨l1, l2⟩ := hu.of.live f _ (ordered_gOk hg u hu.len) (by omega : k < (gs.zip u).length) hU
      obtain ⟨o1, o2⟩ := hg k (by omega)
      have eA : ((gs.zip u).getD k ((0, 0), false)).1.1 = (at_ gs k).1 := zip_A gs u hu.len (by omega)
      have eB : ((gs.zip u).getD k ((0, 0), false)).1.2 = (at_ gs k).2 := zip_B gs u hu.len (by omega)
      rw [zip_A gs u hu.len (by omega)] at l1
      rw [zip_B gs u hu.len (by omega)] at l2
      unfold bstep at hy' ⊢
      rw [if_pos hU', if_pos rfl] at hy' ⊢
      rw [eA, eB] at hy' ⊢
      have lit : ∀ l, l / 2 < f + k → live f (gs.zip u) (l / 2) → litB y (mapL (built true f ((gs.zip u).take k)).2 l) = litB v l := fun l h1 h2 => by
        unfold mapL
        rw [litB_xl _ _ _ (Nat.mod_lt _ (by omega)), I _ h1 h2]
        rfl
      show litB y (((built true f ((gs.zip u).take k)).2 ++ [_]).getD (f + k) 0) = _
      rw [← GK.len, getD_app_eq, and3_sem hy', lit _ o1 l1, lit _ o2 l2, GK.len, hv.gate k (by omega)]
    · have hm : ∀ z, ((built true f ((gs.zip u).take k)).2 ++ [z]).getD t 0 = (built true f ((gs.zip u).take k)).2.getD t 0 := fun z => getD_app_lt (by rw [GK.len]; omega)
      unfold bstep
      split
      · show litB y (((built true f ((gs.zip u).take k)).2 ++ [_]).getD t 0) = _
        rw [hm]; exact I t (by omega) hlt
      · show litB y (((built true f ((gs.zip u).take k)).2 ++ [_]).getD t 0) = _
        rw [hm]; exact I t (by omega) hlt
theorem built_lev (hf : 0 < f) (hg : ordered f gs) (hu : Use f gs roots u) {L M : Nat → Nat} (hL : Lev f gs L) (hM : Lev f (built true f (gs.zip u)).1 M) :
    ∀ k, k ≤ gs.length → ∀ t, t < f + k → live f (gs.zip u) t → M ((built true f ((gs.zip u).take k)).2.getD t 0 / 2) ≤ L t := by
  have hl := zip_len gs u hu.len
  have hG := built_good hf (gs.zip u) (ordered_gOk hg u hu.len)
  intro k
  induction k with
  | zero =>
    intro _ t ht _
    show M ((evens f).getD t 0 / 2) ≤ L t
    rw [evens_get (by omega), show 2 * t / 2 = t by omega, hM.base t (by omega)]
    exact Nat.zero_le _
  | succ k ih =>
    intro hk t ht hlt
    have I := ih (by omega)
    have GK := hG k (by omega)
    obtain ⟨tl, htl⟩ := built_app f (gs.zip u) (k + 1) (by omega)
    rw [htl] at hM
    have hM' := hM.pre
    rw [built_snoc _ _ _ _ (by omega)] at hM' ⊢
    by_cases e : t = f + k
    · subst e
      have hU : U (gs.zip u) k = true := by
        rcases hlt with hlt | ⟨_, hlt⟩
        · omega
        · rwa [show f + k - f = k by omega] at hlt
      have hU' : ((gs.zip u).getD k ((0, 0), false)).2 = true := hU
      obtain ⟨l1, l2⟩ := hu.of.live f _ (ordered_gOk hg u hu.len) (by omega : k < (gs.zip u).length) hU
      obtain ⟨o1, o2⟩ := hg k (by omega)
      have eA : ((gs.zip u).getD k ((0, 0), false)).1.1 = (at_ gs k).1 := zip_A gs u hu.len (by omega)
      have eB : ((gs.zip u).getD k ((0, 0), false)).1.2 = (at_ gs k).2 := zip_B gs u hu.len (by omega)
      rw [zip_A gs u hu.len (by omega)] at l1
      rw [zip_B gs u hu.len (by omega)] at l2
      unfold bstep at hM' ⊢
      rw [if_pos hU', if_pos rfl] at hM' ⊢
      rw [eA, eB] at hM' ⊢
      have h1 := I _ o1 l1
      have h2 := I _ o2 l2
      rw [← mapL_var] at h1 h2
      show M (((built true f ((gs.zip u).take k)).2 ++ [_]).getD (f + k) 0 / 2) ≤ _
      rw [← GK.len, getD_app_eq, GK.len, hL.gate k (by omega)]
      have h3 := and3_lev hf hM'
      omega
    · have hm : ∀ z, ((built true f ((gs.zip u).take k)).2 ++ [z]).getD t 0 = (built true f ((gs.zip u).take k)).2.getD t 0 := fun z => getD_app_lt (by rw [GK.len]; omega)
      unfold bstep
      split
      · show M (((built true f ((gs.zip u).take k)).2 ++ [_]).getD t 0 / 2) ≤ _
        rw [hm]; exact I t (by omega) hlt
      · show M (((built true f ((gs.zip u).take k)).2 ++ [_]).getD t 0 / 2) ≤ _
        rw [hm]; exact I t (by omega) hlt

/-- The removal keeps the values and the levels of the variables that stay. -/
theorem rem_sem {s : List G × List Nat} (hR : Rem f (gs.zip u) gs.length s) (hg : ordered f gs) (hu : Use f gs roots u) {v y : Nat → Bool} (hv : Sem f gs v) (hy : Sem f s.1 y) (hb : ∀ w, w < f → y w = v w) :
    ∀ k, k ≤ gs.length → ∀ t, t < f + k → live f (gs.zip u) t → y (ren f (gs.zip u) t) = v t := by
  have hl := zip_len gs u hu.len
  intro k
  induction k with
  | zero => intro _ t ht _; rw [ren, if_pos (by omega)]; exact hb t (by omega)
  | succ k ih =>
    intro hk t ht hlt
    by_cases e : t = f + k
    · subst e
      have hU : U (gs.zip u) k = true := by
        rcases hlt with hlt | ⟨_, hlt⟩
        · omega
        · rwa [show f + k - f = k by omega] at hlt
      obtain ⟨l1, l2⟩ := hu.of.live f _ (ordered_gOk hg u hu.len) (by omega : k < (gs.zip u).length) hU
      obtain ⟨o1, o2⟩ := hg k (by omega)
      have hgt := hR.gate k (by omega) hU
      rw [zip_A gs u hu.len (by omega)] at l1 hgt
      rw [zip_B gs u hu.len (by omega)] at l2 hgt
      have hren : ren f (gs.zip u) (f + k) = f + rank (U (gs.zip u)) k := by unfold ren; rw [if_neg (by omega), show f + k - f = k by omega]
      have lit : ∀ l, l / 2 < f + k → live f (gs.zip u) (l / 2) → litB y (rl f (gs.zip u) l) = litB v l := fun l h1 h2 => by
        have h3 : rl f (gs.zip u) l % 2 = l % 2 := by unfold rl; omega
        unfold litB
        rw [rl_var, ih (by omega) _ h1 h2, h3]
      rw [hren, hy.gate _ (by rw [hR.sz]; exact rank_lt (by omega) hU), hgt]
      show (litB y (rl f (gs.zip u) (at_ gs k).1) && litB y (rl f (gs.zip u) (at_ gs k).2)) = _
      rw [lit _ o1 l1, lit _ o2 l2, hv.gate k (by omega)]
    · exact ih (by omega) t (by omega) hlt
theorem rem_lev {s : List G × List Nat} (hR : Rem f (gs.zip u) gs.length s) (hg : ordered f gs) (hu : Use f gs roots u) {L M : Nat → Nat} (hL : Lev f gs L) (hM : Lev f s.1 M) :
    ∀ k, k ≤ gs.length → ∀ t, t < f + k → live f (gs.zip u) t → M (ren f (gs.zip u) t) = L t := by
  have hl := zip_len gs u hu.len
  intro k
  induction k with
  | zero => intro _ t ht _; rw [ren, if_pos (by omega), hL.base t (by omega)]; exact hM.base t (by omega)
  | succ k ih =>
    intro hk t ht hlt
    by_cases e : t = f + k
    · subst e
      have hU : U (gs.zip u) k = true := by
        rcases hlt with hlt | ⟨_, hlt⟩
        · omega
        · rwa [show f + k - f = k by omega] at hlt
      obtain ⟨l1, l2⟩ := hu.of.live f _ (ordered_gOk hg u hu.len) (by omega : k < (gs.zip u).length) hU
      obtain ⟨o1, o2⟩ := hg k (by omega)
      have hgt := hR.gate k (by omega) hU
      rw [zip_A gs u hu.len (by omega)] at l1 hgt
      rw [zip_B gs u hu.len (by omega)] at l2 hgt
      have hren : ren f (gs.zip u) (f + k) = f + rank (U (gs.zip u)) k := by unfold ren; rw [if_neg (by omega), show f + k - f = k by omega]
      rw [hren, hM.gate _ (by rw [hR.sz]; exact rank_lt (by omega) hU), hgt, hL.gate k (by omega)]
      show 1 + max (M (rl f (gs.zip u) (at_ gs k).1 / 2)) (M (rl f (gs.zip u) (at_ gs k).2 / 2)) = _
      rw [rl_var, rl_var, ih (by omega) _ o1 l1, ih (by omega) _ o2 l2]
    · exact ih (by omega) t (by omega) hlt
end
end Opt
