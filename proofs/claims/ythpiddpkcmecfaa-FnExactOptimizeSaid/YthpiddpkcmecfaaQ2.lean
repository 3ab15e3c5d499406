/- Plain mathematics of optimization: which gates are used, the optimized circuit, its normal form, and that optimizing again changes nothing. -/
import Derived.Test.YthpiddpkcmecfaaQ
namespace Opt
/-- Which gates are used, the last gate first: a gate is if a root, or an operand of a used gate, is its literal. -/
def needRev (f : Nat) : List G → List Nat → List Bool
  | [], _ => []
  | g :: r, roots => (roots.any fun x => x / 2 == f + r.length) :: needRev f r (if (roots.any fun x => x / 2 == f + r.length) = true then g.1 :: g.2 :: roots else roots)
theorem needRev_len (f : Nat) (gs : List G) (roots : List Nat) : (needRev f gs roots).length = gs.length := by
  induction gs generalizing roots with
  | nil => rfl
  | cons g r ih => simp [needRev, ih]
def used (f : Nat) (gs : List G) (roots : List Nat) : List Bool := (needRev f gs.reverse roots).reverse
theorem used_len (f : Nat) (gs : List G) (roots : List Nat) : (used f gs roots).length = gs.length := by simp [used, needRev_len]
theorem used_snoc (f : Nat) (gs : List G) (g : G) (roots : List Nat) : used f (gs ++ [g]) roots = used f gs (if (roots.any fun x => x / 2 == f + gs.length) = true then g.1 :: g.2 :: roots else roots) ++ [roots.any fun x => x / 2 == f + gs.length] := by
  simp [used, needRev]

theorem zip_len (gs : List G) (u : List Bool) (h : u.length = gs.length) : (gs.zip u).length = gs.length := by simp [h]
theorem zip_A (gs : List G) (u : List Bool) (h : u.length = gs.length) {t : Nat} (ht : t < gs.length) : A (gs.zip u) t = (at_ gs t).1 := by
  simp [A, at_, List.getD_eq_getElem?_getD, ht, h, List.getElem_zip]
theorem zip_B (gs : List G) (u : List Bool) (h : u.length = gs.length) {t : Nat} (ht : t < gs.length) : B (gs.zip u) t = (at_ gs t).2 := by
  simp [B, at_, List.getD_eq_getElem?_getD, ht, h, List.getElem_zip]
theorem zip_U (gs : List G) (u : List Bool) (h : u.length = gs.length) {t : Nat} (ht : t < gs.length) : U (gs.zip u) t = u.getD t false := by
  simp [U, List.getD_eq_getElem?_getD, ht, h, List.getElem_zip]
theorem zip_fst (gs : List G) (u : List Bool) (h : u.length = gs.length) : (gs.zip u).map Prod.fst = gs := by
  rw [List.map_fst_zip (by omega)]

/-- A list of marks says which gates are used. -/
structure Use (f : Nat) (gs : List G) (roots : List Nat) (u : List Bool) : Prop where
  len : u.length = gs.length
  root : ∀ t, t < gs.length → (∃ r, r ∈ roots ∧ r / 2 = f + t) → u.getD t false = true
  op : ∀ t t', t < t' → t' < gs.length → u.getD t' false = true → ((at_ gs t').1 / 2 = f + t ∨ (at_ gs t').2 / 2 = f + t) → u.getD t false = true
  why : ∀ t, t < gs.length → u.getD t false = true → (∃ r, r ∈ roots ∧ r / 2 = f + t) ∨ ∃ t', t < t' ∧ t' < gs.length ∧ u.getD t' false = true ∧ ((at_ gs t').1 / 2 = f + t ∨ (at_ gs t').2 / 2 = f + t)
theorem Use.of {f : Nat} {gs : List G} {roots : List Nat} {u : List Bool} (h : Use f gs roots u) : UsedOf f (gs.zip u) roots := by
  have hl := zip_len gs u h.len
  refine ⟨fun t ht hr => ?_, fun t t' htt ht hu ho => ?_, fun t ht hu => ?_⟩
  · rw [hl] at ht
    rw [zip_U gs u h.len ht]; exact h.root t ht hr
  · rw [hl] at ht
    rw [zip_A gs u h.len ht, zip_B gs u h.len ht] at ho
    rw [zip_U gs u h.len ht] at hu
    rw [zip_U gs u h.len (by omega)]; exact h.op t t' htt ht hu ho
  · rw [hl] at ht
    rw [zip_U gs u h.len ht] at hu
    rcases h.why t ht hu with h1 | ⟨t', h1, h2, h3, h4⟩
    · exact .inl h1
    · exact .inr ⟨t', h1, by omega, by rw [zip_U gs u h.len h2]; exact h3, by rw [zip_A gs u h.len h2, zip_B gs u h.len h2]; exact h4⟩
/-- There is but one such list. -/
theorem Use.uniq {f : Nat} {gs : List G} {roots : List Nat} {u u' : List Bool} (h : Use f gs roots u) (h' : Use f gs roots u') : u = u' := by
  have key : ∀ d t, t < gs.length → gs.length - t ≤ d → u.getD t false = u'.getD t false := by
    intro d
    induction d with
    | zero => intro t ht hd; omega
    | succ d ih =>
      intro t ht hd
      have imp : ∀ (v v' : List Bool), Use f gs roots v → Use f gs roots v' → (∀ t', t < t' → t' < gs.length → v.getD t' false = v'.getD t' false) → v.getD t false = true → v'.getD t false = true := fun v v' hv hv' he hvt => by
        rcases hv.why t ht hvt with h1 | ⟨t', h1, h2, h3, h4⟩
        · exact hv'.root t ht h1
        · exact hv'.op t t' h1 h2 (by rw [← he t' h1 h2]; exact h3) h4
      have e1 := imp u u' h h' (fun t' h1 h2 => ih t' h2 (by omega))
      have e2 := imp u' u h' h (fun t' h1 h2 => (ih t' h2 (by omega)).symm)
      cases hx : u.getD t false <;> cases hy : u'.getD t false
      · rfl
      · exact absurd (e2 hy) (by rw [hx]; simp)
      · exact absurd (e1 hx) (by rw [hy]; simp)
      · rfl
  refine List.ext_getElem (by rw [h.len, h'.len]) (fun t h1 h2 => ?_)
  have := key gs.length t (by rw [← h.len]; exact h1) (by omega)
  simpa [List.getD_eq_getElem?_getD, h1, h2] using this
theorem getD_b_lt {u : List Bool} {b : Bool} {t : Nat} (h : t < u.length) : (u ++ [b]).getD t false = u.getD t false := by
  simp [List.getD_eq_getElem?_getD, List.getElem?_append_left h]
theorem getD_b_eq (u : List Bool) (b : Bool) {t : Nat} (h : t = u.length) : (u ++ [b]).getD t false = b := by
  subst h
  simp [List.getD_eq_getElem?_getD]
theorem used_use (f : Nat) (gs : List G) (roots : List Nat) : Use f gs roots (used f gs roots) := by
  induction hn : gs.length generalizing gs roots with
  | zero =>
    have : gs = [] := List.eq_nil_of_length_eq_zero hn
    subst this
    exact ⟨rfl, fun t ht => absurd ht (by simp), fun t t' _ ht => absurd ht (by simp), fun t ht => absurd ht (by simp)⟩
  | succ n ih =>
    obtain ⟨gi, g, rfl⟩ : ∃ gi g, gs = gi ++ [g] := ⟨gs.dropLast, gs.getLast (by intro e; simp [e] at hn), (List.dropLast_concat_getLast _).symm⟩
    have hl : gi.length = n := by simpa using hn
    rw [used_snoc]
    generalize hb : (roots.any fun x => x / 2 == f + gi.length) = b
    have hb1 : b = true ↔ ∃ r, r ∈ roots ∧ r / 2 = f + n := by
      rw [← hb, List.any_eq_true, hl]
      simp
    have I := ih gi (if b = true then g.1 :: g.2 :: roots else roots) hl
    generalize hu : used f gi (if b = true then g.1 :: g.2 :: roots else roots) = u at *
    have hul := I.len
    refine ⟨by simp [hul], fun t ht hr => ?_, fun t t' htt ht hut ho => ?_, fun t ht hut => ?_⟩
    · rw [hn] at ht
      by_cases e : t = n
      · rw [getD_b_eq _ _ (by omega), hb1]
        obtain ⟨r, h1, h2⟩ := hr
        exact ⟨r, h1, by omega⟩
      · rw [getD_b_lt (by omega)]
        obtain ⟨r, h1, h2⟩ := hr
        refine I.root t (by omega) ⟨r, ?_, h2⟩
        split
        · exact List.mem_cons_of_mem _ (List.mem_cons_of_mem _ h1)
        · exact h1
    · rw [hn] at ht
      rw [getD_b_lt (by omega : t < u.length)]
      by_cases e : t' = n
      · rw [getD_b_eq _ _ (by omega)] at hut
        subst e
        rw [← hl, at_eq] at ho
        rcases ho with ho | ho
        · exact I.root t (by omega) ⟨g.1, by rw [if_pos hut]; exact List.mem_cons_self .., ho⟩
        · exact I.root t (by omega) ⟨g.2, by rw [if_pos hut]; exact List.mem_cons_of_mem _ (List.mem_cons_self ..), ho⟩
      · rw [getD_b_lt (by omega)] at hut
        rw [at_lt (by omega : t' < gi.length)] at ho
        exact I.op t t' htt (by omega) hut ho
    · rw [hn] at ht
      by_cases e : t = n
      · rw [getD_b_eq _ _ (by omega), hb1] at hut
        obtain ⟨r, h1, h2⟩ := hut
        exact .inl ⟨r, h1, by omega⟩
      · rw [getD_b_lt (by omega)] at hut
        rcases I.why t (by omega) hut with ⟨r, h1, h2⟩ | ⟨t', h1, h2, h3, h4⟩
        · split at h1
          · next hbt =>
            rcases List.mem_cons.1 h1 with rfl | h1
            · exact .inr ⟨n, by omega, by omega, by rw [getD_b_eq _ _ (by omega)]; exact hbt, .inl (by rw [← hl, at_eq]; exact h2)⟩
            · rcases List.mem_cons.1 h1 with rfl | h1
              · exact .inr ⟨n, by omega, by omega, by rw [getD_b_eq _ _ (by omega)]; exact hbt, .inr (by rw [← hl, at_eq]; exact h2)⟩
              · exact .inl ⟨r, h1, h2⟩
          · exact .inl ⟨r, h1, h2⟩
        · exact .inr ⟨t', h1, by omega, by rw [getD_b_lt (by omega)]; exact h3, by rw [at_lt (by omega : t' < gi.length)]; exact h4⟩

/-- Gates in order: operands are earlier variables. -/
def ordered (f : Nat) (gs : List G) : Prop := ∀ k, k < gs.length → (at_ gs k).1 / 2 < f + k ∧ (at_ gs k).2 / 2 < f + k
theorem ordered_gOk {f : Nat} {gs : List G} (h : ordered f gs) (u : List Bool) (hu : u.length = gs.length) : gOk f (gs.zip u) := fun k hk => by
  rw [zip_len gs u hu] at hk
  have h1 := zip_A gs u hu hk
  have h2 := zip_B gs u hu hk
  have := h k hk
  rw [← h1, ← h2] at this
  exact this
theorem Norm.ordered {f : Nat} {x : List G} (h : Norm f x) : ordered f x := fun k hk => by
  have h1 := h.ord k hk
  have h2 := h.ref k hk
  omega

/-- The rebuilding with sharing: its gates, and the literals of the variables. -/
def hashed (f : Nat) (gs : List G) (roots : List Nat) : List G × List Nat := built true f (gs.zip (used f gs roots))
/-- The removal of unused gates. -/
def pruned (f : Nat) (gs : List G) (roots : List Nat) : List G × List Nat := built false f (gs.zip (used f gs roots))
theorem hashed_good {f : Nat} (hf : 0 < f) {gs : List G} (hg : ordered f gs) (roots : List Nat) : Good f gs.length (hashed f gs roots) := by
  have hu := used_len f gs roots
  have h := built_good hf (gs.zip (used f gs roots)) (ordered_gOk hg _ hu) gs.length (by rw [zip_len _ _ hu]; exact Nat.le_refl _)
  rwa [List.take_of_length_le (by rw [zip_len _ _ hu]; exact Nat.le_refl _)] at h
theorem pruned_rem {f : Nat} {gs : List G} (hg : ordered f gs) (roots : List Nat) : Rem f (gs.zip (used f gs roots)) gs.length (pruned f gs roots) := by
  have hu := used_len f gs roots
  have h := built_rem f (gs.zip (used f gs roots)) (used_use f gs roots).of (ordered_gOk hg _ hu) gs.length (by rw [zip_len _ _ hu]; exact Nat.le_refl _)
  rwa [List.take_of_length_le (by rw [zip_len _ _ hu]; exact Nat.le_refl _)] at h
theorem pruned_norm {f : Nat} (hf : 0 < f) {x : List G} (hn : Norm f x) (roots : List Nat) : Norm f (pruned f x roots).1 := by
  have hu := used_len f x roots
  have h := pruned_rem hn.ordered roots
  rw [← zip_len x _ hu] at h
  exact rem_norm f _ h (used_use f x roots).of (ordered_gOk hn.ordered _ hu) (by rw [zip_fst _ _ hu]; exact hn) hf
theorem pruned_len {f : Nat} {x : List G} (hg : ordered f x) (roots : List Nat) : (pruned f x roots).1.length ≤ x.length := by
  rw [(pruned_rem hg roots).sz]
  exact rank_le _ _

/-- Every gate is wanted by a root or by a later gate. -/
def AllUsed (f : Nat) (x : List G) (roots : List Nat) : Prop := ∀ t, t < x.length → (∃ r, r ∈ roots ∧ r / 2 = f + t) ∨ ∃ t', t < t' ∧ t' < x.length ∧ ((at_ x t').1 / 2 = f + t ∨ (at_ x t').2 / 2 = f + t)
theorem allUsed_used {f : Nat} {x : List G} {roots : List Nat} (h : AllUsed f x roots) : used f x roots = List.replicate x.length true := by
  have hU : Use f x roots (List.replicate x.length true) := by
    have ht : ∀ t, t < x.length → (List.replicate x.length true).getD t false = true := fun t ht => by simp [List.getD_eq_getElem?_getD, ht]
    refine ⟨by simp, fun t h1 _ => ht t h1, fun t t' h1 h2 _ _ => ht t (by omega), fun t h1 _ => ?_⟩
    rcases h t h1 with h2 | ⟨t', h2, h3, h4⟩
    · exact .inl h2
    · exact .inr ⟨t', h2, h3, ht t' h3, h4⟩
  exact (used_use f x roots).uniq hU
theorem pruned_used {f : Nat} {x : List G} (hg : ordered f x) (roots : List Nat) (_hr : ∀ r, r ∈ roots → r / 2 < f + x.length) : AllUsed f (pruned f x roots).1 (roots.map (mapL (pruned f x roots).2)) := by
  have hu := used_len f x roots
  have hl := zip_len x _ hu
  have R := pruned_rem hg roots
  have UO := (used_use f x roots).of
  have GO := ordered_gOk hg (used f x roots) hu
  intro j hj
  rw [R.sz] at hj
  obtain ⟨t, h1, h2, h3⟩ := rank_surj _ _ _ hj
  have hren : ren f (x.zip (used f x roots)) (f + t) = f + j := by unfold ren; rw [if_neg (by omega), show f + t - f = t by omega, h3]
  rcases UO.why t (by omega) h2 with ⟨r, hr1, hr2⟩ | ⟨t', k1, k2, k3, k4⟩
  · left
    refine ⟨mapL (pruned f x roots).2 r, List.mem_map.2 ⟨r, hr1, rfl⟩, ?_⟩
    rw [R.lit f _ (by rw [hr2]; omega) (by rw [hr2]; exact .inr ⟨by omega, by rw [show f + t - f = t by omega]; exact h2⟩), rl_var, hr2, hren]
  · right
    have hg' := R.gate t' (by omega) k3
    refine ⟨rank (U (x.zip (used f x roots))) t', by rw [← h3]; exact rank_lt k1 h2, by rw [R.sz]; exact rank_lt (by omega) k3, ?_⟩
    rw [hg']
    rcases k4 with k4 | k4
    · left; show rl f _ (A _ t') / 2 = _; rw [rl_var, k4, hren]
    · right; show rl f _ (B _ t') / 2 = _; rw [rl_var, k4, hren]
theorem pruned_root {f : Nat} {x : List G} (hg : ordered f x) (roots : List Nat) (hr : ∀ r, r ∈ roots → r / 2 < f + x.length) : ∀ r, r ∈ roots → mapL (pruned f x roots).2 r / 2 < f + (pruned f x roots).1.length := by
  intro r hrm
  have hu := used_len f x roots
  have R := pruned_rem hg roots
  have UO := (used_use f x roots).of
  have hl := zip_len x _ hu
  have hlive : live f (x.zip (used f x roots)) (r / 2) := by
    by_cases e : r / 2 < f
    · exact .inl e
    · exact .inr ⟨by omega, UO.root _ (by have := hr r hrm; omega) ⟨r, hrm, by omega⟩⟩
  rw [R.lit f _ (hr r hrm) hlive, rl_var, R.sz]
  have h1 := ren_lt f (x.zip (used f x roots)) (hr r hrm) hlive
  have h2 : ren f (x.zip (used f x roots)) (f + x.length) = f + rank (U (x.zip (used f x roots))) x.length := by unfold ren; rw [if_neg (by omega), show f + x.length - f = x.length by omega]
  omega

/-- Over gates in normal form that are all used, rebuilding changes nothing. -/
theorem built_same {f : Nat} {x : List G} (share : Bool) (hn : Norm f x) : ∀ k, k ≤ x.length → built share f ((x.zip (List.replicate x.length true)).take k) = (x.take k, evens (f + k)) := by
  have hu : (List.replicate x.length true).length = x.length := by simp
  have hl := zip_len x _ hu
  intro k
  induction k with
  | zero => intro _; rfl
  | succ k ih =>
    intro hk
    rw [built_snoc _ _ _ _ (by omega), ih (by omega)]
    have hg : (x.zip (List.replicate x.length true)).getD k ((0, 0), false) = (at_ x k, true) := by
      have hk' : k < x.length := by omega
      simp [List.getD_eq_getElem?_getD, at_, hk', List.getElem_zip]
    rw [hg]
    have ho := hn.ordered k (by omega)
    have h1 := hn.low k (by omega)
    have h2 := hn.ord k (by omega)
    have h3 := hn.dif k (by omega)
    have hxk : x.take (k + 1) = x.take k ++ [at_ x k] := by
      rw [List.take_succ_eq_append_getElem (by omega)]
      simp [at_, List.getD_eq_getElem?_getD, List.getElem?_eq_getElem (show k < x.length by omega)]
    have hlk : (x.take k).length = k := by simp; omega
    have hidx : idx (x.take k) (at_ x k) = k := by
      rcases Nat.lt_or_ge (idx (x.take k) (at_ x k)) k with hlt | hge
      · have h := idx_at (x := x.take k) (p := at_ x k) (by omega)
        rw [at_take hlt] at h
        exact absurd h (hn.inj _ k hlt (by omega))
      · have := idx_le (x.take k) (at_ x k); omega
    unfold bstep
    simp only [if_true]
    rw [mapL_evens ho.1, mapL_evens ho.2, show f + (k + 1) = (f + k) + 1 from rfl, evens_succ, hxk]
    split
    · have hand : and3 f (x.take k) (at_ x k).1 (at_ x k).2 = (x.take k ++ [at_ x k], 2 * (f + k)) := by
        unfold and3
        have hmin : min (at_ x k).1 (at_ x k).2 = (at_ x k).1 := by omega
        have hmax : max (at_ x k).1 (at_ x k).2 = (at_ x k).2 := by omega
        rw [hmin, hmax, if_neg (by omega), if_neg (by omega)]
        have hp : ((at_ x k).1, (at_ x k).2) = at_ x k := rfl
        rw [hp, hidx, hlk, if_neg (by omega)]
      rw [hand]
    · rw [hlk]
/-- Optimizing a circuit in normal form whose gates are all used changes nothing. -/
theorem hashed_same {f : Nat} {x : List G} {roots : List Nat} (hn : Norm f x) (h : AllUsed f x roots) : hashed f x roots = (x, evens (f + x.length)) := by
  unfold hashed
  rw [allUsed_used h]
  have := built_same true hn x.length (Nat.le_refl _)
  rwa [List.take_of_length_le (by simp), List.take_of_length_le (Nat.le_refl _)] at this
theorem pruned_same {f : Nat} {x : List G} {roots : List Nat} (hn : Norm f x) (h : AllUsed f x roots) : pruned f x roots = (x, evens (f + x.length)) := by
  unfold pruned
  rw [allUsed_used h]
  have := built_same false hn x.length (Nat.le_refl _)
  rwa [List.take_of_length_le (by simp), List.take_of_length_le (Nat.le_refl _)] at this
end Opt
