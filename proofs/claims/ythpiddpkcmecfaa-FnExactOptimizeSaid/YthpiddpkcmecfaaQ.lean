/- Plain mathematics of optimization: structural hashing, unused gates, the normal form; no program. -/
namespace Opt
abbrev G := Nat × Nat
def neg1 (x : Nat) : Nat := if x % 2 = 0 then x + 1 else x - 1
/-- A literal, complemented if p is not 0. -/
def xl (x p : Nat) : Nat := if p = 0 then x else neg1 x
theorem xl_var (x p : Nat) : xl x p / 2 = x / 2 := by
  unfold xl neg1
  split
  · rfl
  · split <;> omega
/-- The literal of the rebuilt circuit for a literal: m holds the literal of every variable. -/
def mapL (m : List Nat) (l : Nat) : Nat := xl (m.getD (l / 2) 0) (l % 2)
theorem mapL_var (m : List Nat) (l : Nat) : mapL m l / 2 = m.getD (l / 2) 0 / 2 := xl_var _ _
theorem xl_even (v p : Nat) (hp : p < 2) : xl (2 * v) p = 2 * v + p := by
  unfold xl neg1
  split
  · omega
  · rw [if_pos (by omega)]; omega

def at_ (x : List G) (j : Nat) : G := x.getD j (0, 0)
theorem at_lt {x y : List G} {j : Nat} (h : j < x.length) : at_ (x ++ y) j = at_ x j := by
  simp [at_, List.getD_eq_getElem?_getD, List.getElem?_append_left h]
theorem at_eq (x : List G) (g : G) : at_ (x ++ [g]) x.length = g := by
  simp [at_, List.getD_eq_getElem?_getD]
theorem at_take {x : List G} {j k : Nat} (h : j < k) : at_ (x.take k) j = at_ x j := by
  simp [at_, List.getD_eq_getElem?_getD, h]

/-- The place of a gate, the length if it is not there. -/
def idx : List G → G → Nat
  | [], _ => 0
  | g :: r, p => if g = p then 0 else idx r p + 1
theorem idx_le (x : List G) (p : G) : idx x p ≤ x.length := by
  induction x with
  | nil => exact Nat.le_refl _
  | cons g r ih => unfold idx; split <;> simp; omega
theorem idx_at {x : List G} {p : G} (h : idx x p < x.length) : at_ x (idx x p) = p := by
  induction x with
  | nil => simp at h
  | cons g r ih =>
    unfold idx at h ⊢
    split
    · next e => subst e; rfl
    · next e =>
      rw [if_neg e] at h
      have := ih (by simpa using h)
      simpa [at_, List.getD_eq_getElem?_getD] using this
theorem idx_ne {x : List G} {p : G} {j : Nat} (h : j < idx x p) : at_ x j ≠ p := by
  induction x generalizing j with
  | nil => simp [idx] at h
  | cons g r ih =>
    unfold idx at h
    split at h
    · omega
    · next e =>
      cases j with
      | zero => simpa [at_] using e
      | succ j =>
        have := ih (j := j) (by omega)
        simpa [at_, List.getD_eq_getElem?_getD] using this

/-- The conjunction of two literals over the gates built so far. -/
def and3 (f : Nat) (x : List G) (a b : Nat) : List G × Nat :=
  if min a b = 0 ∨ (min a b + 1 = max a b ∧ min a b % 2 = 0) then (x, 0)
  else if min a b = 1 ∨ min a b = max a b then (x, max a b)
  else if idx x (min a b, max a b) < x.length then (x, 2 * (f + idx x (min a b, max a b)))
  else (x ++ [(min a b, max a b)], 2 * (f + x.length))

/-- The normal form of a list of gates whose first variable is f. -/
structure Norm (f : Nat) (x : List G) : Prop where
  low : ∀ j, j < x.length → 2 ≤ (at_ x j).1
  ord : ∀ j, j < x.length → (at_ x j).1 < (at_ x j).2
  dif : ∀ j, j < x.length → (at_ x j).1 / 2 ≠ (at_ x j).2 / 2
  ref : ∀ j, j < x.length → (at_ x j).2 / 2 < f + j
  inj : ∀ j l, j < l → l < x.length → at_ x j ≠ at_ x l
theorem Norm.nil (f : Nat) : Norm f [] := ⟨fun j h => absurd h (by simp), fun j h => absurd h (by simp), fun j h => absurd h (by simp), fun j h => absurd h (by simp), fun j l _ h => absurd h (by simp)⟩
theorem Norm.snoc {f : Nat} {x : List G} {g : G} (h : Norm f x) (h1 : 2 ≤ g.1) (h2 : g.1 < g.2) (h3 : g.1 / 2 ≠ g.2 / 2) (h4 : g.2 / 2 < f + x.length) (h5 : ∀ j, j < x.length → at_ x j ≠ g) : Norm f (x ++ [g]) := by
  have key : ∀ (P : Nat → G → Prop), (∀ j, j < x.length → P j (at_ x j)) → P x.length g → ∀ j, j < (x ++ [g]).length → P j (at_ (x ++ [g]) j) := fun P hp hg j hj => by
    rw [List.length_append, List.length_singleton] at hj
    by_cases e : j = x.length
    · subst e; rw [at_eq]; exact hg
    · rw [at_lt (by omega)]; exact hp j (by omega)
  refine ⟨key (fun _ g => 2 ≤ g.1) h.low h1, key (fun _ g => g.1 < g.2) h.ord h2, key (fun _ g => g.1 / 2 ≠ g.2 / 2) h.dif h3, key (fun j g => g.2 / 2 < f + j) h.ref h4, fun j l hj hl => ?_⟩
  rw [List.length_append, List.length_singleton] at hl
  rw [at_lt (by omega : j < x.length)]
  by_cases e : l = x.length
  · subst e; rw [at_eq]; exact h5 j hj
  · rw [at_lt (by omega)]; exact h.inj j l hj (by omega)

theorem and3_norm {f : Nat} {x : List G} {a b : Nat} (h : Norm f x) (ha : a / 2 < f + x.length) (hb : b / 2 < f + x.length) (_hf : 0 < f) :
    Norm f (and3 f x a b).1 ∧ (and3 f x a b).2 / 2 < f + (and3 f x a b).1.length ∧ (∃ t, (and3 f x a b).1 = x ++ t ∧ t.length ≤ 1) := by
  unfold and3
  split
  · exact ⟨h, by simp; omega, [], by simp, by simp⟩
  · next e1 =>
    split
    · exact ⟨h, by simp only []; omega, [], by simp, by simp⟩
    · next e2 =>
      split
      · next e3 => exact ⟨h, by simp only []; omega, [], by simp, by simp⟩
      · next e3 =>
        have hi := idx_le x (min a b, max a b)
        refine ⟨h.snoc (by simp only []; omega) (by simp only []; omega) (by simp only []; omega) (by simp only []; omega) (fun j hj => idx_ne (by omega)), by simp only [List.length_append, List.length_singleton]; omega, _, rfl, by simp⟩

/-- One gate of the rebuilding: the gates so far and the literals of the variables so far. -/
def bstep (share : Bool) (f : Nat) (s : List G × List Nat) (g : G × Bool) : List G × List Nat :=
  if g.2 = true then
    if share = true then ((and3 f s.1 (mapL s.2 g.1.1) (mapL s.2 g.1.2)).1, s.2 ++ [(and3 f s.1 (mapL s.2 g.1.1) (mapL s.2 g.1.2)).2])
    else (s.1 ++ [(mapL s.2 g.1.1, mapL s.2 g.1.2)], s.2 ++ [2 * (f + s.1.length)])
  else (s.1, s.2 ++ [0])
def evens (n : Nat) : List Nat := (List.range n).map (2 * ·)
theorem evens_len (n : Nat) : (evens n).length = n := by simp [evens]
theorem evens_get {n v : Nat} (h : v < n) : (evens n).getD v 0 = 2 * v := by simp [evens, List.getD_eq_getElem?_getD, h]
theorem evens_succ (n : Nat) : evens (n + 1) = evens n ++ [2 * n] := by simp [evens, List.range_succ]
theorem mapL_evens {n l : Nat} (h : l / 2 < n) : mapL (evens n) l = l := by
  unfold mapL
  rw [evens_get h, xl_even _ _ (Nat.mod_lt _ (by omega))]
  omega
/-- The state behind k gates. -/
def built (share : Bool) (f : Nat) (gs : List (G × Bool)) : List G × List Nat := gs.foldl (bstep share f) ([], evens f)
theorem built_snoc (share : Bool) (f : Nat) (gs : List (G × Bool)) (k : Nat) (hk : k < gs.length) : built share f (gs.take (k + 1)) = bstep share f (built share f (gs.take k)) (gs.getD k ((0, 0), false)) := by
  unfold built
  rw [List.take_succ_eq_append_getElem hk, List.foldl_append]
  simp [List.getD_eq_getElem?_getD, hk]

/-- What the sharing rebuilding keeps. -/
structure Good (f : Nat) (k : Nat) (s : List G × List Nat) : Prop where
  norm : Norm f s.1
  len : s.2.length = f + k
  le : s.1.length ≤ k
  var : ∀ v, v < f + k → s.2.getD v 0 / 2 < f + s.1.length
  base : ∀ v, v < f → s.2.getD v 0 = 2 * v
theorem getD_app_lt {m : List Nat} {z v : Nat} (h : v < m.length) : (m ++ [z]).getD v 0 = m.getD v 0 := by
  simp [List.getD_eq_getElem?_getD, List.getElem?_append_left h]
theorem getD_app_eq (m : List Nat) (z : Nat) : (m ++ [z]).getD m.length 0 = z := by
  simp [List.getD_eq_getElem?_getD]
theorem Good.step {f k : Nat} {s : List G × List Nat} (h : Good f k s) (hf : 0 < f) (g : G × Bool) (h1 : g.1.1 / 2 < f + k) (h2 : g.1.2 / 2 < f + k) : Good f (k + 1) (bstep true f s g) := by
  have hl := h.len
  have snoc : ∀ (x' : List G) (z : Nat), Norm f x' → s.1.length ≤ x'.length → x'.length ≤ s.1.length + 1 → z / 2 < f + x'.length → Good f (k + 1) (x', s.2 ++ [z]) := fun x' z hn hle hle2 hz => by
    refine ⟨hn, by simp [hl]; omega, by have := h.le; simp only []; omega, fun v hv => ?_, fun v hv => ?_⟩
    · by_cases e : v = f + k
      · subst e
        show (s.2 ++ [z]).getD (f + k) 0 / 2 < _
        rw [← hl, getD_app_eq]
        exact hz
      · show (s.2 ++ [z]).getD v 0 / 2 < _
        rw [getD_app_lt (by omega)]
        have := h.var v (by omega)
        simp only []
        omega
    · show (s.2 ++ [z]).getD v 0 = _
      rw [getD_app_lt (by omega)]
      exact h.base v hv
  unfold bstep
  split
  · simp only [if_true]
    have ha : mapL s.2 g.1.1 / 2 < f + s.1.length := by rw [mapL_var]; exact h.var _ h1
    have hb : mapL s.2 g.1.2 / 2 < f + s.1.length := by rw [mapL_var]; exact h.var _ h2
    obtain ⟨n1, n2, t, n3, n4⟩ := and3_norm h.norm ha hb hf
    have hl3 : (and3 f s.1 (mapL s.2 g.1.1) (mapL s.2 g.1.2)).1.length = s.1.length + t.length := by rw [n3, List.length_append]
    exact snoc _ _ n1 (by omega) (by omega) n2
  · exact snoc _ 0 h.norm (Nat.le_refl _) (by omega) (by simp; omega)
/-- The gates refer to earlier variables. -/
def gOk (f : Nat) (gs : List (G × Bool)) : Prop := ∀ k, k < gs.length → (gs.getD k ((0, 0), false)).1.1 / 2 < f + k ∧ (gs.getD k ((0, 0), false)).1.2 / 2 < f + k
theorem built_good {f : Nat} (hf : 0 < f) (gs : List (G × Bool)) (hg : gOk f gs) : ∀ k, k ≤ gs.length → Good f k (built true f (gs.take k)) := by
  intro k
  induction k with
  | zero => intro _; exact ⟨Norm.nil f, by simp [built, evens_len], by simp [built], fun v hv => by show (evens f).getD v 0 / 2 < f + 0; rw [evens_get (by omega)]; omega, fun v hv => by show (evens f).getD v 0 = _; exact evens_get hv⟩
  | succ k ih =>
    intro hk
    rw [built_snoc _ _ _ _ (by omega)]
    exact (ih (by omega)).step hf _ (hg k (by omega)).1 (hg k (by omega)).2

/-- How many of the first numbers are marked. -/
def rank (u : Nat → Bool) : Nat → Nat
  | 0 => 0
  | t + 1 => rank u t + (if u t = true then 1 else 0)
theorem rank_le (u : Nat → Bool) (t : Nat) : rank u t ≤ t := by
  induction t with
  | zero => exact Nat.le_refl _
  | succ t ih => unfold rank; split <;> omega
theorem rank_mono (u : Nat → Bool) {s t : Nat} (h : s ≤ t) : rank u s ≤ rank u t := by
  induction t with
  | zero => have : s = 0 := by omega
            subst this; exact Nat.le_refl _
  | succ t ih =>
    by_cases e : s = t + 1
    · subst e; exact Nat.le_refl _
    · have h1 := ih (by omega)
      have h2 : rank u (t + 1) = rank u t + (if u t = true then 1 else 0) := rfl
      rw [h2]
      split <;> omega
theorem rank_lt {u : Nat → Bool} {s t : Nat} (h : s < t) (hu : u s = true) : rank u s < rank u t := by
  have h1 := rank_mono u (show s + 1 ≤ t by omega)
  have h2 : rank u (s + 1) = rank u s + 1 := by simp [rank, hu]
  omega
theorem rank_surj (u : Nat → Bool) (k j : Nat) (h : j < rank u k) : ∃ t, t < k ∧ u t = true ∧ rank u t = j := by
  induction k with
  | zero => simp [rank] at h
  | succ k ih =>
    by_cases hj : j < rank u k
    · obtain ⟨t, h1, h2, h3⟩ := ih hj
      exact ⟨t, by omega, h2, h3⟩
    · unfold rank at h
      split at h
      · next e => exact ⟨k, by omega, e, by omega⟩
      · omega

section removal
variable (f : Nat) (gs : List (G × Bool))
def U (t : Nat) : Bool := (gs.getD t ((0, 0), false)).2
def A (t : Nat) : Nat := (gs.getD t ((0, 0), false)).1.1
def B (t : Nat) : Nat := (gs.getD t ((0, 0), false)).1.2
def ren (v : Nat) : Nat := if v < f then v else f + rank (U gs) (v - f)
def rl (l : Nat) : Nat := 2 * ren f gs (l / 2) + l % 2
/-- A variable that stays. -/
def live (v : Nat) : Prop := v < f ∨ (f ≤ v ∧ U gs (v - f) = true)
theorem ren_lt {v v' : Nat} (h : v < v') (hl : live f gs v) : ren f gs v < ren f gs v' := by
  unfold ren
  rcases hl with hl | ⟨hl, hu⟩
  · rw [if_pos hl]
    split <;> omega
  · rw [if_neg (by omega), if_neg (by omega)]
    have := rank_lt (u := U gs) (s := v - f) (t := v' - f) (by omega) hu
    omega
theorem rl_inj {l l' : Nat} (h : live f gs (l / 2)) (h' : live f gs (l' / 2)) (e : rl f gs l = rl f gs l') : l = l' := by
  unfold rl at e
  have hv : l / 2 = l' / 2 := by
    rcases Nat.lt_trichotomy (l / 2) (l' / 2) with h1 | h1 | h1
    · have := ren_lt f gs h1 h; omega
    · exact h1
    · have := ren_lt f gs h1 h'; omega
  omega
theorem rl_var (l : Nat) : rl f gs l / 2 = ren f gs (l / 2) := by unfold rl; omega

/-- Every gate that stays is wanted by an output or by a later gate that stays, and no other gate is. -/
structure UsedOf (roots : List Nat) : Prop where
  root : ∀ t, t < gs.length → (∃ r, r ∈ roots ∧ r / 2 = f + t) → U gs t = true
  op : ∀ t t', t < t' → t' < gs.length → U gs t' = true → (A gs t' / 2 = f + t ∨ B gs t' / 2 = f + t) → U gs t = true
  why : ∀ t, t < gs.length → U gs t = true → (∃ r, r ∈ roots ∧ r / 2 = f + t) ∨ ∃ t', t < t' ∧ t' < gs.length ∧ U gs t' = true ∧ (A gs t' / 2 = f + t ∨ B gs t' / 2 = f + t)
theorem UsedOf.live {roots : List Nat} (h : UsedOf f gs roots) (hg : gOk f gs) {t : Nat} (ht : t < gs.length) (hu : U gs t = true) : live f gs (A gs t / 2) ∧ live f gs (B gs t / 2) := by
  obtain ⟨g1, g2⟩ := hg t ht
  have g1' : A gs t / 2 < f + t := g1
  have g2' : B gs t / 2 < f + t := g2
  constructor
  · by_cases e : A gs t / 2 < f
    · exact .inl e
    · exact .inr ⟨by omega, h.op _ t (by omega) ht hu (.inl (by omega))⟩
  · by_cases e : B gs t / 2 < f
    · exact .inl e
    · exact .inr ⟨by omega, h.op _ t (by omega) ht hu (.inr (by omega))⟩

/-- What the removal keeps. -/
structure Rem (k : Nat) (s : List G × List Nat) : Prop where
  len : s.2.length = f + k
  map : ∀ v, v < f + k → live f gs v → s.2.getD v 0 = 2 * ren f gs v
  sz : s.1.length = rank (U gs) k
  gate : ∀ t, t < k → U gs t = true → at_ s.1 (rank (U gs) t) = (rl f gs (A gs t), rl f gs (B gs t))
theorem Rem.lit {k : Nat} {s : List G × List Nat} (h : Rem f gs k s) {l : Nat} (hl : l / 2 < f + k) (hv : live f gs (l / 2)) : mapL s.2 l = rl f gs l := by
  unfold mapL rl
  rw [h.map _ hl hv, xl_even _ _ (Nat.mod_lt _ (by omega))]
theorem Rem.step {k : Nat} {s : List G × List Nat} {roots : List Nat} (hU : UsedOf f gs roots) (hg : gOk f gs) (hk : k < gs.length) (h : Rem f gs k s) : Rem f gs (k + 1) (bstep false f s (gs.getD k ((0, 0), false))) := by
  have hl := h.len
  have ext : ∀ z, (live f gs (f + k) → z = 2 * ren f gs (f + k)) → ∀ v, v < f + (k + 1) → live f gs v → (s.2 ++ [z]).getD v 0 = 2 * ren f gs v := fun z hz v hv hlv => by
    by_cases e : v = f + k
    · subst e
      rw [← hl, getD_app_eq, hl]
      exact hz hlv
    · rw [getD_app_lt (by omega)]
      exact h.map v (by omega) hlv
  have hren : ren f gs (f + k) = f + rank (U gs) k := by
    unfold ren
    rw [if_neg (by omega), show f + k - f = k by omega]
  unfold bstep
  by_cases hu : U gs k = true
  · have hu' : (gs.getD k ((0, 0), false)).2 = true := hu
    rw [if_pos hu', if_neg (by simp)]
    obtain ⟨l1, l2⟩ := hU.live f gs hg hk hu
    obtain ⟨o1, o2⟩ := hg k hk
    refine ⟨by simp [hl]; omega, ext _ (fun _ => by rw [hren, h.sz]), ?_, fun t ht hut => ?_⟩
    · show (s.1 ++ [_]).length = _
      rw [List.length_append, List.length_singleton, h.sz]
      simp [rank, hu]
    · show at_ (s.1 ++ [_]) _ = _
      by_cases e : t = k
      · subst e
        rw [← h.sz, at_eq]
        rw [show mapL s.2 (gs.getD t ((0, 0), false)).1.1 = rl f gs (A gs t) from h.lit f gs o1 l1, show mapL s.2 (gs.getD t ((0, 0), false)).1.2 = rl f gs (B gs t) from h.lit f gs o2 l2]
      · rw [at_lt (by rw [h.sz]; exact rank_lt (by omega) hut)]
        exact h.gate t (by omega) hut
  · have hu' : ¬ (gs.getD k ((0, 0), false)).2 = true := hu
    rw [if_neg hu']
    refine ⟨by simp [hl]; omega, ext _ (fun hlv => ?_), ?_, fun t ht hut => ?_⟩
    · rcases hlv with hlv | ⟨_, hlv⟩
      · omega
      · rw [show f + k - f = k by omega] at hlv
        exact absurd hlv hu
    · show s.1.length = _
      rw [h.sz]
      simp [rank, hu]
    · by_cases e : t = k
      · subst e; exact absurd hut hu
      · exact h.gate t (by omega) hut
theorem built_rem {roots : List Nat} (hU : UsedOf f gs roots) (hg : gOk f gs) : ∀ k, k ≤ gs.length → Rem f gs k (built false f (gs.take k)) := by
  intro k
  induction k with
  | zero =>
    intro _
    refine ⟨by simp [built, evens_len], fun v hv hlv => ?_, by simp [built, rank], fun t ht => absurd ht (by omega)⟩
    show (evens f).getD v 0 = _
    rw [evens_get (by omega), ren, if_pos (by omega)]
  | succ k ih =>
    intro hk
    rw [built_snoc _ _ _ _ (by omega)]
    exact (ih (by omega)).step f gs hU hg (by omega)

/-- The normal form stays when unused gates go. -/
theorem rem_norm {s : List G × List Nat} {roots : List Nat} (h : Rem f gs gs.length s) (hU : UsedOf f gs roots) (hg : gOk f gs) (hn : Norm f (gs.map Prod.fst)) (hf : 0 < f) : Norm f s.1 := by
  have hat : ∀ t, t < gs.length → at_ (gs.map Prod.fst) t = (A gs t, B gs t) := fun t ht => by
    simp [at_, A, B, List.getD_eq_getElem?_getD, ht]
  have hlen : (gs.map Prod.fst).length = gs.length := by simp
  have get : ∀ j, j < s.1.length → ∃ t, t < gs.length ∧ U gs t = true ∧ rank (U gs) t = j ∧ at_ s.1 j = (rl f gs (A gs t), rl f gs (B gs t)) := fun j hj => by
    rw [h.sz] at hj
    obtain ⟨t, h1, h2, h3⟩ := rank_surj _ _ _ hj
    exact ⟨t, h1, h2, h3, by rw [← h3]; exact h.gate t h1 h2⟩
  refine ⟨fun j hj => ?_, fun j hj => ?_, fun j hj => ?_, fun j hj => ?_, fun j l hjl hl => ?_⟩
  · obtain ⟨t, h1, h2, h3, h4⟩ := get j hj
    have := hn.low t (by omega)
    rw [hat t h1] at this
    obtain ⟨l1, l2⟩ := hU.live f gs hg h1 h2
    rw [h4]
    have h0 : ren f gs 0 < ren f gs (A gs t / 2) := ren_lt f gs (by simp only [] at this; omega) (.inl hf)
    show 2 ≤ rl f gs (A gs t)
    unfold rl
    omega
  · obtain ⟨t, h1, h2, h3, h4⟩ := get j hj
    have a := hn.ord t (by omega)
    have b := hn.dif t (by omega)
    rw [hat t h1] at a b
    obtain ⟨l1, l2⟩ := hU.live f gs hg h1 h2
    rw [h4]
    have := ren_lt f gs (v := A gs t / 2) (v' := B gs t / 2) (by simp only [] at a b; omega) l1
    show rl f gs (A gs t) < rl f gs (B gs t)
    unfold rl
    omega
  · obtain ⟨t, h1, h2, h3, h4⟩ := get j hj
    have a := hn.ord t (by omega)
    have b := hn.dif t (by omega)
    rw [hat t h1] at a b
    obtain ⟨l1, l2⟩ := hU.live f gs hg h1 h2
    rw [h4]
    have := ren_lt f gs (v := A gs t / 2) (v' := B gs t / 2) (by simp only [] at a b; omega) l1
    show rl f gs (A gs t) / 2 ≠ rl f gs (B gs t) / 2
    rw [rl_var, rl_var]
    omega
  · obtain ⟨t, h1, h2, h3, h4⟩ := get j hj
    have a := hn.ref t (by omega)
    rw [hat t h1] at a
    obtain ⟨l1, l2⟩ := hU.live f gs hg h1 h2
    rw [h4]
    have := ren_lt f gs (v := B gs t / 2) (v' := f + t) a l2
    have hr : ren f gs (f + t) = f + j := by unfold ren; rw [if_neg (by omega), show f + t - f = t by omega, h3]
    show rl f gs (B gs t) / 2 < f + j
    rw [rl_var]
    omega
  · obtain ⟨t, h1, h2, h3, h4⟩ := get j (by omega)
    obtain ⟨t', h1', h2', h3', h4'⟩ := get l hl
    rw [h4, h4']
    obtain ⟨l1, l2⟩ := hU.live f gs hg h1 h2
    obtain ⟨l1', l2'⟩ := hU.live f gs hg h1' h2'
    intro e
    injection e with e1 e2
    have ea := rl_inj f gs l1 l1' e1
    have eb := rl_inj f gs l2 l2' e2
    rcases Nat.lt_trichotomy t t' with ht | ht | ht
    · exact hn.inj t t' ht (by omega) (by rw [hat t h1, hat t' h1', ea, eb])
    · subst ht; omega
    · exact hn.inj t' t ht (by omega) (by rw [hat t h1, hat t' h1', ea, eb])
end removal
end Opt
