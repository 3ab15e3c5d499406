/- Plain mathematics of levels and depths; no program. -/
import Derived.Test.YtdadokcodklfgaaM
namespace Circ
/-- The levels of the variables when the first k gates are known; f variables come before the gates. -/
def lv (gs : List (Int × Int)) (f : Nat) : Nat → List Int
  | 0 => List.replicate f 0
  | k + 1 => lv gs f k ++ [1 + max ((lv gs f k).getD ((gs.getD k (0, 0)).1 / 2).toNat 0) ((lv gs f k).getD ((gs.getD k (0, 0)).2 / 2).toNat 0)]
def levels (gs : List (Int × Int)) (f : Nat) : List Int := lv gs f gs.length
theorem getD_app_lt {α : Type} (xs ys : List α) (j : Nat) (d : α) (h : j < xs.length) : (xs ++ ys).getD j d = xs.getD j d := by
  simp [List.getD_eq_getElem?_getD, List.getElem?_append_left h]
theorem getD_app_at {α : Type} (xs : List α) (y d : α) (j : Nat) (h : j = xs.length) : (xs ++ [y]).getD j d = y := by
  subst h
  simp [List.getD_eq_getElem?_getD]
/-- The highest level of literals, at least m. -/
def hiFrom (l : List Int) (m : Int) : List Int → Int
  | [] => m
  | x :: r => hiFrom l (max m (l.getD (x / 2).toNat 0)) r
def hi (l xs : List Int) : Int := hiFrom l 0 xs
end Circ
/- Plain mathematics of simulation: values of literals and of all variables, one clock cycle, a run; no program. -/
namespace Circ
def litV (v : List Bool) (lit : Int) : Bool := v.getD (lit / 2).toNat false != (lit % 2 == 1)
def vals : List (Int × Int) → List Bool → List Bool
  | [], v => v
  | g :: r, v => vals r (v ++ [litV v g.1 && litV v g.2])
def litsV (v : List Bool) (xs : List Int) : List Bool := xs.map (litV v)
/-- The values of all variables for a state and inputs. -/
def valsOf (gs : List (Int × Int)) (st ins : List Bool) : List Bool := vals gs (false :: (ins ++ st))
def outV (gs : List (Int × Int)) (os : List Int) (st ins : List Bool) : List Bool := litsV (valsOf gs st ins) os
/-- A machine word whose bits are the values of a list. -/
def Bits (m : Nat) (L : List Bool) : Prop := m < 18446744073709551616 ∧ ∀ j, m.testBit j = L.getD j false
theorem getD_snoc (L : List Bool) (b : Bool) (j : Nat) : (L ++ [b]).getD j false = if j < L.length then L.getD j false else if j = L.length then b else false := by
  rw [List.getD_eq_getElem?_getD, List.getD_eq_getElem?_getD, List.getElem?_append]
  split
  · rfl
  · split
    · next h => subst h; simp
    · rw [List.getElem?_eq_none (by simp; omega)]; rfl
theorem Bits.one : Bits 0 [false] := ⟨by omega, fun j => by cases j <;> simp⟩
theorem Bits.snocF {m : Nat} {L : List Bool} (h : Bits m L) : Bits m (L ++ [false]) := ⟨h.1, fun j => by
  rw [h.2 j, getD_snoc]
  split
  · rfl
  · rw [List.getD_eq_getElem?_getD, List.getElem?_eq_none (by omega)]; simp⟩
theorem Bits.snocT {m : Nat} {L : List Bool} (h : Bits m L) (hl : L.length < 64) : Bits (m ||| 2 ^ L.length) (L ++ [true]) := by
  refine ⟨?_, fun j => ?_⟩
  · have h1 := h.1
    have h2 : 2 ^ L.length < 2 ^ 64 := Nat.pow_lt_pow_right (by omega) hl
    have := Nat.or_lt_two_pow (n := 64) (x := m) (by omega) h2
    omega
  · rw [Nat.testBit_or, Nat.testBit_two_pow, h.2 j, getD_snoc]
    by_cases h1 : j < L.length
    · rw [if_pos h1]
      have : ¬ L.length = j := by omega
      simp [this]
    · rw [if_neg h1]
      by_cases h2 : j = L.length
      · simp [h2]
      · have : ¬ L.length = j := by omega
        rw [if_neg h2, List.getD_eq_getElem?_getD, List.getElem?_eq_none (by omega)]
        simp [this]
theorem Bits.snoc {m : Nat} {L : List Bool} (h : Bits m L) (hl : L.length < 64) (b : Bool) : Bits (if b = true then m ||| 2 ^ L.length else m) (L ++ [b]) := by
  cases b
  · exact h.snocF
  · exact h.snocT hl
end Circ
/- Plain mathematics of optimization: structural hashing, unused gates, the normal form; no program. -/
namespace Opt
abbrev G := Nat × Nat
def neg1 (x : Nat) : Nat := if x % 2 = 0 then x + 1 else x - 1
/-- A literal, complemented if p is not 0. -/
def xl (x p : Nat) : Nat := if p = 0 then x else neg1 x
theorem xl_var (x p : Nat) : xl x p / 2 = x / 2 := by
  unfold xl neg1
  split
  · rfl
  · split <;> omega
/-- The literal of the rebuilt circuit for a literal: m holds the literal of every variable. -/
def mapL (m : List Nat) (l : Nat) : Nat := xl (m.getD (l / 2) 0) (l % 2)
theorem mapL_var (m : List Nat) (l : Nat) : mapL m l / 2 = m.getD (l / 2) 0 / 2 := xl_var _ _
theorem xl_even (v p : Nat) (hp : p < 2) : xl (2 * v) p = 2 * v + p := by
  unfold xl neg1
  split
  · omega
  · rw [if_pos (by omega)]; omega

def at_ (x : List G) (j : Nat) : G := x.getD j (0, 0)
theorem at_lt {x y : List G} {j : Nat} (h : j < x.length) : at_ (x ++ y) j = at_ x j := by
  simp [at_, List.getD_eq_getElem?_getD, List.getElem?_append_left h]
theorem at_eq (x : List G) (g : G) : at_ (x ++ [g]) x.length = g := by
  simp [at_, List.getD_eq_getElem?_getD]
/-- The place of a gate, the length if it is not there. -/
def idx : List G → G → Nat
  | [], _ => 0
  | g :: r, p => if g = p then 0 else idx r p + 1
theorem idx_le (x : List G) (p : G) : idx x p ≤ x.length := by
  induction x with
  | nil => exact Nat.le_refl _
  | cons g r ih => unfold idx; split <;> simp; omega
theorem idx_ne {x : List G} {p : G} {j : Nat} (h : j < idx x p) : at_ x j ≠ p := by
  induction x generalizing j with
  | nil => simp [idx] at h
  | cons g r ih =>
    unfold idx at h
    split at h
    · omega
    · next e =>
      cases j with
      | zero => simpa [at_] using e
      | succ j =>
        have := ih (j := j) (by omega)
        simpa [at_, List.getD_eq_getElem?_getD] using this

/-- The conjunction of two literals over the gates built so far. -/
def and3 (f : Nat) (x : List G) (a b : Nat) : List G × Nat :=
  if min a b = 0 ∨ (min a b + 1 = max a b ∧ min a b % 2 = 0) then (x, 0)
  else if min a b = 1 ∨ min a b = max a b then (x, max a b)
  else if idx x (min a b, max a b) < x.length then (x, 2 * (f + idx x (min a b, max a b)))
  else (x ++ [(min a b, max a b)], 2 * (f + x.length))

/-- The normal form of a list of gates whose first variable is f. -/
structure Norm (f : Nat) (x : List G) : Prop where
  low : ∀ j, j < x.length → 2 ≤ (at_ x j).1
  ord : ∀ j, j < x.length → (at_ x j).1 < (at_ x j).2
  dif : ∀ j, j < x.length → (at_ x j).1 / 2 ≠ (at_ x j).2 / 2
  ref : ∀ j, j < x.length → (at_ x j).2 / 2 < f + j
  inj : ∀ j l, j < l → l < x.length → at_ x j ≠ at_ x l
theorem Norm.nil (f : Nat) : Norm f [] := ⟨fun j h => absurd h (by simp), fun j h => absurd h (by simp), fun j h => absurd h (by simp), fun j h => absurd h (by simp), fun j l _ h => absurd h (by simp)⟩
theorem Norm.snoc {f : Nat} {x : List G} {g : G} (h : Norm f x) (h1 : 2 ≤ g.1) (h2 : g.1 < g.2) (h3 : g.1 / 2 ≠ g.2 / 2) (h4 : g.2 / 2 < f + x.length) (h5 : ∀ j, j < x.length → at_ x j ≠ g) : Norm f (x ++ [g]) := by
  have key : ∀ (P : Nat → G → Prop), (∀ j, j < x.length → P j (at_ x j)) → P x.length g → ∀ j, j < (x ++ [g]).length → P j (at_ (x ++ [g]) j) := fun P hp hg j hj => by
    rw [List.length_append, List.length_singleton] at hj
    by_cases e : j = x.length
    · subst e; rw [at_eq]; exact hg
    · rw [at_lt (by omega)]; exact hp j (by omega)
  refine ⟨key (fun _ g => 2 ≤ g.1) h.low h1, key (fun _ g => g.1 < g.2) h.ord h2, key (fun _ g => g.1 / 2 ≠ g.2 / 2) h.dif h3, key (fun j g => g.2 / 2 < f + j) h.ref h4, fun j l hj hl => ?_⟩
  rw [List.length_append, List.length_singleton] at hl
  rw [at_lt (by omega : j < x.length)]
  by_cases e : l = x.length
  · subst e; rw [at_eq]; exact h5 j hj
  · rw [at_lt (by omega)]; exact h.inj j l hj (by omega)

theorem and3_norm {f : Nat} {x : List G} {a b : Nat} (h : Norm f x) (ha : a / 2 < f + x.length) (hb : b / 2 < f + x.length) (_hf : 0 < f) :
    Norm f (and3 f x a b).1 ∧ (and3 f x a b).2 / 2 < f + (and3 f x a b).1.length ∧ (∃ t, (and3 f x a b).1 = x ++ t ∧ t.length ≤ 1) := by
  unfold and3
  split
  · exact ⟨h, by simp; omega, [], by simp, by simp⟩
  · next e1 =>
    split
    · exact ⟨h, by simp only []; omega, [], by simp, by simp⟩
    · next e2 =>
      split
      · next e3 => exact ⟨h, by simp only []; omega, [], by simp, by simp⟩
      · next e3 =>
        have hi := idx_le x (min a b, max a b)
        refine ⟨h.snoc (by simp only []; omega) (by simp only []; omega) (by simp only []; omega) (by simp only []; omega) (fun j hj => idx_ne (by omega)), by simp only [List.length_append, List.length_singleton]; omega, _, rfl, by simp⟩

/-- One gate of the rebuilding: the gates so far and the literals of the variables so far. -/
def bstep (share : Bool) (f : Nat) (s : List G × List Nat) (g : G × Bool) : List G × List Nat :=
  if g.2 = true then
    if share = true then ((and3 f s.1 (mapL s.2 g.1.1) (mapL s.2 g.1.2)).1, s.2 ++ [(and3 f s.1 (mapL s.2 g.1.1) (mapL s.2 g.1.2)).2])
    else (s.1 ++ [(mapL s.2 g.1.1, mapL s.2 g.1.2)], s.2 ++ [2 * (f + s.1.length)])
  else (s.1, s.2 ++ [0])
def evens (n : Nat) : List Nat := (List.range n).map (2 * ·)
/-- The state behind k gates. -/
def built (share : Bool) (f : Nat) (gs : List (G × Bool)) : List G × List Nat := gs.foldl (bstep share f) ([], evens f)
/-- What the sharing rebuilding keeps. -/
structure Good (f : Nat) (k : Nat) (s : List G × List Nat) : Prop where
  norm : Norm f s.1
  len : s.2.length = f + k
  le : s.1.length ≤ k
  var : ∀ v, v < f + k → s.2.getD v 0 / 2 < f + s.1.length
  base : ∀ v, v < f → s.2.getD v 0 = 2 * v
theorem getD_app_lt {m : List Nat} {z v : Nat} (h : v < m.length) : (m ++ [z]).getD v 0 = m.getD v 0 := by
  simp [List.getD_eq_getElem?_getD, List.getElem?_append_left h]
theorem getD_app_eq (m : List Nat) (z : Nat) : (m ++ [z]).getD m.length 0 = z := by
  simp [List.getD_eq_getElem?_getD]
theorem Good.step {f k : Nat} {s : List G × List Nat} (h : Good f k s) (hf : 0 < f) (g : G × Bool) (h1 : g.1.1 / 2 < f + k) (h2 : g.1.2 / 2 < f + k) : Good f (k + 1) (bstep true f s g) := by
  have hl := h.len
  have snoc : ∀ (x' : List G) (z : Nat), Norm f x' → s.1.length ≤ x'.length → x'.length ≤ s.1.length + 1 → z / 2 < f + x'.length → Good f (k + 1) (x', s.2 ++ [z]) := fun x' z hn hle hle2 hz => by
    refine ⟨hn, by simp [hl]; omega, by have := h.le; simp only []; omega, fun v hv => ?_, fun v hv => ?_⟩
    · by_cases e : v = f + k
      · subst e
        show (s.2 ++ [z]).getD (f + k) 0 / 2 < _
        rw [← hl, getD_app_eq]
        exact hz
      · show (s.2 ++ [z]).getD v 0 / 2 < _
        rw [getD_app_lt (by omega)]
        have := h.var v (by omega)
        simp only []
        omega
    · show (s.2 ++ [z]).getD v 0 = _
      rw [getD_app_lt (by omega)]
      exact h.base v hv
  unfold bstep
  split
  · simp only [if_true]
    have ha : mapL s.2 g.1.1 / 2 < f + s.1.length := by rw [mapL_var]; exact h.var _ h1
    have hb : mapL s.2 g.1.2 / 2 < f + s.1.length := by rw [mapL_var]; exact h.var _ h2
    obtain ⟨n1, n2, t, n3, n4⟩ := and3_norm h.norm ha hb hf
    have hl3 : (and3 f s.1 (mapL s.2 g.1.1) (mapL s.2 g.1.2)).1.length = s.1.length + t.length := by rw [n3, List.length_append]
    exact snoc _ _ n1 (by omega) (by omega) n2
  · exact snoc _ 0 h.norm (Nat.le_refl _) (by omega) (by simp; omega)
/-- The gates refer to earlier variables. -/
def gOk (f : Nat) (gs : List (G × Bool)) : Prop := ∀ k, k < gs.length → (gs.getD k ((0, 0), false)).1.1 / 2 < f + k ∧ (gs.getD k ((0, 0), false)).1.2 / 2 < f + k
/-- How many of the first numbers are marked. -/
def rank (u : Nat → Bool) : Nat → Nat
  | 0 => 0
  | t + 1 => rank u t + (if u t = true then 1 else 0)
theorem rank_mono (u : Nat → Bool) {s t : Nat} (h : s ≤ t) : rank u s ≤ rank u t := by
  induction t with
  | zero => have : s = 0 := by omega
            subst this; exact Nat.le_refl _
  | succ t ih =>
    by_cases e : s = t + 1
    · subst e; exact Nat.le_refl _
    · have h1 := ih (by omega)
      have h2 : rank u (t + 1) = rank u t + (if u t = true then 1 else 0) := rfl
      rw [h2]
      split <;> omega
theorem rank_lt {u : Nat → Bool} {s t : Nat} (h : s < t) (hu : u s = true) : rank u s < rank u t := by
  have h1 := rank_mono u (show s + 1 ≤ t by omega)
  have h2 : rank u (s + 1) = rank u s + 1 := by simp [rank, hu]
  omega
section removal
variable (f : Nat) (gs : List (G × Bool))
def U (t : Nat) : Bool := (gs.getD t ((0, 0), false)).2
def A (t : Nat) : Nat := (gs.getD t ((0, 0), false)).1.1
def B (t : Nat) : Nat := (gs.getD t ((0, 0), false)).1.2
def ren (v : Nat) : Nat := if v < f then v else f + rank (U gs) (v - f)
def rl (l : Nat) : Nat := 2 * ren f gs (l / 2) + l % 2
/-- A variable that stays. -/
def live (v : Nat) : Prop := v < f ∨ (f ≤ v ∧ U gs (v - f) = true)
/-- Every gate that stays is wanted by an output or by a later gate that stays, and no other gate is. -/
structure UsedOf (roots : List Nat) : Prop where
  root : ∀ t, t < gs.length → (∃ r, r ∈ roots ∧ r / 2 = f + t) → U gs t = true
  op : ∀ t t', t < t' → t' < gs.length → U gs t' = true → (A gs t' / 2 = f + t ∨ B gs t' / 2 = f + t) → U gs t = true
  why : ∀ t, t < gs.length → U gs t = true → (∃ r, r ∈ roots ∧ r / 2 = f + t) ∨ ∃ t', t < t' ∧ t' < gs.length ∧ U gs t' = true ∧ (A gs t' / 2 = f + t ∨ B gs t' / 2 = f + t)
theorem UsedOf.live {roots : List Nat} (h : UsedOf f gs roots) (hg : gOk f gs) {t : Nat} (ht : t < gs.length) (hu : U gs t = true) : live f gs (A gs t / 2) ∧ live f gs (B gs t / 2) := by
  obtain ⟨g1, g2⟩ := hg t ht
  have g1' : A gs t / 2 < f + t := g1
  have g2' : B gs t / 2 < f + t := g2
  constructor
  · by_cases e : A gs t / 2 < f
    · exact .inl e
    · exact .inr ⟨by omega, h.op _ t (by omega) ht hu (.inl (by omega))⟩
  · by_cases e : B gs t / 2 < f
    · exact .inl e
    · exact .inr ⟨by omega, h.op _ t (by omega) ht hu (.inr (by omega))⟩

/-- What the removal keeps. -/
structure Rem (k : Nat) (s : List G × List Nat) : Prop where
  len : s.2.length = f + k
  map : ∀ v, v < f + k → live f gs v → s.2.getD v 0 = 2 * ren f gs v
  sz : s.1.length = rank (U gs) k
  gate : ∀ t, t < k → U gs t = true → at_ s.1 (rank (U gs) t) = (rl f gs (A gs t), rl f gs (B gs t))
theorem Rem.lit {k : Nat} {s : List G × List Nat} (h : Rem f gs k s) {l : Nat} (hl : l / 2 < f + k) (hv : live f gs (l / 2)) : mapL s.2 l = rl f gs l := by
  unfold mapL rl
  rw [h.map _ hl hv, xl_even _ _ (Nat.mod_lt _ (by omega))]
theorem Rem.step {k : Nat} {s : List G × List Nat} {roots : List Nat} (hU : UsedOf f gs roots) (hg : gOk f gs) (hk : k < gs.length) (h : Rem f gs k s) : Rem f gs (k + 1) (bstep false f s (gs.getD k ((0, 0), false))) := by
  have hl := h.len
  have ext : ∀ z, (live f gs (f + k) → z = 2 * ren f gs (f + k)) → ∀ v, v < f + (k + 1) → live f gs v → (s.2 ++ [z]).getD v 0 = 2 * ren f gs v := fun z hz v hv hlv => by
    by_cases e : v = f + k
    · subst e
      rw [← hl, getD_app_eq, hl]
      exact hz hlv
    · rw [getD_app_lt (by omega)]
      exact h.map v (by omega) hlv
  have hren : ren f gs (f + k) = f + rank (U gs) k := by
    unfold ren
    rw [if_neg (by omega), show f + k - f = k by omega]
  unfold bstep
  by_cases hu : U gs k = true
  · have hu' : (gs.getD k ((0, 0), false)).2 = true := hu
    rw [if_pos hu', if_neg (by simp)]
    obtain ⟨l1, l2⟩ := hU.live f gs hg hk hu
    obtain ⟨o1, o2⟩ := hg k hk
    refine ⟨by simp [hl]; omega, ext _ (fun _ => by rw [hren, h.sz]), ?_, fun t ht hut => ?_⟩
    · show (s.1 ++ [_]).length = _
      rw [List.length_append, List.length_singleton, h.sz]
      simp [rank, hu]
    · show at_ (s.1 ++ [_]) _ = _
      by_cases e : t = k
      · subst e
        rw [← h.sz, at_eq]
        rw [show mapL s.2 (gs.getD t ((0, 0), false)).1.1 = rl f gs (A gs t) from h.lit f gs o1 l1, show mapL s.2 (gs.getD t ((0, 0), false)).1.2 = rl f gs (B gs t) from h.lit f gs o2 l2]
      · rw [at_lt (by rw [h.sz]; exact rank_lt (by omega) hut)]
        exact h.gate t (by omega) hut
  · have hu' : ¬ (gs.getD k ((0, 0), false)).2 = true := hu
    rw [if_neg hu']
    refine ⟨by simp [hl]; omega, ext _ (fun hlv => ?_), ?_, fun t ht hut => ?_⟩
    · rcases hlv with hlv | ⟨_, hlv⟩
      · omega
      · rw [show f + k - f = k by omega] at hlv
        exact absurd hlv hu
    · show s.1.length = _
      rw [h.sz]
      simp [rank, hu]
    · by_cases e : t = k
      · subst e; exact absurd hut hu
      · exact h.gate t (by omega) hut
end removal
end Opt
/- Plain mathematics of optimization: which gates are used, the optimized circuit, its normal form, and that optimizing again changes nothing. -/
namespace Opt
/-- Which gates are used, the last gate first: a gate is if a root, or an operand of a used gate, is its literal. -/
def needRev (f : Nat) : List G → List Nat → List Bool
  | [], _ => []
  | g :: r, roots => (roots.any fun x => x / 2 == f + r.length) :: needRev f r (if (roots.any fun x => x / 2 == f + r.length) = true then g.1 :: g.2 :: roots else roots)
def used (f : Nat) (gs : List G) (roots : List Nat) : List Bool := (needRev f gs.reverse roots).reverse
theorem used_snoc (f : Nat) (gs : List G) (g : G) (roots : List Nat) : used f (gs ++ [g]) roots = used f gs (if (roots.any fun x => x / 2 == f + gs.length) = true then g.1 :: g.2 :: roots else roots) ++ [roots.any fun x => x / 2 == f + gs.length] := by
  simp [used, needRev]

theorem zip_len (gs : List G) (u : List Bool) (h : u.length = gs.length) : (gs.zip u).length = gs.length := by simp [h]
theorem zip_A (gs : List G) (u : List Bool) (h : u.length = gs.length) {t : Nat} (ht : t < gs.length) : A (gs.zip u) t = (at_ gs t).1 := by
  simp [A, at_, List.getD_eq_getElem?_getD, ht, h, List.getElem_zip]
theorem zip_B (gs : List G) (u : List Bool) (h : u.length = gs.length) {t : Nat} (ht : t < gs.length) : B (gs.zip u) t = (at_ gs t).2 := by
  simp [B, at_, List.getD_eq_getElem?_getD, ht, h, List.getElem_zip]
theorem zip_U (gs : List G) (u : List Bool) (h : u.length = gs.length) {t : Nat} (ht : t < gs.length) : U (gs.zip u) t = u.getD t false := by
  simp [U, List.getD_eq_getElem?_getD, ht, h, List.getElem_zip]
/-- A list of marks says which gates are used. -/
structure Use (f : Nat) (gs : List G) (roots : List Nat) (u : List Bool) : Prop where
  len : u.length = gs.length
  root : ∀ t, t < gs.length → (∃ r, r ∈ roots ∧ r / 2 = f + t) → u.getD t false = true
  op : ∀ t t', t < t' → t' < gs.length → u.getD t' false = true → ((at_ gs t').1 / 2 = f + t ∨ (at_ gs t').2 / 2 = f + t) → u.getD t false = true
  why : ∀ t, t < gs.length → u.getD t false = true → (∃ r, r ∈ roots ∧ r / 2 = f + t) ∨ ∃ t', t < t' ∧ t' < gs.length ∧ u.getD t' false = true ∧ ((at_ gs t').1 / 2 = f + t ∨ (at_ gs t').2 / 2 = f + t)
theorem Use.of {f : Nat} {gs : List G} {roots : List Nat} {u : List Bool} (h : Use f gs roots u) : UsedOf f (gs.zip u) roots := by
  have hl := zip_len gs u h.len
  refine ⟨fun t ht hr => ?_, fun t t' htt ht hu ho => ?_, fun t ht hu => ?_⟩
  · rw [hl] at ht
    rw [zip_U gs u h.len ht]; exact h.root t ht hr
  · rw [hl] at ht
    rw [zip_A gs u h.len ht, zip_B gs u h.len ht] at ho
    rw [zip_U gs u h.len ht] at hu
    rw [zip_U gs u h.len (by omega)]; exact h.op t t' htt ht hu ho
  · rw [hl] at ht
    rw [zip_U gs u h.len ht] at hu
    rcases h.why t ht hu with h1 | ⟨t', h1, h2, h3, h4⟩
    · exact .inl h1
    · exact .inr ⟨t', h1, by omega, by rw [zip_U gs u h.len h2]; exact h3, by rw [zip_A gs u h.len h2, zip_B gs u h.len h2]; exact h4⟩
/-- There is but one such list. -/
theorem Use.uniq {f : Nat} {gs : List G} {roots : List Nat} {u u' : List Bool} (h : Use f gs roots u) (h' : Use f gs roots u') : u = u' := by
  have key : ∀ d t, t < gs.length → gs.length - t ≤ d → u.getD t false = u'.getD t false := by
    intro d
    induction d with
    | zero => intro t ht hd; omega
    | succ d ih =>
      intro t ht hd
      have imp : ∀ (v v' : List Bool), Use f gs roots v → Use f gs roots v' → (∀ t', t < t' → t' < gs.length → v.getD t' false = v'.getD t' false) → v.getD t false = true → v'.getD t false = true := fun v v' hv hv' he hvt => by
        rcases hv.why t ht hvt with h1 | ⟨t', h1, h2, h3, h4⟩
        · exact hv'.root t ht h1
        · exact hv'.op t t' h1 h2 (by rw [← he t' h1 h2]; exact h3) h4
      have e1 := imp u u' h h' (fun t' h1 h2 => ih t' h2 (by omega))
      have e2 := imp u' u h' h (fun t' h1 h2 => (ih t' h2 (by omega)).symm)
      cases hx : u.getD t false <;> cases hy : u'.getD t false
      · rfl
      · exact absurd (e2 hy) (by rw [hx]; simp)
      · exact absurd (e1 hx) (by rw [hy]; simp)
      · rfl
  refine List.ext_getElem (by rw [h.len, h'.len]) (fun t h1 h2 => ?_)
  have := key gs.length t (by rw [← h.len]; exact h1) (by omega)
  simpa [List.getD_eq_getElem?_getD, h1, h2] using this
theorem getD_b_lt {u : List Bool} {b : Bool} {t : Nat} (h : t < u.length) : (u ++ [b]).getD t false = u.getD t false := by
  simp [List.getD_eq_getElem?_getD, List.getElem?_append_left h]
theorem getD_b_eq (u : List Bool) (b : Bool) {t : Nat} (h : t = u.length) : (u ++ [b]).getD t false = b := by
  subst h
  simp [List.getD_eq_getElem?_getD]
theorem used_use (f : Nat) (gs : List G) (roots : List Nat) : Use f gs roots (used f gs roots) := by
  induction hn : gs.length generalizing gs roots with
  | zero =>
    have : gs = [] := List.eq_nil_of_length_eq_zero hn
    subst this
    exact ⟨rfl, fun t ht => absurd ht (by simp), fun t t' _ ht => absurd ht (by simp), fun t ht => absurd ht (by simp)⟩
  | succ n ih =>
    obtain ⟨gi, g, rfl⟩ : ∃ gi g, gs = gi ++ [g] := ⟨gs.dropLast, gs.getLast (by intro e; simp [e] at hn), (List.dropLast_concat_getLast _).symm⟩
    have hl : gi.length = n := by simpa using hn
    rw [used_snoc]
    generalize hb : (roots.any fun x => x / 2 == f + gi.length) = b
    have hb1 : b = true ↔ ∃ r, r ∈ roots ∧ r / 2 = f + n := by
      rw [← hb, List.any_eq_true, hl]
      simp
    have I := ih gi (if b = true then g.1 :: g.2 :: roots else roots) hl
    generalize hu : used f gi (if b = true then g.1 :: g.2 :: roots else roots) = u at *
    have hul := I.len
    refine ⟨by simp [hul], fun t ht hr => ?_, fun t t' htt ht hut ho => ?_, fun t ht hut => ?_⟩
    · rw [hn] at ht
      by_cases e : t = n
      · rw [getD_b_eq _ _ (by omega), hb1]
        obtain ⟨r, h1, h2⟩ := hr
        exact ⟨r, h1, by omega⟩
      · rw [getD_b_lt (by omega)]
        obtain ⟨r, h1, h2⟩ := hr
        refine I.root t (by omega) ⟨r, ?_, h2⟩
        split
        · exact List.mem_cons_of_mem _ (List.mem_cons_of_mem _ h1)
        · exact h1
    · rw [hn] at ht
      rw [getD_b_lt (by omega : t < u.length)]
      by_cases e : t' = n
      · rw [getD_b_eq _ _ (by omega)] at hut
        subst e
        rw [← hl, at_eq] at ho
        rcases ho with ho | ho
        · exact I.root t (by omega) ⟨g.1, by rw [if_pos hut]; exact List.mem_cons_self .., ho⟩
        · exact I.root t (by omega) ⟨g.2, by rw [if_pos hut]; exact List.mem_cons_of_mem _ (List.mem_cons_self ..), ho⟩
      · rw [getD_b_lt (by omega)] at hut
        rw [at_lt (by omega : t' < gi.length)] at ho
        exact I.op t t' htt (by omega) hut ho
    · rw [hn] at ht
      by_cases e : t = n
      · rw [getD_b_eq _ _ (by omega), hb1] at hut
        obtain ⟨r, h1, h2⟩ := hut
        exact .inl ⟨r, h1, by omega⟩
      · rw [getD_b_lt (by omega)] at hut
        rcases I.why t (by omega) hut with ⟨r, h1, h2⟩ | ⟨t', h1, h2, h3, h4⟩
        · split at h1
          · next hbt =>
            rcases List.mem_cons.1 h1 with rfl | h1
            · exact .inr ⟨n, by omega, by omega, by rw [getD_b_eq _ _ (by omega)]; exact hbt, .inl (by rw [← hl, at_eq]; exact h2)⟩
            · rcases List.mem_cons.1 h1 with rfl | h1
              · exact .inr ⟨n, by omega, by omega, by rw [getD_b_eq _ _ (by omega)]; exact hbt, .inr (by rw [← hl, at_eq]; exact h2)⟩
              · exact .inl ⟨r, h1, h2⟩
          · exact .inl ⟨r, h1, h2⟩
        · exact .inr ⟨t', h1, by omega, by rw [getD_b_lt (by omega)]; exact h3, by rw [at_lt (by omega : t' < gi.length)]; exact h4⟩

/-- Gates in order: operands are earlier variables. -/
def ordered (f : Nat) (gs : List G) : Prop := ∀ k, k < gs.length → (at_ gs k).1 / 2 < f + k ∧ (at_ gs k).2 / 2 < f + k
theorem Norm.ordered {f : Nat} {x : List G} (h : Norm f x) : ordered f x := fun k hk => by
  have h1 := h.ord k hk
  have h2 := h.ref k hk
  omega

/-- Every gate is wanted by a root or by a later gate. -/
def AllUsed (f : Nat) (x : List G) (roots : List Nat) : Prop := ∀ t, t < x.length → (∃ r, r ∈ roots ∧ r / 2 = f + t) ∨ ∃ t', t < t' ∧ t' < x.length ∧ ((at_ x t').1 / 2 = f + t ∨ (at_ x t').2 / 2 = f + t)
end Opt
/- Plain mathematics of optimization: the values and the levels of the optimized circuit. -/
namespace Opt
def litB (v : Nat → Bool) (l : Nat) : Bool := v (l / 2) != (l % 2 == 1)
/-- Values of the variables that fit the gates. -/
structure Sem (f : Nat) (gs : List G) (v : Nat → Bool) : Prop where
  zero : v 0 = false
  gate : ∀ k, k < gs.length → v (f + k) = (litB v (at_ gs k).1 && litB v (at_ gs k).2)
/-- Levels of the variables that fit the gates. -/
structure Lev (f : Nat) (gs : List G) (L : Nat → Nat) : Prop where
  base : ∀ v, v < f → L v = 0
  gate : ∀ k, k < gs.length → L (f + k) = 1 + max (L ((at_ gs k).1 / 2)) (L ((at_ gs k).2 / 2))
theorem Sem.pre {f : Nat} {x t : List G} {v : Nat → Bool} (h : Sem f (x ++ t) v) : Sem f x v := ⟨h.zero, fun k hk => by have := h.gate k (by simp; omega); rwa [at_lt hk] at this⟩
theorem Lev.pre {f : Nat} {x t : List G} {L : Nat → Nat} (h : Lev f (x ++ t) L) : Lev f x L := ⟨h.base, fun k hk => by have := h.gate k (by simp; omega); rwa [at_lt hk] at this⟩
section
variable {f : Nat} {gs : List G} {u : List Bool} {roots : List Nat}
end
end Opt
/- Plain mathematics of optimization: both passes together: the normal form, the size, the levels, the values, and that optimizing again changes nothing. -/
namespace Opt
theorem Lev.zero (f : Nat) : Lev f [] (fun _ => 0) := ⟨fun _ _ => rfl, fun k hk => absurd hk (by simp)⟩
section
variable {f : Nat} {gs : List G} {roots : List Nat}
end

/-- Gates, outputs and next states. -/
structure C where
  gs : List G
  os : List Nat
  ns : List Nat
def C.roots (c : C) : List Nat := c.os ++ c.ns
structure Ok (f : Nat) (c : C) : Prop where
  ord : ordered f c.gs
  root : ∀ r, r ∈ c.roots → r / 2 < f + c.gs.length
/-- The normal form. -/
structure Form (f : Nat) (c : C) : Prop where
  ok : Ok f c
  norm : Norm f c.gs
  use : AllUsed f c.gs c.roots
end Opt
/- Plain mathematics of optimization: the same for circuits as the program has them. -/
namespace Opt
open Circ
def intG (gs : List G) : List (Int × Int) := gs.map fun g => ((g.1 : Int), (g.2 : Int))
def intL (xs : List Nat) : List Int := xs.map fun (x : Nat) => (x : Int)
theorem intG_len (gs : List G) : (intG gs).length = gs.length := by simp [intG]
theorem intL_len (xs : List Nat) : (intL xs).length = xs.length := by simp [intL]
theorem intG_at (gs : List G) (k : Nat) : (intG gs).getD k (0, 0) = (((at_ gs k).1 : Int), ((at_ gs k).2 : Int)) := by
  by_cases h : k < gs.length <;> simp [at_, intG, List.getD_eq_getElem?_getD, h]
theorem intL_at (xs : List Nat) (k : Nat) : (intL xs).getD k 0 = (xs.getD k 0 : Int) := by
  by_cases h : k < xs.length <;> simp [intL, List.getD_eq_getElem?_getD, h]
/-- The first variable of a gate. -/
def fst (i : Int) (ns : List Int) : Nat := (1 + i + ns.length).toNat
section
variable {i : Int} {ns : List Int} {gs : List (Int × Int)} {os : List Int}
end
end Opt
/- Plain mathematics of optimization: in a circuit in normal form sharing finds nothing to share, so the second pass may share or not. -/
namespace Opt
end Opt
/- Plain mathematics of optimization: marking the gates that are used, from the last one to the first. -/
namespace Opt
/-- The marks behind k gates from the last one on; p marks variables. -/
structure Mk (f : Nat) (gs : List G) (roots : List Nat) (k : Nat) (p : Nat → Bool) : Prop where
  root : ∀ r, r ∈ roots → f ≤ r / 2 → p (r / 2) = true
  op : ∀ t, gs.length ≤ t + k → t < gs.length → p (f + t) = true → (f ≤ (at_ gs t).1 / 2 → p ((at_ gs t).1 / 2) = true) ∧ (f ≤ (at_ gs t).2 / 2 → p ((at_ gs t).2 / 2) = true)
  why : ∀ v, f ≤ v → p v = true → (∃ r, r ∈ roots ∧ r / 2 = v) ∨ ∃ t, gs.length ≤ t + k ∧ t < gs.length ∧ p (f + t) = true ∧ ((at_ gs t).1 / 2 = v ∨ (at_ gs t).2 / 2 = v)
theorem Mk.start {f : Nat} {gs : List G} {roots : List Nat} {p : Nat → Bool} (h : ∀ v, f ≤ v → p v = roots.any fun r => r / 2 == v) : Mk f gs roots 0 p := by
  refine ⟨fun r hr hf => ?_, fun t h1 h2 => by omega, fun v hv hp => ?_⟩
  · rw [h _ hf, List.any_eq_true]
    exact ⟨r, hr, by simp⟩
  · rw [h _ hv, List.any_eq_true] at hp
    obtain ⟨r, h1, h2⟩ := hp
    exact .inl ⟨r, h1, by simpa using h2⟩
theorem Mk.step {f : Nat} {gs : List G} {roots : List Nat} {k i : Nat} {p p' : Nat → Bool} (h : Mk f gs roots k p) (hg : ordered f gs) (hi : i + (k + 1) = gs.length)
    (hp : ∀ v, f ≤ v → p' v = (p v || (p (f + i) && ((at_ gs i).1 / 2 == v || (at_ gs i).2 / 2 == v)))) : Mk f gs roots (k + 1) p' := by
  obtain ⟨o1, o2⟩ := hg i (by omega)
  have up : ∀ v, f ≤ v → p v = true → p' v = true := fun v hv h1 => by rw [hp v hv, h1]; rfl
  have same : ∀ t, i ≤ t → p' (f + t) = p (f + t) := fun t ht => by
    rw [hp _ (by omega)]
    have e1 : ((at_ gs i).1 / 2 == f + t) = false := by simp; omega
    have e2 : ((at_ gs i).2 / 2 == f + t) = false := by simp; omega
    rw [e1, e2]
    simp
  refine ⟨fun r hr hf => up _ hf (h.root r hr hf), fun t h1 h2 h3 => ?_, fun v hv h1 => ?_⟩
  · rw [same t (by omega)] at h3
    by_cases e : t = i
    · subst e
      constructor
      · intro hf
        rw [hp _ hf, h3]
        simp
      · intro hf
        rw [hp _ hf, h3]
        simp
    · obtain ⟨a, b⟩ := h.op t (by omega) h2 h3
      exact ⟨fun hf => up _ hf (a hf), fun hf => up _ hf (b hf)⟩
  · rw [hp v hv] at h1
    cases hpv : p v with
    | true =>
      rcases h.why v hv hpv with h2 | ⟨t, h2, h3, h4, h5⟩
      · exact .inl h2
      · exact .inr ⟨t, by omega, h3, up _ (by omega) h4, h5⟩
    | false =>
      rw [hpv, Bool.false_or, Bool.and_eq_true] at h1
      obtain ⟨h2, h3⟩ := h1
      refine .inr ⟨i, by omega, by omega, up _ (by omega) h2, ?_⟩
      simpa using h3
def marks (f n : Nat) (p : Nat → Bool) : List Bool := (List.range n).map fun t => p (f + t)
theorem marks_get {f n t : Nat} (p : Nat → Bool) (h : t < n) : (marks f n p).getD t false = p (f + t) := by
  simp [marks, List.getD_eq_getElem?_getD, h]
theorem Mk.use {f : Nat} {gs : List G} {roots : List Nat} {p : Nat → Bool} (h : Mk f gs roots gs.length p) (hg : ordered f gs) : marks f gs.length p = used f gs roots := by
  have hU : Use f gs roots (marks f gs.length p) := by
    refine ⟨by simp [marks], fun t ht hr => ?_, fun t t' htt ht hu ho => ?_, fun t ht hu => ?_⟩
    · obtain ⟨r, h1, h2⟩ := hr
      rw [marks_get p ht, ← h2]
      exact h.root r h1 (by omega)
    · rw [marks_get p ht] at hu
      rw [marks_get p (by omega)]
      obtain ⟨a, b⟩ := h.op t' (by omega) ht hu
      rcases ho with ho | ho
      · rw [← ho]; exact a (by omega)
      · rw [← ho]; exact b (by omega)
    · rw [marks_get p ht] at hu
      rcases h.why (f + t) (by omega) hu with h1 | ⟨t', h1, h2, h3, h4⟩
      · exact .inl h1
      · have := hg t' h2
        exact .inr ⟨t', by omega, h2, by rw [marks_get p h2]; exact h3, h4⟩
  exact hU.uniq (used_use f gs roots)
theorem bit_or (m x v : Nat) : (m ||| 2 ^ x).testBit v = (m.testBit v || x == v) := by
  rw [Nat.testBit_or, Nat.testBit_two_pow]
  rfl
end Opt
/- Plain mathematics of equivalence: an optimized circuit has the values of the original one; assignments by number; the first difference of two circuits; no program. -/
namespace Opt
open Circ
section
variable {i : Int} {ns : List Int} {gs : List (Int × Int)} {os : List Int}
end
end Opt
namespace Circ
/-- The two circuits agree for every state and all inputs. -/
def Agree (i : Int) (ns : List Int) (gs : List (Int × Int)) (os ns' : List Int) (gs' : List (Int × Int)) (os' : List Int) : Prop :=
  ∀ st ins : List Bool, st.length = ns.length → (ins.length : Int) = i → outV gs os st ins = outV gs' os' st ins ∧ outV gs ns st ins = outV gs' ns' st ins
theorem Agree.symm {i : Int} {ns : List Int} {gs : List (Int × Int)} {os ns' : List Int} {gs' : List (Int × Int)} {os' : List Int} (h : Agree i ns gs os ns' gs' os') (hl : ns.length = ns'.length) : Agree i ns' gs' os' ns gs os :=
  fun st ins hs hi => by
    obtain ⟨a, b⟩ := h st ins (by omega) hi
    exact ⟨a.symm, b.symm⟩
section
variable {i : Int} {ns : List Int} {gs : List (Int × Int)} {os : List Int}
open Opt
end
end Circ
/- Plain mathematics: the normal form of an optimized circuit, over integers; no program. -/
namespace Circ
/-- A gate among those from a to j refers to the variable t. -/
def ug (t : Int) (gs : List (Int × Int)) (a j : Nat) : Bool := ((gs.take j).drop a).any fun g => g.1 / 2 == t || g.2 / 2 == t
theorem ug_step (t : Int) (gs : List (Int × Int)) (a j : Nat) (ha : a ≤ j) (hj : j < gs.length) : ug t gs a (j + 1) = ((ug t gs a j || (gs.getD j (0, 0)).1 / 2 == t) || (gs.getD j (0, 0)).2 / 2 == t) := by
  unfold ug
  rw [List.take_succ_eq_append_getElem hj, List.drop_append_of_le_length (by simp; omega), List.any_append]
  simp only [List.any_cons, List.any_nil, Bool.or_false, List.getD_eq_getElem?_getD, List.getElem?_eq_getElem hj, Option.getD_some, Bool.or_assoc]
/-- A literal refers to the variable t. -/
def ul (t : Int) (xs : List Int) : Bool := xs.any fun x => x / 2 == t
structure NF (f : Int) (ns : List Int) (gs : List (Int × Int)) (os : List Int) : Prop where
  low : ∀ k, k < gs.length → 2 ≤ (gs.getD k (0, 0)).1
  ord : ∀ k, k < gs.length → (gs.getD k (0, 0)).1 < (gs.getD k (0, 0)).2
  dif : ∀ k, k < gs.length → (gs.getD k (0, 0)).1 / 2 ≠ (gs.getD k (0, 0)).2 / 2
  ref : ∀ k, k < gs.length → (gs.getD k (0, 0)).2 < 2 * (f + k)
  inj : ∀ k l, k < l → l < gs.length → (gs.getD l (0, 0)).1 ≠ (gs.getD k (0, 0)).1 ∨ (gs.getD l (0, 0)).2 ≠ (gs.getD k (0, 0)).2
  use : ∀ k, k < gs.length → ((ug (f + k) gs (k + 1) gs.length || ul (f + k) os) || ul (f + k) ns) = true
theorem NF.nil (f : Int) : NF f [] [] [] := ⟨fun k h => absurd h (by simp), fun k h => absurd h (by simp), fun k h => absurd h (by simp), fun k h => absurd h (by simp), fun k l _ h => absurd h (by simp), fun k h => absurd h (by simp)⟩
theorem ul_mem {t : Nat} {xs : List Nat} {r : Nat} (h : r ∈ xs) (hr : r / 2 = t) : ul (t : Int) (Opt.intL xs) = true := by
  unfold ul Opt.intL
  rw [List.any_map, List.any_eq_true]
  refine ⟨r, h, ?_⟩
  show ((r : Int) / 2 == (t : Int)) = true
  rw [beq_iff_eq]; omega
theorem ug_mem {t : Nat} {gs : List Opt.G} {a l : Nat} (ha : a ≤ l) (hl : l < gs.length) (h : (Opt.at_ gs l).1 / 2 = t ∨ (Opt.at_ gs l).2 / 2 = t) : ug (t : Int) (Opt.intG gs) a (Opt.intG gs).length = true := by
  have key : ∀ j, l < j → j ≤ gs.length → ug (t : Int) (Opt.intG gs) a j = true := by
    intro j
    induction j with
    | zero => intro h; omega
    | succ j ih =>
      intro h1 h2
      rw [ug_step _ _ _ _ (by omega) (by rw [Opt.intG_len]; omega), Opt.intG_at]
      by_cases e : j = l
      · subst e
        rcases h with h | h
        · have : (((Opt.at_ gs j).1 : Int) / 2 == (t : Int)) = true := by rw [beq_iff_eq]; omega
          simp only [this, Bool.or_true, Bool.true_or]
        · have : (((Opt.at_ gs j).2 : Int) / 2 == (t : Int)) = true := by rw [beq_iff_eq]; omega
          simp only [this, Bool.or_true]
      · rw [ih (by omega) (by omega)]; rfl
  rw [Opt.intG_len]
  exact key _ hl (Nat.le_refl _)
theorem NF.of {f : Nat} {c : Opt.C} (h : Opt.Form f c) : NF (f : Int) (Opt.intL c.ns) (Opt.intG c.gs) (Opt.intL c.os) := by
  refine ⟨fun k hk => ?_, fun k hk => ?_, fun k hk => ?_, fun k hk => ?_, fun k l hkl hl => ?_, fun k hk => ?_⟩
  · rw [Opt.intG_len] at hk; have := h.norm.low k hk; rw [Opt.intG_at]; simp only []; omega
  · rw [Opt.intG_len] at hk; have := h.norm.ord k hk; rw [Opt.intG_at]; simp only []; omega
  · rw [Opt.intG_len] at hk; have := h.norm.dif k hk; rw [Opt.intG_at]; simp only []; omega
  · rw [Opt.intG_len] at hk; have := h.norm.ref k hk; rw [Opt.intG_at]; simp only []; omega
  · rw [Opt.intG_len] at hl
    have := h.norm.inj k l hkl hl
    rw [Opt.intG_at, Opt.intG_at]
    simp only []
    by_cases e : (Opt.at_ c.gs l).1 = (Opt.at_ c.gs k).1
    · right
      intro e2
      exact this (Prod.ext e.symm (by omega))
    · left; omega
  · rw [Opt.intG_len] at hk
    have hc : ((f : Int) + (k : Int)) = ((f + k : Nat) : Int) := by omega
    rw [hc]
    rcases h.use k hk with ⟨r, hr, e⟩ | ⟨l, h1, h2, h3⟩
    · rcases List.mem_append.mp hr with hr | hr
      · rw [ul_mem hr e]; simp
      · rw [ul_mem hr e]; simp
    · rw [ug_mem (a := k + 1) (by omega) h2 h3]; rfl
end Circ
