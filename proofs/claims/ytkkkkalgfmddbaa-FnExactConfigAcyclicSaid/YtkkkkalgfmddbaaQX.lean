/- Plain mathematics of routing: a search in breadth, its paths, trees of hops. -/
import Derived.Test.YtkkkkalgfmddbaaQP
import Derived.Test.YtkkkkalgfmddbaaWL
namespace Rt
/-- The neighbours of a tile: up, left, right, down. -/
def nbrs (t : Nat) : List Nat := (if 5 ≤ t then [t - 5] else []) ++ (if 0 < t % 5 then [t - 1] else []) ++ (if t % 5 < 4 then [t + 1] else []) ++ (if t < 20 then [t + 5] else [])
theorem nbrs_lt {t v : Nat} (ht : t < 25) (h : v ∈ nbrs t) : v < 25 := by
  unfold nbrs at h
  simp only [List.mem_append] at h
  rcases h with ((h | h) | h) | h
  all_goals
    split at h
    · rw [List.mem_singleton] at h
      omega
    · simp at h
/-- Side by side: the sum of the squares is 1. -/
theorem nbrs_one {t v : Nat} (h : v ∈ nbrs t) :
    (((v / 5 : Nat) : Int) - ((t / 5 : Nat) : Int)) * (((v / 5 : Nat) : Int) - ((t / 5 : Nat) : Int)) + (((v % 5 : Nat) : Int) - ((t % 5 : Nat) : Int)) * (((v % 5 : Nat) : Int) - ((t % 5 : Nat) : Int)) = 1 := by
  unfold nbrs at h
  simp only [List.mem_append] at h
  have one : ∀ {c : Prop} [Decidable c] {x : Nat}, v ∈ (if c then [x] else []) → c ∧ v = x := fun h => by
    split at h
    · next hc => exact ⟨hc, List.mem_singleton.1 h⟩
    · simp at h
  rcases h with ((h | h) | h) | h
  · obtain ⟨hc, rfl⟩ := one h
    rw [show (((t - 5) / 5 : Nat) : Int) - ((t / 5 : Nat) : Int) = -1 by omega, show (((t - 5) % 5 : Nat) : Int) - ((t % 5 : Nat) : Int) = 0 by omega]
    rfl
  · obtain ⟨hc, rfl⟩ := one h
    rw [show (((t - 1) / 5 : Nat) : Int) - ((t / 5 : Nat) : Int) = 0 by omega, show (((t - 1) % 5 : Nat) : Int) - ((t % 5 : Nat) : Int) = -1 by omega]
    rfl
  · obtain ⟨hc, rfl⟩ := one h
    rw [show (((t + 1) / 5 : Nat) : Int) - ((t / 5 : Nat) : Int) = 0 by omega, show (((t + 1) % 5 : Nat) : Int) - ((t % 5 : Nat) : Int) = 1 by omega]
    rfl
  · obtain ⟨_, rfl⟩ := one h
    rw [show (((t + 5) / 5 : Nat) : Int) - ((t / 5 : Nat) : Int) = 1 by omega, show (((t + 5) % 5 : Nat) : Int) - ((t % 5 : Nat) : Int) = 0 by omega]
    rfl
theorem nbrs_len (t : Nat) : (nbrs t).length ≤ 4 := by
  unfold nbrs
  simp only [List.length_append]
  repeat' split
  all_goals simp
/-- What a search knows: from where each tile was reached (-1: it lies on the tree; -2: not yet), and the tiles in the order in which they were reached. -/
abbrev St := List Int × List Nat
def visit (busy : List Bool) (u : Nat) (s : St) (v : Nat) : St := if s.1.getD v 0 = -2 ∧ busy.getD v false = false then (s.1.set v (u : Int), s.2 ++ [v]) else s
def expand (busy : List Bool) (u : Nat) (vs : List Nat) (s : St) : St := vs.foldl (visit busy u) s
theorem expand_snoc (busy : List Bool) (u v : Nat) (vs : List Nat) (s : St) : expand busy u (vs ++ [v]) s = visit busy u (expand busy u vs s) v := by simp [expand]
/-- The search from the k-th tile on. -/
def search (busy : List Bool) (sink : Nat) : Nat → Nat → St → St
  | 0, _, s => s
  | f + 1, k, s => if k < s.2.length ∧ s.1.getD sink 0 = -2 then search busy sink f (k + 1) (expand busy (s.2.getD k 0) (nbrs (s.2.getD k 0)) s) else s
def mark (f : List Int) (ts : List Nat) : List Int := ts.foldl (fun f t => f.set t (-1)) f
def start (ts : List Nat) : St := (mark (List.replicate 25 (-2)) ts, ts)
theorem mark_snoc (f : List Int) (ts : List Nat) (t : Nat) : mark f (ts ++ [t]) = (mark f ts).set t (-1) := by simp [mark]
theorem mark_len (f : List Int) : ∀ ts : List Nat, (mark f ts).length = f.length := by
  intro ts
  induction ts generalizing f with
  | nil => rfl
  | cons a r ih =>
    show (mark (f.set a (-1)) r).length = _
    rw [ih, List.length_set]
theorem set_at {α : Type} (l : List α) (d : α) (i j : Nat) (v : α) (hi : i < l.length) : (l.set i v).getD j d = if j = i then v else l.getD j d := by
  simp only [List.getD_eq_getElem?_getD]
  by_cases e : j = i
  · subst e
    rw [List.getElem?_set_self hi, if_pos rfl]
    rfl
  · rw [List.getElem?_set_ne (fun x => e x.symm), if_neg e]
theorem mark_at {v : Nat} : ∀ (ts : List Nat) (f : List Int), (∀ t, t ∈ ts → t < f.length) → (mark f ts).getD v 0 = if v ∈ ts then -1 else f.getD v 0 := by
  intro ts
  induction ts with
  | nil => intro f _; simp [mark]
  | cons a r ih =>
    intro f h
    show (mark (f.set a (-1)) r).getD v 0 = _
    rw [ih (f.set a (-1)) (fun t ht => by rw [List.length_set]; exact h t (by simp [ht])), set_at _ _ _ _ _ (h a (by simp))]
    by_cases h1 : v ∈ r
    · rw [if_pos h1, if_pos (by simp [h1])]
    · rw [if_neg h1]
      by_cases h2 : v = a
      · rw [if_pos h2, if_pos (by simp [h2])]
      · rw [if_neg h2, if_neg (by simp [h1, h2])]
/-- What holds of a search from the tiles ts. -/
structure Inv (busy : List Bool) (ts : List Nat) (s : St) : Prop where
  len : s.1.length = 25
  lt : ∀ v, v ∈ s.2 → v < 25
  nd : s.2.Nodup
  mem : ∀ v, v < 25 → (v ∈ s.2 ↔ s.1.getD v 0 ≠ -2)
  tree : ∀ v, v < 25 → (s.1.getD v 0 = -1 ↔ v ∈ ts)
  pre : ∀ v, v < 25 → s.1.getD v 0 ≠ -1 → s.1.getD v 0 ≠ -2 → ∃ i j, i < j ∧ j < s.2.length ∧ s.2.getD j 0 = v ∧ s.1.getD v 0 = ((s.2.getD i 0 : Nat) : Int) ∧ v ∈ nbrs (s.2.getD i 0) ∧ busy.getD v false = false
theorem memD {q : List Nat} {i : Nat} (h : i < q.length) : q.getD i 0 ∈ q := by
  rw [List.getD_eq_getElem?_getD, List.getElem?_eq_getElem h]
  exact List.getElem_mem h
theorem getD_snoc_lt {q : List Nat} {v i : Nat} (h : i < q.length) : (q ++ [v]).getD i 0 = q.getD i 0 := by
  simp only [List.getD_eq_getElem?_getD]
  rw [List.getElem?_append_left h]
theorem getD_snoc_at (q : List Nat) (v : Nat) : (q ++ [v]).getD q.length 0 = v := by
  simp [List.getD_eq_getElem?_getD]
theorem Inv.start {busy : List Bool} {ts : List Nat} (hl : ∀ t, t ∈ ts → t < 25) (hn : ts.Nodup) : Inv busy ts (start ts) := by
  have hm : ∀ v, v < 25 → (mark (List.replicate 25 (-2)) ts).getD v 0 = if v ∈ ts then -1 else -2 := fun v hv => by
    rw [mark_at ts _ (fun t ht => by simpa using hl t ht)]
    congr 1
    rw [List.getD_eq_getElem?_getD, List.getElem?_replicate, if_pos hv]
    rfl
  refine ⟨by show (mark _ ts).length = 25; rw [mark_len]; simp, hl, hn, fun v hv => ?_, fun v hv => ?_, fun v hv h1 h2 => ?_⟩
  · show v ∈ ts ↔ (mark _ ts).getD v 0 ≠ -2
    rw [hm v hv]
    by_cases h : v ∈ ts
    · rw [if_pos h]; simp [h]
    · rw [if_neg h]; simp [h]
  · show (mark _ ts).getD v 0 = -1 ↔ v ∈ ts
    rw [hm v hv]
    by_cases h : v ∈ ts
    · rw [if_pos h]; simp [h]
    · rw [if_neg h]; simp [h]
  · exfalso
    have h3 : (mark (List.replicate 25 (-2)) ts).getD v 0 ≠ -1 := h1
    have h4 : (mark (List.replicate 25 (-2)) ts).getD v 0 ≠ -2 := h2
    rw [hm v hv] at h3 h4
    by_cases h : v ∈ ts
    · rw [if_pos h] at h3; exact h3 rfl
    · rw [if_neg h] at h4; exact h4 rfl
theorem Inv.visit {busy : List Bool} {ts : List Nat} {s : St} (h : Inv busy ts s) {i v : Nat} (hi : i < s.2.length) (hv : v < 25) (hn : v ∈ nbrs (s.2.getD i 0)) : Inv busy ts (visit busy (s.2.getD i 0) s v) := by
  unfold Rt.visit
  by_cases c : s.1.getD v 0 = -2 ∧ busy.getD v false = false
  · rw [if_pos c]
    obtain ⟨c1, c2⟩ := c
    have hvl : v < s.1.length := by rw [h.len]; exact hv
    have hnm : v ∉ s.2 := fun x => (h.mem v hv).1 x c1
    have hat : ∀ x, (s.1.set v ((s.2.getD i 0 : Nat) : Int)).getD x 0 = if x = v then ((s.2.getD i 0 : Nat) : Int) else s.1.getD x 0 := fun x => set_at _ _ _ _ _ hvl
    refine ⟨by show (s.1.set v _).length = 25; rw [List.length_set]; exact h.len, fun x hx => ?_, ?_, fun x hx => ?_, fun x hx => ?_, fun x hx h1 h2 => ?_⟩
    · have hx : x ∈ s.2 ++ [v] := hx
      rcases List.mem_append.1 hx with hx | hx
      · exact h.lt x hx
      · rw [List.mem_singleton.1 hx]; exact hv
    · show (s.2 ++ [v]).Nodup
      rw [List.nodup_append]
      refine ⟨h.nd, by simp, fun a ha b hb => ?_⟩
      rw [List.mem_singleton.1 hb]
      exact fun e => hnm (e ▸ ha)
    · show x ∈ s.2 ++ [v] ↔ (s.1.set v _).getD x 0 ≠ -2
      rw [hat x]
      by_cases e : x = v
      · rw [if_pos e, e]
        exact ⟨fun _ => by omega, fun _ => by simp⟩
      · rw [if_neg e, ← h.mem x hx]
        simp [e]
    · show (s.1.set v _).getD x 0 = -1 ↔ x ∈ ts
      rw [hat x]
      by_cases e : x = v
      · rw [if_pos e, e, ← h.tree v hv, c1]
        exact ⟨fun z => by omega, fun z => by omega⟩
      · rw [if_neg e]; exact h.tree x hx
    · have h1 : (s.1.set v ((s.2.getD i 0 : Nat) : Int)).getD x 0 ≠ -1 := h1
      have h2 : (s.1.set v ((s.2.getD i 0 : Nat) : Int)).getD x 0 ≠ -2 := h2
      show ∃ i' j, i' < j ∧ j < (s.2 ++ [v]).length ∧ (s.2 ++ [v]).getD j 0 = x ∧ (s.1.set v _).getD x 0 = (((s.2 ++ [v]).getD i' 0 : Nat) : Int) ∧ x ∈ nbrs ((s.2 ++ [v]).getD i' 0) ∧ busy.getD x false = false
      rw [hat x] at h1 h2 ⊢
      by_cases e : x = v
      · subst e
        refine ⟨i, s.2.length, hi, by simp, getD_snoc_at _ _, ?_, ?_, c2⟩
        · rw [if_pos rfl, getD_snoc_lt hi]
        · rw [getD_snoc_lt hi]; exact hn
      · rw [if_neg e] at h1 h2 ⊢
        obtain ⟨a, b, k1, k2, k3, k4, k5, k6⟩ := h.pre x hx h1 h2
        exact ⟨a, b, k1, by simp; omega, by rw [getD_snoc_lt k2]; exact k3, by rw [getD_snoc_lt (by omega)]; exact k4, by rw [getD_snoc_lt (by omega)]; exact k5, k6⟩
  · rw [if_neg c]; exact h
/-- What was reached stays as it was reached. -/
structure Grows (s s' : St) : Prop where
  q : ∃ r, s'.2 = s.2 ++ r
  f : ∀ v, s.1.getD v 0 ≠ -2 → s'.1.getD v 0 = s.1.getD v 0
theorem Grows.refl (s : St) : Grows s s := ⟨⟨[], by simp⟩, fun _ _ => rfl⟩
theorem Grows.trans {a b c : St} (h : Grows a b) (k : Grows b c) : Grows a c := by
  obtain ⟨r, e⟩ := h.q
  obtain ⟨t, g⟩ := k.q
  exact ⟨⟨r ++ t, by rw [g, e, List.append_assoc]⟩, fun v hv => by rw [k.f v (by rw [h.f v hv]; exact hv), h.f v hv]⟩
theorem Grows.at {s s' : St} (h : Grows s s') {i : Nat} (hi : i < s.2.length) : s'.2.getD i 0 = s.2.getD i 0 ∧ i < s'.2.length := by
  obtain ⟨r, e⟩ := h.q
  rw [e]
  refine ⟨?_, by simp; omega⟩
  simp only [List.getD_eq_getElem?_getD]
  rw [List.getElem?_append_left hi]
theorem visit_grows (busy : List Bool) (u : Nat) (s : St) (v : Nat) : Grows s (visit busy u s v) := by
  unfold visit
  split
  · next c =>
    refine ⟨⟨[v], rfl⟩, fun x hx => ?_⟩
    show (s.1.set v _).getD x 0 = _
    simp only [List.getD_eq_getElem?_getD]
    rw [List.getElem?_set_ne]
    rintro rfl
    exact hx c.1
  · exact Grows.refl s
theorem expand_ok {busy : List Bool} {ts : List Nat} {s : St} (h : Inv busy ts s) {i : Nat} (hi : i < s.2.length) : ∀ vs : List Nat, (∀ v, v ∈ vs → v ∈ nbrs (s.2.getD i 0)) → Inv busy ts (expand busy (s.2.getD i 0) vs s) ∧ Grows s (expand busy (s.2.getD i 0) vs s) := by
  have hu : s.2.getD i 0 < 25 := h.lt _ (memD hi)
  generalize hue : s.2.getD i 0 = u at *
  intro vs
  induction vs generalizing s with
  | nil => intro _; exact ⟨h, Grows.refl s⟩
  | cons a r ih =>
    intro hv
    show Inv busy ts (expand busy u r (visit busy u s a)) ∧ Grows s (expand busy u r (visit busy u s a))
    have hg := visit_grows busy u s a
    obtain ⟨h1, h2⟩ := hg.at hi
    have hi1 := h.visit hi (nbrs_lt hu (hv a (by simp))) (by rw [hue]; exact hv a (by simp))
    rw [hue] at hi1
    obtain ⟨k1, k2⟩ := ih hi1 h2 (by rw [h1, hue]) (fun v hv' => hv v (by simp [hv']))
    exact ⟨k1, hg.trans k2⟩
theorem search_ok {busy : List Bool} {ts : List Nat} {sink : Nat} : ∀ (f k : Nat) (s : St), Inv busy ts s → Inv busy ts (search busy sink f k s) ∧ Grows s (search busy sink f k s)
  | 0, _, s, h => ⟨h, Grows.refl s⟩
  | f + 1, k, s, h => by
    unfold search
    split
    · next c =>
      obtain ⟨h1, h2⟩ := expand_ok h c.1 (nbrs (s.2.getD k 0)) (fun _ hv => hv)
      obtain ⟨h3, h4⟩ := search_ok f (k + 1) _ h1
      exact ⟨h3, h2.trans h4⟩
    · exact ⟨h, Grows.refl s⟩
theorem nodup_le : ∀ (n : Nat) (l : List Nat), l.Nodup → (∀ x, x ∈ l → x < n) → l.length ≤ n
  | 0, l, _, h => by
    cases l with
    | nil => simp
    | cons a r => exact absurd (h a (by simp)) (by omega)
  | n + 1, l, hn, h => by
    have h1 : (l.erase n).length ≤ n := nodup_le n (l.erase n) (hn.erase n) (fun x hx => by
      have h2 := h x (List.mem_of_mem_erase hx)
      have h3 : x ≠ n := fun e => by
        subst e
        exact (List.Nodup.not_mem_erase hn) hx
      omega)
    have h2 := List.length_erase (a := n) (l := l)
    split at h2 <;> omega
theorem Inv.q25 {busy : List Bool} {ts : List Nat} {s : St} (h : Inv busy ts s) : s.2.length ≤ 25 := nodup_le 25 s.2 h.nd h.lt
/-- A hop: its tile, and from where. -/
abbrev Hp := Nat × Int
/-- The hops from the tree to a tile. -/
def pathTo (fr : List Int) : Nat → Nat → List Hp
  | 0, _ => []
  | f + 1, v => if 0 ≤ fr.getD v 0 then pathTo fr f (fr.getD v 0).toNat ++ [(v, fr.getD v 0)] else []
/-- The same as the loop has it. -/
def back (fr : List Int) : Nat → Nat → List Hp → List Hp
  | 0, _, acc => acc
  | f + 1, v, acc => if 0 ≤ fr.getD v 0 then back fr f (fr.getD v 0).toNat ((v, fr.getD v 0) :: acc) else acc
theorem back_eq (fr : List Int) : ∀ (f v : Nat) (acc : List Hp), back fr f v acc = pathTo fr f v ++ acc
  | 0, _, _ => rfl
  | f + 1, v, acc => by
    unfold back pathTo
    split
    · rw [back_eq fr f]; simp
    · rfl
/-- Each hop is a neighbour of an earlier tile, and new. -/
def OkH (busy : List Bool) : List Nat → List Hp → Prop
  | _, [] => True
  | pre, h :: r => (∃ u : Nat, h.2 = (u : Int) ∧ u ∈ pre ∧ h.1 ∈ nbrs u ∧ h.1 ∉ pre ∧ h.1 < 25 ∧ busy.getD h.1 false = false) ∧ OkH busy (pre ++ [h.1]) r
theorem OkH.app {busy : List Bool} : ∀ (a b : List Hp) (pre : List Nat), OkH busy pre (a ++ b) ↔ OkH busy pre a ∧ OkH busy (pre ++ a.map (·.1)) b
  | [], b, pre => by simp [OkH]
  | x :: a, b, pre => by
    show (_ ∧ OkH busy (pre ++ [x.1]) (a ++ b)) ↔ (_ ∧ OkH busy (pre ++ [x.1]) a) ∧ _
    rw [OkH.app a b (pre ++ [x.1])]
    simp [and_assoc]
theorem nodup_getD {q : List Nat} (h : q.Nodup) {i j : Nat} (hi : i < q.length) (hj : j < q.length) (e : q.getD i 0 = q.getD j 0) : i = j := by
  simp only [List.getD_eq_getElem?_getD, List.getElem?_eq_getElem hi, List.getElem?_eq_getElem hj, Option.getD_some] at e
  rcases Nat.lt_trichotomy i j with c | c | c
  · exact absurd e (List.pairwise_iff_getElem.1 h i j hi hj c)
  · exact c
  · exact absurd e.symm (List.pairwise_iff_getElem.1 h j i hj hi c)
/-- The path to the j-th tile that was reached. -/
theorem path_ok {busy : List Bool} {ts : List Nat} {s : St} (h : Inv busy ts s) : ∀ (f j : Nat), j < s.2.length → j < f →
    OkH busy ts (pathTo s.1 f (s.2.getD j 0)) ∧ (∀ x, x ∈ (pathTo s.1 f (s.2.getD j 0)).map (·.1) → ∃ i, i ≤ j ∧ s.2.getD i 0 = x) ∧ s.2.getD j 0 ∈ ts ++ (pathTo s.1 f (s.2.getD j 0)).map (·.1)
  | 0, j, _, hf => by omega
  | f + 1, j, hj, hf => by
    have hv := h.lt _ (memD hj)
    have hm := (h.mem _ hv).1 (memD hj)
    by_cases ht : s.1.getD (s.2.getD j 0) 0 = -1
    · have hin := (h.tree _ hv).1 ht
      unfold pathTo
      rw [if_neg (by omega)]
      exact ⟨trivial, fun x hx => by simp at hx, List.mem_append_left _ hin⟩
    · obtain ⟨a, b, k1, k2, k3, k4, k5, k6⟩ := h.pre _ hv ht hm
      have hbj : b = j := nodup_getD h.nd k2 hj k3
      subst hbj
      have hnt : s.2.getD b 0 ∉ ts := fun x => ht ((h.tree _ hv).2 x)
      unfold pathTo
      rw [k4, if_pos (Int.natCast_nonneg _), Int.toNat_natCast]
      obtain ⟨p1, p2, p3⟩ := path_ok h f a (by omega) (by omega)
      refine ⟨?_, fun x hx => ?_, by simp⟩
      · rw [OkH.app]
        refine ⟨p1, ⟨_, rfl, p3, k5, ?_, hv, k6⟩, trivial⟩
        intro x
        rcases List.mem_append.1 x with x | x
        · exact hnt x
        · obtain ⟨i, i1, i2⟩ := p2 _ x
          have := nodup_getD h.nd (by omega) k2 i2
          omega
      · rw [List.map_append, List.mem_append] at hx
        rcases hx with hx | hx
        · obtain ⟨i, i1, i2⟩ := p2 x hx
          exact ⟨i, by omega, i2⟩
        · simp at hx
          exact ⟨b, Nat.le_refl _, hx.symm⟩
/-- A path stays the same when the search goes on, and with more fuel. -/
theorem path_grows {busy : List Bool} {ts : List Nat} {s s' : St} (h : Inv busy ts s) (hg : Grows s s') : ∀ (f f' j : Nat), j < s.2.length → j < f → j < f' → pathTo s'.1 f' (s.2.getD j 0) = pathTo s.1 f (s.2.getD j 0)
  | 0, _, _, _, h1, _ => by omega
  | _ + 1, 0, _, _, _, h1 => by omega
  | f + 1, f' + 1, j, hj, hf, hf' => by
    have hv := h.lt _ (memD hj)
    have hm := (h.mem _ hv).1 (memD hj)
    unfold pathTo
    rw [hg.f _ hm]
    by_cases ht : s.1.getD (s.2.getD j 0) 0 = -1
    · rw [if_neg (by omega), if_neg (by omega)]
    · obtain ⟨a, b, k1, k2, k3, k4, _, _⟩ := h.pre _ hv ht hm
      have hbj : b = j := nodup_getD h.nd k2 hj k3
      subst hbj
      rw [k4, if_pos (Int.natCast_nonneg _), if_pos (Int.natCast_nonneg _), Int.toNat_natCast, path_grows h hg f f' a (by omega) (by omega) (by omega)]
end Rt
/- Plain mathematics of routing: trees, tracks, all nets. -/
namespace Rt
def tiles (hs : List Hp) : List Nat := hs.map (·.1)
theorem tiles_app (a b : List Hp) : tiles (a ++ b) = tiles a ++ tiles b := by simp [tiles]
/-- A tree extended to a sink. -/
def extend (busy : List Bool) (hs : List Hp) (sink : Nat) : Option (List Hp) :=
  if sink ∈ tiles hs then some hs else
    if (search busy sink 26 0 (start (tiles hs))).1.getD sink 0 = -2 then none else some (hs ++ pathTo (search busy sink 26 0 (start (tiles hs))).1 26 sink)
/-- A tree from a source that is free. -/
structure Tree (busy : List Bool) (p : Nat) (hs : List Hp) : Prop where
  ex : ∃ r, hs = (p, -1) :: r ∧ OkH busy [p] r
  free : busy.getD p false = false
  lt : p < 25
theorem okH_tiles {busy : List Bool} : ∀ (r : List Hp) (pre : List Nat), OkH busy pre r → pre.Nodup → (pre ++ tiles r).Nodup ∧ ∀ x, x ∈ tiles r → x < 25 ∧ busy.getD x false = false
  | [], pre, _, hn => by simpa [tiles] using hn
  | h :: r, pre, hk, hn => by
    obtain ⟨⟨u, _, _, _, h4, h5, h6⟩, h7⟩ := hk
    have hn2 : (pre ++ [h.1]).Nodup := by
      rw [List.nodup_append]
      refine ⟨hn, by simp, fun a ha b hb => ?_⟩
      rw [List.mem_singleton.1 hb]
      exact fun e => h4 (e ▸ ha)
    obtain ⟨k1, k2⟩ := okH_tiles r (pre ++ [h.1]) h7 hn2
    refine ⟨by simpa [tiles] using k1, fun x hx => ?_⟩
    have hx : x = h.1 ∨ x ∈ tiles r := by simpa [tiles] using hx
    rcases hx with rfl | hx
    · exact ⟨h5, h6⟩
    · exact k2 x hx
theorem Tree.nodup {busy : List Bool} {p : Nat} {hs : List Hp} (h : Tree busy p hs) : (tiles hs).Nodup ∧ ∀ x, x ∈ tiles hs → x < 25 ∧ busy.getD x false = false := by
  obtain ⟨r, rfl, hk⟩ := h.ex
  obtain ⟨k1, k2⟩ := okH_tiles r [p] hk (by simp)
  refine ⟨by simpa [tiles] using k1, fun x hx => ?_⟩
  have hx : x = p ∨ x ∈ tiles r := by simpa [tiles] using hx
  rcases hx with rfl | hx
  · exact ⟨h.lt, h.free⟩
  · exact k2 x hx
theorem Tree.one {busy : List Bool} {p : Nat} (hp : p < 25) (hb : busy.getD p false = false) : Tree busy p [(p, -1)] := ⟨⟨[], rfl, trivial⟩, hb, hp⟩
theorem Tree.len {busy : List Bool} {p : Nat} {hs : List Hp} (h : Tree busy p hs) : hs.length ≤ 25 := by
  have := nodup_le 25 (tiles hs) h.nodup.1 (fun x hx => (h.nodup.2 x hx).1)
  simpa [tiles] using this
theorem search_end {busy : List Bool} {ts : List Nat} {sink : Nat} {s : St} (h : Inv busy ts s) (hs : sink < 25) (hne : s.1.getD sink 0 ≠ -2) : ∃ j, j < s.2.length ∧ s.2.getD j 0 = sink := by
  have hm := (h.mem sink hs).2 hne
  obtain ⟨j, hj, e⟩ := List.getElem_of_mem hm
  exact ⟨j, hj, by simp [List.getD_eq_getElem?_getD, hj, e]⟩
theorem Tree.extend {busy : List Bool} {p sink : Nat} {hs hs' : List Hp} (h : Tree busy p hs) (hsk : sink < 25) (he : extend busy hs sink = some hs') : Tree busy p hs' ∧ sink ∈ tiles hs' ∧ (∃ r, hs' = hs ++ r) := by
  unfold Rt.extend at he
  by_cases c : sink ∈ tiles hs
  · rw [if_pos c] at he
    injection he with he
    subst he
    exact ⟨h, c, [], by simp⟩
  · rw [if_neg c] at he
    obtain ⟨hn, hlt⟩ := h.nodup
    have hI := (search_ok (sink := sink) 26 0 _ (Inv.start (busy := busy) (fun t ht => (hlt t ht).1) hn)).1
    generalize search busy sink 26 0 (start (tiles hs)) = s at *
    by_cases d : s.1.getD sink 0 = -2
    · rw [if_pos d] at he; cases he
    · rw [if_neg d] at he
      injection he with he
      obtain ⟨j, hj, hje⟩ := search_end hI hsk d
      have hq := hI.q25
      obtain ⟨k1, _, k3⟩ := path_ok hI 26 j hj (by omega)
      rw [hje] at k1 k3
      subst he
      refine ⟨⟨?_, h.free, h.lt⟩, ?_, _, rfl⟩
      · obtain ⟨r, rfl, hk⟩ := h.ex
        refine ⟨r ++ pathTo s.1 26 sink, rfl, ?_⟩
        rw [OkH.app]
        exact ⟨hk, by simpa [tiles] using k1⟩
      · rw [tiles_app]; exact k3
/-- All sinks, one after another. -/
def treeK (busy : List Bool) (o : Option (List Hp)) (ps : List Nat) : Option (List Hp) := ps.foldl (fun o p => o.bind fun hs => extend busy hs p) o
theorem treeK_snoc (busy : List Bool) (o : Option (List Hp)) (ps : List Nat) (p : Nat) : treeK busy o (ps ++ [p]) = (treeK busy o ps).bind fun hs => extend busy hs p := by simp [treeK]
theorem treeK_none (busy : List Bool) : ∀ ps, treeK busy none ps = none
  | [] => rfl
  | _ :: r => treeK_none busy r
def tree (busy : List Bool) (pins : List Nat) : Option (List Hp) := if busy.getD (pins.getD 0 0) false = true then none else treeK busy (some [(pins.getD 0 0, -1)]) pins.tail
theorem treeK_ok {busy : List Bool} {p : Nat} : ∀ (ps : List Nat) (hs hs' : List Hp), Tree busy p hs → (∀ x, x ∈ ps → x < 25) → treeK busy (some hs) ps = some hs' → Tree busy p hs' ∧ (∀ x, x ∈ ps → x ∈ tiles hs') ∧ ∃ r, hs' = hs ++ r
  | [], hs, hs', h, _, he => by
    injection he with he
    subst he
    exact ⟨h, fun x hx => by simp at hx, [], by simp⟩
  | a :: r, hs, hs', h, hl, he => by
    have he2 : treeK busy (extend busy hs a) r = some hs' := he
    cases hx : extend busy hs a with
    | none => rw [hx, treeK_none] at he2; cases he2
    | some h2 =>
      rw [hx] at he2
      obtain ⟨k1, k2, t, k3⟩ := h.extend (hl a (by simp)) hx
      obtain ⟨m1, m2, v, m3⟩ := treeK_ok r h2 hs' k1 (fun x hx => hl x (by simp [hx])) he2
      refine ⟨m1, fun x hx => ?_, t ++ v, by rw [m3, k3, List.append_assoc]⟩
      rcases List.mem_cons.1 hx with rfl | hx
      · rw [m3, tiles_app]; exact List.mem_append_left _ k2
      · exact m2 x hx
theorem tree_ok {busy : List Bool} {pins : List Nat} {hs : List Hp} (hl : ∀ x, x ∈ pins → x < 25) (hne : pins ≠ []) (he : tree busy pins = some hs) : Tree busy (pins.getD 0 0) hs ∧ ∀ x, x ∈ pins → x ∈ tiles hs := by
  cases pins with
  | nil => exact absurd rfl hne
  | cons a r =>
    unfold tree at he
    have e0 : (a :: r).getD 0 0 = a := rfl
    rw [e0] at he ⊢
    split at he
    · cases he
    · next c =>
      have hb : busy.getD a false = false := by
        cases hh : busy.getD a false
        · rfl
        · exact absurd hh c
      obtain ⟨k1, k2, t, k3⟩ := treeK_ok r _ hs (Tree.one (hl a (by simp)) hb) (fun x hx => hl x (by simp [hx])) he
      refine ⟨k1, fun x hx => ?_⟩
      rcases List.mem_cons.1 hx with rfl | hx
      · rw [k3]; simp [tiles]
      · exact k2 x hx
/-- The first track from t on that serves. -/
def onTrack (B : List (List Bool)) (pins : List Nat) : Nat → Nat → Option (Nat × List Hp)
  | 0, _ => none
  | f + 1, t => match tree (B.getD t []) pins with
    | some hs => some (t, hs)
    | none => onTrack B pins f (t + 1)
theorem onTrack_ok {B : List (List Bool)} {pins : List Nat} {t' : Nat} {hs : List Hp} : ∀ (f t : Nat), onTrack B pins f t = some (t', hs) → t ≤ t' ∧ t' < t + f ∧ tree (B.getD t' []) pins = some hs
  | 0, _, h => by cases h
  | f + 1, t, h => by
    unfold onTrack at h
    split at h
    · next hs' e =>
      injection h with h
      injection h with h1 h2
      subst h1 h2
      exact ⟨Nat.le_refl _, by omega, e⟩
    · obtain ⟨k1, k2, k3⟩ := onTrack_ok f (t + 1) h
      exact ⟨by omega, by omega, k3⟩
/-- Tiles taken on a track. -/
def take (busy : List Bool) (ts : List Nat) : List Bool := ts.foldl (fun b t => b.set t true) busy
theorem take_snoc (busy : List Bool) (ts : List Nat) (t : Nat) : take busy (ts ++ [t]) = (take busy ts).set t true := by simp [take]
theorem take_len : ∀ (ts : List Nat) (busy : List Bool), (take busy ts).length = busy.length
  | [], _ => rfl
  | a :: r, busy => by
    show (take (busy.set a true) r).length = _
    rw [take_len r, List.length_set]
theorem take_at {v : Nat} : ∀ (ts : List Nat) (busy : List Bool), (∀ t, t ∈ ts → t < busy.length) → (take busy ts).getD v false = if v ∈ ts then true else busy.getD v false
  | [], busy, _ => by simp [take]
  | a :: r, busy, h => by
    show (take (busy.set a true) r).getD v false = _
    rw [take_at r (busy.set a true) (fun t ht => by rw [List.length_set]; exact h t (by simp [ht])), set_at _ _ _ _ _ (h a (by simp))]
    by_cases h1 : v ∈ r
    · rw [if_pos h1, if_pos (by simp [h1])]
    · rw [if_neg h1]
      by_cases h2 : v = a
      · rw [if_pos h2, if_pos (by simp [h2])]
      · rw [if_neg h2, if_neg (by simp [h1, h2])]
/-- A route: its net, its track, its hops. -/
abbrev Ro := Nat × Nat × List Hp
abbrev Rs := List (List Bool) × List Ro
def step (pins : List Nat) (net : Nat) (s : Rs) : Option Rs := if pins = [] then some s else
  match onTrack s.1 pins 8 0 with
  | none => none
  | some (t, hs) => some (s.1.set t (take (s.1.getD t []) (tiles hs)), s.2 ++ [(net, t, hs)])
def routeK (pinsOf : Nat → List Nat) : Nat → Option Rs
  | 0 => some (List.replicate 8 (List.replicate 25 false), [])
  | z + 1 => (routeK pinsOf z).bind fun s => step (pinsOf (z + 1)) (z + 1) s
/-- What every set of routes keeps. -/
structure ROk (pinsOf : Nat → List Nat) (z : Nat) (s : Rs) : Prop where
  len : s.1.length = 8
  lens : ∀ t, t < 8 → (s.1.getD t []).length = 25
  nets : s.2.map (·.1) = ((List.range z).map (· + 1)).filter fun n => pinsOf n ≠ []
  tr : ∀ r, r ∈ s.2 → r.2.1 < 8 ∧ (∃ busy, Tree busy ((pinsOf r.1).getD 0 0) r.2.2) ∧ (∀ x, x ∈ pinsOf r.1 → x ∈ tiles r.2.2) ∧ pinsOf r.1 ≠ []
  used : ∀ r x, r ∈ s.2 → x ∈ tiles r.2.2 → (s.1.getD r.2.1 []).getD x false = true
  apart : s.2.Pairwise fun r r' => r.2.1 = r'.2.1 → ∀ x, x ∈ tiles r.2.2 → x ∉ tiles r'.2.2
theorem routeK_ok {pinsOf : Nat → List Nat} (hl : ∀ n x, x ∈ pinsOf n → x < 25) : ∀ (z : Nat) (s : Rs), routeK pinsOf z = some s → ROk pinsOf z s
  | 0, s, h => by
    injection h with h
    subst h
    refine ⟨by simp, fun t ht => ?_, rfl, fun r hr => by simp at hr, fun r x hr => by simp at hr, List.Pairwise.nil⟩
    rw [List.getD_eq_getElem?_getD, List.getElem?_replicate, if_pos ht]
    simp
  | z + 1, s, h => by
    have h0 : (routeK pinsOf z).bind (fun s => step (pinsOf (z + 1)) (z + 1) s) = some s := h
    cases hz : routeK pinsOf z with
    | none => rw [hz] at h0; cases h0
    | some s0 =>
      rw [hz] at h0
      have h1 : step (pinsOf (z + 1)) (z + 1) s0 = some s := h0
      have k := routeK_ok hl z s0 hz
      have hr : (List.range (z + 1)).map (· + 1) = (List.range z).map (· + 1) ++ [z + 1] := by rw [List.range_succ, List.map_append]; rfl
      unfold step at h1
      by_cases c : pinsOf (z + 1) = []
      · rw [if_pos c] at h1
        injection h1 with h1
        subst h1
        refine { k with nets := ?_ }
        rw [hr, List.filter_append, k.nets]
        simp [c]
      · rw [if_neg c] at h1
        cases ho : onTrack s0.1 (pinsOf (z + 1)) 8 0 with
        | none => rw [ho] at h1; cases h1
        | some th =>
          obtain ⟨t, hs⟩ := th
          rw [ho] at h1
          injection h1 with h1
          obtain ⟨_, ht, he⟩ := onTrack_ok 8 0 ho
          have ht8 : t < 8 := by omega
          obtain ⟨m1, m2⟩ := tree_ok (hl (z + 1)) c he
          obtain ⟨n1, n2⟩ := m1.nodup
          have hat : ∀ u, (s0.1.set t (take (s0.1.getD t []) (tiles hs))).getD u [] = if u = t then take (s0.1.getD t []) (tiles hs) else s0.1.getD u [] := fun u => set_at _ _ _ _ _ (by rw [k.len]; exact ht8)
          have htk : ∀ x, (take (s0.1.getD t []) (tiles hs)).getD x false = if x ∈ tiles hs then true else (s0.1.getD t []).getD x false := fun x => take_at _ _ (fun y hy => by rw [k.lens t ht8]; exact (n2 y hy).1)
          subst h1
          refine ⟨by show (s0.1.set t _).length = 8; rw [List.length_set]; exact k.len, fun u hu => ?_, ?_, fun r hr2 => ?_, fun r x hr2 hx => ?_, ?_⟩
          · show ((s0.1.set t _).getD u []).length = 25
            rw [hat u]
            split
            · rw [take_len]; exact k.lens t ht8
            · exact k.lens u hu
          · show (s0.2 ++ [(z + 1, t, hs)]).map (·.1) = _
            rw [hr, List.filter_append, List.map_append, k.nets]
            simp [c]
          · rcases List.mem_append.1 (show r ∈ s0.2 ++ [(z + 1, t, hs)] from hr2) with hr3 | hr3
            · exact k.tr r hr3
            · rw [List.mem_singleton.1 hr3]
              exact ⟨ht8, ⟨_, m1⟩, m2, c⟩
          · show ((s0.1.set t _).getD r.2.1 []).getD x false = true
            rw [hat]
            rcases List.mem_append.1 (show r ∈ s0.2 ++ [(z + 1, t, hs)] from hr2) with hr3 | hr3
            · have h5 := k.used r x hr3 hx
              by_cases e : r.2.1 = t
              · rw [if_pos e, htk x]
                split
                · rfl
                · rw [← e]; exact h5
              · rw [if_neg e]; exact h5
            · rw [List.mem_singleton.1 hr3] at hx ⊢
              rw [if_pos rfl, htk x, if_pos hx]
          · show (s0.2 ++ [(z + 1, t, hs)]).Pairwise _
            rw [List.pairwise_append]
            refine ⟨k.apart, by simp, fun r hr2 r' hr3 => ?_⟩
            rw [List.mem_singleton.1 hr3]
            intro e x hx hx2
            have h5 := k.used r x hr2 hx
            have h6 := (n2 x hx2).2
            rw [show r.2.1 = t from e, h6] at h5
            cases h5
/-- A hop in its place. -/
theorem okH_at {busy : List Bool} : ∀ (r : List Hp) (pre : List Nat), OkH busy pre r → ∀ k, k < r.length → ∃ u : Nat, (r.getD k (0, 0)).2 = (u : Int) ∧ u ∈ pre ++ (tiles r).take k ∧ (r.getD k (0, 0)).1 ∈ nbrs u ∧ (r.getD k (0, 0)).1 ∉ pre ++ (tiles r).take k
  | [], _, _, k, hk => by simp at hk
  | h :: r, pre, ⟨⟨u, h1, h2, h3, h4, _, _⟩, _⟩, 0, _ => ⟨u, h1, by simpa using h2, h3, by simpa using h4⟩
  | h :: r, pre, ⟨_, h7⟩, k + 1, hk => by
    obtain ⟨u, k1, k2, k3, k4⟩ := okH_at r (pre ++ [h.1]) h7 k (by simpa using hk)
    have e : pre ++ (tiles (h :: r)).take (k + 1) = pre ++ [h.1] ++ (tiles r).take k := by simp [tiles]
    rw [e]
    exact ⟨u, k1, k2, k3, k4⟩
theorem Tree.at {busy : List Bool} {p : Nat} {hs : List Hp} (h : Tree busy p hs) : hs.getD 0 (0, 0) = (p, -1) ∧ 0 < hs.length ∧ ∀ k, 0 < k → k < hs.length → ∃ u : Nat, (hs.getD k (0, 0)).2 = (u : Int) ∧ u ∈ (tiles hs).take k ∧ (hs.getD k (0, 0)).1 ∈ nbrs u ∧ u < 25 := by
  obtain ⟨hn, hlt⟩ := h.nodup
  obtain ⟨r, rfl, hk⟩ := h.ex
  refine ⟨rfl, by simp, fun k h0 hk2 => ?_⟩
  obtain ⟨j, rfl⟩ : ∃ j, k = j + 1 := ⟨k - 1, by omega⟩
  obtain ⟨u, k1, k2, k3, _⟩ := okH_at r [p] hk j (by simpa using hk2)
  have e : (tiles ((p, (-1 : Int)) :: r)).take (j + 1) = [p] ++ (tiles r).take j := by simp [tiles]
  refine ⟨u, k1, by rw [e]; exact k2, k3, (hlt u ?_).1⟩
  have h5 : u ∈ (tiles ((p, (-1 : Int)) :: r)).take (j + 1) := by rw [e]; exact k2
  exact List.mem_of_mem_take h5
theorem nodup_new {l : List Nat} (h : l.Nodup) {k : Nat} (hk : k < l.length) : l.getD k 0 ∉ l.take k := by
  intro hm
  obtain ⟨j, hj, e⟩ := List.getElem_of_mem hm
  rw [List.length_take] at hj
  rw [List.getElem_take] at e
  have := nodup_getD h (i := j) (j := k) (by omega) hk (by simp [List.getD_eq_getElem?_getD, hk, e, show j < l.length by omega])
  omega
/-- The tracks in tiles that routes use, in their order. -/
def usedOf (rs : List Ro) : List Nat := rs.flatMap fun r => (tiles r.2.2).map fun x => x * 8 + r.2.1
theorem used_nodup : ∀ (rs : List Ro), (∀ r, r ∈ rs → r.2.1 < 8 ∧ (tiles r.2.2).Nodup) → (rs.Pairwise fun r r' => r.2.1 = r'.2.1 → ∀ x, x ∈ tiles r.2.2 → x ∉ tiles r'.2.2) → (usedOf rs).Nodup
  | [], _, _ => List.nodup_nil
  | r :: rs, h, hp => by
    have hp2 := List.pairwise_cons.1 hp
    show ((tiles r.2.2).map (fun x => x * 8 + r.2.1) ++ usedOf rs).Nodup
    rw [List.nodup_append]
    obtain ⟨h8, hn⟩ := h r (by simp)
    refine ⟨?_, used_nodup rs (fun r' hr => h r' (by simp [hr])) hp2.2, fun a ha b hb => ?_⟩
    · unfold List.Nodup at hn ⊢
      rw [List.pairwise_map]
      exact hn.imp (fun {x y} hxy => by omega)
    · obtain ⟨x, hx, rfl⟩ := List.mem_map.1 ha
      unfold usedOf at hb
      obtain ⟨r', hr', hb⟩ := List.mem_flatMap.1 hb
      obtain ⟨y, hy, rfl⟩ := List.mem_map.1 hb
      have h8' := (h r' (by simp [hr'])).1
      intro e
      have e1 : r.2.1 = r'.2.1 := by omega
      have e2 : x = y := by omega
      subst e2
      exact hp2.1 r' hr' e1 x hx hy
theorem ROk.used_nodup {pinsOf : Nat → List Nat} {z : Nat} {s : Rs} (h : ROk pinsOf z s) : (usedOf s.2).Nodup :=
  Rt.used_nodup s.2 (fun r hr => ⟨(h.tr r hr).1, by obtain ⟨busy, hb⟩ := (h.tr r hr).2.1; exact hb.nodup.1⟩) h.apart
/-- How often a net is routed. -/
theorem ROk.count {pinsOf : Nat → List Nat} {z : Nat} {s : Rs} (h : ROk pinsOf z s) (n : Nat) : (s.2.filter fun r => r.1 == n).length = if 1 ≤ n ∧ n ≤ z ∧ pinsOf n ≠ [] then 1 else 0 := by
  have e : (s.2.filter fun r => r.1 == n).length = ((s.2.map (·.1)).filter fun x => x == n).length := by
    rw [List.filter_map, List.length_map]
    rfl
  rw [e, h.nets, List.filter_filter]
  have e2 : ∀ z, ((((List.range z).map (· + 1)).filter fun a => (a == n) && decide (pinsOf a ≠ [])).length) = if 1 ≤ n ∧ n ≤ z ∧ pinsOf n ≠ [] then 1 else 0 := by
    intro z
    induction z with
    | zero => simp; omega
    | succ z ih =>
      rw [List.range_succ, List.map_append, List.filter_append, List.length_append, ih]
      by_cases c : z + 1 = n
      · subst c
        by_cases d : pinsOf (z + 1) = []
        · simp [d]
        · simp [d]
      · have hc : ((z + 1) == n) = false := by rw [beq_eq_false_iff_ne]; exact c
        simp only [List.map_cons, List.map_nil, List.filter_cons, hc, Bool.false_and, List.filter_nil, Bool.false_eq_true, ↓reduceIte]
        by_cases d : 1 ≤ n ∧ n ≤ z ∧ pinsOf n ≠ []
        · rw [if_pos d, if_pos ⟨d.1, by omega, d.2.2⟩]; rfl
        · rw [if_neg d, if_neg (fun x => d ⟨x.1, by omega, x.2.2⟩)]; rfl
  exact e2 z
end Rt
/- Plain mathematics of routing: every used net is driven, and where its pins begin. -/
namespace Plc
/-- Where a net's source is, as a loop over the cells finds it. -/
def srcN (ce : List Ce) (p : List Nat) (net : Nat) : Nat → Nat
  | 0 => (net - 1) * 5
  | k + 1 => if (ce.getD k (0, [], 0, false)).1 = net then p.getD k 0 else srcN ce p net k
theorem srcN_none {ce : List Ce} {p : List Nat} {net : Nat} : ∀ k, (∀ j, j < k → (ce.getD j (0, [], 0, false)).1 ≠ net) → srcN ce p net k = (net - 1) * 5
  | 0, _ => rfl
  | k + 1, h => by
    unfold srcN
    rw [if_neg (h k (by omega))]
    exact srcN_none k (fun j hj => h j (by omega))
theorem srcN_one {ce : List Ce} {p : List Nat} {net q : Nat} (hq : (ce.getD q (0, [], 0, false)).1 = net) : ∀ k, q < k → (∀ j, j < k → (ce.getD j (0, [], 0, false)).1 = net → j = q) → srcN ce p net k = p.getD q 0
  | 0, h, _ => by omega
  | k + 1, h, hu => by
    unfold srcN
    by_cases e : (ce.getD k (0, [], 0, false)).1 = net
    · rw [if_pos e, hu k (by omega) e]
    · rw [if_neg e]
      exact srcN_one hq k (by
        have : k ≠ q := fun x => e (x ▸ hq)
        omega) (fun j hj => hu j (by omega))
theorem addTo_pre : ∀ (ts out : List Nat), ∃ r, addTo out ts = out ++ r
  | [], out => ⟨[], by simp [addTo]⟩
  | t :: r, out => by
    show ∃ r', addTo (if out.contains t = true then out else out ++ [t]) r = out ++ r'
    obtain ⟨v, e⟩ := addTo_pre r (if out.contains t = true then out else out ++ [t])
    rw [e]
    split
    · exact ⟨v, rfl⟩
    · exact ⟨[t] ++ v, by rw [List.append_assoc]⟩
theorem pick_one {P : Nat → Bool} {q : Nat} : ∀ k, q < k → P q = true → (∀ j, j < k → P j = true → j = q) → pickTo P k = [q]
  | 0, h, _, _ => by omega
  | k + 1, h, hq, hu => by
    unfold pickTo
    by_cases e : P k = true
    · obtain rfl := hu k (by omega) e
      rw [if_pos e]
      have : pickTo P k = [] := by
        cases hp : pickTo P k with
        | nil => rfl
        | cons a r =>
          have hm := (pickTo_mem P k a).1 (by rw [hp]; simp)
          have := hu a (by omega) hm.2
          omega
      rw [this]
      rfl
    · rw [if_neg e]
      exact pick_one k (by
        have : k ≠ q := fun x => e (x ▸ hq)
        omega) hq (fun j hj => hu j (by omega))
theorem pick_none {P : Nat → Bool} (k : Nat) (h : ∀ j, j < k → P j = false) : pickTo P k = [] := by
  cases hp : pickTo P k with
  | nil => rfl
  | cons a r =>
    have hm := (pickTo_mem P k a).1 (by rw [hp]; simp)
    rw [h a hm.1] at hm
    exact absurd hm.2 (by simp)
theorem NetOk.uniq {m n N : Nat} {ce : List Ce} {ou : List Nat} (h : NetOk m n N ce ou) {j k : Nat} (hj : j < n) (hk : k < n) (e : (ce.getD j (0, [], 0, false)).1 = (ce.getD k (0, [], 0, false)).1) : j = k := by
  rcases Nat.lt_trichotomy j k with c | c | c
  · have := h.up j k c hk; omega
  · exact c
  · have := h.up k j c hj; omega
/-- The first pin of a net that is used and driven is its source. -/
theorem pins_head {m n N : Nat} {ce : List Ce} {ou : List Nat} (h : NetOk m n N ce ou) {p : List Nat} {net : Nat} (h1 : 1 ≤ net) (hs : snkP ou ce p net ≠ []) (hd : m < net → ∃ k, k < n ∧ (ce.getD k (0, [], 0, false)).1 = net) : (pinsP m ou ce p net).getD 0 0 = srcN ce p net n ∧ pinsP m ou ce p net ≠ [] := by
  have key : ∃ r, pinsP m ou ce p net = srcN ce p net n :: r := by
    unfold pinsP
    rw [if_neg hs]
    obtain ⟨r, e⟩ := addTo_pre (snkP ou ce p net) (srcP m ce p net)
    rw [e]
    unfold srcP
    rw [h.len]
    by_cases c : net ≤ m
    · have hno : ∀ j, j < n → (ce.getD j (0, [], 0, false)).1 ≠ net := fun j hj x => by have := (h.net j hj).1; omega
      rw [if_pos ⟨h1, c⟩, pick_none n (fun j hj => by simpa using hno j hj), srcN_none n hno]
      exact ⟨_, rfl⟩
    · obtain ⟨k, hk, e2⟩ := hd (by omega)
      rw [if_neg (fun x => c x.2), pick_one (q := k) n hk (by simpa using e2) (fun j hj hj2 => h.uniq hj hk (by rw [e2]; simpa using hj2)), srcN_one e2 n hk (fun j hj hj2 => h.uniq hj hk (by rw [e2]; exact hj2))]
      exact ⟨_, rfl⟩
  obtain ⟨r, e⟩ := key
  rw [e]
  exact ⟨rfl, by simp⟩
end Plc
namespace Go.Proofs.Ytkkkkalgfmddbaa
open Go.RowKit Go.Deep Cut Plc
theorem fst_nat {i : Int} (ns : List Int) (h : 0 ≤ i) : Opt.fst i ns = 1 + i.toNat + ns.length := by unfold Opt.fst; omega
/-- Every net that a cell or an output uses, other than an input and constant false, is driven by a cell. -/
theorem drive {i : Int} {ns : List Int} {gs : List (Int × Int)} {os : List Int} (hv : Circ.validB i ns gs os = true) {net : Nat} (hn : i.toNat < net) (hu : (∃ k, k < (cellsV i ns gs os).length ∧ net ∈ ((cellsV i ns gs os).getD k (0, [], 0, false)).2.1) ∨ ∃ r, r ∈ Opt.natL os ∧ r / 2 = net) :
    ∃ k, k < (cellsV i ns gs os).length ∧ ((cellsV i ns gs os).getD k (0, [], 0, false)).1 = net := by
  obtain ⟨e1, e2, e3⟩ := cellsV_at hv
  obtain ⟨h0, h1, h2, h3, h4⟩ := Circ.valid_within hv
  have hff := fst_nat ns h0
  have hK := mapV_k hv
  by_cases hl : net < Opt.fst i ns
  · refine ⟨net - 1 - i.toNat, by omega, ?_⟩
    rw [e2 _ (by omega)]
    show 1 + i.toNat + (net - 1 - i.toNat) = net
    omega
  · have hes : net ∈ (mapV i ns gs os).map (·.1) := by
      rcases hu with ⟨k, hk, hm⟩ | ⟨r, hr, hre⟩
      · by_cases hkr : k < ns.length
        · rw [e2 k hkr] at hm
          have hm : net ∈ nextY ((Opt.natL ns).getD k 0) := hm
          have hkl : k < (Opt.natL ns).length := by rw [Opt.natL_len]; exact hkr
          have hin := memD0 (d := 0) hkl
          unfold nextY at hm
          split at hm
          · simp at hm
          · have := List.mem_singleton.1 hm
            have h5 := hK.root _ (List.mem_append_right _ hin) (by omega)
            rw [← this] at h5
            exact h5
        · obtain ⟨j, rfl⟩ : ∃ j, k = ns.length + j := ⟨k - ns.length, by omega⟩
          have hj : j < (mapV i ns gs os).length := by omega
          rw [e3 j hj] at hm
          have h5 := hK.ahead j hj net hm (by omega)
          obtain ⟨x, hx, hxe⟩ := List.mem_map.1 h5
          exact List.mem_map.2 ⟨x, List.mem_of_mem_take hx, hxe⟩
      · have h5 := hK.root r (List.mem_append_left _ hr) (by omega)
        rw [hre] at h5
        exact h5
    obtain ⟨x, hx, hxe⟩ := List.mem_map.1 hes
    obtain ⟨j, hj, hje⟩ := List.getElem_of_mem hx
    refine ⟨ns.length + j, by omega, ?_⟩
    rw [e3 j hj]
    show ((mapV i ns gs os).getD j (0, [], 0)).1 = net
    rw [List.getD_eq_getElem?_getD, List.getElem?_eq_getElem hj]
    show ((mapV i ns gs os)[j]).1 = net
    rw [hje]
    exact hxe
end Go.Proofs.Ytkkkkalgfmddbaa
/- Plain mathematics of routing: the program's way. -/
namespace Rt
/-- A path to a tile, as the program has it. -/
def pathP (busy : List Bool) (hs : List Hp) (goal : Nat) : Option (List Hp) :=
  if (search busy goal 26 0 (start (tiles hs))).1.getD goal 0 = -2 then none else some (pathTo (search busy goal 26 0 (start (tiles hs))).1 26 goal)
theorem search_stop {busy : List Bool} {sink f k : Nat} {s : St} (h : ¬ (k < s.2.length ∧ s.1.getD sink 0 = -2)) : search busy sink f k s = s := by
  cases f with
  | zero => rfl
  | succ f => rw [search, if_neg h]
theorem search_go {busy : List Bool} {sink f k : Nat} {s : St} (h : k < s.2.length ∧ s.1.getD sink 0 = -2) : search busy sink (f + 1) k s = search busy sink f (k + 1) (expand busy (s.2.getD k 0) (nbrs (s.2.getD k 0)) s) := by
  rw [search, if_pos h]
theorem Tree.inv {busy : List Bool} {p : Nat} {hs : List Hp} (h : Tree busy p hs) : Inv busy (tiles hs) (start (tiles hs)) := Inv.start (fun t ht => (h.nodup.2 t ht).1) h.nodup.1
theorem path_end {fr : List Int} {f t : Nat} (h : fr.getD t 0 = -1) : pathTo fr f t = [] := by
  cases f with
  | zero => rfl
  | succ f => rw [pathTo, if_neg (by omega)]
theorem extend_eq {busy : List Bool} {p goal : Nat} {hs : List Hp} (h : Tree busy p hs) (hg : goal < 25) : extend busy hs goal = (pathP busy hs goal).map (hs ++ ·) := by
  unfold Rt.extend pathP
  by_cases c : goal ∈ tiles hs
  · have h1 : (start (tiles hs)).1.getD goal 0 = -1 := (h.inv.tree goal hg).2 c
    have h2 : search busy goal 26 0 (start (tiles hs)) = start (tiles hs) := search_stop (by rintro ⟨_, h2⟩; omega)
    rw [if_pos c, h2, if_neg (by omega), path_end h1]
    simp
  · rw [if_neg c]
    split <;> rfl
theorem path_fuel {busy : List Bool} {ts : List Nat} {s : St} (h : Inv busy ts s) {f f' j : Nat} (hj : j < s.2.length) (h1 : j < f) (h2 : j < f') : pathTo s.1 f' (s.2.getD j 0) = pathTo s.1 f (s.2.getD j 0) := path_grows h (Grows.refl s) f f' j hj h1 h2
/-- One step back. -/
theorem back_step {busy : List Bool} {ts : List Nat} {s : St} (h : Inv busy ts s) {j t : Nat} (hj : j < s.2.length) (ht : s.2.getD j 0 = t) (hne : s.1.getD t 0 ≠ -1) : ∃ u j' : Nat, s.1.getD t 0 = (u : Int) ∧ u < 25 ∧ j' < j ∧ s.2.getD j' 0 = u ∧ pathTo s.1 26 t = pathTo s.1 26 u ++ [(t, (u : Int))] := by
  have hv : t < 25 := ht ▸ h.lt _ (memD hj)
  have hm : s.1.getD t 0 ≠ -2 := (h.mem t hv).1 (ht ▸ memD hj)
  obtain ⟨a, b, k1, k2, k3, k4, _, _⟩ := h.pre t hv hne hm
  have hbj : b = j := nodup_getD h.nd k2 hj (k3.trans ht.symm)
  subst hbj
  have hq := h.q25
  have hu : s.2.getD a 0 < 25 := h.lt _ (memD (by omega))
  refine ⟨s.2.getD a 0, a, k4, hu, k1, rfl, ?_⟩
  show (if 0 ≤ s.1.getD t 0 then pathTo s.1 25 (s.1.getD t 0).toNat ++ [(t, s.1.getD t 0)] else []) = _
  rw [k4, if_pos (Int.natCast_nonneg _), Int.toNat_natCast, path_fuel h (f := 26) (f' := 25) (by omega) (by omega) (by omega)]
/-- From where each tile was reached, as the program has it. -/
def frP (fr : List Int) : List Int := fr.map fun x => if x = -2 then 0 else x
theorem frP_len (fr : List Int) : (frP fr).length = fr.length := by simp [frP]
theorem frP_at (fr : List Int) (v : Nat) : (frP fr).getD v 0 = if fr.getD v 0 = -2 then 0 else fr.getD v 0 := by
  unfold frP
  simp only [List.getD_eq_getElem?_getD, List.getElem?_map]
  cases fr[v]? <;> rfl
theorem frP_set (fr : List Int) (v : Nat) {x : Int} (hx : x ≠ -2) : frP (fr.set v x) = (frP fr).set v x := by
  unfold frP
  rw [List.map_set, if_neg hx]
theorem frP_zero : frP (List.replicate 25 (-2)) = List.replicate 25 0 := by decide
/-- The tiles that were reached, as bits. -/
def Seen (m : Nat) (fr : List Int) : Prop := m < 33554432 ∧ ∀ v, v < 25 → m.testBit v = decide (fr.getD v 0 ≠ -2)
theorem Seen.zero : Seen 0 (List.replicate 25 (-2)) := ⟨by omega, fun v hv => by
  rw [Nat.zero_testBit, List.getD_eq_getElem?_getD, List.getElem?_replicate, if_pos hv]
  simp⟩
theorem Seen.add {m t : Nat} {fr : List Int} {x : Int} (h : Seen m fr) (hl : fr.length = 25) (ht : t < 25) (hx : x ≠ -2) : Seen (m ||| 2 ^ t) (fr.set t x) := ⟨by
  have h2 : 2 ^ t < 2 ^ 25 := Nat.pow_lt_pow_right (by omega) ht
  have h3 := h.1
  exact Nat.or_lt_two_pow (n := 25) (by omega) h2, fun v hv => by
  rw [Nat.testBit_or, Nat.testBit_two_pow, h.2 v hv, set_at _ _ _ _ _ (by rw [hl]; exact ht)]
  by_cases e : v = t
  · subst e
    simp [hx]
  · rw [if_neg e]
    have e2 : ¬ t = v := fun x => e x.symm
    simp [e2]⟩
theorem start_snoc (ts : List Nat) (t : Nat) : start (ts ++ [t]) = ((start ts).1.set t (-1), (start ts).2 ++ [t]) := by
  unfold start
  rw [mark_snoc]
theorem start_len (ts : List Nat) : (start ts).1.length = 25 := by
  show (mark _ ts).length = 25
  rw [mark_len]
  simp
/-- Tiles that lie on the tree add nothing. -/
theorem treeK_addTo {busy : List Bool} {p : Nat} : ∀ (r out : List Nat) (hs : List Hp), Tree busy p hs → (∀ x, x ∈ r → x < 25) → (∀ x, x ∈ out → x ∈ tiles hs) → ∃ r', Plc.addTo out r = out ++ r' ∧ treeK busy (some hs) r = treeK busy (some hs) r'
  | [], out, _, _, _, _ => ⟨[], by simp [Plc.addTo], rfl⟩
  | t :: r, out, hs, h, hl, ho => by
    have hl2 : ∀ x, x ∈ r → x < 25 := fun x hx => hl x (by simp [hx])
    have e0 : ∀ r, treeK busy (some hs) (t :: r) = treeK busy (extend busy hs t) r := fun _ => rfl
    show ∃ r', Plc.addTo (if out.contains t = true then out else out ++ [t]) r = out ++ r' ∧ _
    by_cases c : out.contains t = true
    · rw [if_pos c]
      have ht := ho t (List.contains_iff_mem.1 c)
      have he : extend busy hs t = some hs := by unfold extend; rw [if_pos ht]
      rw [e0, he]
      exact treeK_addTo r out hs h hl2 ho
    · rw [if_neg c, e0]
      cases he : extend busy hs t with
      | none =>
        obtain ⟨r1, hr⟩ := Plc.addTo_pre r (out ++ [t])
        refine ⟨t :: r1, by rw [hr]; simp, ?_⟩
        rw [e0, he, treeK_none, treeK_none]
      | some h2 =>
        obtain ⟨k1, k2, z, k3⟩ := h.extend (hl t (by simp)) he
        obtain ⟨r1, hr, hk⟩ := treeK_addTo r (out ++ [t]) h2 k1 hl2 (fun x hx => by
          rcases List.mem_append.1 hx with hx | hx
          · rw [k3, tiles_app]; exact List.mem_append_left _ (ho x hx)
          · rw [List.mem_singleton.1 hx]; exact k2)
        refine ⟨t :: r1, by rw [hr]; simp, ?_⟩
        rw [e0, he, hk]
theorem tree_addTo {busy : List Bool} {s : Nat} {xs : List Nat} (hs : s < 25) (hl : ∀ x, x ∈ xs → x < 25) : tree busy (Plc.addTo [s] xs) = tree busy (s :: xs) := by
  have key : busy.getD s false = false → ∃ r', Plc.addTo [s] xs = [s] ++ r' ∧ treeK busy (some [(s, -1)]) xs = treeK busy (some [(s, -1)]) r' := fun hb =>
    treeK_addTo xs [s] [(s, -1)] (Tree.one hs hb) hl (fun x hx => by rw [List.mem_singleton.1 hx]; simp [tiles])
  obtain ⟨r0, h0⟩ := Plc.addTo_pre xs [s]
  unfold tree
  rw [h0]
  show (if busy.getD s false = true then none else treeK busy (some [(s, -1)]) r0) = if busy.getD s false = true then none else treeK busy (some [(s, -1)]) xs
  by_cases hb : busy.getD s false = true
  · rw [if_pos hb, if_pos hb]
  · rw [if_neg hb, if_neg hb]
    obtain ⟨r', h1, h2⟩ := key (by simpa using hb)
    rw [h0] at h1
    rw [h2, List.append_cancel_left h1]
theorem onTrack_congr {B : List (List Bool)} {a b : List Nat} (h : ∀ busy, tree busy a = tree busy b) : ∀ f t, onTrack B a f t = onTrack B b f t
  | 0, _ => rfl
  | f + 1, t => by rw [onTrack, onTrack, h, onTrack_congr h f (t + 1)]
theorem onTrack_go {B : List (List Bool)} {pins : List Nat} {f t : Nat} (h : tree (B.getD t []) pins = none) : onTrack B pins (f + 1) t = onTrack B pins f (t + 1) := by rw [onTrack, h]
theorem onTrack_on {B : List (List Bool)} {pins : List Nat} {f t : Nat} {hs : List Hp} (h : tree (B.getD t []) pins = some hs) : onTrack B pins (f + 1) t = some (t, hs) := by rw [onTrack, h]
theorem routeK_none {pinsOf : Nat → List Nat} {z : Nat} (h : routeK pinsOf z = none) : ∀ d, routeK pinsOf (z + d) = none
  | 0 => h
  | d + 1 => by
    show (routeK pinsOf (z + d)).bind _ = none
    rw [routeK_none h d]
    rfl
theorem routeK_go {pinsOf : Nat → List Nat} {z : Nat} {s : Rs} (h : routeK pinsOf z = some s) : routeK pinsOf (z + 1) = step (pinsOf (z + 1)) (z + 1) s := by
  show (routeK pinsOf z).bind _ = _
  rw [h]
  rfl
/-- Tracks stay eight, of 25 tiles each. -/
def Bok (B : List (List Bool)) : Prop := B.length = 8 ∧ ∀ t, t < 8 → (B.getD t []).length = 25
theorem ROk.bok {pinsOf : Nat → List Nat} {z : Nat} {s : Rs} (h : ROk pinsOf z s) : Bok s.1 := ⟨h.len, h.lens⟩
theorem Bok.set {B : List (List Bool)} (h : Bok B) {t : Nat} (ht : t < 8) {b : List Bool} (hb : b.length = 25) : Bok (B.set t b) := ⟨by rw [List.length_set]; exact h.1, fun u hu => by
  rw [set_at _ _ _ _ _ (by rw [h.1]; exact ht)]
  split
  · exact hb
  · exact h.2 u hu⟩
/-- A tile taken, later ones after it. -/
def takeK (B : List (List Bool)) (t : Nat) (ts : List Nat) : List (List Bool) := B.set t (take (B.getD t []) ts)
theorem takeK_nil {B : List (List Bool)} (h : Bok B) {t : Nat} (ht : t < 8) : takeK B t [] = B := by
  unfold takeK
  show B.set t (B.getD t []) = B
  have hl : t < B.length := by rw [h.1]; exact ht
  rw [List.getD_eq_getElem?_getD, List.getElem?_eq_getElem hl]
  exact List.set_getElem_self hl
theorem takeK_ok {B : List (List Bool)} (h : Bok B) {t : Nat} (ht : t < 8) (ts : List Nat) : Bok (takeK B t ts) := h.set ht (by rw [take_len]; exact h.2 t ht)
theorem takeK_snoc {B : List (List Bool)} (h : Bok B) {t : Nat} (ht : t < 8) (ts : List Nat) (v : Nat) : takeK B t (ts ++ [v]) = (takeK B t ts).set t (((takeK B t ts).getD t []).set v true) := by
  unfold takeK
  rw [take_snoc, set_at _ _ _ _ _ (by rw [h.1]; exact ht), if_pos rfl, List.set_set]
end Rt
namespace Plc
theorem map_if {c : Prop} [Decidable c] (f : Pn → Nat) (y : Pn) : (if c then [y] else []).map f = if c then [f y] else [] := by split <;> rfl
theorem pl1_tiles (p : List Nat) (v : Nat) : ∀ k, (pl1 k v).map (tileP p) = if 1 ≤ v ∧ v ≤ k then [(v - 1) * 5] else []
  | 0 => by rw [if_neg (by omega)]; rfl
  | k + 1 => by
    show (pl1 k v ++ if v = 1 + k then [inP k] else []).map (tileP p) = _
    rw [List.map_append, pl1_tiles p v k, map_if, tile_in]
    by_cases e : v = 1 + k
    · rw [if_neg (by omega), if_pos e, if_pos (by omega), e, show 1 + k - 1 = k by omega]
      rfl
    · rw [if_neg e, List.append_nil]
      by_cases h : 1 ≤ v ∧ v ≤ k
      · rw [if_pos h, if_pos (by omega)]
      · rw [if_neg h, if_neg (by omega)]
theorem pick_map (f : Nat → Nat) (P : Nat → Bool) (k : Nat) : (pickTo P (k + 1)).map f = (pickTo P k).map f ++ if P k = true then [f k] else [] := by
  rw [pickTo_succ, List.map_append]
  split <;> rfl
theorem pl2_tiles (ce : List Ce) (p : List Nat) (v : Nat) : ∀ k, (pl2 ce k v).map (tileP p) = (pickTo (fun j => (ce.getD j (0, [], 0, false)).1 == v) k).map fun j => p.getD j 0
  | 0 => rfl
  | k + 1 => by
    rw [pl2_succ, List.map_append, pl2_tiles ce p v k, map_if, tile_ce, pick_map]
    congr 1
    by_cases e : v = (ce.getD k (0, [], 0, false)).1
    · rw [if_pos e, if_pos (by simpa using e.symm)]
    · rw [if_neg e, if_neg (by simpa using fun x => e x.symm)]
theorem pl4_tiles (os : List Nat) (p : List Nat) {v : Nat} (hv : v ≠ 0) : ∀ k, (pl4 os k v).map (tileP p) = (pickTo (fun o => os.getD o 0 / 2 == v) k).map fun o => o * 5 + 4
  | 0 => rfl
  | k + 1 => by
    rw [pl4_succ, List.map_append, pl4_tiles os p hv k, map_if, tile_ou, pick_map]
    congr 1
    by_cases e : v = os.getD k 0 / 2
    · rw [if_pos ⟨e, hv⟩, if_pos (by simpa using e.symm)]
    · rw [if_neg (fun x => e x.1), if_neg (by simpa using fun x => e x.symm)]
end Plc
namespace Plc
theorem pl3y_once {y : List Nat} (h : Cut.Once y) (c v : Nat) : ∀ j, j ≤ y.length → pl3y y c j v = if ∃ i, i < j ∧ y.getD i 0 = v then [ceP c] else []
  | 0, _ => by rw [if_neg (fun ⟨i, hi, _⟩ => by omega)]; rfl
  | j + 1, hj => by
    rw [pl3y_succ, pl3y_once h c v j (by omega)]
    by_cases e : v = y.getD j 0
    · have h1 : ¬ ∃ i, i < j ∧ y.getD i 0 = v := by
        rintro ⟨i, hi, h2⟩
        have := h i j (by omega) (by omega) (h2.trans e)
        omega
      rw [if_pos e, if_neg h1, if_pos ⟨j, Nat.lt_succ_self j, e.symm⟩]
      rfl
    · rw [if_neg e, List.append_nil]
      by_cases d : ∃ i, i < j ∧ y.getD i 0 = v
      · have d2 : ∃ i, i < j + 1 ∧ y.getD i 0 = v := by
          obtain ⟨i, h1, h2⟩ := d
          exact ⟨i, by omega, h2⟩
        rw [if_pos d, if_pos d2]
      · have d2 : ¬ ∃ i, i < j + 1 ∧ y.getD i 0 = v := by
          rintro ⟨i, h1, h2⟩
          by_cases e2 : i = j
          · subst e2; exact e h2.symm
          · exact d ⟨i, by omega, h2⟩
        rw [if_neg d, if_neg d2]
theorem mem_getD {y : List Nat} {v : Nat} : v ∈ y ↔ ∃ i, i < y.length ∧ y.getD i 0 = v := by
  rw [List.mem_iff_getElem]
  constructor
  · rintro ⟨i, h, e⟩
    exact ⟨i, h, by simp [List.getD_eq_getElem?_getD, h, e]⟩
  · rintro ⟨i, h, e⟩
    exact ⟨i, h, by simpa [List.getD_eq_getElem?_getD, h] using e⟩
theorem pl3_tiles {ce : List Ce} (p : List Nat) (v : Nat) : ∀ k, (∀ j, j < k → Cut.Once (ce.getD j (0, [], 0, false)).2.1) → (pl3 ce k v).map (tileP p) = (pickTo (fun j => (ce.getD j (0, [], 0, false)).2.1.contains v) k).map fun j => p.getD j 0
  | 0, _ => rfl
  | k + 1, h => by
    rw [pl3_succ, List.map_append, pl3_tiles p v k (fun j hj => h j (by omega)), pl3y_once (h k (by omega)) k v _ (Nat.le_refl _), map_if, tile_ce, pick_map]
    congr 1
    by_cases d : v ∈ (ce.getD k (0, [], 0, false)).2.1
    · rw [if_pos (mem_getD.1 d), if_pos (List.contains_iff_mem.2 d)]
    · rw [if_neg (fun x => d (mem_getD.2 x)), if_neg (fun x => d (List.contains_iff_mem.1 x))]
/-- The tiles of the program's pins. -/
theorem pinL_tiles {m n N : Nat} {ce : List Ce} {ou : List Nat} (h : NetOk m n N ce ou) (p : List Nat) {v : Nat} (hv : v ≠ 0) : (pinL m ce ou v).map (tileP p) = srcP m ce p v ++ snkP ou ce p v := by
  unfold pinL srcP snkP
  rw [List.map_append, List.map_append, List.map_append, pl1_tiles, pl2_tiles, pl3_tiles p v _ (fun j hj => h.once j (by rw [← h.len]; exact hj)), pl4_tiles ou p hv, List.append_assoc]
theorem pinL_zero {m n N : Nat} {ce : List Ce} {ou : List Nat} (h : NetOk m n N ce ou) : pinL m ce ou 0 = [] := by
  cases hq : pinL m ce ou 0 with
  | nil => rfl
  | cons q r =>
    have hm : q ∈ pinL m ce ou 0 := by rw [hq]; simp
    rcases (pinL_mem m ce ou 0 q).1 hm with ((⟨t, h3, h4, _⟩ | ⟨t, h3, h4, _⟩) | ⟨t, h3, h4, _⟩) | ⟨t, h3, _, h4, _⟩
    · omega
    · have := (h.net t (by rw [← h.len]; exact h3)).1
      omega
    · have := (h.inp t (by rw [← h.len]; exact h3) _ h4).1
      omega
    · exact absurd rfl h4
theorem srcP_one {m n N : Nat} {ce : List Ce} {ou : List Nat} (h : NetOk m n N ce ou) (p : List Nat) {v : Nat} (h1 : 1 ≤ v) : (srcP m ce p v).length ≤ 1 ∧ ((m < v → ∃ k, k < n ∧ (ce.getD k (0, [], 0, false)).1 = v) → ∃ s, srcP m ce p v = [s]) := by
  unfold srcP
  rw [h.len]
  by_cases c : v ≤ m
  · have hno : ∀ j, j < n → (ce.getD j (0, [], 0, false)).1 ≠ v := fun j hj x => by have := (h.net j hj).1; omega
    rw [if_pos ⟨h1, c⟩, pick_none n (fun j hj => by simpa using hno j hj)]
    exact ⟨Nat.le_refl _, fun _ => ⟨_, rfl⟩⟩
  · rw [if_neg (fun x => c x.2)]
    by_cases d : ∃ k, k < n ∧ (ce.getD k (0, [], 0, false)).1 = v
    · obtain ⟨k, hk, e2⟩ := d
      rw [pick_one (q := k) n hk (by simpa using e2) (fun j hj hj2 => h.uniq hj hk (by rw [e2]; simpa using hj2))]
      exact ⟨Nat.le_refl _, fun _ => ⟨_, rfl⟩⟩
    · rw [pick_none n (fun j hj => by simpa using fun e => d ⟨j, hj, e⟩)]
      exact ⟨by simp, fun x => absurd (x (by omega)) d⟩
/-- A net is used, and driven: its tiles, as the program has them, are the model's with some of them again. -/
theorem used_tiles {m n N : Nat} {ce : List Ce} {ou : List Nat} (h : NetOk m n N ce ou) {p : List Nat} (hp : Pl n p) {v : Nat} (h1 : 1 ≤ v) (hs : snkP ou ce p v ≠ []) (hd : m < v → ∃ k, k < n ∧ (ce.getD k (0, [], 0, false)).1 = v) :
    2 ≤ (pinL m ce ou v).length ∧ ∀ busy, Rt.tree busy ((pinL m ce ou v).map (tileP p)) = Rt.tree busy (pinsP m ou ce p v) := by
  obtain ⟨s, e⟩ := (srcP_one h p h1).2 hd
  have ht := pinL_tiles h p (show v ≠ 0 by omega)
  rw [e] at ht
  have hl : (pinL m ce ou v).length = 1 + (snkP ou ce p v).length := by
    have := congrArg List.length ht
    rw [List.length_map, List.length_append] at this
    simpa using this
  have h24 : ∀ x, x ∈ pinsP m ou ce p v → x ≤ 24 := pinsP_le (by rw [h.len]; exact hp) h.m4 h.ol v
  refine ⟨by
    have := List.length_pos_iff.2 hs
    omega, fun busy => ?_⟩
  rw [ht]
  unfold pinsP
  rw [if_neg hs, e]
  refine (Rt.tree_addTo ?_ (fun x hx => ?_)).symm
  · have := h24 s ((pinsP_mem m ou ce p v s).2 ⟨hs, .inl (by rw [e]; simp)⟩)
    omega
  · have := h24 x ((pinsP_mem m ou ce p v x).2 ⟨hs, .inr hx⟩)
    omega
theorem unused_tiles {m n N : Nat} {ce : List Ce} {ou : List Nat} (h : NetOk m n N ce ou) (p : List Nat) {v : Nat} (hs : v ≠ 0 → snkP ou ce p v = []) : (pinL m ce ou v).length < 2 := by
  by_cases hv : v = 0
  · subst hv
    rw [pinL_zero h]
    simp
  · have ht := congrArg List.length (pinL_tiles h p hv)
    rw [List.length_map, hs hv, List.append_nil] at ht
    have := (srcP_one h p (show 1 ≤ v by omega)).1
    omega
end Plc
/- What the law of Route asks of a set of routes (plain). -/
namespace Rt

theorem memDRo {rs : List Ro} {k : Nat} (hk : k < rs.length) : rs.getD k (0, 0, []) ∈ rs := by
  rw [List.getD_eq_getElem?_getD, List.getElem?_eq_getElem hk]
  exact List.getElem_mem hk
theorem tiles_at (hs : List Hp) (j : Nat) : (tiles hs).getD j 0 = (hs.getD j (0, 0)).1 := by
  unfold tiles
  simp only [List.getD_eq_getElem?_getD, List.getElem?_map]
  cases hs[j]? <;> rfl
theorem tiles_snoc {hs : List Hp} {j : Nat} (hj : j < hs.length) : (tiles hs).take (j + 1) = (tiles hs).take j ++ [(hs.getD j (0, 0)).1] := by
  rw [List.take_succ_eq_append_getElem (by unfold tiles; rw [List.length_map]; exact hj)]
  congr 2
  rw [← tiles_at, List.getD_eq_getElem?_getD, List.getElem?_eq_getElem (by unfold tiles; rw [List.length_map]; exact hj)]
  rfl
/-- No wire twice, and every route a tree. -/
structure UOk (rs : List Ro) : Prop where
  nd : (usedOf rs).Nodup
  tr : ∀ r, r ∈ rs → r.2.1 < 8 ∧ ∃ busy p, Tree busy p r.2.2
theorem rok_uok {pinsOf : Nat → List Nat} {z : Nat} {B : List (List Bool)} {rs : List Ro} (h : ROk pinsOf z (B, rs)) : UOk rs :=
  ⟨h.used_nodup, fun r hr => ⟨(h.tr r hr).1, by obtain ⟨busy, hb⟩ := (h.tr r hr).2.1; exact ⟨busy, _, hb⟩⟩⟩
/-- The wires of the first k routes and of j hops of the next one. -/
def usedTo (rs : List Ro) (k j : Nat) : List Nat := usedOf (rs.take k) ++ ((tiles (rs.getD k (0, 0, [])).2.2).take j).map fun x => x * 8 + (rs.getD k (0, 0, [])).2.1
theorem usedTo_zero (rs : List Ro) : usedTo rs 0 0 = [] := rfl
theorem usedTo_snoc {rs : List Ro} {k j : Nat} (hj : j < (rs.getD k (0, 0, [])).2.2.length) : usedTo rs k (j + 1) = usedTo rs k j ++ [((rs.getD k (0, 0, [])).2.2.getD j (0, 0)).1 * 8 + (rs.getD k (0, 0, [])).2.1] := by
  unfold usedTo
  rw [tiles_snoc hj, List.map_append, List.append_assoc]
  rfl
theorem usedOf_take {rs : List Ro} {k : Nat} (hk : k < rs.length) : usedOf (rs.take (k + 1)) = usedOf (rs.take k) ++ (tiles (rs.getD k (0, 0, [])).2.2).map fun x => x * 8 + (rs.getD k (0, 0, [])).2.1 := by
  rw [List.take_succ_eq_append_getElem hk]
  unfold usedOf
  rw [List.flatMap_append]
  congr 1
  rw [List.getD_eq_getElem?_getD, List.getElem?_eq_getElem hk]
  simp
theorem usedTo_next {rs : List Ro} {k : Nat} (hk : k < rs.length) : usedTo rs k (rs.getD k (0, 0, [])).2.2.length = usedTo rs (k + 1) 0 := by
  have e : usedTo rs (k + 1) 0 = usedOf (rs.take (k + 1)) := by unfold usedTo; rw [List.take_zero]; simp
  rw [e, usedOf_take hk]
  unfold usedTo
  have e2 : (tiles (rs.getD k (0, 0, [])).2.2).take (rs.getD k (0, 0, [])).2.2.length = tiles (rs.getD k (0, 0, [])).2.2 := List.take_of_length_le (by unfold tiles; rw [List.length_map]; exact Nat.le_refl _)
  rw [e2]
theorem usedTo_pre {rs : List Ro} {k j : Nat} (hk : k < rs.length) : ∃ r, usedOf rs = usedTo rs k j ++ r := by
  refine ⟨((tiles (rs.getD k (0, 0, [])).2.2).drop j).map (fun x => x * 8 + (rs.getD k (0, 0, [])).2.1) ++ usedOf (rs.drop (k + 1)), ?_⟩
  have e : usedOf rs = usedOf (rs.take (k + 1)) ++ usedOf (rs.drop (k + 1)) := by
    unfold usedOf
    rw [← List.flatMap_append, List.take_append_drop]
  rw [e, usedOf_take hk]
  unfold usedTo
  rw [List.append_assoc, List.append_assoc, ← List.append_assoc (List.map _ _), ← List.map_append, List.take_append_drop]
theorem UOk.len {rs : List Ro} (h : UOk rs) {k j : Nat} (hk : k < rs.length) : (usedTo rs k j).length ≤ 200 := by
  obtain ⟨r, e⟩ := usedTo_pre (j := j) hk
  have h1 : (usedOf rs).length ≤ 200 := nodup_le 200 _ h.nd (fun x hx => by
    unfold usedOf at hx
    rw [List.mem_flatMap] at hx
    obtain ⟨y, hy, hx⟩ := hx
    rw [List.mem_map] at hx
    obtain ⟨t, ht, rfl⟩ := hx
    obtain ⟨h8, busy, p, hT⟩ := h.tr y hy
    have := (hT.nodup.2 t ht).1
    omega)
  rw [e, List.length_append] at h1
  omega
theorem UOk.new {rs : List Ro} (h : UOk rs) {k j : Nat} (hk : k < rs.length) (hj : j < (rs.getD k (0, 0, [])).2.2.length) : (usedTo rs k j).contains (((rs.getD k (0, 0, [])).2.2.getD j (0, 0)).1 * 8 + (rs.getD k (0, 0, [])).2.1) = false := by
  obtain ⟨r, e⟩ := usedTo_pre (j := j + 1) hk
  have h1 := h.nd
  rw [e, usedTo_snoc hj] at h1
  have h2 := (List.nodup_append.1 h1).1
  have h3 := (List.nodup_append.1 h2).2.2
  generalize ((rs.getD k (0, 0, [])).2.2.getD j (0, 0)).1 * 8 + (rs.getD k (0, 0, [])).2.1 = x at *
  rw [Bool.eq_false_iff]
  intro hc
  rw [List.contains_iff_mem] at hc
  exact h3 x hc x (List.mem_singleton.2 rfl) rfl
/-- What the law asks of hop j. -/
def HopOk (hs : List Hp) (j : Nat) : Prop :=
  (hs.getD j (0, 0)).1 < 25 ∧ ((tiles hs).take j).contains (hs.getD j (0, 0)).1 = false ∧ ((j = 0 ∧ (hs.getD j (0, 0)).2 = -1) ∨ (0 < j ∧ ∃ u : Nat, (hs.getD j (0, 0)).2 = (u : Int) ∧ u < 25 ∧ ((tiles hs).take j).contains u = true ∧ (hs.getD j (0, 0)).1 ∈ nbrs u))
theorem Tree.hop {busy : List Bool} {p : Nat} {hs : List Hp} (h : Tree busy p hs) {j : Nat} (hj : j < hs.length) : HopOk hs j := by
  obtain ⟨h0, _, h1⟩ := h.at
  have hl : j < (tiles hs).length := by unfold tiles; rw [List.length_map]; exact hj
  refine ⟨?_, ?_, ?_⟩
  · rw [← tiles_at]; exact (h.nodup.2 _ (memD hl)).1
  · rw [Bool.eq_false_iff]
    intro hc
    rw [List.contains_iff_mem, ← tiles_at] at hc
    exact nodup_new h.nodup.1 hl hc
  · by_cases e : j = 0
    · subst e; rw [h0]; exact .inl ⟨rfl, rfl⟩
    · obtain ⟨u, e1, e2, e3, e4⟩ := h1 j (by omega) hj
      exact .inr ⟨by omega, u, e1, e4, by rw [List.contains_iff_mem]; exact e2, e3⟩
end Rt
