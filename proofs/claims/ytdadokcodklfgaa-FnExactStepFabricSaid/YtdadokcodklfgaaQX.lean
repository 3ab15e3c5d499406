/- Plain mathematics of routing: a search in breadth, its paths, trees of hops. -/
import Derived.Test.YtdadokcodklfgaaQP
import Derived.Test.YtdadokcodklfgaaWL
namespace Rt
/-- The neighbours of a tile: up, left, right, down. -/
def nbrs (t : Nat) : List Nat := (if 5 ≤ t then [t - 5] else []) ++ (if 0 < t % 5 then [t - 1] else []) ++ (if t % 5 < 4 then [t + 1] else []) ++ (if t < 20 then [t + 5] else [])
theorem nbrs_lt {t v : Nat} (ht : t < 25) (h : v ∈ nbrs t) : v < 25 := by
  unfold nbrs at h
  simp only [List.mem_append] at h
  rcases h with ((h | h) | h) | h
  all_goals
    split at h
    · rw [List.mem_singleton] at h
      omega
    · simp at h
theorem nbrs_len (t : Nat) : (nbrs t).length ≤ 4 := by
  unfold nbrs
  simp only [List.length_append]
  repeat' split
  all_goals simp
/-- What a search knows: from where each tile was reached (-1: it lies on the tree; -2: not yet), and the tiles in the order in which they were reached. -/
abbrev St := List Int × List Nat
def visit (busy : List Bool) (u : Nat) (s : St) (v : Nat) : St := if s.1.getD v 0 = -2 ∧ busy.getD v false = false then (s.1.set v (u : Int), s.2 ++ [v]) else s
def expand (busy : List Bool) (u : Nat) (vs : List Nat) (s : St) : St := vs.foldl (visit busy u) s
/-- The search from the k-th tile on. -/
def search (busy : List Bool) (sink : Nat) : Nat → Nat → St → St
  | 0, _, s => s
  | f + 1, k, s => if k < s.2.length ∧ s.1.getD sink 0 = -2 then search busy sink f (k + 1) (expand busy (s.2.getD k 0) (nbrs (s.2.getD k 0)) s) else s
def mark (f : List Int) (ts : List Nat) : List Int := ts.foldl (fun f t => f.set t (-1)) f
def start (ts : List Nat) : St := (mark (List.replicate 25 (-2)) ts, ts)
theorem mark_len (f : List Int) : ∀ ts : List Nat, (mark f ts).length = f.length := by
  intro ts
  induction ts generalizing f with
  | nil => rfl
  | cons a r ih =>
    show (mark (f.set a (-1)) r).length = _
    rw [ih, List.length_set]
theorem set_at {α : Type} (l : List α) (d : α) (i j : Nat) (v : α) (hi : i < l.length) : (l.set i v).getD j d = if j = i then v else l.getD j d := by
  simp only [List.getD_eq_getElem?_getD]
  by_cases e : j = i
  · subst e
    rw [List.getElem?_set_self hi, if_pos rfl]
    rfl
  · rw [List.getElem?_set_ne (fun x => e x.symm), if_neg e]
theorem mark_at {v : Nat} : ∀ (ts : List Nat) (f : List Int), (∀ t, t ∈ ts → t < f.length) → (mark f ts).getD v 0 = if v ∈ ts then -1 else f.getD v 0 := by
  intro ts
  induction ts with
  | nil => intro f _; simp [mark]
  | cons a r ih =>
    intro f h
    show (mark (f.set a (-1)) r).getD v 0 = _
    rw [ih (f.set a (-1)) (fun t ht => by rw [List.length_set]; exact h t (by simp [ht])), set_at _ _ _ _ _ (h a (by simp))]
    by_cases h1 : v ∈ r
    · rw [if_pos h1, if_pos (by simp [h1])]
    · rw [if_neg h1]
      by_cases h2 : v = a
      · rw [if_pos h2, if_pos (by simp [h2])]
      · rw [if_neg h2, if_neg (by simp [h1, h2])]
/-- What holds of a search from the tiles ts. -/
structure Inv (busy : List Bool) (ts : List Nat) (s : St) : Prop where
  len : s.1.length = 25
  lt : ∀ v, v ∈ s.2 → v < 25
  nd : s.2.Nodup
  mem : ∀ v, v < 25 → (v ∈ s.2 ↔ s.1.getD v 0 ≠ -2)
  tree : ∀ v, v < 25 → (s.1.getD v 0 = -1 ↔ v ∈ ts)
  pre : ∀ v, v < 25 → s.1.getD v 0 ≠ -1 → s.1.getD v 0 ≠ -2 → ∃ i j, i < j ∧ j < s.2.length ∧ s.2.getD j 0 = v ∧ s.1.getD v 0 = ((s.2.getD i 0 : Nat) : Int) ∧ v ∈ nbrs (s.2.getD i 0) ∧ busy.getD v false = false
theorem memD {q : List Nat} {i : Nat} (h : i < q.length) : q.getD i 0 ∈ q := by
  rw [List.getD_eq_getElem?_getD, List.getElem?_eq_getElem h]
  exact List.getElem_mem h
theorem getD_snoc_lt {q : List Nat} {v i : Nat} (h : i < q.length) : (q ++ [v]).getD i 0 = q.getD i 0 := by
  simp only [List.getD_eq_getElem?_getD]
  rw [List.getElem?_append_left h]
theorem getD_snoc_at (q : List Nat) (v : Nat) : (q ++ [v]).getD q.length 0 = v := by
  simp [List.getD_eq_getElem?_getD]
theorem Inv.start {busy : List Bool} {ts : List Nat} (hl : ∀ t, t ∈ ts → t < 25) (hn : ts.Nodup) : Inv busy ts (start ts) := by
  have hm : ∀ v, v < 25 → (mark (List.replicate 25 (-2)) ts).getD v 0 = if v ∈ ts then -1 else -2 := fun v hv => by
    rw [mark_at ts _ (fun t ht => by simpa using hl t ht)]
    congr 1
    rw [List.getD_eq_getElem?_getD, List.getElem?_replicate, if_pos hv]
    rfl
  refine ⟨by show (mark _ ts).length = 25; rw [mark_len]; simp, hl, hn, fun v hv => ?_, fun v hv => ?_, fun v hv h1 h2 => ?_⟩
  · show v ∈ ts ↔ (mark _ ts).getD v 0 ≠ -2
    rw [hm v hv]
    by_cases h : v ∈ ts
    · rw [if_pos h]; simp [h]
    · rw [if_neg h]; simp [h]
  · show (mark _ ts).getD v 0 = -1 ↔ v ∈ ts
    rw [hm v hv]
    by_cases h : v ∈ ts
    · rw [if_pos h]; simp [h]
    · rw [if_neg h]; simp [h]
  · exfalso
    have h3 : (mark (List.replicate 25 (-2)) ts).getD v 0 ≠ -1 := h1
    have h4 : (mark (List.replicate 25 (-2)) ts).getD v 0 ≠ -2 := h2
    rw [hm v hv] at h3 h4
    by_cases h : v ∈ ts
    · rw [if_pos h] at h3; exact h3 rfl
    · rw [if_neg h] at h4; exact h4 rfl
theorem Inv.visit {busy : List Bool} {ts : List Nat} {s : St} (h : Inv busy ts s) {i v : Nat} (hi : i < s.2.length) (hv : v < 25) (hn : v ∈ nbrs (s.2.getD i 0)) : Inv busy ts (visit busy (s.2.getD i 0) s v) := by
  unfold Rt.visit
  by_cases c : s.1.getD v 0 = -2 ∧ busy.getD v false = false
  · rw [if_pos c]
    obtain ⟨c1, c2⟩ := c
    have hvl : v < s.1.length := by rw [h.len]; exact hv
    have hnm : v ∉ s.2 := fun x => (h.mem v hv).1 x c1
    have hat : ∀ x, (s.1.set v ((s.2.getD i 0 : Nat) : Int)).getD x 0 = if x = v then ((s.2.getD i 0 : Nat) : Int) else s.1.getD x 0 := fun x => set_at _ _ _ _ _ hvl
    refine ⟨by show (s.1.set v _).length = 25; rw [List.length_set]; exact h.len, fun x hx => ?_, ?_, fun x hx => ?_, fun x hx => ?_, fun x hx h1 h2 => ?_⟩
    · have hx : x ∈ s.2 ++ [v] := hx
      rcases List.mem_append.1 hx with hx | hx
      · exact h.lt x hx
      · rw [List.mem_singleton.1 hx]; exact hv
    · show (s.2 ++ [v]).Nodup
      rw [List.nodup_append]
      refine ⟨h.nd, by simp, fun a ha b hb => ?_⟩
      rw [List.mem_singleton.1 hb]
      exact fun e => hnm (e ▸ ha)
    · show x ∈ s.2 ++ [v] ↔ (s.1.set v _).getD x 0 ≠ -2
      rw [hat x]
      by_cases e : x = v
      · rw [if_pos e, e]
        exact ⟨fun _ => by omega, fun _ => by simp⟩
      · rw [if_neg e, ← h.mem x hx]
        simp [e]
    · show (s.1.set v _).getD x 0 = -1 ↔ x ∈ ts
      rw [hat x]
      by_cases e : x = v
      · rw [if_pos e, e, ← h.tree v hv, c1]
        exact ⟨fun z => by omega, fun z => by omega⟩
      · rw [if_neg e]; exact h.tree x hx
    · have h1 : (s.1.set v ((s.2.getD i 0 : Nat) : Int)).getD x 0 ≠ -1 := h1
      have h2 : (s.1.set v ((s.2.getD i 0 : Nat) : Int)).getD x 0 ≠ -2 := h2
      show ∃ i' j, i' < j ∧ j < (s.2 ++ [v]).length ∧ (s.2 ++ [v]).getD j 0 = x ∧ (s.1.set v _).getD x 0 = (((s.2 ++ [v]).getD i' 0 : Nat) : Int) ∧ x ∈ nbrs ((s.2 ++ [v]).getD i' 0) ∧ busy.getD x false = false
      rw [hat x] at h1 h2 ⊢
      by_cases e : x = v
      · subst e
        refine ⟨i, s.2.length, hi, by simp, getD_snoc_at _ _, ?_, ?_, c2⟩
        · rw [if_pos rfl, getD_snoc_lt hi]
        · rw [getD_snoc_lt hi]; exact hn
      · rw [if_neg e] at h1 h2 ⊢
        obtain ⟨a, b, k1, k2, k3, k4, k5, k6⟩ := h.pre x hx h1 h2
        exact ⟨a, b, k1, by simp; omega, by rw [getD_snoc_lt k2]; exact k3, by rw [getD_snoc_lt (by omega)]; exact k4, by rw [getD_snoc_lt (by omega)]; exact k5, k6⟩
  · rw [if_neg c]; exact h
/-- What was reached stays as it was reached. -/
structure Grows (s s' : St) : Prop where
  q : ∃ r, s'.2 = s.2 ++ r
  f : ∀ v, s.1.getD v 0 ≠ -2 → s'.1.getD v 0 = s.1.getD v 0
theorem Grows.refl (s : St) : Grows s s := ⟨⟨[], by simp⟩, fun _ _ => rfl⟩
theorem Grows.trans {a b c : St} (h : Grows a b) (k : Grows b c) : Grows a c := by
  obtain ⟨r, e⟩ := h.q
  obtain ⟨t, g⟩ := k.q
  exact ⟨⟨r ++ t, by rw [g, e, List.append_assoc]⟩, fun v hv => by rw [k.f v (by rw [h.f v hv]; exact hv), h.f v hv]⟩
theorem Grows.at {s s' : St} (h : Grows s s') {i : Nat} (hi : i < s.2.length) : s'.2.getD i 0 = s.2.getD i 0 ∧ i < s'.2.length := by
  obtain ⟨r, e⟩ := h.q
  rw [e]
  refine ⟨?_, by simp; omega⟩
  simp only [List.getD_eq_getElem?_getD]
  rw [List.getElem?_append_left hi]
theorem visit_grows (busy : List Bool) (u : Nat) (s : St) (v : Nat) : Grows s (visit busy u s v) := by
  unfold visit
  split
  · next c =>
    refine ⟨⟨[v], rfl⟩, fun x hx => ?_⟩
    show (s.1.set v _).getD x 0 = _
    simp only [List.getD_eq_getElem?_getD]
    rw [List.getElem?_set_ne]
    rintro rfl
    exact hx c.1
  · exact Grows.refl s
theorem expand_ok {busy : List Bool} {ts : List Nat} {s : St} (h : Inv busy ts s) {i : Nat} (hi : i < s.2.length) : ∀ vs : List Nat, (∀ v, v ∈ vs → v ∈ nbrs (s.2.getD i 0)) → Inv busy ts (expand busy (s.2.getD i 0) vs s) ∧ Grows s (expand busy (s.2.getD i 0) vs s) := by
  have hu : s.2.getD i 0 < 25 := h.lt _ (memD hi)
  generalize hue : s.2.getD i 0 = u at *
  intro vs
  induction vs generalizing s with
  | nil => intro _; exact ⟨h, Grows.refl s⟩
  | cons a r ih =>
    intro hv
    show Inv busy ts (expand busy u r (visit busy u s a)) ∧ Grows s (expand busy u r (visit busy u s a))
    have hg := visit_grows busy u s a
    obtain ⟨h1, h2⟩ := hg.at hi
    have hi1 := h.visit hi (nbrs_lt hu (hv a (by simp))) (by rw [hue]; exact hv a (by simp))
    rw [hue] at hi1
    obtain ⟨k1, k2⟩ := ih hi1 h2 (by rw [h1, hue]) (fun v hv' => hv v (by simp [hv']))
    exact ⟨k1, hg.trans k2⟩
theorem search_ok {busy : List Bool} {ts : List Nat} {sink : Nat} : ∀ (f k : Nat) (s : St), Inv busy ts s → Inv busy ts (search busy sink f k s) ∧ Grows s (search busy sink f k s)
  | 0, _, s, h => ⟨h, Grows.refl s⟩
  | f + 1, k, s, h => by
    unfold search
    split
    · next c =>
      obtain ⟨h1, h2⟩ := expand_ok h c.1 (nbrs (s.2.getD k 0)) (fun _ hv => hv)
      obtain ⟨h3, h4⟩ := search_ok f (k + 1) _ h1
      exact ⟨h3, h2.trans h4⟩
    · exact ⟨h, Grows.refl s⟩
theorem nodup_le : ∀ (n : Nat) (l : List Nat), l.Nodup → (∀ x, x ∈ l → x < n) → l.length ≤ n
  | 0, l, _, h => by
    cases l with
    | nil => simp
    | cons a r => exact absurd (h a (by simp)) (by omega)
  | n + 1, l, hn, h => by
    have h1 : (l.erase n).length ≤ n := nodup_le n (l.erase n) (hn.erase n) (fun x hx => by
      have h2 := h x (List.mem_of_mem_erase hx)
      have h3 : x ≠ n := fun e => by
        subst e
        exact (List.Nodup.not_mem_erase hn) hx
      omega)
    have h2 := List.length_erase (a := n) (l := l)
    split at h2 <;> omega
theorem Inv.q25 {busy : List Bool} {ts : List Nat} {s : St} (h : Inv busy ts s) : s.2.length ≤ 25 := nodup_le 25 s.2 h.nd h.lt
/-- A hop: its tile, and from where. -/
abbrev Hp := Nat × Int
/-- The hops from the tree to a tile. -/
def pathTo (fr : List Int) : Nat → Nat → List Hp
  | 0, _ => []
  | f + 1, v => if 0 ≤ fr.getD v 0 then pathTo fr f (fr.getD v 0).toNat ++ [(v, fr.getD v 0)] else []
/-- The same as the loop has it. -/
def back (fr : List Int) : Nat → Nat → List Hp → List Hp
  | 0, _, acc => acc
  | f + 1, v, acc => if 0 ≤ fr.getD v 0 then back fr f (fr.getD v 0).toNat ((v, fr.getD v 0) :: acc) else acc
/-- Each hop is a neighbour of an earlier tile, and new. -/
def OkH (busy : List Bool) : List Nat → List Hp → Prop
  | _, [] => True
  | pre, h :: r => (∃ u : Nat, h.2 = (u : Int) ∧ u ∈ pre ∧ h.1 ∈ nbrs u ∧ h.1 ∉ pre ∧ h.1 < 25 ∧ busy.getD h.1 false = false) ∧ OkH busy (pre ++ [h.1]) r
theorem OkH.app {busy : List Bool} : ∀ (a b : List Hp) (pre : List Nat), OkH busy pre (a ++ b) ↔ OkH busy pre a ∧ OkH busy (pre ++ a.map (·.1)) b
  | [], b, pre => by simp [OkH]
  | x :: a, b, pre => by
    show (_ ∧ OkH busy (pre ++ [x.1]) (a ++ b)) ↔ (_ ∧ OkH busy (pre ++ [x.1]) a) ∧ _
    rw [OkH.app a b (pre ++ [x.1])]
    simp [and_assoc]
theorem nodup_getD {q : List Nat} (h : q.Nodup) {i j : Nat} (hi : i < q.length) (hj : j < q.length) (e : q.getD i 0 = q.getD j 0) : i = j := by
  simp only [List.getD_eq_getElem?_getD, List.getElem?_eq_getElem hi, List.getElem?_eq_getElem hj, Option.getD_some] at e
  rcases Nat.lt_trichotomy i j with c | c | c
  · exact absurd e (List.pairwise_iff_getElem.1 h i j hi hj c)
  · exact c
  · exact absurd e.symm (List.pairwise_iff_getElem.1 h j i hj hi c)
/-- The path to the j-th tile that was reached. -/
theorem path_ok {busy : List Bool} {ts : List Nat} {s : St} (h : Inv busy ts s) : ∀ (f j : Nat), j < s.2.length → j < f →
    OkH busy ts (pathTo s.1 f (s.2.getD j 0)) ∧ (∀ x, x ∈ (pathTo s.1 f (s.2.getD j 0)).map (·.1) → ∃ i, i ≤ j ∧ s.2.getD i 0 = x) ∧ s.2.getD j 0 ∈ ts ++ (pathTo s.1 f (s.2.getD j 0)).map (·.1)
  | 0, j, _, hf => by omega
  | f + 1, j, hj, hf => by
    have hv := h.lt _ (memD hj)
    have hm := (h.mem _ hv).1 (memD hj)
    by_cases ht : s.1.getD (s.2.getD j 0) 0 = -1
    · have hin := (h.tree _ hv).1 ht
      unfold pathTo
      rw [if_neg (by omega)]
      exact ⟨trivial, fun x hx => by simp at hx, List.mem_append_left _ hin⟩
    · obtain ⟨a, b, k1, k2, k3, k4, k5, k6⟩ := h.pre _ hv ht hm
      have hbj : b = j := nodup_getD h.nd k2 hj k3
      subst hbj
      have hnt : s.2.getD b 0 ∉ ts := fun x => ht ((h.tree _ hv).2 x)
      unfold pathTo
      rw [k4, if_pos (Int.natCast_nonneg _), Int.toNat_natCast]
      obtain ⟨p1, p2, p3⟩ := path_ok h f a (by omega) (by omega)
      refine ⟨?_, fun x hx => ?_, by simp⟩
      · rw [OkH.app]
        refine ⟨p1, ⟨_, rfl, p3, k5, ?_, hv, k6⟩, trivial⟩
        intro x
        rcases List.mem_append.1 x with x | x
        · exact hnt x
        · obtain ⟨i, i1, i2⟩ := p2 _ x
          have := nodup_getD h.nd (by omega) k2 i2
          omega
      · rw [List.map_append, List.mem_append] at hx
        rcases hx with hx | hx
        · obtain ⟨i, i1, i2⟩ := p2 x hx
          exact ⟨i, by omega, i2⟩
        · simp at hx
          exact ⟨b, Nat.le_refl _, hx.symm⟩
end Rt
/- Plain mathematics of routing: trees, tracks, all nets. -/
namespace Rt
def tiles (hs : List Hp) : List Nat := hs.map (·.1)
theorem tiles_app (a b : List Hp) : tiles (a ++ b) = tiles a ++ tiles b := by simp [tiles]
/-- A tree extended to a sink. -/
def extend (busy : List Bool) (hs : List Hp) (sink : Nat) : Option (List Hp) :=
  if sink ∈ tiles hs then some hs else
    if (search busy sink 26 0 (start (tiles hs))).1.getD sink 0 = -2 then none else some (hs ++ pathTo (search busy sink 26 0 (start (tiles hs))).1 26 sink)
/-- A tree from a source that is free. -/
structure Tree (busy : List Bool) (p : Nat) (hs : List Hp) : Prop where
  ex : ∃ r, hs = (p, -1) :: r ∧ OkH busy [p] r
  free : busy.getD p false = false
  lt : p < 25
theorem okH_tiles {busy : List Bool} : ∀ (r : List Hp) (pre : List Nat), OkH busy pre r → pre.Nodup → (pre ++ tiles r).Nodup ∧ ∀ x, x ∈ tiles r → x < 25 ∧ busy.getD x false = false
  | [], pre, _, hn => by simpa [tiles] using hn
  | h :: r, pre, hk, hn => by
    obtain ⟨⟨u, _, _, _, h4, h5, h6⟩, h7⟩ := hk
    have hn2 : (pre ++ [h.1]).Nodup := by
      rw [List.nodup_append]
      refine ⟨hn, by simp, fun a ha b hb => ?_⟩
      rw [List.mem_singleton.1 hb]
      exact fun e => h4 (e ▸ ha)
    obtain ⟨k1, k2⟩ := okH_tiles r (pre ++ [h.1]) h7 hn2
    refine ⟨by simpa [tiles] using k1, fun x hx => ?_⟩
    have hx : x = h.1 ∨ x ∈ tiles r := by simpa [tiles] using hx
    rcases hx with rfl | hx
    · exact ⟨h5, h6⟩
    · exact k2 x hx
theorem Tree.nodup {busy : List Bool} {p : Nat} {hs : List Hp} (h : Tree busy p hs) : (tiles hs).Nodup ∧ ∀ x, x ∈ tiles hs → x < 25 ∧ busy.getD x false = false := by
  obtain ⟨r, rfl, hk⟩ := h.ex
  obtain ⟨k1, k2⟩ := okH_tiles r [p] hk (by simp)
  refine ⟨by simpa [tiles] using k1, fun x hx => ?_⟩
  have hx : x = p ∨ x ∈ tiles r := by simpa [tiles] using hx
  rcases hx with rfl | hx
  · exact ⟨h.lt, h.free⟩
  · exact k2 x hx
theorem Tree.one {busy : List Bool} {p : Nat} (hp : p < 25) (hb : busy.getD p false = false) : Tree busy p [(p, -1)] := ⟨⟨[], rfl, trivial⟩, hb, hp⟩
theorem Tree.len {busy : List Bool} {p : Nat} {hs : List Hp} (h : Tree busy p hs) : hs.length ≤ 25 := by
  have := nodup_le 25 (tiles hs) h.nodup.1 (fun x hx => (h.nodup.2 x hx).1)
  simpa [tiles] using this
theorem search_end {busy : List Bool} {ts : List Nat} {sink : Nat} {s : St} (h : Inv busy ts s) (hs : sink < 25) (hne : s.1.getD sink 0 ≠ -2) : ∃ j, j < s.2.length ∧ s.2.getD j 0 = sink := by
  have hm := (h.mem sink hs).2 hne
  obtain ⟨j, hj, e⟩ := List.getElem_of_mem hm
  exact ⟨j, hj, by simp [List.getD_eq_getElem?_getD, hj, e]⟩
theorem Tree.extend {busy : List Bool} {p sink : Nat} {hs hs' : List Hp} (h : Tree busy p hs) (hsk : sink < 25) (he : extend busy hs sink = some hs') : Tree busy p hs' ∧ sink ∈ tiles hs' ∧ (∃ r, hs' = hs ++ r) := by
  unfold Rt.extend at he
  by_cases c : sink ∈ tiles hs
  · rw [if_pos c] at he
    injection he with he
    subst he
    exact ⟨h, c, [], by simp⟩
  · rw [if_neg c] at he
    obtain ⟨hn, hlt⟩ := h.nodup
    have hI := (search_ok (sink := sink) 26 0 _ (Inv.start (busy := busy) (fun t ht => (hlt t ht).1) hn)).1
    generalize search busy sink 26 0 (start (tiles hs)) = s at *
    by_cases d : s.1.getD sink 0 = -2
    · rw [if_pos d] at he; cases he
    · rw [if_neg d] at he
      injection he with he
      obtain ⟨j, hj, hje⟩ := search_end hI hsk d
      have hq := hI.q25
      obtain ⟨k1, _, k3⟩ := path_ok hI 26 j hj (by omega)
      rw [hje] at k1 k3
      subst he
      refine ⟨⟨?_, h.free, h.lt⟩, ?_, _, rfl⟩
      · obtain ⟨r, rfl, hk⟩ := h.ex
        refine ⟨r ++ pathTo s.1 26 sink, rfl, ?_⟩
        rw [OkH.app]
        exact ⟨hk, by simpa [tiles] using k1⟩
      · rw [tiles_app]; exact k3
/-- All sinks, one after another. -/
def treeK (busy : List Bool) (o : Option (List Hp)) (ps : List Nat) : Option (List Hp) := ps.foldl (fun o p => o.bind fun hs => extend busy hs p) o
def tree (busy : List Bool) (pins : List Nat) : Option (List Hp) := if busy.getD (pins.getD 0 0) false = true then none else treeK busy (some [(pins.getD 0 0, -1)]) pins.tail
/-- The first track from t on that serves. -/
def onTrack (B : List (List Bool)) (pins : List Nat) : Nat → Nat → Option (Nat × List Hp)
  | 0, _ => none
  | f + 1, t => match tree (B.getD t []) pins with
    | some hs => some (t, hs)
    | none => onTrack B pins f (t + 1)
/-- Tiles taken on a track. -/
def take (busy : List Bool) (ts : List Nat) : List Bool := ts.foldl (fun b t => b.set t true) busy
/-- A route: its net, its track, its hops. -/
abbrev Ro := Nat × Nat × List Hp
abbrev Rs := List (List Bool) × List Ro
def step (pins : List Nat) (net : Nat) (s : Rs) : Option Rs := if pins = [] then some s else
  match onTrack s.1 pins 8 0 with
  | none => none
  | some (t, hs) => some (s.1.set t (take (s.1.getD t []) (tiles hs)), s.2 ++ [(net, t, hs)])
/-- A hop in its place. -/
theorem okH_at {busy : List Bool} : ∀ (r : List Hp) (pre : List Nat), OkH busy pre r → ∀ k, k < r.length → ∃ u : Nat, (r.getD k (0, 0)).2 = (u : Int) ∧ u ∈ pre ++ (tiles r).take k ∧ (r.getD k (0, 0)).1 ∈ nbrs u ∧ (r.getD k (0, 0)).1 ∉ pre ++ (tiles r).take k
  | [], _, _, k, hk => by simp at hk
  | h :: r, pre, ⟨⟨u, h1, h2, h3, h4, _, _⟩, _⟩, 0, _ => ⟨u, h1, by simpa using h2, h3, by simpa using h4⟩
  | h :: r, pre, ⟨_, h7⟩, k + 1, hk => by
    obtain ⟨u, k1, k2, k3, k4⟩ := okH_at r (pre ++ [h.1]) h7 k (by simpa using hk)
    have e : pre ++ (tiles (h :: r)).take (k + 1) = pre ++ [h.1] ++ (tiles r).take k := by simp [tiles]
    rw [e]
    exact ⟨u, k1, k2, k3, k4⟩
theorem Tree.at {busy : List Bool} {p : Nat} {hs : List Hp} (h : Tree busy p hs) : hs.getD 0 (0, 0) = (p, -1) ∧ 0 < hs.length ∧ ∀ k, 0 < k → k < hs.length → ∃ u : Nat, (hs.getD k (0, 0)).2 = (u : Int) ∧ u ∈ (tiles hs).take k ∧ (hs.getD k (0, 0)).1 ∈ nbrs u ∧ u < 25 := by
  obtain ⟨hn, hlt⟩ := h.nodup
  obtain ⟨r, rfl, hk⟩ := h.ex
  refine ⟨rfl, by simp, fun k h0 hk2 => ?_⟩
  obtain ⟨j, rfl⟩ : ∃ j, k = j + 1 := ⟨k - 1, by omega⟩
  obtain ⟨u, k1, k2, k3, _⟩ := okH_at r [p] hk j (by simpa using hk2)
  have e : (tiles ((p, (-1 : Int)) :: r)).take (j + 1) = [p] ++ (tiles r).take j := by simp [tiles]
  refine ⟨u, k1, by rw [e]; exact k2, k3, (hlt u ?_).1⟩
  have h5 : u ∈ (tiles ((p, (-1 : Int)) :: r)).take (j + 1) := by rw [e]; exact k2
  exact List.mem_of_mem_take h5
theorem nodup_new {l : List Nat} (h : l.Nodup) {k : Nat} (hk : k < l.length) : l.getD k 0 ∉ l.take k := by
  intro hm
  obtain ⟨j, hj, e⟩ := List.getElem_of_mem hm
  rw [List.length_take] at hj
  rw [List.getElem_take] at e
  have := nodup_getD h (i := j) (j := k) (by omega) hk (by simp [List.getD_eq_getElem?_getD, hk, e, show j < l.length by omega])
  omega
/-- The tracks in tiles that routes use, in their order. -/
def usedOf (rs : List Ro) : List Nat := rs.flatMap fun r => (tiles r.2.2).map fun x => x * 8 + r.2.1
end Rt
/- Plain mathematics of routing: every used net is driven, and where its pins begin. -/
namespace Plc
theorem NetOk.uniq {m n N : Nat} {ce : List Ce} {ou : List Nat} (h : NetOk m n N ce ou) {j k : Nat} (hj : j < n) (hk : k < n) (e : (ce.getD j (0, [], 0, false)).1 = (ce.getD k (0, [], 0, false)).1) : j = k := by
  rcases Nat.lt_trichotomy j k with c | c | c
  · have := h.up j k c hk; omega
  · exact c
  · have := h.up k j c hj; omega
end Plc
namespace Go.Proofs.Ytdadokcodklfgaa
open Go.RowKit Go.Deep Cut Plc
end Go.Proofs.Ytdadokcodklfgaa
/- Plain mathematics of routing: the program's way. -/
namespace Rt
theorem Tree.inv {busy : List Bool} {p : Nat} {hs : List Hp} (h : Tree busy p hs) : Inv busy (tiles hs) (start (tiles hs)) := Inv.start (fun t ht => (h.nodup.2 t ht).1) h.nodup.1
/-- From where each tile was reached, as the program has it. -/
def frP (fr : List Int) : List Int := fr.map fun x => if x = -2 then 0 else x
/-- The tiles that were reached, as bits. -/
def Seen (m : Nat) (fr : List Int) : Prop := m < 33554432 ∧ ∀ v, v < 25 → m.testBit v = decide (fr.getD v 0 ≠ -2)
theorem Seen.zero : Seen 0 (List.replicate 25 (-2)) := ⟨by omega, fun v hv => by
  rw [Nat.zero_testBit, List.getD_eq_getElem?_getD, List.getElem?_replicate, if_pos hv]
  simp⟩
theorem Seen.add {m t : Nat} {fr : List Int} {x : Int} (h : Seen m fr) (hl : fr.length = 25) (ht : t < 25) (hx : x ≠ -2) : Seen (m ||| 2 ^ t) (fr.set t x) := ⟨by
  have h2 : 2 ^ t < 2 ^ 25 := Nat.pow_lt_pow_right (by omega) ht
  have h3 := h.1
  exact Nat.or_lt_two_pow (n := 25) (by omega) h2, fun v hv => by
  rw [Nat.testBit_or, Nat.testBit_two_pow, h.2 v hv, set_at _ _ _ _ _ (by rw [hl]; exact ht)]
  by_cases e : v = t
  · subst e
    simp [hx]
  · rw [if_neg e]
    have e2 : ¬ t = v := fun x => e x.symm
    simp [e2]⟩
/-- Tracks stay eight, of 25 tiles each. -/
def Bok (B : List (List Bool)) : Prop := B.length = 8 ∧ ∀ t, t < 8 → (B.getD t []).length = 25
theorem Bok.set {B : List (List Bool)} (h : Bok B) {t : Nat} (ht : t < 8) {b : List Bool} (hb : b.length = 25) : Bok (B.set t b) := ⟨by rw [List.length_set]; exact h.1, fun u hu => by
  rw [set_at _ _ _ _ _ (by rw [h.1]; exact ht)]
  split
  · exact hb
  · exact h.2 u hu⟩
end Rt
namespace Plc
end Plc
namespace Plc
end Plc
/- What the law of Route asks of a set of routes (plain). -/
namespace Rt

theorem tiles_at (hs : List Hp) (j : Nat) : (tiles hs).getD j 0 = (hs.getD j (0, 0)).1 := by
  unfold tiles
  simp only [List.getD_eq_getElem?_getD, List.getElem?_map]
  cases hs[j]? <;> rfl
theorem tiles_snoc {hs : List Hp} {j : Nat} (hj : j < hs.length) : (tiles hs).take (j + 1) = (tiles hs).take j ++ [(hs.getD j (0, 0)).1] := by
  rw [List.take_succ_eq_append_getElem (by unfold tiles; rw [List.length_map]; exact hj)]
  congr 2
  rw [← tiles_at, List.getD_eq_getElem?_getD, List.getElem?_eq_getElem (by unfold tiles; rw [List.length_map]; exact hj)]
  rfl
/-- No wire twice, and every route a tree. -/
structure UOk (rs : List Ro) : Prop where
  nd : (usedOf rs).Nodup
  tr : ∀ r, r ∈ rs → r.2.1 < 8 ∧ ∃ busy p, Tree busy p r.2.2
/-- The wires of the first k routes and of j hops of the next one. -/
def usedTo (rs : List Ro) (k j : Nat) : List Nat := usedOf (rs.take k) ++ ((tiles (rs.getD k (0, 0, [])).2.2).take j).map fun x => x * 8 + (rs.getD k (0, 0, [])).2.1
theorem usedTo_snoc {rs : List Ro} {k j : Nat} (hj : j < (rs.getD k (0, 0, [])).2.2.length) : usedTo rs k (j + 1) = usedTo rs k j ++ [((rs.getD k (0, 0, [])).2.2.getD j (0, 0)).1 * 8 + (rs.getD k (0, 0, [])).2.1] := by
  unfold usedTo
  rw [tiles_snoc hj, List.map_append, List.append_assoc]
  rfl
theorem usedOf_take {rs : List Ro} {k : Nat} (hk : k < rs.length) : usedOf (rs.take (k + 1)) = usedOf (rs.take k) ++ (tiles (rs.getD k (0, 0, [])).2.2).map fun x => x * 8 + (rs.getD k (0, 0, [])).2.1 := by
  rw [List.take_succ_eq_append_getElem hk]
  unfold usedOf
  rw [List.flatMap_append]
  congr 1
  rw [List.getD_eq_getElem?_getD, List.getElem?_eq_getElem hk]
  simp
theorem usedTo_pre {rs : List Ro} {k j : Nat} (hk : k < rs.length) : ∃ r, usedOf rs = usedTo rs k j ++ r := by
  refine ⟨((tiles (rs.getD k (0, 0, [])).2.2).drop j).map (fun x => x * 8 + (rs.getD k (0, 0, [])).2.1) ++ usedOf (rs.drop (k + 1)), ?_⟩
  have e : usedOf rs = usedOf (rs.take (k + 1)) ++ usedOf (rs.drop (k + 1)) := by
    unfold usedOf
    rw [← List.flatMap_append, List.take_append_drop]
  rw [e, usedOf_take hk]
  unfold usedTo
  rw [List.append_assoc, List.append_assoc, ← List.append_assoc (List.map _ _), ← List.map_append, List.take_append_drop]
theorem UOk.len {rs : List Ro} (h : UOk rs) {k j : Nat} (hk : k < rs.length) : (usedTo rs k j).length ≤ 200 := by
  obtain ⟨r, e⟩ := usedTo_pre (j := j) hk
  have h1 : (usedOf rs).length ≤ 200 := nodup_le 200 _ h.nd (fun x hx => by
    unfold usedOf at hx
    rw [List.mem_flatMap] at hx
    obtain ⟨y, hy, hx⟩ := hx
    rw [List.mem_map] at hx
    obtain ⟨t, ht, rfl⟩ := hx
    obtain ⟨h8, busy, p, hT⟩ := h.tr y hy
    have := (hT.nodup.2 t ht).1
    omega)
  rw [e, List.length_append] at h1
  omega
theorem UOk.new {rs : List Ro} (h : UOk rs) {k j : Nat} (hk : k < rs.length) (hj : j < (rs.getD k (0, 0, [])).2.2.length) : (usedTo rs k j).contains (((rs.getD k (0, 0, [])).2.2.getD j (0, 0)).1 * 8 + (rs.getD k (0, 0, [])).2.1) = false := by
  obtain ⟨r, e⟩ := usedTo_pre (j := j + 1) hk
  have h1 := h.nd
  rw [e, usedTo_snoc hj] at h1
  have h2 := (List.nodup_append.1 h1).1
  have h3 := (List.nodup_append.1 h2).2.2
  generalize ((rs.getD k (0, 0, [])).2.2.getD j (0, 0)).1 * 8 + (rs.getD k (0, 0, [])).2.1 = x at *
  rw [Bool.eq_false_iff]
  intro hc
  rw [List.contains_iff_mem] at hc
  exact h3 x hc x (List.mem_singleton.2 rfl) rfl
/-- What the law asks of hop j. -/
def HopOk (hs : List Hp) (j : Nat) : Prop :=
  (hs.getD j (0, 0)).1 < 25 ∧ ((tiles hs).take j).contains (hs.getD j (0, 0)).1 = false ∧ ((j = 0 ∧ (hs.getD j (0, 0)).2 = -1) ∨ (0 < j ∧ ∃ u : Nat, (hs.getD j (0, 0)).2 = (u : Int) ∧ u < 25 ∧ ((tiles hs).take j).contains u = true ∧ (hs.getD j (0, 0)).1 ∈ nbrs u))
theorem Tree.hop {busy : List Bool} {p : Nat} {hs : List Hp} (h : Tree busy p hs) {j : Nat} (hj : j < hs.length) : HopOk hs j := by
  obtain ⟨h0, _, h1⟩ := h.at
  have hl : j < (tiles hs).length := by unfold tiles; rw [List.length_map]; exact hj
  refine ⟨?_, ?_, ?_⟩
  · rw [← tiles_at]; exact (h.nodup.2 _ (memD hl)).1
  · rw [Bool.eq_false_iff]
    intro hc
    rw [List.contains_iff_mem, ← tiles_at] at hc
    exact nodup_new h.nodup.1 hl hc
  · by_cases e : j = 0
    · subst e; rw [h0]; exact .inl ⟨rfl, rfl⟩
    · obtain ⟨u, e1, e2, e3, e4⟩ := h1 j (by omega) hj
      exact .inr ⟨by omega, u, e1, e4, by rw [List.contains_iff_mem]; exact e2, e3⟩
end Rt
