/- Plain mathematics of the program's placer: exchanges, what stands on the tiles, lengths kept up to date. -/
import Derived.Test.YtliaommpnaagiaaGreatWL
namespace Plc
/-- What stands on two tiles, exchanged. -/
def exP (pl : List Nat) (a b : Nat) : List Nat := pl.map fun x => if x = a then b else if x = b then a else x
theorem exP_len (pl : List Nat) (a b : Nat) : (exP pl a b).length = pl.length := by simp [exP]
theorem exP_at {pl : List Nat} {a b j : Nat} (hj : j < pl.length) : (exP pl a b).getD j 0 = if pl.getD j 0 = a then b else if pl.getD j 0 = b then a else pl.getD j 0 := by
  unfold exP
  simp only [List.getD_eq_getElem?_getD, List.getElem?_map]
  rw [List.getElem?_eq_getElem hj]
  rfl
theorem getD_ext {a b : List Nat} (hl : a.length = b.length) (h : ∀ j, j < b.length → a.getD j 0 = b.getD j 0) : a = b := by
  refine List.ext_getElem hl (fun j h1 h2 => ?_)
  have := h j h2
  simpa [List.getD_eq_getElem?_getD, h1, h2] using this
theorem Pl.inj {n : Nat} {pl : List Nat} (h : Pl n pl) {i j : Nat} (hi : i < n) (hj : j < n) (e : pl.getD i 0 = pl.getD j 0) : i = j := by
  rcases Nat.lt_trichotomy i j with c | c | c
  · exact absurd e (h.ne i j c hj)
  · exact c
  · exact absurd e.symm (h.ne j i c hi)
theorem exP_ok {n a b : Nat} {pl : List Nat} (h : Pl n pl) (ha : a ≤ 24) (hb : b ≤ 24) : Pl n (exP pl a b) := by
  refine ⟨by rw [exP_len, h.len], fun j hj => ?_, fun i j hij hj => ?_⟩
  · rw [exP_at (by rw [h.len]; exact hj)]
    have := h.le j hj
    split
    · exact hb
    · split <;> omega
  · rw [exP_at (by rw [h.len]; omega), exP_at (by rw [h.len]; exact hj)]
    have := h.ne i j hij hj
    generalize pl.getD i 0 = x at *
    generalize pl.getD j 0 = y at *
    intro e
    split at e
    · split at e
      · omega
      · split at e <;> omega
    · split at e
      · split at e
        · omega
        · split at e <;> omega
      · split at e
        · omega
        · split at e <;> omega
theorem exP_twice (pl : List Nat) (a b : Nat) : exP (exP pl a b) a b = pl := by
  refine getD_ext (by rw [exP_len, exP_len]) (fun j hj => ?_)
  rw [exP_at (by rw [exP_len]; exact hj), exP_at hj]
  generalize pl.getD j 0 = x
  by_cases h1 : x = a
  · rw [if_pos h1]
    by_cases h2 : b = a
    · rw [if_pos h2]; omega
    · rw [if_neg h2, if_pos rfl]; omega
  · rw [if_neg h1]
    by_cases h2 : x = b
    · rw [if_pos h2, if_pos rfl]; omega
    · rw [if_neg h2, if_neg h1, if_neg h2]
theorem exP_try {n i t : Nat} {pl : List Nat} (h : Pl n pl) (hi : i < n) : exP pl (pl.getD i 0) t = tryP pl i t := by
  refine getD_ext (by rw [exP_len, tryP_len]) (fun j hj => ?_)
  rw [tryP_len] at hj
  rw [exP_at hj, tryP_at hj]
  have hjn : j < n := by rw [← h.len]; exact hj
  by_cases e : j = i
  · subst e
    rw [if_pos rfl, if_pos rfl]
  · rw [if_neg e, if_neg (fun x => e (h.inj hjn hi x))]
/-- What stands on each tile: a cell, or -1. -/
structure OnOk (n : Nat) (pl : List Nat) (on : List Int) : Prop where
  len : on.length = 25
  at_ : ∀ t, t < 25 → (∃ j : Nat, j < n ∧ on.getD t 0 = (j : Int) ∧ pl.getD j 0 = t) ∨ (on.getD t 0 = -1 ∧ ∀ j, j < n → pl.getD j 0 ≠ t)
theorem OnOk.iff {n : Nat} {pl : List Nat} {on : List Int} (h : OnOk n pl on) (hp : Pl n pl) {t j : Nat} (ht : t < 25) (hj : j < n) : on.getD t 0 = (j : Int) ↔ pl.getD j 0 = t := by
  rcases h.at_ t ht with ⟨k, h1, h2, h3⟩ | ⟨h1, h2⟩
  · rw [h2]
    constructor
    · intro e
      obtain rfl : k = j := by omega
      exact h3
    · intro e
      rw [hp.inj h1 hj (by omega)]
  · rw [h1]
    exact ⟨fun e => by omega, fun e => absurd e (h2 j hj)⟩
def swapL (on : List Int) (a b : Nat) : List Int := (on.set a (on.getD b 0)).set b (on.getD a 0)
theorem set_at {α : Type} (l : List α) (d : α) (i j : Nat) (v : α) (hi : i < l.length) : (l.set i v).getD j d = if j = i then v else l.getD j d := by
  simp only [List.getD_eq_getElem?_getD]
  by_cases e : j = i
  · subst e
    rw [List.getElem?_set_self hi, if_pos rfl]
    rfl
  · rw [List.getElem?_set_ne (fun x => e x.symm), if_neg e]
theorem swapL_at {on : List Int} {a b t : Nat} (hl : on.length = 25) (ha : a < 25) (hb : b < 25) : (swapL on a b).getD t 0 = if t = b then on.getD a 0 else if t = a then on.getD b 0 else on.getD t 0 := by
  unfold swapL
  rw [set_at _ _ _ _ _ (by simp; omega), set_at _ _ _ _ _ (by omega)]
theorem OnOk.swap {n a b : Nat} {pl : List Nat} {on : List Int} (h : OnOk n pl on) (hp : Pl n pl) (ha : a < 25) (hb : b < 25) : OnOk n (exP pl a b) (swapL on a b) := by
  have hl : (swapL on a b).length = 25 := by simp [swapL, h.len]
  refine ⟨hl, fun t ht => ?_⟩
  rw [swapL_at h.len ha hb]
  have hx : ∀ j, j < n → (exP pl a b).getD j 0 = if pl.getD j 0 = a then b else if pl.getD j 0 = b then a else pl.getD j 0 := fun j hj => exP_at (by rw [hp.len]; exact hj)
  by_cases e1 : t = b
  · rw [if_pos e1]
    rcases h.at_ a ha with ⟨j, h1, h2, h3⟩ | ⟨h1, h2⟩
    · exact .inl ⟨j, h1, h2, by rw [hx j h1, if_pos h3, e1]⟩
    · refine .inr ⟨h1, fun j hj => ?_⟩
      rw [hx j hj, if_neg (h2 j hj)]
      have := h2 j hj
      split <;> omega
  · rw [if_neg e1]
    by_cases e2 : t = a
    · rw [if_pos e2]
      rcases h.at_ b hb with ⟨j, h1, h2, h3⟩ | ⟨h1, h2⟩
      · exact .inl ⟨j, h1, h2, by rw [hx j h1, if_neg (by omega), if_pos h3, e2]⟩
      · refine .inr ⟨h1, fun j hj => ?_⟩
        rw [hx j hj]
        have := h2 j hj
        split
        · omega
        · omega
    · rw [if_neg e2]
      rcases h.at_ t ht with ⟨j, h1, h2, h3⟩ | ⟨h1, h2⟩
      · exact .inl ⟨j, h1, h2, by rw [hx j h1, if_neg (by omega), if_neg (by omega), h3]⟩
      · refine .inr ⟨h1, fun j hj => ?_⟩
        rw [hx j hj]
        have := h2 j hj
        split
        · omega
        · split <;> omega
/-- A cell, if there is one, to a tile. -/
def updP (pl : List Nat) (c : Int) (t : Nat) : List Nat := if c = -1 then pl else pl.set c.toNat t
theorem updP_len (pl : List Nat) (c : Int) (t : Nat) : (updP pl c t).length = pl.length := by unfold updP; split <;> simp
theorem updP_at {pl : List Nat} {c : Int} {t j : Nat} (hc : c = -1 ∨ (0 ≤ c ∧ c < pl.length)) (_hj : j < pl.length) : (updP pl c t).getD j 0 = if c = (j : Int) then t else pl.getD j 0 := by
  unfold updP
  by_cases e : c = -1
  · rw [if_pos e, if_neg (by omega)]
  · rw [if_neg e]
    rcases hc with hc | ⟨h1, h2⟩
    · exact absurd hc e
    · rw [set_at _ _ _ _ _ (by omega)]
      by_cases e2 : c = (j : Int)
      · rw [if_pos (by omega), if_pos e2]
      · rw [if_neg (by omega), if_neg e2]
theorem OnOk.range {n t : Nat} {pl : List Nat} {on : List Int} (h : OnOk n pl on) (ht : t < 25) : on.getD t 0 = -1 ∨ (0 ≤ on.getD t 0 ∧ on.getD t 0 < (n : Int)) := by
  rcases h.at_ t ht with ⟨j, h1, h2, _⟩ | ⟨h1, _⟩
  · right; omega
  · exact .inl h1
theorem updP_ex {n a b : Nat} {pl : List Nat} {on : List Int} (h : OnOk n pl on) (hp : Pl n pl) (ha : a < 25) (hb : b < 25) : updP (updP pl (on.getD b 0) a) (on.getD a 0) b = exP pl a b := by
  refine getD_ext (by rw [updP_len, updP_len, exP_len]) (fun j hj => ?_)
  rw [exP_len] at hj
  have hjn : j < n := by rw [← hp.len]; exact hj
  rw [updP_at (by rw [updP_len, hp.len]; exact h.range ha) (by rw [updP_len]; exact hj), updP_at (by rw [hp.len]; exact h.range hb) hj, exP_at hj]
  have i1 := h.iff hp ha hjn
  have i2 := h.iff hp hb hjn
  by_cases e1 : pl.getD j 0 = a
  · rw [if_pos (i1.2 e1), if_pos e1]
  · rw [if_neg (fun e => e1 (i1.1 e)), if_neg e1]
    by_cases e2 : pl.getD j 0 = b
    · rw [if_pos (i2.2 e2), if_pos e2]
    · rw [if_neg (fun e => e2 (i2.1 e)), if_neg e2]
/-- Nets measured, one after another. -/
def measAll (pl : List Nat) (ps : List (List Pn)) (L : List Nat) : List Nat → List Nat
  | [] => L
  | v :: r => measAll pl ps (L.set v (lenP pl (ps.getD v []))) r
theorem measAll_len (pl : List Nat) (ps : List (List Pn)) : ∀ (vs L : List Nat), (measAll pl ps L vs).length = L.length
  | [], L => rfl
  | v :: r, L => by
    show (measAll pl ps (L.set v _) r).length = _
    rw [measAll_len pl ps r, List.length_set]
theorem measAll_at (pl : List Nat) (ps : List (List Pn)) {u : Nat} : ∀ (vs L : List Nat), u < L.length → (measAll pl ps L vs).getD u 0 = if u ∈ vs then lenP pl (ps.getD u []) else L.getD u 0
  | [], L, _ => by simp [measAll]
  | v :: r, L, hu => by
    show (measAll pl ps (L.set v _) r).getD u 0 = _
    rw [measAll_at pl ps r _ (by simpa using hu)]
    by_cases h1 : u ∈ r
    · rw [if_pos h1, if_pos (by simp [h1])]
    · rw [if_neg h1]
      by_cases h2 : u = v
      · subst h2
        rw [set_at _ _ _ _ _ hu, if_pos rfl, if_pos (by simp)]
      · rw [if_neg (by simp [h1, h2])]
        simp only [List.getD_eq_getElem?_getD]
        rw [List.getElem?_set_ne (fun x => h2 x.symm)]
theorem measAll_snoc (pl : List Nat) (ps : List (List Pn)) : ∀ (vs L : List Nat) (v : Nat), measAll pl ps L (vs ++ [v]) = (measAll pl ps L vs).set v (lenP pl (ps.getD v []))
  | [], _, _ => rfl
  | _ :: r, _, v => measAll_snoc pl ps r _ v
/-- The nets of a cell, if there is one. -/
def netsOf (ce : List Ce) (c : Int) : List Nat := if c = -1 then [] else (ce.getD c.toNat (0, [], 0, false)).1 :: (ce.getD c.toNat (0, [], 0, false)).2.1
/-- The lengths are right. -/
def Lok (pl : List Nat) (ps : List (List Pn)) (N : Nat) (L : List Nat) : Prop := L.length = N ∧ ∀ u, u < N → L.getD u 0 = lenP pl (ps.getD u [])
theorem lens_ex {m n N a b : Nat} {ce : List Ce} {ou : List Nat} {ps : List (List Pn)} {pl : List Nat} {on : List Int} {L : List Nat} (hk : NetOk m n N ce ou) (hps : Pins ps (pinR m ce ou)) (hp : Pl n pl) (ho : OnOk n pl on) (ha : a < 25) (hb : b < 25) (hL : Lok pl ps N L) :
    Lok (exP pl a b) ps N (measAll (exP pl a b) ps (measAll (exP pl a b) ps L (netsOf ce (on.getD b 0))) (netsOf ce (on.getD a 0))) := by
  refine ⟨by rw [measAll_len, measAll_len]; exact hL.1, fun u hu => ?_⟩
  rw [measAll_at _ _ _ _ (by rw [measAll_len, hL.1]; exact hu), measAll_at _ _ _ _ (by rw [hL.1]; exact hu)]
  by_cases h1 : u ∈ netsOf ce (on.getD a 0)
  · rw [if_pos h1]
  · rw [if_neg h1]
    by_cases h2 : u ∈ netsOf ce (on.getD b 0)
    · rw [if_pos h2]
    · rw [if_neg h2, hL.2 u hu]
      unfold lenP
      congr 1
      refine List.map_congr_left (fun q hq => ?_)
      have cell : ∀ t, t < n → (u = (ce.getD t (0, [], 0, false)).1 ∨ u ∈ (ce.getD t (0, [], 0, false)).2.1) → tileP pl (ceP t) = tileP (exP pl a b) (ceP t) := fun t ht hut => by
        rw [tile_ce, tile_ce, exP_at (by rw [hp.len]; exact ht)]
        have out : ∀ c, c < 25 → u ∉ netsOf ce (on.getD c 0) → pl.getD t 0 ≠ c := fun c hc hn e => by
          have e2 := (ho.iff hp hc ht).2 e
          apply hn
          unfold netsOf
          rw [e2, if_neg (by omega)]
          rcases hut with h | h
          · rw [h]; simp
          · exact List.mem_cons_of_mem _ h
        rw [if_neg (out a ha h1), if_neg (out b hb h2)]
      rcases (hps u q).1 hq with ((⟨t, h3, _, rfl⟩ | ⟨t, h3, h4, rfl⟩) | ⟨t, h3, h4, rfl⟩) | ⟨t, h3, _, _, rfl⟩
      · rw [tile_in, tile_in]
      · exact cell t (by rw [← hk.len]; exact h3) (.inl h4)
      · exact cell t (by rw [← hk.len]; exact h3) (.inr h4)
      · rw [tile_ou, tile_ou]
/-- Sums. -/
theorem sum_set {L : List Nat} {v d : Nat} (hv : v < L.length) : (L.set v d).sum + L.getD v 0 = L.sum + d := by
  induction L generalizing v with
  | nil => simp at hv
  | cons x r ih =>
    cases v with
    | zero => simp; omega
    | succ k =>
      have := ih (v := k) (by simpa using hv)
      simp only [List.set_cons_succ, List.sum_cons, List.getD_cons_succ]
      omega
theorem sum_take (L : List Nat) : ∀ k, k ≤ L.length → sumB (fun u => L.getD u 0) k = (L.take k).sum
  | 0, _ => by simp [sumB]
  | k + 1, hk => by
    show sumB _ k + L.getD k 0 = _
    have hk' : k < L.length := by omega
    rw [sum_take L k (by omega), List.take_succ_eq_append_getElem hk', List.sum_append, List.sum_singleton, List.getD_eq_getElem?_getD, List.getElem?_eq_getElem hk']
    rfl
theorem sumB_congr {d e : Nat → Nat} : ∀ k, (∀ u, u < k → d u = e u) → sumB d k = sumB e k
  | 0, _ => rfl
  | k + 1, h => by
    show sumB d k + d k = sumB e k + e k
    rw [sumB_congr k (fun u hu => h u (by omega)), h k (by omega)]
theorem sum_le {b : Nat} : ∀ (L : List Nat), (∀ x, x ∈ L → x ≤ b) → L.sum ≤ b * L.length
  | [], _ => by simp
  | x :: r, h => by
    have h1 := sum_le r (fun y hy => h y (by simp [hy]))
    have h2 := h x (by simp)
    simp only [List.sum_cons, List.length_cons, Nat.mul_succ]
    omega
theorem Lok.cost {m n N : Nat} {ce : List Ce} {ou : List Nat} (h : NetOk m n N ce ou) {ps : List (List Pn)} (hps : Pins ps (pinR m ce ou)) {pl : List Nat} (hp : Pl n pl) {L : List Nat} (hL : Lok pl ps N L) : L.sum = costP m (N - 1) ou ce pl := by
  rw [← cost_sum h hps hp, ← sumB_congr N hL.2, sum_take L N (by rw [hL.1]; exact Nat.le_refl _), List.take_of_length_le (by rw [hL.1]; exact Nat.le_refl _)]
theorem len8 {m n N : Nat} {ce : List Ce} {ou : List Nat} (h : NetOk m n N ce ou) {ps : List (List Pn)} (hps : Pins ps (pinR m ce ou)) {pl : List Nat} (hp : Pl n pl) (u : Nat) : lenP pl (ps.getD u []) ≤ 8 :=
  dist_le (fun x hx => by
    obtain ⟨q, hq, rfl⟩ := List.mem_map.1 hx
    exact tileP_le (pinR_ok h ((hps u q).1 hq)) hp.le)
end Plc
