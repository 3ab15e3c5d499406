/- The sinks of a net: plain mathematics, and the contracts of both sides. -/
import Derived.Test.YtliaommpnaagiaaSC
import Derived.Test.YtliaommpnaagiaaCT
namespace Cut
open Opt
/-- Leaves of cuts are not constant false. -/
theorem cutsTo_pos {f : Nat} {gs : List G} (hf : 0 < f) (hg : ordered f gs) : ∀ k, k ≤ gs.length → ∀ v, v < f + k → ∀ x, x ∈ (cutsTo f gs k).getD v [] → ∀ l, l ∈ x → 0 < l
  | 0, _, v, hv => by
    have e : (cutsTo f gs 0).getD v [] = [own v] := by
      simp [cutsTo, List.getD_eq_getElem?_getD]
      rw [List.getElem?_eq_getElem (by simpa using hv)]
      simp
    rw [e]
    intro x hx l hm
    simp at hx
    subst hx
    unfold Cut.own at hm
    split at hm
    · cases hm
    · simp at hm; omega
  | k + 1, hk, v, hv => by
    have ih := cutsTo_pos hf hg k (by omega)
    obtain ⟨h1, h2⟩ := hg k hk
    by_cases e : v < f + k
    · have := cutsTo_pre f gs k 1 v e
      rw [this]
      exact ih v e
    · obtain rfl : v = f + k := by omega
      have e1 : (cutsTo f gs (k + 1)).getD (f + k) [] = uni ((cutsTo f gs k).getD ((at_ gs k).1 / 2) []) ((cutsTo f gs k).getD ((at_ gs k).2 / 2) []) ++ [[f + k]] := by
        show (cutsTo f gs k ++ [_]).getD (f + k) [] = _
        exact Circ.getD_app_at _ _ _ _ (by rw [cutsTo_len])
      rw [e1]
      intro x hx l hm
      rcases List.mem_append.1 hx with h | h
      · refine uni_all (P := fun x => ∀ l, l ∈ x → 0 < l) (fun a ha b hb _ l hl => ?_) x h l hm
        rcases (merge_mem _ _ _).1 hl with h | h
        · exact ih _ h1 a ha l h
        · exact ih _ h2 b hb l h
      · simp at h
        subst h
        simp at hm
        omega
theorem best_pos {f : Nat} {gs : List G} (hf : 0 < f) (hg : ordered f gs) {k : Nat} (hk : k < gs.length) : ∀ l, l ∈ (bests f gs).getD (f + k) [] → 0 < l := fun l hl => by
  have h := bests_mem hf hg hk
  have e : (cuts f gs).getD (f + k) [] = unis f gs k ++ [[f + k]] := cuts_gate f gs k hk hg
  exact cutsTo_pos hf hg gs.length (Nat.le_refl _) (f + k) (by omega) _ (by show _ ∈ (cuts f gs).getD (f + k) []; rw [e]; exact List.mem_append_left _ h) l hl
end Cut
namespace Go.Proofs.Ytliaommpnaagiaa
open Go.RowKit Go.Deep Cut

/-- The cells of a valid circuit, one by one. -/
theorem cellsV_at {i : Int} {ns : List Int} {gs : List (Int × Int)} {os : List Int} (hv : Circ.validB i ns gs os = true) : (cellsV i ns gs os).length = ns.length + (mapV i ns gs os).length ∧ (∀ k, k < ns.length → (cellsV i ns gs os).getD k (0, [], 0, false) = (1 + i.toNat + k, nextY ((Opt.natL ns).getD k 0), nextT ((Opt.natL ns).getD k 0), true)) ∧ ∀ j, j < (mapV i ns gs os).length → (cellsV i ns gs os).getD (ns.length + j) (0, [], 0, false) = (((mapV i ns gs os).getD j (0, [], 0)).1, ((mapV i ns gs os).getD j (0, [], 0)).2.1, ((mapV i ns gs os).getD j (0, [], 0)).2.2, false) := by
  have hme : mapV i ns gs os = lutsV (Opt.fst i ns) (Opt.natG gs) (Opt.natL ns) (Opt.natL os) := by unfold mapV; rw [if_pos hv]
  have e : cellsV i ns gs os = regsTo (1 + i.toNat) (Opt.natL ns) ns.length ++ lutsC (mapV i ns gs os) := by unfold cellsV; rw [if_pos hv, hme]
  refine ⟨by rw [e, List.length_append, regsTo_len, lutsC_len], fun k hk => ?_, fun j hj => ?_⟩
  · rw [e, Circ.getD_app_lt _ _ _ _ (by rw [regsTo_len]; exact hk), regsTo_at _ _ _ _ hk]
  · rw [← lutsC_at _ j hj, e]
    simp only [List.getD_eq_getElem?_getD]
    rw [List.getElem?_append_right (by rw [regsTo_len]; omega), regsTo_len, Nat.add_sub_cancel_left]
theorem cellsV_f {i : Int} {ns : List Int} {gs : List (Int × Int)} {os : List Int} (hv : Circ.validB i ns gs os = false) : cellsV i ns gs os = [] := by unfold cellsV; rw [hv, if_neg (by simp)]
/-- The inputs of the cells. -/
theorem cellsV_in {i : Int} {ns : List Int} {gs : List (Int × Int)} {os : List Int} (hv : Circ.validB i ns gs os = true) : ∀ k, k < (cellsV i ns gs os).length → Once ((cellsV i ns gs os).getD k (0, [], 0, false)).2.1 ∧ ∀ l, l ∈ ((cellsV i ns gs os).getD k (0, [], 0, false)).2.1 → 0 < l ∧ l < Opt.fst i ns + gs.length := fun k hk => by
  obtain ⟨e1, e2, e3⟩ := cellsV_at hv
  obtain ⟨k0, k1⟩ := Opt.natC_ok hv
  by_cases hkr : k < ns.length
  · rw [e2 k hkr]
    have hb := Circ.litsOk_get (Circ.valid_next hv) hkr
    obtain ⟨h0, h1, h2, h3, h4⟩ := Circ.valid_within hv
    have en := natL_get ns k hkr (by omega)
    have hff : (Opt.fst i ns : Int) = 1 + i + ns.length := by unfold Opt.fst; omega
    generalize (Opt.natL ns).getD k 0 = l at *
    show Once (nextY l) ∧ ∀ m, m ∈ nextY l → 0 < m ∧ m < Opt.fst i ns + gs.length
    unfold nextY
    split
    · exact ⟨fun j k hj => by simp at hj, fun m hm => by cases hm⟩
    · refine ⟨fun j k hj hk _ => by simp at hj hk; omega, fun m hm => ?_⟩
      simp at hm
      subst hm
      omega
  · obtain ⟨j, rfl⟩ : ∃ j, k = ns.length + j := ⟨k - ns.length, by omega⟩
    have hj : j < (mapV i ns gs os).length := by omega
    rw [e3 j hj]
    have hme : mapV i ns gs os = lutsV (Opt.fst i ns) (Opt.natG gs) (Opt.natL ns) (Opt.natL os) := by unfold mapV; rw [if_pos hv]
    rw [hme] at hj ⊢
    obtain ⟨t, h1, _, h3⟩ := luts_form (Opt.natG gs).length _ (memD0 (d := (0, [], 0)) hj)
    have h4 : (lutsV (Opt.fst i ns) (Opt.natG gs) (Opt.natL ns) (Opt.natL os)).getD j (0, [], 0) = lutOf (Opt.fst i ns) (Opt.natG gs) (bests (Opt.fst i ns) (Opt.natG gs)) (Opt.fst i ns + t) := h3
    rw [h4]
    show Once ((bests _ _).getD (Opt.fst i ns + t) []) ∧ ∀ l, l ∈ (bests _ _).getD (Opt.fst i ns + t) [] → _
    refine ⟨best_once k0 k1.ord _, fun l hl => ⟨best_pos k0 k1.ord h1 l hl, ?_⟩⟩
    have := best_lt k0 k1.ord _ l hl
    rw [Opt.natG_len] at h1
    omega
/-- How great the cells are. -/
theorem cellsV_lim {i : Int} {ns : List Int} {gs : List (Int × Int)} {os : List Int} (hv : Circ.validB i ns gs os = true) : (cellsV i ns gs os).length ≤ 17 ∧ ∀ k, k < (cellsV i ns gs os).length → ((cellsV i ns gs os).getD k (0, [], 0, false)).2.1.length ≤ 1000 := by
  obtain ⟨e1, e2, e3⟩ := cellsV_at hv
  obtain ⟨h0, h1, h2, h3, h4⟩ := Circ.valid_within hv
  obtain ⟨b1, b2⟩ := mapV_bd i ns gs os
  refine ⟨by omega, fun k hk => ?_⟩
  by_cases hkr : k < ns.length
  · rw [e2 k hkr]
    have := nextY_len ((Opt.natL ns).getD k 0)
    show (nextY _).length ≤ 1000
    omega
  · obtain ⟨j, rfl⟩ : ∃ j, k = ns.length + j := ⟨k - ns.length, by omega⟩
    have hj : j < (mapV i ns gs os).length := by omega
    rw [e3 j hj]
    have := b2 j hj
    show ((mapV i ns gs os).getD j (0, [], 0)).2.1.length ≤ 1000
    omega
/-- Whether a cell uses a net, and the first k cells' sinks. -/
def usesB (net : Int) (e : Cl) : Bool := (Opt.intL e.2.1).contains net
def sinksTo (net : Int) (ce : List Cl) : Nat → List Nat
  | 0 => []
  | k + 1 => if usesB net (ce.getD k (0, [], 0, false)) = true then sinksTo net ce k ++ [k] else sinksTo net ce k
theorem sinks_len (net : Int) (ce : List Cl) : ∀ k, (sinksTo net ce k).length ≤ k
  | 0 => Nat.le_refl _
  | k + 1 => by
    have := sinks_len net ce k
    unfold sinksTo
    split
    · simp; omega
    · omega
theorem sinks_mem (net : Int) (ce : List Cl) : ∀ k j, j ∈ sinksTo net ce k ↔ j < k ∧ usesB net (ce.getD j (0, [], 0, false)) = true
  | 0, j => by simp [sinksTo]
  | k + 1, j => by
    have ih := sinks_mem net ce k j
    unfold sinksTo
    split
    · next h =>
      rw [List.mem_append, ih, List.mem_singleton]
      constructor
      · rintro (⟨a, b⟩ | rfl)
        · exact ⟨by omega, b⟩
        · exact ⟨by omega, h⟩
      · rintro ⟨a, b⟩
        by_cases e : j = k
        · exact .inr e
        · exact .inl ⟨by omega, b⟩
    · next h =>
      rw [ih]
      constructor
      · rintro ⟨a, b⟩; exact ⟨by omega, b⟩
      · rintro ⟨a, b⟩
        by_cases e : j = k
        · subst e; exact absurd b h
        · exact ⟨by omega, b⟩
theorem sinks_up (net : Int) (ce : List Cl) : ∀ k, (sinksTo net ce k).Pairwise (· < ·)
  | 0 => List.Pairwise.nil
  | k + 1 => by
    have ih := sinks_up net ce k
    unfold sinksTo
    split
    · rw [List.pairwise_append]
      refine ⟨ih, List.pairwise_singleton _ _, fun a ha b hb => ?_⟩
      simp at hb
      subst hb
      exact ((sinks_mem net ce b a).1 ha).1
    · exact ih
/-- The sinks of any circuit. -/
def sinksV (net : Int) (i : Int) (ns : List Int) (gs : List (Int × Int)) (os : List Int) : List Nat := sinksTo net (cellsV i ns gs os) (cellsV i ns gs os).length

theorem ret_slice {A : Option Addr} {l l' c : Nat} (h : l = l') : Ending.returned (.slice A l c) = .returned (.slice A l' c) := by rw [h]

theorem containsZ (A : Option Addr) (m c B : Nat) (lv : List Nat) (net : Int) (w : World) (h : IntsAt w B A (Opt.intL lv)) (hm : lv.length = m) (hb : m ≤ 1000) :
    Calls Try.prog 66 #[.slice A m c, .int .i64 net] w fun e w' => e = .returned (.bool ((Opt.intL lv).contains net)) ∧ w = w' := by
  subst hm
  cases lv with
  | nil => exact (contains_none A c net w).mono (fun e w' ⟨h1, h2⟩ => ⟨h1, h2.symm⟩)
  | cons a r =>
    obtain ⟨b, off, rfl, _, _⟩ := h 0 (by rw [Opt.intL_len]; simp)
    have e : (((Opt.intL (a :: r)).take (a :: r).length).contains net) = (Opt.intL (a :: r)).contains net := by
      rw [List.take_of_length_le (by rw [Opt.intL_len]; exact Nat.le_refl _)]
    rw [← e]
    exact (contains_any b off _ c (Opt.intL (a :: r)) net w (by rw [Opt.intL_len]; exact Nat.le_refl _) (by omega) (fun j hj => by
      obtain ⟨b', off', e', _, hc⟩ := h j hj
      injection e' with e'
      injection e' with e1 e2
      subst e1 e2
      exact hc)).mono (fun e w' ⟨h1, h2⟩ => ⟨h1, h2.symm⟩)

/-- The model's inner loop: what has been found in one cell. -/
def found (net : Int) (k : Nat) (y : List Nat) (j : Nat) : List Nat := if (Opt.intL (y.take j)).contains net = true then [k] else []
theorem found_none {net : Int} {k : Nat} {y : List Nat} {j : Nat} (hj : j < y.length) (h : ((y.getD j 0 : Nat) : Int) ≠ net) : found net k y (j + 1) = found net k y j := by
  unfold found
  have e : (Opt.intL (y.take (j + 1))).contains net = (Opt.intL (y.take j)).contains net := by
    rw [List.take_succ_eq_append_getElem hj]
    unfold Opt.intL
    rw [List.map_append, Bool.eq_iff_iff, List.contains_iff_mem, List.contains_iff_mem, List.mem_append]
    have hn : net ≠ ((y[j] : Nat) : Int) := fun e => h (by rw [e]; simp [List.getD_eq_getElem?_getD, hj])
    simp [hn]
  rw [e]
theorem found_one {net : Int} {k : Nat} {y : List Nat} {j : Nat} (ho : Once y) (hj : j < y.length) (h : ((y.getD j 0 : Nat) : Int) = net) : found net k y j = [] ∧ found net k y (j + 1) = [k] := by
  refine ⟨?_, ?_⟩
  · unfold found
    rw [if_neg]
    intro hc
    rw [List.contains_iff_mem] at hc
    unfold Opt.intL at hc
    obtain ⟨z, hz, e⟩ := List.mem_map.1 hc
    obtain ⟨p, hp⟩ := List.mem_iff_getElem?.1 hz
    have hpl := (List.getElem?_eq_some_iff.1 hp).1
    rw [List.length_take] at hpl
    rw [List.getElem?_take, if_pos (by omega)] at hp
    have e2 : y.getD p 0 = y.getD j 0 := by
      rw [List.getD_eq_getElem?_getD, hp]
      show z = _
      omega
    have := ho p j (by omega) hj e2
    omega
  · unfold found
    rw [if_pos]
    rw [List.contains_iff_mem, List.take_succ_eq_append_getElem hj]
    unfold Opt.intL
    rw [List.map_append, List.mem_append]
    refine .inr ?_
    rw [← h]
    simp [List.getD_eq_getElem?_getD, hj]

end Go.Proofs.Ytliaommpnaagiaa
