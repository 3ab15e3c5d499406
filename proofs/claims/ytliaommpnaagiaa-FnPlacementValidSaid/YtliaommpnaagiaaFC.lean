/- What the law FnCells asks of cells; the comparison sameCells; Step of a valid circuit. -/
import Derived.Test.YtliaommpnaagiaaNS
import Derived.Test.YtliaommpnaagiaaF14
import Derived.Test.YtliaommpnaagiaaR8
import Derived.Test.YtliaommpnaagiaaZ
import Derived.Test.YtliaommpnaagiaaYs
import Derived.Deep.DeepCutAuto
namespace Cut
open Opt
theorem luts_up {f : Nat} {gs : List G} {bs : Cs} {m : Nat} : ∀ k, ((lutsTo f gs bs m k).map (·.1)).Pairwise (· < ·)
  | 0 => List.Pairwise.nil
  | k + 1 => by
    have ih := luts_up (f := f) (gs := gs) (bs := bs) (m := m) k
    unfold lutsTo
    split
    · rw [List.map_append, List.pairwise_append]
      refine ⟨ih, List.pairwise_singleton _ _, fun a ha b hb => ?_⟩
      simp at hb
      subst hb
      obtain ⟨e, he, rfl⟩ := List.mem_map.1 ha
      obtain ⟨j, h1, _, rfl⟩ := luts_form k e he
      show f + j < f + k
      omega
    · exact ih
theorem luts_ge {f : Nat} {gs : List G} {bs : Cs} {m : Nat} (k : Nat) : ∀ e, e ∈ lutsTo f gs bs m k → f ≤ e.1 := fun e he => by
  obtain ⟨j, _, _, rfl⟩ := luts_form k e he
  exact Nat.le_add_right f j
end Cut
namespace Go.Proofs.Ytliaommpnaagiaa
open Go.RowKit Go.Deep Cut

/-- The nets of the cells ascend. -/
theorem cells_up {i : Int} {ns : List Int} {gs : List (Int × Int)} {os : List Int} (hv : Circ.validB i ns gs os = true) : ∀ j k, j < k → k < (cellsV i ns gs os).length → ((cellsV i ns gs os).getD j (0, [], 0, false)).1 < ((cellsV i ns gs os).getD k (0, [], 0, false)).1 := fun j k hjk hk => by
  obtain ⟨e1, e2, e3⟩ := cellsV_at hv
  obtain ⟨h0, h1, h2, h3, h4⟩ := Circ.valid_within hv
  have hme : mapV i ns gs os = lutsV (Opt.fst i ns) (Opt.natG gs) (Opt.natL ns) (Opt.natL os) := by unfold mapV; rw [if_pos hv]
  have hge : ∀ j, j < (mapV i ns gs os).length → Opt.fst i ns ≤ ((mapV i ns gs os).getD j (0, [], 0)).1 := fun j hj => by
    have hm := memD0 (d := (0, [], 0)) hj
    rw [hme] at hm ⊢
    exact luts_ge _ _ hm
  have hff : Opt.fst i ns = 1 + i.toNat + ns.length := by unfold Opt.fst; omega
  by_cases hkr : k < ns.length
  · rw [e2 k hkr, e2 j (by omega)]
    show 1 + i.toNat + j < 1 + i.toNat + k
    omega
  · obtain ⟨q, rfl⟩ : ∃ q, k = ns.length + q := ⟨k - ns.length, by omega⟩
    have hq : q < (mapV i ns gs os).length := by omega
    have h5 := hge q hq
    by_cases hjr : j < ns.length
    · rw [e3 q hq, e2 j hjr]
      show 1 + i.toNat + j < ((mapV i ns gs os).getD q (0, [], 0)).1
      omega
    · obtain ⟨p, rfl⟩ : ∃ p, j = ns.length + p := ⟨j - ns.length, by omega⟩
      have hp : p < (mapV i ns gs os).length := by omega
      rw [e3 q hq, e3 p hp]
      show ((mapV i ns gs os).getD p (0, [], 0)).1 < ((mapV i ns gs os).getD q (0, [], 0)).1
      have h6 : ((mapV i ns gs os).map (·.1)).Pairwise (· < ·) := by rw [hme]; exact luts_up _
      have h7 := List.pairwise_iff_getElem.1 h6 p q (by simpa using hp) (by simpa using hq) (by omega)
      simpa [List.getD_eq_getElem?_getD, hp, hq] using h7
/-- No net is driven twice. -/
theorem nets_new {ce : List Cl} (h : ∀ j k, j < k → k < ce.length → (ce.getD j (0, [], 0, false)).1 < (ce.getD k (0, [], 0, false)).1) {k : Nat} (hk : k < ce.length) : ((ce.take k).map (·.1)).contains (ce.getD k (0, [], 0, false)).1 = false := by
  rw [Bool.eq_false_iff]
  intro hc
  obtain ⟨e, he, e1⟩ := List.mem_map.1 (List.contains_iff_mem.1 hc)
  obtain ⟨j, hj⟩ := List.mem_iff_getElem?.1 he
  have hl := (List.getElem?_eq_some_iff.1 hj).1
  rw [List.length_take] at hl
  rw [List.getElem?_take, if_pos (by omega)] at hj
  have e2 : ce.getD j (0, [], 0, false) = e := by rw [List.getD_eq_getElem?_getD, hj]; rfl
  have := h j k (by omega) hk
  rw [e2] at this
  omega
theorem nets_snoc {ce : List Cl} {k : Nat} (hk : k < ce.length) : (ce.take (k + 1)).map (·.1) = (ce.take k).map (·.1) ++ [(ce.getD k (0, [], 0, false)).1] := by
  rw [List.take_succ_eq_append_getElem hk, List.map_append]
  simp [List.getD_eq_getElem?_getD, hk]
/-- A latch's table computes its next-state literal. -/
theorem reg_sem {V : List Bool} (h0 : V.getD 0 false = false) (l : Nat) : (nextT l).testBit (num ((nextY l).map fun u => V.getD u false)) = Circ.litV V (l : Int) := by
  have e1 : ((l : Int) / 2).toNat = l / 2 := by omega
  unfold Circ.litV
  rw [e1]
  by_cases h : l / 2 = 0
  · have a : nextY l = [] := by unfold nextY; rw [if_pos h]
    have b : nextT l = l % 2 := by unfold nextT; rw [if_pos h]
    rw [a, b, h, h0, List.map_nil]
    have n0 : num [] = 0 := by simp [num]
    rw [n0]
    rcases Nat.mod_two_eq_zero_or_one l with e | e
    · have e2 : ((l : Int) % 2 == 1) = false := by simp; omega
      rw [e2, e]; decide
    · have e2 : ((l : Int) % 2 == 1) = true := by simp; omega
      rw [e2, e]; decide
  · have a : nextY l = [l / 2] := by unfold nextY; rw [if_neg h]
    have b : nextT l = 2 - l % 2 := by unfold nextT; rw [if_neg h]
    rw [a, b, List.map_cons, List.map_nil]
    have n1 : ∀ c : Bool, num [c] = if c then 1 else 0 := fun c => by simp [num]
    rw [n1]
    generalize V.getD (l / 2) false = c
    rcases Nat.mod_two_eq_zero_or_one l with e | e
    · have e2 : ((l : Int) % 2 == 1) = false := by simp; omega
      rw [e2, e]; cases c <;> decide
    · have e2 : ((l : Int) % 2 == 1) = true := by simp; omega
      rw [e2, e]; cases c <;> decide
theorem cellsV_bd3 (i : Int) (ns : List Int) (gs : List (Int × Int)) (os : List Int) : (cellsV i ns gs os).length ≤ 17 ∧ ∀ k, k < (cellsV i ns gs os).length → ((cellsV i ns gs os).getD k (0, [], 0, false)).1 ≤ 1000 ∧ ((cellsV i ns gs os).getD k (0, [], 0, false)).2.1.length ≤ 3 ∧ ((cellsV i ns gs os).getD k (0, [], 0, false)).2.2.1 ≤ 1000 := by
  cases hv : Circ.validB i ns gs os
  · have e : cellsV i ns gs os = [] := by unfold cellsV; rw [hv, if_neg (by simp)]
    rw [e]; exact ⟨by simp, fun k hk => absurd hk (by simp)⟩
  · obtain ⟨h0, h1, h2, h3, h4⟩ := Circ.valid_within hv
    have hme : mapV i ns gs os = lutsV (Opt.fst i ns) (Opt.natG gs) (Opt.natL ns) (Opt.natL os) := by unfold mapV; rw [if_pos hv]
    obtain ⟨b1, b2⟩ := mapV_bd i ns gs os
    have e : cellsV i ns gs os = regsTo (1 + i.toNat) (Opt.natL ns) ns.length ++ lutsC (mapV i ns gs os) := by unfold cellsV; rw [if_pos hv, hme]
    generalize mapV i ns gs os = es at *
    have hl : (cellsV i ns gs os).length = ns.length + es.length := by rw [e, List.length_append, regsTo_len, lutsC_len]
    refine ⟨by omega, fun k hk => ?_⟩
    by_cases hkr : k < ns.length
    · rw [e, Circ.getD_app_lt _ _ _ _ (by rw [regsTo_len]; exact hkr), regsTo_at _ _ _ _ hkr]
      have y1 := nextY_len ((Opt.natL ns).getD k 0)
      have y2 := nextT_le ((Opt.natL ns).getD k 0)
      exact ⟨by show 1 + i.toNat + k ≤ 1000; omega, by show (nextY _).length ≤ 3; omega, by show nextT _ ≤ 1000; omega⟩
    · obtain ⟨j, rfl⟩ : ∃ j, k = ns.length + j := ⟨k - ns.length, by omega⟩
      have hj : j < es.length := by omega
      have eg : (cellsV i ns gs os).getD (ns.length + j) (0, [], 0, false) = ((es.getD j (0, [], 0)).1, (es.getD j (0, [], 0)).2.1, (es.getD j (0, [], 0)).2.2, false) := by
        rw [← lutsC_at es j hj, e]
        simp only [List.getD_eq_getElem?_getD]
        rw [List.getElem?_append_right (by rw [regsTo_len]; omega), regsTo_len, Nat.add_sub_cancel_left]
      rw [eg]
      have := b2 j hj
      exact ⟨by show (es.getD j (0, [], 0)).1 ≤ 1000; omega, by show (es.getD j (0, [], 0)).2.1.length ≤ 3; omega, by show (es.getD j (0, [], 0)).2.2 ≤ 1000; omega⟩
theorem cellsV_bdx (i : Int) (ns : List Int) (gs : List (Int × Int)) (os : List Int) : (cellsV i ns gs os).length ≤ 17 ∧ ∀ k, k < (cellsV i ns gs os).length → ((cellsV i ns gs os).getD k (0, [], 0, false)).1 ≤ 1000 ∧ ((cellsV i ns gs os).getD k (0, [], 0, false)).2.1.length ≤ 1000 ∧ ((cellsV i ns gs os).getD k (0, [], 0, false)).2.2.1 ≤ 1000 :=
  ⟨(cellsV_bd3 i ns gs os).1, fun k hk => by have := (cellsV_bd3 i ns gs os).2 k hk; omega⟩
theorem icells_w (i : Int) (nA gA oA : Option Addr) (nc gc oc : Nat) (ns : List Int) (gs : List (Int × Int)) (os : List Int) (w : World) (hc : CircAt w w.heap.size nA gA oA ns gs os) (hgc : gs.length ≤ gc) :
    Calls Try.prog 18 #[.agg #[.int .i64 i, .slice nA ns.length nc, .slice gA gs.length gc, .slice oA os.length oc]] w fun e w' => ∃ (A : Option Addr) (cap : Nat), e = .returned (.slice A (cellsV i ns gs os).length cap) ∧ CeIn w' w'.heap.size A (cellsV i ns gs os) ∧ Below w.heap.size w w' := by
  cases hv : Circ.validB i ns gs os
  · refine (icells_f i nA gA oA nc gc oc ns gs os w hv hc).mono ?_
    rintro e w' ⟨⟨A, cap, rfl⟩, hb⟩
    rw [cellsV_f hv]
    exact ⟨A, cap, rfl, fun k hk => absurd hk (by simp), hb⟩
  · refine (icells_t i nA gA oA nc gc oc ns gs os w hv hc hgc).mono ?_
    rintro e w' ⟨g, cap, hs, rfl, hu, _, hb⟩
    exact ⟨some ⟨g, 0, none⟩, cap, rfl, hu.read, hb⟩
theorem scells_v (i : Int) (nA gA oA : Option Addr) (nc gc oc : Nat) (ns : List Int) (gs : List (Int × Int)) (os : List Int) (w : World) (hc : CircAt w w.heap.size nA gA oA ns gs os) :
    Calls Try.prog 32 #[.agg #[.int .i64 i, .slice nA ns.length nc, .slice gA gs.length gc, .slice oA os.length oc]] w fun e w' => ∃ (A : Option Addr) (cap : Nat), e = .returned (.slice A (cellsV i ns gs os).length cap) ∧ CeIn w' w'.heap.size A (cellsV i ns gs os) ∧ Below w.heap.size w w' := by
  cases hv : Circ.validB i ns gs os
  · refine (scells_f i nA gA oA nc gc oc ns gs os w hc hv).mono ?_
    rintro e w' ⟨⟨A, cap, rfl⟩, hb⟩
    rw [cellsV_f hv]
    exact ⟨A, cap, rfl, fun k hk => absurd hk (by simp), hb⟩
  · refine (scells_t i nA gA oA nc gc oc ns gs os w hc hv).mono ?_
    rintro e w' ⟨g, cap, hs, rfl, hu, hb⟩
    exact ⟨some ⟨g, 0, none⟩, cap, rfl, hu.read, hb⟩
end Go.Proofs.Ytliaommpnaagiaa
