/- What the law of every used net asks of a set of routes. -/
import Derived.Test.YtliedgaefgomjaaGreatRR
namespace Go.Proofs.YtliedgaefgomjaaGreat
open Go.RowKit Go.Deep Cut Plc Rt

/-- How many of the first k routes are of a net. -/
def flR (rs : List Ro) (net k : Nat) : Nat := ((rs.take k).filter fun r => r.1 == net).length
theorem flR_zero (rs : List Ro) (net : Nat) : flR rs net 0 = 0 := rfl
theorem flR_step {rs : List Ro} {net k : Nat} (hk : k < rs.length) : flR rs net (k + 1) = flR rs net k + if (rs.getD k (0, 0, [])).1 = net then 1 else 0 := by
  unfold flR
  rw [List.take_succ_eq_append_getElem hk, List.filter_append, List.length_append]
  congr 1
  rw [List.getD_eq_getElem?_getD, List.getElem?_eq_getElem hk]
  show (List.filter (fun r : Ro => r.1 == net) [rs[k]]).length = if rs[k].1 = net then 1 else 0
  by_cases h : rs[k].1 = net
  · rw [if_pos h, List.filter_cons_of_pos (by simpa using h)]; rfl
  · rw [if_neg h, List.filter_cons_of_neg (by simpa using h)]; rfl
theorem flR_le (rs : List Ro) (net k : Nat) : flR rs net k ≤ k := by
  unfold flR
  exact Nat.le_trans (List.length_filter_le _ _) (by rw [List.length_take]; omega)
theorem flR_all (rs : List Ro) (net : Nat) : flR rs net rs.length = (rs.filter fun r => r.1 == net).length := by
  unfold flR
  rw [List.take_of_length_le (Nat.le_refl _)]
/-- The law's two facts. -/
structure AllOk (m N : Nat) (ou : List Nat) (ce : List Cl) (p : List Nat) (rs : List Ro) : Prop where
  cnt : ∀ net, net < N → flR rs net rs.length = if 0 < net ∧ 0 < (snkP ou ce p net).length then 1 else 0
  pin : ∀ k, k < rs.length → (∀ x, x ∈ snkP ou ce p (rs.getD k (0, 0, [])).1 → (tiles (rs.getD k (0, 0, [])).2.2).contains x = true) ∧ 0 < (rs.getD k (0, 0, [])).2.2.length ∧ (tiles (rs.getD k (0, 0, [])).2.2).getD 0 0 = srcN ce p (rs.getD k (0, 0, [])).1 ce.length ∧ 1 ≤ (rs.getD k (0, 0, [])).1
theorem routesZ_all {i : Int} {ns : List Int} {gs : List (Int × Int)} {os ps : List Int} {rs : List Ro} (h : routesZ i ns gs os ps = some rs) : AllOk i.toNat (Opt.fst i ns + gs.length) (Opt.natL os) (cellsV i ns gs os) (Opt.natL ps) rs := by
  obtain ⟨hv, B, hk⟩ := routesZ_ok h
  obtain ⟨hvv, hpp, _⟩ := placeB_inv hv
  have hok := netOk_of hvv
  have hdr : ∀ v, 1 ≤ v → snkP (Opt.natL os) (cellsV i ns gs os) (Opt.natL ps) v ≠ [] → i.toNat < v → ∃ k, k < (cellsV i ns gs os).length ∧ ((cellsV i ns gs os).getD k (0, [], 0, false)).1 = v := fun v hv1 hs hmv => drive hvv hmv (by
    obtain ⟨x, hx⟩ := List.exists_mem_of_ne_nil _ hs
    rcases (snkP_mem _ _ _ v x).1 hx with ⟨j, h1, h2, _⟩ | ⟨o, h1, h2, _⟩
    · exact .inl ⟨j, h1, h2⟩
    · refine .inr ⟨(Opt.natL os).getD o 0, ?_, h2⟩
      rw [List.getD_eq_getElem?_getD, List.getElem?_eq_getElem h1]
      exact List.getElem_mem h1)
  refine ⟨fun net hn => ?_, fun k hkl => ?_⟩
  · rw [flR_all]
    have hc := hk.count net
    rw [show (B, rs).2 = rs from rfl] at hc
    rw [hc]
    have e : (1 ≤ net ∧ net ≤ Opt.fst i ns + gs.length - 1 ∧ pinsZ i ns gs os ps net ≠ []) ↔ (0 < net ∧ 0 < (snkP (Opt.natL os) (cellsV i ns gs os) (Opt.natL ps) net).length) := by
      constructor
      · rintro ⟨h1, _, h3⟩
        obtain ⟨x, hx⟩ := List.exists_mem_of_ne_nil _ h3
        exact ⟨h1, List.length_pos_iff.2 ((pinsP_mem _ _ _ _ net x).1 hx).1⟩
      · rintro ⟨h1, h2⟩
        have h3 := List.length_pos_iff.1 h2
        exact ⟨h1, by omega, (pins_head hok h1 h3 (hdr net h1 h3)).2⟩
    by_cases c : 0 < net ∧ 0 < (snkP (Opt.natL os) (cellsV i ns gs os) (Opt.natL ps) net).length
    · rw [if_pos c, if_pos (e.2 c)]
    · rw [if_neg c, if_neg (fun x => c (e.1 x))]
  · have hm := memDRo hkl
    obtain ⟨h1, h2, h3⟩ := rok_mem hk hm
    obtain ⟨_, ⟨busy, hT⟩, hall, _⟩ := hk.tr _ hm
    obtain ⟨x, hx⟩ := List.exists_mem_of_ne_nil _ h3
    have hs := ((pinsP_mem _ _ _ _ _ x).1 hx).1
    obtain ⟨e0, hp0, _⟩ := hT.at
    refine ⟨fun y hy => ?_, hp0, ?_, h1⟩
    · rw [List.contains_iff_mem]
      exact hall y ((pinsP_mem _ _ _ _ _ y).2 ⟨hs, .inr hy⟩)
    · rw [tiles_at, e0]
      exact (pins_head hok h1 hs (hdr _ h1 hs)).1
/-- The law's list of sinks, as its two loops build it. -/
def snA (ce : List Cl) (p : List Nat) (net k : Nat) : List Nat := (pickTo (fun j => (ce.getD j (0, [], 0, false)).2.1.contains net) k).map fun j => p.getD j 0
def snB (ou : List Nat) (net k : Nat) : List Nat := (pickTo (fun o => ou.getD o 0 / 2 == net) k).map fun o => o * 5 + 4
theorem snA_succ (ce : List Cl) (p : List Nat) (net k : Nat) : snA ce p net (k + 1) = if (ce.getD k (0, [], 0, false)).2.1.contains net = true then snA ce p net k ++ [p.getD k 0] else snA ce p net k := by
  unfold snA
  rw [pickTo]
  split
  · rw [List.map_append]; rfl
  · rfl
theorem snB_succ (ou : List Nat) (net k : Nat) : snB ou net (k + 1) = if ou.getD k 0 / 2 = net then snB ou net k ++ [k * 5 + 4] else snB ou net k := by
  unfold snB
  rw [pickTo]
  by_cases h : ou.getD k 0 / 2 = net
  · rw [if_pos h, if_pos (by simpa using h), List.map_append]; rfl
  · rw [if_neg h, if_neg (by simpa using h)]
theorem snA_len (ce : List Cl) (p : List Nat) (net : Nat) : ∀ k, (snA ce p net k).length ≤ k
  | 0 => by simp [snA, pickTo]
  | k + 1 => by
    have := snA_len ce p net k
    rw [snA_succ]
    split
    · rw [List.length_append]; simp; omega
    · omega
theorem snB_len (ou : List Nat) (net : Nat) : ∀ k, (snB ou net k).length ≤ k
  | 0 => by simp [snB, pickTo]
  | k + 1 => by
    have := snB_len ou net k
    rw [snB_succ]
    split
    · rw [List.length_append]; simp; omega
    · omega
theorem sn_all (ou : List Nat) (ce : List Cl) (p : List Nat) (net : Nat) : snkP ou ce p net = snA ce p net ce.length ++ snB ou net ou.length := rfl
end Go.Proofs.YtliedgaefgomjaaGreat
