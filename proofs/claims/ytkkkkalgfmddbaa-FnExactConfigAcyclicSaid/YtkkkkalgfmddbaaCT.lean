/- The contracts of the program's cells. -/
import Derived.Test.YtkkkkalgfmddbaaEC
import Derived.Test.YtkkkkalgfmddbaaN4
import Derived.Test.YtkkkkalgfmddbaaFA
import Derived.Deep.DeepCutAuto
namespace Go.Proofs.Ytkkkkalgfmddbaa
open Go.RowKit Go.Deep Cut

/-- The inputs and the table of a next-state literal's cell. -/
def nextY (l : Nat) : List Nat := if l / 2 = 0 then [] else [l / 2]
def nextT (l : Nat) : Nat := if l / 2 = 0 then l % 2 else 2 - l % 2
theorem nextT_le (l : Nat) : nextT l ≤ 2 := by unfold nextT; split <;> omega
theorem nextY_len (l : Nat) : (nextY l).length ≤ 1 := by unfold nextY; split <;> simp

end Go.Proofs.Ytkkkkalgfmddbaa
/- The contracts of the program's parts and of Cells. -/
namespace Go.Proofs.Ytkkkkalgfmddbaa
open Go.RowKit Go.Deep Cut

/-- The cells of the first k latches. -/
def regsTo (F0 : Nat) (ls : List Nat) : Nat → List Cl
  | 0 => []
  | k + 1 => regsTo F0 ls k ++ [(F0 + k, nextY (ls.getD k 0), nextT (ls.getD k 0), true)]
def lutsC (es : List Lt) : List Cl := es.map fun e => (e.1, e.2.1, e.2.2, false)
theorem regsTo_len (F0 : Nat) (ls : List Nat) : ∀ k, (regsTo F0 ls k).length = k
  | 0 => rfl
  | k + 1 => by simp [regsTo, regsTo_len F0 ls k]
theorem regsTo_at (F0 : Nat) (ls : List Nat) : ∀ k j, j < k → (regsTo F0 ls k).getD j (0, [], 0, false) = (F0 + j, nextY (ls.getD j 0), nextT (ls.getD j 0), true)
  | 0, j, h => by omega
  | k + 1, j, h => by
    unfold regsTo
    by_cases e : j < k
    · rw [getD_snoc_lt _ _ _ (by rw [regsTo_len]; exact e)]
      exact regsTo_at F0 ls k j e
    · obtain rfl : j = k := by omega
      rw [getD_snoc_at _ _ _ (by rw [regsTo_len])]
theorem lutsC_len (es : List Lt) : (lutsC es).length = es.length := by simp [lutsC]
theorem lutsC_at (es : List Lt) (j : Nat) (h : j < es.length) : (lutsC es).getD j (0, [], 0, false) = ((es.getD j (0, [], 0)).1, (es.getD j (0, [], 0)).2.1, (es.getD j (0, [], 0)).2.2, false) := by
  unfold lutsC
  simp [List.getD_eq_getElem?_getD, h]
theorem lutsC_snoc (es : List Lt) (k : Nat) (h : k < es.length) : lutsC (es.take (k + 1)) = lutsC (es.take k) ++ [((es.getD k (0, [], 0)).1, (es.getD k (0, [], 0)).2.1, (es.getD k (0, [], 0)).2.2, false)] := by
  unfold lutsC
  rw [List.take_succ_eq_append_getElem h, List.map_append]
  simp [List.getD_eq_getElem?_getD, h]
section
variable {ops : Array Oper} {rest : List Oper} {o : Oper} {a : Act} {Q : Exit → Act → World → Prop}
end

end Go.Proofs.Ytkkkkalgfmddbaa
/- The contract of the program's parts. -/
namespace Go.Proofs.Ytkkkkalgfmddbaa
open Go.RowKit Go.Deep Cut

theorem natL_get (xs : List Int) (k : Nat) (hk : k < xs.length) (h : 0 ≤ xs.getD k 0) : xs.getD k 0 = ((Opt.natL xs).getD k 0 : Nat) := by
  unfold Opt.natL
  simp [List.getD_eq_getElem?_getD, hk] at h ⊢
  omega

end Go.Proofs.Ytkkkkalgfmddbaa
/- The contract of the program's Cells. -/
namespace Go.Proofs.Ytkkkkalgfmddbaa
open Go.RowKit Go.Deep Cut

/-- The cells of any circuit. -/
def cellsV (i : Int) (ns : List Int) (gs : List (Int × Int)) (os : List Int) : List Cl := if Circ.validB i ns gs os = true then regsTo (1 + i.toNat) (Opt.natL ns) ns.length ++ lutsC (lutsV (Opt.fst i ns) (Opt.natG gs) (Opt.natL ns) (Opt.natL os)) else []
/-- The headers of the first k tables' cells. -/
def lutHd (hs : List Value) : Nat → List Value
  | 0 => []
  | k + 1 => lutHd hs k ++ [hs.getD (k * 3) (.bool false), hs.getD (k * 3 + 1) (.bool false), hs.getD (k * 3 + 2) (.bool false), .bool false]
theorem lutHd_len (hs : List Value) : ∀ k, (lutHd hs k).length = k * 4
  | 0 => rfl
  | k + 1 => by simp [lutHd, lutHd_len hs k]; omega
theorem vblk_bool (b : Bool) : vblk (.bool b) = none := rfl
theorem lutHd_at (hs : List Value) : ∀ k p u b, (lutHd hs k)[p]? = some u → vblk u = some b → p / 4 < k ∧ ∃ r, r < 3 ∧ p = p / 4 * 4 + r ∧ hs[p / 4 * 3 + r]? = some u
  | 0, p, u, b, h, _ => by simp [lutHd] at h
  | k + 1, p, u, b, h, hb => by
    unfold lutHd at h
    have hl := lutHd_len hs k
    by_cases e : p < k * 4
    · rw [List.getElem?_append_left (by omega)] at h
      obtain ⟨h1, h2⟩ := lutHd_at hs k p u b h hb
      exact ⟨by omega, h2⟩
    · rw [List.getElem?_append_right (by omega), hl] at h
      have key : ∀ n, (hs.getD n (.bool false)) = u → hs[n]? = some u := fun n hn => by
        rw [List.getD_eq_getElem?_getD] at hn
        cases hx : hs[n]? with
        | none => rw [hx] at hn; simp at hn; subst hn; cases hb
        | some v => rw [hx] at hn; simp at hn; rw [hn]
      have hp4 : p - k * 4 < 4 := by
        have := (List.getElem?_eq_some_iff.1 h).1
        simpa using this
      rcases (by omega : p = k * 4 ∨ p = k * 4 + 1 ∨ p = k * 4 + 2 ∨ p = k * 4 + 3) with e | e | e | e
      · subst e
        rw [Nat.sub_self] at h
        injection h with h
        have e4 : k * 4 / 4 = k := by omega
        rw [e4]
        exact ⟨by omega, 0, by omega, rfl, key _ h⟩
      · subst e
        rw [Nat.add_sub_cancel_left] at h
        injection h with h
        have e4 : (k * 4 + 1) / 4 = k := by omega
        rw [e4]
        exact ⟨by omega, 1, by omega, rfl, key _ h⟩
      · subst e
        rw [Nat.add_sub_cancel_left] at h
        injection h with h
        have e4 : (k * 4 + 2) / 4 = k := by omega
        rw [e4]
        exact ⟨by omega, 2, by omega, rfl, key _ h⟩
      · subst e
        rw [Nat.add_sub_cancel_left] at h
        injection h with h
        subst h
        cases hb
theorem lutHd_dist {hs : List Value} (hd : DistH hs) (k : Nat) : DistH (lutHd hs k) := fun p q hpq u v hu hv b hb hb' => by
  obtain ⟨_, r, hr, e, h1⟩ := lutHd_at hs k p u b hu hb
  obtain ⟨_, r', hr', e', h2⟩ := lutHd_at hs k q v b hv hb'
  exact hd (p / 4 * 3 + r) (q / 4 * 3 + r') (by omega) u v h1 h2 b hb hb'
theorem dist_app {xs ys : List Value} {Q : Nat} (hx : DistH xs) (hy : DistH ys) (h1 : ∀ u, u ∈ xs → ∀ b, vblk u = some b → Q ≤ b) (h2 : ∀ u, u ∈ ys → ∀ b, vblk u = some b → b < Q) : DistH (xs ++ ys) := fun p q hpq u v hu hv b hb hb' => by
  by_cases e : q < xs.length
  · rw [List.getElem?_append_left (by omega)] at hu hv
    exact hx p q hpq u v hu hv b hb hb'
  · rw [List.getElem?_append_right (by omega)] at hv
    by_cases e' : p < xs.length
    · rw [List.getElem?_append_left e'] at hu
      have a1 := h1 u (List.mem_of_getElem? hu) b hb
      have a2 := h2 v (List.mem_of_getElem? hv) b hb'
      omega
    · rw [List.getElem?_append_right (by omega)] at hu
      exact hy (p - xs.length) (q - xs.length) (by omega) u v hu hv b hb hb'
theorem vblk_slice {a b n c d : Nat} (h : vblk (.slice (some ⟨a, b, none⟩) n c) = some d) : d = a := by
  cases n with
  | zero => cases h
  | succ n => injection h with h; exact h.symm
theorem dist_snoc4 {xs : List Value} {N v gx m c t : Nat} {r : Bool} (h : DistH xs) (hl : ∀ u, u ∈ xs → ∀ b, vblk u = some b → b < N) (hg : N ≤ gx) : DistH (xs ++ [.int .i64 v, .slice (some ⟨gx, 0, none⟩) m c, .int .i64 t, .bool r]) := by
  have e : xs ++ [.int .i64 v, .slice (some ⟨gx, 0, none⟩) m c, .int .i64 t, .bool r] = (((xs ++ [.int .i64 v]) ++ [.slice (some ⟨gx, 0, none⟩) m c]) ++ [.int .i64 t]) ++ [.bool r] := by simp
  rw [e]
  have l1 : ∀ u, u ∈ xs ++ [Value.int .i64 v] → ∀ b, vblk u = some b → b < N := fun u hu b hb => by
    rcases List.mem_append.1 hu with h | h
    · exact hl u h b hb
    · simp at h; subst h; cases hb
  have l2 : ∀ u, u ∈ (xs ++ [Value.int .i64 v]) ++ [.slice (some ⟨gx, 0, none⟩) m c] → ∀ b, vblk u = some b → b < gx + 1 := fun u hu b hb => by
    rcases List.mem_append.1 hu with h | h
    · have := l1 u h b hb; omega
    · simp at h; subst h; have := vblk_slice hb; omega
  have l3 : ∀ u, u ∈ ((xs ++ [Value.int .i64 v]) ++ [.slice (some ⟨gx, 0, none⟩) m c]) ++ [.int .i64 t] → ∀ b, vblk u = some b → b < gx + 1 := fun u hu b hb => by
    rcases List.mem_append.1 hu with h | h
    · exact l2 u h b hb
    · simp at h; subst h; cases hb
  refine DistH.snoc (N := gx + 1) (DistH.snoc (N := gx + 1) (DistH.snoc (N := N) (DistH.snoc (N := N) h hl ?_) l1 ?_) l2 ?_) l3 ?_
  · intro b hb; cases hb
  · intro b hb; have := vblk_slice hb; omega
  · intro b hb; cases hb
  · intro b hb; cases hb
/-- The blocks of the tables' leaves. -/
theorem lu_blk {w : World} {S : Nat → Prop} {hs : List Value} {es : List Lt} (h : LuHdrs w S hs es) : ∀ u, u ∈ hs → ∀ b, vblk u = some b → S b := fun u hu b hb => by
  obtain ⟨p, hp⟩ := List.mem_iff_getElem?.1 hu
  have hl := h.1
  have hpl := (List.getElem?_eq_some_iff.1 hp).1
  obtain ⟨A', c', e0, e1, e2, hx⟩ := h.2 (p / 3) (by omega)
  rcases (by omega : p = p / 3 * 3 ∨ p = p / 3 * 3 + 1 ∨ p = p / 3 * 3 + 2) with e | e | e
  · rw [e, e0] at hp; injection hp with hp; subst hp; cases hb
  · rw [e, e1] at hp
    injection hp with hp
    subst hp
    rcases hx with hx | ⟨b', cs, eA, hS, _⟩
    · rw [hx] at hb; cases A' <;> cases hb
    · subst eA
      generalize (es.getD (p / 3) (0, [], 0)).2.1.length = m at *
      cases m with
      | zero => cases hb
      | succ m => injection hb with hb; subst hb; exact hS
  · rw [e, e2] at hp; injection hp with hp; subst hp; cases hb
theorem lutHd_blk {w : World} {S : Nat → Prop} {hs : List Value} {es : List Lt} (h : LuHdrs w S hs es) (k : Nat) : ∀ u, u ∈ lutHd hs k → ∀ b, vblk u = some b → S b := fun u hu b hb => by
  obtain ⟨p, hp⟩ := List.mem_iff_getElem?.1 hu
  obtain ⟨_, r, _, _, h1⟩ := lutHd_at hs k p u b hp hb
  exact lu_blk h u (List.mem_of_getElem? h1) b hb
end Go.Proofs.Ytkkkkalgfmddbaa
/- The contract of the program's Cells: the walk. -/
namespace Go.Proofs.Ytkkkkalgfmddbaa
open Go.RowKit Go.Deep Cut

end Go.Proofs.Ytkkkkalgfmddbaa
