/- The contracts of the program's parts and of Cells. -/
import Derived.Test.YthcpgbfghededaaCP
import Derived.Test.YthcpgbfghededaaFA
import Derived.Deep.DeepCutAuto
namespace Go.Proofs.Ythcpgbfghededaa
open Go.RowKit Go.Deep Cut

/-- The cells of the first k latches. -/
def regsTo (F0 : Nat) (ls : List Nat) : Nat → List Cl
  | 0 => []
  | k + 1 => regsTo F0 ls k ++ [(F0 + k, nextY (ls.getD k 0), nextT (ls.getD k 0), true)]
def lutsC (es : List Lt) : List Cl := es.map fun e => (e.1, e.2.1, e.2.2, false)
theorem regsTo_len (F0 : Nat) (ls : List Nat) : ∀ k, (regsTo F0 ls k).length = k
  | 0 => rfl
  | k + 1 => by simp [regsTo, regsTo_len F0 ls k]
theorem regsTo_at (F0 : Nat) (ls : List Nat) : ∀ k j, j < k → (regsTo F0 ls k).getD j (0, [], 0, false) = (F0 + j, nextY (ls.getD j 0), nextT (ls.getD j 0), true)
  | 0, j, h => by omega
  | k + 1, j, h => by
    unfold regsTo
    by_cases e : j < k
    · rw [getD_snoc_lt _ _ _ (by rw [regsTo_len]; exact e)]
      exact regsTo_at F0 ls k j e
    · obtain rfl : j = k := by omega
      rw [getD_snoc_at _ _ _ (by rw [regsTo_len])]
theorem lutsC_len (es : List Lt) : (lutsC es).length = es.length := by simp [lutsC]
theorem lutsC_at (es : List Lt) (j : Nat) (h : j < es.length) : (lutsC es).getD j (0, [], 0, false) = ((es.getD j (0, [], 0)).1, (es.getD j (0, [], 0)).2.1, (es.getD j (0, [], 0)).2.2, false) := by
  unfold lutsC
  simp [List.getD_eq_getElem?_getD, h]
theorem lutsC_snoc (es : List Lt) (k : Nat) (h : k < es.length) : lutsC (es.take (k + 1)) = lutsC (es.take k) ++ [((es.getD k (0, [], 0)).1, (es.getD k (0, [], 0)).2.1, (es.getD k (0, [], 0)).2.2, false)] := by
  unfold lutsC
  rw [List.take_succ_eq_append_getElem h, List.map_append]
  simp [List.getD_eq_getElem?_getD, h]
/-- The parts of the first k latches and tables, as the program holds them. -/
def regP (v l : Nat) : Value := .iface 119 (.agg #[.int .i64 v, .int .i64 l])
def lutP (a b c : Value) : Value := .iface 120 (.agg #[a, b, c])
def regPs (F0 : Nat) (ls : List Nat) : Nat → List Value
  | 0 => []
  | k + 1 => regPs F0 ls k ++ [regP (F0 + k) (ls.getD k 0)]
def lutPs (hs : List Value) : Nat → List Value
  | 0 => []
  | k + 1 => lutPs hs k ++ [lutP (hs.getD (k * 3) (.bool false)) (hs.getD (k * 3 + 1) (.bool false)) (hs.getD (k * 3 + 2) (.bool false))]
theorem regPs_len (F0 : Nat) (ls : List Nat) : ∀ k, (regPs F0 ls k).length = k
  | 0 => rfl
  | k + 1 => by simp [regPs, regPs_len F0 ls k]
theorem regPs_at (F0 : Nat) (ls : List Nat) : ∀ k j, j < k → (regPs F0 ls k)[j]? = some (regP (F0 + j) (ls.getD j 0))
  | 0, j, h => by omega
  | k + 1, j, h => by
    unfold regPs
    have hl := regPs_len F0 ls k
    by_cases e : j < k
    · rw [List.getElem?_append_left (by omega)]; exact regPs_at F0 ls k j e
    · obtain rfl : j = k := by omega
      rw [List.getElem?_append_right (by omega), hl, Nat.sub_self]; rfl
theorem lutPs_len (hs : List Value) : ∀ k, (lutPs hs k).length = k
  | 0 => rfl
  | k + 1 => by simp [lutPs, lutPs_len hs k]
theorem lutPs_at (hs : List Value) : ∀ k j, j < k → (lutPs hs k)[j]? = some (lutP (hs.getD (j * 3) (.bool false)) (hs.getD (j * 3 + 1) (.bool false)) (hs.getD (j * 3 + 2) (.bool false)))
  | 0, j, h => by omega
  | k + 1, j, h => by
    unfold lutPs
    have hl := lutPs_len hs k
    by_cases e : j < k
    · rw [List.getElem?_append_left (by omega)]; exact lutPs_at hs k j e
    · obtain rfl : j = k := by omega
      rw [List.getElem?_append_right (by omega), hl, Nat.sub_self]; rfl
/-- Such parts in a row. -/
def PartsAt (w : World) (B : Nat) (ps : List Value) (n g cap : Nat) : Prop := w.ownsRow B 91 1 (.slice (some ⟨g, 0, none⟩) n cap) n ps
theorem PartsAt.gb {w : World} {B n g cap : Nat} {ps : List Value} (h : PartsAt w B ps n g cap) : B ≤ g ∧ g < w.heap.size := World.ownsRow.lt h g rfl
theorem PartsAt.keep {w w' : World} {B n g cap : Nat} {ps : List Value} (h : PartsAt w B ps n g cap) (hg : w'.heap[g]? = w.heap[g]?) : PartsAt w' B ps n g cap := own_keepE h hg
theorem PartsAt.on {w w' : World} {B n g cap : Nat} {ps : List Value} (h : PartsAt w B ps n g cap) (hb : Below w.heap.size w w') : PartsAt w' B ps n g cap := h.keep (hb.block g h.gb.2)
theorem PartsAt.cell {w : World} {B n g cap : Nat} {ps : List Value} (h : PartsAt w B ps n g cap) {k : Nat} (hk : k < n) {p : Value} (hp : ps[k]? = some p) : w.cell? ⟨g, k, none⟩ = some p := by
  obtain ⟨cur, hrow, _, _, _, _, hget⟩ := own_partsE h
  rw [hrow.cell, hget k (by omega), hp]
theorem Try.infoP : (Try.prog.info? 91).map (fun i => (i.zero, i.size, i.bytes)) = some (some .nilIface, 1, 16) := by kernel_rfl
theorem PartsAt.made (w : World) (B : Nat) (hB : B ≤ w.heap.size) : PartsAt (w.alloc (.cells #[] 91)) B [] 0 w.heap.size 0 :=
  World.ownsRow_lit (base := B) (e := 91) (size := 1) w #[] 0 hB (by simp [maxLen]) (by simp)
section
variable {ops : Array Oper} {rest : List Oper} {o : Oper} {a : Act} {Q : Exit → Act → World → Prop}
theorem wpList_pushP (hgd : o.guard = none) (s x : Operand) (ho : o.op = .call { callee := .builtin .append, args := #[s, x], argTypes := #[88, 88] })
    (wr : World) (B g cap n : Nat) (ps : List Value) (hev : a.eval s = .slice (some ⟨g, 0, none⟩) n cap) (h : PartsAt wr B ps n g cap) (hnb : n ≤ 1000)
    (p : Value) (hp : p.oneCell' = true) (hx : a.eval x = .slice (some ⟨wr.heap.size, 0, none⟩) 1 1)
    (cont : ∀ g' cap' w5, PartsAt w5 B (ps ++ [p]) (n + 1) g' cap' → Below B wr w5 → (∀ b, b < wr.heap.size → b ≠ g → w5.heap[b]? = wr.heap[b]?) → (g' = g ∨ wr.heap.size < g') → wpList Try.prog ops Q rest (a.put o.dst (.slice (some ⟨g', 0, none⟩) (n + 1) cap')) w5) :
    wpList Try.prog ops Q (o :: rest) a (wr.alloc (.cells #[p] 91)) := by
  obtain ⟨i0, hi0, hz0, hz1, hz2⟩ := info_split Try.infoP
  obtain ⟨hB, hgl⟩ := h.gb
  refine wpList_append_kept _ hgd s x 88 ho B 91 i0 _ 1 16 Try.underlying88 hi0 hz0 hz1 hz2 rfl (by omega) (.slice (some ⟨g, 0, none⟩) n cap) n ps hev (World.ownsRow.alloc h _) ⟨wr.heap.size, 0, none⟩ 1 1 [p] hx rfl (World.news_of_block (cs := #[p]) (t := 91) (fr := (0, 0)) (heap_alloc_new wr _)) (by simpa using hp) (by omega) (by simp [maxLen]; omega) (by omega) (by simp; omega) _ rfl ?_
  intro g' cap' w5 hown5 hgr5 hat5 hlt5 hkept5
  refine cont g' cap' w5 hown5 (below_alloc_grown hgr5 (by omega) hB) (off_grown hgr5) ?_
  rcases hat5 with h1 | h1
  · left; simp [Value.ownBlock] at h1; omega
  · right; simp at h1; omega
end

/-- The part's method, by the part's type. -/
theorem Try.meth_reg (f : Nat) (a b : Value) (w : World) : (method (f + 1) 119 (.agg #[a, b]) "loop.example/fpgatoolchain/impl.cell").run Try.prog w = .ok (155, .agg #[a, b]) w := by kernel_rfl
theorem Try.meth_lut (f : Nat) (a b c : Value) (w : World) : (method (f + 1) 120 (.agg #[a, b, c]) "loop.example/fpgatoolchain/impl.cell").run Try.prog w = .ok (157, .agg #[a, b, c]) w := by kernel_rfl
end Go.Proofs.Ythcpgbfghededaa
