/- The contracts of the program's cells. -/
import Derived.Test.YtliedgaefgomjaaGreatEC
import Derived.Test.YtliedgaefgomjaaGreatN4
import Derived.Test.YtliedgaefgomjaaGreatFA
import Derived.Deep.DeepCutAuto
namespace Go.Proofs.YtliedgaefgomjaaGreat
open Go.RowKit Go.Deep Cut

/-- The inputs and the table of a next-state literal's cell. -/
def nextY (l : Nat) : List Nat := if l / 2 = 0 then [] else [l / 2]
def nextT (l : Nat) : Nat := if l / 2 = 0 then l % 2 else 2 - l % 2
theorem nextT_le (l : Nat) : nextT l ≤ 2 := by unfold nextT; split <;> omega
theorem nextY_len (l : Nat) : (nextY l).length ≤ 1 := by unfold nextY; split <;> simp

set_option maxHeartbeats 400000 in
theorem nextTable_any (l : Nat) (hl : l ≤ 1000000) (w : World) :
    Calls Tryz.prog 161 #[.int .i64 l] w fun e w' => ∃ g, e = .returned (.tuple #[.slice (some ⟨g, 0, none⟩) (nextY l).length (nextY l).length, .int .i64 (nextT l : Nat)]) ∧ w.heap.size ≤ g ∧ g < w'.heap.size ∧ LeafIn w' (fun b => b = g) (some ⟨g, 0, none⟩) (nextY l) ∧ Below w.heap.size w w' := by
  by_cases h0 : l = 0
  · subst h0
    go_enter Tryz.func161, Tryz.ntmps161
    go_wp2
    go_ret2
    exact ⟨w.heap.size, rfl, Nat.le_refl _, by simp, .inl rfl, (Below.refl _ _).alloc (Nat.le_refl _) _⟩
  · by_cases h1 : l = 1
    · subst h1
      go_enter Tryz.func161, Tryz.ntmps161
      go_wp2
      go_ret2
      exact ⟨w.heap.size, rfl, Nat.le_refl _, by simp, .inl rfl, (Below.refl _ _).alloc (Nat.le_refl _) _⟩
    · have hY : nextY l = [l / 2] := by unfold nextY; rw [if_neg (by omega)]
      have hd : (l : Int) / 2 = ((l / 2 : Nat) : Int) := by omega
      rcases Nat.mod_two_eq_zero_or_one l with e | e
      · have hT : nextT l = 2 := by unfold nextT; rw [if_neg (by omega)]; omega
        rw [hY, hT]
        have HD := Lib.hid hd
        have n0 : (l : Int) ≠ 0 := by omega
        have n1 : (l : Int) ≠ 1 := by omega
        have em : bits .and .i64 (l : Int) 1 = 0 := by rw [i64_odd l (by omega), e]; rfl
        clear hd hY hT h0 h1
        go_enter Tryz.func161, Tryz.ntmps161
        go_wp2_with (go_at_call 52; refine (var_any _ _).mono ?_; rintro e w' ⟨rfl, rfl⟩; rw [HD.out])
        go_ret2
        exact ⟨w.heap.size, rfl, Nat.le_refl _, by simp, .inr ⟨_, _, rfl, rfl, heap_alloc_new w _, fun j hj => by simp at hj; subst hj; simp⟩, (Below.refl _ _).alloc (Nat.le_refl _) _⟩
      · have hT : nextT l = 1 := by unfold nextT; rw [if_neg (by omega)]; omega
        rw [hY, hT]
        have HD := Lib.hid hd
        have n0 : (l : Int) ≠ 0 := by omega
        have n1 : (l : Int) ≠ 1 := by omega
        have em : bits .and .i64 (l : Int) 1 = 1 := by rw [i64_odd l (by omega), e]; rfl
        clear hd hY hT h0 h1
        go_enter Tryz.func161, Tryz.ntmps161
        go_wp2_with (go_at_call 52; refine (var_any _ _).mono ?_; rintro e w' ⟨rfl, rfl⟩; rw [HD.out])
        go_ret2
        exact ⟨w.heap.size, rfl, Nat.le_refl _, by simp, .inr ⟨_, _, rfl, rfl, heap_alloc_new w _, fun j hj => by simp at hj; subst hj; simp⟩, (Below.refl _ _).alloc (Nat.le_refl _) _⟩

set_option maxHeartbeats 400000 in
theorem regCell_any (v l : Nat) (hl : l ≤ 1000000) (w : World) :
    Calls Tryz.prog 160 #[.agg #[.int .i64 v, .int .i64 l]] w fun e w' => ∃ g, e = .returned (.agg #[.int .i64 v, .slice (some ⟨g, 0, none⟩) (nextY l).length (nextY l).length, .int .i64 (nextT l : Nat), .bool true]) ∧ w.heap.size ≤ g ∧ g < w'.heap.size ∧ LeafIn w' (fun b => b = g) (some ⟨g, 0, none⟩) (nextY l) ∧ Below w.heap.size w w' := by
  have HW0 : Hid (Below w.heap.size w ((w.alloc (.cells #[.int .i64 v, .int .i64 l] 110)).alloc (.cells #[.int .i64 0, .slice none 0 0, .int .i64 0, .bool false] 45))) := Lib.hid (((Below.refl _ _).alloc (Nat.le_refl _) _).alloc (by simp) _)
  have hr0 : Row ((w.alloc (.cells #[.int .i64 v, .int .i64 l] 110)).alloc (.cells #[.int .i64 0, .slice none 0 0, .int .i64 0, .bool false] 45)) w.heap.size 110 #[.int .i64 v, .int .i64 l] := (Below.heap_alloc _ _ _ (by simp)).trans (heap_alloc_new w _)
  have hr1 : Row ((w.alloc (.cells #[.int .i64 v, .int .i64 l] 110)).alloc (.cells #[.int .i64 0, .slice none 0 0, .int .i64 0, .bool false] 45)) (w.heap.size + 1) 45 #[.int .i64 0, .slice none 0 0, .int .i64 0, .bool false] := by
    have h := heap_alloc_new (w.alloc (.cells #[.int .i64 v, .int .i64 l] 110)) (.cells #[.int .i64 0, .slice none 0 0, .int .i64 0, .bool false] 45)
    rwa [show (w.alloc (.cells #[.int .i64 v, .int .i64 l] 110)).heap.size = w.heap.size + 1 by simp] at h
  have hz0 : ((w.alloc (.cells #[.int .i64 v, .int .i64 l] 110)).alloc (.cells #[.int .i64 0, .slice none 0 0, .int .i64 0, .bool false] 45)).heap.size = w.heap.size + 2 := by simp
  have HR0 := Lib.hid hr0
  have HR1 := Lib.hid hr1
  have HZ0 := Lib.hid hz0
  clear hr0 hr1 hz0
  go_enter Tryz.func160, Tryz.ntmps160
  go_upto_region 1 with fail
  generalize (w.alloc (.cells #[.int .i64 v, .int .i64 l] 110)).alloc (.cells #[.int .i64 0, .slice none 0 0, .int .i64 0, .bool false] 45) = w0 at *
  have p0 := HR0.out.cell 0
  have p1 := HR0.out.cell 1
  simp at p0 p1
  go_wp2_with fail
  refine (nextTable_any l hl _).mono ?_
  rintro e w1 ⟨g, rfl, hg0, hg1, hlf, hb1⟩
  have HR01 := Lib.hid (HR0.out.below hb1 HR0.out.lt)
  have HR11 := Lib.hid (HR1.out.below hb1 HR1.out.lt)
  have HL1 := Lib.hid (HW0.out.trans (hb1.mono HW0.out.size))
  have HLF := Lib.hid hlf
  have hgw : w.heap.size + 2 ≤ g := by have := HZ0.out; omega
  clear hb1 HR0 HR1 hlf p0 p1
  have p0 := HR01.out.cell 0
  have p1 := HR01.out.cell 1
  have t0 := HR11.out.cell 0
  have t1 := HR11.out.cell 1
  have t2 := HR11.out.cell 2
  have t3 := HR11.out.cell 3
  have f0 := HR11.out.frozen 0
  have f1 := HR11.out.frozen 1
  have f2 := HR11.out.frozen 2
  have f3 := HR11.out.frozen 3
  simp at p0 p1 t0 t1 t2 t3
  generalize hm : (nextY l).length = m at *
  have HM := Lib.hid hm
  clear hm
  go_wp2
  refine bodyPost_ret (v := .agg #[.int .i64 v, .slice (some ⟨g, 0, none⟩) m m, .int .i64 (nextT l : Nat), .bool true]) (by simp [results, Tryz.results160, go_sem, t0, t1, t2, t3]) rfl ⟨g, by rw [HM.out], by omega, ?_, ?_, ?_⟩
  · simp [World.setCell]; omega
  · refine HLF.out.kept (fun b hb => ?_) (fun b hb => hb)
    subst hb
    have h : ∀ (W : World) (j : Nat) (u : Value), (W.setCell ⟨w.heap.size + 1, j, none⟩ u).heap[b]? = W.heap[b]? := fun W j u => Below.heap_setCell _ _ _ _ (by show b ≠ w.heap.size + 1; omega)
    simp only [h]
  · exact (((HL1.out.setCell (p := ⟨w.heap.size + 1, 0, none⟩) (by simp) _).setCell (p := ⟨w.heap.size + 1, 1, none⟩) (by simp) _).setCell (p := ⟨w.heap.size + 1, 2, none⟩) (by simp) _).setCell (p := ⟨w.heap.size + 1, 3, none⟩) (by simp) _

set_option maxHeartbeats 400000 in
theorem lutCell_any (A : Option Addr) (v m c t : Nat) (w : World) :
    Calls Tryz.prog 162 #[.agg #[.int .i64 v, .slice A m c, .int .i64 t]] w fun e w' => e = .returned (.agg #[.int .i64 v, .slice A m c, .int .i64 t, .bool false]) ∧ Below w.heap.size w w' := by
  have HW0 : Hid (Below w.heap.size w ((w.alloc (.cells #[.int .i64 v, .slice A m c, .int .i64 t] 111)).alloc (.cells #[.int .i64 0, .slice none 0 0, .int .i64 0, .bool false] 45))) := Lib.hid (((Below.refl _ _).alloc (Nat.le_refl _) _).alloc (by simp) _)
  have hr0 : Row ((w.alloc (.cells #[.int .i64 v, .slice A m c, .int .i64 t] 111)).alloc (.cells #[.int .i64 0, .slice none 0 0, .int .i64 0, .bool false] 45)) w.heap.size 111 #[.int .i64 v, .slice A m c, .int .i64 t] := (Below.heap_alloc _ _ _ (by simp)).trans (heap_alloc_new w _)
  have hr1 : Row ((w.alloc (.cells #[.int .i64 v, .slice A m c, .int .i64 t] 111)).alloc (.cells #[.int .i64 0, .slice none 0 0, .int .i64 0, .bool false] 45)) (w.heap.size + 1) 45 #[.int .i64 0, .slice none 0 0, .int .i64 0, .bool false] := by
    have h := heap_alloc_new (w.alloc (.cells #[.int .i64 v, .slice A m c, .int .i64 t] 111)) (.cells #[.int .i64 0, .slice none 0 0, .int .i64 0, .bool false] 45)
    rwa [show (w.alloc (.cells #[.int .i64 v, .slice A m c, .int .i64 t] 111)).heap.size = w.heap.size + 1 by simp] at h
  have HR0 := Lib.hid hr0
  have HR1 := Lib.hid hr1
  clear hr0 hr1
  go_enter Tryz.func162, Tryz.ntmps162
  go_upto_region 1 with fail
  generalize (w.alloc (.cells #[.int .i64 v, .slice A m c, .int .i64 t] 111)).alloc (.cells #[.int .i64 0, .slice none 0 0, .int .i64 0, .bool false] 45) = w0 at *
  have p0 := HR0.out.cell 0
  have p1 := HR0.out.cell 1
  have p2 := HR0.out.cell 2
  have t0 := HR1.out.cell 0
  have t1 := HR1.out.cell 1
  have t2 := HR1.out.cell 2
  have t3 := HR1.out.cell 3
  have f0 := HR1.out.frozen 0
  have f1 := HR1.out.frozen 1
  have f2 := HR1.out.frozen 2
  have f3 := HR1.out.frozen 3
  simp at p0 p1 p2 t0 t1 t2 t3
  go_wp2
  refine bodyPost_ret (v := .agg #[.int .i64 v, .slice A m c, .int .i64 t, .bool false]) (by simp [results, Tryz.results162, go_sem, t0, t1, t2, t3]) rfl ⟨rfl, ?_⟩
  exact (((HW0.out.setCell (p := ⟨w.heap.size + 1, 0, none⟩) (by simp) _).setCell (p := ⟨w.heap.size + 1, 1, none⟩) (by simp) _).setCell (p := ⟨w.heap.size + 1, 2, none⟩) (by simp) _).setCell (p := ⟨w.heap.size + 1, 3, none⟩) (by simp) _
end Go.Proofs.YtliedgaefgomjaaGreat
/- The contracts of the program's parts and of Cells. -/
namespace Go.Proofs.YtliedgaefgomjaaGreat
open Go.RowKit Go.Deep Cut

/-- The cells of the first k latches. -/
def regsTo (F0 : Nat) (ls : List Nat) : Nat → List Cl
  | 0 => []
  | k + 1 => regsTo F0 ls k ++ [(F0 + k, nextY (ls.getD k 0), nextT (ls.getD k 0), true)]
def lutsC (es : List Lt) : List Cl := es.map fun e => (e.1, e.2.1, e.2.2, false)
theorem regsTo_len (F0 : Nat) (ls : List Nat) : ∀ k, (regsTo F0 ls k).length = k
  | 0 => rfl
  | k + 1 => by simp [regsTo, regsTo_len F0 ls k]
theorem regsTo_at (F0 : Nat) (ls : List Nat) : ∀ k j, j < k → (regsTo F0 ls k).getD j (0, [], 0, false) = (F0 + j, nextY (ls.getD j 0), nextT (ls.getD j 0), true)
  | 0, j, h => by omega
  | k + 1, j, h => by
    unfold regsTo
    by_cases e : j < k
    · rw [getD_snoc_lt _ _ _ (by rw [regsTo_len]; exact e)]
      exact regsTo_at F0 ls k j e
    · obtain rfl : j = k := by omega
      rw [getD_snoc_at _ _ _ (by rw [regsTo_len])]
theorem lutsC_len (es : List Lt) : (lutsC es).length = es.length := by simp [lutsC]
theorem lutsC_at (es : List Lt) (j : Nat) (h : j < es.length) : (lutsC es).getD j (0, [], 0, false) = ((es.getD j (0, [], 0)).1, (es.getD j (0, [], 0)).2.1, (es.getD j (0, [], 0)).2.2, false) := by
  unfold lutsC
  simp [List.getD_eq_getElem?_getD, h]
theorem lutsC_snoc (es : List Lt) (k : Nat) (h : k < es.length) : lutsC (es.take (k + 1)) = lutsC (es.take k) ++ [((es.getD k (0, [], 0)).1, (es.getD k (0, [], 0)).2.1, (es.getD k (0, [], 0)).2.2, false)] := by
  unfold lutsC
  rw [List.take_succ_eq_append_getElem h, List.map_append]
  simp [List.getD_eq_getElem?_getD, h]
/-- The parts of the first k latches and tables, as the program holds them. -/
def regP (v l : Nat) : Value := .iface 110 (.agg #[.int .i64 v, .int .i64 l])
def lutP (a b c : Value) : Value := .iface 111 (.agg #[a, b, c])
def regPs (F0 : Nat) (ls : List Nat) : Nat → List Value
  | 0 => []
  | k + 1 => regPs F0 ls k ++ [regP (F0 + k) (ls.getD k 0)]
def lutPs (hs : List Value) : Nat → List Value
  | 0 => []
  | k + 1 => lutPs hs k ++ [lutP (hs.getD (k * 3) (.bool false)) (hs.getD (k * 3 + 1) (.bool false)) (hs.getD (k * 3 + 2) (.bool false))]
theorem regPs_len (F0 : Nat) (ls : List Nat) : ∀ k, (regPs F0 ls k).length = k
  | 0 => rfl
  | k + 1 => by simp [regPs, regPs_len F0 ls k]
theorem regPs_at (F0 : Nat) (ls : List Nat) : ∀ k j, j < k → (regPs F0 ls k)[j]? = some (regP (F0 + j) (ls.getD j 0))
  | 0, j, h => by omega
  | k + 1, j, h => by
    unfold regPs
    have hl := regPs_len F0 ls k
    by_cases e : j < k
    · rw [List.getElem?_append_left (by omega)]; exact regPs_at F0 ls k j e
    · obtain rfl : j = k := by omega
      rw [List.getElem?_append_right (by omega), hl, Nat.sub_self]; rfl
theorem lutPs_len (hs : List Value) : ∀ k, (lutPs hs k).length = k
  | 0 => rfl
  | k + 1 => by simp [lutPs, lutPs_len hs k]
theorem lutPs_at (hs : List Value) : ∀ k j, j < k → (lutPs hs k)[j]? = some (lutP (hs.getD (j * 3) (.bool false)) (hs.getD (j * 3 + 1) (.bool false)) (hs.getD (j * 3 + 2) (.bool false)))
  | 0, j, h => by omega
  | k + 1, j, h => by
    unfold lutPs
    have hl := lutPs_len hs k
    by_cases e : j < k
    · rw [List.getElem?_append_left (by omega)]; exact lutPs_at hs k j e
    · obtain rfl : j = k := by omega
      rw [List.getElem?_append_right (by omega), hl, Nat.sub_self]; rfl
/-- Such parts in a row. -/
def PartsAt (w : World) (B : Nat) (ps : List Value) (n g cap : Nat) : Prop := w.ownsRow B 74 1 (.slice (some ⟨g, 0, none⟩) n cap) n ps
theorem PartsAt.gb {w : World} {B n g cap : Nat} {ps : List Value} (h : PartsAt w B ps n g cap) : B ≤ g ∧ g < w.heap.size := World.ownsRow.lt h g rfl
theorem PartsAt.keep {w w' : World} {B n g cap : Nat} {ps : List Value} (h : PartsAt w B ps n g cap) (hg : w'.heap[g]? = w.heap[g]?) : PartsAt w' B ps n g cap := own_keepE h hg
theorem PartsAt.on {w w' : World} {B n g cap : Nat} {ps : List Value} (h : PartsAt w B ps n g cap) (hb : Below w.heap.size w w') : PartsAt w' B ps n g cap := h.keep (hb.block g h.gb.2)
theorem PartsAt.cell {w : World} {B n g cap : Nat} {ps : List Value} (h : PartsAt w B ps n g cap) {k : Nat} (hk : k < n) {p : Value} (hp : ps[k]? = some p) : w.cell? ⟨g, k, none⟩ = some p := by
  obtain ⟨cur, hrow, _, _, _, _, hget⟩ := own_partsE h
  rw [hrow.cell, hget k (by omega), hp]
theorem Tryz.infoP : (Tryz.prog.info? 74).map (fun i => (i.zero, i.size, i.bytes)) = some (some .nilIface, 1, 16) := by kernel_rfl
theorem PartsAt.made (w : World) (B : Nat) (hB : B ≤ w.heap.size) : PartsAt (w.alloc (.cells #[] 74)) B [] 0 w.heap.size 0 :=
  World.ownsRow_lit (base := B) (e := 74) (size := 1) w #[] 0 hB (by simp [maxLen]) (by simp)
section
variable {ops : Array Oper} {rest : List Oper} {o : Oper} {a : Act} {Q : Exit → Act → World → Prop}
theorem wpList_pushP (hgd : o.guard = none) (s x : Operand) (ho : o.op = .call { callee := .builtin .append, args := #[s, x], argTypes := #[71, 71] })
    (wr : World) (B g cap n : Nat) (ps : List Value) (hev : a.eval s = .slice (some ⟨g, 0, none⟩) n cap) (h : PartsAt wr B ps n g cap) (hnb : n ≤ 1000)
    (p : Value) (hp : p.oneCell' = true) (hx : a.eval x = .slice (some ⟨wr.heap.size, 0, none⟩) 1 1)
    (cont : ∀ g' cap' w5, PartsAt w5 B (ps ++ [p]) (n + 1) g' cap' → Below B wr w5 → (∀ b, b < wr.heap.size → b ≠ g → w5.heap[b]? = wr.heap[b]?) → (g' = g ∨ wr.heap.size < g') → wpList Tryz.prog ops Q rest (a.put o.dst (.slice (some ⟨g', 0, none⟩) (n + 1) cap')) w5) :
    wpList Tryz.prog ops Q (o :: rest) a (wr.alloc (.cells #[p] 74)) := by
  obtain ⟨i0, hi0, hz0, hz1, hz2⟩ := info_split Tryz.infoP
  obtain ⟨hB, hgl⟩ := h.gb
  refine wpList_append_kept _ hgd s x 71 ho B 74 i0 _ 1 16 Tryz.underlying71 hi0 hz0 hz1 hz2 rfl (by omega) (.slice (some ⟨g, 0, none⟩) n cap) n ps hev (World.ownsRow.alloc h _) ⟨wr.heap.size, 0, none⟩ 1 1 [p] hx rfl (World.news_of_block (cs := #[p]) (t := 74) (fr := (0, 0)) (heap_alloc_new wr _)) (by simpa using hp) (by omega) (by simp [maxLen]; omega) (by omega) (by simp; omega) _ rfl ?_
  intro g' cap' w5 hown5 hgr5 hat5 hlt5 hkept5
  refine cont g' cap' w5 hown5 (below_alloc_grown hgr5 (by omega) hB) (off_grown hgr5) ?_
  rcases hat5 with h1 | h1
  · left; simp [Value.ownBlock] at h1; omega
  · right; simp at h1; omega
end

/-- The part's method, by the part's type. -/
theorem Tryz.meth_reg (f : Nat) (a b : Value) (w : World) : (method (f + 1) 110 (.agg #[a, b]) "loop.example/fpgatoolchain/impl.cell").run Tryz.prog w = .ok (160, .agg #[a, b]) w := by kernel_rfl
theorem Tryz.meth_lut (f : Nat) (a b c : Value) (w : World) : (method (f + 1) 111 (.agg #[a, b, c]) "loop.example/fpgatoolchain/impl.cell").run Tryz.prog w = .ok (162, .agg #[a, b, c]) w := by kernel_rfl
end Go.Proofs.YtliedgaefgomjaaGreat
/- The contract of the program's parts. -/
namespace Go.Proofs.YtliedgaefgomjaaGreat
open Go.RowKit Go.Deep Cut

theorem lutPs_step {hs : List Value} {j : Nat} {a b c : Value} (h0 : hs[j * 3]? = some a) (h1 : hs[j * 3 + 1]? = some b) (h2 : hs[j * 3 + 2]? = some c) : lutPs hs (j + 1) = lutPs hs j ++ [lutP a b c] := by
  show lutPs hs j ++ [lutP (hs.getD (j * 3) (.bool false)) (hs.getD (j * 3 + 1) (.bool false)) (hs.getD (j * 3 + 2) (.bool false))] = _
  simp only [List.getD_eq_getElem?_getD, h0, h1, h2, Option.getD_some]
theorem natL_get (xs : List Int) (k : Nat) (hk : k < xs.length) (h : 0 ≤ xs.getD k 0) : xs.getD k 0 = ((Opt.natL xs).getD k 0 : Nat) := by
  unfold Opt.natL
  simp [List.getD_eq_getElem?_getD, hk] at h ⊢
  omega

set_option maxRecDepth 10000 in
set_option maxHeartbeats 1000000 in
theorem parts_any (m : Nat) (nA gA oA : Option Addr) (nc gc oc : Nat) (ns : List Int) (gs : List (Int × Int)) (os : List Int) (w : World) (hv : Circ.validB (m : Int) ns gs os = true) (hc : CircAt w w.heap.size nA gA oA ns gs os) (hgc : gs.length ≤ gc) :
    Calls Tryz.prog 34 #[.agg #[.int .i64 m, .slice nA ns.length nc, .slice gA gs.length gc, .slice oA os.length oc]] w fun e w' => ∃ (g cap gl cl : Nat) (hs : List Value), e = .returned (.slice (some ⟨g, 0, none⟩) (ns.length + (lutsV (Opt.fst m ns) (Opt.natG gs) (Opt.natL ns) (Opt.natL os)).length) cap) ∧ PartsAt w' w.heap.size (regPs (1 + m) (Opt.natL ns) ns.length ++ lutPs hs (lutsV (Opt.fst m ns) (Opt.natG gs) (Opt.natL ns) (Opt.natL os)).length) (ns.length + (lutsV (Opt.fst m ns) (Opt.natG gs) (Opt.natL ns) (Opt.natL os)).length) g cap ∧ LuAt w' w.heap.size (lutsV (Opt.fst m ns) (Opt.natG gs) (Opt.natL ns) (Opt.natL os)) hs gl cl ∧ DistH hs ∧ Below w.heap.size w w' := by
  obtain ⟨h0, h1, h2, h3, h4⟩ := Circ.valid_within hv
  have hnx := Circ.valid_next hv
  have HN := Lib.hid (show ∀ k, k < ns.length → ∃ l : Nat, ns.getD k 0 = (l : Int) ∧ (Opt.natL ns).getD k 0 = l ∧ l ≤ 1000 from fun k hk => by
    have := Circ.litsOk_get hnx hk
    have e := natL_get ns k hk (by omega)
    exact ⟨_, e, rfl, by omega⟩)
  obtain ⟨es, hes⟩ : ∃ es, lutsV (Opt.fst m ns) (Opt.natG gs) (Opt.natL ns) (Opt.natL os) = es := ⟨_, rfl⟩
  have hln : es.length ≤ 14 := by
    have := lutsTo_len (Opt.fst m ns) (Opt.natG gs) (bests (Opt.fst m ns) (Opt.natG gs)) (needV (Opt.fst m ns) (Opt.natG gs) (Opt.natL ns) (Opt.natL os)) (Opt.natG gs).length
    have hgl : (Opt.natG gs).length = gs.length := Opt.natG_len gs
    rw [← hes]
    show (lutsTo _ _ _ _ _).length ≤ 14
    omega
  rw [hes]
  have HES := Lib.hid hes
  have HV := Lib.hid hv
  obtain ⟨n, hn⟩ : ∃ n, es.length = n := ⟨_, rfl⟩
  rw [hn] at hln ⊢
  have HEN := Lib.hid hn
  have HB0 := Lib.hid (Boxed.new w (m : Int) nA gA oA ns.length nc gs.length gc os.length oc 26)
  have hbw : Below w.heap.size w (w.alloc (.cells #[.int .i64 m, .slice nA ns.length nc, .slice gA gs.length gc, .slice oA os.length oc] 26)) := (Below.refl _ _).alloc (Nat.le_refl _) _
  have hsz0 : (w.alloc (.cells #[.int .i64 m, .slice nA ns.length nc, .slice gA gs.length gc, .slice oA os.length oc] 26)).heap.size = w.heap.size + 1 := by simp
  have HC1 := Lib.hid ((hc.below hbw).mono hbw.size)
  have HZ0 := Lib.hid hsz0
  have HL0 := Lib.hid hbw
  obtain ⟨ls, hls⟩ : ∃ ls, Opt.natL ns = ls := ⟨_, rfl⟩
  rw [hls] at HN ⊢
  clear hv hc hnx hes hn hbw hsz0 hls
  go_enter Tryz.func34, Tryz.ntmps34
  go_upto_region 1 with fail
  generalize w.alloc (.cells #[.int .i64 m, .slice nA ns.length nc, .slice gA gs.length gc, .slice oA os.length oc] 26) = w1 at *
  have hww1 : w.heap.size < w1.heap.size := by have := HZ0.out; omega
  have q0 := HB0.out.c0
  have q1 := HB0.out.c1
  have HP0 := Lib.hid (PartsAt.made w1 w1.heap.size (Nat.le_refl _))
  have HBA := Lib.hid (show Below w1.heap.size w1 (w1.alloc (.cells #[] 74)) from (Below.refl _ _).alloc (Nat.le_refl _) _)
  go_upto_region 3 with fail
  generalize w1.alloc (.cells #[] 74) = w2 at *
  clear q0 q1
  generalize w1.heap.size = N at *
  have hNw : w.heap.size < N := hww1
  go_loopw [3, 12] (fun pv iv wr => ∃ (k g cap : Nat), k ≤ ns.length ∧ iv = .int .i64 k ∧ pv = .slice (some ⟨g, 0, none⟩) k cap ∧ Hid (PartsAt wr N (regPs (1 + m) ls k) k g cap) ∧ Hid (Below N w1 wr)) (fun _ iv _ => ns.length - (intOf iv).toNat)
  case atStart => exact ⟨0, _, _, Nat.zero_le _, rfl, rfl, HP0, HBA⟩
  case round =>
    clear HP0 HBA
    obtain ⟨k, g, cap, hk, rfl, rfl, HP, HBr⟩ := hrel
    by_cases hlt : k < ns.length
    · obtain ⟨b, off, rfl, hbl, hcell⟩ := HC1.out.next k hlt
      obtain ⟨l, e1, e2, hl⟩ := HN.out k hlt
      rw [e1] at hcell
      have hcr := (HBr.out.cell (p := ⟨b, off + k, none⟩) hbl).trans hcell
      have HRP : Hid (regPs (1 + m) ls (k + 1) = regPs (1 + m) ls k ++ [regP (1 + m + k) l]) := Lib.hid (by rw [← e2]; rfl)
      have HBx := Lib.hid (HB0.out.below HBr.out hNw)
      have q0 := HBx.out.c0
      clear hcell e1 e2
      generalize regPs (1 + m) ls k = ps at *
      go_wp2_with (at_builtin; refine wpList_pushP rfl (.tmp 17) (.tmp 26) rfl _ N g cap k ps rfl HP.out (by omega) _ rfl rfl ?_)
      intro g' cap' w3 hp3 hb3 _ _
      have HP3 : Hid (PartsAt w3 N (ps ++ [regP (1 + m + k) l]) (k + 1) g' cap') := Lib.hid (by
        have e : ((1 + m + k : Nat) : Int) = (1 : Int) + m + k := by omega
        unfold regP
        rw [e]
        exact hp3)
      have HB3 := Lib.hid (HBr.out.trans hb3)
      clear hp3 hb3 q0 hcr
      go_wp2
      go_roundw
      case rel => exact ⟨k + 1, g', cap', by omega, by go_num, rfl, by rw [HRP.out]; exact HP3, HB3⟩
      case measure => simp [intOf]; omega
    · obtain rfl : k = ns.length := by omega
      have hgN := HP.out.gb
      have hNr : N ≤ wr.heap.size := by omega
      have HBx := Lib.hid (HB0.out.below HBr.out hNw)
      have HCr := Lib.hid ((HC1.out.below HBr.out).mono hNr)
      have q0 := HBx.out.c0
      have q1 := HBx.out.c1
      have q2 := HBx.out.c2
      have q3 := HBx.out.c3
      go_wp2_with fail
      have hV2 := HV.out
      refine (imap_t (m : Int) nA gA oA nc gc oc ns gs os _ HV.out HCr.out hgc).mono ?_
      rintro e w4 ⟨gl, cl, hs, rfl, hx4, hd4, hb4⟩
      rw [HES.out, HEN.out]
      rw [HES.out] at hx4
      have HD := Lib.hid hd4
      have HU4 := Lib.hid hx4
      have HP4 := Lib.hid (HP.out.on hb4)
      have HB4 := Lib.hid (HBr.out.trans (hb4.mono hNr))
      have HBx4 := Lib.hid (HBx.out.below hb4 (by omega))
      have hz4 := hb4.size
      have hg4 : g < w4.heap.size := by omega
      generalize hr : wr.heap.size = R at *
      have hgR : g < R := by omega
      have hNR : N ≤ R := by omega
      clear hx4 hd4 hb4 HP HBr q0 q1 q2 q3 hr HBx hV2
      have HPz : Hid (PartsAt w4 N (regPs (1 + m) ls ns.length ++ lutPs hs 0) (ns.length + 0) g cap) := Lib.hid (by show PartsAt w4 N (regPs (1 + m) ls ns.length ++ []) ns.length g cap; rw [List.append_nil]; exact HP4.out)
      have hgo : g < R ∨ w4.heap.size ≤ g := .inl hgR
      clear HP4
      go_upto_region 8 with fail
      go_loopw [3, 32] (fun pv iv wr => ∃ (j g cap : Nat), j ≤ n ∧ iv = .int .i64 j ∧ pv = .slice (some ⟨g, 0, none⟩) (ns.length + j : Nat) cap ∧ Hid (PartsAt wr N (regPs (1 + m) ls ns.length ++ lutPs hs j) (ns.length + j) g cap) ∧ Hid (∀ b, R ≤ b → b < w4.heap.size → wr.heap[b]? = w4.heap[b]?) ∧ (g < R ∨ w4.heap.size ≤ g) ∧ Hid (Below N w1 wr)) (fun _ iv _ => n - (intOf iv).toNat)
      case atStart => exact ⟨0, g, cap, Nat.zero_le _, rfl, rfl, HPz, Lib.hid (fun _ _ _ => rfl), hgo, HB4⟩
      case round =>
        clear HPz hgo
        obtain ⟨j, g, cap, hj, rfl, rfl, HP, HK, hgo, HBr⟩ := hrel
        have hz4r : w4.heap.size ≤ wr.heap.size := by
          have h1 := HU4.out.gb
          rcases Nat.lt_or_ge (wr.heap.size) w4.heap.size with h | h
          · have h2 := HK.out (w4.heap.size - 1) (by omega) (by omega)
            rw [Array.getElem?_eq_none (by omega), Array.getElem?_eq_getElem (by omega)] at h2
            cases h2
          · exact h
        have HU := Lib.hid (LuAt.keep HU4.out HK.out hz4r)
        by_cases hltj : j < n
        · obtain ⟨b, off, hbo, hbl, A', c', l0, l1, l2, hlf⟩ := HU.out.read j (by rw [HEN.out]; exact hltj)
          injection hbo with hbo
          injection hbo with y1 y2
          subst y1 y2
          rw [Nat.zero_add] at l0 l1 l2
          have hwz : R ≤ wr.heap.size := by have := HU.out.gb; omega
          obtain ⟨hB', hgl'⟩ := HP.out.gb
          obtain ⟨A2, c2, e0, e1, e2, hlx⟩ := HU.out.2.2 j (by rw [HEN.out]; exact hltj)
          have hcA : A2 = A' ∧ c2 = c' := by
            obtain ⟨cur, hrow, _, _, _, hll, hget⟩ := own_partsE HU.out.1
            have h := hrow.cell (j * 3 + 1)
            rw [hget _ (by rw [HEN.out]; omega), e1, l1] at h
            injection h with h
            injection h with h1 _ h3
            exact ⟨h1.symm, h3.symm⟩
          obtain ⟨rfl, rfl⟩ := hcA
          have HLP : Hid (lutPs hs (j + 1) = lutPs hs j ++ [lutP (.int .i64 ((es.getD j (0, [], 0)).1 : Nat)) (.slice A2 (es.getD j (0, [], 0)).2.1.length c2) (.int .i64 ((es.getD j (0, [], 0)).2.2 : Nat))]) := Lib.hid (lutPs_step e0 e1 e2)
          clear hlf hlx e0 e1 e2
          generalize (es.getD j (0, [], 0)).2.2 = t at *
          generalize (es.getD j (0, [], 0)).2.1.length = yl at *
          generalize (es.getD j (0, [], 0)).1 = v at *
          go_upto_region 10 with fail
          have hb5 : Below wr.heap.size wr (wr.alloc (.cells #[.int .i64 v, .slice A2 yl c2, .int .i64 t] 108)) := (Below.refl _ _).alloc (Nat.le_refl _) _
          have hr5 : Row (wr.alloc (.cells #[.int .i64 v, .slice A2 yl c2, .int .i64 t] 108)) wr.heap.size 108 #[.int .i64 v, .slice A2 yl c2, .int .i64 t] := heap_alloc_new wr _
          have hz5 : wr.heap.size ≤ (wr.alloc (.cells #[.int .i64 v, .slice A2 yl c2, .int .i64 t] 108)).heap.size := hb5.size
          have HP5 := Lib.hid (HP.out.on hb5)
          have HK5 : Hid (∀ b, R ≤ b → b < w4.heap.size → (wr.alloc (.cells #[.int .i64 v, .slice A2 yl c2, .int .i64 t] 108)).heap[b]? = w4.heap[b]?) := Lib.hid (fun b h1 h2 => by rw [hb5.block b (by omega), HK.out b h1 h2])
          have HB5 := Lib.hid (HBr.out.trans (hb5.mono (by omega)))
          generalize wr.alloc (.cells #[.int .i64 v, .slice A2 yl c2, .int .i64 t] 108) = w5 at *
          generalize wr.heap.size = q at *
          have p0 := hr5.cell 0
          have p1 := hr5.cell 1
          have p2 := hr5.cell 2
          simp at p0 p1 p2
          clear hr5 hb5 HP HU HBr l0 l1 l2
          generalize hps : regPs (1 + m) ls ns.length ++ lutPs hs j = ps at *
          have HPE : Hid (regPs (1 + m) ls ns.length ++ lutPs hs (j + 1) = ps ++ [lutP (.int .i64 v) (.slice A2 yl c2) (.int .i64 t)]) := Lib.hid (by rw [HLP.out, ← hps, List.append_assoc])
          clear hps
          have ej : ((ns.length : Int) + (j : Int)) = ((ns.length + j : Nat) : Int) := by omega
          have hnj : ns.length + j ≤ 1000 := by omega
          go_wp2_with (at_builtin; refine wpList_pushP rfl (.tmp 36) (.tmp 39) rfl _ N g cap (ns.length + j) ps rfl HP5.out hnj _ rfl rfl ?_)
          intro g' cap' w6 hp6 hb6 hk6 hg6
          have hzN : N ≤ w5.heap.size := by omega
          have HP6 : Hid (PartsAt w6 N (ps ++ [lutP (.int .i64 v) (.slice A2 yl c2) (.int .i64 t)]) (ns.length + (j + 1)) g' cap') := Lib.hid hp6
          have HK6 : Hid (∀ b, R ≤ b → b < w4.heap.size → w6.heap[b]? = w4.heap[b]?) := Lib.hid (fun b h1 h2 => by rw [hk6 b (by omega) (by omega), HK5.out b h1 h2])
          have HB6 := Lib.hid (HB5.out.trans hb6)
          have hgo6 : g' < R ∨ w4.heap.size ≤ g' := by omega
          clear hp6 hb6 hk6 p0 p1 p2 ej
          go_wp2
          go_roundw
          case rel => exact ⟨j + 1, g', cap', by omega, by go_num, rfl, by rw [HPE.out]; exact HP6, HK6, hgo6, HB6⟩
          case measure => simp [intOf]; omega
        · obtain rfl : j = n := by omega
          go_wp2
          go_ret
          exact ⟨g, cap, gl, cl, hs, rfl, own_low2 HP.out (by omega), HU.out.low (by omega), HD.out, HL0.out.trans (HBr.out.mono (by omega))⟩
end Go.Proofs.YtliedgaefgomjaaGreat
/- The contract of the program's Cells. -/
namespace Go.Proofs.YtliedgaefgomjaaGreat
open Go.RowKit Go.Deep Cut

/-- The cells of any circuit. -/
def cellsV (i : Int) (ns : List Int) (gs : List (Int × Int)) (os : List Int) : List Cl := if Circ.validB i ns gs os = true then regsTo (1 + i.toNat) (Opt.natL ns) ns.length ++ lutsC (lutsV (Opt.fst i ns) (Opt.natG gs) (Opt.natL ns) (Opt.natL os)) else []
/-- The headers of the first k tables' cells. -/
def lutHd (hs : List Value) : Nat → List Value
  | 0 => []
  | k + 1 => lutHd hs k ++ [hs.getD (k * 3) (.bool false), hs.getD (k * 3 + 1) (.bool false), hs.getD (k * 3 + 2) (.bool false), .bool false]
theorem lutHd_len (hs : List Value) : ∀ k, (lutHd hs k).length = k * 4
  | 0 => rfl
  | k + 1 => by simp [lutHd, lutHd_len hs k]; omega
theorem lutHd_at (hs : List Value) : ∀ k p u b, (lutHd hs k)[p]? = some u → vblk u = some b → p / 4 < k ∧ ∃ r, r < 3 ∧ p = p / 4 * 4 + r ∧ hs[p / 4 * 3 + r]? = some u
  | 0, p, u, b, h, _ => by simp [lutHd] at h
  | k + 1, p, u, b, h, hb => by
    unfold lutHd at h
    have hl := lutHd_len hs k
    by_cases e : p < k * 4
    · rw [List.getElem?_append_left (by omega)] at h
      obtain ⟨h1, h2⟩ := lutHd_at hs k p u b h hb
      exact ⟨by omega, h2⟩
    · rw [List.getElem?_append_right (by omega), hl] at h
      have key : ∀ n, (hs.getD n (.bool false)) = u → hs[n]? = some u := fun n hn => by
        rw [List.getD_eq_getElem?_getD] at hn
        cases hx : hs[n]? with
        | none => rw [hx] at hn; simp at hn; subst hn; cases hb
        | some v => rw [hx] at hn; simp at hn; rw [hn]
      have hp4 : p - k * 4 < 4 := by
        have := (List.getElem?_eq_some_iff.1 h).1
        simpa using this
      rcases (by omega : p = k * 4 ∨ p = k * 4 + 1 ∨ p = k * 4 + 2 ∨ p = k * 4 + 3) with e | e | e | e
      · subst e
        rw [Nat.sub_self] at h
        injection h with h
        have e4 : k * 4 / 4 = k := by omega
        rw [e4]
        exact ⟨by omega, 0, by omega, rfl, key _ h⟩
      · subst e
        rw [Nat.add_sub_cancel_left] at h
        injection h with h
        have e4 : (k * 4 + 1) / 4 = k := by omega
        rw [e4]
        exact ⟨by omega, 1, by omega, rfl, key _ h⟩
      · subst e
        rw [Nat.add_sub_cancel_left] at h
        injection h with h
        have e4 : (k * 4 + 2) / 4 = k := by omega
        rw [e4]
        exact ⟨by omega, 2, by omega, rfl, key _ h⟩
      · subst e
        rw [Nat.add_sub_cancel_left] at h
        injection h with h
        subst h
        cases hb
theorem lutHd_dist {hs : List Value} (hd : DistH hs) (k : Nat) : DistH (lutHd hs k) := fun p q hpq u v hu hv b hb hb' => by
  obtain ⟨_, r, hr, e, h1⟩ := lutHd_at hs k p u b hu hb
  obtain ⟨_, r', hr', e', h2⟩ := lutHd_at hs k q v b hv hb'
  exact hd (p / 4 * 3 + r) (q / 4 * 3 + r') (by omega) u v h1 h2 b hb hb'
theorem dist_app {xs ys : List Value} {Q : Nat} (hx : DistH xs) (hy : DistH ys) (h1 : ∀ u, u ∈ xs → ∀ b, vblk u = some b → Q ≤ b) (h2 : ∀ u, u ∈ ys → ∀ b, vblk u = some b → b < Q) : DistH (xs ++ ys) := fun p q hpq u v hu hv b hb hb' => by
  by_cases e : q < xs.length
  · rw [List.getElem?_append_left (by omega)] at hu hv
    exact hx p q hpq u v hu hv b hb hb'
  · rw [List.getElem?_append_right (by omega)] at hv
    by_cases e' : p < xs.length
    · rw [List.getElem?_append_left e'] at hu
      have a1 := h1 u (List.mem_of_getElem? hu) b hb
      have a2 := h2 v (List.mem_of_getElem? hv) b hb'
      omega
    · rw [List.getElem?_append_right (by omega)] at hu
      exact hy (p - xs.length) (q - xs.length) (by omega) u v hu hv b hb hb'
theorem vblk_slice {a b n c d : Nat} (h : vblk (.slice (some ⟨a, b, none⟩) n c) = some d) : d = a := by
  cases n with
  | zero => cases h
  | succ n => injection h with h; exact h.symm
theorem dist_snoc4 {xs : List Value} {N v gx m c t : Nat} {r : Bool} (h : DistH xs) (hl : ∀ u, u ∈ xs → ∀ b, vblk u = some b → b < N) (hg : N ≤ gx) : DistH (xs ++ [.int .i64 v, .slice (some ⟨gx, 0, none⟩) m c, .int .i64 t, .bool r]) := by
  have e : xs ++ [.int .i64 v, .slice (some ⟨gx, 0, none⟩) m c, .int .i64 t, .bool r] = (((xs ++ [.int .i64 v]) ++ [.slice (some ⟨gx, 0, none⟩) m c]) ++ [.int .i64 t]) ++ [.bool r] := by simp
  rw [e]
  have l1 : ∀ u, u ∈ xs ++ [Value.int .i64 v] → ∀ b, vblk u = some b → b < N := fun u hu b hb => by
    rcases List.mem_append.1 hu with h | h
    · exact hl u h b hb
    · simp at h; subst h; cases hb
  have l2 : ∀ u, u ∈ (xs ++ [Value.int .i64 v]) ++ [.slice (some ⟨gx, 0, none⟩) m c] → ∀ b, vblk u = some b → b < gx + 1 := fun u hu b hb => by
    rcases List.mem_append.1 hu with h | h
    · have := l1 u h b hb; omega
    · simp at h; subst h; have := vblk_slice hb; omega
  have l3 : ∀ u, u ∈ ((xs ++ [Value.int .i64 v]) ++ [.slice (some ⟨gx, 0, none⟩) m c]) ++ [.int .i64 t] → ∀ b, vblk u = some b → b < gx + 1 := fun u hu b hb => by
    rcases List.mem_append.1 hu with h | h
    · exact l2 u h b hb
    · simp at h; subst h; cases hb
  refine DistH.snoc (N := gx + 1) (DistH.snoc (N := gx + 1) (DistH.snoc (N := N) (DistH.snoc (N := N) h hl ?_) l1 ?_) l2 ?_) l3 ?_
  · intro b hb; cases hb
  · intro b hb; have := vblk_slice hb; omega
  · intro b hb; cases hb
  · intro b hb; cases hb
/-- The blocks of the tables' leaves. -/
theorem lu_blk {w : World} {S : Nat → Prop} {hs : List Value} {es : List Lt} (h : LuHdrs w S hs es) : ∀ u, u ∈ hs → ∀ b, vblk u = some b → S b := fun u hu b hb => by
  obtain ⟨p, hp⟩ := List.mem_iff_getElem?.1 hu
  have hl := h.1
  have hpl := (List.getElem?_eq_some_iff.1 hp).1
  obtain ⟨A', c', e0, e1, e2, hx⟩ := h.2 (p / 3) (by omega)
  rcases (by omega : p = p / 3 * 3 ∨ p = p / 3 * 3 + 1 ∨ p = p / 3 * 3 + 2) with e | e | e
  · rw [e, e0] at hp; injection hp with hp; subst hp; cases hb
  · rw [e, e1] at hp
    injection hp with hp
    subst hp
    rcases hx with hx | ⟨b', cs, eA, hS, _⟩
    · rw [hx] at hb; cases A' <;> cases hb
    · subst eA
      generalize (es.getD (p / 3) (0, [], 0)).2.1.length = m at *
      cases m with
      | zero => cases hb
      | succ m => injection hb with hb; subst hb; exact hS
  · rw [e, e2] at hp; injection hp with hp; subst hp; cases hb
theorem lutHd_blk {w : World} {S : Nat → Prop} {hs : List Value} {es : List Lt} (h : LuHdrs w S hs es) (k : Nat) : ∀ u, u ∈ lutHd hs k → ∀ b, vblk u = some b → S b := fun u hu b hb => by
  obtain ⟨p, hp⟩ := List.mem_iff_getElem?.1 hu
  obtain ⟨_, r, _, _, h1⟩ := lutHd_at hs k p u b hp hb
  exact lu_blk h u (List.mem_of_getElem? h1) b hb
end Go.Proofs.YtliedgaefgomjaaGreat
/- The contract of the program's Cells: the walk. -/
namespace Go.Proofs.YtliedgaefgomjaaGreat
open Go.RowKit Go.Deep Cut

set_option maxRecDepth 10000 in
set_option maxHeartbeats 1000000 in
theorem icells_t (i : Int) (nA gA oA : Option Addr) (nc gc oc : Nat) (ns : List Int) (gs : List (Int × Int)) (os : List Int) (w : World) (hv : Circ.validB i ns gs os = true) (hc : CircAt w w.heap.size nA gA oA ns gs os) (hgc : gs.length ≤ gc) :
    Calls Tryz.prog 12 #[.agg #[.int .i64 i, .slice nA ns.length nc, .slice gA gs.length gc, .slice oA os.length oc]] w fun e w' => ∃ (g cap : Nat) (hs : List Value), e = .returned (.slice (some ⟨g, 0, none⟩) (cellsV i ns gs os).length cap) ∧ CeAt w' w.heap.size (cellsV i ns gs os) hs g cap ∧ DistH hs ∧ Below w.heap.size w w' := by
  obtain ⟨h0, h1, h2, h3, h4⟩ := Circ.valid_within hv
  obtain ⟨m, rfl⟩ := Int.eq_ofNat_of_zero_le h0
  have hnx := Circ.valid_next hv
  have HN := Lib.hid (show ∀ k, k < ns.length → (Opt.natL ns).getD k 0 ≤ 1000 from fun k hk => by
    have := Circ.litsOk_get hnx hk
    have e := natL_get ns k hk (by omega)
    omega)
  have hce : cellsV m ns gs os = regsTo (1 + m) (Opt.natL ns) ns.length ++ lutsC (lutsV (Opt.fst m ns) (Opt.natG gs) (Opt.natL ns) (Opt.natL os)) := by unfold cellsV; rw [if_pos hv]; rfl
  obtain ⟨es, hes⟩ : ∃ es, lutsV (Opt.fst m ns) (Opt.natG gs) (Opt.natL ns) (Opt.natL os) = es := ⟨_, rfl⟩
  have hln : es.length ≤ 14 := by
    have := lutsTo_len (Opt.fst m ns) (Opt.natG gs) (bests (Opt.fst m ns) (Opt.natG gs)) (needV (Opt.fst m ns) (Opt.natG gs) (Opt.natL ns) (Opt.natL os)) (Opt.natG gs).length
    have hgl : (Opt.natG gs).length = gs.length := Opt.natG_len gs
    rw [← hes]
    show (lutsTo _ _ _ _ _).length ≤ 14
    omega
  rw [hes] at hce
  have HES := Lib.hid hes
  have HV := Lib.hid hv
  obtain ⟨n, hn⟩ : ∃ n, es.length = n := ⟨_, rfl⟩
  rw [hn] at hln
  have HEN := Lib.hid hn
  obtain ⟨ls, hls⟩ : ∃ ls, Opt.natL ns = ls := ⟨_, rfl⟩
  rw [hls] at HN hce
  have HLS := Lib.hid hls
  obtain ⟨ce, hcc⟩ : ∃ ce, cellsV m ns gs os = ce := ⟨_, rfl⟩
  rw [hcc] at hce ⊢
  obtain ⟨M, hM⟩ : ∃ M, ns.length + n = M := ⟨_, rfl⟩
  have HCL : Hid (ce.length = M) := Lib.hid (by rw [hce, List.length_append, regsTo_len, lutsC_len, hn, hM])
  have HC1 : Hid (∀ k, k < ns.length → ce.getD k (0, [], 0, false) = (1 + m + k, nextY (ls.getD k 0), nextT (ls.getD k 0), true)) := Lib.hid (fun k hk => by
    rw [hce, Circ.getD_app_lt _ _ _ _ (by rw [regsTo_len]; exact hk)]
    exact regsTo_at _ _ _ _ hk)
  have HC2 : Hid (∀ j, j < n → ce.getD (ns.length + j) (0, [], 0, false) = ((es.getD j (0, [], 0)).1, (es.getD j (0, [], 0)).2.1, (es.getD j (0, [], 0)).2.2, false)) := Lib.hid (fun j hj => by
    have h := lutsC_at es j (by rw [hn]; exact hj)
    rw [← h, hce]
    simp only [List.getD_eq_getElem?_getD]
    rw [List.getElem?_append_right (by rw [regsTo_len]; omega), regsTo_len, Nat.add_sub_cancel_left])
  rw [HCL.out]
  have HM := Lib.hid hM
  have hM17 : M ≤ 17 := by omega
  have HB0 := Lib.hid (Boxed.new w (m : Int) nA gA oA ns.length nc gs.length gc os.length oc 26)
  have hbw : Below w.heap.size w (w.alloc (.cells #[.int .i64 m, .slice nA ns.length nc, .slice gA gs.length gc, .slice oA os.length oc] 26)) := (Below.refl _ _).alloc (Nat.le_refl _) _
  have hlt0 : w.heap.size < (w.alloc (.cells #[.int .i64 m, .slice nA ns.length nc, .slice gA gs.length gc, .slice oA os.length oc] 26)).heap.size := by simp
  have HC := Lib.hid ((hc.below hbw).mono hbw.size)
  have HL0 := Lib.hid hbw
  have hv0 := hv
  clear hv hc hnx hes hn hbw hls hce hcc
  go_enter Tryz.func12, Tryz.ntmps12
  go_upto_region 1 with fail
  generalize w.alloc (.cells #[.int .i64 m, .slice nA ns.length nc, .slice gA gs.length gc, .slice oA os.length oc] 26) = w0 at *
  have q0 := HB0.out.c0
  have q1 := HB0.out.c1
  have q2 := HB0.out.c2
  have q3 := HB0.out.c3
  clear hv0
  go_wp2_with fail
  refine (valid_any (m : Int) nA gA oA nc gc oc ns gs os _ HC.out).mono ?_
  rintro e w1 ⟨rfl, hb1⟩
  rw [HV.out]
  have HB1 := Lib.hid (HB0.out.below hb1 hlt0)
  have HCa := Lib.hid ((HC.out.below hb1).mono hb1.size)
  have HL1 := Lib.hid (HL0.out.trans (hb1.mono HL0.out.size))
  have hlt1 : w.heap.size < w1.heap.size := by have := hb1.size; omega
  clear hb1 q0 q1 q2 q3 HB0 HC HL0
  go_upto_region 4 with fail
  have hba : Below w1.heap.size w1 (w1.alloc (.cells #[] 45)) := (Below.refl _ _).alloc (Nat.le_refl _) _
  have HU0 := Lib.hid (CeAt.made w1 w1.heap.size (Nat.le_refl _))
  have HB2 := Lib.hid (HB1.out.below hba hlt1)
  have HC2a := Lib.hid ((HCa.out.below hba).mono hba.size)
  have HX2 := Lib.hid hba
  have hz2 : (w1.alloc (.cells #[] 45)).heap.size = w1.heap.size + 1 := by simp
  have HZ2 := Lib.hid hz2
  generalize w1.alloc (.cells #[] 45) = w2 at *
  have hNP : w1.heap.size < w2.heap.size := by omega
  generalize w1.heap.size = N at *
  clear hba hz2
  have q0 := HB2.out.c0
  have q1 := HB2.out.c1
  have q2 := HB2.out.c2
  have q3 := HB2.out.c3
  go_wp2_with fail
  refine (parts_any m nA gA oA nc gc oc ns gs os _ HV.out HC2a.out hgc).mono ?_
  rintro e w3 ⟨gp, cp, gl, cl, hs, rfl, hp3, hu3, hd3, hb3⟩
  rw [HES.out, HEN.out, HLS.out] at hp3
  rw [HES.out] at hu3
  rw [HES.out, HEN.out, HM.out]
  rw [HM.out] at hp3
  have HP := Lib.hid hp3
  have HU := Lib.hid hu3
  have HD := Lib.hid hd3
  have hPQ : w2.heap.size ≤ w3.heap.size := hb3.size
  have HX3 := Lib.hid (HX2.out.trans (hb3.mono (by omega)))
  have HUc := Lib.hid (CeAt.on HU0.out hb3)
  generalize hP : w2.heap.size = P at *
  clear hP hp3 hu3 hd3 hb3 HU0 q0 q1 q2 q3 HB2 HC2a HX2
  go_upto_region 5 with fail
  go_loopw [3, 13] (fun pv iv wr => ∃ (k g cap : Nat) (hR : List Value), k ≤ M ∧ iv = .int .i64 k ∧ pv = .slice (some ⟨g, 0, none⟩) k cap ∧ Hid (CeAt wr N (ce.take k) (hR ++ lutHd hs (k - ns.length)) g cap) ∧ Hid (DistH hR) ∧ Hid (∀ u, u ∈ hR → ∀ b, vblk u = some b → w3.heap.size ≤ b ∧ b < wr.heap.size) ∧ Hid (∀ b, P ≤ b → b < w3.heap.size → wr.heap[b]? = w3.heap[b]?) ∧ (g < P ∨ w3.heap.size ≤ g) ∧ w3.heap.size ≤ wr.heap.size ∧ Hid (Below N w1 wr)) (fun _ iv _ => M - (intOf iv).toNat)
  case atStart => exact ⟨0, _, _, [], Nat.zero_le _, rfl, rfl, by rw [Nat.zero_sub]; exact HUc, Lib.hid DistH.nil, Lib.hid (fun u hu => by cases hu), Lib.hid (fun _ _ _ => rfl), by omega, Nat.le_refl _, HX3⟩
  case round =>
    clear HUc HX3
    obtain ⟨k, g, cap, hR, hk, rfl, rfl, HUc, HDR, HBR, HK, hgo, hQr, HX⟩ := hrel
    by_cases hlt : k < M
    · by_cases hkr : k < ns.length
      · have hpc : wr.cell? ⟨gp, k, none⟩ = some (regP (1 + m + k) (ls.getD k 0)) := by
          have hgb := HP.out.gb
          have h := HP.out.cell hlt (p := regP (1 + m + k) (ls.getD k 0)) (by rw [List.getElem?_append_left (by rw [regPs_len]; exact hkr)]; exact regPs_at _ _ _ _ hkr)
          rw [← h]
          exact World.cell?_of_block (a := ⟨gp, k, none⟩) (HK.out gp hgb.1 hgb.2)
        have hce := HC1.out k hkr
        have hl := HN.out k hkr
        have hk0 : k - ns.length = 0 := by omega
        have HTK : Hid (ce.take (k + 1) = ce.take k ++ [(1 + m + k, nextY (ls.getD k 0), nextT (ls.getD k 0), true)]) := Lib.hid (by
          rw [take_succ_getD ce k (0, [], 0, false) (by rw [HCL.out]; exact hlt), hce])
        rw [hk0] at HUc
        have hk1 : k + 1 - ns.length = 0 := by omega
        have HK1 := Lib.hid hk1
        generalize ls.getD k 0 = l at *
        have HTL : Hid ((ce.take k).length = k) := Lib.hid (by rw [List.length_take, HCL.out]; omega)
        generalize ce.take k = cs at *
        clear hce hk0 hk1
        unfold regP at hpc
        go_wp2_with fail
        rw [Tryz.meth_reg]
        go_wp2_with fail
        have ev : (1 : Int) + (m : Int) + (k : Int) = ((1 + m + k : Nat) : Int) := by omega
        rw [ev]
        refine (regCell_any (1 + m + k) l (by omega) _).mono ?_
        rintro e w4 ⟨gx, rfl, hx1, hx2, hlf, hb4⟩
        have hgb := HUc.out.gb
        have hz4 := hb4.size
        have HU4 := Lib.hid (CeAt.on HUc.out hb4)
        have HX4 := Lib.hid (HX.out.trans (hb4.mono (by omega)))
        have HK4 : Hid (∀ b, P ≤ b → b < w3.heap.size → w4.heap[b]? = w3.heap[b]?) := Lib.hid (fun b h1 h2 => by rw [hb4.block b (by omega), HK.out b h1 h2])
        have HLF : Hid (LeafIn w4 (Off w4 N g) (some ⟨gx, 0, none⟩) (nextY l)) := Lib.hid (hlf.kept (fun _ _ => rfl) (fun b hb => by subst hb; exact ⟨by omega, hx2, by omega⟩))
        have HD4 : Hid (DistH (hR ++ [.int .i64 (1 + m + k : Nat), .slice (some ⟨gx, 0, none⟩) (nextY l).length (nextY l).length, .int .i64 (nextT l : Nat), .bool true])) := Lib.hid (dist_snoc4 (N := wr.heap.size) HDR.out (fun u hu b hb => (HBR.out u hu b hb).2) hx1)
        have HB4 : Hid (∀ u, u ∈ hR ++ [.int .i64 (1 + m + k : Nat), .slice (some ⟨gx, 0, none⟩) (nextY l).length (nextY l).length, .int .i64 (nextT l : Nat), .bool true] → ∀ b, vblk u = some b → w3.heap.size ≤ b ∧ b < w4.heap.size) := Lib.hid (fun u hu b hb => by
          rcases List.mem_append.1 hu with h | h
          · have := HBR.out u h b hb; omega
          · simp at h
            rcases h with h | h | h | h
            · subst h; cases hb
            · subst h; have := vblk_slice hb; omega
            · subst h; cases hb
            · subst h; cases hb)
        have hgw4 : g < w4.heap.size := by omega
        clear hb4 hlf HUc HX HK HDR HBR hpc ev
        generalize hyl : (nextY l).length = yl at *
        have HYL := Lib.hid hyl
        clear hyl
        go_wp2_with (at_builtin; refine wpList_pushCe rfl (.tmp 17) (.tmp 20) rfl _ N g cap k cs _ rfl HTL.out HU4.out (by omega) (1 + m + k) (some ⟨gx, 0, none⟩) yl yl (nextY l) (nextT l) true rfl HYL.out HLF.out ?_)
        intro g' cap' w5 hu5 hb5 hk5 hg5
        have hz5 : w4.heap.size ≤ w5.heap.size := hb5.size
        have HU5 : Hid (CeAt w5 N (cs ++ [(1 + m + k, nextY l, nextT l, true)]) ((hR ++ [.int .i64 (1 + m + k : Nat), .slice (some ⟨gx, 0, none⟩) yl yl, .int .i64 (nextT l : Nat), .bool true]) ++ lutHd hs 0) g' cap') := Lib.hid (by
          simp only [lutHd, List.append_nil] at hu5 ⊢
          exact hu5)
        have HX5 := Lib.hid (HX4.out.trans hb5)
        have HB5 : Hid (∀ u, u ∈ hR ++ [.int .i64 (1 + m + k : Nat), .slice (some ⟨gx, 0, none⟩) yl yl, .int .i64 (nextT l : Nat), .bool true] → ∀ b, vblk u = some b → w3.heap.size ≤ b ∧ b < w5.heap.size) := Lib.hid (fun u hu b hb => by have := HB4.out u hu b hb; omega)
        have HK5 : Hid (∀ b, P ≤ b → b < w3.heap.size → w5.heap[b]? = w3.heap[b]?) := Lib.hid (fun b h1 h2 => by rw [hk5 b (by omega) (by omega), HK4.out b h1 h2])
        have hgo5 : g' < P ∨ w3.heap.size ≤ g' := by omega
        have hQ5 : w3.heap.size ≤ w5.heap.size := by omega
        clear hu5 hb5 hk5 HU4 HX4 HB4 HK4
        go_wp2
        go_roundw
        case rel => exact ⟨k + 1, g', cap', _, by omega, by go_num, rfl, by rw [HTK.out, HK1.out]; exact HU5, HD4, HB5, HK5, hgo5, hQ5, HX5⟩
        case measure => simp [intOf]; omega
      · obtain ⟨j, rfl⟩ : ∃ j, k = ns.length + j := ⟨k - ns.length, by omega⟩
        have hM2 := HM.out
        have hj : j < n := by omega
        have hke : ns.length + j - ns.length = j := by omega
        have hke1 : ns.length + j + 1 - ns.length = j + 1 := by omega
        rw [hke] at HUc
        obtain ⟨A', c', e0, e1, e2, hlx⟩ := HU.out.2.2 j (by rw [HEN.out]; exact hj)
        have hpc : wr.cell? ⟨gp, ns.length + j, none⟩ = some (lutP (.int .i64 ((es.getD j (0, [], 0)).1 : Nat)) (.slice A' (es.getD j (0, [], 0)).2.1.length c') (.int .i64 ((es.getD j (0, [], 0)).2.2 : Nat))) := by
          have hgb := HP.out.gb
          have hl := regPs_len (1 + m) ls ns.length
          have h := HP.out.cell hlt (p := lutP (.int .i64 ((es.getD j (0, [], 0)).1 : Nat)) (.slice A' (es.getD j (0, [], 0)).2.1.length c') (.int .i64 ((es.getD j (0, [], 0)).2.2 : Nat))) (by
            rw [List.getElem?_append_right (by omega), hl, Nat.add_sub_cancel_left, lutPs_at hs n j hj]
            simp only [List.getD_eq_getElem?_getD, e0, e1, e2, Option.getD_some])
          rw [← h]
          exact World.cell?_of_block (a := ⟨gp, ns.length + j, none⟩) (HK.out gp hgb.1 hgb.2)
        have hce := HC2.out j hj
        have HTK : Hid (ce.take (ns.length + j + 1) = ce.take (ns.length + j) ++ [((es.getD j (0, [], 0)).1, (es.getD j (0, [], 0)).2.1, (es.getD j (0, [], 0)).2.2, false)]) := Lib.hid (by
          rw [take_succ_getD ce (ns.length + j) (0, [], 0, false) (by rw [HCL.out]; exact hlt), hce])
        have HLH : Hid (lutHd hs (j + 1) = lutHd hs j ++ [.int .i64 ((es.getD j (0, [], 0)).1 : Nat), .slice A' (es.getD j (0, [], 0)).2.1.length c', .int .i64 ((es.getD j (0, [], 0)).2.2 : Nat), .bool false]) := Lib.hid (by
          show lutHd hs j ++ [hs.getD (j * 3) (.bool false), hs.getD (j * 3 + 1) (.bool false), hs.getD (j * 3 + 2) (.bool false), .bool false] = _
          simp only [List.getD_eq_getElem?_getD, e0, e1, e2, Option.getD_some])
        have HLX := Lib.hid hlx
        have HTL : Hid ((ce.take (ns.length + j)).length = ns.length + j) := Lib.hid (by rw [List.length_take, HCL.out]; omega)
        generalize (es.getD j (0, [], 0)).2.2 = t at *
        generalize (es.getD j (0, [], 0)).2.1 = y at *
        generalize (es.getD j (0, [], 0)).1 = v at *
        generalize ce.take (ns.length + j) = cs at *
        have HK1 := Lib.hid hke1
        have hQl := HUc.out.gb
        clear hce hke hke1 hM2 e0 e1 e2 hlx
        obtain ⟨yl, hyl⟩ : ∃ yl, y.length = yl := ⟨_, rfl⟩
        rw [hyl] at hpc HLH
        have HYL := Lib.hid hyl
        clear hyl
        unfold lutP at hpc
        generalize hKK : ns.length + j = K at *
        have HKK := Lib.hid hKK
        clear hKK
        go_wp2_with fail
        rw [Tryz.meth_lut]
        go_wp2_with fail
        refine (lutCell_any A' v yl c' t _).mono ?_
        rintro e w4 ⟨rfl, hb4⟩
        have hgb := HUc.out.gb
        have hz4 := hb4.size
        have HU4 := Lib.hid (CeAt.on HUc.out hb4)
        have HX4 := Lib.hid (HX.out.trans (hb4.mono (by omega)))
        have HK4 : Hid (∀ b, P ≤ b → b < w3.heap.size → w4.heap[b]? = w3.heap[b]?) := Lib.hid (fun b h1 h2 => by rw [hb4.block b (by omega), HK.out b h1 h2])
        have HLF : Hid (LeafIn w4 (Off w4 N g) A' y) := Lib.hid (HLX.out.kept (fun b hb => HK4.out b hb.1 hb.2.1) (fun b hb => by have h1 := hb.1; have h2 := hb.2.1; exact ⟨by omega, by omega, by omega⟩))
        have HB4 : Hid (∀ u, u ∈ hR → ∀ b, vblk u = some b → w3.heap.size ≤ b ∧ b < w4.heap.size) := Lib.hid (fun u hu b hb => by have := HBR.out u hu b hb; omega)
        have hgw4 : g < w4.heap.size := by omega
        clear hb4 HUc HX HK HBR hpc
        go_wp2_with (at_builtin; refine wpList_pushCe rfl (.tmp 17) (.tmp 20) rfl _ N g cap K cs _ rfl HTL.out HU4.out (by omega) v A' yl c' y t false rfl HYL.out HLF.out ?_)
        intro g' cap' w5 hu5 hb5 hk5 hg5
        have hz5 : w4.heap.size ≤ w5.heap.size := hb5.size
        have HU5 : Hid (CeAt w5 N (cs ++ [(v, y, t, false)]) (hR ++ lutHd hs (j + 1)) g' cap') := Lib.hid (by
          rw [HLH.out]
          exact hu5)
        have HX5 := Lib.hid (HX4.out.trans hb5)
        have HB5 : Hid (∀ u, u ∈ hR → ∀ b, vblk u = some b → w3.heap.size ≤ b ∧ b < w5.heap.size) := Lib.hid (fun u hu b hb => by have := HB4.out u hu b hb; omega)
        have HK5 : Hid (∀ b, P ≤ b → b < w3.heap.size → w5.heap[b]? = w3.heap[b]?) := Lib.hid (fun b h1 h2 => by rw [hk5 b (by omega) (by omega), HK4.out b h1 h2])
        have hgo5 : g' < P ∨ w3.heap.size ≤ g' := by omega
        have hQ5 : w3.heap.size ≤ w5.heap.size := by omega
        clear hu5 hb5 hk5 HU4 HX4 HB4 HK4
        go_wp2
        go_roundw
        case rel => exact ⟨K + 1, g', cap', hR, by omega, by go_num, rfl, by rw [HTK.out, HK1.out]; exact HU5, HDR, HB5, HK5, hgo5, hQ5, HX5⟩
        case measure => simp [intOf]; omega
    · obtain rfl : k = M := by omega
      have HDD : Hid (DistH (hR ++ lutHd hs (k - ns.length))) := Lib.hid (dist_app (Q := w3.heap.size) HDR.out (lutHd_dist HD.out _) (fun u hu b hb => (HBR.out u hu b hb).1) (fun u hu b hb => (lutHd_blk HU.out.2 _ u hu b hb).2.1))
      have HUe : Hid (CeAt wr N ce (hR ++ lutHd hs (k - ns.length)) g cap) := Lib.hid (by have h := HUc.out; rwa [List.take_of_length_le (by rw [HCL.out]; exact Nat.le_refl _)] at h)
      go_wp2
      go_ret
      exact ⟨g, cap, _, rfl, ⟨own_low2 HUe.out.1 (by omega), HUe.out.2.kept (fun _ _ => rfl) (fun b hb => ⟨by have := hb.1; omega, hb.2⟩)⟩, HDD.out, HL1.out.trans (HX.out.mono (by omega))⟩

end Go.Proofs.YtliedgaefgomjaaGreat
