/- Memory of lists of Ce: headers of leaves among other cells. -/
import Derived.Test.YtkkkkalgfmddbaaEL
import Derived.Test.YtkkkkalgfmddbaaEQ
namespace Go.Proofs.Ytkkkkalgfmddbaa
open Go.RowKit Go.Deep Cut

abbrev Cl := Nat × List Nat × Nat × Bool
/-- The cells of such a list, the leaves in S. -/
def CeHdrs (w : World) (S : Nat → Prop) (hs : List Value) (es : List Cl) : Prop :=
  hs.length = es.length * 4 ∧ ∀ k, k < es.length → ∃ (A' : Option Addr) (cap : Nat), hs[k * 4]? = some (.int .i64 ((es.getD k (0, [], 0, false)).1 : Nat)) ∧ hs[k * 4 + 1]? = some (.slice A' (es.getD k (0, [], 0, false)).2.1.length cap) ∧ (hs[k * 4 + 2]? = some (.int .i64 ((es.getD k (0, [], 0, false)).2.2.1 : Nat)) ∧ hs[k * 4 + 3]? = some (.bool (es.getD k (0, [], 0, false)).2.2.2)) ∧ LeafIn w S A' (es.getD k (0, [], 0, false)).2.1
theorem CeHdrs.kept {w w' : World} {S T : Nat → Prop} {hs : List Value} {es : List Cl} (h : CeHdrs w S hs es) (hS : ∀ b, S b → w'.heap[b]? = w.heap[b]?) (hT : ∀ b, S b → T b) : CeHdrs w' T hs es := ⟨h.1, fun k hk => by
  obtain ⟨A', cap, e0, e1, e2, hx⟩ := h.2 k hk
  exact ⟨A', cap, e0, e1, e2, hx.kept hS hT⟩⟩
theorem CeHdrs.nil (w : World) (S : Nat → Prop) : CeHdrs w S [] [] := ⟨rfl, fun k hk => absurd hk (by simp)⟩
theorem CeHdrs.snoc {w : World} {S : Nat → Prop} {hs : List Value} {es : List Cl} (h : CeHdrs w S hs es) (v : Nat) {A : Option Addr} {m c : Nat} {y : List Nat} (t : Nat) (r : Bool) (hm : y.length = m) (hx : LeafIn w S A y) : CeHdrs w S (hs ++ [.int .i64 v, .slice A m c, .int .i64 t, .bool r]) (es ++ [(v, y, t, r)]) := by
  subst hm
  have hl := h.1
  refine ⟨by simp [hl]; omega, fun k hk => ?_⟩
  by_cases e : k < es.length
  · obtain ⟨A', cap, e0, e1, e2, hx'⟩ := h.2 k e
    rw [Circ.getD_app_lt _ _ _ _ e]
    refine ⟨A', cap, ?_, ?_, ?_, hx'⟩
    · rw [List.getElem?_append_left (by omega)]; exact e0
    · rw [List.getElem?_append_left (by omega)]; exact e1
    · refine ⟨?_, ?_⟩
      · rw [List.getElem?_append_left (by omega)]; exact e2.1
      · rw [List.getElem?_append_left (by omega)]; exact e2.2
  · obtain rfl : k = es.length := by simp at hk; omega
    rw [Circ.getD_app_at _ _ _ _ rfl]
    refine ⟨A, c, ?_, ?_, ?_, hx⟩
    · rw [List.getElem?_append_right (by omega), hl, Nat.sub_self]; rfl
    · rw [List.getElem?_append_right (by omega), hl, show es.length * 4 + 1 - es.length * 4 = 1 by omega]; rfl
    · refine ⟨?_, ?_⟩
      · rw [List.getElem?_append_right (by omega), hl, show es.length * 4 + 2 - es.length * 4 = 2 by omega]; rfl
      · rw [List.getElem?_append_right (by omega), hl, show es.length * 4 + 3 - es.length * 4 = 3 by omega]; rfl
/-- Such a list that can be read. -/
def CeIn (w : World) (B : Nat) (A : Option Addr) (es : List Cl) : Prop :=
  ∀ k, k < es.length → ∃ (b off : Nat), A = some ⟨b, off, none⟩ ∧ b < B ∧ ∃ (A' : Option Addr) (c' : Nat), w.cell? ⟨b, off + k * 4, none⟩ = some (.int .i64 ((es.getD k (0, [], 0, false)).1 : Nat)) ∧ w.cell? ⟨b, off + k * 4 + 1, none⟩ = some (.slice A' (es.getD k (0, [], 0, false)).2.1.length c') ∧ (w.cell? ⟨b, off + k * 4 + 2, none⟩ = some (.int .i64 ((es.getD k (0, [], 0, false)).2.2.1 : Nat)) ∧ w.cell? ⟨b, off + k * 4 + 3, none⟩ = some (.bool (es.getD k (0, [], 0, false)).2.2.2)) ∧ IntsAt w B A' (Opt.intL (es.getD k (0, [], 0, false)).2.1)
theorem CeIn.below {w w' : World} {B : Nat} {A : Option Addr} {es : List Cl} (h : CeIn w B A es) (hb : Below B w w') : CeIn w' B A es := fun k hk => by
  obtain ⟨b, off, e, hB, A', c', e0, e1, e2, hx⟩ := h k hk
  refine ⟨b, off, e, hB, A', c', (hb.cell (by exact hB)).trans e0, (hb.cell (by exact hB)).trans e1, ?_, hx.below hb⟩
  exact ⟨(hb.cell (by exact hB)).trans e2.1, (hb.cell (by exact hB)).trans e2.2⟩
theorem CeIn.mono {w : World} {B B' : Nat} {A : Option Addr} {es : List Cl} (h : CeIn w B A es) (hb : B ≤ B') : CeIn w B' A es := fun k hk => by
  obtain ⟨b, off, e, hB, A', c', e0, e1, e2, hx⟩ := h k hk
  exact ⟨b, off, e, Nat.lt_of_lt_of_le hB hb, A', c', e0, e1, e2, hx.mono hb⟩
/-- Such a list in memory of the call's own. -/
def CeAt (w : World) (B : Nat) (es : List Cl) (hs : List Value) (g cap : Nat) : Prop := w.ownsRow B 189 4 (.slice (some ⟨g, 0, none⟩) es.length cap) es.length hs ∧ CeHdrs w (Off w B g) hs es
theorem CeAt.gb {w : World} {B g cap : Nat} {es : List Cl} {hs : List Value} (h : CeAt w B es hs g cap) : B ≤ g ∧ g < w.heap.size := h.1.lt g rfl
theorem CeAt.on {w w' : World} {B g cap : Nat} {es : List Cl} {hs : List Value} (h : CeAt w B es hs g cap) (hb : Below w.heap.size w w') : CeAt w' B es hs g cap :=
  ⟨own_keepE h.1 (hb.block g (h.1.lt g rfl).2), h.2.kept (fun b hb' => hb.block b hb'.2.1) (Off.on hb.size)⟩
theorem CeAt.keep {w w' : World} {B g cap : Nat} {es : List Cl} {hs : List Value} (h : CeAt w B es hs g cap) (hk : ∀ b, B ≤ b → b < w.heap.size → w'.heap[b]? = w.heap[b]?) (hz : w.heap.size ≤ w'.heap.size) : CeAt w' B es hs g cap :=
  ⟨own_keepE h.1 (hk g h.gb.1 h.gb.2), h.2.kept (fun b hb' => hk b hb'.1 hb'.2.1) (Off.on hz)⟩
theorem CeAt.read {w : World} {B g cap : Nat} {es : List Cl} {hs : List Value} (h : CeAt w B es hs g cap) : CeIn w w.heap.size (some ⟨g, 0, none⟩) es := fun k hk => by
  obtain ⟨cur, hrow, _, _, _, _, hget⟩ := own_partsE h.1
  obtain ⟨A', c', e0, e1, e2, hx⟩ := h.2.2 k hk
  refine ⟨g, 0, rfl, hrow.lt, A', c', ?_, ?_, ?_, (hx.kept (fun _ _ => rfl) (T := fun b => b < w.heap.size) (fun b hb => hb.2.1)).ints⟩
  · rw [Nat.zero_add, hrow.cell, hget _ (by omega)]; exact e0
  · rw [Nat.zero_add, hrow.cell, hget _ (by omega)]; exact e1
  · refine ⟨?_, ?_⟩
    · rw [Nat.zero_add, hrow.cell, hget _ (by omega)]; exact e2.1
    · rw [Nat.zero_add, hrow.cell, hget _ (by omega)]; exact e2.2
theorem Try.infoCe : (Try.prog.info? 189).map (fun i => (i.zero, i.size, i.bytes)) = some (some (.agg #[.int .i64 0, .slice none 0 0, .int .i64 0, .bool false]), 4, 48) := by kernel_rfl
theorem CeAt.made (w : World) (B : Nat) (hB : B ≤ w.heap.size) : CeAt (w.alloc (.cells #[] 189)) B [] [] w.heap.size 0 := by
  have h := World.ownsRow_lit (base := B) (e := 189) (size := 4) w #[] 0 hB (by simp [maxLen]) (by simp)
  exact ⟨h, CeHdrs.nil _ _⟩
section
variable {ops : Array Oper} {rest : List Oper} {o : Oper} {a : Act} {Q : Exit → Act → World → Prop}
/-- One more. -/
theorem wpList_pushCe (hgd : o.guard = none) (s x : Operand) (ho : o.op = .call { callee := .builtin .append, args := #[s, x], argTypes := #[172, 172] })
    (wr : World) (B g cap n : Nat) (es : List Cl) (hs : List Value) (hev : a.eval s = .slice (some ⟨g, 0, none⟩) n cap) (hn : es.length = n) (h : CeAt wr B es hs g cap) (hnb : n ≤ 1000)
    (v : Nat) (A : Option Addr) (m c : Nat) (y : List Nat) (t : Nat) (r : Bool) (hx : a.eval x = .slice (some ⟨wr.heap.size, 0, none⟩) 1 1) (hm : y.length = m) (hL : LeafIn wr (Off wr B g) A y)
    (cont : ∀ g' cap' w5, CeAt w5 B (es ++ [(v, y, t, r)]) (hs ++ [.int .i64 v, .slice A m c, .int .i64 t, .bool r]) g' cap' → Below B wr w5 → (∀ b, b < wr.heap.size → b ≠ g → w5.heap[b]? = wr.heap[b]?) → (g' = g ∨ wr.heap.size < g') → wpList Try.prog ops Q rest (a.put o.dst (.slice (some ⟨g', 0, none⟩) (n + 1) cap')) w5) :
    wpList Try.prog ops Q (o :: rest) a (wr.alloc (.cells #[.int .i64 v, .slice A m c, .int .i64 t, .bool r] 189)) := by
  subst hn
  obtain ⟨i0, hi0, hz0, hz1, hz2⟩ := info_split Try.infoCe
  obtain ⟨hB, hgl⟩ := h.gb
  refine wpList_append_kept _ hgd s x 172 ho B 189 i0 _ 4 48 Try.underlying172 hi0 hz0 hz1 hz2 rfl (by omega) (.slice (some ⟨g, 0, none⟩) es.length cap) es.length hs hev (h.1.alloc _) ⟨wr.heap.size, 0, none⟩ 1 1 [.int .i64 v, .slice A m c, .int .i64 t, .bool r] hx rfl (World.news_of_block (cs := #[.int .i64 v, .slice A m c, .int .i64 t, .bool r]) (t := 189) (fr := (0, 0)) (heap_alloc_new wr _)) (by simp [Value.oneCell']) (by omega) (by simp [maxLen]; omega) (by omega) (by simp; omega) _ rfl ?_
  intro g' cap' w5 hown5 hgr5 hat5 hlt5 hkept5
  refine cont g' cap' w5 ⟨by rw [List.length_append, List.length_singleton]; exact hown5, ?_⟩ (below_alloc_grown hgr5 (by omega) hB) (off_grown hgr5) ?_
  · exact (h.2.kept (fun b hb => off_grown hgr5 b hb.2.1 hb.2.2) (off_step hgr5 hat5)).snoc v t r hm (hL.kept (fun b hb => off_grown hgr5 b hb.2.1 hb.2.2) (off_step hgr5 hat5))
  · rcases hat5 with h1 | h1
    · left; simp [Value.ownBlock] at h1; omega
    · right; simp at h1; omega
theorem step_pushCe {K : Act → World → Prop} {E : Prop} (hgd : o.guard = none) (s x : Operand) (ho : o.op = .call { callee := .builtin .append, args := #[s, x], argTypes := #[172, 172] })
    (wr : World) (B g cap n : Nat) (es : List Cl) (hs : List Value) (hev : a.eval s = .slice (some ⟨g, 0, none⟩) n cap) (hn : es.length = n) (h : CeAt wr B es hs g cap) (hnb : n ≤ 1000)
    (v : Nat) (A : Option Addr) (m c : Nat) (y : List Nat) (t : Nat) (r : Bool) (hx : a.eval x = .slice (some ⟨wr.heap.size, 0, none⟩) 1 1) (hm : y.length = m) (hL : LeafIn wr (Off wr B g) A y)
    (cont : ∀ g' cap' w5, CeAt w5 B (es ++ [(v, y, t, r)]) (hs ++ [.int .i64 v, .slice A m c, .int .i64 t, .bool r]) g' cap' → Below B wr w5 → (∀ b, b < wr.heap.size → b ≠ g → w5.heap[b]? = wr.heap[b]?) → (g' = g ∨ wr.heap.size < g') → K (a.put o.dst (.slice (some ⟨g', 0, none⟩) (n + 1) cap')) w5) :
    if Region.wanted o (yielded ops a.tmps) = true then Oper.wp Try.prog o a (wr.alloc (.cells #[.int .i64 v, .slice A m c, .int .i64 t, .bool r] 189)) K Q else E := by
  subst hn
  obtain ⟨i0, hi0, hz0, hz1, hz2⟩ := info_split Try.infoCe
  obtain ⟨hB, hgl⟩ := h.gb
  refine step_append_kept _ hgd s x 172 ho B 189 i0 _ 4 48 Try.underlying172 hi0 hz0 hz1 hz2 rfl (by omega) (.slice (some ⟨g, 0, none⟩) es.length cap) es.length hs hev (h.1.alloc _) ⟨wr.heap.size, 0, none⟩ 1 1 [.int .i64 v, .slice A m c, .int .i64 t, .bool r] hx rfl (World.news_of_block (cs := #[.int .i64 v, .slice A m c, .int .i64 t, .bool r]) (t := 189) (fr := (0, 0)) (heap_alloc_new wr _)) (by simp [Value.oneCell']) (by omega) (by simp [maxLen]; omega) (by omega) (by simp; omega) _ rfl ?_
  intro g' cap' w5 hown5 hgr5 hat5 hlt5 hkept5
  refine cont g' cap' w5 ⟨by rw [List.length_append, List.length_singleton]; exact hown5, ?_⟩ (below_alloc_grown hgr5 (by omega) hB) (off_grown hgr5) ?_
  · exact (h.2.kept (fun b hb => off_grown hgr5 b hb.2.1 hb.2.2) (off_step hgr5 hat5)).snoc v t r hm (hL.kept (fun b hb => off_grown hgr5 b hb.2.1 hb.2.2) (off_step hgr5 hat5))
  · rcases hat5 with h1 | h1
    · left; simp [Value.ownBlock] at h1; omega
    · right; simp at h1; omega
end
end Go.Proofs.Ytkkkkalgfmddbaa
/- The contracts of comparing cells. -/
namespace Go.Proofs.Ytkkkkalgfmddbaa
open Go.RowKit Go.Deep Cut

theorem Cekeep {w w' : World} {B b b' o o' : Nat} {x0 x1 x2 x3 x4 x5 x6 x7 : Value} (h : Below B w w') (h1 : b < B) (h2 : b' < B) (s : w.cell? ⟨b, o, none⟩ = some x0 ∧ w.cell? ⟨b, o + 1, none⟩ = some x1 ∧ w.cell? ⟨b, o + 2, none⟩ = some x2 ∧ w.cell? ⟨b, o + 3, none⟩ = some x3 ∧ w.cell? ⟨b', o', none⟩ = some x4 ∧ w.cell? ⟨b', o' + 1, none⟩ = some x5 ∧ w.cell? ⟨b', o' + 2, none⟩ = some x6 ∧ w.cell? ⟨b', o' + 3, none⟩ = some x7) :
    w'.cell? ⟨b, o, none⟩ = some x0 ∧ w'.cell? ⟨b, o + 1, none⟩ = some x1 ∧ w'.cell? ⟨b, o + 2, none⟩ = some x2 ∧ w'.cell? ⟨b, o + 3, none⟩ = some x3 ∧ w'.cell? ⟨b', o', none⟩ = some x4 ∧ w'.cell? ⟨b', o' + 1, none⟩ = some x5 ∧ w'.cell? ⟨b', o' + 2, none⟩ = some x6 ∧ w'.cell? ⟨b', o' + 3, none⟩ = some x7 :=
  ⟨(h.cell (by exact h1)).trans s.1, (h.cell (by exact h1)).trans s.2.1, (h.cell (by exact h1)).trans s.2.2.1, (h.cell (by exact h1)).trans s.2.2.2.1, (h.cell (by exact h2)).trans s.2.2.2.2.1, (h.cell (by exact h2)).trans s.2.2.2.2.2.1, (h.cell (by exact h2)).trans s.2.2.2.2.2.2.1, (h.cell (by exact h2)).trans s.2.2.2.2.2.2.2⟩
end Go.Proofs.Ytkkkkalgfmddbaa
/- The contracts of marks on cells. -/
namespace Go.Proofs.Ytkkkkalgfmddbaa
open Go.RowKit Go.Deep Cut

/-- What the marks on struct j of such a row are. -/
def CeMk (cs : Array Value) (ls : List Nat) (K j : Nat) : Prop := cs[j * 4]? = some (.int .i64 (K + ofT 3 ls j : Nat)) ∧ cs[j * 4 + 2]? = some (.int .i64 (K + ofT 3 ls j + 1 + ls.getD j 0 : Nat)) ∧ cs[j * 4 + 3]? = some (.bool (((K + ofT 3 ls j + 1 + ls.getD j 0 + 1 : Nat) : Int) % 3 == 0))
/-- The row of the structs, the first m of them marked. -/
def CeRow (w : World) (g : Nat) (hs : List Value) (ls : List Nat) (m K : Nat) : Prop := ∃ cs, Row w g 189 cs ∧ ls.length * 4 ≤ cs.size ∧ (∀ j, j < ls.length → cs[j * 4 + 1]? = hs[j]?) ∧ ∀ j, j < m → CeMk cs ls K j
theorem CeRow.below {w w' : World} {g m K B : Nat} {hs : List Value} {ls : List Nat} (h : CeRow w g hs ls m K) (hb : Below B w w') (hg : g < B) : CeRow w' g hs ls m K := by
  obtain ⟨cs, hr, h1, h2, h3⟩ := h
  exact ⟨cs, hr.below hb hg, h1, h2, h3⟩
theorem CeRow.lt {w : World} {g m K : Nat} {hs : List Value} {ls : List Nat} (h : CeRow w g hs ls m K) : g < w.heap.size := by
  obtain ⟨cs, hr, _⟩ := h
  exact hr.lt
theorem CeMk.set {cs : Array Value} {hs : List Value} {ls : List Nat} {m K : Nat} (h1 : ls.length * 4 ≤ cs.size) (h2 : ∀ j, j < ls.length → cs[j * 4 + 1]? = hs[j]?) (h3 : ∀ j, j < m → CeMk cs ls K j) (hm : m < ls.length) :
    ls.length * 4 ≤ (((cs.setIfInBounds (m * 4) (.int .i64 (K + ofT 3 ls m : Nat))).setIfInBounds (m * 4 + 2) (.int .i64 (K + ofT 3 ls m + 1 + ls.getD m 0 : Nat))).setIfInBounds (m * 4 + 3) (.bool (((K + ofT 3 ls m + 1 + ls.getD m 0 + 1 : Nat) : Int) % 3 == 0))).size ∧ (∀ j, j < ls.length → (((cs.setIfInBounds (m * 4) (.int .i64 (K + ofT 3 ls m : Nat))).setIfInBounds (m * 4 + 2) (.int .i64 (K + ofT 3 ls m + 1 + ls.getD m 0 : Nat))).setIfInBounds (m * 4 + 3) (.bool (((K + ofT 3 ls m + 1 + ls.getD m 0 + 1 : Nat) : Int) % 3 == 0)))[j * 4 + 1]? = hs[j]?) ∧ ∀ j, j < m + 1 → CeMk (((cs.setIfInBounds (m * 4) (.int .i64 (K + ofT 3 ls m : Nat))).setIfInBounds (m * 4 + 2) (.int .i64 (K + ofT 3 ls m + 1 + ls.getD m 0 : Nat))).setIfInBounds (m * 4 + 3) (.bool (((K + ofT 3 ls m + 1 + ls.getD m 0 + 1 : Nat) : Int) % 3 == 0))) ls K j := by
  refine ⟨by simpa using h1, fun j hj => ?_, fun j hj => ?_⟩
  · rw [Array.getElem?_setIfInBounds_ne (by omega), Array.getElem?_setIfInBounds_ne (by omega), Array.getElem?_setIfInBounds_ne (by omega)]
    exact h2 j hj
  · by_cases e : j = m
    · subst e
      refine ⟨?_, ?_, ?_⟩
      · rw [Array.getElem?_setIfInBounds_ne (by omega), Array.getElem?_setIfInBounds_ne (by omega), Array.getElem?_setIfInBounds_self_of_lt (by omega)]
      · rw [Array.getElem?_setIfInBounds_ne (by omega), Array.getElem?_setIfInBounds_self_of_lt (by simp; omega)]
      · rw [Array.getElem?_setIfInBounds_self_of_lt (by simp; omega)]
    · obtain ⟨a, b, c⟩ := h3 j (by omega)
      refine ⟨?_, ?_, ?_⟩
      · rw [Array.getElem?_setIfInBounds_ne (by omega), Array.getElem?_setIfInBounds_ne (by omega), Array.getElem?_setIfInBounds_ne (by omega)]; exact a
      · rw [Array.getElem?_setIfInBounds_ne (by omega), Array.getElem?_setIfInBounds_ne (by omega), Array.getElem?_setIfInBounds_ne (by omega)]; exact b
      · rw [Array.getElem?_setIfInBounds_ne (by omega), Array.getElem?_setIfInBounds_ne (by omega), Array.getElem?_setIfInBounds_ne (by omega)]; exact c

end Go.Proofs.Ytkkkkalgfmddbaa
