/- The walks of routing: trees, tracks, tiles of pins. -/
import Derived.Test.YtdadokcodklfgaaRW
import Derived.Test.YtdadokcodklfgaaNP
import Derived.Test.YtdadokcodklfgaaEL
import Derived.Test.YtdadokcodklfgaaCB
import Derived.Test.YtdadokcodklfgaaW6
import Derived.Test.YtdadokcodklfgaaWL
import Derived.Test.YtdadokcodklfgaaCT
import Derived.Test.YtdadokcodklfgaaFA
import Derived.Test.YtdadokcodklfgaaNC
namespace Rt
end Rt
namespace Go.Proofs.Ytdadokcodklfgaa
open Go.RowKit Go.Deep Cut Plc Rt

theorem HAt.one (w : World) (B p : Nat) (x : Int) (hB : B ≤ w.heap.size) : HAt (w.alloc (.cells #[.int .i64 (p : Int), .int .i64 x] 204)) B [(p, x)] w.heap.size 1 := World.ownsRow_lit (base := B) (e := 204) (size := 2) w #[.int .i64 (p : Int), .int .i64 x] 1 hB (by simp [maxLen]) (by simp)

end Go.Proofs.Ytdadokcodklfgaa
namespace Go.Proofs.Ytdadokcodklfgaa
open Go.RowKit Go.Deep Cut Plc Rt

theorem tiles_snoc (p : List Nat) (xs : List Pn) {k : Nat} (hk : k < xs.length) : (xs.take (k + 1)).map (tileP p) = (xs.take k).map (tileP p) ++ [tileP p (xs.getD k (0, 0))] := by
  rw [List.take_succ_eq_append_getElem hk, List.map_append, List.getD_eq_getElem?_getD, List.getElem?_eq_getElem hk]
  rfl
end Go.Proofs.Ytdadokcodklfgaa
/- Memory of lists of routes. -/
namespace Go.Proofs.Ytdadokcodklfgaa
open Go.RowKit Go.Deep Cut Plc Rt

/-- A list of hops in a block of its own, in S. -/
def HLeaf (w : World) (S : Nat → Prop) (A : Option Addr) (x : List Hp) : Prop :=
  x = [] ∨ ∃ (b : Nat) (cs : Array Value), A = some ⟨b, 0, none⟩ ∧ S b ∧ Row w b 204 cs ∧ ∀ j, j < x.length → cs[j * 2]? = some (.int .i64 ((x.getD j (0, 0)).1 : Nat)) ∧ cs[j * 2 + 1]? = some (.int .i64 (x.getD j (0, 0)).2)
theorem HLeaf.kept {w w' : World} {S T : Nat → Prop} {A : Option Addr} {x : List Hp} (h : HLeaf w S A x) (hS : ∀ b, S b → w'.heap[b]? = w.heap[b]?) (hT : ∀ b, S b → T b) : HLeaf w' T A x := by
  rcases h with h | ⟨b, cs, e, hs, hr, hc⟩
  · exact .inl h
  · exact .inr ⟨b, cs, e, hT b hs, (hS b hs).trans hr, hc⟩
theorem HLeaf.gates {w : World} {B : Nat} {A : Option Addr} {x : List Hp} (h : HLeaf w (fun b => b < B) A x) : GatesAt w B A (hpI x) := fun k hk => by
  rw [hpI_len] at hk
  rcases h with h | ⟨b, cs, e, hs, hr, hc⟩
  · subst h; simp at hk
  · obtain ⟨h1, h2⟩ := hc k hk
    refine ⟨b, 0, e, hs, ?_, ?_⟩
    · rw [Nat.zero_add, hpI_at, hr.cell]; exact h1
    · rw [Nat.zero_add, hpI_at, hr.cell]; exact h2
theorem HAt.leaf {w : World} {B g cap : Nat} {hs : List Hp} (h : HAt w B hs g cap) {S : Nat → Prop} (hS : S g) : HLeaf w S (some ⟨g, 0, none⟩) hs := by
  obtain ⟨cur, hrow, _, _, _, _, hget⟩ := own_partsE h
  refine .inr ⟨g, cur, rfl, hS, hrow, fun j hj => ?_⟩
  obtain ⟨e1, e2⟩ := gvs_get (hpI hs) j (by rw [hpI_len]; exact hj)
  rw [hpI_at] at e1 e2
  exact ⟨(hget _ (by omega)).trans e1, (hget _ (by omega)).trans e2⟩

/-- The cells of such a list, the leaves in S. -/
def RoHdrs (w : World) (S : Nat → Prop) (hs : List Value) (es : List Ro) : Prop :=
  hs.length = es.length * 3 ∧ ∀ k, k < es.length → ∃ (A' : Option Addr) (cap : Nat), hs[k * 3]? = some (.int .i64 ((es.getD k (0, 0, [])).1 : Nat)) ∧ hs[k * 3 + 1]? = some (.int .i64 ((es.getD k (0, 0, [])).2.1 : Nat)) ∧ (hs[k * 3 + 2]? = some (.slice A' (es.getD k (0, 0, [])).2.2.length cap)) ∧ HLeaf w S A' (es.getD k (0, 0, [])).2.2
theorem RoHdrs.kept {w w' : World} {S T : Nat → Prop} {hs : List Value} {es : List Ro} (h : RoHdrs w S hs es) (hS : ∀ b, S b → w'.heap[b]? = w.heap[b]?) (hT : ∀ b, S b → T b) : RoHdrs w' T hs es := ⟨h.1, fun k hk => by
  obtain ⟨A', cap, e0, e1, e2, hx⟩ := h.2 k hk
  exact ⟨A', cap, e0, e1, e2, hx.kept hS hT⟩⟩
theorem RoHdrs.nil (w : World) (S : Nat → Prop) : RoHdrs w S [] [] := ⟨rfl, fun k hk => absurd hk (by simp)⟩
theorem RoHdrs.snoc {w : World} {S : Nat → Prop} {hs : List Value} {es : List Ro} (h : RoHdrs w S hs es) (v : Nat) {A : Option Addr} {m c : Nat} {y : List Hp} (t : Nat) (hm : y.length = m) (hx : HLeaf w S A y) : RoHdrs w S (hs ++ [.int .i64 v, .int .i64 t, .slice A m c]) (es ++ [(v, t, y)]) := by
  subst hm
  have hl := h.1
  refine ⟨by simp [hl]; omega, fun k hk => ?_⟩
  by_cases e : k < es.length
  · obtain ⟨A', cap, e0, e1, e2, hx'⟩ := h.2 k e
    rw [Circ.getD_app_lt _ _ _ _ e]
    refine ⟨A', cap, ?_, ?_, ?_, hx'⟩
    · rw [List.getElem?_append_left (by omega)]; exact e0
    · rw [List.getElem?_append_left (by omega)]; exact e1
    · skip
      · rw [List.getElem?_append_left (by omega)]; exact e2
  · obtain rfl : k = es.length := by simp at hk; omega
    rw [Circ.getD_app_at _ _ _ _ rfl]
    refine ⟨A, c, ?_, ?_, ?_, hx⟩
    · rw [List.getElem?_append_right (by omega), hl, Nat.sub_self]; rfl
    · rw [List.getElem?_append_right (by omega), hl, show es.length * 3 + 1 - es.length * 3 = 1 by omega]; rfl
    · skip
      · rw [List.getElem?_append_right (by omega), hl, show es.length * 3 + 2 - es.length * 3 = 2 by omega]; rfl
/-- Such a list that can be read. -/
def RoIn (w : World) (B : Nat) (A : Option Addr) (es : List Ro) : Prop :=
  ∀ k, k < es.length → ∃ (b off : Nat), A = some ⟨b, off, none⟩ ∧ b < B ∧ ∃ (A' : Option Addr) (c' : Nat), w.cell? ⟨b, off + k * 3, none⟩ = some (.int .i64 ((es.getD k (0, 0, [])).1 : Nat)) ∧ w.cell? ⟨b, off + k * 3 + 1, none⟩ = some (.int .i64 ((es.getD k (0, 0, [])).2.1 : Nat)) ∧ (w.cell? ⟨b, off + k * 3 + 2, none⟩ = some (.slice A' (es.getD k (0, 0, [])).2.2.length c')) ∧ GatesAt w B A' (hpI (es.getD k (0, 0, [])).2.2)
theorem RoIn.below {w w' : World} {B : Nat} {A : Option Addr} {es : List Ro} (h : RoIn w B A es) (hb : Below B w w') : RoIn w' B A es := fun k hk => by
  obtain ⟨b, off, e, hB, A', c', e0, e1, e2, hx⟩ := h k hk
  refine ⟨b, off, e, hB, A', c', (hb.cell (by exact hB)).trans e0, (hb.cell (by exact hB)).trans e1, ?_, hx.below hb⟩
  exact (hb.cell (by exact hB)).trans e2
theorem RoIn.mono {w : World} {B B' : Nat} {A : Option Addr} {es : List Ro} (h : RoIn w B A es) (hb : B ≤ B') : RoIn w B' A es := fun k hk => by
  obtain ⟨b, off, e, hB, A', c', e0, e1, e2, hx⟩ := h k hk
  exact ⟨b, off, e, Nat.lt_of_lt_of_le hB hb, A', c', e0, e1, e2, hx.mono hb⟩
/-- Such a list in memory of the call's own. -/
def RoAt (w : World) (B : Nat) (es : List Ro) (hs : List Value) (g cap : Nat) : Prop := w.ownsRow B 200 3 (.slice (some ⟨g, 0, none⟩) es.length cap) es.length hs ∧ RoHdrs w (Off w B g) hs es
theorem RoAt.gb {w : World} {B g cap : Nat} {es : List Ro} {hs : List Value} (h : RoAt w B es hs g cap) : B ≤ g ∧ g < w.heap.size := h.1.lt g rfl
theorem RoAt.on {w w' : World} {B g cap : Nat} {es : List Ro} {hs : List Value} (h : RoAt w B es hs g cap) (hb : Below w.heap.size w w') : RoAt w' B es hs g cap :=
  ⟨own_keepE h.1 (hb.block g (h.1.lt g rfl).2), h.2.kept (fun b hb' => hb.block b hb'.2.1) (Off.on hb.size)⟩
theorem RoAt.keep {w w' : World} {B g cap : Nat} {es : List Ro} {hs : List Value} (h : RoAt w B es hs g cap) (hk : ∀ b, B ≤ b → b < w.heap.size → w'.heap[b]? = w.heap[b]?) (hz : w.heap.size ≤ w'.heap.size) : RoAt w' B es hs g cap :=
  ⟨own_keepE h.1 (hk g h.gb.1 h.gb.2), h.2.kept (fun b hb' => hk b hb'.1 hb'.2.1) (Off.on hz)⟩
theorem RoAt.read {w : World} {B g cap : Nat} {es : List Ro} {hs : List Value} (h : RoAt w B es hs g cap) : RoIn w w.heap.size (some ⟨g, 0, none⟩) es := fun k hk => by
  obtain ⟨cur, hrow, _, _, _, _, hget⟩ := own_partsE h.1
  obtain ⟨A', c', e0, e1, e2, hx⟩ := h.2.2 k hk
  refine ⟨g, 0, rfl, hrow.lt, A', c', ?_, ?_, ?_, (hx.kept (fun _ _ => rfl) (T := fun b => b < w.heap.size) (fun b hb => hb.2.1)).gates⟩
  · rw [Nat.zero_add, hrow.cell, hget _ (by omega)]; exact e0
  · rw [Nat.zero_add, hrow.cell, hget _ (by omega)]; exact e1
  · skip
    · rw [Nat.zero_add, hrow.cell, hget _ (by omega)]; exact e2
theorem RoAt.made (w : World) (B : Nat) (hB : B ≤ w.heap.size) : RoAt (w.alloc (.cells #[] 200)) B [] [] w.heap.size 0 := by
  have h := World.ownsRow_lit (base := B) (e := 200) (size := 3) w #[] 0 hB (by simp [maxLen]) (by simp)
  exact ⟨h, RoHdrs.nil _ _⟩
section
variable {ops : Array Oper} {rest : List Oper} {o : Oper} {a : Act} {Q : Exit → Act → World → Prop}
end
end Go.Proofs.Ytdadokcodklfgaa
/- Comparison and marks of hops. -/
namespace Go.Proofs.Ytdadokcodklfgaa
open Go.RowKit Go.Deep Cut Plc Rt
/-- The first n hops of block g hold marks from k on. -/
def HMarks (cs : Array Value) (k n : Nat) : Prop := ∀ j, j < n → cs[j * 2]? = some (.int .i64 ((k : Int) + 2 * j)) ∧ cs[j * 2 + 1]? = some (.int .i64 ((k : Int) + 2 * j + 1))
theorem HMarks.step {cs : Array Value} {k i : Nat} (h : HMarks cs k i) (hs : i * 2 + 1 < cs.size) : HMarks ((cs.setIfInBounds (i * 2) (.int .i64 ((k : Int) + 2 * i))).setIfInBounds (i * 2 + 1) (.int .i64 ((k : Int) + 2 * i + 1))) k (i + 1) := fun j hj => by
  by_cases e : i = j
  · subst e
    constructor
    · rw [Array.getElem?_setIfInBounds_ne (by omega), Array.getElem?_setIfInBounds_self_of_lt (by omega)]
    · rw [Array.getElem?_setIfInBounds_self_of_lt (by simp; omega)]
  · have := h j (by omega)
    constructor
    · rw [Array.getElem?_setIfInBounds_ne (by omega), Array.getElem?_setIfInBounds_ne (by omega)]; exact this.1
    · rw [Array.getElem?_setIfInBounds_ne (by omega), Array.getElem?_setIfInBounds_ne (by omega)]; exact this.2
/-- The marks before route j. -/
def ofH (ls : List Nat) : Nat → Nat
  | 0 => 0
  | j + 1 => ofH ls j + (2 * ls.getD j 0 + 2)
/-- Lists of hops in blocks of their own from B on, the first m of them marked. -/
structure HH (w : World) (B : Nat) (hs : List Value) (ls : List Nat) (m K : Nat) : Prop where
  len : hs.length = ls.length
  lf : ∀ j, j < ls.length → ∃ (A : Option Addr) (cap : Nat), hs[j]? = some (.slice A (ls.getD j 0) cap) ∧ (ls.getD j 0 = 0 ∨ ∃ (b : Nat) (cs : Array Value), A = some ⟨b, 0, none⟩ ∧ B ≤ b ∧ Row w b 204 cs ∧ ls.getD j 0 * 2 ≤ cs.size ∧ (j < m → HMarks cs (K + ofH ls j + 2) (ls.getD j 0)))
theorem HH.on {w w' : World} {B m K : Nat} {hs : List Value} {ls : List Nat} (h : HH w B hs ls m K) (hb : Below w.heap.size w w') : HH w' B hs ls m K := ⟨h.len, fun j hj => by
  obtain ⟨A, cap, e, h1⟩ := h.lf j hj
  refine ⟨A, cap, e, ?_⟩
  rcases h1 with h1 | ⟨b, cs, e1, h2, h3, h4, h5⟩
  · exact .inl h1
  · exact .inr ⟨b, cs, e1, h2, h3.below hb h3.lt, h4, h5⟩⟩
theorem HH.set {w : World} {B m K g : Nat} {t : TypeId} {cg : Array Value} {hs : List Value} {ls : List Nat} (h : HH w B hs ls m K) (hg : Row w g t cg) (ht : t ≠ 204) (i : Nat) (u : Value) : HH (w.setCell ⟨g, i, none⟩ u) B hs ls m K := ⟨h.len, fun j hj => by
  obtain ⟨A, cap, e, h1⟩ := h.lf j hj
  refine ⟨A, cap, e, ?_⟩
  rcases h1 with h1 | ⟨b, cs, e1, h2, h3, h4, h5⟩
  · exact .inl h1
  · exact .inr ⟨b, cs, e1, h2, h3.far (p := ⟨g, i, none⟩) (h3.ne hg (fun e => ht e.symm)) u, h4, h5⟩⟩
theorem HH.mark {w w' : World} {B m K b : Nat} {hs : List Value} {ls : List Nat} {cs' : Array Value} {cap : Nat} (h : HH w B hs ls m K) (hd : DistH hs) (hm : m < ls.length) (he : hs[m]? = some (.slice (some ⟨b, 0, none⟩) (ls.getD m 0) cap)) (hpos : 0 < ls.getD m 0)
    (ho : Only (some b) w w') (hB : B ≤ b) (hr : Row w' b 204 cs') (hs' : ls.getD m 0 * 2 ≤ cs'.size) (hk : HMarks cs' (K + ofH ls m + 2) (ls.getD m 0)) : HH w' B hs ls (m + 1) K := ⟨h.len, fun j hj => by
  by_cases e : j = m
  · subst e
    exact ⟨_, cap, he, .inr ⟨b, cs', rfl, hB, hr, hs', fun _ => hk⟩⟩
  · obtain ⟨A, cap2, e2, h1⟩ := h.lf j hj
    refine ⟨A, cap2, e2, ?_⟩
    rcases h1 with h1 | ⟨b2, cs2, e1, h2, h3, h4, h5⟩
    · exact .inl h1
    · by_cases hz : ls.getD j 0 = 0
      · exact .inl hz
      · refine .inr ⟨b2, cs2, e1, h2, ho.row h3 (fun eb => ?_), h4, fun hjm => h5 (by omega)⟩
        injection eb with eb
        subst eb e1
        have v1 : vblk (.slice (some ⟨b2, 0, none⟩) (ls.getD j 0) cap2) = some b2 := by
          obtain ⟨q, hq⟩ : ∃ q, ls.getD j 0 = q + 1 := ⟨ls.getD j 0 - 1, by omega⟩
          rw [hq]; rfl
        have v2 : vblk (.slice (some ⟨b2, 0, none⟩) (ls.getD m 0) cap) = some b2 := by
          obtain ⟨q, hq⟩ : ∃ q, ls.getD m 0 = q + 1 := ⟨ls.getD m 0 - 1, by omega⟩
          rw [hq]; rfl
        rcases Nat.lt_or_gt_of_ne e with h6 | h6
        · exact hd j m h6 _ _ e2 he b2 v1 v2
        · exact hd m j h6 _ _ he e2 b2 v2 v1⟩
theorem HH.skip {w : World} {B m K : Nat} {hs : List Value} {ls : List Nat} (h : HH w B hs ls m K) (hz : ls.getD m 0 = 0) : HH w B hs ls (m + 1) K := ⟨h.len, fun j hj => by
  obtain ⟨A, cap, e, h1⟩ := h.lf j hj
  refine ⟨A, cap, e, ?_⟩
  rcases h1 with h1 | ⟨b, cs, e1, h2, h3, h4, h5⟩
  · exact .inl h1
  · by_cases hj2 : j = m
    · subst hj2; exact .inl hz
    · exact .inr ⟨b, cs, e1, h2, h3, h4, fun h => h5 (by omega)⟩⟩
/-- What the marks on route j are. -/
def RoMk (cs : Array Value) (ls : List Nat) (K j : Nat) : Prop := cs[j * 3]? = some (.int .i64 (K + ofH ls j : Nat)) ∧ cs[j * 3 + 1]? = some (.int .i64 (K + ofH ls j + 1 : Nat))
def RoRow (w : World) (g : Nat) (hs : List Value) (ls : List Nat) (m K : Nat) : Prop := ∃ cs, Row w g 200 cs ∧ ls.length * 3 ≤ cs.size ∧ (∀ j, j < ls.length → cs[j * 3 + 2]? = hs[j]?) ∧ ∀ j, j < m → RoMk cs ls K j
theorem RoRow.below {w w' : World} {g m K B : Nat} {hs : List Value} {ls : List Nat} (h : RoRow w g hs ls m K) (hb : Below B w w') (hg : g < B) : RoRow w' g hs ls m K := by
  obtain ⟨cs, hr, h1, h2, h3⟩ := h
  exact ⟨cs, hr.below hb hg, h1, h2, h3⟩
theorem RoRow.lt {w : World} {g m K : Nat} {hs : List Value} {ls : List Nat} (h : RoRow w g hs ls m K) : g < w.heap.size := by
  obtain ⟨cs, hr, _⟩ := h
  exact hr.lt
theorem RoMk.set {cs : Array Value} {hs : List Value} {ls : List Nat} {m K : Nat} (h1 : ls.length * 3 ≤ cs.size) (h2 : ∀ j, j < ls.length → cs[j * 3 + 2]? = hs[j]?) (h3 : ∀ j, j < m → RoMk cs ls K j) (hm : m < ls.length) :
    ls.length * 3 ≤ ((cs.setIfInBounds (m * 3) (.int .i64 (K + ofH ls m : Nat))).setIfInBounds (m * 3 + 1) (.int .i64 (K + ofH ls m + 1 : Nat))).size ∧ (∀ j, j < ls.length → ((cs.setIfInBounds (m * 3) (.int .i64 (K + ofH ls m : Nat))).setIfInBounds (m * 3 + 1) (.int .i64 (K + ofH ls m + 1 : Nat)))[j * 3 + 2]? = hs[j]?) ∧ ∀ j, j < m + 1 → RoMk ((cs.setIfInBounds (m * 3) (.int .i64 (K + ofH ls m : Nat))).setIfInBounds (m * 3 + 1) (.int .i64 (K + ofH ls m + 1 : Nat))) ls K j := by
  refine ⟨by simpa using h1, fun j hj => ?_, fun j hj => ?_⟩
  · rw [Array.getElem?_setIfInBounds_ne (by omega), Array.getElem?_setIfInBounds_ne (by omega)]
    exact h2 j hj
  · by_cases e : j = m
    · subst e
      refine ⟨?_, ?_⟩
      · rw [Array.getElem?_setIfInBounds_ne (by omega), Array.getElem?_setIfInBounds_self_of_lt (by omega)]
      · rw [Array.getElem?_setIfInBounds_self_of_lt (by simp; omega)]
    · obtain ⟨a, b⟩ := h3 j (by omega)
      refine ⟨?_, ?_⟩
      · rw [Array.getElem?_setIfInBounds_ne (by omega), Array.getElem?_setIfInBounds_ne (by omega)]; exact a
      · rw [Array.getElem?_setIfInBounds_ne (by omega), Array.getElem?_setIfInBounds_ne (by omega)]; exact b

/-- The lengths of the lists of hops. -/
def lensR (es : List Ro) : List Nat := es.map fun e => e.2.2.length
theorem lensR_get (es : List Ro) (j : Nat) : (lensR es).getD j 0 = (es.getD j (0, 0, [])).2.2.length := by
  unfold lensR
  simp only [List.getD_eq_getElem?_getD, List.getElem?_map]
  cases es[j]? <;> rfl
theorem dist_pickR {hs hds : List Value} {f : Nat → Nat} (hd : DistH hs) (hf : ∀ j k, j < k → f j < f k) (h : ∀ j, j < hds.length → hds[j]? = hs[f j]?) : DistH hds := fun j k hjk u v hu hv => by
  have hk := (List.getElem?_eq_some_iff.1 hv).1
  rw [h j (by omega)] at hu
  rw [h k hk] at hv
  exact hd (f j) (f k) (hf j k hjk) u v hu hv
theorem RoAt.marks {w : World} {B g cap : Nat} {es : List Ro} {hs : List Value} (h : RoAt w B es hs g cap) (hd : DistH hs) (K : Nat) : ∃ hds, RoRow w g hds (lensR es) 0 K ∧ HH w B hds (lensR es) 0 K ∧ DistH hds := by
  obtain ⟨cur, hrow, _, hnc, hcs, hhl, hget⟩ := own_partsE h.1
  have hll : (lensR es).length = es.length := by simp [lensR]
  have hE : ∀ j, j < es.length → ((List.range es.length).map fun j => hs.getD (j * 3 + 2) (.bool false))[j]? = hs[j * 3 + 2]? := fun j hj => by
    rw [List.getElem?_map, List.getElem?_range hj]
    show some (hs.getD (j * 3 + 2) (.bool false)) = _
    rw [List.getD_eq_getElem?_getD]
    obtain ⟨_, _, _, _, e1, _⟩ := h.2.2 j hj
    rw [e1]; rfl
  refine ⟨(List.range es.length).map fun j => hs.getD (j * 3 + 2) (.bool false), ⟨cur, hrow, ?_, fun j hj => ?_, fun j hj => by omega⟩, ⟨by simp [hll], fun j hj => ?_⟩, ?_⟩
  · rw [hll, hcs]; exact Nat.mul_le_mul_right 3 hnc
  · rw [hll] at hj
    rw [hE j hj]
    exact hget _ (by omega)
  · rw [hll] at hj
    obtain ⟨A', c', _, _, e1, hx⟩ := h.2.2 j hj
    refine ⟨A', c', by rw [hE j hj, lensR_get]; exact e1, ?_⟩
    rw [lensR_get]
    rcases hx with hx | ⟨b, cs', eA, hS, hrb, hcb⟩
    · exact .inl (by rw [hx]; rfl)
    · refine .inr ⟨b, cs', eA, hS.1, hrb, ?_, fun h => absurd h (by omega)⟩
      generalize (es.getD j (0, 0, [])).2.2 = y at *
      rcases Nat.eq_zero_or_pos y.length with h0 | h0
      · omega
      · have := Array.getElem?_eq_some_iff.1 (hcb (y.length - 1) (by omega)).2
        obtain ⟨h9, _⟩ := this
        omega
  · exact dist_pickR (f := fun j => j * 3 + 2) hd (fun j k h => by omega) (fun j hj => hE j (by simpa using hj))
end Go.Proofs.Ytdadokcodklfgaa
/- The walks of routing: Route of the program. -/
namespace Plc
end Plc
namespace Rt
end Rt
namespace Go.Proofs.Ytdadokcodklfgaa
open Go.RowKit Go.Deep Cut Plc Rt

end Go.Proofs.Ytdadokcodklfgaa
/- Facts about the routes of a circuit and a placement. -/
namespace Go.Proofs.Ytdadokcodklfgaa
open Go.RowKit Go.Deep Cut Plc Rt

end Go.Proofs.Ytdadokcodklfgaa
/- What the laws of Route need: comparison of routes, the list of used wires. -/
namespace Go.Proofs.Ytdadokcodklfgaa
open Go.RowKit Go.Deep Cut Plc Rt
set_option maxRecDepth 100000

section
variable {ops : Array Oper} {o : Oper} {a : Act} {Q : Exit → Act → World → Prop}
end

end Go.Proofs.Ytdadokcodklfgaa
/- What the law of every used net asks of a set of routes. -/
namespace Go.Proofs.Ytdadokcodklfgaa
open Go.RowKit Go.Deep Cut Plc Rt

end Go.Proofs.Ytdadokcodklfgaa
