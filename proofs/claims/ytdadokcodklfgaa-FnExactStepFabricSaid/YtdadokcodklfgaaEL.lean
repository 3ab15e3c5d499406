/- Memory of lists of Lu: headers of leaves among other cells. -/
import Derived.Test.YtdadokcodklfgaaQD
import Derived.Test.YtdadokcodklfgaaC4
import Derived.Deep.RegionLaw
namespace Go.Proofs.Ytdadokcodklfgaa
open Go.RowKit Go.Deep Cut

/-- The cells of such a list, the leaves in S. -/
def LuHdrs (w : World) (S : Nat → Prop) (hs : List Value) (es : List Lt) : Prop :=
  hs.length = es.length * 3 ∧ ∀ k, k < es.length → ∃ (A' : Option Addr) (cap : Nat), hs[k * 3]? = some (.int .i64 ((es.getD k (0, [], 0)).1 : Nat)) ∧ hs[k * 3 + 1]? = some (.slice A' (es.getD k (0, [], 0)).2.1.length cap) ∧ (hs[k * 3 + 2]? = some (.int .i64 ((es.getD k (0, [], 0)).2.2 : Nat))) ∧ LeafIn w S A' (es.getD k (0, [], 0)).2.1
theorem LuHdrs.kept {w w' : World} {S T : Nat → Prop} {hs : List Value} {es : List Lt} (h : LuHdrs w S hs es) (hS : ∀ b, S b → w'.heap[b]? = w.heap[b]?) (hT : ∀ b, S b → T b) : LuHdrs w' T hs es := ⟨h.1, fun k hk => by
  obtain ⟨A', cap, e0, e1, e2, hx⟩ := h.2 k hk
  exact ⟨A', cap, e0, e1, e2, hx.kept hS hT⟩⟩
theorem LuHdrs.nil (w : World) (S : Nat → Prop) : LuHdrs w S [] [] := ⟨rfl, fun k hk => absurd hk (by simp)⟩
theorem LuHdrs.snoc {w : World} {S : Nat → Prop} {hs : List Value} {es : List Lt} (h : LuHdrs w S hs es) (v : Nat) {A : Option Addr} {m c : Nat} {y : List Nat} (t : Nat) (hm : y.length = m) (hx : LeafIn w S A y) : LuHdrs w S (hs ++ [.int .i64 v, .slice A m c, .int .i64 t]) (es ++ [(v, y, t)]) := by
  subst hm
  have hl := h.1
  refine ⟨by simp [hl]; omega, fun k hk => ?_⟩
  by_cases e : k < es.length
  · obtain ⟨A', cap, e0, e1, e2, hx'⟩ := h.2 k e
    rw [Circ.getD_app_lt _ _ _ _ e]
    refine ⟨A', cap, ?_, ?_, ?_, hx'⟩
    · rw [List.getElem?_append_left (by omega)]; exact e0
    · rw [List.getElem?_append_left (by omega)]; exact e1
    · skip
      · rw [List.getElem?_append_left (by omega)]; exact e2
  · obtain rfl : k = es.length := by simp at hk; omega
    rw [Circ.getD_app_at _ _ _ _ rfl]
    refine ⟨A, c, ?_, ?_, ?_, hx⟩
    · rw [List.getElem?_append_right (by omega), hl, Nat.sub_self]; rfl
    · rw [List.getElem?_append_right (by omega), hl, show es.length * 3 + 1 - es.length * 3 = 1 by omega]; rfl
    · skip
      · rw [List.getElem?_append_right (by omega), hl, show es.length * 3 + 2 - es.length * 3 = 2 by omega]; rfl
/-- Such a list that can be read. -/
def LuIn (w : World) (B : Nat) (A : Option Addr) (es : List Lt) : Prop :=
  ∀ k, k < es.length → ∃ (b off : Nat), A = some ⟨b, off, none⟩ ∧ b < B ∧ ∃ (A' : Option Addr) (c' : Nat), w.cell? ⟨b, off + k * 3, none⟩ = some (.int .i64 ((es.getD k (0, [], 0)).1 : Nat)) ∧ w.cell? ⟨b, off + k * 3 + 1, none⟩ = some (.slice A' (es.getD k (0, [], 0)).2.1.length c') ∧ (w.cell? ⟨b, off + k * 3 + 2, none⟩ = some (.int .i64 ((es.getD k (0, [], 0)).2.2 : Nat))) ∧ IntsAt w B A' (Opt.intL (es.getD k (0, [], 0)).2.1)
theorem LuIn.below {w w' : World} {B : Nat} {A : Option Addr} {es : List Lt} (h : LuIn w B A es) (hb : Below B w w') : LuIn w' B A es := fun k hk => by
  obtain ⟨b, off, e, hB, A', c', e0, e1, e2, hx⟩ := h k hk
  refine ⟨b, off, e, hB, A', c', (hb.cell (by exact hB)).trans e0, (hb.cell (by exact hB)).trans e1, ?_, hx.below hb⟩
  exact (hb.cell (by exact hB)).trans e2
theorem LuIn.mono {w : World} {B B' : Nat} {A : Option Addr} {es : List Lt} (h : LuIn w B A es) (hb : B ≤ B') : LuIn w B' A es := fun k hk => by
  obtain ⟨b, off, e, hB, A', c', e0, e1, e2, hx⟩ := h k hk
  exact ⟨b, off, e, Nat.lt_of_lt_of_le hB hb, A', c', e0, e1, e2, hx.mono hb⟩
/-- Such a list in memory of the call's own. -/
def LuAt (w : World) (B : Nat) (es : List Lt) (hs : List Value) (g cap : Nat) : Prop := w.ownsRow B 194 3 (.slice (some ⟨g, 0, none⟩) es.length cap) es.length hs ∧ LuHdrs w (Off w B g) hs es
theorem LuAt.gb {w : World} {B g cap : Nat} {es : List Lt} {hs : List Value} (h : LuAt w B es hs g cap) : B ≤ g ∧ g < w.heap.size := h.1.lt g rfl
theorem own_keepE {w w' : World} {B e z g n cap : Nat} {hs : List Value} (h : w.ownsRow B e z (.slice (some ⟨g, 0, none⟩) n cap) n hs) (hg : w'.heap[g]? = w.heap[g]?) : w'.ownsRow B e z (.slice (some ⟨g, 0, none⟩) n cap) n hs := by
  refine ⟨h.1, ?_⟩
  rcases h.2 with ⟨hv, _⟩ | ⟨g', cap', cur, hv, h1, h2, h3⟩
  · cases hv
  · have hv' := hv
    injection hv with e1
    injection e1 with e1
    injection e1 with e1
    subst e1
    exact .inr ⟨g, cap', cur, hv', h1, hg.trans h2, h3⟩
theorem LuAt.on {w w' : World} {B g cap : Nat} {es : List Lt} {hs : List Value} (h : LuAt w B es hs g cap) (hb : Below w.heap.size w w') : LuAt w' B es hs g cap :=
  ⟨own_keepE h.1 (hb.block g (h.1.lt g rfl).2), h.2.kept (fun b hb' => hb.block b hb'.2.1) (Off.on hb.size)⟩
theorem LuAt.keep {w w' : World} {B g cap : Nat} {es : List Lt} {hs : List Value} (h : LuAt w B es hs g cap) (hk : ∀ b, B ≤ b → b < w.heap.size → w'.heap[b]? = w.heap[b]?) (hz : w.heap.size ≤ w'.heap.size) : LuAt w' B es hs g cap :=
  ⟨own_keepE h.1 (hk g h.gb.1 h.gb.2), h.2.kept (fun b hb' => hk b hb'.1 hb'.2.1) (Off.on hz)⟩
/-- The row of a list of the call's own. -/
theorem own_partsE {w : World} {B g n cap z : Nat} {t : TypeId} {hs : List Value} (h : w.ownsRow B t z (.slice (some ⟨g, 0, none⟩) n cap) n hs) : ∃ cur, Row w g t cur ∧ B ≤ g ∧ n ≤ cap ∧ cur.size = cap * z ∧ hs.length = n * z ∧ ∀ j, j < n * z → cur[j]? = hs[j]? := by
  have hl := h.1
  rcases h.2 with ⟨h, _⟩ | ⟨g', cap', cur, hv, h1, h2, h3, h4, h5, h6⟩
  · cases h
  · injection hv with e1 _ e3
    injection e1 with e1
    injection e1 with e1
    subst e1 e3
    refine ⟨cur, h2, h1, h3, h5, hl, fun j hj => ?_⟩
    rw [← h6, List.getElem?_take, if_pos hj, Array.getElem?_toList]
theorem LuAt.read {w : World} {B g cap : Nat} {es : List Lt} {hs : List Value} (h : LuAt w B es hs g cap) : LuIn w w.heap.size (some ⟨g, 0, none⟩) es := fun k hk => by
  obtain ⟨cur, hrow, _, _, _, _, hget⟩ := own_partsE h.1
  obtain ⟨A', c', e0, e1, e2, hx⟩ := h.2.2 k hk
  refine ⟨g, 0, rfl, hrow.lt, A', c', ?_, ?_, ?_, (hx.kept (fun _ _ => rfl) (T := fun b => b < w.heap.size) (fun b hb => hb.2.1)).ints⟩
  · rw [Nat.zero_add, hrow.cell, hget _ (by omega)]; exact e0
  · rw [Nat.zero_add, hrow.cell, hget _ (by omega)]; exact e1
  · skip
    · rw [Nat.zero_add, hrow.cell, hget _ (by omega)]; exact e2
theorem LuAt.made (w : World) (B : Nat) (hB : B ≤ w.heap.size) : LuAt (w.alloc (.cells #[] 194)) B [] [] w.heap.size 0 := by
  have h := World.ownsRow_lit (base := B) (e := 194) (size := 3) w #[] 0 hB (by simp [maxLen]) (by simp)
  exact ⟨h, LuHdrs.nil _ _⟩
section
variable {ops : Array Oper} {rest : List Oper} {o : Oper} {a : Act} {Q : Exit → Act → World → Prop}
end
end Go.Proofs.Ytdadokcodklfgaa
