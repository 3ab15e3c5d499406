/- The contract of the model's cone. -/
import Derived.Test.YtdadokcodklfgaaQD
import Derived.Test.YtdadokcodklfgaaT3
import Derived.Test.YtdadokcodklfgaaW3
import Derived.Test.YtdadokcodklfgaaY2
import Derived.Deep.DeepCutAuto
import Derived.Test.YtdadokcodklfgaaNC
import Derived.Test.YtdadokcodklfgaaEL
namespace Go.Proofs.Ytdadokcodklfgaa
open Go.RowKit Go.Deep Cut

end Go.Proofs.Ytdadokcodklfgaa
/- The contract of the model's table. -/
namespace Go.Proofs.Ytdadokcodklfgaa
open Go.RowKit Go.Deep Cut

end Go.Proofs.Ytdadokcodklfgaa
/- The contract of the model's mapping. -/
namespace Go.Proofs.Ytdadokcodklfgaa
open Go.RowKit Go.Deep Cut

theorem BestAt.list {w : World} {s g cap : Nat} {xs : Cs} {hs : List Value} (h : BestAt w s xs hs g cap) : ListAt w w.heap.size (some ⟨g, 0, none⟩) xs := fun k hk => by
  have hg := h.gb
  obtain ⟨cur, hrow, _, _, _, _, hget⟩ := own_partsE h.1
  obtain ⟨A', c', e, hx⟩ := h.2.2 k hk
  exact ⟨g, 0, rfl, hg.2, A', c', by rw [Nat.zero_add, hrow.cell, hget k (by omega)]; exact e, hx.mono (by omega)⟩
/-- A row of marks. -/
def NeedB (w : World) (g n m : Nat) : Prop := ∃ cs, Row w g 4 cs ∧ cs.size = n ∧ ∀ j, j < n → cs[j]? = some (.bool (m.testBit j))
theorem NeedB.lt {w : World} {g n m : Nat} (h : NeedB w g n m) : g < w.heap.size := by obtain ⟨cs, hr, _⟩ := h; exact hr.lt
theorem NeedB.below {w w' : World} {B g n m : Nat} (h : NeedB w g n m) (hb : Below B w w') (hg : g < B) : NeedB w' g n m := by
  obtain ⟨cs, hr, h1, h2⟩ := h
  exact ⟨cs, hr.below hb hg, h1, h2⟩
theorem NeedB.cell {w : World} {g n m : Nat} (h : NeedB w g n m) {j : Nat} (hj : j < n) : w.cell? ⟨g, j, none⟩ = some (.bool (m.testBit j)) ∧ w.frozen? ⟨g, j, none⟩ = false := by
  obtain ⟨cs, hr, h1, h2⟩ := h
  exact ⟨(hr.cell j).trans (h2 j hj), hr.frozen j⟩
theorem NeedB.set {w : World} {g n m : Nat} (h : NeedB w g n m) {j : Nat} (hj : j < n) : NeedB (w.setCell ⟨g, j, none⟩ (.bool true)) g n (m ||| 2 ^ j) := by
  obtain ⟨cs, hr, h1, h2⟩ := h
  refine ⟨_, hr.set j (.bool true), by simpa using h1, fun t ht => ?_⟩
  rw [Opt.bit_or]
  by_cases e : j = t
  · subst e
    rw [Array.getElem?_setIfInBounds_self_of_lt (by omega)]
    simp
  · rw [Array.getElem?_setIfInBounds_ne e, h2 t ht]
    have : (j == t) = false := by simpa using e
    rw [this, Bool.or_false]
theorem NeedB.off {w w' : World} {g n m : Nat} (h : NeedB w g n m) (hk : w'.heap[g]? = w.heap[g]?) : NeedB w' g n m := by
  obtain ⟨cs, hr, h1, h2⟩ := h
  exact ⟨cs, hk.trans hr, h1, h2⟩
theorem own_low2 {w : World} {B B' e z g n cap : Nat} {hs : List Value} (h : w.ownsRow B e z (.slice (some ⟨g, 0, none⟩) n cap) n hs) (hB : B' ≤ B) : w.ownsRow B' e z (.slice (some ⟨g, 0, none⟩) n cap) n hs := by
  refine ⟨h.1, ?_⟩
  rcases h.2 with ⟨hv, h1⟩ | ⟨g', cap', cur, hv, h1, h2⟩
  · exact .inl ⟨hv, h1⟩
  · exact .inr ⟨g', cap', cur, hv, by omega, h2⟩
theorem LuAt.low {w : World} {B B' g cap : Nat} {es : List Lt} {hs : List Value} (h : LuAt w B es hs g cap) (hB : B' ≤ B) : LuAt w B' es hs g cap :=
  ⟨own_low2 h.1 hB, h.2.kept (fun _ _ => rfl) (fun b hb => ⟨by have := hb.1; omega, hb.2⟩)⟩
theorem LuHdrs.cons {w : World} {S : Nat → Prop} {hs : List Value} {es : List Lt} (h : LuHdrs w S hs es) (v : Nat) {A : Option Addr} {m c : Nat} {y : List Nat} (t : Nat) (hm : y.length = m) (hx : LeafIn w S A y) : LuHdrs w S ([.int .i64 v, .slice A m c, .int .i64 t] ++ hs) ((v, y, t) :: es) := by
  subst hm
  have hl := h.1
  refine ⟨by simp [hl]; omega, fun k hk => ?_⟩
  cases k with
  | zero => exact ⟨A, c, rfl, rfl, rfl, hx⟩
  | succ k =>
    obtain ⟨A', cap, e0, e1, e2, hx'⟩ := h.2 k (by simpa using hk)
    refine ⟨A', cap, ?_, ?_, ?_, hx'⟩
    · rw [List.getElem?_append_right (by simp; omega), show (k + 1) * 3 - [Value.int .i64 v, .slice A y.length c, .int .i64 t].length = k * 3 by simp; omega]; exact e0
    · rw [List.getElem?_append_right (by simp; omega), show (k + 1) * 3 + 1 - [Value.int .i64 v, .slice A y.length c, .int .i64 t].length = k * 3 + 1 by simp; omega]; exact e1
    · rw [List.getElem?_append_right (by simp; omega), show (k + 1) * 3 + 2 - [Value.int .i64 v, .slice A y.length c, .int .i64 t].length = k * 3 + 2 by simp; omega]; exact e2

end Go.Proofs.Ytdadokcodklfgaa
/- The contract of the model's MapLuts. -/
namespace Go.Proofs.Ytdadokcodklfgaa
open Go.RowKit Go.Deep Cut

end Go.Proofs.Ytdadokcodklfgaa
