/- The contracts of the copy, the size and the comparison of circuits. -/
import Derived.Test.YtdadokcodklfgaaW3
namespace Go.Proofs.Ytdadokcodklfgaa
open Go.RowKit Go.Deep

theorem IntsAt.far {w : World} {B : Nat} {A : Option Addr} {xs : List Int} (h : IntsAt w B A xs) (p : Addr) (u : Value) (hne : ∀ b off, A = some ⟨b, off, none⟩ → b ≠ p.block) : IntsAt (w.setCell p u) B A xs := fun k hk => by
  obtain ⟨b, off, e, hlt, hc⟩ := h k hk
  exact ⟨b, off, e, hlt, (World.cell?_of_block (Below.heap_setCell w p u b (hne b off e))).trans hc⟩
theorem GatesAt.far {w : World} {B : Nat} {A : Option Addr} {xs : List (Int × Int)} (h : GatesAt w B A xs) (p : Addr) (u : Value) (hne : ∀ b off, A = some ⟨b, off, none⟩ → b ≠ p.block) : GatesAt (w.setCell p u) B A xs := fun k hk => by
  obtain ⟨b, off, e, hlt, hc, hd⟩ := h k hk
  exact ⟨b, off, e, hlt, (World.cell?_of_block (Below.heap_setCell w p u b (hne b off e))).trans hc, (World.cell?_of_block (Below.heap_setCell w p u b (hne b off e))).trans hd⟩
structure Boxes (w' : World) (B : Nat) (t0 : TypeId) (cs0 cs1 cs2 : Array Value) : Prop where
  r0 : Row w' B t0 cs0
  r1 : Row w' (B + 1) 108 cs1
  r2 : Row w' (B + 1 + 1) 108 cs2
theorem Boxes.below {w w' : World} {B : Nat} {t0 : TypeId} {cs0 cs1 cs2 : Array Value} (h : Boxes w B t0 cs0 cs1 cs2) (hb : Below w.heap.size w w') : Boxes w' B t0 cs0 cs1 cs2 :=
  ⟨h.r0.below hb h.r0.lt, h.r1.below hb h.r1.lt, h.r2.below hb h.r2.lt⟩
theorem Row.far {w : World} {g : Nat} {t : TypeId} {cs : Array Value} (h : Row w g t cs) {p : Addr} (hp : g ≠ p.block) (u : Value) : Row (w.setCell p u) g t cs := (Below.heap_setCell w p u g hp).trans h
theorem Boxes.set2 {w : World} {B : Nat} {t0 : TypeId} {cs0 cs1 cs2 : Array Value} (h : Boxes w B t0 cs0 cs1 cs2) (j : Nat) (u : Value) : Boxes (w.setCell ⟨B + 1 + 1, j, none⟩ u) B t0 cs0 cs1 (cs2.setIfInBounds j u) :=
  ⟨h.r0.far (by simp; omega) u, h.r1.far (by simp) u, h.r2.set j u⟩
theorem Boxes.new (w : World) (t0 : TypeId) (cs0 cs1 cs2 : Array Value) : Boxes (((w.alloc (.cells cs0 t0)).alloc (.cells cs1 108)).alloc (.cells cs2 108)) w.heap.size t0 cs0 cs1 cs2 := by
  refine ⟨?_, ?_, ?_⟩
  · show _[w.heap.size]? = _
    rw [Below.heap_alloc _ _ _ (by simp; omega), Below.heap_alloc _ _ _ (by simp)]; exact heap_alloc_new w _
  · show _[w.heap.size + 1]? = _
    rw [Below.heap_alloc _ _ _ (by simp)]
    have := heap_alloc_new (w.alloc (.cells cs0 t0)) (.cells cs1 108)
    simpa using this
  · have := heap_alloc_new ((w.alloc (.cells cs0 t0)).alloc (.cells cs1 108)) (.cells cs2 108)
    show _[w.heap.size + 1 + 1]? = _
    simpa using this

/-- A circuit whose three lists lie in blocks of their own, from B on. -/
structure CircRows (w : World) (B g1 g2 g3 : Nat) (ns : List Int) (gs : List (Int × Int)) (os : List Int) : Prop where
  next : IRow w g1 ns
  gates : GRow w g2 gs
  outs : IRow w g3 os
  nl : ns.length ≤ maxLen
  gl : gs.length ≤ maxLen
  ol : os.length ≤ maxLen
  b0 : B ≤ g1
  b1 : g1 < g2
  b2 : g2 < g3
theorem CircRows.at {w : World} {B g1 g2 g3 : Nat} {ns : List Int} {gs : List (Int × Int)} {os : List Int} (h : CircRows w B g1 g2 g3 ns gs os) : CircAt w w.heap.size (some ⟨g1, 0, none⟩) (some ⟨g2, 0, none⟩) (some ⟨g3, 0, none⟩) ns gs os :=
  ⟨h.next.ints, h.gates.gates, h.outs.ints, h.nl, h.gl, h.ol⟩
theorem CircRows.below {w w' : World} {B g1 g2 g3 : Nat} {ns : List Int} {gs : List (Int × Int)} {os : List Int} (h : CircRows w B g1 g2 g3 ns gs os) (hb : Below w.heap.size w w') : CircRows w' B g1 g2 g3 ns gs os :=
  ⟨h.next.below hb h.next.lt, h.gates.below hb h.gates.lt, h.outs.below hb h.outs.lt, h.nl, h.gl, h.ol, h.b0, h.b1, h.b2⟩
theorem IRow.far {w : World} {g : Nat} {xs : List Int} (h : IRow w g xs) (p : Addr) (u : Value) (hp : g ≠ p.block) : IRow (w.setCell p u) g xs := by
  obtain ⟨cs, hr, hf⟩ := h
  exact ⟨cs, hr.far hp u, hf⟩
theorem GRow.far {w : World} {g : Nat} {xs : List (Int × Int)} (h : GRow w g xs) (p : Addr) (u : Value) (hp : g ≠ p.block) : GRow (w.setCell p u) g xs := by
  obtain ⟨cs, hr, hf⟩ := h
  exact ⟨cs, hr.far hp u, hf⟩
theorem CircRows.far {w : World} {B g1 g2 g3 : Nat} {ns : List Int} {gs : List (Int × Int)} {os : List Int} (h : CircRows w B g1 g2 g3 ns gs os) (p : Addr) (u : Value) (h1 : g1 ≠ p.block) (h2 : g2 ≠ p.block) (h3 : g3 ≠ p.block) : CircRows (w.setCell p u) B g1 g2 g3 ns gs os :=
  ⟨h.next.far p u h1, h.gates.far p u h2, h.outs.far p u h3, h.nl, h.gl, h.ol, h.b0, h.b1, h.b2⟩

end Go.Proofs.Ytdadokcodklfgaa
