/- The contracts of the copy, the size and the comparison of circuits. -/
import Derived.Test.YtliedgaefgomjaaGreatW3
namespace Go.Proofs.YtliedgaefgomjaaGreat
open Go.RowKit Go.Deep

def CircOut (w : World) (i : Int) (ns : List Int) (gs : List (Int × Int)) (os : List Int) (e : Ending) (w' : World) : Prop :=
  ∃ (nA gA oA : Option Addr) (nc gc oc : Nat), e = .returned (.agg #[.int .i64 i, .slice nA ns.length nc, .slice gA gs.length gc, .slice oA os.length oc]) ∧ CircAt w' w'.heap.size nA gA oA ns gs os ∧ Below w.heap.size w w'

theorem IntsAt.far {w : World} {B : Nat} {A : Option Addr} {xs : List Int} (h : IntsAt w B A xs) (p : Addr) (u : Value) (hne : ∀ b off, A = some ⟨b, off, none⟩ → b ≠ p.block) : IntsAt (w.setCell p u) B A xs := fun k hk => by
  obtain ⟨b, off, e, hlt, hc⟩ := h k hk
  exact ⟨b, off, e, hlt, (World.cell?_of_block (Below.heap_setCell w p u b (hne b off e))).trans hc⟩
theorem GatesAt.far {w : World} {B : Nat} {A : Option Addr} {xs : List (Int × Int)} (h : GatesAt w B A xs) (p : Addr) (u : Value) (hne : ∀ b off, A = some ⟨b, off, none⟩ → b ≠ p.block) : GatesAt (w.setCell p u) B A xs := fun k hk => by
  obtain ⟨b, off, e, hlt, hc, hd⟩ := h k hk
  exact ⟨b, off, e, hlt, (World.cell?_of_block (Below.heap_setCell w p u b (hne b off e))).trans hc, (World.cell?_of_block (Below.heap_setCell w p u b (hne b off e))).trans hd⟩
theorem size_setCell (w : World) (p : Addr) (u : Value) : (w.setCell p u).heap.size = w.heap.size := by simp [World.setCell]
theorem IntsAt.farS {w : World} {A : Option Addr} {xs : List Int} (h : IntsAt w w.heap.size A xs) (p : Addr) (u : Value) (hne : ∀ b off, A = some ⟨b, off, none⟩ → b ≠ p.block) : IntsAt (w.setCell p u) (w.setCell p u).heap.size A xs :=
  (h.far p u hne).mono (Nat.le_of_eq (size_setCell w p u).symm)
theorem GatesAt.farS {w : World} {A : Option Addr} {xs : List (Int × Int)} (h : GatesAt w w.heap.size A xs) (p : Addr) (u : Value) (hne : ∀ b off, A = some ⟨b, off, none⟩ → b ≠ p.block) : GatesAt (w.setCell p u) (w.setCell p u).heap.size A xs :=
  (h.far p u hne).mono (Nat.le_of_eq (size_setCell w p u).symm)
theorem ne_of_some {g x b off : Nat} (h : (some ⟨g, 0, none⟩ : Option Addr) = some ⟨b, off, none⟩) (hx : g ≠ x) : b ≠ x := by
  injection h with h
  injection h with h1 h2
  omega

theorem CircAt.farS {w : World} {g1 g2 g3 : Nat} {ns : List Int} {gs : List (Int × Int)} {os : List Int} (h : CircAt w w.heap.size (some ⟨g1, 0, none⟩) (some ⟨g2, 0, none⟩) (some ⟨g3, 0, none⟩) ns gs os) (p : Addr) (u : Value) (h1 : g1 ≠ p.block) (h2 : g2 ≠ p.block) (h3 : g3 ≠ p.block) :
    CircAt (w.setCell p u) (w.setCell p u).heap.size (some ⟨g1, 0, none⟩) (some ⟨g2, 0, none⟩) (some ⟨g3, 0, none⟩) ns gs os :=
  ⟨h.next.farS p u (fun _ _ e => ne_of_some e h1), h.gates.farS p u (fun _ _ e => ne_of_some e h2), h.outs.farS p u (fun _ _ e => ne_of_some e h3), h.nl, h.gl, h.ol⟩

structure Boxes (w' : World) (B : Nat) (t0 : TypeId) (cs0 cs1 cs2 : Array Value) : Prop where
  r0 : Row w' B t0 cs0
  r1 : Row w' (B + 1) 26 cs1
  r2 : Row w' (B + 1 + 1) 26 cs2
theorem Boxes.below {w w' : World} {B : Nat} {t0 : TypeId} {cs0 cs1 cs2 : Array Value} (h : Boxes w B t0 cs0 cs1 cs2) (hb : Below w.heap.size w w') : Boxes w' B t0 cs0 cs1 cs2 :=
  ⟨h.r0.below hb h.r0.lt, h.r1.below hb h.r1.lt, h.r2.below hb h.r2.lt⟩
theorem Row.far {w : World} {g : Nat} {t : TypeId} {cs : Array Value} (h : Row w g t cs) {p : Addr} (hp : g ≠ p.block) (u : Value) : Row (w.setCell p u) g t cs := (Below.heap_setCell w p u g hp).trans h
theorem Boxes.set2 {w : World} {B : Nat} {t0 : TypeId} {cs0 cs1 cs2 : Array Value} (h : Boxes w B t0 cs0 cs1 cs2) (j : Nat) (u : Value) : Boxes (w.setCell ⟨B + 1 + 1, j, none⟩ u) B t0 cs0 cs1 (cs2.setIfInBounds j u) :=
  ⟨h.r0.far (by simp; omega) u, h.r1.far (by simp) u, h.r2.set j u⟩
theorem Boxes.new (w : World) (t0 : TypeId) (cs0 cs1 cs2 : Array Value) : Boxes (((w.alloc (.cells cs0 t0)).alloc (.cells cs1 26)).alloc (.cells cs2 26)) w.heap.size t0 cs0 cs1 cs2 := by
  refine ⟨?_, ?_, ?_⟩
  · show _[w.heap.size]? = _
    rw [Below.heap_alloc _ _ _ (by simp; omega), Below.heap_alloc _ _ _ (by simp)]; exact heap_alloc_new w _
  · show _[w.heap.size + 1]? = _
    rw [Below.heap_alloc _ _ _ (by simp)]
    have := heap_alloc_new (w.alloc (.cells cs0 t0)) (.cells cs1 26)
    simpa using this
  · have := heap_alloc_new ((w.alloc (.cells cs0 t0)).alloc (.cells cs1 26)) (.cells cs2 26)
    show _[w.heap.size + 1 + 1]? = _
    simpa using this

/-- A circuit whose three lists lie in blocks of their own, from B on. -/
structure CircRows (w : World) (B g1 g2 g3 : Nat) (ns : List Int) (gs : List (Int × Int)) (os : List Int) : Prop where
  next : IRow w g1 ns
  gates : GRow w g2 gs
  outs : IRow w g3 os
  nl : ns.length ≤ maxLen
  gl : gs.length ≤ maxLen
  ol : os.length ≤ maxLen
  b0 : B ≤ g1
  b1 : g1 < g2
  b2 : g2 < g3
theorem CircRows.at {w : World} {B g1 g2 g3 : Nat} {ns : List Int} {gs : List (Int × Int)} {os : List Int} (h : CircRows w B g1 g2 g3 ns gs os) : CircAt w w.heap.size (some ⟨g1, 0, none⟩) (some ⟨g2, 0, none⟩) (some ⟨g3, 0, none⟩) ns gs os :=
  ⟨h.next.ints, h.gates.gates, h.outs.ints, h.nl, h.gl, h.ol⟩
theorem CircRows.below {w w' : World} {B g1 g2 g3 : Nat} {ns : List Int} {gs : List (Int × Int)} {os : List Int} (h : CircRows w B g1 g2 g3 ns gs os) (hb : Below w.heap.size w w') : CircRows w' B g1 g2 g3 ns gs os :=
  ⟨h.next.below hb h.next.lt, h.gates.below hb h.gates.lt, h.outs.below hb h.outs.lt, h.nl, h.gl, h.ol, h.b0, h.b1, h.b2⟩
def CircOut2 (w : World) (i : Int) (ns : List Int) (gs : List (Int × Int)) (os : List Int) (e : Ending) (w' : World) : Prop :=
  ∃ (g1 g2 g3 : Nat), e = .returned (.agg #[.int .i64 i, .slice (some ⟨g1, 0, none⟩) ns.length ns.length, .slice (some ⟨g2, 0, none⟩) gs.length gs.length, .slice (some ⟨g3, 0, none⟩) os.length os.length]) ∧ CircRows w' w.heap.size g1 g2 g3 ns gs os ∧ Below w.heap.size w w'
theorem IRow.far {w : World} {g : Nat} {xs : List Int} (h : IRow w g xs) (p : Addr) (u : Value) (hp : g ≠ p.block) : IRow (w.setCell p u) g xs := by
  obtain ⟨cs, hr, hf⟩ := h
  exact ⟨cs, hr.far hp u, hf⟩
theorem GRow.far {w : World} {g : Nat} {xs : List (Int × Int)} (h : GRow w g xs) (p : Addr) (u : Value) (hp : g ≠ p.block) : GRow (w.setCell p u) g xs := by
  obtain ⟨cs, hr, hf⟩ := h
  exact ⟨cs, hr.far hp u, hf⟩
theorem CircRows.far {w : World} {B g1 g2 g3 : Nat} {ns : List Int} {gs : List (Int × Int)} {os : List Int} (h : CircRows w B g1 g2 g3 ns gs os) (p : Addr) (u : Value) (h1 : g1 ≠ p.block) (h2 : g2 ≠ p.block) (h3 : g3 ≠ p.block) : CircRows (w.setCell p u) B g1 g2 g3 ns gs os :=
  ⟨h.next.far p u h1, h.gates.far p u h2, h.outs.far p u h3, h.nl, h.gl, h.ol, h.b0, h.b1, h.b2⟩

theorem toIntS_ex (A : Option Addr) (cap : Nat) (xs : List Int) (w : World) (hx : IntsAt w w.heap.size A xs) (hl : xs.length ≤ 2000000) :
    Calls Tryz.prog 16 #[.slice A xs.length cap] w fun e w' => ∃ g : Nat, e = .returned (.slice (some ⟨g, 0, none⟩) xs.length xs.length) ∧ w.heap.size ≤ g ∧ Below w.heap.size w w' ∧ IRow w' g xs :=
  (toIntS_row A cap xs w hx hl).mono fun _ _ ⟨he, hb, hi⟩ => ⟨w.heap.size, he, Nat.le_refl _, hb, hi⟩
theorem toGateS_ex (A : Option Addr) (cap : Nat) (xs : List (Int × Int)) (w : World) (hx : GatesAt w w.heap.size A xs) (hl : xs.length ≤ 2000000) :
    Calls Tryz.prog 38 #[.slice A xs.length cap] w fun e w' => ∃ g : Nat, e = .returned (.slice (some ⟨g, 0, none⟩) xs.length xs.length) ∧ w.heap.size ≤ g ∧ Below w.heap.size w w' ∧ GRow w' g xs :=
  (toGateS_row A cap xs w hx hl).mono fun _ _ ⟨he, hb, hi⟩ => ⟨w.heap.size, he, Nat.le_refl _, hb, hi⟩

set_option maxHeartbeats 800000 in
theorem toCircuit_rows (i : Int) (nA gA oA : Option Addr) (nc gc oc : Nat) (ns : List Int) (gs : List (Int × Int)) (os : List Int) (w : World) (hc : CircAt w w.heap.size nA gA oA ns gs os)
    (hnl : ns.length ≤ 2000000) (hgl : gs.length ≤ 2000000) (hol : os.length ≤ 2000000) :
    Calls Tryz.prog 15 #[.agg #[.int .i64 i, .slice nA ns.length nc, .slice gA gs.length gc, .slice oA os.length oc]] w (CircOut2 w i ns gs os) := by
  have HC := Lib.hid hc
  clear hc
  have HB0 := Lib.hid (Boxes.new w 48 #[.int .i64 i, .slice nA ns.length nc, .slice gA gs.length gc, .slice oA os.length oc] #[.int .i64 0, .slice none 0 0, .slice none 0 0, .slice none 0 0] #[.int .i64 i, .slice none 0 0, .slice none 0 0, .slice none 0 0])
  have hbl0 : Below w.heap.size w (((w.alloc (.cells #[.int .i64 i, .slice nA ns.length nc, .slice gA gs.length gc, .slice oA os.length oc] 48)).alloc (.cells #[.int .i64 0, .slice none 0 0, .slice none 0 0, .slice none 0 0] 26)).alloc (.cells #[.int .i64 i, .slice none 0 0, .slice none 0 0, .slice none 0 0] 26)) := (((Below.refl _ _).alloc (Nat.le_refl _) _).alloc (by simp) _).alloc (by simp; omega) _
  have HL0 := Lib.hid hbl0
  clear hbl0
  go_enter Tryz.func15, Tryz.ntmps15
  go_wp2_with fail
  refine (toIntS_ex nA nc ns _ ((HC.out.next.below HL0.out).mono HL0.out.size) hnl).mono ?_
  rintro e w1 ⟨g1, rfl, hg1, hb1, hi1⟩
  have hg1' : w.heap.size + 1 + 1 < g1 := by simp at hg1; omega
  have HB1 := Lib.hid (HB0.out.below hb1)
  have HL1 := Lib.hid (HL0.out.trans (hb1.mono HL0.out.size))
  have HI1 := Lib.hid hi1
  clear hb1 hi1 HB0 HL0 hg1
  have q1 := HB1.out.r0.cell 2
  have q2 := HB1.out.r2.cell 1
  have q3 := HB1.out.r2.frozen 1
  simp at q1 q2
  go_wp2_with fail
  clear q1 q2 q3
  have HB2 := Lib.hid (HB1.out.set2 1 (.slice (some ⟨g1, 0, none⟩) ns.length ns.length))
  have HL2 := Lib.hid (HL1.out.setCell (p := ⟨w.heap.size + 1 + 1, 1, none⟩) (by simp; omega) (.slice (some ⟨g1, 0, none⟩) ns.length ns.length))
  have HI2 := Lib.hid ((HI1.out.far ⟨w.heap.size + 1 + 1, 1, none⟩ (.slice (some ⟨g1, 0, none⟩) ns.length ns.length) (by simp; omega)))
  clear HB1 HL1 HI1
  generalize w1.setCell ⟨w.heap.size + 1 + 1, 1, none⟩ (.slice (some ⟨g1, 0, none⟩) ns.length ns.length) = w2 at *
  refine (toGateS_ex gA gc gs _ ((HC.out.gates.below HL2.out).mono HL2.out.size) hgl).mono ?_
  rintro e w3 ⟨g2, rfl, hg2, hb3, hi3⟩
  have hg2' : w.heap.size + 1 + 1 < g2 := by have := HB2.out.r2.lt; omega
  have HB3 := Lib.hid (HB2.out.below hb3)
  have HL3 := Lib.hid (HL2.out.trans (hb3.mono HL2.out.size))
  have h12 : g1 < g2 := by have := HI2.out.lt; omega
  have HI3 := Lib.hid (HI2.out.below hb3 HI2.out.lt)
  have HJ3 := Lib.hid hi3
  clear hb3 hi3 HB2 HL2 HI2 hg2
  have q1 := HB3.out.r0.cell 3
  have q2 := HB3.out.r2.cell 2
  have q3 := HB3.out.r2.frozen 2
  simp at q1 q2
  go_wp2_with fail
  clear q1 q2 q3
  have HB4 := Lib.hid (HB3.out.set2 2 (.slice (some ⟨g2, 0, none⟩) gs.length gs.length))
  have HL4 := Lib.hid (HL3.out.setCell (p := ⟨w.heap.size + 1 + 1, 2, none⟩) (by simp; omega) (.slice (some ⟨g2, 0, none⟩) gs.length gs.length))
  have HI4 := Lib.hid ((HI3.out.far ⟨w.heap.size + 1 + 1, 2, none⟩ (.slice (some ⟨g2, 0, none⟩) gs.length gs.length) (by simp; omega)))
  have HJ4 := Lib.hid ((HJ3.out.far ⟨w.heap.size + 1 + 1, 2, none⟩ (.slice (some ⟨g2, 0, none⟩) gs.length gs.length) (by simp; omega)))
  clear HB3 HL3 HI3 HJ3
  generalize w3.setCell ⟨w.heap.size + 1 + 1, 2, none⟩ (.slice (some ⟨g2, 0, none⟩) gs.length gs.length) = w4 at *
  refine (toIntS_ex oA oc os _ ((HC.out.outs.below HL4.out).mono HL4.out.size) hol).mono ?_
  rintro e w5 ⟨g3, rfl, hg3, hb5, hi5⟩
  have hg3' : w.heap.size + 1 + 1 < g3 := by have := HB4.out.r2.lt; omega
  have HB5 := Lib.hid (HB4.out.below hb5)
  have HL5 := Lib.hid (HL4.out.trans (hb5.mono HL4.out.size))
  have h23 : g2 < g3 := by have := HJ4.out.lt; omega
  have HI5 := Lib.hid (HI4.out.below hb5 HI4.out.lt)
  have HJ5 := Lib.hid (HJ4.out.below hb5 HJ4.out.lt)
  have HK5 := Lib.hid hi5
  clear hb5 hi5 HB4 HL4 HI4 HJ4 hg3
  have q0 := HB5.out.r2.cell 0
  have q1 := HB5.out.r2.cell 1
  have q2 := HB5.out.r2.cell 2
  have q3 := HB5.out.r2.cell 3
  have p0 := HB5.out.r1.cell 0
  have p1 := HB5.out.r1.cell 1
  have p2 := HB5.out.r1.cell 2
  have p3 := HB5.out.r1.cell 3
  have f0 := HB5.out.r1.frozen 0
  have f1 := HB5.out.r1.frozen 1
  have f2 := HB5.out.r1.frozen 2
  have f3 := HB5.out.r1.frozen 3
  have f4 := HB5.out.r2.frozen 3
  simp at q0 q1 q2 q3 p0 p1 p2 p3
  go_wp2
  have HC5 := CircRows.mk (B := w.heap.size) HI5.out HJ5.out HK5.out HC.out.nl HC.out.gl HC.out.ol (by omega) h12 h23
  refine bodyPost_ret (v := .agg #[.int .i64 i, .slice (some ⟨g1, 0, none⟩) ns.length ns.length, .slice (some ⟨g2, 0, none⟩) gs.length gs.length, .slice (some ⟨g3, 0, none⟩) os.length os.length]) (by simp [results, Tryz.results15, go_sem, p0, p1, p2, p3]) rfl ⟨_, _, _, rfl, ?_, ?_⟩
  · refine CircRows.far (CircRows.far (CircRows.far (CircRows.far (CircRows.far HC5 _ _ ?_ ?_ ?_) _ _ ?_ ?_ ?_) _ _ ?_ ?_ ?_) _ _ ?_ ?_ ?_) _ _ ?_ ?_ ?_ <;> (simp; omega)
  · refine Below.setCell (Below.setCell (Below.setCell (Below.setCell (Below.setCell HL5.out ?_ _) ?_ _) ?_ _) ?_ _) ?_ _ <;> (simp; try omega)
theorem toCircuit_any (i : Int) (nA gA oA : Option Addr) (nc gc oc : Nat) (ns : List Int) (gs : List (Int × Int)) (os : List Int) (w : World) (hc : CircAt w w.heap.size nA gA oA ns gs os)
    (hnl : ns.length ≤ 2000000) (hgl : gs.length ≤ 2000000) (hol : os.length ≤ 2000000) :
    Calls Tryz.prog 15 #[.agg #[.int .i64 i, .slice nA ns.length nc, .slice gA gs.length gc, .slice oA os.length oc]] w (CircOut w i ns gs os) :=
  (toCircuit_rows i nA gA oA nc gc oc ns gs os w hc hnl hgl hol).mono fun _ _ ⟨_, _, _, he, hr, hb⟩ => ⟨_, _, _, _, _, _, he, hr.at, hb⟩
end Go.Proofs.YtliedgaefgomjaaGreat
