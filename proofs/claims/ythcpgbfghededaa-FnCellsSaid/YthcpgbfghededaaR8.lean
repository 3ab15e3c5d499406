/- The draws of the netlist. -/
import Derived.Test.YthcpgbfghededaaR4
import Derived.Test.YthcpgbfghededaaW3
namespace Go.Proofs.Ythcpgbfghededaa
open Go.RowKit Go.Deep

set_option maxHeartbeats 400000 in
theorem drawCells_any (A : Option Addr) (bl bc : Nat) (w : World) (hb : CodeAt w A bl) (hbl : bl ≤ bc) (hbc : bc ≤ maxLen) : Calls Try.prog 25 #[.slice A bl bc] w (DrawOut w) := by
  have hc0 : CodeAt (w.alloc (.cells #[.int .i64 0, .slice none 0 0, .slice none 0 0, .slice none 0 0] 26)) A bl := fun k hk => by
    obtain ⟨b, off, z, e, hlt, hc, h0, h1⟩ := hb k hk
    exact ⟨b, off, z, e, by simp; omega, (World.cell?_alloc_lt w _ ⟨b, off + k, none⟩ hlt).trans hc, h0, h1⟩
  have HC0 := Lib.hid hc0
  have HL0 := Lib.hid (show Below w.heap.size w (w.alloc (.cells #[.int .i64 0, .slice none 0 0, .slice none 0 0, .slice none 0 0] 26)) from (Below.refl _ _).alloc (Nat.le_refl _) _)
  have HD0 := Lib.hid (show Row (w.alloc (.cells #[.int .i64 0, .slice none 0 0, .slice none 0 0, .slice none 0 0] 26)) w.heap.size 26 #[.int .i64 0, .slice none 0 0, .slice none 0 0, .slice none 0 0] from heap_alloc_new w _)
  have HBC := Lib.hid hbc
  clear hb hc0 hbc
  go_enter Try.func25, Try.ntmps25
  go_wp2_with fail
  refine (open_any A bl bc _ HC0.out hbl HBC.out).mono ?_
  rintro e w1 ⟨R, bA, bl', bc', rfl, hbl', hR, hrow, hby, hbel⟩
  have hR' : w.heap.size < R := by simp at hR; omega
  have HD1 := Lib.hid (HD0.out.below hbel HD0.out.lt)
  have HL1 := Lib.hid (HL0.out.trans (hbel.mono HL0.out.size))
  have HRW := Lib.hid hrow
  have HBY := Lib.hid hby
  clear hrow hby hbel HD0 HL0 HC0 hR
  go_wp2_with fail
  refine (circuit_any R bA bl' bc' 0 9 _ HRW.out HBY.out hbl' (by omega) (by omega) (by omega) (by omega)).mono ?_
  rintro e w2 ⟨i, nA, gA, oA, nc, gc, oc, ns, gs, os, p', rfl, hC, hn, hg, ho, hi0, hi1, _, _, _, hgr, f1, f2, f3, hcap⟩
  have HD2 := Lib.hid (HD1.out.grown hgr (by intro x; injection x; omega))
  have HL2 := Lib.hid (below_grown HL1.out hgr (Nat.le_of_lt hR'))
  have hDl : w.heap.size < w1.heap.size := HD1.out.lt
  have HC2 := Lib.hid hC
  have HF := Lib.hid (And.intro f1 (And.intro f2 f3))
  clear hC hgr f1 f2 f3 HD1 HL1 HRW HBY
  have t0 := HD2.out.cell 0
  have t1 := HD2.out.cell 1
  have t2 := HD2.out.cell 2
  have t3 := HD2.out.cell 3
  have f0 := HD2.out.frozen 0
  have f1 := HD2.out.frozen 1
  have f2 := HD2.out.frozen 2
  have f3 := HD2.out.frozen 3
  simp at t0 t1 t2 t3
  go_wp2
  obtain ⟨g1, g2, g3⟩ := HF.out
  refine bodyPost_ret (v := .agg #[.int .i64 i, .slice nA ns.length nc, .slice gA gs.length gc, .slice oA os.length oc]) (by simp [results, Try.results25, go_sem, t0, t1, t2, t3]) rfl ⟨i, nA, gA, oA, nc, gc, oc, ns, gs, os, rfl, ?_, hn, hg, ho, hcap, ?_⟩
  · exact (((HC2.out.farF 0 _ hDl g1 g2 g3).farF 1 _ hDl g1 g2 g3).farF 2 _ hDl g1 g2 g3).farF 3 _ hDl g1 g2 g3
  · exact (((HL2.out.setCell (p := ⟨w.heap.size, 0, none⟩) (Nat.le_refl _) _).setCell (p := ⟨w.heap.size, 1, none⟩) (Nat.le_refl _) _).setCell (p := ⟨w.heap.size, 2, none⟩) (Nat.le_refl _) _).setCell (p := ⟨w.heap.size, 3, none⟩) (Nat.le_refl _) _

/-- A circuit and a net, drawn. -/
def DrawNet (w : World) (e : Ending) (w' : World) : Prop :=
  ∃ (i : Int) (nA gA oA : Option Addr) (nc gc oc : Nat) (ns : List Int) (gs : List (Int × Int)) (os : List Int) (net : Int),
    e = .returned (.tuple #[.agg #[.int .i64 i, .slice nA ns.length nc, .slice gA gs.length gc, .slice oA os.length oc], .int .i64 net]) ∧ CircAt w' w'.heap.size nA gA oA ns gs os ∧ ns.length ≤ 10 ∧ gs.length ≤ 20 ∧ os.length ≤ 10 ∧ gs.length ≤ gc ∧ -1 ≤ net ∧ net ≤ 22 ∧ Below w.heap.size w w'
theorem CircAt.grownF {w w' : World} {R lo : Nat} {nA gA oA : Option Addr} {ns : List Int} {gs : List (Int × Int)} {os : List Int} (h : CircAt w w.heap.size nA gA oA ns gs os) (hg : w.grownBy w' (some R)) (hR : R < lo) (h1 : FreshA lo nA) (h2 : FreshA lo gA) (h3 : FreshA lo oA) : CircAt w' w'.heap.size nA gA oA ns gs os := by
  have hz := hg.size
  have ints : ∀ (A : Option Addr) (xs : List Int), FreshA lo A → IntsAt w w.heap.size A xs → IntsAt w' w'.heap.size A xs := fun A xs hf hx k hk => by
    obtain ⟨b, off, e, hlt, hc⟩ := hx k hk
    have hb := hf b off e
    exact ⟨b, off, e, Nat.lt_of_lt_of_le hlt hz, hg.cell hc (by intro x; injection x with x; simp at x; omega)⟩
  refine ⟨ints _ _ h1 h.next, fun k hk => ?_, ints _ _ h3 h.outs, h.nl, h.gl, h.ol⟩
  obtain ⟨b, off, e, hlt, hc, hd⟩ := h.gates k hk
  have hb := h2 b off e
  exact ⟨b, off, e, Nat.lt_of_lt_of_le hlt hz, hg.cell hc (by intro x; injection x with x; simp at x; omega), hg.cell hd (by intro x; injection x with x; simp at x; omega)⟩

set_option maxHeartbeats 400000 in
theorem drawNets_any (A : Option Addr) (bl bc : Nat) (w : World) (hb : CodeAt w A bl) (hbl : bl ≤ bc) (hbc : bc ≤ maxLen) : Calls Try.prog 30 #[.slice A bl bc] w (DrawNet w) := by
  have hc0 : CodeAt (w.alloc (.cells #[.int .i64 0, .slice none 0 0, .slice none 0 0, .slice none 0 0] 26)) A bl := fun k hk => by
    obtain ⟨b, off, z, e, hlt, hc, h0, h1⟩ := hb k hk
    exact ⟨b, off, z, e, by simp; omega, (World.cell?_alloc_lt w _ ⟨b, off + k, none⟩ hlt).trans hc, h0, h1⟩
  have HC0 := Lib.hid hc0
  have HL0 := Lib.hid (show Below w.heap.size w (w.alloc (.cells #[.int .i64 0, .slice none 0 0, .slice none 0 0, .slice none 0 0] 26)) from (Below.refl _ _).alloc (Nat.le_refl _) _)
  have HD0 := Lib.hid (show Row (w.alloc (.cells #[.int .i64 0, .slice none 0 0, .slice none 0 0, .slice none 0 0] 26)) w.heap.size 26 #[.int .i64 0, .slice none 0 0, .slice none 0 0, .slice none 0 0] from heap_alloc_new w _)
  have HBC := Lib.hid hbc
  clear hb hc0 hbc
  go_enter Try.func30, Try.ntmps30
  go_wp2_with fail
  refine (open_any A bl bc _ HC0.out hbl HBC.out).mono ?_
  rintro e w1 ⟨R, bA, bl', bc', rfl, hbl', hR, hrow, hby, hbel⟩
  have hR' : w.heap.size < R := by simp at hR; omega
  have HD1 := Lib.hid (HD0.out.below hbel HD0.out.lt)
  have HL1 := Lib.hid (HL0.out.trans (hbel.mono HL0.out.size))
  have HRW := Lib.hid hrow
  have HBY := Lib.hid hby
  clear hrow hby hbel HD0 HL0 HC0 hR
  go_wp2_with fail
  refine (circuit_any R bA bl' bc' 0 9 _ HRW.out HBY.out hbl' (by omega) (by omega) (by omega) (by omega)).mono ?_
  rintro e w2 ⟨i, nA, gA, oA, nc, gc, oc, ns, gs, os, p', rfl, hC, hn, hg, ho, hi0, hi1, hp0, hp1, hrow2, hgr, f1, f2, f3, hcap⟩
  have HD2 := Lib.hid (HD1.out.grown hgr (by intro x; injection x; omega))
  have HL2 := Lib.hid (below_grown HL1.out hgr (Nat.le_of_lt hR'))
  have hDl : w.heap.size < w1.heap.size := HD1.out.lt
  have hRl : R < w1.heap.size := HRW.out.lt
  have HC2 := Lib.hid hC
  have HF := Lib.hid (And.intro f1 (And.intro f2 f3))
  have HRW2 := Lib.hid hrow2
  have HBY2 := Lib.hid (HBY.out.grown hgr)
  clear hC hgr f1 f2 f3 HD1 HL1 HRW HBY hrow2
  go_wp2_with fail
  refine (pick_any R bA bl' bc' p' 24 _ HRW2.out HBY2.out hbl' (by omega) (by omega) (by omega) (by omega)).mono ?_
  rintro e w3 ⟨v, rfl, hv0, hv1, hrow3, hgr3⟩
  have hv24 : v < 24 := by omega
  have HD3 := Lib.hid (HD2.out.grown hgr3 (by intro x; injection x; omega))
  have HL3 := Lib.hid (below_grown HL2.out hgr3 (Nat.le_of_lt hR'))
  obtain ⟨g1, g2, g3⟩ := HF.out
  have HC3 := Lib.hid (HC2.out.grownF hgr3 hRl g1 g2 g3)
  clear hgr3 hrow3 HD2 HL2 HRW2 HBY2 HC2 hv1 g1 g2 g3
  have t0 := HD3.out.cell 0
  have t1 := HD3.out.cell 1
  have t2 := HD3.out.cell 2
  have t3 := HD3.out.cell 3
  have f0 := HD3.out.frozen 0
  have f1 := HD3.out.frozen 1
  have f2 := HD3.out.frozen 2
  have f3 := HD3.out.frozen 3
  simp at t0 t1 t2 t3
  go_wp2
  obtain ⟨g1, g2, g3⟩ := HF.out
  refine bodyPost_ret (v := .tuple #[.agg #[.int .i64 i, .slice nA ns.length nc, .slice gA gs.length gc, .slice oA os.length oc], .int .i64 (v - 1)]) (by simp [results, Try.results30, go_sem, t0, t1, t2, t3]) rfl ⟨i, nA, gA, oA, nc, gc, oc, ns, gs, os, v - 1, rfl, ?_, hn, hg, ho, hcap, by omega, by omega, ?_⟩
  · exact (((HC3.out.farF 0 _ hDl g1 g2 g3).farF 1 _ hDl g1 g2 g3).farF 2 _ hDl g1 g2 g3).farF 3 _ hDl g1 g2 g3
  · exact (((HL3.out.setCell (p := ⟨w.heap.size, 0, none⟩) (Nat.le_refl _) _).setCell (p := ⟨w.heap.size, 1, none⟩) (Nat.le_refl _) _).setCell (p := ⟨w.heap.size, 2, none⟩) (Nat.le_refl _) _).setCell (p := ⟨w.heap.size, 3, none⟩) (Nat.le_refl _) _

end Go.Proofs.Ythcpgbfghededaa
