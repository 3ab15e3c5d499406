/- The draws of the lookup-table mapping. -/
import Derived.Test.YthcpgbfghededaaR5a
import Derived.Test.YthcpgbfghededaaW3
namespace Go.Proofs.Ythcpgbfghededaa
open Go.RowKit Go.Deep

set_option maxHeartbeats 400000 in
theorem drawMapLuts_any (A : Option Addr) (bl bc : Nat) (w : World) (hb : CodeAt w A bl) (hbl : bl ≤ bc) (hbc : bc ≤ maxLen) : Calls Try.prog 11 #[.slice A bl bc] w (DrawOut w) := by
  have hc0 : CodeAt (w.alloc (.cells #[.int .i64 0, .slice none 0 0, .slice none 0 0, .slice none 0 0] 26)) A bl := fun k hk => by
    obtain ⟨b, off, z, e, hlt, hc, h0, h1⟩ := hb k hk
    exact ⟨b, off, z, e, by simp; omega, (World.cell?_alloc_lt w _ ⟨b, off + k, none⟩ hlt).trans hc, h0, h1⟩
  have HC0 := Lib.hid hc0
  have HL0 := Lib.hid (show Below w.heap.size w (w.alloc (.cells #[.int .i64 0, .slice none 0 0, .slice none 0 0, .slice none 0 0] 26)) from (Below.refl _ _).alloc (Nat.le_refl _) _)
  have HD0 := Lib.hid (show Row (w.alloc (.cells #[.int .i64 0, .slice none 0 0, .slice none 0 0, .slice none 0 0] 26)) w.heap.size 26 #[.int .i64 0, .slice none 0 0, .slice none 0 0, .slice none 0 0] from heap_alloc_new w _)
  have HBC := Lib.hid hbc
  clear hb hc0 hbc
  go_enter Try.func11, Try.ntmps11
  go_wp2_with fail
  refine (open_any A bl bc _ HC0.out hbl HBC.out).mono ?_
  rintro e w1 ⟨R, bA, bl', bc', rfl, hbl', hR, hrow, hby, hbel⟩
  have hR' : w.heap.size < R := by simp at hR; omega
  have HD1 := Lib.hid (HD0.out.below hbel HD0.out.lt)
  have HL1 := Lib.hid (HL0.out.trans (hbel.mono HL0.out.size))
  have HRW := Lib.hid hrow
  have HBY := Lib.hid hby
  clear hrow hby hbel HD0 HL0 HC0 hR
  go_wp2_with fail
  refine (circuit_any R bA bl' bc' 0 9 _ HRW.out HBY.out hbl' (by omega) (by omega) (by omega) (by omega)).mono ?_
  rintro e w2 ⟨i, nA, gA, oA, nc, gc, oc, ns, gs, os, p', rfl, hC, hn, hg, ho, hi0, hi1, _, _, _, hgr, f1, f2, f3, hcap⟩
  have HD2 := Lib.hid (HD1.out.grown hgr (by intro x; injection x; omega))
  have HL2 := Lib.hid (below_grown HL1.out hgr (Nat.le_of_lt hR'))
  have hDl : w.heap.size < w1.heap.size := HD1.out.lt
  have HC2 := Lib.hid hC
  have HF := Lib.hid (And.intro f1 (And.intro f2 f3))
  clear hC hgr f1 f2 f3 HD1 HL1 HRW HBY
  have t0 := HD2.out.cell 0
  have t1 := HD2.out.cell 1
  have t2 := HD2.out.cell 2
  have t3 := HD2.out.cell 3
  have f0 := HD2.out.frozen 0
  have f1 := HD2.out.frozen 1
  have f2 := HD2.out.frozen 2
  have f3 := HD2.out.frozen 3
  simp at t0 t1 t2 t3
  go_wp2
  obtain ⟨g1, g2, g3⟩ := HF.out
  refine bodyPost_ret (v := .agg #[.int .i64 i, .slice nA ns.length nc, .slice gA gs.length gc, .slice oA os.length oc]) (by simp [results, Try.results11, go_sem, t0, t1, t2, t3]) rfl ⟨i, nA, gA, oA, nc, gc, oc, ns, gs, os, rfl, ?_, hn, hg, ho, hcap, ?_⟩
  · exact (((HC2.out.farF 0 _ hDl g1 g2 g3).farF 1 _ hDl g1 g2 g3).farF 2 _ hDl g1 g2 g3).farF 3 _ hDl g1 g2 g3
  · exact (((HL2.out.setCell (p := ⟨w.heap.size, 0, none⟩) (Nat.le_refl _) _).setCell (p := ⟨w.heap.size, 1, none⟩) (Nat.le_refl _) _).setCell (p := ⟨w.heap.size, 2, none⟩) (Nat.le_refl _) _).setCell (p := ⟨w.heap.size, 3, none⟩) (Nat.le_refl _) _

set_option maxHeartbeats 400000 in
theorem drawMapped_any (A : Option Addr) (bl bc : Nat) (w : World) (hb : CodeAt w A bl) (hbl : bl ≤ bc) (hbc : bc ≤ maxLen) : Calls Try.prog 20 #[.slice A bl bc] w (DrawOut w) := by
  have hc0 : CodeAt (w.alloc (.cells #[.int .i64 0, .slice none 0 0, .slice none 0 0, .slice none 0 0] 26)) A bl := fun k hk => by
    obtain ⟨b, off, z, e, hlt, hc, h0, h1⟩ := hb k hk
    exact ⟨b, off, z, e, by simp; omega, (World.cell?_alloc_lt w _ ⟨b, off + k, none⟩ hlt).trans hc, h0, h1⟩
  have HC0 := Lib.hid hc0
  have HL0 := Lib.hid (show Below w.heap.size w (w.alloc (.cells #[.int .i64 0, .slice none 0 0, .slice none 0 0, .slice none 0 0] 26)) from (Below.refl _ _).alloc (Nat.le_refl _) _)
  have HD0 := Lib.hid (show Row (w.alloc (.cells #[.int .i64 0, .slice none 0 0, .slice none 0 0, .slice none 0 0] 26)) w.heap.size 26 #[.int .i64 0, .slice none 0 0, .slice none 0 0, .slice none 0 0] from heap_alloc_new w _)
  have HBC := Lib.hid hbc
  clear hb hc0 hbc
  go_enter Try.func20, Try.ntmps20
  go_wp2_with fail
  refine (open_any A bl bc _ HC0.out hbl HBC.out).mono ?_
  rintro e w1 ⟨R, bA, bl', bc', rfl, hbl', hR, hrow, hby, hbel⟩
  have hR' : w.heap.size < R := by simp at hR; omega
  have HD1 := Lib.hid (HD0.out.below hbel HD0.out.lt)
  have HL1 := Lib.hid (HL0.out.trans (hbel.mono HL0.out.size))
  have HRW := Lib.hid hrow
  have HBY := Lib.hid hby
  clear hrow hby hbel HD0 HL0 HC0 hR
  go_wp2_with fail
  refine (circuit_any R bA bl' bc' 0 9 _ HRW.out HBY.out hbl' (by omega) (by omega) (by omega) (by omega)).mono ?_
  rintro e w2 ⟨i, nA, gA, oA, nc, gc, oc, ns, gs, os, p', rfl, hC, hn, hg, ho, hi0, hi1, _, _, _, hgr, f1, f2, f3, hcap⟩
  have HD2 := Lib.hid (HD1.out.grown hgr (by intro x; injection x; omega))
  have HL2 := Lib.hid (below_grown HL1.out hgr (Nat.le_of_lt hR'))
  have hDl : w.heap.size < w1.heap.size := HD1.out.lt
  have HC2 := Lib.hid hC
  have HF := Lib.hid (And.intro f1 (And.intro f2 f3))
  clear hC hgr f1 f2 f3 HD1 HL1 HRW HBY
  have t0 := HD2.out.cell 0
  have t1 := HD2.out.cell 1
  have t2 := HD2.out.cell 2
  have t3 := HD2.out.cell 3
  have f0 := HD2.out.frozen 0
  have f1 := HD2.out.frozen 1
  have f2 := HD2.out.frozen 2
  have f3 := HD2.out.frozen 3
  simp at t0 t1 t2 t3
  go_wp2
  obtain ⟨g1, g2, g3⟩ := HF.out
  refine bodyPost_ret (v := .agg #[.int .i64 i, .slice nA ns.length nc, .slice gA gs.length gc, .slice oA os.length oc]) (by simp [results, Try.results20, go_sem, t0, t1, t2, t3]) rfl ⟨i, nA, gA, oA, nc, gc, oc, ns, gs, os, rfl, ?_, hn, hg, ho, hcap, ?_⟩
  · exact (((HC2.out.farF 0 _ hDl g1 g2 g3).farF 1 _ hDl g1 g2 g3).farF 2 _ hDl g1 g2 g3).farF 3 _ hDl g1 g2 g3
  · exact (((HL2.out.setCell (p := ⟨w.heap.size, 0, none⟩) (Nat.le_refl _) _).setCell (p := ⟨w.heap.size, 1, none⟩) (Nat.le_refl _) _).setCell (p := ⟨w.heap.size, 2, none⟩) (Nat.le_refl _) _).setCell (p := ⟨w.heap.size, 3, none⟩) (Nat.le_refl _) _

end Go.Proofs.Ythcpgbfghededaa
