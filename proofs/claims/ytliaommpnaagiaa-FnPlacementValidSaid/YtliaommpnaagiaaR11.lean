/- A circuit and a placement, drawn for another law. -/
import Derived.Test.YtliaommpnaagiaaR10
namespace Go.Proofs.Ytliaommpnaagiaa
open Go.RowKit Go.Deep Cut

set_option maxHeartbeats 800000 in
theorem drawValid_any (A : Option Addr) (bl bc : Nat) (w : World) (hb : CodeAt w A bl) (hbl : bl ≤ bc) (hbc : bc ≤ maxLen) : Calls Try.prog 5 #[.slice A bl bc] w (DrawPl w) := by
  have hc0 : CodeAt (w.alloc (.cells #[.int .i64 0, .slice none 0 0, .slice none 0 0, .slice none 0 0] 26)) A bl := fun k hk => by
    obtain ⟨b, off, z, e, hlt, hc, h0, h1⟩ := hb k hk
    exact ⟨b, off, z, e, by simp; omega, (World.cell?_alloc_lt w _ ⟨b, off + k, none⟩ hlt).trans hc, h0, h1⟩
  have HC0 := Lib.hid hc0
  have HL0 := Lib.hid (show Below w.heap.size w (w.alloc (.cells #[.int .i64 0, .slice none 0 0, .slice none 0 0, .slice none 0 0] 26)) from (Below.refl _ _).alloc (Nat.le_refl _) _)
  have HD0 := Lib.hid (show Row (w.alloc (.cells #[.int .i64 0, .slice none 0 0, .slice none 0 0, .slice none 0 0] 26)) w.heap.size 26 #[.int .i64 0, .slice none 0 0, .slice none 0 0, .slice none 0 0] from heap_alloc_new w _)
  have HBC := Lib.hid hbc
  clear hb hc0 hbc
  go_enter Try.func5, Try.ntmps5
  go_wp2_with fail
  refine (open_any A bl bc _ HC0.out hbl HBC.out).mono ?_
  rintro e w1 ⟨R, bA, bl', bc', rfl, hbl', hR, hrow, hby, hbel⟩
  have hR' : w.heap.size < R := by simp at hR; omega
  have HD1 := Lib.hid (HD0.out.below hbel HD0.out.lt)
  have HL1 := Lib.hid (HL0.out.trans (hbel.mono HL0.out.size))
  have HRW := Lib.hid hrow
  have HBY := Lib.hid hby
  clear hrow hby hbel HD0 HL0 HC0 hR
  go_wp2_with fail
  refine (circuit_any R bA bl' bc' 0 12 _ HRW.out HBY.out hbl' (by omega) (by omega) (by omega) (by omega)).mono ?_
  rintro e w2 ⟨i, nA, gA, oA, nc, gc, oc, ns, gs, os, p', rfl, hC, hn, hg, ho, hi0, hi1, hp0, hp1, hr2, hgr, f1, f2, f3, hcap⟩
  have hbB : Below w2.heap.size w2 (w2.alloc (.cells #[.int .i64 i, .slice nA ns.length nc, .slice gA gs.length gc, .slice oA os.length oc] 26)) := (Below.refl _ _).alloc (Nat.le_refl _) _
  have hDl : w.heap.size < w1.heap.size := HD1.out.lt
  have hRl1 : R < w1.heap.size := HRW.out.lt
  have hz12 := hgr.size
  have HD2 := Lib.hid ((HD1.out.grown hgr (by intro x; injection x; omega)).below hbB (by omega))
  have HL2 := Lib.hid ((below_grown HL1.out hgr (Nat.le_of_lt hR')).trans (hbB.mono (by omega)))
  have HC2 := Lib.hid ((hC.below hbB).mono hbB.size)
  have HF := Lib.hid (And.intro f1 (And.intro f2 f3))
  have HRW2 := Lib.hid (hr2.below hbB hr2.lt)
  have HBY2 := Lib.hid (HBY.out.grown (gb_alloc hgr (.cells #[.int .i64 i, .slice nA ns.length nc, .slice gA gs.length gc, .slice oA os.length oc] 26)))
  have HX2 := Lib.hid (Boxed.new w2 i nA gA oA ns.length nc gs.length gc os.length oc 26)
  have hRl : R < w2.heap.size := hr2.lt
  have hc2 : w2.heap.size < (w2.alloc (.cells #[.int .i64 i, .slice nA ns.length nc, .slice gA gs.length gc, .slice oA os.length oc] 26)).heap.size := by simp
  clear hC hgr f1 f2 f3 HD1 HL1 HRW HBY hr2 hbB
  go_upto_region 3 with fail
  generalize w2.alloc (.cells #[.int .i64 i, .slice nA ns.length nc, .slice gA gs.length gc, .slice oA os.length oc] 26) = w3 at *
  generalize hcb : w2.heap.size = cb at *
  have t0 := HD2.out.cell 0
  have t1 := HD2.out.cell 1
  have t2 := HD2.out.cell 2
  have t3 := HD2.out.cell 3
  have f0 := HD2.out.frozen 0
  have f1 := HD2.out.frozen 1
  have f2 := HD2.out.frozen 2
  have f3 := HD2.out.frozen 3
  simp at t0 t1 t2 t3
  have q0 := HX2.out.c0
  have q1 := HX2.out.c1
  have q2 := HX2.out.c2
  have q3 := HX2.out.c3
  clear t0 t1 t2 t3 f0 f1 f2 f3
  have hRc : R ≠ cb := by omega
  have hDc : w.heap.size ≠ cb := by omega
  obtain ⟨g1, g2, g3⟩ := HF.out
  have HUN := Lib.hid (fun (w4 : World) (hg4 : w3.drew.grownBy w4 (some R)) => HD2.out.grown (gb_undrew hg4) (by intro x; injection x; omega))
  go_region_held3 (fun w' => w'.cell? ⟨cb, 0, none⟩ = some (.int .i64 i) ∧ w'.cell? ⟨cb, 1, none⟩ = some (.slice nA ns.length nc) ∧ w'.cell? ⟨cb, 2, none⟩ = some (.slice gA gs.length gc) ∧ w'.cell? ⟨cb, 3, none⟩ = some (.slice oA os.length oc))
    (first | go_keep | (with_reducible exact g4_on hg4 hRc (by assumption)) | (with_reducible exact s4_on hDc (s4_on hDc (s4_on hDc (s4_on hDc (by assumption))))))
    (first
      | (go_at_call 16; refine (place_any R bA bl' bc' p' 2 i nA gA oA nc gc oc ns gs os w3.drew HRW2.out (HBY2.out.grown (gb_drew (World.grownBy.refl w3 (some R)))) hbl' (by omega) (by omega) (by omega) (by omega) (HC2.out.below (Below.refl _ w3).drew)).mono ?_; rintro e w4 ⟨pA, xs, pc, rfl, hpi, hpl, hpc, hg4, hpf⟩; have HD4 := Lib.hid (HUN.out w4 hg4); have t0 := HD4.out.cell 0; have t1 := HD4.out.cell 1; have t2 := HD4.out.cell 2; have t3 := HD4.out.cell 3; have f0 := HD4.out.frozen 0; have f1 := HD4.out.frozen 1; have f2 := HD4.out.frozen 2; have f3 := HD4.out.frozen 3; simp at t0 t1 t2 t3))
  have HC4 := Lib.hid (HC2.out.grownF (gb_undrew hg4) hRl1 g1 g2 g3)
  have HL4 := Lib.hid (below_grown HL2.out (gb_undrew hg4) (Nat.le_of_lt hR'))
  have HP4 := Lib.hid hpi
  have hDz : w.heap.size < w3.drew.heap.size := by
    show w.heap.size < w3.heap.size
    omega
  go_wp2
  refine bodyPost_ret (v := .tuple #[.agg #[.int .i64 i, .slice nA ns.length nc, .slice gA gs.length gc, .slice oA os.length oc], .slice pA xs.length pc]) (by simp [results, Try.results5, go_sem, t0, t1, t2, t3]) rfl ⟨i, nA, gA, oA, pA, nc, gc, oc, pc, ns, gs, os, xs, rfl, ?_, ?_, hn, hg, ho, hcap, hpl, hpc, ?_⟩
  · exact (((HC4.out.farF 0 _ hDl g1 g2 g3).farF 1 _ hDl g1 g2 g3).farF 2 _ hDl g1 g2 g3).farF 3 _ hDl g1 g2 g3
  · exact (((HP4.out.farN _ hDz hpf).farN _ hDz hpf).farN _ hDz hpf).farN _ hDz hpf
  · exact (((HL4.out.setCell (p := ⟨w.heap.size, 0, none⟩) (Nat.le_refl _) _).setCell (p := ⟨w.heap.size, 1, none⟩) (Nat.le_refl _) _).setCell (p := ⟨w.heap.size, 2, none⟩) (Nat.le_refl _) _).setCell (p := ⟨w.heap.size, 3, none⟩) (Nat.le_refl _) _
end Go.Proofs.Ytliaommpnaagiaa
