/- The contracts of the draws of two circuits. -/
import Derived.Test.YthpiddpkcmecfaaY4
import Derived.Test.YthpiddpkcmecfaaY12
import Derived.Test.YthpiddpkcmecfaaY3
import Derived.Test.YthpiddpkcmecfaaZa
namespace Go.Proofs.Ythpiddpkcmecfaa
open Go.RowKit Go.Deep
set_option maxRecDepth 100000
theorem CircIn.low9 {w : World} {D lo hi : Nat} {nA gA oA : Option Addr} {ns : List Int} {gs : List (Int × Int)} {os : List Int} (h : CircIn w lo hi nA gA oA ns gs os) (hD : D + 2 ≤ lo) (a0 a1 a2 a3 b0 b1 b2 b3 : Value) : CircAt ((((((((w.setCell ⟨D, 0, none⟩ a0).setCell ⟨D, 1, none⟩ a1).setCell ⟨D, 2, none⟩ a2).setCell ⟨D, 3, none⟩ a3).setCell ⟨D + 1, 0, none⟩ b0).setCell ⟨D + 1, 1, none⟩ b1).setCell ⟨D + 1, 2, none⟩ b2).setCell ⟨D + 1, 3, none⟩ b3) ((((((((w.setCell ⟨D, 0, none⟩ a0).setCell ⟨D, 1, none⟩ a1).setCell ⟨D, 2, none⟩ a2).setCell ⟨D, 3, none⟩ a3).setCell ⟨D + 1, 0, none⟩ b0).setCell ⟨D + 1, 1, none⟩ b1).setCell ⟨D + 1, 2, none⟩ b2).setCell ⟨D + 1, 3, none⟩ b3).heap.size nA gA oA ns gs os := by
  have l : ∀ {v : World} (c j : Nat) (u : Value), c < D + 2 → CircIn v lo hi nA gA oA ns gs os → CircIn (v.setCell ⟨c, j, none⟩ u) lo hi nA gA oA ns gs os := fun {v} c j u hc k => k.grown ((Only.refl (some c) v).set j u).grown (fun k e => by injection e with e; omega)
  exact (l _ _ _ (by omega) (l _ _ _ (by omega) (l _ _ _ (by omega) (l _ _ _ (by omega) (l _ _ _ (by omega) (l _ _ _ (by omega) (l _ _ _ (by omega) (l _ _ _ (by omega) h)))))))).at'
theorem Row.res9 {w : World} {D : Nat} {t : TypeId} {z0 z1 z2 z3 y0 y1 y2 y3 : Value} (h1 : Row w D t #[z0, z1, z2, z3]) (h2 : Row w (D + 1) t #[y0, y1, y2, y3]) (a0 a1 a2 a3 b0 b1 b2 b3 : Value) :
    Row ((((((((w.setCell ⟨D, 0, none⟩ a0).setCell ⟨D, 1, none⟩ a1).setCell ⟨D, 2, none⟩ a2).setCell ⟨D, 3, none⟩ a3).setCell ⟨D + 1, 0, none⟩ b0).setCell ⟨D + 1, 1, none⟩ b1).setCell ⟨D + 1, 2, none⟩ b2).setCell ⟨D + 1, 3, none⟩ b3) D t #[a0, a1, a2, a3] ∧ Row ((((((((w.setCell ⟨D, 0, none⟩ a0).setCell ⟨D, 1, none⟩ a1).setCell ⟨D, 2, none⟩ a2).setCell ⟨D, 3, none⟩ a3).setCell ⟨D + 1, 0, none⟩ b0).setCell ⟨D + 1, 1, none⟩ b1).setCell ⟨D + 1, 2, none⟩ b2).setCell ⟨D + 1, 3, none⟩ b3) (D + 1) t #[b0, b1, b2, b3] := by
  have h := h1.res8 h2 a0 a1 a2 a3 b0 b1 b2 b3
  generalize ((((((((w.setCell ⟨D, 0, none⟩ a0).setCell ⟨D, 1, none⟩ a1).setCell ⟨D, 2, none⟩ a2).setCell ⟨D, 3, none⟩ a3).setCell ⟨D + 1, 0, none⟩ b0).setCell ⟨D + 1, 1, none⟩ b1).setCell ⟨D + 1, 2, none⟩ b2).setCell ⟨D + 1, 3, none⟩ b3) = u at *
  exact h
theorem CodeAt.on {w w' : World} {A : Option Addr} {bl : Nat} (h : CodeAt w A bl) (hb : Below w.heap.size w w') : CodeAt w' A bl := fun k hk => by
  obtain ⟨b, off, z, e, hlt, hc, h0, h1⟩ := h k hk
  exact ⟨b, off, z, e, Nat.lt_of_lt_of_le hlt hb.size, (hb.cell (p := ⟨b, off + k, none⟩) hlt).trans hc, h0, h1⟩
def DrawPair (w : World) (e : Ending) (w' : World) : Prop :=
  ∃ (i : Int) (nA gA oA : Option Addr) (nc gc oc : Nat) (ns : List Int) (gs : List (Int × Int)) (os : List Int) (i' : Int) (nA' gA' oA' : Option Addr) (nc' gc' oc' : Nat) (ns' : List Int) (gs' : List (Int × Int)) (os' : List Int),
    e = .returned (.tuple #[.agg #[.int .i64 i, .slice nA ns.length nc, .slice gA gs.length gc, .slice oA os.length oc], .agg #[.int .i64 i', .slice nA' ns'.length nc', .slice gA' gs'.length gc', .slice oA' os'.length oc']]) ∧ CircAt w' w'.heap.size nA gA oA ns gs os ∧ CircAt w' w'.heap.size nA' gA' oA' ns' gs' os' ∧ ns.length ≤ 10 ∧ gs.length ≤ 20 ∧ os.length ≤ 10 ∧ ns'.length ≤ 10 ∧ gs'.length ≤ 20 ∧ os'.length ≤ 10 ∧ Below w.heap.size w w'

set_option maxHeartbeats 1000000 in
theorem drawSameIf_any (A : Option Addr) (bl bc : Nat) (w : World) (hb : CodeAt w A bl) (hbl : bl ≤ bc) (hbc : bc ≤ maxLen) : Calls Try.prog 29 #[.slice A bl bc] w (DrawPair w) := by
  have hb0 : Below w.heap.size w ((w.alloc (.cells #[.int .i64 0, .slice none 0 0, .slice none 0 0, .slice none 0 0] 26)).alloc (.cells #[.int .i64 0, .slice none 0 0, .slice none 0 0, .slice none 0 0] 26)) := ((Below.refl _ _).alloc (Nat.le_refl _) _).alloc (by simp) _
  have HC0 := Lib.hid (hb.on hb0)
  have HL0 := Lib.hid hb0
  have HD0 := Lib.hid (show Row ((w.alloc (.cells #[.int .i64 0, .slice none 0 0, .slice none 0 0, .slice none 0 0] 26)).alloc (.cells #[.int .i64 0, .slice none 0 0, .slice none 0 0, .slice none 0 0] 26)) w.heap.size 26 #[.int .i64 0, .slice none 0 0, .slice none 0 0, .slice none 0 0] from (Below.heap_alloc _ _ _ (by simp)).trans (heap_alloc_new w _))
  have HE0 : Hid (Row ((w.alloc (.cells #[.int .i64 0, .slice none 0 0, .slice none 0 0, .slice none 0 0] 26)).alloc (.cells #[.int .i64 0, .slice none 0 0, .slice none 0 0, .slice none 0 0] 26)) (w.heap.size + 1) 26 #[.int .i64 0, .slice none 0 0, .slice none 0 0, .slice none 0 0]) := Lib.hid (by
    have := heap_alloc_new (w.alloc (.cells #[.int .i64 0, .slice none 0 0, .slice none 0 0, .slice none 0 0] 26)) (.cells #[.int .i64 0, .slice none 0 0, .slice none 0 0, .slice none 0 0] 26)
    simpa [Row] using this)
  have HBC := Lib.hid hbc
  clear hb hb0 hbc
  go_enter Try.func29, Try.ntmps29
  go_wp2_with fail
  refine (open_any A bl bc _ HC0.out hbl HBC.out).mono ?_
  rintro e w1 ⟨R, bA, bl', bc', rfl, hbl', hR, hrow, hby, hbel⟩
  have hR' : w.heap.size + 1 < R := Nat.lt_of_lt_of_le HE0.out.lt hR
  have HD1 := Lib.hid (HD0.out.below hbel HD0.out.lt)
  have HE1 := Lib.hid (HE0.out.below hbel HE0.out.lt)
  have HL1 := Lib.hid (HL0.out.trans (hbel.mono HL0.out.size))
  have HRW := Lib.hid hrow
  have HBY := Lib.hid hby
  clear hrow hby hbel HD0 HE0 HL0 HC0 hR
  go_wp2_with fail
  refine (pair_any R bA bl' bc' 0 _ HRW.out HBY.out hbl' (by omega) (by omega)).mono ?_
  rintro e w2 ⟨i, nA, gA, oA, nc, gc, oc, ns, gs, os, i', nA', gA', oA', nc', gc', oc', ns', gs', os', rfl, hC, hC', hn, hg, ho, hn', hg', ho', hgr, ⟨f1, f2, f3⟩, f4, f5, f6⟩
  have hDl : w.heap.size + 2 ≤ w1.heap.size := HE1.out.lt
  have HA2 := Lib.hid (CircIn.of hC f1 f2 f3)
  have HB2 := Lib.hid (CircIn.of hC' f4 f5 f6)
  have HD2 := Lib.hid (HD1.out.grown hgr (by intro x; injection x; omega))
  have HE2 := Lib.hid (HE1.out.grown hgr (by intro x; injection x; omega))
  have HL2 := Lib.hid (HL1.out.grown hgr HL1.out.size (fun k hk => by injection hk; omega))
  clear hC hC' hgr f1 f2 f3 f4 f5 f6 HD1 HE1 HL1 HRW HBY
  have d0 := HD2.out.cell 0
  have d1 := HD2.out.cell 1
  have d2 := HD2.out.cell 2
  have d3 := HD2.out.cell 3
  have e0 := HE2.out.cell 0
  have e1 := HE2.out.cell 1
  have e2 := HE2.out.cell 2
  have e3 := HE2.out.cell 3
  have f0 := HD2.out.frozen 0
  have f1 := HD2.out.frozen 1
  have f2 := HD2.out.frozen 2
  have f3 := HD2.out.frozen 3
  have g0 := HE2.out.frozen 0
  have g1 := HE2.out.frozen 1
  have g2 := HE2.out.frozen 2
  have g3 := HE2.out.frozen 3
  simp at d0 d1 d2 d3 e0 e1 e2 e3
  go_wp2
  have hA : CircAt ((((((((w2.setCell ⟨w.heap.size, 0, none⟩ (.int .i64 i)).setCell ⟨w.heap.size, 1, none⟩ (.slice nA ns.length nc)).setCell ⟨w.heap.size, 2, none⟩ (.slice gA gs.length gc)).setCell ⟨w.heap.size, 3, none⟩ (.slice oA os.length oc)).setCell ⟨w.heap.size + 1, 0, none⟩ (.int .i64 i')).setCell ⟨w.heap.size + 1, 1, none⟩ (.slice nA' ns'.length nc')).setCell ⟨w.heap.size + 1, 2, none⟩ (.slice gA' gs'.length gc')).setCell ⟨w.heap.size + 1, 3, none⟩ (.slice oA' os'.length oc')) ((((((((w2.setCell ⟨w.heap.size, 0, none⟩ (.int .i64 i)).setCell ⟨w.heap.size, 1, none⟩ (.slice nA ns.length nc)).setCell ⟨w.heap.size, 2, none⟩ (.slice gA gs.length gc)).setCell ⟨w.heap.size, 3, none⟩ (.slice oA os.length oc)).setCell ⟨w.heap.size + 1, 0, none⟩ (.int .i64 i')).setCell ⟨w.heap.size + 1, 1, none⟩ (.slice nA' ns'.length nc')).setCell ⟨w.heap.size + 1, 2, none⟩ (.slice gA' gs'.length gc')).setCell ⟨w.heap.size + 1, 3, none⟩ (.slice oA' os'.length oc')).heap.size nA gA oA ns gs os := (HA2.out.low9 hDl _ _ _ _ _ _ _ _)
  have hB : CircAt ((((((((w2.setCell ⟨w.heap.size, 0, none⟩ (.int .i64 i)).setCell ⟨w.heap.size, 1, none⟩ (.slice nA ns.length nc)).setCell ⟨w.heap.size, 2, none⟩ (.slice gA gs.length gc)).setCell ⟨w.heap.size, 3, none⟩ (.slice oA os.length oc)).setCell ⟨w.heap.size + 1, 0, none⟩ (.int .i64 i')).setCell ⟨w.heap.size + 1, 1, none⟩ (.slice nA' ns'.length nc')).setCell ⟨w.heap.size + 1, 2, none⟩ (.slice gA' gs'.length gc')).setCell ⟨w.heap.size + 1, 3, none⟩ (.slice oA' os'.length oc')) ((((((((w2.setCell ⟨w.heap.size, 0, none⟩ (.int .i64 i)).setCell ⟨w.heap.size, 1, none⟩ (.slice nA ns.length nc)).setCell ⟨w.heap.size, 2, none⟩ (.slice gA gs.length gc)).setCell ⟨w.heap.size, 3, none⟩ (.slice oA os.length oc)).setCell ⟨w.heap.size + 1, 0, none⟩ (.int .i64 i')).setCell ⟨w.heap.size + 1, 1, none⟩ (.slice nA' ns'.length nc')).setCell ⟨w.heap.size + 1, 2, none⟩ (.slice gA' gs'.length gc')).setCell ⟨w.heap.size + 1, 3, none⟩ (.slice oA' os'.length oc')).heap.size nA' gA' oA' ns' gs' os' := (HB2.out.low9 hDl _ _ _ _ _ _ _ _)
  have hL : Below w.heap.size w ((((((((w2.setCell ⟨w.heap.size, 0, none⟩ (.int .i64 i)).setCell ⟨w.heap.size, 1, none⟩ (.slice nA ns.length nc)).setCell ⟨w.heap.size, 2, none⟩ (.slice gA gs.length gc)).setCell ⟨w.heap.size, 3, none⟩ (.slice oA os.length oc)).setCell ⟨w.heap.size + 1, 0, none⟩ (.int .i64 i')).setCell ⟨w.heap.size + 1, 1, none⟩ (.slice nA' ns'.length nc')).setCell ⟨w.heap.size + 1, 2, none⟩ (.slice gA' gs'.length gc')).setCell ⟨w.heap.size + 1, 3, none⟩ (.slice oA' os'.length oc')) := ((((((((HL2.out.setCell (p := ⟨w.heap.size, 0, none⟩) (Nat.le_refl _) _).setCell (p := ⟨w.heap.size, 1, none⟩) (Nat.le_refl _) _).setCell (p := ⟨w.heap.size, 2, none⟩) (Nat.le_refl _) _).setCell (p := ⟨w.heap.size, 3, none⟩) (Nat.le_refl _) _).setCell (p := ⟨w.heap.size + 1, 0, none⟩) (Nat.le_succ _) _).setCell (p := ⟨w.heap.size + 1, 1, none⟩) (Nat.le_succ _) _).setCell (p := ⟨w.heap.size + 1, 2, none⟩) (Nat.le_succ _) _).setCell (p := ⟨w.heap.size + 1, 3, none⟩) (Nat.le_succ _) _)
  obtain ⟨rD, rE⟩ := HD2.out.res9 HE2.out (.int .i64 i) (.slice nA ns.length nc) (.slice gA gs.length gc) (.slice oA os.length oc) (.int .i64 i') (.slice nA' ns'.length nc') (.slice gA' gs'.length gc') (.slice oA' os'.length oc')
  generalize ((((((((w2.setCell ⟨w.heap.size, 0, none⟩ (.int .i64 i)).setCell ⟨w.heap.size, 1, none⟩ (.slice nA ns.length nc)).setCell ⟨w.heap.size, 2, none⟩ (.slice gA gs.length gc)).setCell ⟨w.heap.size, 3, none⟩ (.slice oA os.length oc)).setCell ⟨w.heap.size + 1, 0, none⟩ (.int .i64 i')).setCell ⟨w.heap.size + 1, 1, none⟩ (.slice nA' ns'.length nc')).setCell ⟨w.heap.size + 1, 2, none⟩ (.slice gA' gs'.length gc')).setCell ⟨w.heap.size + 1, 3, none⟩ (.slice oA' os'.length oc')) = W at *
  have c0 := rD.cell 0
  have c1 := rD.cell 1
  have c2 := rD.cell 2
  have c3 := rD.cell 3
  have x0 := rE.cell 0
  have x1 := rE.cell 1
  have x2 := rE.cell 2
  have x3 := rE.cell 3
  simp at c0 c1 c2 c3 x0 x1 x2 x3
  exact bodyPost_ret (v := .tuple #[.agg #[.int .i64 i, .slice nA ns.length nc, .slice gA gs.length gc, .slice oA os.length oc], .agg #[.int .i64 i', .slice nA' ns'.length nc', .slice gA' gs'.length gc', .slice oA' os'.length oc']]) (by simp [results, Try.results29, go_sem, c0, c1, c2, c3, x0, x1, x2, x3]) rfl ⟨i, nA, gA, oA, nc, gc, oc, ns, gs, os, i', nA', gA', oA', nc', gc', oc', ns', gs', os', rfl, hA, hB, hn, hg, ho, hn', hg', ho', hL⟩

set_option maxHeartbeats 1000000 in
theorem drawFind_any (A : Option Addr) (bl bc : Nat) (w : World) (hb : CodeAt w A bl) (hbl : bl ≤ bc) (hbc : bc ≤ maxLen) : Calls Try.prog 31 #[.slice A bl bc] w (DrawPair w) := by
  have hb0 : Below w.heap.size w ((w.alloc (.cells #[.int .i64 0, .slice none 0 0, .slice none 0 0, .slice none 0 0] 26)).alloc (.cells #[.int .i64 0, .slice none 0 0, .slice none 0 0, .slice none 0 0] 26)) := ((Below.refl _ _).alloc (Nat.le_refl _) _).alloc (by simp) _
  have HC0 := Lib.hid (hb.on hb0)
  have HL0 := Lib.hid hb0
  have HD0 := Lib.hid (show Row ((w.alloc (.cells #[.int .i64 0, .slice none 0 0, .slice none 0 0, .slice none 0 0] 26)).alloc (.cells #[.int .i64 0, .slice none 0 0, .slice none 0 0, .slice none 0 0] 26)) w.heap.size 26 #[.int .i64 0, .slice none 0 0, .slice none 0 0, .slice none 0 0] from (Below.heap_alloc _ _ _ (by simp)).trans (heap_alloc_new w _))
  have HE0 : Hid (Row ((w.alloc (.cells #[.int .i64 0, .slice none 0 0, .slice none 0 0, .slice none 0 0] 26)).alloc (.cells #[.int .i64 0, .slice none 0 0, .slice none 0 0, .slice none 0 0] 26)) (w.heap.size + 1) 26 #[.int .i64 0, .slice none 0 0, .slice none 0 0, .slice none 0 0]) := Lib.hid (by
    have := heap_alloc_new (w.alloc (.cells #[.int .i64 0, .slice none 0 0, .slice none 0 0, .slice none 0 0] 26)) (.cells #[.int .i64 0, .slice none 0 0, .slice none 0 0, .slice none 0 0] 26)
    simpa [Row] using this)
  have HBC := Lib.hid hbc
  clear hb hb0 hbc
  go_enter Try.func31, Try.ntmps31
  go_wp2_with fail
  refine (open_any A bl bc _ HC0.out hbl HBC.out).mono ?_
  rintro e w1 ⟨R, bA, bl', bc', rfl, hbl', hR, hrow, hby, hbel⟩
  have hR' : w.heap.size + 1 < R := Nat.lt_of_lt_of_le HE0.out.lt hR
  have HD1 := Lib.hid (HD0.out.below hbel HD0.out.lt)
  have HE1 := Lib.hid (HE0.out.below hbel HE0.out.lt)
  have HL1 := Lib.hid (HL0.out.trans (hbel.mono HL0.out.size))
  have HRW := Lib.hid hrow
  have HBY := Lib.hid hby
  clear hrow hby hbel HD0 HE0 HL0 HC0 hR
  go_wp2_with fail
  refine (pair_any R bA bl' bc' 0 _ HRW.out HBY.out hbl' (by omega) (by omega)).mono ?_
  rintro e w2 ⟨i, nA, gA, oA, nc, gc, oc, ns, gs, os, i', nA', gA', oA', nc', gc', oc', ns', gs', os', rfl, hC, hC', hn, hg, ho, hn', hg', ho', hgr, ⟨f1, f2, f3⟩, f4, f5, f6⟩
  have hDl : w.heap.size + 2 ≤ w1.heap.size := HE1.out.lt
  have HA2 := Lib.hid (CircIn.of hC f1 f2 f3)
  have HB2 := Lib.hid (CircIn.of hC' f4 f5 f6)
  have HD2 := Lib.hid (HD1.out.grown hgr (by intro x; injection x; omega))
  have HE2 := Lib.hid (HE1.out.grown hgr (by intro x; injection x; omega))
  have HL2 := Lib.hid (HL1.out.grown hgr HL1.out.size (fun k hk => by injection hk; omega))
  clear hC hC' hgr f1 f2 f3 f4 f5 f6 HD1 HE1 HL1 HRW HBY
  have d0 := HD2.out.cell 0
  have d1 := HD2.out.cell 1
  have d2 := HD2.out.cell 2
  have d3 := HD2.out.cell 3
  have e0 := HE2.out.cell 0
  have e1 := HE2.out.cell 1
  have e2 := HE2.out.cell 2
  have e3 := HE2.out.cell 3
  have f0 := HD2.out.frozen 0
  have f1 := HD2.out.frozen 1
  have f2 := HD2.out.frozen 2
  have f3 := HD2.out.frozen 3
  have g0 := HE2.out.frozen 0
  have g1 := HE2.out.frozen 1
  have g2 := HE2.out.frozen 2
  have g3 := HE2.out.frozen 3
  simp at d0 d1 d2 d3 e0 e1 e2 e3
  go_wp2
  have hA : CircAt ((((((((w2.setCell ⟨w.heap.size, 0, none⟩ (.int .i64 i)).setCell ⟨w.heap.size, 1, none⟩ (.slice nA ns.length nc)).setCell ⟨w.heap.size, 2, none⟩ (.slice gA gs.length gc)).setCell ⟨w.heap.size, 3, none⟩ (.slice oA os.length oc)).setCell ⟨w.heap.size + 1, 0, none⟩ (.int .i64 i')).setCell ⟨w.heap.size + 1, 1, none⟩ (.slice nA' ns'.length nc')).setCell ⟨w.heap.size + 1, 2, none⟩ (.slice gA' gs'.length gc')).setCell ⟨w.heap.size + 1, 3, none⟩ (.slice oA' os'.length oc')) ((((((((w2.setCell ⟨w.heap.size, 0, none⟩ (.int .i64 i)).setCell ⟨w.heap.size, 1, none⟩ (.slice nA ns.length nc)).setCell ⟨w.heap.size, 2, none⟩ (.slice gA gs.length gc)).setCell ⟨w.heap.size, 3, none⟩ (.slice oA os.length oc)).setCell ⟨w.heap.size + 1, 0, none⟩ (.int .i64 i')).setCell ⟨w.heap.size + 1, 1, none⟩ (.slice nA' ns'.length nc')).setCell ⟨w.heap.size + 1, 2, none⟩ (.slice gA' gs'.length gc')).setCell ⟨w.heap.size + 1, 3, none⟩ (.slice oA' os'.length oc')).heap.size nA gA oA ns gs os := (HA2.out.low9 hDl _ _ _ _ _ _ _ _)
  have hB : CircAt ((((((((w2.setCell ⟨w.heap.size, 0, none⟩ (.int .i64 i)).setCell ⟨w.heap.size, 1, none⟩ (.slice nA ns.length nc)).setCell ⟨w.heap.size, 2, none⟩ (.slice gA gs.length gc)).setCell ⟨w.heap.size, 3, none⟩ (.slice oA os.length oc)).setCell ⟨w.heap.size + 1, 0, none⟩ (.int .i64 i')).setCell ⟨w.heap.size + 1, 1, none⟩ (.slice nA' ns'.length nc')).setCell ⟨w.heap.size + 1, 2, none⟩ (.slice gA' gs'.length gc')).setCell ⟨w.heap.size + 1, 3, none⟩ (.slice oA' os'.length oc')) ((((((((w2.setCell ⟨w.heap.size, 0, none⟩ (.int .i64 i)).setCell ⟨w.heap.size, 1, none⟩ (.slice nA ns.length nc)).setCell ⟨w.heap.size, 2, none⟩ (.slice gA gs.length gc)).setCell ⟨w.heap.size, 3, none⟩ (.slice oA os.length oc)).setCell ⟨w.heap.size + 1, 0, none⟩ (.int .i64 i')).setCell ⟨w.heap.size + 1, 1, none⟩ (.slice nA' ns'.length nc')).setCell ⟨w.heap.size + 1, 2, none⟩ (.slice gA' gs'.length gc')).setCell ⟨w.heap.size + 1, 3, none⟩ (.slice oA' os'.length oc')).heap.size nA' gA' oA' ns' gs' os' := (HB2.out.low9 hDl _ _ _ _ _ _ _ _)
  have hL : Below w.heap.size w ((((((((w2.setCell ⟨w.heap.size, 0, none⟩ (.int .i64 i)).setCell ⟨w.heap.size, 1, none⟩ (.slice nA ns.length nc)).setCell ⟨w.heap.size, 2, none⟩ (.slice gA gs.length gc)).setCell ⟨w.heap.size, 3, none⟩ (.slice oA os.length oc)).setCell ⟨w.heap.size + 1, 0, none⟩ (.int .i64 i')).setCell ⟨w.heap.size + 1, 1, none⟩ (.slice nA' ns'.length nc')).setCell ⟨w.heap.size + 1, 2, none⟩ (.slice gA' gs'.length gc')).setCell ⟨w.heap.size + 1, 3, none⟩ (.slice oA' os'.length oc')) := ((((((((HL2.out.setCell (p := ⟨w.heap.size, 0, none⟩) (Nat.le_refl _) _).setCell (p := ⟨w.heap.size, 1, none⟩) (Nat.le_refl _) _).setCell (p := ⟨w.heap.size, 2, none⟩) (Nat.le_refl _) _).setCell (p := ⟨w.heap.size, 3, none⟩) (Nat.le_refl _) _).setCell (p := ⟨w.heap.size + 1, 0, none⟩) (Nat.le_succ _) _).setCell (p := ⟨w.heap.size + 1, 1, none⟩) (Nat.le_succ _) _).setCell (p := ⟨w.heap.size + 1, 2, none⟩) (Nat.le_succ _) _).setCell (p := ⟨w.heap.size + 1, 3, none⟩) (Nat.le_succ _) _)
  obtain ⟨rD, rE⟩ := HD2.out.res9 HE2.out (.int .i64 i) (.slice nA ns.length nc) (.slice gA gs.length gc) (.slice oA os.length oc) (.int .i64 i') (.slice nA' ns'.length nc') (.slice gA' gs'.length gc') (.slice oA' os'.length oc')
  generalize ((((((((w2.setCell ⟨w.heap.size, 0, none⟩ (.int .i64 i)).setCell ⟨w.heap.size, 1, none⟩ (.slice nA ns.length nc)).setCell ⟨w.heap.size, 2, none⟩ (.slice gA gs.length gc)).setCell ⟨w.heap.size, 3, none⟩ (.slice oA os.length oc)).setCell ⟨w.heap.size + 1, 0, none⟩ (.int .i64 i')).setCell ⟨w.heap.size + 1, 1, none⟩ (.slice nA' ns'.length nc')).setCell ⟨w.heap.size + 1, 2, none⟩ (.slice gA' gs'.length gc')).setCell ⟨w.heap.size + 1, 3, none⟩ (.slice oA' os'.length oc')) = W at *
  have c0 := rD.cell 0
  have c1 := rD.cell 1
  have c2 := rD.cell 2
  have c3 := rD.cell 3
  have x0 := rE.cell 0
  have x1 := rE.cell 1
  have x2 := rE.cell 2
  have x3 := rE.cell 3
  simp at c0 c1 c2 c3 x0 x1 x2 x3
  exact bodyPost_ret (v := .tuple #[.agg #[.int .i64 i, .slice nA ns.length nc, .slice gA gs.length gc, .slice oA os.length oc], .agg #[.int .i64 i', .slice nA' ns'.length nc', .slice gA' gs'.length gc', .slice oA' os'.length oc']]) (by simp [results, Try.results31, go_sem, c0, c1, c2, c3, x0, x1, x2, x3]) rfl ⟨i, nA, gA, oA, nc, gc, oc, ns, gs, os, i', nA', gA', oA', nc', gc', oc', ns', gs', os', rfl, hA, hB, hn, hg, ho, hn', hg', ho', hL⟩

set_option maxHeartbeats 1000000 in
theorem drawEquiv_any (A : Option Addr) (bl bc : Nat) (w : World) (hb : CodeAt w A bl) (hbl : bl ≤ bc) (hbc : bc ≤ maxLen) : Calls Try.prog 34 #[.slice A bl bc] w (DrawPair w) := by
  have hb0 : Below w.heap.size w ((w.alloc (.cells #[.int .i64 0, .slice none 0 0, .slice none 0 0, .slice none 0 0] 26)).alloc (.cells #[.int .i64 0, .slice none 0 0, .slice none 0 0, .slice none 0 0] 26)) := ((Below.refl _ _).alloc (Nat.le_refl _) _).alloc (by simp) _
  have HC0 := Lib.hid (hb.on hb0)
  have HL0 := Lib.hid hb0
  have HD0 := Lib.hid (show Row ((w.alloc (.cells #[.int .i64 0, .slice none 0 0, .slice none 0 0, .slice none 0 0] 26)).alloc (.cells #[.int .i64 0, .slice none 0 0, .slice none 0 0, .slice none 0 0] 26)) w.heap.size 26 #[.int .i64 0, .slice none 0 0, .slice none 0 0, .slice none 0 0] from (Below.heap_alloc _ _ _ (by simp)).trans (heap_alloc_new w _))
  have HE0 : Hid (Row ((w.alloc (.cells #[.int .i64 0, .slice none 0 0, .slice none 0 0, .slice none 0 0] 26)).alloc (.cells #[.int .i64 0, .slice none 0 0, .slice none 0 0, .slice none 0 0] 26)) (w.heap.size + 1) 26 #[.int .i64 0, .slice none 0 0, .slice none 0 0, .slice none 0 0]) := Lib.hid (by
    have := heap_alloc_new (w.alloc (.cells #[.int .i64 0, .slice none 0 0, .slice none 0 0, .slice none 0 0] 26)) (.cells #[.int .i64 0, .slice none 0 0, .slice none 0 0, .slice none 0 0] 26)
    simpa [Row] using this)
  have HBC := Lib.hid hbc
  clear hb hb0 hbc
  go_enter Try.func34, Try.ntmps34
  go_wp2_with fail
  refine (open_any A bl bc _ HC0.out hbl HBC.out).mono ?_
  rintro e w1 ⟨R, bA, bl', bc', rfl, hbl', hR, hrow, hby, hbel⟩
  have hR' : w.heap.size + 1 < R := Nat.lt_of_lt_of_le HE0.out.lt hR
  have HD1 := Lib.hid (HD0.out.below hbel HD0.out.lt)
  have HE1 := Lib.hid (HE0.out.below hbel HE0.out.lt)
  have HL1 := Lib.hid (HL0.out.trans (hbel.mono HL0.out.size))
  have HRW := Lib.hid hrow
  have HBY := Lib.hid hby
  clear hrow hby hbel HD0 HE0 HL0 HC0 hR
  go_wp2_with fail
  refine (pair_any R bA bl' bc' 0 _ HRW.out HBY.out hbl' (by omega) (by omega)).mono ?_
  rintro e w2 ⟨i, nA, gA, oA, nc, gc, oc, ns, gs, os, i', nA', gA', oA', nc', gc', oc', ns', gs', os', rfl, hC, hC', hn, hg, ho, hn', hg', ho', hgr, ⟨f1, f2, f3⟩, f4, f5, f6⟩
  have hDl : w.heap.size + 2 ≤ w1.heap.size := HE1.out.lt
  have HA2 := Lib.hid (CircIn.of hC f1 f2 f3)
  have HB2 := Lib.hid (CircIn.of hC' f4 f5 f6)
  have HD2 := Lib.hid (HD1.out.grown hgr (by intro x; injection x; omega))
  have HE2 := Lib.hid (HE1.out.grown hgr (by intro x; injection x; omega))
  have HL2 := Lib.hid (HL1.out.grown hgr HL1.out.size (fun k hk => by injection hk; omega))
  clear hC hC' hgr f1 f2 f3 f4 f5 f6 HD1 HE1 HL1 HRW HBY
  have d0 := HD2.out.cell 0
  have d1 := HD2.out.cell 1
  have d2 := HD2.out.cell 2
  have d3 := HD2.out.cell 3
  have e0 := HE2.out.cell 0
  have e1 := HE2.out.cell 1
  have e2 := HE2.out.cell 2
  have e3 := HE2.out.cell 3
  have f0 := HD2.out.frozen 0
  have f1 := HD2.out.frozen 1
  have f2 := HD2.out.frozen 2
  have f3 := HD2.out.frozen 3
  have g0 := HE2.out.frozen 0
  have g1 := HE2.out.frozen 1
  have g2 := HE2.out.frozen 2
  have g3 := HE2.out.frozen 3
  simp at d0 d1 d2 d3 e0 e1 e2 e3
  go_wp2
  have hA : CircAt ((((((((w2.setCell ⟨w.heap.size, 0, none⟩ (.int .i64 i)).setCell ⟨w.heap.size, 1, none⟩ (.slice nA ns.length nc)).setCell ⟨w.heap.size, 2, none⟩ (.slice gA gs.length gc)).setCell ⟨w.heap.size, 3, none⟩ (.slice oA os.length oc)).setCell ⟨w.heap.size + 1, 0, none⟩ (.int .i64 i')).setCell ⟨w.heap.size + 1, 1, none⟩ (.slice nA' ns'.length nc')).setCell ⟨w.heap.size + 1, 2, none⟩ (.slice gA' gs'.length gc')).setCell ⟨w.heap.size + 1, 3, none⟩ (.slice oA' os'.length oc')) ((((((((w2.setCell ⟨w.heap.size, 0, none⟩ (.int .i64 i)).setCell ⟨w.heap.size, 1, none⟩ (.slice nA ns.length nc)).setCell ⟨w.heap.size, 2, none⟩ (.slice gA gs.length gc)).setCell ⟨w.heap.size, 3, none⟩ (.slice oA os.length oc)).setCell ⟨w.heap.size + 1, 0, none⟩ (.int .i64 i')).setCell ⟨w.heap.size + 1, 1, none⟩ (.slice nA' ns'.length nc')).setCell ⟨w.heap.size + 1, 2, none⟩ (.slice gA' gs'.length gc')).setCell ⟨w.heap.size + 1, 3, none⟩ (.slice oA' os'.length oc')).heap.size nA gA oA ns gs os := (HA2.out.low9 hDl _ _ _ _ _ _ _ _)
  have hB : CircAt ((((((((w2.setCell ⟨w.heap.size, 0, none⟩ (.int .i64 i)).setCell ⟨w.heap.size, 1, none⟩ (.slice nA ns.length nc)).setCell ⟨w.heap.size, 2, none⟩ (.slice gA gs.length gc)).setCell ⟨w.heap.size, 3, none⟩ (.slice oA os.length oc)).setCell ⟨w.heap.size + 1, 0, none⟩ (.int .i64 i')).setCell ⟨w.heap.size + 1, 1, none⟩ (.slice nA' ns'.length nc')).setCell ⟨w.heap.size + 1, 2, none⟩ (.slice gA' gs'.length gc')).setCell ⟨w.heap.size + 1, 3, none⟩ (.slice oA' os'.length oc')) ((((((((w2.setCell ⟨w.heap.size, 0, none⟩ (.int .i64 i)).setCell ⟨w.heap.size, 1, none⟩ (.slice nA ns.length nc)).setCell ⟨w.heap.size, 2, none⟩ (.slice gA gs.length gc)).setCell ⟨w.heap.size, 3, none⟩ (.slice oA os.length oc)).setCell ⟨w.heap.size + 1, 0, none⟩ (.int .i64 i')).setCell ⟨w.heap.size + 1, 1, none⟩ (.slice nA' ns'.length nc')).setCell ⟨w.heap.size + 1, 2, none⟩ (.slice gA' gs'.length gc')).setCell ⟨w.heap.size + 1, 3, none⟩ (.slice oA' os'.length oc')).heap.size nA' gA' oA' ns' gs' os' := (HB2.out.low9 hDl _ _ _ _ _ _ _ _)
  have hL : Below w.heap.size w ((((((((w2.setCell ⟨w.heap.size, 0, none⟩ (.int .i64 i)).setCell ⟨w.heap.size, 1, none⟩ (.slice nA ns.length nc)).setCell ⟨w.heap.size, 2, none⟩ (.slice gA gs.length gc)).setCell ⟨w.heap.size, 3, none⟩ (.slice oA os.length oc)).setCell ⟨w.heap.size + 1, 0, none⟩ (.int .i64 i')).setCell ⟨w.heap.size + 1, 1, none⟩ (.slice nA' ns'.length nc')).setCell ⟨w.heap.size + 1, 2, none⟩ (.slice gA' gs'.length gc')).setCell ⟨w.heap.size + 1, 3, none⟩ (.slice oA' os'.length oc')) := ((((((((HL2.out.setCell (p := ⟨w.heap.size, 0, none⟩) (Nat.le_refl _) _).setCell (p := ⟨w.heap.size, 1, none⟩) (Nat.le_refl _) _).setCell (p := ⟨w.heap.size, 2, none⟩) (Nat.le_refl _) _).setCell (p := ⟨w.heap.size, 3, none⟩) (Nat.le_refl _) _).setCell (p := ⟨w.heap.size + 1, 0, none⟩) (Nat.le_succ _) _).setCell (p := ⟨w.heap.size + 1, 1, none⟩) (Nat.le_succ _) _).setCell (p := ⟨w.heap.size + 1, 2, none⟩) (Nat.le_succ _) _).setCell (p := ⟨w.heap.size + 1, 3, none⟩) (Nat.le_succ _) _)
  obtain ⟨rD, rE⟩ := HD2.out.res9 HE2.out (.int .i64 i) (.slice nA ns.length nc) (.slice gA gs.length gc) (.slice oA os.length oc) (.int .i64 i') (.slice nA' ns'.length nc') (.slice gA' gs'.length gc') (.slice oA' os'.length oc')
  generalize ((((((((w2.setCell ⟨w.heap.size, 0, none⟩ (.int .i64 i)).setCell ⟨w.heap.size, 1, none⟩ (.slice nA ns.length nc)).setCell ⟨w.heap.size, 2, none⟩ (.slice gA gs.length gc)).setCell ⟨w.heap.size, 3, none⟩ (.slice oA os.length oc)).setCell ⟨w.heap.size + 1, 0, none⟩ (.int .i64 i')).setCell ⟨w.heap.size + 1, 1, none⟩ (.slice nA' ns'.length nc')).setCell ⟨w.heap.size + 1, 2, none⟩ (.slice gA' gs'.length gc')).setCell ⟨w.heap.size + 1, 3, none⟩ (.slice oA' os'.length oc')) = W at *
  have c0 := rD.cell 0
  have c1 := rD.cell 1
  have c2 := rD.cell 2
  have c3 := rD.cell 3
  have x0 := rE.cell 0
  have x1 := rE.cell 1
  have x2 := rE.cell 2
  have x3 := rE.cell 3
  simp at c0 c1 c2 c3 x0 x1 x2 x3
  exact bodyPost_ret (v := .tuple #[.agg #[.int .i64 i, .slice nA ns.length nc, .slice gA gs.length gc, .slice oA os.length oc], .agg #[.int .i64 i', .slice nA' ns'.length nc', .slice gA' gs'.length gc', .slice oA' os'.length oc']]) (by simp [results, Try.results34, go_sem, c0, c1, c2, c3, x0, x1, x2, x3]) rfl ⟨i, nA, gA, oA, nc, gc, oc, ns, gs, os, i', nA', gA', oA', nc', gc', oc', ns', gs', os', rfl, hA, hB, hn, hg, ho, hn', hg', ho', hL⟩
end Go.Proofs.Ythpiddpkcmecfaa
/- What the laws on two circuits need. -/
namespace Go.Proofs.Ythpiddpkcmecfaa
open Go.RowKit Go.Deep
set_option maxRecDepth 100000
theorem two_on {w w' : World} {cc cx : Nat} {a0 a1 a2 a3 b0 b1 b2 b3 : Value} (hb : Below w.heap.size w w') (h : (w.cell? ⟨cc, 0, none⟩ = some a0 ∧ w.cell? ⟨cc, 1, none⟩ = some a1 ∧ w.cell? ⟨cc, 2, none⟩ = some a2 ∧ w.cell? ⟨cc, 3, none⟩ = some a3) ∧ w.cell? ⟨cx, 0, none⟩ = some b0 ∧ w.cell? ⟨cx, 1, none⟩ = some b1 ∧ w.cell? ⟨cx, 2, none⟩ = some b2 ∧ w.cell? ⟨cx, 3, none⟩ = some b3) : (w'.cell? ⟨cc, 0, none⟩ = some a0 ∧ w'.cell? ⟨cc, 1, none⟩ = some a1 ∧ w'.cell? ⟨cc, 2, none⟩ = some a2 ∧ w'.cell? ⟨cc, 3, none⟩ = some a3) ∧ w'.cell? ⟨cx, 0, none⟩ = some b0 ∧ w'.cell? ⟨cx, 1, none⟩ = some b1 ∧ w'.cell? ⟨cx, 2, none⟩ = some b2 ∧ w'.cell? ⟨cx, 3, none⟩ = some b3 := by
  have k : ∀ (a : Addr) (u : Value), w.cell? a = some u → w'.cell? a = some u := fun a u h => (hb.cell (World.block_lt_of_cell? w a h)).trans h
  exact ⟨⟨k _ _ h.1.1, k _ _ h.1.2.1, k _ _ h.1.2.2.1, k _ _ h.1.2.2.2⟩, k _ _ h.2.1, k _ _ h.2.2.1, k _ _ h.2.2.2.1, k _ _ h.2.2.2.2⟩
theorem two_swap {u : World} {o o' : Obj} {cc cx : Nat} {a0 a1 a2 a3 b0 b1 b2 b3 : Value} (h1 : cc < u.heap.size) (h2 : cx < u.heap.size) (h : ((u.alloc o).cell? ⟨cc, 0, none⟩ = some a0 ∧ (u.alloc o).cell? ⟨cc, 1, none⟩ = some a1 ∧ (u.alloc o).cell? ⟨cc, 2, none⟩ = some a2 ∧ (u.alloc o).cell? ⟨cc, 3, none⟩ = some a3) ∧ (u.alloc o).cell? ⟨cx, 0, none⟩ = some b0 ∧ (u.alloc o).cell? ⟨cx, 1, none⟩ = some b1 ∧ (u.alloc o).cell? ⟨cx, 2, none⟩ = some b2 ∧ (u.alloc o).cell? ⟨cx, 3, none⟩ = some b3) : ((u.alloc o').cell? ⟨cc, 0, none⟩ = some a0 ∧ (u.alloc o').cell? ⟨cc, 1, none⟩ = some a1 ∧ (u.alloc o').cell? ⟨cc, 2, none⟩ = some a2 ∧ (u.alloc o').cell? ⟨cc, 3, none⟩ = some a3) ∧ (u.alloc o').cell? ⟨cx, 0, none⟩ = some b0 ∧ (u.alloc o').cell? ⟨cx, 1, none⟩ = some b1 ∧ (u.alloc o').cell? ⟨cx, 2, none⟩ = some b2 ∧ (u.alloc o').cell? ⟨cx, 3, none⟩ = some b3 := by
  have k1 : ∀ o off, (u.alloc o).cell? ⟨cc, off, none⟩ = u.cell? ⟨cc, off, none⟩ := fun o off => World.cell?_alloc_lt u o ⟨cc, off, none⟩ h1
  have k2 : ∀ o off, (u.alloc o).cell? ⟨cx, off, none⟩ = u.cell? ⟨cx, off, none⟩ := fun o off => World.cell?_alloc_lt u o ⟨cx, off, none⟩ h2
  simp only [k1, k2] at h ⊢
  exact h
theorem valid_val (i : Int) (nA gA oA : Option Addr) (nc gc oc : Nat) (ns : List Int) (gs : List (Int × Int)) (os : List Int) (v : Bool) (w : World) (hv : Circ.validB i ns gs os = v) (hc : CircAt w w.heap.size nA gA oA ns gs os) :
    Calls Try.prog 18 #[.agg #[.int .i64 i, .slice nA ns.length nc, .slice gA gs.length gc, .slice oA os.length oc]] w fun e w' => e = .returned (.bool v) ∧ Below w.heap.size w w' := by
  subst hv
  exact valid_any i nA gA oA nc gc oc ns gs os w hc
theorem sameIf_val (i : Int) (nA gA oA : Option Addr) (nc gc oc : Nat) (ns : List Int) (gs : List (Int × Int)) (os : List Int) (i' : Int) (nA' gA' oA' : Option Addr) (nc' gc' oc' : Nat) (ns' : List Int) (gs' : List (Int × Int)) (os' : List Int) (v : Bool) (w : World) (hv : Circ.sameIf i ns gs os i' ns' gs' os' = v) (hc : CircAt w w.heap.size nA gA oA ns gs os) (hd : CircAt w w.heap.size nA' gA' oA' ns' gs' os') :
    Calls Try.prog 19 #[.agg #[.int .i64 i, .slice nA ns.length nc, .slice gA gs.length gc, .slice oA os.length oc], .agg #[.int .i64 i', .slice nA' ns'.length nc', .slice gA' gs'.length gc', .slice oA' os'.length oc']] w fun e w' => e = .returned (.bool v) ∧ Below w.heap.size w w' := by
  subst hv
  exact sameIf_any i nA gA oA nc gc oc ns gs os i' nA' gA' oA' nc' gc' oc' ns' gs' os' w hc hd
theorem ssameIf_val (i : Int) (nA gA oA : Option Addr) (nc gc oc : Nat) (ns : List Int) (gs : List (Int × Int)) (os : List Int) (i' : Int) (nA' gA' oA' : Option Addr) (nc' gc' oc' : Nat) (ns' : List Int) (gs' : List (Int × Int)) (os' : List Int) (v : Bool) (w : World) (hv : Circ.sameIf i ns gs os i' ns' gs' os' = v) (hc : CircAt w w.heap.size nA gA oA ns gs os) (hd : CircAt w w.heap.size nA' gA' oA' ns' gs' os') :
    Calls Try.prog 30 #[.agg #[.int .i64 i, .slice nA ns.length nc, .slice gA gs.length gc, .slice oA os.length oc], .agg #[.int .i64 i', .slice nA' ns'.length nc', .slice gA' gs'.length gc', .slice oA' os'.length oc']] w fun e w' => e = .returned (.bool v) ∧ Below w.heap.size w w' := by
  subst hv
  exact ssameIf_any i nA gA oA nc gc oc ns gs os i' nA' gA' oA' nc' gc' oc' ns' gs' os' w hc hd
theorem equiv_val (i : Int) (nA gA oA : Option Addr) (nc gc oc : Nat) (ns : List Int) (gs : List (Int × Int)) (os : List Int) (i' : Int) (nA' gA' oA' : Option Addr) (nc' gc' oc' : Nat) (ns' : List Int) (gs' : List (Int × Int)) (os' : List Int) (v : Bool) (w : World) (hv : Circ.equivB i ns gs os i' ns' gs' os' = v) (hc : CircAt w w.heap.size nA gA oA ns gs os) (hd : CircAt w w.heap.size nA' gA' oA' ns' gs' os') :
    Calls Try.prog 35 #[.agg #[.int .i64 i, .slice nA ns.length nc, .slice gA gs.length gc, .slice oA os.length oc], .agg #[.int .i64 i', .slice nA' ns'.length nc', .slice gA' gs'.length gc', .slice oA' os'.length oc']] w fun e w' => e = .returned (.bool v) ∧ Below w.heap.size w w' := by
  subst hv
  exact equiv_any i nA gA oA nc gc oc ns gs os i' nA' gA' oA' nc' gc' oc' ns' gs' os' w hc hd
theorem sequiv_val (i : Int) (nA gA oA : Option Addr) (nc gc oc : Nat) (ns : List Int) (gs : List (Int × Int)) (os : List Int) (i' : Int) (nA' gA' oA' : Option Addr) (nc' gc' oc' : Nat) (ns' : List Int) (gs' : List (Int × Int)) (os' : List Int) (v : Bool) (w : World) (hv : Circ.equivB i ns gs os i' ns' gs' os' = v) (hc : CircAt w w.heap.size nA gA oA ns gs os) (hd : CircAt w w.heap.size nA' gA' oA' ns' gs' os') :
    Calls Try.prog 36 #[.agg #[.int .i64 i, .slice nA ns.length nc, .slice gA gs.length gc, .slice oA os.length oc], .agg #[.int .i64 i', .slice nA' ns'.length nc', .slice gA' gs'.length gc', .slice oA' os'.length oc']] w fun e w' => e = .returned (.bool v) ∧ Below w.heap.size w w' := by
  subst hv
  exact sequiv_any i nA gA oA nc gc oc ns gs os i' nA' gA' oA' nc' gc' oc' ns' gs' os' w hc hd
end Go.Proofs.Ythpiddpkcmecfaa
