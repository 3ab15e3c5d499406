/- The contract of the draw of a circuit with a state and inputs. -/
import Derived.Test.YtbhkpjcflghgbaaB12
namespace Go.Proofs.Ytbhkpjcflghgbaa
open Go.RowKit Go.Deep

/-- Memory while a state and inputs are drawn: the reader, the result's box, the circuit and its box. -/
structure Drn (w0 wr : World) (R D C lo hi : Nat) (rb : Value) (p i : Int) (nA gA oA : Option Addr) (nc gc oc : Nat) (ns : List Int) (gs : List (Int × Int)) (os : List Int) : Prop where
  row : Row wr R 83 #[rb, .int .i64 p]
  res : Row wr D 26 #[.int .i64 0, .slice none 0 0, .slice none 0 0, .slice none 0 0]
  cir : Row wr C 26 #[.int .i64 i, .slice nA ns.length nc, .slice gA gs.length gc, .slice oA os.length oc]
  circ : CircIn wr lo hi nA gA oA ns gs os
  bel : Below w0.heap.size w0 wr
  hD : w0.heap.size ≤ D
  hDR : D < R
  hRl : R < lo
  hlh : lo ≤ hi
  hhC : hi ≤ C

section
variable {w0 wr w' : World} {R D C lo hi : Nat} {rb : Value} {p p' i : Int} {nA gA oA : Option Addr} {nc gc oc : Nat} {ns : List Int} {gs : List (Int × Int)} {os : List Int}
theorem Drn.pick (h : Drn w0 wr R D C lo hi rb p i nA gA oA nc gc oc ns gs os) (hr : Row w' R 83 #[rb, .int .i64 p']) (hg : wr.grownBy w' (some R)) : Drn w0 w' R D C lo hi rb p' i nA gA oA nc gc oc ns gs os := by
  have h1 := h.hD
  have h2 := h.hDR
  have h3 := h.hRl
  have h4 := h.hlh
  have h5 := h.hhC
  exact ⟨hr, h.res.grown hg (by intro e; injection e; omega), h.cir.grown hg (by intro e; injection e; omega), h.circ.grown hg (fun k hk => by injection hk; omega), h.bel.grown hg h.bel.size (fun k hk => by injection hk; omega), h1, h2, h3, h4, h5⟩
theorem Drn.own (h : Drn w0 wr R D C lo hi rb p i nA gA oA nc gc oc ns gs os) {k : Nat} (hg : wr.grownBy w' (some k)) (hk : C < k) : Drn w0 w' R D C lo hi rb p i nA gA oA nc gc oc ns gs os := by
  have h1 := h.hD
  have h2 := h.hDR
  have h3 := h.hRl
  have h4 := h.hlh
  have h5 := h.hhC
  exact ⟨h.row.grown hg (by intro e; injection e; omega), h.res.grown hg (by intro e; injection e; omega), h.cir.grown hg (by intro e; injection e; omega), h.circ.grown hg (fun k hk => by injection hk; omega), h.bel.grown hg h.bel.size (fun k hk => by injection hk; omega), h1, h2, h3, h4, h5⟩
theorem Drn.alloc (h : Drn w0 wr R D C lo hi rb p i nA gA oA nc gc oc ns gs os) (o : Obj) : Drn w0 (wr.alloc o) R D C lo hi rb p i nA gA oA nc gc oc ns gs os :=
  ⟨h.row.alloc o, h.res.alloc o, h.cir.alloc o, h.circ.grown (gb_alloc (World.grownBy.refl wr none) o) (fun k hk => by cases hk), h.bel.alloc h.bel.size o, h.hD, h.hDR, h.hRl, h.hlh, h.hhC⟩
end

theorem BoolsAt.farD {w : World} {g D j : Nat} {xs : List Bool} (h : BoolsAt w w.heap.size (some ⟨g, 0, none⟩) xs) (hg : D < g) (u : Value) : BoolsAt (w.setCell ⟨D, j, none⟩ u) (w.setCell ⟨D, j, none⟩ u).heap.size (some ⟨g, 0, none⟩) xs := fun k hk => by
  obtain ⟨b, off, e, hlt, hc⟩ := h k hk
  exact ⟨b, off, e, by rw [size_setCell]; exact hlt, (World.cell?_of_block (Below.heap_setCell w _ u b (ne_of_some e (by simp; omega)))).trans hc⟩
theorem CircIn.farD {w : World} {lo hi D j : Nat} {nA gA oA : Option Addr} {ns : List Int} {gs : List (Int × Int)} {os : List Int} (h : CircIn w lo hi nA gA oA ns gs os) (hD : D < lo) (u : Value) : CircIn (w.setCell ⟨D, j, none⟩ u) lo hi nA gA oA ns gs os :=
  ⟨⟨h.at'.next.farS _ u (fun b off e => by have := h.f1 b off e; simp; omega), h.at'.gates.farS _ u (fun b off e => by have := h.f2 b off e; simp; omega), h.at'.outs.farS _ u (fun b off e => by have := h.f3 b off e; simp; omega), h.at'.nl, h.at'.gl, h.at'.ol⟩, h.f1, h.f2, h.f3, h.u1, h.u2, h.u3⟩

theorem below_gr {w w' w0 : World} {R : Nat} (h : Below w0.heap.size w0 w) (hg : w.grownBy w' (some R)) (hR : w0.heap.size ≤ R) : Below w0.heap.size w0 w' :=
  h.grown hg h.size (fun k hk => by injection hk; omega)

theorem BytesAt.own {w w' : World} {R n k : Nat} {A : Option Addr} (h : BytesAt w R A n) (hg : w.grownBy w' (some k)) (hne : ∀ b off, A = some ⟨b, off, none⟩ → 0 < n → b ≠ k) : BytesAt w' R A n := fun j hj => by
  obtain ⟨b, off, z, e, hR, hb, hc, h0, h1⟩ := h j hj
  exact ⟨b, off, z, e, hR, Nat.lt_of_lt_of_le hb hg.size, hg.cell hc (by intro x; injection x with x; exact hne b off e (by omega) x), h0, h1⟩
theorem BytesAt.ub {w : World} {R n : Nat} {A : Option Addr} (h : BytesAt w R A n) : ∀ b off, A = some ⟨b, off, none⟩ → 0 < n → b < w.heap.size := fun b off e hn => by
  obtain ⟨b', off', z, e', _, hb, _⟩ := h 0 hn
  rw [e'] at e
  injection e with e
  injection e with e
  omega
theorem bools_z (R : Nat) (bA : Option Addr) (bl bc : Nat) (p : Int) (n : Nat) (z : Int) (w : World) (hz : z = n) (hR : Row w R 83 #[.slice bA bl bc, .int .i64 p]) (hb : BytesAt w R bA bl) (hbl : bl ≤ 2000) (hp0 : 0 ≤ p) (hp1 : p ≤ 90000) (hn : n ≤ 100) :
    Calls Try.prog 41 #[.pointer (some ⟨R, 0, none⟩), .int .i64 z] w (BoolsDrawn w R (.slice bA bl bc) p n) := by
  subst hz
  exact bools_any R bA bl bc p n w hR hb hbl hp0 hp1 hn

set_option maxHeartbeats 2000000 in
theorem drawEv_any (A : Option Addr) (bl bc : Nat) (w : World) (hb : CodeAt w A bl) (hbl : bl ≤ bc) (hbc : bc ≤ maxLen) : Calls Try.prog 9 #[.slice A bl bc] w (DrawEvOut w) := by
  have hc0 : CodeAt (w.alloc (.cells #[.int .i64 0, .slice none 0 0, .slice none 0 0, .slice none 0 0] 26)) A bl := fun k hk => by
    obtain ⟨b, off, z, e, hlt, hc, h0, h1⟩ := hb k hk
    exact ⟨b, off, z, e, by simp; omega, (World.cell?_alloc_lt w _ ⟨b, off + k, none⟩ hlt).trans hc, h0, h1⟩
  have HC0 := Lib.hid hc0
  have HL0 := Lib.hid (show Below w.heap.size w (w.alloc (.cells #[.int .i64 0, .slice none 0 0, .slice none 0 0, .slice none 0 0] 26)) from (Below.refl _ _).alloc (Nat.le_refl _) _)
  have HD0 := Lib.hid (show Row (w.alloc (.cells #[.int .i64 0, .slice none 0 0, .slice none 0 0, .slice none 0 0] 26)) w.heap.size 26 #[.int .i64 0, .slice none 0 0, .slice none 0 0, .slice none 0 0] from heap_alloc_new w _)
  have HBC := Lib.hid hbc
  clear hb hc0 hbc
  obtain ⟨i0, hi0, hz0, hz1, hz2⟩ := info_parts Try.infoB
  have HI0 := Lib.hid hi0
  have HZ0 := Lib.hid hz0
  have HZ1 := Lib.hid hz1
  have HZ2 := Lib.hid hz2
  clear hi0 hz0 hz1 hz2
  go_enter Try.func9, Try.ntmps9
  go_wp2_with fail
  refine (open_any A bl bc _ HC0.out hbl HBC.out).mono ?_
  rintro e w1 ⟨R, bA, bl', bc', rfl, hbl', hR, hrow, hby, hbel⟩
  have hR' : w.heap.size < R := by simp at hR; omega
  have HD1 := Lib.hid (HD0.out.below hbel HD0.out.lt)
  have HL1 := Lib.hid (HL0.out.trans (hbel.mono HL0.out.size))
  have HRW := Lib.hid hrow
  have HBY := Lib.hid hby
  have HCD := Lib.hid hby.ub
  have hRl : R < w1.heap.size := hrow.lt
  clear hrow hby hbel HD0 HL0 HC0 hR
  go_wp2_with fail
  refine (circuit_any R bA bl' bc' 0 12 _ HRW.out HBY.out hbl' (by omega) (by omega) (by omega) (by omega)).mono ?_
  rintro e w2 ⟨i, nA, gA, oA, nc, gc, oc, ns, gs, os, p', rfl, hC, hn, hg, ho, hi0, hi1, hp0, hp1, hrow2, hgr, f1, f2, f3, hcap⟩
  have hgs : w1.heap.size ≤ w2.heap.size := hgr.size
  have HN : Hid (Drn w (w2.alloc (.cells #[.int .i64 i, .slice nA ns.length nc, .slice gA gs.length gc, .slice oA os.length oc] 26)) R w.heap.size w2.heap.size w1.heap.size w2.heap.size (.slice bA bl' bc') p' i nA gA oA nc gc oc ns gs os) := Lib.hid
    ⟨hrow2.alloc _, (HD1.out.grown hgr (by intro x; injection x; omega)).alloc _, heap_alloc_new w2 _, (CircIn.of hC f1 f2 f3).grown (gb_alloc (World.grownBy.refl w2 none) _) (fun k hk => by cases hk), (below_gr HL1.out hgr (Nat.le_of_lt hR')).alloc (below_gr HL1.out hgr (Nat.le_of_lt hR')).size _, Nat.le_refl _, hR', hRl, hgs, Nat.le_refl _⟩
  have HBY2 : Hid (BytesAt (w2.alloc (.cells #[.int .i64 i, .slice nA ns.length nc, .slice gA gs.length gc, .slice oA os.length oc] 26)) R bA bl') := Lib.hid ((HBY.out.grown hgr).grown (gb_alloc (World.grownBy.refl w2 _) _))
  clear hC f1 f2 f3 hgr hrow2 HD1 HL1 HRW HBY hcap
  have q1 := HN.out.cir.cell 1
  go_wp2_with fail
  clear q1
  have hCl := HN.out.cir.lt
  generalize w2.alloc (.cells #[.int .i64 i, .slice nA ns.length nc, .slice gA gs.length gc, .slice oA os.length oc] 26) = w3 at *
  generalize w2.heap.size = C at *
  generalize w1.heap.size = lo at *
  refine (bools_any R bA bl' bc' p' ns.length _ HN.out.row HBY2.out hbl' (by omega) (by omega) (by omega)).mono ?_
  rintro e w4 ⟨g1, c1, st, rfl, hl1, hown1, hrow4, hgr4⟩
  have HN4 := Lib.hid (HN.out.pick hrow4 hgr4)
  have HBY4 := Lib.hid (HBY2.out.grown hgr4)
  have HO1 := Lib.hid hown1
  have HX1 := Lib.hid hl1
  have hg1 : C < g1 := by have := (hown1.lt g1 rfl).1; omega
  have hg1l : g1 < w4.heap.size := (hown1.lt g1 rfl).2
  clear hrow4 hgr4 hown1 hl1 HN HBY2
  generalize w3.heap.size = b1 at *
  have q0 := HN4.out.cir.cell 0
  simp at q0
  obtain ⟨n2, hn2⟩ : ∃ n2 : Nat, (if 0 ≤ i then i else 0) = (n2 : Int) := ⟨(if 0 ≤ i then i else 0).toNat, by split <;> omega⟩
  have hn25 : n2 ≤ 5 := by split at hn2 <;> omega
  have HN2 := Lib.hid hn2
  clear hn2
  go_wp2_with fail
  all_goals
    refine (bools_z R bA bl' bc' _ n2 _ w4 (by have := HN2.out; split at this <;> omega) HN4.out.row HBY4.out hbl' (by omega) (by omega) (by omega)).mono ?_
    rintro e w5 ⟨g2, c2, ins, rfl, hl2, hown2, hrow5, hgr5⟩
    have HN5 := Lib.hid (HN4.out.pick hrow5 hgr5)
    have HBY5 := Lib.hid (HBY4.out.grown hgr5)
    have HO15 := Lib.hid (HO1.out.kept hgr5 (.inr (fun e => own_low HO1.out (by omega) e.symm)))
    have HO25 := Lib.hid hown2
    have HX2 := Lib.hid hl2
    have hg2 : g1 < g2 := by have := (hown2.lt g2 rfl).1; omega
    have hb2 : R < w4.heap.size := HN4.out.row.lt
    have hb1s5 : b1 ≤ w5.heap.size := by have := (HO15.out.lt g1 rfl); omega
    clear hrow5 hgr5 hown2 hl2 HN4 HBY4 HO1 q0
    generalize w4.heap.size = b2 at *
    have hb2s5 : b2 ≤ w5.heap.size := by have := (HO25.out.lt g2 rfl); omega
    go_wp2_with fail
    refine (odd_any R bA bl' bc' _ 9 w5 HN5.out.row HBY5.out hbl' (by omega) (by omega) (by omega) (by omega)).mono ?_
    rintro e w6 ⟨bb6, p6, rfl, hpa6, hpb6, hrow6, hgr6⟩
    have HN6 := Lib.hid (HN5.out.pick hrow6 hgr6)
    have HBY6 := Lib.hid (HBY5.out.grown hgr6)
    have HO16 := Lib.hid (HO15.out.kept hgr6 (.inr (fun e => own_low HO15.out (by omega) e.symm)))
    have HO26 := Lib.hid (HO25.out.kept hgr6 (.inr (fun e => own_low HO25.out (by omega) e.symm)))
    have hb1s6 : b1 ≤ w6.heap.size := Nat.le_trans hb1s5 hgr6.size
    have hb2s6 : b2 ≤ w6.heap.size := Nat.le_trans hb2s5 hgr6.size
    clear hrow6 hgr6 HN5 HBY5 HO15 HO25
    cases bb6
    · skip
      go_wp2_with fail
      refine (odd_any R bA bl' bc' _ 9 w6 HN6.out.row HBY6.out hbl' (by omega) (by omega) (by omega) (by omega)).mono ?_
      rintro e w7 ⟨bb7, p7, rfl, hpa7, hpb7, hrow7, hgr7⟩
      have HN7 := Lib.hid (HN6.out.pick hrow7 hgr7)
      have HBY7 := Lib.hid (HBY6.out.grown hgr7)
      have HO17 := Lib.hid (HO16.out.kept hgr7 (.inr (fun e => own_low HO16.out (by omega) e.symm)))
      have HO27 := Lib.hid (HO26.out.kept hgr7 (.inr (fun e => own_low HO26.out (by omega) e.symm)))
      have hb1s7 : b1 ≤ w7.heap.size := Nat.le_trans hb1s6 hgr7.size
      have hb2s7 : b2 ≤ w7.heap.size := Nat.le_trans hb2s6 hgr7.size
      clear hrow7 hgr7 HN6 HBY6 HO16 HO26
      cases bb7
      · skip
        have q0 := HN7.out.cir.cell 0
        have t0 := HN7.out.res.cell 0
        have f0 := HN7.out.res.frozen 0
        have q1 := HN7.out.cir.cell 1
        have t1 := HN7.out.res.cell 1
        have f1 := HN7.out.res.frozen 1
        have q2 := HN7.out.cir.cell 2
        have t2 := HN7.out.res.cell 2
        have f2 := HN7.out.res.frozen 2
        have q3 := HN7.out.cir.cell 3
        have t3 := HN7.out.res.cell 3
        have f3 := HN7.out.res.frozen 3
        simp at q0 q1 q2 q3 t0 t1 t2 t3
        have hlo := HN7.out.hDR
        have hne : w.heap.size ≠ C := by omega
        go_wp2
        have X1 : BoolsAt w7 w7.heap.size (some ⟨g1, 0, none⟩) st := own_bools HO17.out HX1.out
        have X2 : BoolsAt w7 w7.heap.size (some ⟨g2, 0, none⟩) ins := own_bools HO27.out HX2.out
        refine bodyPost_ret (v := .tuple #[.agg #[.int .i64 i, .slice nA ns.length nc, .slice gA gs.length gc, .slice oA os.length oc], .slice (some ⟨g1, 0, none⟩) ns.length c1, .slice (some ⟨g2, 0, none⟩) n2 c2]) (by simp [results, Try.results9, go_sem, t0, t1, t2, t3]) rfl ⟨i, nA, gA, oA, some ⟨g1, 0, none⟩, some ⟨g2, 0, none⟩, nc, gc, oc, c1, c2, ns, gs, os, st, ins, by rw [HX1.out, HX2.out], ?_, ?_, ?_, hn, hg, ho, hi0, hi1, by rw [HX1.out]; omega, by rw [HX2.out]; omega, ⟨fresh_mono HN7.out.circ.f1 (by omega), fresh_mono HN7.out.circ.f2 (by omega), fresh_mono HN7.out.circ.f3 (by omega), fresh_some (by omega), fresh_some (by omega)⟩, ?_⟩
        · exact ((((HN7.out.circ.farD (j := 0) (by omega) _).farD (j := 1) (by omega) _).farD (j := 2) (by omega) _).farD (j := 3) (by omega) _).at'
        · exact (((X1.farD (j := 0) (by omega) _).farD (j := 1) (by omega) _).farD (j := 2) (by omega) _).farD (j := 3) (by omega) _
        · exact (((X2.farD (j := 0) (by omega) _).farD (j := 1) (by omega) _).farD (j := 2) (by omega) _).farD (j := 3) (by omega) _
        · exact (((HN7.out.bel.setCell (p := ⟨w.heap.size, 0, none⟩) (Nat.le_refl _) _).setCell (p := ⟨w.heap.size, 1, none⟩) (Nat.le_refl _) _).setCell (p := ⟨w.heap.size, 2, none⟩) (Nat.le_refl _) _).setCell (p := ⟨w.heap.size, 3, none⟩) (Nat.le_refl _) _
      · skip
        go_wp2_with (at_builtin; refine wpList_append_kept _ rfl (.tmp 31) (.tmp 32) 27 rfl b2 4 i0 _ 1 1 Try.underlying27 HI0.out HZ0.out HZ1.out HZ2.out rfl (by omega) (.slice (some ⟨g2, 0, none⟩) n2 c2) n2 (bvs ins) rfl (HO27.out.alloc _) ⟨w7.heap.size, 0, none⟩ 1 1 [.bool false] rfl rfl (World.news_of_block (cs := #[.bool false]) (t := 4) (fr := (0, 0)) (heap_alloc_new w7 _)) (by simp [Value.oneCell']) (by omega) (by simp [maxLen]; omega) (by omega) (by simp; omega) _ rfl ?_)
        intro g8x c8x w8 hown8 hgr8 hat8 hltx8 hkept8
        have hgs8 : (w7.alloc (.cells #[.bool false] 4)).grownBy w8 (some g2) := hgr8
        have HN8 := Lib.hid ((HN7.out.alloc _).own hgs8 (by omega))
        have HO18 := Lib.hid ((HO17.out.alloc _).kept hgr8 (.inr (fun e => by simp [Value.ownBlock] at e; omega)))
        have HO28 : Hid (w8.ownsRow b2 4 1 (.slice (some ⟨g8x, 0, none⟩) (n2 + 1) c8x) (n2 + 1) (bvs (ins ++ [false]))) := Lib.hid (by rw [bvs_append]; exact hown8)
        have HXX8 : Hid ((ins ++ [false]).length = n2 + 1) := Lib.hid (by simp [HX2.out])
        have hltg18 := (HO17.out.lt g1 rfl).2
        have hgne8 : g8x ≠ g1 := by
          rcases hat8 with h | h
          · simp [Value.ownBlock] at h; omega
          · first | omega | (simp at h; omega)
        have hgC8 : C < g8x := by have := (hown8.lt g8x rfl).1; omega
        have hb1s8 : b1 ≤ w8.heap.size := by have := hgr8.size; simp at this; omega
        have hb2s8 : b2 ≤ w8.heap.size := by have := hgr8.size; simp at this; omega
        clear hown8 hat8 hltx8 hkept8 HN7 HO27 HO17
        have q0 := HN8.out.cir.cell 0
        have t0 := HN8.out.res.cell 0
        have f0 := HN8.out.res.frozen 0
        have q1 := HN8.out.cir.cell 1
        have t1 := HN8.out.res.cell 1
        have f1 := HN8.out.res.frozen 1
        have q2 := HN8.out.cir.cell 2
        have t2 := HN8.out.res.cell 2
        have f2 := HN8.out.res.frozen 2
        have q3 := HN8.out.cir.cell 3
        have t3 := HN8.out.res.cell 3
        have f3 := HN8.out.res.frozen 3
        simp at q0 q1 q2 q3 t0 t1 t2 t3
        have hlo := HN8.out.hDR
        have hne : w.heap.size ≠ C := by omega
        go_wp2
        have X1 : BoolsAt w8 w8.heap.size (some ⟨g1, 0, none⟩) st := own_bools HO18.out HX1.out
        have X2 : BoolsAt w8 w8.heap.size (some ⟨g8x, 0, none⟩) (ins ++ [false]) := own_bools HO28.out HXX8.out
        refine bodyPost_ret (v := .tuple #[.agg #[.int .i64 i, .slice nA ns.length nc, .slice gA gs.length gc, .slice oA os.length oc], .slice (some ⟨g1, 0, none⟩) ns.length c1, .slice (some ⟨g8x, 0, none⟩) (n2 + 1) c8x]) (by simp [results, Try.results9, go_sem, t0, t1, t2, t3]) rfl ⟨i, nA, gA, oA, some ⟨g1, 0, none⟩, some ⟨g8x, 0, none⟩, nc, gc, oc, c1, c8x, ns, gs, os, st, (ins ++ [false]), by rw [HX1.out, HXX8.out], ?_, ?_, ?_, hn, hg, ho, hi0, hi1, by rw [HX1.out]; omega, by rw [HXX8.out]; omega, ⟨fresh_mono HN8.out.circ.f1 (by omega), fresh_mono HN8.out.circ.f2 (by omega), fresh_mono HN8.out.circ.f3 (by omega), fresh_some (by omega), fresh_some (by omega)⟩, ?_⟩
        · exact ((((HN8.out.circ.farD (j := 0) (by omega) _).farD (j := 1) (by omega) _).farD (j := 2) (by omega) _).farD (j := 3) (by omega) _).at'
        · exact (((X1.farD (j := 0) (by omega) _).farD (j := 1) (by omega) _).farD (j := 2) (by omega) _).farD (j := 3) (by omega) _
        · exact (((X2.farD (j := 0) (by omega) _).farD (j := 1) (by omega) _).farD (j := 2) (by omega) _).farD (j := 3) (by omega) _
        · exact (((HN8.out.bel.setCell (p := ⟨w.heap.size, 0, none⟩) (Nat.le_refl _) _).setCell (p := ⟨w.heap.size, 1, none⟩) (Nat.le_refl _) _).setCell (p := ⟨w.heap.size, 2, none⟩) (Nat.le_refl _) _).setCell (p := ⟨w.heap.size, 3, none⟩) (Nat.le_refl _) _
    · skip
      go_wp2_with (at_builtin; refine wpList_append_kept _ rfl (.tmp 26) (.tmp 27) 27 rfl b1 4 i0 _ 1 1 Try.underlying27 HI0.out HZ0.out HZ1.out HZ2.out rfl (by omega) (.slice (some ⟨g1, 0, none⟩) ns.length c1) ns.length (bvs st) rfl (HO16.out.alloc _) ⟨w6.heap.size, 0, none⟩ 1 1 [.bool true] rfl rfl (World.news_of_block (cs := #[.bool true]) (t := 4) (fr := (0, 0)) (heap_alloc_new w6 _)) (by simp [Value.oneCell']) (by omega) (by simp [maxLen]; omega) (by omega) (by simp; omega) _ rfl ?_)
      intro g7x c7x w7 hown7 hgr7 hat7 hltx7 hkept7
      have hgs7 : (w6.alloc (.cells #[.bool true] 4)).grownBy w7 (some g1) := hgr7
      have HN7 := Lib.hid ((HN6.out.alloc _).own hgs7 (by omega))
      have HO27 := Lib.hid ((HO26.out.alloc _).kept hgr7 (.inr (fun e => by simp [Value.ownBlock] at e; omega)))
      have HO17 : Hid (w7.ownsRow b1 4 1 (.slice (some ⟨g7x, 0, none⟩) (ns.length + 1) c7x) (ns.length + 1) (bvs (st ++ [true]))) := Lib.hid (by rw [bvs_append]; exact hown7)
      have HXX7 : Hid ((st ++ [true]).length = ns.length + 1) := Lib.hid (by simp [HX1.out])
      have hltg27 := (HO26.out.lt g2 rfl).2
      have hgne7 : g7x ≠ g2 := by
        rcases hat7 with h | h
        · simp [Value.ownBlock] at h; omega
        · first | omega | (simp at h; omega)
      have hgC7 : C < g7x := by have := (hown7.lt g7x rfl).1; omega
      have hb1s7 : b1 ≤ w7.heap.size := by have := hgr7.size; simp at this; omega
      have hb2s7 : b2 ≤ w7.heap.size := by have := hgr7.size; simp at this; omega
      clear hown7 hat7 hltx7 hkept7 HN6 HO16 HO26
      have HBY7 := Lib.hid ((HBY6.out.grown (gb_alloc (World.grownBy.refl w6 _) _)).own hgs7 (fun b off e hl => by have := HCD.out b off e hl; omega))
      go_wp2_with fail
      refine (odd_any R bA bl' bc' _ 9 w7 HN7.out.row HBY7.out hbl' (by omega) (by omega) (by omega) (by omega)).mono ?_
      rintro e w8 ⟨bb8, p8, rfl, hpa8, hpb8, hrow8, hgr8⟩
      have HN8 := Lib.hid (HN7.out.pick hrow8 hgr8)
      have HBY8 := Lib.hid (HBY7.out.grown hgr8)
      have HO18 := Lib.hid (HO17.out.kept hgr8 (.inr (fun e => own_low HO17.out (by omega) e.symm)))
      have HO28 := Lib.hid (HO27.out.kept hgr8 (.inr (fun e => own_low HO27.out (by omega) e.symm)))
      have hb1s8 : b1 ≤ w8.heap.size := Nat.le_trans hb1s7 hgr8.size
      have hb2s8 : b2 ≤ w8.heap.size := Nat.le_trans hb2s7 hgr8.size
      clear hrow8 hgr8 HN7 HBY7 HO17 HO27
      cases bb8
      · skip
        have q0 := HN8.out.cir.cell 0
        have t0 := HN8.out.res.cell 0
        have f0 := HN8.out.res.frozen 0
        have q1 := HN8.out.cir.cell 1
        have t1 := HN8.out.res.cell 1
        have f1 := HN8.out.res.frozen 1
        have q2 := HN8.out.cir.cell 2
        have t2 := HN8.out.res.cell 2
        have f2 := HN8.out.res.frozen 2
        have q3 := HN8.out.cir.cell 3
        have t3 := HN8.out.res.cell 3
        have f3 := HN8.out.res.frozen 3
        simp at q0 q1 q2 q3 t0 t1 t2 t3
        have hlo := HN8.out.hDR
        have hne : w.heap.size ≠ C := by omega
        go_wp2
        have X1 : BoolsAt w8 w8.heap.size (some ⟨g7x, 0, none⟩) (st ++ [true]) := own_bools HO18.out HXX7.out
        have X2 : BoolsAt w8 w8.heap.size (some ⟨g2, 0, none⟩) ins := own_bools HO28.out HX2.out
        refine bodyPost_ret (v := .tuple #[.agg #[.int .i64 i, .slice nA ns.length nc, .slice gA gs.length gc, .slice oA os.length oc], .slice (some ⟨g7x, 0, none⟩) (ns.length + 1) c7x, .slice (some ⟨g2, 0, none⟩) n2 c2]) (by simp [results, Try.results9, go_sem, t0, t1, t2, t3]) rfl ⟨i, nA, gA, oA, some ⟨g7x, 0, none⟩, some ⟨g2, 0, none⟩, nc, gc, oc, c7x, c2, ns, gs, os, (st ++ [true]), ins, by rw [HXX7.out, HX2.out], ?_, ?_, ?_, hn, hg, ho, hi0, hi1, by rw [HXX7.out]; omega, by rw [HX2.out]; omega, ⟨fresh_mono HN8.out.circ.f1 (by omega), fresh_mono HN8.out.circ.f2 (by omega), fresh_mono HN8.out.circ.f3 (by omega), fresh_some (by omega), fresh_some (by omega)⟩, ?_⟩
        · exact ((((HN8.out.circ.farD (j := 0) (by omega) _).farD (j := 1) (by omega) _).farD (j := 2) (by omega) _).farD (j := 3) (by omega) _).at'
        · exact (((X1.farD (j := 0) (by omega) _).farD (j := 1) (by omega) _).farD (j := 2) (by omega) _).farD (j := 3) (by omega) _
        · exact (((X2.farD (j := 0) (by omega) _).farD (j := 1) (by omega) _).farD (j := 2) (by omega) _).farD (j := 3) (by omega) _
        · exact (((HN8.out.bel.setCell (p := ⟨w.heap.size, 0, none⟩) (Nat.le_refl _) _).setCell (p := ⟨w.heap.size, 1, none⟩) (Nat.le_refl _) _).setCell (p := ⟨w.heap.size, 2, none⟩) (Nat.le_refl _) _).setCell (p := ⟨w.heap.size, 3, none⟩) (Nat.le_refl _) _
      · skip
        go_wp2_with (at_builtin; refine wpList_append_kept _ rfl (.tmp 31) (.tmp 32) 27 rfl b2 4 i0 _ 1 1 Try.underlying27 HI0.out HZ0.out HZ1.out HZ2.out rfl (by omega) (.slice (some ⟨g2, 0, none⟩) n2 c2) n2 (bvs ins) rfl (HO28.out.alloc _) ⟨w8.heap.size, 0, none⟩ 1 1 [.bool false] rfl rfl (World.news_of_block (cs := #[.bool false]) (t := 4) (fr := (0, 0)) (heap_alloc_new w8 _)) (by simp [Value.oneCell']) (by omega) (by simp [maxLen]; omega) (by omega) (by simp; omega) _ rfl ?_)
        intro g9x c9x w9 hown9 hgr9 hat9 hltx9 hkept9
        have hgs9 : (w8.alloc (.cells #[.bool false] 4)).grownBy w9 (some g2) := hgr9
        have HN9 := Lib.hid ((HN8.out.alloc _).own hgs9 (by omega))
        have HO19 := Lib.hid ((HO18.out.alloc _).kept hgr9 (.inr (fun e => by simp [Value.ownBlock] at e; omega)))
        have HO29 : Hid (w9.ownsRow b2 4 1 (.slice (some ⟨g9x, 0, none⟩) (n2 + 1) c9x) (n2 + 1) (bvs (ins ++ [false]))) := Lib.hid (by rw [bvs_append]; exact hown9)
        have HXX9 : Hid ((ins ++ [false]).length = n2 + 1) := Lib.hid (by simp [HX2.out])
        have hltg19 := (HO18.out.lt g7x rfl).2
        have hgne9 : g9x ≠ g7x := by
          rcases hat9 with h | h
          · simp [Value.ownBlock] at h; omega
          · first | omega | (simp at h; omega)
        have hgC9 : C < g9x := by have := (hown9.lt g9x rfl).1; omega
        have hb1s9 : b1 ≤ w9.heap.size := by have := hgr9.size; simp at this; omega
        have hb2s9 : b2 ≤ w9.heap.size := by have := hgr9.size; simp at this; omega
        clear hown9 hat9 hltx9 hkept9 HN8 HO28 HO18
        have q0 := HN9.out.cir.cell 0
        have t0 := HN9.out.res.cell 0
        have f0 := HN9.out.res.frozen 0
        have q1 := HN9.out.cir.cell 1
        have t1 := HN9.out.res.cell 1
        have f1 := HN9.out.res.frozen 1
        have q2 := HN9.out.cir.cell 2
        have t2 := HN9.out.res.cell 2
        have f2 := HN9.out.res.frozen 2
        have q3 := HN9.out.cir.cell 3
        have t3 := HN9.out.res.cell 3
        have f3 := HN9.out.res.frozen 3
        simp at q0 q1 q2 q3 t0 t1 t2 t3
        have hlo := HN9.out.hDR
        have hne : w.heap.size ≠ C := by omega
        go_wp2
        have X1 : BoolsAt w9 w9.heap.size (some ⟨g7x, 0, none⟩) (st ++ [true]) := own_bools HO19.out HXX7.out
        have X2 : BoolsAt w9 w9.heap.size (some ⟨g9x, 0, none⟩) (ins ++ [false]) := own_bools HO29.out HXX9.out
        refine bodyPost_ret (v := .tuple #[.agg #[.int .i64 i, .slice nA ns.length nc, .slice gA gs.length gc, .slice oA os.length oc], .slice (some ⟨g7x, 0, none⟩) (ns.length + 1) c7x, .slice (some ⟨g9x, 0, none⟩) (n2 + 1) c9x]) (by simp [results, Try.results9, go_sem, t0, t1, t2, t3]) rfl ⟨i, nA, gA, oA, some ⟨g7x, 0, none⟩, some ⟨g9x, 0, none⟩, nc, gc, oc, c7x, c9x, ns, gs, os, (st ++ [true]), (ins ++ [false]), by rw [HXX7.out, HXX9.out], ?_, ?_, ?_, hn, hg, ho, hi0, hi1, by rw [HXX7.out]; omega, by rw [HXX9.out]; omega, ⟨fresh_mono HN9.out.circ.f1 (by omega), fresh_mono HN9.out.circ.f2 (by omega), fresh_mono HN9.out.circ.f3 (by omega), fresh_some (by omega), fresh_some (by omega)⟩, ?_⟩
        · exact ((((HN9.out.circ.farD (j := 0) (by omega) _).farD (j := 1) (by omega) _).farD (j := 2) (by omega) _).farD (j := 3) (by omega) _).at'
        · exact (((X1.farD (j := 0) (by omega) _).farD (j := 1) (by omega) _).farD (j := 2) (by omega) _).farD (j := 3) (by omega) _
        · exact (((X2.farD (j := 0) (by omega) _).farD (j := 1) (by omega) _).farD (j := 2) (by omega) _).farD (j := 3) (by omega) _
        · exact (((HN9.out.bel.setCell (p := ⟨w.heap.size, 0, none⟩) (Nat.le_refl _) _).setCell (p := ⟨w.heap.size, 1, none⟩) (Nat.le_refl _) _).setCell (p := ⟨w.heap.size, 2, none⟩) (Nat.le_refl _) _).setCell (p := ⟨w.heap.size, 3, none⟩) (Nat.le_refl _) _
end Go.Proofs.Ytbhkpjcflghgbaa
