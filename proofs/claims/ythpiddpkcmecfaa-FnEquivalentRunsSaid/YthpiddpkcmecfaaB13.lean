/- The contract of the draw of a circuit with a state and inputs. -/
import Derived.Test.YthpiddpkcmecfaaB12
namespace Go.Proofs.Ythpiddpkcmecfaa
open Go.RowKit Go.Deep

/-- Memory while a state and inputs are drawn: the reader, the result's box, the circuit and its box. -/
structure Drn (w0 wr : World) (R D C lo hi : Nat) (rb : Value) (p i : Int) (nA gA oA : Option Addr) (nc gc oc : Nat) (ns : List Int) (gs : List (Int × Int)) (os : List Int) : Prop where
  row : Row wr R 90 #[rb, .int .i64 p]
  res : Row wr D 26 #[.int .i64 0, .slice none 0 0, .slice none 0 0, .slice none 0 0]
  cir : Row wr C 26 #[.int .i64 i, .slice nA ns.length nc, .slice gA gs.length gc, .slice oA os.length oc]
  circ : CircIn wr lo hi nA gA oA ns gs os
  bel : Below w0.heap.size w0 wr
  hD : w0.heap.size ≤ D
  hDR : D < R
  hRl : R < lo
  hlh : lo ≤ hi
  hhC : hi ≤ C

section
variable {w0 wr w' : World} {R D C lo hi : Nat} {rb : Value} {p p' i : Int} {nA gA oA : Option Addr} {nc gc oc : Nat} {ns : List Int} {gs : List (Int × Int)} {os : List Int}
theorem Drn.pick (h : Drn w0 wr R D C lo hi rb p i nA gA oA nc gc oc ns gs os) (hr : Row w' R 90 #[rb, .int .i64 p']) (hg : wr.grownBy w' (some R)) : Drn w0 w' R D C lo hi rb p' i nA gA oA nc gc oc ns gs os := by
  have h1 := h.hD
  have h2 := h.hDR
  have h3 := h.hRl
  have h4 := h.hlh
  have h5 := h.hhC
  exact ⟨hr, h.res.grown hg (by intro e; injection e; omega), h.cir.grown hg (by intro e; injection e; omega), h.circ.grown hg (fun k hk => by injection hk; omega), h.bel.grown hg h.bel.size (fun k hk => by injection hk; omega), h1, h2, h3, h4, h5⟩
theorem Drn.own (h : Drn w0 wr R D C lo hi rb p i nA gA oA nc gc oc ns gs os) {k : Nat} (hg : wr.grownBy w' (some k)) (hk : C < k) : Drn w0 w' R D C lo hi rb p i nA gA oA nc gc oc ns gs os := by
  have h1 := h.hD
  have h2 := h.hDR
  have h3 := h.hRl
  have h4 := h.hlh
  have h5 := h.hhC
  exact ⟨h.row.grown hg (by intro e; injection e; omega), h.res.grown hg (by intro e; injection e; omega), h.cir.grown hg (by intro e; injection e; omega), h.circ.grown hg (fun k hk => by injection hk; omega), h.bel.grown hg h.bel.size (fun k hk => by injection hk; omega), h1, h2, h3, h4, h5⟩
theorem Drn.alloc (h : Drn w0 wr R D C lo hi rb p i nA gA oA nc gc oc ns gs os) (o : Obj) : Drn w0 (wr.alloc o) R D C lo hi rb p i nA gA oA nc gc oc ns gs os :=
  ⟨h.row.alloc o, h.res.alloc o, h.cir.alloc o, h.circ.grown (gb_alloc (World.grownBy.refl wr none) o) (fun k hk => by cases hk), h.bel.alloc h.bel.size o, h.hD, h.hDR, h.hRl, h.hlh, h.hhC⟩
end

theorem BoolsAt.farD {w : World} {g D j : Nat} {xs : List Bool} (h : BoolsAt w w.heap.size (some ⟨g, 0, none⟩) xs) (hg : D < g) (u : Value) : BoolsAt (w.setCell ⟨D, j, none⟩ u) (w.setCell ⟨D, j, none⟩ u).heap.size (some ⟨g, 0, none⟩) xs := fun k hk => by
  obtain ⟨b, off, e, hlt, hc⟩ := h k hk
  exact ⟨b, off, e, by rw [size_setCell]; exact hlt, (World.cell?_of_block (Below.heap_setCell w _ u b (ne_of_some e (by simp; omega)))).trans hc⟩
theorem CircIn.farD {w : World} {lo hi D j : Nat} {nA gA oA : Option Addr} {ns : List Int} {gs : List (Int × Int)} {os : List Int} (h : CircIn w lo hi nA gA oA ns gs os) (hD : D < lo) (u : Value) : CircIn (w.setCell ⟨D, j, none⟩ u) lo hi nA gA oA ns gs os :=
  ⟨⟨h.at'.next.farS _ u (fun b off e => by have := h.f1 b off e; simp; omega), h.at'.gates.farS _ u (fun b off e => by have := h.f2 b off e; simp; omega), h.at'.outs.farS _ u (fun b off e => by have := h.f3 b off e; simp; omega), h.at'.nl, h.at'.gl, h.at'.ol⟩, h.f1, h.f2, h.f3, h.u1, h.u2, h.u3⟩

theorem below_gr {w w' w0 : World} {R : Nat} (h : Below w0.heap.size w0 w) (hg : w.grownBy w' (some R)) (hR : w0.heap.size ≤ R) : Below w0.heap.size w0 w' :=
  h.grown hg h.size (fun k hk => by injection hk; omega)

theorem BytesAt.own {w w' : World} {R n k : Nat} {A : Option Addr} (h : BytesAt w R A n) (hg : w.grownBy w' (some k)) (hne : ∀ b off, A = some ⟨b, off, none⟩ → 0 < n → b ≠ k) : BytesAt w' R A n := fun j hj => by
  obtain ⟨b, off, z, e, hR, hb, hc, h0, h1⟩ := h j hj
  exact ⟨b, off, z, e, hR, Nat.lt_of_lt_of_le hb hg.size, hg.cell hc (by intro x; injection x with x; exact hne b off e (by omega) x), h0, h1⟩
theorem BytesAt.ub {w : World} {R n : Nat} {A : Option Addr} (h : BytesAt w R A n) : ∀ b off, A = some ⟨b, off, none⟩ → 0 < n → b < w.heap.size := fun b off e hn => by
  obtain ⟨b', off', z, e', _, hb, _⟩ := h 0 hn
  rw [e'] at e
  injection e with e
  injection e with e
  omega
theorem bools_z (R : Nat) (bA : Option Addr) (bl bc : Nat) (p : Int) (n : Nat) (z : Int) (w : World) (hz : z = n) (hR : Row w R 90 #[.slice bA bl bc, .int .i64 p]) (hb : BytesAt w R bA bl) (hbl : bl ≤ 2000) (hp0 : 0 ≤ p) (hp1 : p ≤ 90000) (hn : n ≤ 100) :
    Calls Try.prog 84 #[.pointer (some ⟨R, 0, none⟩), .int .i64 z] w (BoolsDrawn w R (.slice bA bl bc) p n) := by
  subst hz
  exact bools_any R bA bl bc p n w hR hb hbl hp0 hp1 hn

end Go.Proofs.Ythpiddpkcmecfaa
