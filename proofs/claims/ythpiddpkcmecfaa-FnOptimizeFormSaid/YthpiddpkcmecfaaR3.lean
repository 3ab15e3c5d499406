/- The contracts of odd and of the reader's start. -/
import Derived.Test.YthpiddpkcmecfaaR2
namespace Go.Proofs.Ythpiddpkcmecfaa
open Go.RowKit Go.Deep

def OddOut (w : World) (R : Nat) (rb : Value) (p : Int) (e : Ending) (w' : World) : Prop :=
  ∃ (b : Bool) (p' : Int), e = .returned (.bool b) ∧ p ≤ p' ∧ p' ≤ p + 1 ∧ Row w' R 90 #[rb, .int .i64 p'] ∧ w.grownBy w' (some R)

set_option maxHeartbeats 400000 in
theorem odd_any (R : Nat) (bA : Option Addr) (bl bc : Nat) (p n : Int) (w : World) (hR : Row w R 90 #[.slice bA bl bc, .int .i64 p]) (hb : BytesAt w R bA bl) (hbl : bl ≤ 2000) (hp0 : 0 ≤ p) (hp1 : p ≤ 100000) (hn0 : -1000000 ≤ n) (hn1 : n ≤ 1000000) :
    Calls Try.prog 83 #[.pointer (some ⟨R, 0, none⟩), .int .i64 n] w (OddOut w R (.slice bA bl bc) p) := by
  have HR := Lib.hid hR
  have HB := Lib.hid hb
  clear hR hb
  by_cases hn : 0 < n
  · go_enter Try.func83, Try.ntmps83
    go_wp2_with fail
    refine (pick_any R bA bl bc p n _ HR.out HB.out hbl hp0 hp1 hn0 hn1).mono ?_
    rintro e w1 ⟨v, rfl, hv0, hv1, hr1, hg1⟩
    have HR1 := Lib.hid hr1
    have HG1 := Lib.hid hg1
    clear hr1 hg1
    go_wp2
    go_ret
    exact ⟨_, p + 1, rfl, by omega, by omega, HR1.out, HG1.out⟩
  · go_enter Try.func83, Try.ntmps83
    go_wp2
    go_ret
    exact ⟨_, p, rfl, by omega, by omega, HR.out, World.grownBy.refl w _⟩

def OpenOut (w : World) (e : Ending) (w' : World) : Prop :=
  ∃ (R : Nat) (A : Option Addr) (bl bc : Nat), e = .returned (.pointer (some ⟨R, 0, none⟩)) ∧ bl ≤ 2000 ∧ w.heap.size ≤ R ∧ Row w' R 90 #[.slice A bl bc, .int .i64 0] ∧ BytesAt w' R A bl ∧ Below w.heap.size w w'

/-- The bytes that came in: nil, or cells of bytes. -/
def CodeAt (w : World) (A : Option Addr) (n : Nat) : Prop :=
  ∀ k, k < n → ∃ b off z, A = some ⟨b, off, none⟩ ∧ b < w.heap.size ∧ w.cell? ⟨b, off + k, none⟩ = some (.int .u8 z) ∧ 0 ≤ z ∧ z ≤ 255
theorem CodeAt.bytes {w : World} {A : Option Addr} {n m : Nat} (h : CodeAt w A n) (hm : m ≤ n) (o : Obj) : BytesAt (w.alloc o) w.heap.size A m := fun k hk => by
  obtain ⟨b, off, z, e, hb, hc, h0, h1⟩ := h k (by omega)
  exact ⟨b, off, z, e, by omega, by simp; omega, (World.cell?_alloc_lt w o ⟨b, off + k, none⟩ hb).trans hc, h0, h1⟩

set_option maxHeartbeats 400000 in
theorem open_any (A : Option Addr) (bl bc : Nat) (w : World) (hb : CodeAt w A bl) (hbl : bl ≤ bc) (hbc : bc ≤ maxLen) : Calls Try.prog 45 #[.slice A bl bc] w (OpenOut w) := by
  have HB := Lib.hid hb
  clear hb
  unfold maxLen at hbc
  by_cases h : 2000 < bl
  · obtain ⟨b, off, z, rfl, _⟩ := HB.out 0 (by omega)
    go_enter Try.func45, Try.ntmps45
    go_wp2
    go_ret
    exact ⟨_, _, 2000, bc, rfl, by omega, Nat.le_refl _, heap_alloc_new w _, HB.out.bytes (by omega) _, (Below.refl _ _).alloc (Nat.le_refl _) _⟩
  · go_enter Try.func45, Try.ntmps45
    go_wp2
    go_ret
    exact ⟨_, _, _, _, rfl, by omega, Nat.le_refl _, heap_alloc_new w _, HB.out.bytes (Nat.le_refl _) _, (Below.refl _ _).alloc (Nat.le_refl _) _⟩

theorem BytesAt.grown {w w' : World} {R n : Nat} {A : Option Addr} (h : BytesAt w R A n) (hg : w.grownBy w' (some R)) : BytesAt w' R A n := fun k hk => by
  obtain ⟨b, off, z, e, hne, hb, hc, h0, h1⟩ := h k hk
  exact ⟨b, off, z, e, hne, Nat.lt_of_lt_of_le hb hg.size, hg.cell hc (by intro x; injection x with x; exact hne x), h0, h1⟩

def PickD (w0 : World) (R D C base : Nat) (rb : Value) (p i : Int) (vN vG vO : Value) (ns : List Int) (gs : List (Int × Int)) (os : List Int) (n : Int) (e : Ending) (w' : World) : Prop :=
  ∃ v : Int, e = .returned (.int .i64 v) ∧ 0 ≤ v ∧ v < n ∧ Drawn w0 w' R D C base rb (p + 1) i vN vG vO ns gs os
def PickE (w0 : World) (R D C base : Nat) (rb : Value) (p i : Int) (vN vG vO : Value) (ns : List Int) (gs : List (Int × Int)) (os : List Int) (n : Int) (w : World) (e : Ending) (w' : World) : Prop :=
  ∃ v : Int, e = .returned (.int .i64 v) ∧ 0 ≤ v ∧ v < n ∧ Drawn w0 w' R D C base rb (p + 1) i vN vG vO ns gs os ∧ w.grownBy w' (some R)
theorem pickD {w0 : World} {R D C base bl bc : Nat} {bA : Option Addr} {p i : Int} {vN vG vO : Value} {ns : List Int} {gs : List (Int × Int)} {os : List Int} (n : Int) (w : World) (h : Drawn w0 w R D C base (.slice bA bl bc) p i vN vG vO ns gs os)
    (hb : BytesAt w0 R bA bl) (hbl : bl ≤ 2000) (hp0 : 0 ≤ p) (hp1 : p ≤ 100000) (hn0 : 1 ≤ n) (hn1 : n ≤ 1000000) :
    Calls Try.prog 82 #[.pointer (some ⟨R, 0, none⟩), .int .i64 n] w (PickD w0 R D C base (.slice bA bl bc) p i vN vG vO ns gs os n) :=
  (pick_any R bA bl bc p n w h.row (hb.grown h.grown) hbl hp0 hp1 (by omega) hn1).mono fun _ _ ⟨v, he, h0, h1, hr, hg⟩ => ⟨v, he, h0, by omega, h.pick hr hg⟩

theorem pickE {w0 : World} {R D C base bl bc : Nat} {bA : Option Addr} {p i : Int} {vN vG vO : Value} {ns : List Int} {gs : List (Int × Int)} {os : List Int} (n : Int) (w : World) (h : Drawn w0 w R D C base (.slice bA bl bc) p i vN vG vO ns gs os)
    (hb : BytesAt w0 R bA bl) (hbl : bl ≤ 2000) (hp0 : 0 ≤ p) (hp1 : p ≤ 100000) (hn0 : 1 ≤ n) (hn1 : n ≤ 1000000) :
    Calls Try.prog 82 #[.pointer (some ⟨R, 0, none⟩), .int .i64 n] w (PickE w0 R D C base (.slice bA bl bc) p i vN vG vO ns gs os n w) :=
  (pick_any R bA bl bc p n w h.row (hb.grown h.grown) hbl hp0 hp1 (by omega) hn1).mono fun _ _ ⟨v, he, h0, h1, hr, hg⟩ => ⟨v, he, h0, by omega, h.pick hr hg, hg⟩
theorem two_at (x y v : Int) (h0 : 0 ≤ v) (h1 : v < 2) : ∃ u : Int, (#[Value.int .i64 x, .int .i64 y] : Array Value)[v.toNat]? = some (.int .i64 u) ∧ (u = x ∨ u = y) := by
  rcases (by omega : v = 0 ∨ v = 1) with rfl | rfl
  · exact ⟨x, rfl, .inl rfl⟩
  · exact ⟨y, rfl, .inr rfl⟩

theorem Drawn.start {w0 w1 : World} {R D : Nat} {rb : Value} {p : Int} (hr : Row w1 R 90 #[rb, .int .i64 p]) (hd : Row w1 D 26 #[.int .i64 0, .slice none 0 0, .slice none 0 0, .slice none 0 0]) (hg : w0.grownBy w1 (some R)) (hR : R < w0.heap.size) (hD : w0.heap.size ≤ D) (i : Int) :
    Drawn w0 (w1.alloc (.cells #[.int .i64 i, .slice none 0 0, .slice none 0 0, .slice none 0 0] 26)) R D w1.heap.size (w1.heap.size + 1) rb p i (.slice none 0 0) (.slice none 0 0) (.slice none 0 0) [] [] [] :=
  ⟨hr.alloc _, hd.alloc _, heap_alloc_new w1 _, World.ownsRow_nil _ _ _ _, World.ownsRow_nil _ _ _ _, World.ownsRow_nil _ _ _ _, .inl rfl, gb_alloc hg _, hR, hD, hd.lt, by omega, by simp⟩
/-- A slice that is not nil lies in a block from B on. -/
def FreshA (B : Nat) (A : Option Addr) : Prop := ∀ b off, A = some ⟨b, off, none⟩ → B ≤ b

def CircDrawn (w : World) (R : Nat) (rb : Value) (p : Int) (e : Ending) (w' : World) : Prop :=
  ∃ (i : Int) (nA gA oA : Option Addr) (nc gc oc : Nat) (ns : List Int) (gs : List (Int × Int)) (os : List Int) (p' : Int),
    e = .returned (.agg #[.int .i64 i, .slice nA ns.length nc, .slice gA gs.length gc, .slice oA os.length oc]) ∧ CircAt w' w'.heap.size nA gA oA ns gs os ∧ ns.length ≤ 10 ∧ gs.length ≤ 20 ∧ os.length ≤ 10 ∧ -5 ≤ i ∧ i ≤ 5 ∧
    p ≤ p' ∧ p' ≤ p + 200 ∧ Row w' R 90 #[rb, .int .i64 p'] ∧ w.grownBy w' (some R) ∧ FreshA w.heap.size nA ∧ FreshA w.heap.size gA ∧ FreshA w.heap.size oA ∧ gs.length ≤ gc

theorem Drawn.fin {w wr : World} {R D C base : Nat} {rb : Value} {p q i : Int} {nA gA oA : Option Addr} {nc gc oc : Nat} {ns : List Int} {gs : List (Int × Int)} {os : List Int}
    (h : Drawn w wr R D C base rb q i (.slice nA ns.length nc) (.slice gA gs.length gc) (.slice oA os.length oc) ns gs os) (h1 : ns.length ≤ 10) (h2 : gs.length ≤ 20) (h3 : os.length ≤ 10) (h4 : -5 ≤ i) (h5 : i ≤ 5) (h6 : p ≤ q) (h7 : q ≤ p + 200) :
    CircDrawn w R rb p (.returned (.agg #[.int .i64 i, .slice nA ns.length nc, .slice gA gs.length gc, .slice oA os.length oc]))
      ((((wr.setCell ⟨D, 0, none⟩ (.int .i64 i)).setCell ⟨D, 1, none⟩ (.slice nA ns.length nc)).setCell ⟨D, 2, none⟩ (.slice gA gs.length gc)).setCell ⟨D, 3, none⟩ (.slice oA os.length oc)) := by
  have a1 := h.hR
  have a2 := h.hD
  have a3 := h.hDC
  have a4 := h.hC
  have hDb : D < base := by omega
  obtain ⟨A1, c1, e1, i1, j1⟩ := own_intsAt (own_setC (own_setC (own_setC (own_setC h.next hDb 0 (.int .i64 i)) hDb 1 (.slice nA ns.length nc)) hDb 2 (.slice gA gs.length gc)) hDb 3 (.slice oA os.length oc))
  obtain ⟨A2, c2, e2, i2, j2, k2⟩ := own_gatesAt (own_setC (own_setC (own_setC (own_setC h.gates hDb 0 (.int .i64 i)) hDb 1 (.slice nA ns.length nc)) hDb 2 (.slice gA gs.length gc)) hDb 3 (.slice oA os.length oc))
  obtain ⟨A3, c3, e3, i3, j3⟩ := own_intsAt (own_setC (own_setC (own_setC (own_setC h.outs hDb 0 (.int .i64 i)) hDb 1 (.slice nA ns.length nc)) hDb 2 (.slice gA gs.length gc)) hDb 3 (.slice oA os.length oc))
  injection e1 with e1 _ _
  injection e2 with e2 _ e2c
  injection e3 with e3 _ _
  subst e1 e2 e3 e2c
  refine ⟨i, _, _, _, _, _, _, ns, gs, os, q, rfl, ⟨i1, i2, i3, by simp [maxLen]; omega, by simp [maxLen]; omega, by simp [maxLen]; omega⟩, h1, h2, h3, h4, h5, h6, h7, ?_, ?_, (fun b off e => by have := j1 b off e; omega), (fun b off e => by have := j2 b off e; omega), (fun b off e => by have := j3 b off e; omega), k2⟩
  · exact (((h.row.far (by simp; omega) _).far (by simp; omega) _).far (by simp; omega) _).far (by simp; omega) _
  · exact gb_setNew (gb_setNew (gb_setNew (gb_setNew h.grown a2 0 _) a2 1 _) a2 2 _) a2 3 _
end Go.Proofs.Ythpiddpkcmecfaa
