/- The contracts of the test of an assignment and of the set of true variables. -/
import Derived.Test.YtdadokcodklfgaaB1
import Derived.Test.YtdadokcodklfgaaW3
import Derived.Test.YtdadokcodklfgaaK
import Derived.Test.YtdadokcodklfgaaW5
import Derived.Test.YtdadokcodklfgaaB1a
import Derived.Test.YtdadokcodklfgaaW6
namespace Go.Proofs.Ytdadokcodklfgaa
open Go.RowKit Go.Deep

end Go.Proofs.Ytdadokcodklfgaa
/- The contract of the reader of a code: pick answers a number in range and moves its position on. -/
namespace Go.Proofs.Ytdadokcodklfgaa
open Go.RowKit Go.Deep

theorem gb_drew {w w' : World} {row : Option Nat} (h : w.grownBy w' row) : w.grownBy w'.drew row := ⟨h.os, h.tape, h.output, h.size, h.block⟩

def BytesAt (w : World) (R : Nat) (A : Option Addr) (n : Nat) : Prop :=
  ∀ k, k < n → ∃ b off z, A = some ⟨b, off, none⟩ ∧ b ≠ R ∧ b < w.heap.size ∧ w.cell? ⟨b, off + k, none⟩ = some (.int .u8 z) ∧ 0 ≤ z ∧ z ≤ 255

end Go.Proofs.Ytdadokcodklfgaa
/- What is known of the memory while a circuit is drawn, and how each step hands it on. -/
namespace Go.Proofs.Ytdadokcodklfgaa
open Go.RowKit Go.Deep

def gvs : List (Int × Int) → List Value
  | [] => []
  | g :: r => .int .i64 g.1 :: .int .i64 g.2 :: gvs r
theorem gvs_get (gs : List (Int × Int)) (k : Nat) (hk : k < gs.length) : (gvs gs)[k * 2]? = some (.int .i64 (gs.getD k (0, 0)).1) ∧ (gvs gs)[k * 2 + 1]? = some (.int .i64 (gs.getD k (0, 0)).2) := by
  induction gs generalizing k with
  | nil => simp at hk
  | cons g r ih =>
    cases k with
    | zero => simp [gvs]
    | succ k =>
      have h := ih k (by simpa using hk)
      have e1 : (k + 1) * 2 = k * 2 + 1 + 1 := by omega
      rw [e1]
      simpa [gvs] using h
theorem own_low {w : World} {base e size n : Nat} {v : Value} {xs : List Value} (h : w.ownsRow base e size v n xs) {R : Nat} (hR : R < base) : some R ≠ v.ownBlock := by
  intro e1
  have := (h.lt R e1.symm).1
  omega

structure Drawn (w0 wr : World) (R D C base : Nat) (rb : Value) (p i : Int) (vN vG vO : Value) (ns : List Int) (gs : List (Int × Int)) (os : List Int) : Prop where
  row : Row wr R 126 #[rb, .int .i64 p]
  res : Row wr D 108 #[.int .i64 0, .slice none 0 0, .slice none 0 0, .slice none 0 0]
  cir : Row wr C 108 #[.int .i64 i, vN, vG, vO]
  next : wr.ownsRow base 3 1 vN ns.length (ivs ns)
  gates : wr.ownsRow base 174 2 vG gs.length (gvs gs)
  outs : wr.ownsRow base 3 1 vO os.length (ivs os)
  apart : vN.ownBlock = none ∨ vN.ownBlock ≠ vO.ownBlock
  grown : w0.grownBy wr (some R)
  hR : R < w0.heap.size
  hD : w0.heap.size ≤ D
  hDC : D < C
  hC : C < base
  hB : base ≤ wr.heap.size

section
variable {w0 wr : World} {R D C base : Nat} {rb : Value} {p i : Int} {vN vG vO : Value} {ns : List Int} {gs : List (Int × Int)} {os : List Int}

theorem Drawn.pick (h : Drawn w0 wr R D C base rb p i vN vG vO ns gs os) {w' : World} {p' : Int} (hr : Row w' R 126 #[rb, .int .i64 p']) (hg : wr.grownBy w' (some R)) : Drawn w0 w' R D C base rb p' i vN vG vO ns gs os := by
  have h1 := h.hR
  have h2 := h.hD
  have h3 := h.hDC
  have h4 := h.hC
  have hne : ∀ {e size n : Nat} {v : Value} {xs : List Value}, wr.ownsRow base e size v n xs → v.ownBlock = none ∨ v.ownBlock ≠ some R := fun ho => .inr (fun e => own_low ho (by omega) e.symm)
  exact ⟨hr, h.res.grown hg (by intro e; injection e; omega), h.cir.grown hg (by intro e; injection e; omega), h.next.kept hg (hne h.next), h.gates.kept hg (hne h.gates), h.outs.kept hg (hne h.outs), h.apart, h.grown.trans hg, h1, h2, h3, h4, Nat.le_trans h.hB hg.size⟩
theorem Drawn.drew (h : Drawn w0 wr R D C base rb p i vN vG vO ns gs os) : Drawn w0 wr.drew R D C base rb p i vN vG vO ns gs os :=
  ⟨h.row, h.res, h.cir, h.next.drew, h.gates.drew, h.outs.drew, h.apart, gb_drew h.grown, h.hR, h.hD, h.hDC, h.hC, h.hB⟩
theorem gb_alloc {w w' : World} {row : Option Nat} (h : w.grownBy w' row) (o : Obj) : w.grownBy (w'.alloc o) row :=
  ⟨h.os, h.tape, h.output, Nat.le_trans h.size (by simp), fun k hk hne => (Below.heap_alloc w' o k (Nat.lt_of_lt_of_le hk h.size)).trans (h.block k hk hne)⟩
theorem Row.alloc {w : World} {g : Nat} {t : TypeId} {cs : Array Value} (h : Row w g t cs) (o : Obj) : Row (w.alloc o) g t cs := (Below.heap_alloc w o g h.lt).trans h
theorem Drawn.alloc (h : Drawn w0 wr R D C base rb p i vN vG vO ns gs os) (o : Obj) : Drawn w0 (wr.alloc o) R D C base rb p i vN vG vO ns gs os :=
  ⟨h.row.alloc o, h.res.alloc o, h.cir.alloc o, h.next.alloc o, h.gates.alloc o, h.outs.alloc o, h.apart, gb_alloc h.grown o, h.hR, h.hD, h.hDC, h.hC, by have := h.hB; simp; omega⟩
end
end Go.Proofs.Ytdadokcodklfgaa
/- The contracts of odd and of the reader's start. -/
namespace Go.Proofs.Ytdadokcodklfgaa
open Go.RowKit Go.Deep

/-- The bytes that came in: nil, or cells of bytes. -/
def CodeAt (w : World) (A : Option Addr) (n : Nat) : Prop :=
  ∀ k, k < n → ∃ b off z, A = some ⟨b, off, none⟩ ∧ b < w.heap.size ∧ w.cell? ⟨b, off + k, none⟩ = some (.int .u8 z) ∧ 0 ≤ z ∧ z ≤ 255
theorem CodeAt.bytes {w : World} {A : Option Addr} {n m : Nat} (h : CodeAt w A n) (hm : m ≤ n) (o : Obj) : BytesAt (w.alloc o) w.heap.size A m := fun k hk => by
  obtain ⟨b, off, z, e, hb, hc, h0, h1⟩ := h k (by omega)
  exact ⟨b, off, z, e, by omega, by simp; omega, (World.cell?_alloc_lt w o ⟨b, off + k, none⟩ hb).trans hc, h0, h1⟩

theorem BytesAt.grown {w w' : World} {R n : Nat} {A : Option Addr} (h : BytesAt w R A n) (hg : w.grownBy w' (some R)) : BytesAt w' R A n := fun k hk => by
  obtain ⟨b, off, z, e, hne, hb, hc, h0, h1⟩ := h k hk
  exact ⟨b, off, z, e, hne, Nat.lt_of_lt_of_le hb hg.size, hg.cell hc (by intro x; injection x with x; exact hne x), h0, h1⟩

theorem Drawn.start {w0 w1 : World} {R D : Nat} {rb : Value} {p : Int} (hr : Row w1 R 126 #[rb, .int .i64 p]) (hd : Row w1 D 108 #[.int .i64 0, .slice none 0 0, .slice none 0 0, .slice none 0 0]) (hg : w0.grownBy w1 (some R)) (hR : R < w0.heap.size) (hD : w0.heap.size ≤ D) (i : Int) :
    Drawn w0 (w1.alloc (.cells #[.int .i64 i, .slice none 0 0, .slice none 0 0, .slice none 0 0] 108)) R D w1.heap.size (w1.heap.size + 1) rb p i (.slice none 0 0) (.slice none 0 0) (.slice none 0 0) [] [] [] :=
  ⟨hr.alloc _, hd.alloc _, heap_alloc_new w1 _, World.ownsRow_nil _ _ _ _, World.ownsRow_nil _ _ _ _, World.ownsRow_nil _ _ _ _, .inl rfl, gb_alloc hg _, hR, hD, hd.lt, by omega, by simp⟩
end Go.Proofs.Ytdadokcodklfgaa
/- The contracts of EvalVars and Step of the program. -/
namespace Go.Proofs.Ytdadokcodklfgaa
open Go.RowKit Go.Deep

/-- A slice that is nil and empty, or a block of its own from lo on. -/
def BSl (w : World) (lo : Nat) (A : Option Addr) (xs : List Bool) : Prop := (A = none ∧ xs = []) ∨ ∃ g, A = some ⟨g, 0, none⟩ ∧ lo ≤ g ∧ BRow w g xs
theorem BSl.bools {w : World} {lo : Nat} {A : Option Addr} {xs : List Bool} (h : BSl w lo A xs) : BoolsAt w w.heap.size A xs := by
  rcases h with ⟨rfl, rfl⟩ | ⟨g, rfl, _, h⟩
  · exact BoolsAt.nil _ _ _
  · exact h.bools
theorem BSl.on {w w' : World} {lo : Nat} {A : Option Addr} {xs : List Bool} (h : BSl w lo A xs) (hb : Below w.heap.size w w') : BSl w' lo A xs := by
  rcases h with ⟨rfl, rfl⟩ | ⟨g, rfl, hl, h⟩
  · exact .inl ⟨rfl, rfl⟩
  · exact .inr ⟨g, rfl, hl, h.on hb⟩
end Go.Proofs.Ytdadokcodklfgaa
/- The marks on a result. -/
namespace Go.Proofs.Ytdadokcodklfgaa
open Go.RowKit Go.Deep

theorem BSl.mono {w : World} {lo lo' : Nat} {A : Option Addr} {xs : List Bool} (h : BSl w lo A xs) (hl : lo' ≤ lo) : BSl w lo' A xs := by
  rcases h with ⟨rfl, rfl⟩ | ⟨g, rfl, h1, h⟩
  · exact .inl ⟨rfl, rfl⟩
  · exact .inr ⟨g, rfl, by omega, h⟩

theorem markBSl_any (A : Option Addr) (lo n k : Nat) (xs : List Bool) (w : World) (h : BSl w lo A xs) (hx : xs.length = n) (hn : n ≤ 2000000) (hk : k ≤ 1000000000) (hlo : lo ≤ w.heap.size) :
    Calls Try.prog 35 #[.slice A n n, .int .i64 k] w fun e w' => e = .returned (.int .i64 ((k + n : Nat) : Int)) ∧ BSl w' lo A (mk3 k n) ∧ Below lo w w' ∧ Only (A.map Addr.block) w w' := by
  rcases h with ⟨rfl, rfl⟩ | ⟨g, rfl, hl, cs, hr, hf⟩
  · simp at hx
    subst hx
    exact (markB_nil (k : Int) w).mono fun _ _ ⟨he, hw⟩ => by
      subst hw
      exact ⟨he, .inl ⟨rfl, rfl⟩, Below.refl _ _, Only.refl _ _⟩
  · subst hx
    exact (markB_row g xs.length k cs w hr hf.1 hn hk).mono fun _ _ ⟨he, hb, ho⟩ => ⟨he, .inr ⟨g, rfl, hl, hb⟩, ho.below (fun _ e => by injection e; omega) hlo, ho⟩
theorem heldBSl_any (A : Option Addr) (lo n k : Nat) (w : World) (h : BSl w lo A (mk3 k n)) (hn : n ≤ 2000000) (hk : k ≤ 1000000000) :
    Calls Try.prog 82 #[.slice A n n, .int .i64 k] w fun e w' => e = .returned (.int .i64 ((k + n : Nat) : Int)) ∧ w = w' := by
  rcases h with ⟨rfl, h⟩ | ⟨g, rfl, hl, hb⟩
  · have : n = 0 := by have := congrArg List.length h; simpa [mk3_len] using this
    subst this
    exact heldB_nil (k : Int) w
  · exact heldB_row g n k w hb hn hk

end Go.Proofs.Ytdadokcodklfgaa
/- The contracts of the model's values of all variables. -/
namespace Go.Proofs.Ytdadokcodklfgaa
open Go.RowKit Go.Deep

def bvs (xs : List Bool) : List Value := xs.map Value.bool
theorem bvs_get {xs : List Bool} {k : Nat} (hk : k < xs.length) : (bvs xs)[k]? = some (.bool (xs.getD k false)) := by
  simp [bvs, List.getD_eq_getElem?_getD, hk]
theorem bvs_append (a b : List Bool) : bvs (a ++ b) = bvs a ++ bvs b := by simp [bvs]
theorem own_bools {w : World} {base g n cap : Nat} {xs : List Bool} (h : w.ownsRow base 4 1 (.slice (some ⟨g, 0, none⟩) n cap) n (bvs xs)) (hn : xs.length = n) : BoolsAt w w.heap.size (some ⟨g, 0, none⟩) xs := fun k hk => by
  refine ⟨g, 0, rfl, (h.lt g rfl).2, ?_⟩
  rw [Nat.zero_add, h.cellAt k (by omega)]
  exact bvs_get hk

end Go.Proofs.Ytdadokcodklfgaa
/- The contracts of one clock cycle of the program. -/
namespace Go.Proofs.Ytdadokcodklfgaa
open Go.RowKit Go.Deep

theorem BRow.far {w : World} {g : Nat} {xs : List Bool} (h : BRow w g xs) (p : Addr) (u : Value) (hp : g ≠ p.block) : BRow (w.setCell p u) g xs := by
  obtain ⟨cs, hr, hf⟩ := h
  exact ⟨cs, hr.far hp u, hf⟩

/-- Two slices, each nil and empty or a block of its own. -/
structure BPair (w : World) (lo : Nat) (A1 A2 : Option Addr) (xs ys : List Bool) : Prop where
  fst : BSl w lo A1 xs
  snd : BSl w lo A2 ys
  ne : ∀ g, A1 = some ⟨g, 0, none⟩ → A2 ≠ some ⟨g, 0, none⟩
theorem BPair.on {w w' : World} {lo : Nat} {A1 A2 : Option Addr} {xs ys : List Bool} (h : BPair w lo A1 A2 xs ys) (hb : Below w.heap.size w w') : BPair w' lo A1 A2 xs ys := ⟨h.fst.on hb, h.snd.on hb, h.ne⟩
end Go.Proofs.Ytdadokcodklfgaa
/- The contracts of comparison and marks of a clock cycle's result. -/
namespace Go.Proofs.Ytdadokcodklfgaa
open Go.RowKit Go.Deep

/-- The marks on a pair: each list bears its own, numbered on. -/
def Marked (w : World) (lo : Nat) (A1 A2 : Option Addr) (k n m : Nat) : Prop := BPair w lo A1 A2 (mk3 k n) (mk3 (k + n) m)

theorem BSl.only {w w' : World} {lo : Nat} {A : Option Addr} {xs : List Bool} {o : Option Nat} (h : BSl w lo A xs) (ho : Only o w w') (hne : ∀ g, A = some ⟨g, 0, none⟩ → some g ≠ o) : BSl w' lo A xs := by
  rcases h with ⟨rfl, rfl⟩ | ⟨g, rfl, h1, h⟩
  · exact .inl ⟨rfl, rfl⟩
  · exact .inr ⟨g, rfl, h1, ho.brow h (hne g rfl)⟩
theorem BSl.addr {w : World} {lo : Nat} {A : Option Addr} {xs : List Bool} (h : BSl w lo A xs) : A = none ∨ ∃ g, A = some ⟨g, 0, none⟩ := by
  rcases h with ⟨rfl, rfl⟩ | ⟨g, rfl, h1, h⟩
  · exact .inl rfl
  · exact .inr ⟨g, rfl⟩

theorem BSl.lo {w : World} {lo g : Nat} {A : Option Addr} {xs : List Bool} (h : BSl w lo A xs) (hg : A = some ⟨g, 0, none⟩) : lo ≤ g := by
  rcases h with ⟨rfl, _⟩ | ⟨g', rfl, h1, _⟩
  · cases hg
  · injection hg with hg; injection hg with hg; omega
theorem BSl.lt {w : World} {lo g : Nat} {A : Option Addr} {xs : List Bool} (h : BSl w lo A xs) (hg : A = some ⟨g, 0, none⟩) : g < w.heap.size := by
  rcases h with ⟨rfl, _⟩ | ⟨g', rfl, h1, hb⟩
  · cases hg
  · injection hg with hg; injection hg with hg; subst hg; exact hb.lt
theorem BPair.lt {w : World} {lo : Nat} {A1 A2 : Option Addr} {xs ys : List Bool} (h : BPair w lo A1 A2 xs ys) : ∀ g, A1 = some ⟨g, 0, none⟩ ∨ A2 = some ⟨g, 0, none⟩ → g < w.heap.size := fun g hg => by
  rcases hg with hg | hg
  · exact h.fst.lt hg
  · exact h.snd.lt hg
end Go.Proofs.Ytdadokcodklfgaa
/- The contracts of tables of truth values: copy, size, comparison, marks. -/
namespace Go.Proofs.Ytdadokcodklfgaa
open Go.RowKit Go.Deep

def RowsAt (w : World) (B : Nat) (A : Option Addr) (rs : List (List Bool)) : Prop :=
  ∀ k, k < rs.length → ∃ b off, A = some ⟨b, off, none⟩ ∧ b < B ∧ ∃ (A' : Option Addr) (cap : Nat), w.cell? ⟨b, off + k, none⟩ = some (.slice A' (rs.getD k []).length cap) ∧ BoolsAt w B A' (rs.getD k [])
theorem RowsAt.below {w w' : World} {B : Nat} {A : Option Addr} {rs : List (List Bool)} (h : RowsAt w B A rs) (hb : Below B w w') : RowsAt w' B A rs := fun k hk => by
  obtain ⟨b, off, e, hlt, A', cap, hc, hx⟩ := h k hk
  exact ⟨b, off, e, hlt, A', cap, (hb.cell (p := ⟨b, off + k, none⟩) hlt).trans hc, hx.below hb⟩
theorem RowsAt.mono {w : World} {B B' : Nat} {A : Option Addr} {rs : List (List Bool)} (h : RowsAt w B A rs) (hb : B ≤ B') : RowsAt w B' A rs := fun k hk => by
  obtain ⟨b, off, e, hlt, A', cap, hc, hx⟩ := h k hk
  exact ⟨b, off, e, by omega, A', cap, hc, hx.mono hb⟩
theorem RowsAt.on {w w' : World} {A : Option Addr} {rs : List (List Bool)} (h : RowsAt w w.heap.size A rs) (hb : Below w.heap.size w w') : RowsAt w' w'.heap.size A rs := (h.below hb).mono hb.size
theorem RowsAt.nil (w : World) (B : Nat) (A : Option Addr) : RowsAt w B A [] := fun k hk => absurd hk (by simp)

/-- The first k rows of a table in a block of its own, each in a block of its own. -/
structure RPart (w : World) (g : Nat) (cs : Array Value) (bs : List Nat) (rs : List (List Bool)) (k : Nat) : Prop where
  row : Row w g 45 cs
  size : cs.size = rs.length
  len : bs.length = k
  cell : ∀ j, j < k → cs[j]? = some (.slice (some ⟨bs.getD j 0, 0, none⟩) (rs.getD j []).length (rs.getD j []).length)
  brow : ∀ j, j < k → BRow w (bs.getD j 0) (rs.getD j [])
  gt : ∀ j, j < k → g < bs.getD j 0
  inc : ∀ j l, j < l → l < k → bs.getD j 0 < bs.getD l 0
theorem RPart.on {w w' : World} {g k : Nat} {cs : Array Value} {bs : List Nat} {rs : List (List Bool)} (h : RPart w g cs bs rs k) (hb : Below w.heap.size w w') : RPart w' g cs bs rs k :=
  ⟨h.row.below hb h.row.lt, h.size, h.len, h.cell, fun j hj => (h.brow j hj).on hb, h.gt, h.inc⟩
theorem getD_snoc_lt {bs : List Nat} {z j : Nat} (h : j < bs.length) : (bs ++ [z]).getD j 0 = bs.getD j 0 := by
  simp [List.getD_eq_getElem?_getD, List.getElem?_append_left h]
theorem getD_snoc_eq (bs : List Nat) (z : Nat) : (bs ++ [z]).getD bs.length 0 = z := by
  simp [List.getD_eq_getElem?_getD]
theorem BRow.farR {w : World} {g : Nat} {xs : List Bool} (h : BRow w g xs) {p : Addr} (u : Value) (hp : g ≠ p.block) : BRow (w.setCell p u) g xs := by
  obtain ⟨cs, hr, hf⟩ := h
  exact ⟨cs, hr.far hp u, hf⟩
theorem RPart.step {w : World} {g k z : Nat} {cs : Array Value} {bs : List Nat} {rs : List (List Bool)} (h : RPart w g cs bs rs k) (hk : k < rs.length) (hz : BRow w z (rs.getD k [])) (hg : g < z) (hb : ∀ j, j < k → bs.getD j 0 < z) :
    RPart (w.setCell ⟨g, k, none⟩ (.slice (some ⟨z, 0, none⟩) (rs.getD k []).length (rs.getD k []).length)) g (cs.setIfInBounds k (.slice (some ⟨z, 0, none⟩) (rs.getD k []).length (rs.getD k []).length)) (bs ++ [z]) rs (k + 1) := by
  have hl := h.len
  refine ⟨h.row.set k _, by simpa using h.size, by simp [hl], fun j hj => ?_, fun j hj => ?_, fun j hj => ?_, fun j l hj hlk => ?_⟩
  · by_cases e : j = k
    · subst e
      rw [← hl, getD_snoc_eq, hl]
      simp [h.size, hk]
    · rw [getD_snoc_lt (by omega), Array.getElem?_setIfInBounds_ne (by omega)]
      exact h.cell j (by omega)
  · by_cases e : j = k
    · subst e
      rw [← hl, getD_snoc_eq, hl]
      exact hz.farR _ (by show z ≠ g; omega)
    · rw [getD_snoc_lt (by omega)]
      exact (h.brow j (by omega)).farR _ (by have := h.gt j (by omega); show bs.getD j 0 ≠ g; omega)
  · by_cases e : j = k
    · subst e
      rw [← hl, getD_snoc_eq]
      exact hg
    · rw [getD_snoc_lt (by omega)]
      exact h.gt j (by omega)
  · by_cases e : l = k
    · subst e
      rw [getD_snoc_lt (by omega), ← hl, getD_snoc_eq]
      exact hb j (by omega)
    · rw [getD_snoc_lt (by omega), getD_snoc_lt (by omega)]
      exact h.inc j l hj (by omega)
/-- A whole table. -/
def RRow (w : World) (g : Nat) (rs : List (List Bool)) : Prop := ∃ cs bs, RPart w g cs bs rs rs.length
theorem RRow.on {w w' : World} {g : Nat} {rs : List (List Bool)} (h : RRow w g rs) (hb : Below w.heap.size w w') : RRow w' g rs := by
  obtain ⟨cs, bs, h⟩ := h
  exact ⟨cs, bs, h.on hb⟩
theorem RRow.lt {w : World} {g : Nat} {rs : List (List Bool)} (h : RRow w g rs) : g < w.heap.size := by
  obtain ⟨cs, bs, h⟩ := h
  exact h.row.lt
theorem RRow.rows {w : World} {g : Nat} {rs : List (List Bool)} (h : RRow w g rs) : RowsAt w w.heap.size (some ⟨g, 0, none⟩) rs := by
  obtain ⟨cs, bs, h⟩ := h
  exact fun k hk => ⟨g, 0, rfl, h.row.lt, some ⟨bs.getD k 0, 0, none⟩, _, by rw [Nat.zero_add, h.row.cell]; exact h.cell k hk, (h.brow k hk).bools⟩

/-- The sum of a number and of the lengths of the first rows. -/
def offs (K : Nat) (rs : List (List Bool)) : Nat → Nat
  | 0 => K
  | j + 1 => offs K rs j + (rs.getD j []).length
end Go.Proofs.Ytdadokcodklfgaa
/- The contracts of size and marks of tables of truth values. -/
namespace Go.Proofs.Ytdadokcodklfgaa
open Go.RowKit Go.Deep

set_option maxHeartbeats 400000 in
theorem szBoolS_ok (A : Option Addr) (n cap : Nat) (l : Int) (w : World) (h : (n : Int) ≤ l) (h1 : l ≤ 1048576) :
    Calls Try.prog 70 #[.slice A n cap, .int .i64 l] w fun e w' => e = .returned (.int .i64 (l - n)) ∧ w = w' := by
  go_enter Try.func70, Try.ntmps70
  go_wp2
  go_ret
  exact ⟨rfl, rfl⟩
set_option maxHeartbeats 400000 in
theorem szBoolS_no (A : Option Addr) (n cap : Nat) (l : Int) (w : World) (h : l < (n : Int)) (h0 : 0 ≤ l) (h1 : l ≤ 1048576) (hn : n ≤ maxLen) :
    Calls Try.prog 70 #[.slice A n cap, .int .i64 l] w fun e w' => e = .returned (.int .i64 (-1)) ∧ w = w' := by
  unfold maxLen at hn
  go_enter Try.func70, Try.ntmps70
  go_wp2
  go_ret
  exact ⟨rfl, rfl⟩

/-- The table whose rows bear marks, numbered on from K. -/
def MRow (w : World) (g : Nat) (cs : Array Value) (bs : List Nat) (rs : List (List Bool)) (K : Nat) : Prop :=
  Row w g 45 cs ∧ (∀ j, j < rs.length → cs[j]? = some (.slice (some ⟨bs.getD j 0, 0, none⟩) (rs.getD j []).length (rs.getD j []).length)) ∧ (∀ j, j < rs.length → BRow w (bs.getD j 0) (mk3 (offs K rs j) (rs.getD j []).length))
theorem MRow.on {w w' : World} {g K : Nat} {cs : Array Value} {bs : List Nat} {rs : List (List Bool)} (h : MRow w g cs bs rs K) (hb : Below w.heap.size w w') : MRow w' g cs bs rs K :=
  ⟨h.1.below hb h.1.lt, h.2.1, fun j hj => (h.2.2 j hj).on hb⟩

end Go.Proofs.Ytdadokcodklfgaa
