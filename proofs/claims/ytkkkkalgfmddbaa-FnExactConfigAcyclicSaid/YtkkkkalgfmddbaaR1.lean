/- The contract of the reader of a code: pick answers a number in range and moves its position on. -/
import Derived.Test.YtkkkkalgfmddbaaW3
import Derived.Test.YtkkkkalgfmddbaaK
import Derived.Test.YtkkkkalgfmddbaaW5
namespace Go.Proofs.Ytkkkkalgfmddbaa
open Go.RowKit Go.Deep

theorem gb_set {w w' : World} {R : Nat} (h : w.grownBy w' (some R)) (j : Nat) (u : Value) : w.grownBy (w'.setCell ⟨R, j, none⟩ u) (some R) :=
  ⟨h.os, h.tape, h.output, by simpa [World.setCell] using h.size, fun k hk hne => (Below.heap_setCell w' ⟨R, j, none⟩ u k (by rintro rfl; exact hne rfl)).trans (h.block k hk hne)⟩
theorem gb_drewN {w w' : World} {row : Option Nat} (h : w.grownBy w' row) (n : Nat) : w.grownBy (w'.drewN n) row := ⟨h.os, h.tape, h.output, h.size, h.block⟩
theorem gb_drew {w w' : World} {row : Option Nat} (h : w.grownBy w' row) : w.grownBy w'.drew row := ⟨h.os, h.tape, h.output, h.size, h.block⟩

def BytesAt (w : World) (R : Nat) (A : Option Addr) (n : Nat) : Prop :=
  ∀ k, k < n → ∃ b off z, A = some ⟨b, off, none⟩ ∧ b ≠ R ∧ b < w.heap.size ∧ w.cell? ⟨b, off + k, none⟩ = some (.int .u8 z) ∧ 0 ≤ z ∧ z ≤ 255

def PickOut (w : World) (R : Nat) (rb : Value) (p n : Int) (e : Ending) (w' : World) : Prop :=
  ∃ v : Int, e = .returned (.int .i64 v) ∧ 0 ≤ v ∧ (v < n ∨ n < 1 ∧ v = 0) ∧ Row w' R 133 #[rb, .int .i64 (p + 1)] ∧ w.grownBy w' (some R)

theorem pick_end {w w' : World} {R : Nat} {rb : Value} {p n v : Int} (hv : 0 ≤ v) (hn : v < n ∨ n < 1 ∧ v = 0) (hR : Row w' R 133 #[rb, .int .i64 (p + 1)]) (hg : w.grownBy w' (some R)) : PickOut w R rb p n (.returned (.int .i64 v)) w' :=
  ⟨v, rfl, hv, hn, hR, hg⟩

theorem ofInt64 (a : Nat) (ha : a < 9223372036854775808) : (BitVec.ofInt 64 (a : Int)).toNat = a := by
  rw [BitVec.ofInt_natCast, BitVec.toNat_ofNat]; exact Nat.mod_eq_of_lt (by omega)
theorem xor64 (a b : Nat) (ha : a < 9223372036854775808) (hb : b < 9223372036854775808) : bits .xor .i64 (a : Int) (b : Int) = ((a ^^^ b : Nat) : Int) := by
  have hx : a ^^^ b < 2 ^ 63 := Nat.xor_lt_two_pow (by omega) (by omega)
  show IntKind.i64.wrap ((BitVec.ofInt 64 (a : Int) ^^^ BitVec.ofInt 64 (b : Int)).toNat : Int) = _
  rw [BitVec.toNat_xor, ofInt64 a ha, ofInt64 b hb, IntKind.wrap_i64]
  omega
theorem xor_some (x : Int) (h0 : 0 ≤ x) (h1 : x ≤ 1000000000) : ∃ y : Nat, bits .xor .i64 x (x / 64) = (y : Int) ∧ y < 2 ^ 62 := by
  obtain ⟨a, rfl⟩ := Int.eq_ofNat_of_zero_le h0
  refine ⟨a ^^^ (a / 64), ?_, Nat.xor_lt_two_pow (by omega) (by omega)⟩
  rw [show ((a : Int) / 64) = ((a / 64 : Nat) : Int) from by omega]
  exact xor64 a (a / 64) (by omega) (by omega)

set_option maxHeartbeats 800000 in
theorem pick_any (R : Nat) (bA : Option Addr) (bl bc : Nat) (p n : Int) (w : World) (hR : Row w R 133 #[.slice bA bl bc, .int .i64 p]) (hb : BytesAt w R bA bl) (hbl : bl ≤ 2000) (hp0 : 0 ≤ p) (hp1 : p ≤ 100000) (hn0 : -1000000 ≤ n) (hn1 : n ≤ 1000000) :
    Calls Try.prog 66 #[.pointer (some ⟨R, 0, none⟩), .int .i64 n] w (PickOut w R (.slice bA bl bc) p n) := by
  have HB := Lib.hid hb
  have q0 := hR.cell 0
  have q1 := hR.cell 1
  have f1 := hR.frozen 1
  simp at q0 q1
  have HR1 := Lib.hid (hR.set 1 (.int .i64 (p + 1)))
  simp at HR1
  have HG1 := Lib.hid (gb_set (World.grownBy.refl w (some R)) 1 (.int .i64 (p + 1)))
  clear hR hb
  by_cases hn : n < 1
  · go_enter Try.func66, Try.ntmps66
    go_wp2
    go_ret
    exact pick_end (by omega) (.inr ⟨hn, rfl⟩) HR1.out HG1.out
  · by_cases hl : bl = 0
    · subst hl
      go_enter Try.func66, Try.ntmps66
      go_wp2
      go_ret
      exact pick_end (by omega) (.inl (by omega)) HR1.out HG1.out
    · have hl0 : ((bl : Int) == 0) = false := by simp; omega
      obtain ⟨k, rfl⟩ := Int.eq_ofNat_of_zero_le hp0
      by_cases hk : k < bl
      · obtain ⟨b, off, z, rfl, hbR, hbw, hc, hz0, hz1⟩ := HB.out k hk
        have hc' : (w.setCell ⟨R, 1, none⟩ (.int .i64 ((k : Int) + 1))).cell? ⟨b, off + k, none⟩ = some (.int .u8 z) := (World.cell?_of_block (Below.heap_setCell w ⟨R, 1, none⟩ _ b hbR)).trans hc
        clear hc
        go_enter Try.func66, Try.ntmps66
        go_wp2
        go_ret
        exact pick_end (Int.emod_nonneg _ (by omega)) (.inl (Int.emod_lt_of_pos _ (by omega))) HR1.out HG1.out
      · have hm1 : k % bl < bl := Nat.mod_lt _ (by omega)
        have hm2 : (k * 7 + 3) % bl < bl := Nat.mod_lt _ (by omega)
        obtain ⟨b, off, z, rfl, hbR, hbw, hc, hz0, hz1⟩ := HB.out (k % bl) hm1
        obtain ⟨b2, off2, z2, he2, _, _, hd, hy0, hy1⟩ := HB.out ((k * 7 + 3) % bl) hm2
        injection he2 with he2
        injection he2 with e1 e2
        subst e1 e2
        have hc' : (w.setCell ⟨R, 1, none⟩ (.int .i64 ((k : Int) + 1))).cell? ⟨b, off + k % bl, none⟩ = some (.int .u8 z) := (World.cell?_of_block (Below.heap_setCell w ⟨R, 1, none⟩ _ b hbR)).trans hc
        have hd' : (w.setCell ⟨R, 1, none⟩ (.int .i64 ((k : Int) + 1))).cell? ⟨b, off + (k * 7 + 3) % bl, none⟩ = some (.int .u8 z2) := (World.cell?_of_block (Below.heap_setCell w ⟨R, 1, none⟩ _ b hbR)).trans hd
        clear hc hd
        have c0 := HR1.out.cell 0
        simp at c0
        go_enter Try.func66, Try.ntmps66
        go_wp2
        have m1 : (k : Int).tmod (bl : Int) = ((k % bl : Nat) : Int) := by rw [Int.tmod_eq_emod_of_nonneg (by omega)]; omega
        have m2 : ((k : Int) * 7 + 3).tmod (bl : Int) = (((k * 7 + 3) % bl : Nat) : Int) := by rw [Int.tmod_eq_emod_of_nonneg (by omega), show ((k : Int) * 7 + 3) = ((k * 7 + 3 : Nat) : Int) from by omega]; rfl
        have m3 : (k : Int).tdiv (bl : Int) = ((k / bl : Nat) : Int) := by rw [Int.tdiv_eq_ediv_of_nonneg (by omega)]; omega
        have hdd : k / bl ≤ k := Nat.div_le_self _ _
        generalize k % bl = qa at *
        generalize (k * 7 + 3) % bl = qb at *
        generalize k / bl = dd at *
        have hk100 : k ≤ 100000 := by omega
        have b1 : (0 : Int) ≤ (qa : Int) := by omega
        have b2 : (qa : Int) < (bl : Int) := by omega
        have b3 : (0 : Int) ≤ (qb : Int) := by omega
        have b4 : (qb : Int) < (bl : Int) := by omega
        have s0 : IntKind.i64.wrap (qa : Int) = qa := IntWalk.i64_in _ (by omega)
        have s1 : IntKind.i64.wrap (qb : Int) = qb := IntWalk.i64_in _ (by omega)
        have s2 : IntKind.i64.wrap z = z := IntWalk.i64_in _ (by omega)
        have s3 : IntKind.i64.wrap z2 = z2 := IntWalk.i64_in _ (by omega)
        have s4 : IntKind.i64.wrap (z * 131) = z * 131 := IntWalk.i64_in _ (by omega)
        have s5 : IntKind.i64.wrap (z2 * 1117) = z2 * 1117 := IntWalk.i64_in _ (by omega)
        have s6 : IntKind.i64.wrap ((k : Int) * 7) = (k : Int) * 7 := IntWalk.i64_in _ (by omega)
        have s7 : IntKind.i64.wrap ((k : Int) * 7 + 3) = (k : Int) * 7 + 3 := IntWalk.i64_in _ (by omega)
        have s8 : IntKind.i64.wrap (z * 131 + z2 * 1117) = z * 131 + z2 * 1117 := IntWalk.i64_in _ (by omega)
        have s9 : IntKind.i64.wrap ((k : Int) * 29) = (k : Int) * 29 := IntWalk.i64_in _ (by omega)
        have s10 : IntKind.i64.wrap (z * 131 + z2 * 1117 + (k : Int) * 29) = z * 131 + z2 * 1117 + (k : Int) * 29 := IntWalk.i64_in _ (by omega)
        have s11 : IntKind.i64.wrap (dd : Int) = dd := IntWalk.i64_in _ (by omega)
        have s12 : IntKind.i64.wrap ((dd : Int) * 53) = (dd : Int) * 53 := IntWalk.i64_in _ (by omega)
        have s13 : IntKind.i64.wrap (z * 131 + z2 * 1117 + (k : Int) * 29 + (dd : Int) * 53) = z * 131 + z2 * 1117 + (k : Int) * 29 + (dd : Int) * 53 := IntWalk.i64_in _ (by omega)
        generalize hw5 : w.setCell ⟨R, 1, none⟩ (.int .i64 ((k : Int) + 1)) = w5 at *
        clear hw5 q0 q1 f1
        go_quiet (fail)
        obtain ⟨x, hx, hx0, hx1⟩ : ∃ x : Int, z * 131 + z2 * 1117 + (k : Int) * 29 + (dd : Int) * 53 = x ∧ 0 ≤ x ∧ x ≤ 1000000000 := ⟨_, rfl, by omega, by omega⟩
        clear s0 s1 s2 s3 s4 s5 s6 s7 s8 s9 s10 s11 s12 s13 m1 m2 m3 b1 b2 b3 b4
        rw [hx]
        clear hx hc' hd' c0 hl0
        obtain ⟨y, hy, hy2⟩ := xor_some x hx0 hx1
        go_wp2
        go_ret
        exact pick_end (Int.emod_nonneg _ (by omega)) (.inl (Int.emod_lt_of_pos _ (by omega))) HR1.out (gb_drewN HG1.out _)
end Go.Proofs.Ytkkkkalgfmddbaa
/- What is known of the memory while a circuit is drawn, and how each step hands it on. -/
namespace Go.Proofs.Ytkkkkalgfmddbaa
open Go.RowKit Go.Deep

def gvs : List (Int × Int) → List Value
  | [] => []
  | g :: r => .int .i64 g.1 :: .int .i64 g.2 :: gvs r
theorem gvs_len (gs : List (Int × Int)) : (gvs gs).length = gs.length * 2 := by
  induction gs with
  | nil => rfl
  | cons g r ih => simp [gvs, ih]; omega
theorem gvs_append (a b : List (Int × Int)) : gvs (a ++ b) = gvs a ++ gvs b := by
  induction a with
  | nil => rfl
  | cons g r ih => simp [gvs, ih]
theorem gvs_get (gs : List (Int × Int)) (k : Nat) (hk : k < gs.length) : (gvs gs)[k * 2]? = some (.int .i64 (gs.getD k (0, 0)).1) ∧ (gvs gs)[k * 2 + 1]? = some (.int .i64 (gs.getD k (0, 0)).2) := by
  induction gs generalizing k with
  | nil => simp at hk
  | cons g r ih =>
    cases k with
    | zero => simp [gvs]
    | succ k =>
      have h := ih k (by simpa using hk)
      have e1 : (k + 1) * 2 = k * 2 + 1 + 1 := by omega
      rw [e1]
      simpa [gvs] using h
theorem gvs_one (gs : List (Int × Int)) : ∀ u ∈ gvs gs, u.oneCell' = true := by
  induction gs with
  | nil => simp [gvs]
  | cons g r ih =>
    intro u hu
    simp only [gvs, List.mem_cons] at hu
    rcases hu with rfl | rfl | hu
    · rfl
    · rfl
    · exact ih u hu
theorem ivs_append (a b : List Int) : ivs (a ++ b) = ivs a ++ ivs b := by simp [ivs]

theorem own_intsAt {w : World} {base : Nat} {v : Value} {xs : List Int} (h : w.ownsRow base 3 1 v xs.length (ivs xs)) : ∃ (A : Option Addr) (cap : Nat), v = .slice A xs.length cap ∧ IntsAt w w.heap.size A xs ∧ (∀ b off, A = some ⟨b, off, none⟩ → base ≤ b) := by
  rcases h.2 with ⟨rfl, h0⟩ | ⟨g, cap, cur, rfl, hb, _⟩
  · have : xs = [] := List.eq_nil_of_length_eq_zero h0
    subst this
    exact ⟨none, 0, rfl, fun k hk => absurd hk (by simp), fun _ _ h => by cases h⟩
  · exact ⟨_, cap, rfl, own_ints h rfl, fun b off e => by injection e with e; injection e with e1; omega⟩
theorem own_gatesAt {w : World} {base : Nat} {v : Value} {gs : List (Int × Int)} (h : w.ownsRow base 180 2 v gs.length (gvs gs)) : ∃ (A : Option Addr) (cap : Nat), v = .slice A gs.length cap ∧ GatesAt w w.heap.size A gs ∧ (∀ b off, A = some ⟨b, off, none⟩ → base ≤ b) ∧ gs.length ≤ cap := by
  rcases h.2 with ⟨rfl, h0⟩ | ⟨g, cap, cur, rfl, hb, _, hcap, _⟩
  · have : gs = [] := List.eq_nil_of_length_eq_zero h0
    subst this
    exact ⟨none, 0, rfl, fun k hk => absurd hk (by simp), (fun _ _ h => by cases h), by simp⟩
  · refine ⟨_, cap, rfl, fun k hk => ⟨g, 0, rfl, (h.lt g rfl).2, ?_, ?_⟩, (fun b off e => by injection e with e; injection e with e1; omega), hcap⟩
    · rw [Nat.zero_add, h.cellAt (k * 2) (by omega)]; exact (gvs_get gs k hk).1
    · rw [Nat.zero_add, h.cellAt (k * 2 + 1) (by omega)]; exact (gvs_get gs k hk).2

/-- Rows of different element types do not share a block. -/
theorem own_ne {w : World} {base e e' size size' n n' : Nat} {v v' : Value} {xs xs' : List Value} (h : w.ownsRow base e size v n xs) (h' : w.ownsRow base e' size' v' n' xs') (hne : e ≠ e') : v.ownBlock = none ∨ v.ownBlock ≠ v'.ownBlock := by
  rcases h.2 with ⟨rfl, _⟩ | ⟨g, cap, cur, rfl, _, hg, _⟩
  · exact .inl rfl
  · right
    rcases h'.2 with ⟨rfl, _⟩ | ⟨g', cap', cur', rfl, _, hg', _⟩
    · simp [Value.ownBlock]
    · intro e1
      have : g = g' := by simpa [Value.ownBlock] using e1
      subst this
      rw [hg] at hg'
      injection hg' with hg'
      injection hg' with _ ht
      exact hne ht
theorem own_low {w : World} {base e size n : Nat} {v : Value} {xs : List Value} (h : w.ownsRow base e size v n xs) {R : Nat} (hR : R < base) : some R ≠ v.ownBlock := by
  intro e1
  have := (h.lt R e1.symm).1
  omega

structure Drawn (w0 wr : World) (R D C base : Nat) (rb : Value) (p i : Int) (vN vG vO : Value) (ns : List Int) (gs : List (Int × Int)) (os : List Int) : Prop where
  row : Row wr R 133 #[rb, .int .i64 p]
  res : Row wr D 108 #[.int .i64 0, .slice none 0 0, .slice none 0 0, .slice none 0 0]
  cir : Row wr C 108 #[.int .i64 i, vN, vG, vO]
  next : wr.ownsRow base 3 1 vN ns.length (ivs ns)
  gates : wr.ownsRow base 180 2 vG gs.length (gvs gs)
  outs : wr.ownsRow base 3 1 vO os.length (ivs os)
  apart : vN.ownBlock = none ∨ vN.ownBlock ≠ vO.ownBlock
  grown : w0.grownBy wr (some R)
  hR : R < w0.heap.size
  hD : w0.heap.size ≤ D
  hDC : D < C
  hC : C < base
  hB : base ≤ wr.heap.size

section
variable {w0 wr : World} {R D C base : Nat} {rb : Value} {p i : Int} {vN vG vO : Value} {ns : List Int} {gs : List (Int × Int)} {os : List Int}

theorem Drawn.pick (h : Drawn w0 wr R D C base rb p i vN vG vO ns gs os) {w' : World} {p' : Int} (hr : Row w' R 133 #[rb, .int .i64 p']) (hg : wr.grownBy w' (some R)) : Drawn w0 w' R D C base rb p' i vN vG vO ns gs os := by
  have h1 := h.hR
  have h2 := h.hD
  have h3 := h.hDC
  have h4 := h.hC
  have hne : ∀ {e size n : Nat} {v : Value} {xs : List Value}, wr.ownsRow base e size v n xs → v.ownBlock = none ∨ v.ownBlock ≠ some R := fun ho => .inr (fun e => own_low ho (by omega) e.symm)
  exact ⟨hr, h.res.grown hg (by intro e; injection e; omega), h.cir.grown hg (by intro e; injection e; omega), h.next.kept hg (hne h.next), h.gates.kept hg (hne h.gates), h.outs.kept hg (hne h.outs), h.apart, h.grown.trans hg, h1, h2, h3, h4, Nat.le_trans h.hB hg.size⟩
theorem Drawn.drew (h : Drawn w0 wr R D C base rb p i vN vG vO ns gs os) : Drawn w0 wr.drew R D C base rb p i vN vG vO ns gs os :=
  ⟨h.row, h.res, h.cir, h.next.drew, h.gates.drew, h.outs.drew, h.apart, gb_drew h.grown, h.hR, h.hD, h.hDC, h.hC, h.hB⟩
theorem gb_alloc {w w' : World} {row : Option Nat} (h : w.grownBy w' row) (o : Obj) : w.grownBy (w'.alloc o) row :=
  ⟨h.os, h.tape, h.output, Nat.le_trans h.size (by simp), fun k hk hne => (Below.heap_alloc w' o k (Nat.lt_of_lt_of_le hk h.size)).trans (h.block k hk hne)⟩
theorem Row.alloc {w : World} {g : Nat} {t : TypeId} {cs : Array Value} (h : Row w g t cs) (o : Obj) : Row (w.alloc o) g t cs := (Below.heap_alloc w o g h.lt).trans h
theorem Drawn.alloc (h : Drawn w0 wr R D C base rb p i vN vG vO ns gs os) (o : Obj) : Drawn w0 (wr.alloc o) R D C base rb p i vN vG vO ns gs os :=
  ⟨h.row.alloc o, h.res.alloc o, h.cir.alloc o, h.next.alloc o, h.gates.alloc o, h.outs.alloc o, h.apart, gb_alloc h.grown o, h.hR, h.hD, h.hDC, h.hC, by have := h.hB; simp; omega⟩
theorem own_setC {w : World} {e size n : Nat} {v : Value} {xs : List Value} (h : w.ownsRow base e size v n xs) (hC : C < base) (j : Nat) (u : Value) : (w.setCell ⟨C, j, none⟩ u).ownsRow base e size v n xs :=
  ownsRow_setCell_below h (a := ⟨C, j, none⟩) hC u
theorem gb_setNew {w w' : World} {row : Option Nat} (h : w.grownBy w' row) {g : Nat} (hg : w.heap.size ≤ g) (j : Nat) (u : Value) : w.grownBy (w'.setCell ⟨g, j, none⟩ u) row :=
  ⟨h.os, h.tape, h.output, by simpa [World.setCell] using h.size, fun k hk hne => (Below.heap_setCell w' ⟨g, j, none⟩ u k (by simp; omega)).trans (h.block k hk hne)⟩
theorem Drawn.setI (h : Drawn w0 wr R D C base rb p i vN vG vO ns gs os) (i' : Int) : Drawn w0 (wr.setCell ⟨C, 0, none⟩ (.int .i64 i')) R D C base rb p i' vN vG vO ns gs os := by
  have h1 := h.hR
  have h2 := h.hD
  have h3 := h.hDC
  have h4 := h.hC
  have hc := h.cir.set 0 (.int .i64 i')
  simp at hc
  exact ⟨h.row.far (by simp; omega) _, h.res.far (by simp; omega) _, hc, own_setC h.next h4 0 _, own_setC h.gates h4 0 _, own_setC h.outs h4 0 _, h.apart, gb_setNew h.grown (by omega) 0 _, h1, h2, h3, h4, by simpa [World.setCell] using h.hB⟩
/-- What an append has grown is a row of the call's own: everything else stays. -/
theorem gb_own {w w' : World} {row : Option Nat} (h : w0.grownBy w (some R)) (hg : w.grownBy w' row) (hrow : ∀ k, row = some k → w0.heap.size ≤ k) : w0.grownBy w' (some R) :=
  ⟨hg.os.trans h.os, hg.tape.trans h.tape, hg.output.trans h.output, Nat.le_trans h.size hg.size, fun k hk hne => (hg.block k (Nat.lt_of_lt_of_le hk h.size) (fun e => by have := hrow k e.symm; omega)).trans (h.block k hk hne)⟩
theorem Drawn.appG (h : Drawn w0 wr R D C base rb p i vN vG vO ns gs os) {w' : World} {g cap : Nat} {more : List (Int × Int)} (ho : w'.ownsRow base 180 2 (.slice (some ⟨g, 0, none⟩) (gs.length + more.length) cap) (gs.length + more.length) (gvs gs ++ gvs more)) (hg : wr.grownBy w' vG.ownBlock) :
    Drawn w0 (w'.setCell ⟨C, 2, none⟩ (.slice (some ⟨g, 0, none⟩) (gs.length + more.length) cap)) R D C base rb p i vN (.slice (some ⟨g, 0, none⟩) (gs.length + more.length) cap) vO ns (gs ++ more) os := by
  have h1 := h.hR
  have h2 := h.hD
  have h3 := h.hDC
  have h4 := h.hC
  have hc := (h.cir.grown hg (own_low h.gates h4)).set 2 (.slice (some ⟨g, 0, none⟩) (gs.length + more.length) cap)
  simp at hc
  refine ⟨(h.row.grown hg (own_low h.gates (by omega))).far (by simp; omega) _, (h.res.grown hg (own_low h.gates (by omega))).far (by simp; omega) _, hc, own_setC (h.next.kept hg (own_ne h.next h.gates (by decide))) h4 2 _, ?_, own_setC (h.outs.kept hg (own_ne h.outs h.gates (by decide))) h4 2 _, h.apart,
    gb_setNew (gb_own h.grown hg (fun k hk => by have := (h.gates.lt k hk).1; omega)) (by omega) 2 _, h1, h2, h3, h4, ?_⟩
  · rw [List.length_append, gvs_append]; exact own_setC ho h4 2 _
  · have := h.hB; have := hg.size; simp [World.setCell]; omega
theorem Drawn.appN (h : Drawn w0 wr R D C base rb p i vN vG vO ns gs os) {w' : World} {g cap : Nat} {more : List Int} (ho : w'.ownsRow base 3 1 (.slice (some ⟨g, 0, none⟩) (ns.length + more.length) cap) (ns.length + more.length) (ivs ns ++ ivs more)) (hg : wr.grownBy w' vN.ownBlock) (hat : vN.ownBlock = some g ∨ g = wr.heap.size) :
    Drawn w0 (w'.setCell ⟨C, 1, none⟩ (.slice (some ⟨g, 0, none⟩) (ns.length + more.length) cap)) R D C base rb p i (.slice (some ⟨g, 0, none⟩) (ns.length + more.length) cap) vG vO (ns ++ more) gs os := by
  have h1 := h.hR
  have h2 := h.hD
  have h3 := h.hDC
  have h4 := h.hC
  have hc := (h.cir.grown hg (own_low h.next h4)).set 1 (.slice (some ⟨g, 0, none⟩) (ns.length + more.length) cap)
  simp at hc
  have hap : vO.ownBlock = none ∨ vO.ownBlock ≠ vN.ownBlock := by
    rcases h.apart with e | e
    · rw [e]; cases vO.ownBlock <;> simp
    · exact .inr (fun x => e x.symm)
  refine ⟨(h.row.grown hg (own_low h.next (by omega))).far (by simp; omega) _, (h.res.grown hg (own_low h.next (by omega))).far (by simp; omega) _, hc, ?_, own_setC (h.gates.kept hg (own_ne h.gates h.next (by decide))) h4 1 _, own_setC (h.outs.kept hg hap) h4 1 _, ?_,
    gb_setNew (gb_own h.grown hg (fun k hk => by have := (h.next.lt k hk).1; omega)) (by omega) 1 _, h1, h2, h3, h4, ?_⟩
  · rw [List.length_append, ivs_append]; exact own_setC ho h4 1 _
  · right
    show some g ≠ vO.ownBlock
    rcases hat with e | e
    · rw [← e]
      rcases hap with x | x
      · rw [x, e]; simp
      · exact fun y => x y.symm
    · intro x
      have := (h.outs.lt g x.symm).2
      omega
  · have := h.hB; have := hg.size; simp [World.setCell]; omega
theorem Drawn.appO (h : Drawn w0 wr R D C base rb p i vN vG vO ns gs os) {w' : World} {g cap : Nat} {more : List Int} (ho : w'.ownsRow base 3 1 (.slice (some ⟨g, 0, none⟩) (os.length + more.length) cap) (os.length + more.length) (ivs os ++ ivs more)) (hg : wr.grownBy w' vO.ownBlock) (hat : vO.ownBlock = some g ∨ g = wr.heap.size) :
    Drawn w0 (w'.setCell ⟨C, 3, none⟩ (.slice (some ⟨g, 0, none⟩) (os.length + more.length) cap)) R D C base rb p i vN vG (.slice (some ⟨g, 0, none⟩) (os.length + more.length) cap) ns gs (os ++ more) := by
  have h1 := h.hR
  have h2 := h.hD
  have h3 := h.hDC
  have h4 := h.hC
  have hc := (h.cir.grown hg (own_low h.outs h4)).set 3 (.slice (some ⟨g, 0, none⟩) (os.length + more.length) cap)
  simp at hc
  refine ⟨(h.row.grown hg (own_low h.outs (by omega))).far (by simp; omega) _, (h.res.grown hg (own_low h.outs (by omega))).far (by simp; omega) _, hc, own_setC (h.next.kept hg h.apart) h4 3 _, own_setC (h.gates.kept hg (own_ne h.gates h.outs (by decide))) h4 3 _, ?_, ?_,
    gb_setNew (gb_own h.grown hg (fun k hk => by have := (h.outs.lt k hk).1; omega)) (by omega) 3 _, h1, h2, h3, h4, ?_⟩
  · rw [List.length_append, ivs_append]; exact own_setC ho h4 3 _
  · rcases h.apart with e | e
    · exact .inl e
    · right
      show vN.ownBlock ≠ some g
      rcases hat with x | x
      · rw [← x]; exact e
      · intro y
        have := (h.next.lt g y).2
        omega
  · have := h.hB; have := hg.size; simp [World.setCell]; omega
end
end Go.Proofs.Ytkkkkalgfmddbaa
/- The contracts of odd and of the reader's start. -/
namespace Go.Proofs.Ytkkkkalgfmddbaa
open Go.RowKit Go.Deep

def OddOut (w : World) (R : Nat) (rb : Value) (p : Int) (e : Ending) (w' : World) : Prop :=
  ∃ (b : Bool) (p' : Int), e = .returned (.bool b) ∧ p ≤ p' ∧ p' ≤ p + 1 ∧ Row w' R 133 #[rb, .int .i64 p'] ∧ w.grownBy w' (some R)

set_option maxHeartbeats 400000 in
theorem odd_any (R : Nat) (bA : Option Addr) (bl bc : Nat) (p n : Int) (w : World) (hR : Row w R 133 #[.slice bA bl bc, .int .i64 p]) (hb : BytesAt w R bA bl) (hbl : bl ≤ 2000) (hp0 : 0 ≤ p) (hp1 : p ≤ 100000) (hn0 : -1000000 ≤ n) (hn1 : n ≤ 1000000) :
    Calls Try.prog 100 #[.pointer (some ⟨R, 0, none⟩), .int .i64 n] w (OddOut w R (.slice bA bl bc) p) := by
  have HR := Lib.hid hR
  have HB := Lib.hid hb
  clear hR hb
  by_cases hn : 0 < n
  · go_enter Try.func100, Try.ntmps100
    go_wp2_with fail
    refine (pick_any R bA bl bc p n _ HR.out HB.out hbl hp0 hp1 hn0 hn1).mono ?_
    rintro e w1 ⟨v, rfl, hv0, hv1, hr1, hg1⟩
    have HR1 := Lib.hid hr1
    have HG1 := Lib.hid hg1
    clear hr1 hg1
    go_wp2
    go_ret
    exact ⟨_, p + 1, rfl, by omega, by omega, HR1.out, HG1.out⟩
  · go_enter Try.func100, Try.ntmps100
    go_wp2
    go_ret
    exact ⟨_, p, rfl, by omega, by omega, HR.out, World.grownBy.refl w _⟩

def OpenOut (w : World) (e : Ending) (w' : World) : Prop :=
  ∃ (R : Nat) (A : Option Addr) (bl bc : Nat), e = .returned (.pointer (some ⟨R, 0, none⟩)) ∧ bl ≤ 2000 ∧ w.heap.size ≤ R ∧ Row w' R 133 #[.slice A bl bc, .int .i64 0] ∧ BytesAt w' R A bl ∧ Below w.heap.size w w'

/-- The bytes that came in: nil, or cells of bytes. -/
def CodeAt (w : World) (A : Option Addr) (n : Nat) : Prop :=
  ∀ k, k < n → ∃ b off z, A = some ⟨b, off, none⟩ ∧ b < w.heap.size ∧ w.cell? ⟨b, off + k, none⟩ = some (.int .u8 z) ∧ 0 ≤ z ∧ z ≤ 255
theorem CodeAt.bytes {w : World} {A : Option Addr} {n m : Nat} (h : CodeAt w A n) (hm : m ≤ n) (o : Obj) : BytesAt (w.alloc o) w.heap.size A m := fun k hk => by
  obtain ⟨b, off, z, e, hb, hc, h0, h1⟩ := h k (by omega)
  exact ⟨b, off, z, e, by omega, by simp; omega, (World.cell?_alloc_lt w o ⟨b, off + k, none⟩ hb).trans hc, h0, h1⟩

set_option maxHeartbeats 400000 in
theorem open_any (A : Option Addr) (bl bc : Nat) (w : World) (hb : CodeAt w A bl) (hbl : bl ≤ bc) (hbc : bc ≤ maxLen) : Calls Try.prog 59 #[.slice A bl bc] w (OpenOut w) := by
  have HB := Lib.hid hb
  clear hb
  unfold maxLen at hbc
  by_cases h : 2000 < bl
  · obtain ⟨b, off, z, rfl, _⟩ := HB.out 0 (by omega)
    go_enter Try.func59, Try.ntmps59
    go_wp2
    go_ret
    exact ⟨_, _, 2000, bc, rfl, by omega, Nat.le_refl _, heap_alloc_new w _, HB.out.bytes (by omega) _, (Below.refl _ _).alloc (Nat.le_refl _) _⟩
  · go_enter Try.func59, Try.ntmps59
    go_wp2
    go_ret
    exact ⟨_, _, _, _, rfl, by omega, Nat.le_refl _, heap_alloc_new w _, HB.out.bytes (Nat.le_refl _) _, (Below.refl _ _).alloc (Nat.le_refl _) _⟩

theorem BytesAt.grown {w w' : World} {R n : Nat} {A : Option Addr} (h : BytesAt w R A n) (hg : w.grownBy w' (some R)) : BytesAt w' R A n := fun k hk => by
  obtain ⟨b, off, z, e, hne, hb, hc, h0, h1⟩ := h k hk
  exact ⟨b, off, z, e, hne, Nat.lt_of_lt_of_le hb hg.size, hg.cell hc (by intro x; injection x with x; exact hne x), h0, h1⟩

def PickD (w0 : World) (R D C base : Nat) (rb : Value) (p i : Int) (vN vG vO : Value) (ns : List Int) (gs : List (Int × Int)) (os : List Int) (n : Int) (e : Ending) (w' : World) : Prop :=
  ∃ v : Int, e = .returned (.int .i64 v) ∧ 0 ≤ v ∧ v < n ∧ Drawn w0 w' R D C base rb (p + 1) i vN vG vO ns gs os
def PickE (w0 : World) (R D C base : Nat) (rb : Value) (p i : Int) (vN vG vO : Value) (ns : List Int) (gs : List (Int × Int)) (os : List Int) (n : Int) (w : World) (e : Ending) (w' : World) : Prop :=
  ∃ v : Int, e = .returned (.int .i64 v) ∧ 0 ≤ v ∧ v < n ∧ Drawn w0 w' R D C base rb (p + 1) i vN vG vO ns gs os ∧ w.grownBy w' (some R)
theorem pickD {w0 : World} {R D C base bl bc : Nat} {bA : Option Addr} {p i : Int} {vN vG vO : Value} {ns : List Int} {gs : List (Int × Int)} {os : List Int} (n : Int) (w : World) (h : Drawn w0 w R D C base (.slice bA bl bc) p i vN vG vO ns gs os)
    (hb : BytesAt w0 R bA bl) (hbl : bl ≤ 2000) (hp0 : 0 ≤ p) (hp1 : p ≤ 100000) (hn0 : 1 ≤ n) (hn1 : n ≤ 1000000) :
    Calls Try.prog 66 #[.pointer (some ⟨R, 0, none⟩), .int .i64 n] w (PickD w0 R D C base (.slice bA bl bc) p i vN vG vO ns gs os n) :=
  (pick_any R bA bl bc p n w h.row (hb.grown h.grown) hbl hp0 hp1 (by omega) hn1).mono fun _ _ ⟨v, he, h0, h1, hr, hg⟩ => ⟨v, he, h0, by omega, h.pick hr hg⟩

theorem pickE {w0 : World} {R D C base bl bc : Nat} {bA : Option Addr} {p i : Int} {vN vG vO : Value} {ns : List Int} {gs : List (Int × Int)} {os : List Int} (n : Int) (w : World) (h : Drawn w0 w R D C base (.slice bA bl bc) p i vN vG vO ns gs os)
    (hb : BytesAt w0 R bA bl) (hbl : bl ≤ 2000) (hp0 : 0 ≤ p) (hp1 : p ≤ 100000) (hn0 : 1 ≤ n) (hn1 : n ≤ 1000000) :
    Calls Try.prog 66 #[.pointer (some ⟨R, 0, none⟩), .int .i64 n] w (PickE w0 R D C base (.slice bA bl bc) p i vN vG vO ns gs os n w) :=
  (pick_any R bA bl bc p n w h.row (hb.grown h.grown) hbl hp0 hp1 (by omega) hn1).mono fun _ _ ⟨v, he, h0, h1, hr, hg⟩ => ⟨v, he, h0, by omega, h.pick hr hg, hg⟩
theorem two_at (x y v : Int) (h0 : 0 ≤ v) (h1 : v < 2) : ∃ u : Int, (#[Value.int .i64 x, .int .i64 y] : Array Value)[v.toNat]? = some (.int .i64 u) ∧ (u = x ∨ u = y) := by
  rcases (by omega : v = 0 ∨ v = 1) with rfl | rfl
  · exact ⟨x, rfl, .inl rfl⟩
  · exact ⟨y, rfl, .inr rfl⟩

theorem Drawn.start {w0 w1 : World} {R D : Nat} {rb : Value} {p : Int} (hr : Row w1 R 133 #[rb, .int .i64 p]) (hd : Row w1 D 108 #[.int .i64 0, .slice none 0 0, .slice none 0 0, .slice none 0 0]) (hg : w0.grownBy w1 (some R)) (hR : R < w0.heap.size) (hD : w0.heap.size ≤ D) (i : Int) :
    Drawn w0 (w1.alloc (.cells #[.int .i64 i, .slice none 0 0, .slice none 0 0, .slice none 0 0] 108)) R D w1.heap.size (w1.heap.size + 1) rb p i (.slice none 0 0) (.slice none 0 0) (.slice none 0 0) [] [] [] :=
  ⟨hr.alloc _, hd.alloc _, heap_alloc_new w1 _, World.ownsRow_nil _ _ _ _, World.ownsRow_nil _ _ _ _, World.ownsRow_nil _ _ _ _, .inl rfl, gb_alloc hg _, hR, hD, hd.lt, by omega, by simp⟩
/-- A slice that is not nil lies in a block from B on. -/
def FreshA (B : Nat) (A : Option Addr) : Prop := ∀ b off, A = some ⟨b, off, none⟩ → B ≤ b

def CircDrawn (w : World) (R : Nat) (rb : Value) (p : Int) (e : Ending) (w' : World) : Prop :=
  ∃ (i : Int) (nA gA oA : Option Addr) (nc gc oc : Nat) (ns : List Int) (gs : List (Int × Int)) (os : List Int) (p' : Int),
    e = .returned (.agg #[.int .i64 i, .slice nA ns.length nc, .slice gA gs.length gc, .slice oA os.length oc]) ∧ CircAt w' w'.heap.size nA gA oA ns gs os ∧ ns.length ≤ 10 ∧ gs.length ≤ 20 ∧ os.length ≤ 10 ∧ -5 ≤ i ∧ i ≤ 5 ∧
    p ≤ p' ∧ p' ≤ p + 200 ∧ Row w' R 133 #[rb, .int .i64 p'] ∧ w.grownBy w' (some R) ∧ FreshA w.heap.size nA ∧ FreshA w.heap.size gA ∧ FreshA w.heap.size oA ∧ gs.length ≤ gc

theorem Drawn.fin {w wr : World} {R D C base : Nat} {rb : Value} {p q i : Int} {nA gA oA : Option Addr} {nc gc oc : Nat} {ns : List Int} {gs : List (Int × Int)} {os : List Int}
    (h : Drawn w wr R D C base rb q i (.slice nA ns.length nc) (.slice gA gs.length gc) (.slice oA os.length oc) ns gs os) (h1 : ns.length ≤ 10) (h2 : gs.length ≤ 20) (h3 : os.length ≤ 10) (h4 : -5 ≤ i) (h5 : i ≤ 5) (h6 : p ≤ q) (h7 : q ≤ p + 200) :
    CircDrawn w R rb p (.returned (.agg #[.int .i64 i, .slice nA ns.length nc, .slice gA gs.length gc, .slice oA os.length oc]))
      ((((wr.setCell ⟨D, 0, none⟩ (.int .i64 i)).setCell ⟨D, 1, none⟩ (.slice nA ns.length nc)).setCell ⟨D, 2, none⟩ (.slice gA gs.length gc)).setCell ⟨D, 3, none⟩ (.slice oA os.length oc)) := by
  have a1 := h.hR
  have a2 := h.hD
  have a3 := h.hDC
  have a4 := h.hC
  have hDb : D < base := by omega
  obtain ⟨A1, c1, e1, i1, j1⟩ := own_intsAt (own_setC (own_setC (own_setC (own_setC h.next hDb 0 (.int .i64 i)) hDb 1 (.slice nA ns.length nc)) hDb 2 (.slice gA gs.length gc)) hDb 3 (.slice oA os.length oc))
  obtain ⟨A2, c2, e2, i2, j2, k2⟩ := own_gatesAt (own_setC (own_setC (own_setC (own_setC h.gates hDb 0 (.int .i64 i)) hDb 1 (.slice nA ns.length nc)) hDb 2 (.slice gA gs.length gc)) hDb 3 (.slice oA os.length oc))
  obtain ⟨A3, c3, e3, i3, j3⟩ := own_intsAt (own_setC (own_setC (own_setC (own_setC h.outs hDb 0 (.int .i64 i)) hDb 1 (.slice nA ns.length nc)) hDb 2 (.slice gA gs.length gc)) hDb 3 (.slice oA os.length oc))
  injection e1 with e1 _ _
  injection e2 with e2 _ e2c
  injection e3 with e3 _ _
  subst e1 e2 e3 e2c
  refine ⟨i, _, _, _, _, _, _, ns, gs, os, q, rfl, ⟨i1, i2, i3, by simp [maxLen]; omega, by simp [maxLen]; omega, by simp [maxLen]; omega⟩, h1, h2, h3, h4, h5, h6, h7, ?_, ?_, (fun b off e => by have := j1 b off e; omega), (fun b off e => by have := j2 b off e; omega), (fun b off e => by have := j3 b off e; omega), k2⟩
  · exact (((h.row.far (by simp; omega) _).far (by simp; omega) _).far (by simp; omega) _).far (by simp; omega) _
  · exact gb_setNew (gb_setNew (gb_setNew (gb_setNew h.grown a2 0 _) a2 1 _) a2 2 _) a2 3 _
end Go.Proofs.Ytkkkkalgfmddbaa
