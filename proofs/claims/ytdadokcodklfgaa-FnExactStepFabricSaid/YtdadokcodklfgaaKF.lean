/- Memory of configurations: tiles (each with two lists of integers) and pads. -/
import Derived.Test.YtdadokcodklfgaaCB
namespace Go.Proofs.Ytdadokcodklfgaa
open Go.RowKit Go.Deep Cut

abbrev Tl := Int × List Int × Bool × List Int
abbrev Pd := Int × Bool
abbrev tl0 : Tl := (0, [], false, [])
abbrev pd0 : Pd := (0, false)
/-- A list of integers in a block of its own, in S. -/
def LeafZ (w : World) (S : Nat → Prop) (A : Option Addr) (x : List Int) : Prop :=
  x = [] ∨ ∃ (b : Nat) (cs : Array Value), A = some ⟨b, 0, none⟩ ∧ S b ∧ Row w b 3 cs ∧ ∀ j, j < x.length → cs[j]? = some (.int .i64 (x.getD j 0))
theorem LeafZ.kept {w w' : World} {S T : Nat → Prop} {A : Option Addr} {x : List Int} (h : LeafZ w S A x) (hS : ∀ b, S b → w'.heap[b]? = w.heap[b]?) (hT : ∀ b, S b → T b) : LeafZ w' T A x := by
  rcases h with h | ⟨b, cs, e, hs, hr, hc⟩
  · exact .inl h
  · exact .inr ⟨b, cs, e, hT b hs, (hS b hs).trans hr, hc⟩
theorem LeafZ.ints {w : World} {B : Nat} {S : Nat → Prop} {A : Option Addr} {x : List Int} (h : LeafZ w S A x) (hS : ∀ b, S b → b < B) : IntsAt w B A x := fun k hk => by
  rcases h with h | ⟨b, cs, e, hs, hr, hc⟩
  · subst h; simp at hk
  · exact ⟨b, 0, e, hS b hs, by rw [Nat.zero_add, hr.cell, hc k hk]⟩
/-- The cells of a list of tiles, the lists in S. -/
def TlHdrs (w : World) (S : Nat → Prop) (hs : List Value) (ts : List Tl) : Prop :=
  hs.length = ts.length * 4 ∧ ∀ k, k < ts.length → ∃ (A1 : Option Addr) (c1 : Nat) (A2 : Option Addr) (c2 : Nat),
    (hs[k * 4]? = some (.int .i64 (ts.getD k tl0).1) ∧ hs[k * 4 + 1]? = some (.slice A1 (ts.getD k tl0).2.1.length c1) ∧ hs[k * 4 + 2]? = some (.bool (ts.getD k tl0).2.2.1) ∧ hs[k * 4 + 3]? = some (.slice A2 (ts.getD k tl0).2.2.2.length c2)) ∧
    (LeafZ w S A1 (ts.getD k tl0).2.1 ∧ LeafZ w S A2 (ts.getD k tl0).2.2.2) ∧ (ts.getD k tl0).2.1.length ≤ c1 ∧ (ts.getD k tl0).2.2.2.length ≤ c2
theorem TlHdrs.kept {w w' : World} {S T : Nat → Prop} {hs : List Value} {ts : List Tl} (h : TlHdrs w S hs ts) (hS : ∀ b, S b → w'.heap[b]? = w.heap[b]?) (hT : ∀ b, S b → T b) : TlHdrs w' T hs ts := ⟨h.1, fun k hk => by
  obtain ⟨A1, c1, A2, c2, e, ⟨x1, x2⟩, hc⟩ := h.2 k hk
  exact ⟨A1, c1, A2, c2, e, ⟨x1.kept hS hT, x2.kept hS hT⟩, hc⟩⟩
theorem TlHdrs.nil (w : World) (S : Nat → Prop) : TlHdrs w S [] [] := ⟨rfl, fun k hk => absurd hk (by simp)⟩
def tlv (v : Int) (A1 : Option Addr) (m1 c1 : Nat) (r : Bool) (A2 : Option Addr) (m2 c2 : Nat) : List Value := [.int .i64 v, .slice A1 m1 c1, .bool r, .slice A2 m2 c2]
theorem TlHdrs.snoc {w : World} {S : Nat → Prop} {hs : List Value} {ts : List Tl} (h : TlHdrs w S hs ts) (v : Int) {A1 : Option Addr} {m1 c1 : Nat} {x : List Int} (r : Bool) {A2 : Option Addr} {m2 c2 : Nat} {y : List Int}
    (h1 : x.length = m1) (h2 : y.length = m2) (hx : LeafZ w S A1 x) (hy : LeafZ w S A2 y) (hc1 : m1 ≤ c1) (hc2 : m2 ≤ c2) : TlHdrs w S (hs ++ tlv v A1 m1 c1 r A2 m2 c2) (ts ++ [(v, x, r, y)]) := by
  subst h1 h2
  have hl := h.1
  refine ⟨by simp [hl, tlv]; omega, fun k hk => ?_⟩
  by_cases e : k < ts.length
  · obtain ⟨B1, d1, B2, d2, ⟨e0, e1, e2, e3⟩, hx', hc'⟩ := h.2 k e
    rw [Circ.getD_app_lt _ _ _ _ e]
    refine ⟨B1, d1, B2, d2, ⟨?_, ?_, ?_, ?_⟩, hx', hc'⟩ <;> (rw [List.getElem?_append_left (by omega)]; assumption)
  · obtain rfl : k = ts.length := by simp at hk; omega
    rw [Circ.getD_app_at _ _ _ _ rfl]
    refine ⟨A1, c1, A2, c2, ⟨?_, ?_, ?_, ?_⟩, ⟨hx, hy⟩, hc1, hc2⟩
    · rw [List.getElem?_append_right (by omega), hl, Nat.sub_self]; rfl
    · rw [List.getElem?_append_right (by omega), hl, show ts.length * 4 + 1 - ts.length * 4 = 1 by omega]; rfl
    · rw [List.getElem?_append_right (by omega), hl, show ts.length * 4 + 2 - ts.length * 4 = 2 by omega]; rfl
    · rw [List.getElem?_append_right (by omega), hl, show ts.length * 4 + 3 - ts.length * 4 = 3 by omega]; rfl
/-- A list of tiles that can be read. -/
def TlIn (w : World) (B : Nat) (A : Option Addr) (ts : List Tl) : Prop :=
  ∀ k, k < ts.length → ∃ (b off : Nat), A = some ⟨b, off, none⟩ ∧ b < B ∧ ∃ (A1 : Option Addr) (c1 : Nat) (A2 : Option Addr) (c2 : Nat),
    (w.cell? ⟨b, off + k * 4, none⟩ = some (.int .i64 (ts.getD k tl0).1) ∧ w.cell? ⟨b, off + k * 4 + 1, none⟩ = some (.slice A1 (ts.getD k tl0).2.1.length c1) ∧ w.cell? ⟨b, off + k * 4 + 2, none⟩ = some (.bool (ts.getD k tl0).2.2.1) ∧ w.cell? ⟨b, off + k * 4 + 3, none⟩ = some (.slice A2 (ts.getD k tl0).2.2.2.length c2)) ∧
    (IntsAt w B A1 (ts.getD k tl0).2.1 ∧ IntsAt w B A2 (ts.getD k tl0).2.2.2) ∧ (ts.getD k tl0).2.1.length ≤ c1 ∧ (ts.getD k tl0).2.2.2.length ≤ c2
theorem TlIn.below {w w' : World} {B : Nat} {A : Option Addr} {ts : List Tl} (h : TlIn w B A ts) (hb : Below B w w') : TlIn w' B A ts := fun k hk => by
  obtain ⟨b, off, e, hB, A1, c1, A2, c2, ⟨e0, e1, e2, e3⟩, ⟨x1, x2⟩, hc⟩ := h k hk
  exact ⟨b, off, e, hB, A1, c1, A2, c2, ⟨(hb.cell (by exact hB)).trans e0, (hb.cell (by exact hB)).trans e1, (hb.cell (by exact hB)).trans e2, (hb.cell (by exact hB)).trans e3⟩, ⟨x1.below hb, x2.below hb⟩, hc⟩
theorem TlIn.mono {w : World} {B B' : Nat} {A : Option Addr} {ts : List Tl} (h : TlIn w B A ts) (hb : B ≤ B') : TlIn w B' A ts := fun k hk => by
  obtain ⟨b, off, e, hB, A1, c1, A2, c2, e0, ⟨x1, x2⟩, hc⟩ := h k hk
  exact ⟨b, off, e, Nat.lt_of_lt_of_le hB hb, A1, c1, A2, c2, e0, ⟨x1.mono hb, x2.mono hb⟩, hc⟩
theorem TlIn.on {w w' : World} {A : Option Addr} {ts : List Tl} (h : TlIn w w.heap.size A ts) (hb : Below w.heap.size w w') : TlIn w' w'.heap.size A ts := (h.below hb).mono hb.size
/-- A list of pads that can be read. -/
def PdIn (w : World) (B : Nat) (A : Option Addr) (ps : List Pd) : Prop :=
  ∀ k, k < ps.length → ∃ (b off : Nat), A = some ⟨b, off, none⟩ ∧ b < B ∧ w.cell? ⟨b, off + k * 2, none⟩ = some (.int .i64 (ps.getD k pd0).1) ∧ w.cell? ⟨b, off + k * 2 + 1, none⟩ = some (.bool (ps.getD k pd0).2)
theorem PdIn.below {w w' : World} {B : Nat} {A : Option Addr} {ps : List Pd} (h : PdIn w B A ps) (hb : Below B w w') : PdIn w' B A ps := fun k hk => by
  obtain ⟨b, off, e, hB, e0, e1⟩ := h k hk
  exact ⟨b, off, e, hB, (hb.cell (by exact hB)).trans e0, (hb.cell (by exact hB)).trans e1⟩
theorem PdIn.mono {w : World} {B B' : Nat} {A : Option Addr} {ps : List Pd} (h : PdIn w B A ps) (hb : B ≤ B') : PdIn w B' A ps := fun k hk => by
  obtain ⟨b, off, e, hB, e0⟩ := h k hk
  exact ⟨b, off, e, Nat.lt_of_lt_of_le hB hb, e0⟩
theorem PdIn.on {w w' : World} {A : Option Addr} {ps : List Pd} (h : PdIn w w.heap.size A ps) (hb : Below w.heap.size w w') : PdIn w' w'.heap.size A ps := (h.below hb).mono hb.size
theorem own_keepA {w w' : World} {B e z n cap : Nat} {A : Option Addr} {hs : List Value} (h : w.ownsRow B e z (.slice A n cap) n hs) (hg : ∀ g, A = some ⟨g, 0, none⟩ → w'.heap[g]? = w.heap[g]?) : w'.ownsRow B e z (.slice A n cap) n hs := by
  refine ⟨h.1, ?_⟩
  rcases h.2 with hv | ⟨g', cap', cur, hv, h1, h2, h3⟩
  · exact .inl hv
  · have hv' := hv
    injection hv with e1
    exact .inr ⟨g', cap', cur, hv', h1, (hg g' e1).trans h2, h3⟩
theorem own_ltA {w : World} {B e z n cap : Nat} {A : Option Addr} {hs : List Value} (h : w.ownsRow B e z (.slice A n cap) n hs) : ∀ g, A.map (·.block) = some g → B ≤ g ∧ g < w.heap.size := fun g e => by
  rcases h.2 with ⟨hv, _⟩ | ⟨g', cap', cur, hv, h1, h2, h3⟩
  · injection hv with e1; subst e1; simp at e
  · injection hv with e1
    subst e1
    simp at e
    subst e
    exact ⟨h1, Row.lt h2⟩
theorem own_mono {w : World} {B B' e z n : Nat} {v : Value} {hs : List Value} (h : w.ownsRow B e z v n hs) (hb : B' ≤ B) : w.ownsRow B' e z v n hs := ⟨h.1, h.2.imp id fun ⟨g, cap, cur, e1, e2, e3⟩ => ⟨g, cap, cur, e1, by omega, e3⟩⟩
theorem ownBlock_map (A : Option Addr) (n c : Nat) : (Value.slice A n c).ownBlock = A.map (·.block) := by cases A <;> rfl
theorem own_addr {w : World} {B e z n cap g : Nat} {A : Option Addr} {hs : List Value} (h : w.ownsRow B e z (.slice A n cap) n hs) (hg : (Value.slice A n cap).ownBlock = some g) : A = some ⟨g, 0, none⟩ := by
  rcases h.2 with ⟨hv, _⟩ | ⟨g2, cap2, cur, hv, _⟩
  · injection hv with e1; subst e1; cases hg
  · injection hv with e1; subst e1; cases hg; rfl
/-- Block b is not A's. -/
def NotB (A : Option Addr) (b : Nat) : Prop := A.map (·.block) ≠ some b
/-- The blocks of w from B on but A's. -/
def OffA (w : World) (B : Nat) (A : Option Addr) (b : Nat) : Prop := B ≤ b ∧ b < w.heap.size ∧ A.map (·.block) ≠ some b
theorem OffA.on {w w' : World} {B : Nat} {A : Option Addr} (hb : w.heap.size ≤ w'.heap.size) : ∀ b, OffA w B A b → OffA w' B A b := fun _ h => ⟨h.1, by have := h.2.1; omega, h.2.2⟩
theorem offA_grown {w0 w5 : World} {o : Obj} {A : Option Addr} {n cap : Nat} (hgr : (w0.alloc o).grownBy w5 (Value.slice A n cap).ownBlock) : (∀ b, b < w0.heap.size → A.map (·.block) ≠ some b → w5.heap[b]? = w0.heap[b]?) := fun b h1 h2 => by
  rw [hgr.block b (by simp; omega) (by rw [ownBlock_map]; exact fun e => h2 e.symm)]
  exact Below.heap_alloc _ _ _ h1
theorem below_alloc_grownA {w0 w5 : World} {o : Obj} {B n cap : Nat} {A : Option Addr} (hgr : (w0.alloc o).grownBy w5 (Value.slice A n cap).ownBlock) (hB : B ≤ w0.heap.size) (hg : ∀ g, A.map (·.block) = some g → B ≤ g) : Below B w0 w5 :=
  ((Below.refl B w0).alloc hB o).grown hgr (by simp; omega) (fun j hj => by rw [ownBlock_map] at hj; exact hg j hj)
/-- A list of tiles in memory of the call's own. -/
def TlAt (w : World) (B : Nat) (ts : List Tl) (hs : List Value) (A : Option Addr) (cap : Nat) : Prop := w.ownsRow B 33 4 (.slice A ts.length cap) ts.length hs ∧ TlHdrs w (OffA w B A) hs ts
theorem TlAt.ltA {w : World} {B cap : Nat} {ts : List Tl} {hs : List Value} {A : Option Addr} (h : TlAt w B ts hs A cap) : ∀ g, A.map (·.block) = some g → B ≤ g ∧ g < w.heap.size := own_ltA h.1
theorem TlAt.keep {w w' : World} {B cap : Nat} {ts : List Tl} {hs : List Value} {A : Option Addr} (h : TlAt w B ts hs A cap) (hk : ∀ b, B ≤ b → b < w.heap.size → w'.heap[b]? = w.heap[b]?) (hz : w.heap.size ≤ w'.heap.size) : TlAt w' B ts hs A cap :=
  ⟨own_keepA h.1 (fun g e => by obtain ⟨h1, h2⟩ := h.ltA g (by rw [e]; rfl); exact hk g h1 h2), h.2.kept (fun b hb' => hk b hb'.1 hb'.2.1) (OffA.on hz)⟩
theorem TlAt.on {w w' : World} {B cap : Nat} {ts : List Tl} {hs : List Value} {A : Option Addr} (h : TlAt w B ts hs A cap) (hb : Below w.heap.size w w') : TlAt w' B ts hs A cap := h.keep (fun b _ h2 => hb.block b h2) hb.size
theorem TlAt.low {w : World} {B B' cap : Nat} {ts : List Tl} {hs : List Value} {A : Option Addr} (h : TlAt w B ts hs A cap) (hb : B' ≤ B) : TlAt w B' ts hs A cap := ⟨own_mono h.1 hb, h.2.kept (fun _ _ => rfl) (fun _ h => ⟨by have := h.1; omega, h.2⟩)⟩
theorem TlAt.ptr {w : World} {B cap : Nat} {ts : List Tl} {hs : List Value} {A : Option Addr} (h : TlAt w B ts hs A cap) (hn : 0 < ts.length) : ∃ g, A = some ⟨g, 0, none⟩ := by
  rcases h.1.2 with ⟨hv, h0⟩ | ⟨g', cap', cur, hv, h1, h2, h3⟩
  · omega
  · injection hv with e1; exact ⟨g', e1⟩
theorem TlAt.read {w : World} {B cap : Nat} {ts : List Tl} {hs : List Value} {A : Option Addr} (h : TlAt w B ts hs A cap) : TlIn w w.heap.size A ts := fun k hk => by
  obtain ⟨g, rfl⟩ := h.ptr (by omega)
  obtain ⟨cur, hrow, _, _, _, _, hget⟩ := own_partsE h.1
  obtain ⟨A1, c1, A2, c2, ⟨e0, e1, e2, e3⟩, ⟨x1, x2⟩, hc⟩ := h.2.2 k hk
  refine ⟨g, 0, rfl, hrow.lt, A1, c1, A2, c2, ⟨?_, ?_, ?_, ?_⟩, ⟨x1.ints (fun b hb => hb.2.1), x2.ints (fun b hb => hb.2.1)⟩, hc⟩ <;> (rw [Nat.zero_add, hrow.cell, hget _ (by omega)]; assumption)
/-- The cells of pads. -/
def pvs (ps : List Pd) : List Value := ps.flatMap fun p => [.int .i64 p.1, .bool p.2]
theorem pvs_len (ps : List Pd) : (pvs ps).length = ps.length * 2 := by
  induction ps with
  | nil => rfl
  | cons p ps ih => simp only [pvs, List.flatMap_cons, List.length_append, List.length_cons, List.length_nil] at ih ⊢; omega
theorem pvs_snoc (ps : List Pd) (p : Pd) : pvs (ps ++ [p]) = pvs ps ++ [.int .i64 p.1, .bool p.2] := by simp [pvs]
theorem pvs_get : ∀ (ps : List Pd) (k : Nat), k < ps.length → (pvs ps)[k * 2]? = some (.int .i64 (ps.getD k pd0).1) ∧ (pvs ps)[k * 2 + 1]? = some (.bool (ps.getD k pd0).2)
  | [], k, h => absurd h (by simp)
  | p :: ps, 0, _ => ⟨rfl, rfl⟩
  | p :: ps, k + 1, h => by
    have := pvs_get ps k (by simpa using h)
    have e : pvs (p :: ps) = .int .i64 p.1 :: .bool p.2 :: pvs ps := rfl
    rw [e, show (k + 1) * 2 = k * 2 + 1 + 1 by omega]
    exact this
def PdAt (w : World) (B : Nat) (ps : List Pd) (A : Option Addr) (cap : Nat) : Prop := w.ownsRow B 81 2 (.slice A ps.length cap) ps.length (pvs ps)
theorem PdAt.ltA {w : World} {B cap : Nat} {ps : List Pd} {A : Option Addr} (h : PdAt w B ps A cap) : ∀ g, A.map (·.block) = some g → B ≤ g ∧ g < w.heap.size := own_ltA h
theorem PdAt.keep {w w' : World} {B cap : Nat} {ps : List Pd} {A : Option Addr} (h : PdAt w B ps A cap) (hk : ∀ b, B ≤ b → b < w.heap.size → w'.heap[b]? = w.heap[b]?) : PdAt w' B ps A cap :=
  own_keepA h (fun g e => by obtain ⟨h1, h2⟩ := h.ltA g (by rw [e]; rfl); exact hk g h1 h2)
theorem PdAt.on {w w' : World} {B cap : Nat} {ps : List Pd} {A : Option Addr} (h : PdAt w B ps A cap) (hb : Below w.heap.size w w') : PdAt w' B ps A cap := h.keep (fun b _ h2 => hb.block b h2)
theorem PdAt.low {w : World} {B B' cap : Nat} {ps : List Pd} {A : Option Addr} (h : PdAt w B ps A cap) (hb : B' ≤ B) : PdAt w B' ps A cap := own_mono h hb
theorem PdAt.ptr {w : World} {B cap : Nat} {ps : List Pd} {A : Option Addr} (h : PdAt w B ps A cap) (hn : 0 < ps.length) : ∃ g, A = some ⟨g, 0, none⟩ := by
  rcases h.2 with ⟨hv, h0⟩ | ⟨g', cap', cur, hv, h1, h2, h3⟩
  · omega
  · injection hv with e1; exact ⟨g', e1⟩
theorem PdAt.read {w : World} {B cap : Nat} {ps : List Pd} {A : Option Addr} (h : PdAt w B ps A cap) : PdIn w w.heap.size A ps := fun k hk => by
  obtain ⟨g, rfl⟩ := h.ptr (by omega)
  obtain ⟨cur, hrow, _, _, _, _, hget⟩ := own_partsE h
  obtain ⟨e0, e1⟩ := pvs_get ps k hk
  refine ⟨g, 0, rfl, hrow.lt, ?_, ?_⟩ <;> (rw [Nat.zero_add, hrow.cell, hget _ (by omega)]; assumption)
theorem Try.infoTl : (Try.prog.info? 33).map (fun i => (i.zero, i.size, i.bytes)) = some (some (.agg #[.int .i64 0, .slice none 0 0, .bool false, .slice none 0 0]), 4, 64) := by kernel_rfl
theorem Try.infoPd : (Try.prog.info? 81).map (fun i => (i.zero, i.size, i.bytes)) = some (some (.agg #[.int .i64 0, .bool false]), 2, 16) := by kernel_rfl
theorem TlAt.nil (w : World) (B : Nat) : TlAt w B [] [] none 0 := ⟨World.ownsRow_nil _ _ _ _, TlHdrs.nil _ _⟩
theorem PdAt.nil (w : World) (B : Nat) : PdAt w B [] none 0 := World.ownsRow_nil _ _ _ _
/-- A list of integers in memory of the call's own. -/
def LzAt (w : World) (B : Nat) (xs : List Int) (A : Option Addr) (cap : Nat) : Prop := w.ownsRow B 3 1 (.slice A xs.length cap) xs.length (ivs xs)
theorem LzAt.ltA {w : World} {B cap : Nat} {xs : List Int} {A : Option Addr} (h : LzAt w B xs A cap) : ∀ g, A.map (·.block) = some g → B ≤ g ∧ g < w.heap.size := own_ltA h
theorem LzAt.keep {w w' : World} {B cap : Nat} {xs : List Int} {A : Option Addr} (h : LzAt w B xs A cap) (hk : ∀ b, B ≤ b → b < w.heap.size → w'.heap[b]? = w.heap[b]?) : LzAt w' B xs A cap :=
  own_keepA h (fun g e => by obtain ⟨h1, h2⟩ := h.ltA g (by rw [e]; rfl); exact hk g h1 h2)
theorem LzAt.nil (w : World) (B : Nat) : LzAt w B [] none 0 := World.ownsRow_nil _ _ _ _
theorem LzAt.ptr {w : World} {B cap : Nat} {xs : List Int} {A : Option Addr} (h : LzAt w B xs A cap) (hn : 0 < xs.length) : ∃ g, A = some ⟨g, 0, none⟩ := by
  rcases h.2 with ⟨hv, h0⟩ | ⟨g', cap', cur, hv, h1, h2, h3⟩
  · omega
  · injection hv with e1; exact ⟨g', e1⟩
theorem LzAt.le {w : World} {B cap g : Nat} {xs : List Int} (h : LzAt w B xs (some ⟨g, 0, none⟩) cap) : xs.length ≤ cap := by
  obtain ⟨_, _, _, h1, _⟩ := own_partsE h
  exact h1
section
variable {ops : Array Oper} {rest : List Oper} {o : Oper} {a : Act} {Q : Exit → Act → World → Prop}
end
end Go.Proofs.Ytdadokcodklfgaa
/- The contracts of comparing configurations. -/
namespace Go.Proofs.Ytdadokcodklfgaa
open Go.RowKit Go.Deep Cut

theorem eqI_z (A A' : Option Addr) (n cap cap' : Nat) (xs : List Int) (w : World) (hx : IntsAt w w.heap.size A xs) (hy : IntsAt w w.heap.size A' xs) (hn : xs.length = n) (hl : n ≤ 2000000) :
    Calls Try.prog 143 #[.slice A n cap, .slice A' n cap'] w fun e w' => e = .returned (.bool true) ∧ Below w.heap.size w w' := by
  subst hn
  exact eqIntS_any A A' cap cap' xs w hx hy hl
set_option maxHeartbeats 800000 in
theorem eqTile_any (A A' B B' : Option Addr) (m1 c1 c1' m2 c2 c2' : Nat) (v : Int) (x : List Int) (r : Bool) (y : List Int) (w : World) (hx : IntsAt w w.heap.size A x) (hx' : IntsAt w w.heap.size A' x) (hy : IntsAt w w.heap.size B y) (hy' : IntsAt w w.heap.size B' y) (h1 : x.length = m1) (h2 : y.length = m2) (l1 : m1 ≤ 2000000) (l2 : m2 ≤ 2000000) :
    Calls Try.prog 121 #[.agg #[.int .i64 v, .slice A m1 c1, .bool r, .slice B m2 c2], .agg #[.int .i64 v, .slice A' m1 c1', .bool r, .slice B' m2 c2']] w fun e w' => e = .returned (.bool true) ∧ Below w.heap.size w w' := by
  have HX := Lib.hid hx
  have HX' := Lib.hid hx'
  have HY := Lib.hid hy
  have HY' := Lib.hid hy'
  have H1 := Lib.hid h1
  have H2 := Lib.hid h2
  have HW0 : Hid (Below w.heap.size w ((w.alloc (.cells #[.int .i64 v, .slice A m1 c1, .bool r, .slice B m2 c2] 33)).alloc (.cells #[.int .i64 v, .slice A' m1 c1', .bool r, .slice B' m2 c2'] 33))) := Lib.hid (((Below.refl _ _).alloc (Nat.le_refl _) _).alloc (by simp) _)
  have hr0 : Row ((w.alloc (.cells #[.int .i64 v, .slice A m1 c1, .bool r, .slice B m2 c2] 33)).alloc (.cells #[.int .i64 v, .slice A' m1 c1', .bool r, .slice B' m2 c2'] 33)) w.heap.size 33 #[.int .i64 v, .slice A m1 c1, .bool r, .slice B m2 c2] := (Below.heap_alloc _ _ _ (by simp)).trans (heap_alloc_new w _)
  have hr1 : Row ((w.alloc (.cells #[.int .i64 v, .slice A m1 c1, .bool r, .slice B m2 c2] 33)).alloc (.cells #[.int .i64 v, .slice A' m1 c1', .bool r, .slice B' m2 c2'] 33)) (w.heap.size + 1) 33 #[.int .i64 v, .slice A' m1 c1', .bool r, .slice B' m2 c2'] := by
    have h := heap_alloc_new (w.alloc (.cells #[.int .i64 v, .slice A m1 c1, .bool r, .slice B m2 c2] 33)) (.cells #[.int .i64 v, .slice A' m1 c1', .bool r, .slice B' m2 c2'] 33)
    rwa [show (w.alloc (.cells #[.int .i64 v, .slice A m1 c1, .bool r, .slice B m2 c2] 33)).heap.size = w.heap.size + 1 by simp] at h
  have HR0 := Lib.hid hr0
  have HR1 := Lib.hid hr1
  clear hx hy hx' hy' h1 h2 hr0 hr1
  go_enter Try.func121, Try.ntmps121
  go_wp2_with fail
  generalize (w.alloc (.cells #[.int .i64 v, .slice A m1 c1, .bool r, .slice B m2 c2] 33)).alloc (.cells #[.int .i64 v, .slice A' m1 c1', .bool r, .slice B' m2 c2'] 33) = w0 at *
  refine (eqI_z A A' m1 c1 c1' x _ ((HX.out.below HW0.out).mono HW0.out.size) ((HX'.out.below HW0.out).mono HW0.out.size) H1.out (by omega)).mono ?_
  rintro e w1 ⟨rfl, hb1⟩
  have HR01 := Lib.hid (HR0.out.below hb1 HR0.out.lt)
  have HR11 := Lib.hid (HR1.out.below hb1 HR1.out.lt)
  have HL1 := Lib.hid (HW0.out.trans (hb1.mono HW0.out.size))
  clear hb1 HR0 HR1
  have a2 := HR01.out.cell 2
  have a3 := HR01.out.cell 3
  have b2 := HR11.out.cell 2
  have b3 := HR11.out.cell 3
  simp at a2 a3 b2 b3
  go_wp2_with fail
  refine (eqI_z B B' m2 c2 c2' y _ ((HY.out.below HL1.out).mono HL1.out.size) ((HY'.out.below HL1.out).mono HL1.out.size) H2.out (by omega)).mono ?_
  rintro e w2 ⟨rfl, hb2⟩
  have HL2 := Lib.hid (HL1.out.trans (hb2.mono HL1.out.size))
  clear hb2 a2 a3 b2 b3
  go_wp2
  go_ret
  exact ⟨rfl, HL2.out⟩
theorem eqPad_any (v : Int) (r : Bool) (w : World) :
    Calls Try.prog 122 #[.agg #[.int .i64 v, .bool r], .agg #[.int .i64 v, .bool r]] w fun e w' => e = .returned (.bool true) ∧ Below w.heap.size w w' := by
  have HW0 : Hid (Below w.heap.size w ((w.alloc (.cells #[.int .i64 v, .bool r] 81)).alloc (.cells #[.int .i64 v, .bool r] 81))) := Lib.hid (((Below.refl _ _).alloc (Nat.le_refl _) _).alloc (by simp) _)
  go_enter Try.func122, Try.ntmps122
  go_wp2
  go_ret
  exact ⟨rfl, HW0.out⟩
theorem keep8 {w w' : World} {B b b' o o' : Nat} {x0 x1 x2 x3 x4 x5 x6 x7 : Value} (h : Below B w w') (h1 : b < B) (h2 : b' < B) (s : w.cell? ⟨b, o, none⟩ = some x0 ∧ w.cell? ⟨b, o + 1, none⟩ = some x1 ∧ w.cell? ⟨b, o + 2, none⟩ = some x2 ∧ w.cell? ⟨b, o + 3, none⟩ = some x3 ∧ w.cell? ⟨b', o', none⟩ = some x4 ∧ w.cell? ⟨b', o' + 1, none⟩ = some x5 ∧ w.cell? ⟨b', o' + 2, none⟩ = some x6 ∧ w.cell? ⟨b', o' + 3, none⟩ = some x7) :
    w'.cell? ⟨b, o, none⟩ = some x0 ∧ w'.cell? ⟨b, o + 1, none⟩ = some x1 ∧ w'.cell? ⟨b, o + 2, none⟩ = some x2 ∧ w'.cell? ⟨b, o + 3, none⟩ = some x3 ∧ w'.cell? ⟨b', o', none⟩ = some x4 ∧ w'.cell? ⟨b', o' + 1, none⟩ = some x5 ∧ w'.cell? ⟨b', o' + 2, none⟩ = some x6 ∧ w'.cell? ⟨b', o' + 3, none⟩ = some x7 :=
  ⟨(h.cell (by exact h1)).trans s.1, (h.cell (by exact h1)).trans s.2.1, (h.cell (by exact h1)).trans s.2.2.1, (h.cell (by exact h1)).trans s.2.2.2.1, (h.cell (by exact h2)).trans s.2.2.2.2.1, (h.cell (by exact h2)).trans s.2.2.2.2.2.1, (h.cell (by exact h2)).trans s.2.2.2.2.2.2.1, (h.cell (by exact h2)).trans s.2.2.2.2.2.2.2⟩
theorem keep4 {w w' : World} {B b b' o o' : Nat} {x0 x1 x2 x3 : Value} (h : Below B w w') (h1 : b < B) (h2 : b' < B) (s : w.cell? ⟨b, o, none⟩ = some x0 ∧ w.cell? ⟨b, o + 1, none⟩ = some x1 ∧ w.cell? ⟨b', o', none⟩ = some x2 ∧ w.cell? ⟨b', o' + 1, none⟩ = some x3) :
    w'.cell? ⟨b, o, none⟩ = some x0 ∧ w'.cell? ⟨b, o + 1, none⟩ = some x1 ∧ w'.cell? ⟨b', o', none⟩ = some x2 ∧ w'.cell? ⟨b', o' + 1, none⟩ = some x3 :=
  ⟨(h.cell (by exact h1)).trans s.1, (h.cell (by exact h1)).trans s.2.1, (h.cell (by exact h2)).trans s.2.2.1, (h.cell (by exact h2)).trans s.2.2.2⟩
/-- The lists of all tiles are no longer than a million. -/
def TlBd (ts : List Tl) : Prop := ts.length ≤ 2000000 ∧ ∀ k, k < ts.length → (ts.getD k tl0).2.1.length ≤ 2000000 ∧ (ts.getD k tl0).2.2.2.length ≤ 2000000
set_option maxHeartbeats 800000 in
theorem eqTileS_any (A A' : Option Addr) (n cap cap' : Nat) (ts : List Tl) (w : World) (hx : TlIn w w.heap.size A ts) (hy : TlIn w w.heap.size A' ts) (hn : ts.length = n) (hr : TlBd ts) :
    Calls Try.prog 78 #[.slice A n cap, .slice A' n cap'] w fun e w' => e = .returned (.bool true) ∧ Below w.heap.size w w' := by
  have HX := Lib.hid hx
  have HY := Lib.hid hy
  have HN := Lib.hid hn
  have hl : n ≤ 2000000 := by have := hr.1; omega
  have HT := Lib.hid hr.2
  clear hx hy hn hr
  go_enter Try.func78, Try.ntmps78
  go_wp2
  go_loopw [5] (fun iv wr => ∃ (k : Nat), k ≤ n ∧ iv = .int .i64 k ∧ Below w.heap.size w wr) (fun iv _ => n - (intOf iv).toNat)
  case atStart => exact ⟨0, Nat.zero_le _, rfl, Below.refl _ _⟩
  case round =>
    obtain ⟨k, hk, rfl, hbr⟩ := hrel
    by_cases hlt : k < n
    · obtain ⟨b, off, rfl, hbl, A1, c1, A2, c2, ⟨p0, p1, p2, p3⟩, ⟨hA1, hA2⟩, _, _⟩ := HX.out k (by rw [HN.out]; exact hlt)
      obtain ⟨b', off', rfl, hbl', B1, d1, B2, d2, ⟨r0, r1, r2, r3⟩, ⟨hB1, hB2⟩, _, _⟩ := HY.out k (by rw [HN.out]; exact hlt)
      obtain ⟨t1, t2⟩ := HT.out k (by rw [HN.out]; exact hlt)
      have HA1 := Lib.hid ((hA1.below hbr).mono hbr.size)
      have HA2 := Lib.hid ((hA2.below hbr).mono hbr.size)
      have HB1 := Lib.hid ((hB1.below hbr).mono hbr.size)
      have HB2 := Lib.hid ((hB2.below hbr).mono hbr.size)
      have hz := hbr.size
      have HS := Lib.hid (keep8 hbr hbl hbl' ⟨p0, p1, p2, p3, r0, r1, r2, r3⟩)
      have hblr : b < wr.heap.size := by omega
      have hblr' : b' < wr.heap.size := by omega
      clear hA1 hA2 hB1 hB2 p0 p1 p2 p3 r0 r1 r2 r3
      generalize (ts.getD k tl0).2.2.2 = y at *
      generalize (ts.getD k tl0).2.2.1 = r at *
      generalize (ts.getD k tl0).2.1 = x at *
      generalize (ts.getD k tl0).1 = v at *
      obtain ⟨m1, hm1⟩ : ∃ m, x.length = m := ⟨_, rfl⟩
      obtain ⟨m2, hm2⟩ : ∃ m, y.length = m := ⟨_, rfl⟩
      rw [hm1] at HS t1
      rw [hm2] at HS t2
      have HM1 := Lib.hid hm1
      have HM2 := Lib.hid hm2
      clear hm1 hm2
      obtain ⟨g0, g1, g2, g3, g4, g5, g6, g7⟩ := HS.out
      have hk0 : (0 : Int) ≤ (k : Int) := Int.natCast_nonneg _
      have hk1 : (k : Int) < (n : Int) := by omega
      go_wp2
      go_region_held3 (fun w' => w'.cell? ⟨b, off + k * 4, none⟩ = some (.int .i64 v) ∧ w'.cell? ⟨b, off + k * 4 + 1, none⟩ = some (.slice A1 m1 c1) ∧ w'.cell? ⟨b, off + k * 4 + 2, none⟩ = some (.bool r) ∧ w'.cell? ⟨b, off + k * 4 + 3, none⟩ = some (.slice A2 m2 c2) ∧ w'.cell? ⟨b', off' + k * 4, none⟩ = some (.int .i64 v) ∧ w'.cell? ⟨b', off' + k * 4 + 1, none⟩ = some (.slice B1 m1 d1) ∧ w'.cell? ⟨b', off' + k * 4 + 2, none⟩ = some (.bool r) ∧ w'.cell? ⟨b', off' + k * 4 + 3, none⟩ = some (.slice B2 m2 d2))
        (first | (with_reducible assumption) | go_keep)
        (first | (go_at_call 121; refine (eqTile_any A1 B1 A2 B2 m1 c1 d1 m2 c2 d2 v x r y _ ?_ ?_ ?_ ?_ HM1.out HM2.out (by omega) (by omega)).mono ?_; (exact HA1.out.below (Below.refl _ wr).drew); (exact HB1.out.below (Below.refl _ wr).drew); (exact HA2.out.below (Below.refl _ wr).drew); (exact HB2.out.below (Below.refl _ wr).drew); rintro e w3 ⟨rfl, hb3⟩; have hS3 := keep8 hb3 hblr hblr' HS.out))
      rename_i _hheld
      clear _hheld hS3 g0 g1 g2 g3 g4 g5 g6 g7
      go_wp2
      go_roundw
      case rel => exact ⟨k + 1, by omega, by go_num, hbr.drew.trans (hb3.mono hbr.size)⟩
      case measure => simp [intOf]; omega
    · go_wp2
      go_ret
      exact ⟨rfl, hbr⟩
set_option maxHeartbeats 800000 in
theorem eqPadS_any (A A' : Option Addr) (n cap cap' : Nat) (ps : List Pd) (w : World) (hx : PdIn w w.heap.size A ps) (hy : PdIn w w.heap.size A' ps) (hn : ps.length = n) (hl : n ≤ 2000000) :
    Calls Try.prog 79 #[.slice A n cap, .slice A' n cap'] w fun e w' => e = .returned (.bool true) ∧ Below w.heap.size w w' := by
  have HX := Lib.hid hx
  have HY := Lib.hid hy
  have HN := Lib.hid hn
  clear hx hy hn
  go_enter Try.func79, Try.ntmps79
  go_wp2
  go_loopw [5] (fun iv wr => ∃ (k : Nat), k ≤ n ∧ iv = .int .i64 k ∧ Below w.heap.size w wr) (fun iv _ => n - (intOf iv).toNat)
  case atStart => exact ⟨0, Nat.zero_le _, rfl, Below.refl _ _⟩
  case round =>
    obtain ⟨k, hk, rfl, hbr⟩ := hrel
    by_cases hlt : k < n
    · obtain ⟨b, off, rfl, hbl, p0, p1⟩ := HX.out k (by rw [HN.out]; exact hlt)
      obtain ⟨b', off', rfl, hbl', r0, r1⟩ := HY.out k (by rw [HN.out]; exact hlt)
      have hz := hbr.size
      have HS := Lib.hid (keep4 hbr hbl hbl' ⟨p0, p1, r0, r1⟩)
      have hblr : b < wr.heap.size := by omega
      have hblr' : b' < wr.heap.size := by omega
      clear p0 p1 r0 r1
      generalize (ps.getD k pd0).2 = r at *
      generalize (ps.getD k pd0).1 = v at *
      obtain ⟨g0, g1, g2, g3⟩ := HS.out
      have hk0 : (0 : Int) ≤ (k : Int) := Int.natCast_nonneg _
      have hk1 : (k : Int) < (n : Int) := by omega
      go_wp2
      go_region_held3 (fun w' => w'.cell? ⟨b, off + k * 2, none⟩ = some (.int .i64 v) ∧ w'.cell? ⟨b, off + k * 2 + 1, none⟩ = some (.bool r) ∧ w'.cell? ⟨b', off' + k * 2, none⟩ = some (.int .i64 v) ∧ w'.cell? ⟨b', off' + k * 2 + 1, none⟩ = some (.bool r))
        (first | (with_reducible assumption) | go_keep)
        (first | (go_at_call 122; refine (eqPad_any v r _).mono ?_; rintro e w3 ⟨rfl, hb3⟩; have hS3 := keep4 hb3 hblr hblr' HS.out))
      rename_i _hheld
      clear _hheld hS3 g0 g1 g2 g3
      go_wp2
      go_roundw
      case rel => exact ⟨k + 1, by omega, by go_num, hbr.drew.trans (hb3.mono hbr.size)⟩
      case measure => simp [intOf]; omega
    · go_wp2
      go_ret
      exact ⟨rfl, hbr⟩
end Go.Proofs.Ytdadokcodklfgaa
/- The contracts of marks on configurations. -/
namespace Go.Proofs.Ytdadokcodklfgaa
open Go.RowKit Go.Deep Cut

/-- The mark before leaf j. -/
def tmk (ls : List Nat) (K j : Nat) : Value := if j % 2 = 0 then .int .i64 (K + ofT 1 ls j : Nat) else .bool (((K + ofT 1 ls j : Nat) : Int) % 3 == 0)
/-- The row of the tiles, the marks before the first m leaves laid. -/
def TlRow (w : World) (g : Nat) (hds : List Value) (ls : List Nat) (m K : Nat) : Prop := ∃ cs, Row w g 33 cs ∧ ls.length * 2 ≤ cs.size ∧ (∀ j, j < ls.length → cs[j * 2 + 1]? = hds[j]?) ∧ ∀ j, j < m → cs[j * 2]? = some (tmk ls K j)
theorem TlRow.below {w w' : World} {g m K B : Nat} {hs : List Value} {ls : List Nat} (h : TlRow w g hs ls m K) (hb : Below B w w') (hg : g < B) : TlRow w' g hs ls m K := by
  obtain ⟨cs, hr, h1, h2, h3⟩ := h
  exact ⟨cs, hr.below hb hg, h1, h2, h3⟩
theorem TlRow.lt {w : World} {g m K : Nat} {hs : List Value} {ls : List Nat} (h : TlRow w g hs ls m K) : g < w.heap.size := by
  obtain ⟨cs, hr, _⟩ := h
  exact hr.lt
theorem TlRow.set {w : World} {g m K o : Nat} {hs : List Value} {ls : List Nat} (h : TlRow w g hs ls m K) (hm : m < ls.length) (ho : o = m * 2) {u : Value} (hu : u = tmk ls K m) : TlRow (w.setCell ⟨g, o, none⟩ u) g hs ls (m + 1) K := by
  subst ho hu
  obtain ⟨cs, hr, h1, h2, h3⟩ := h
  refine ⟨_, hr.set (m * 2) _, by simpa using h1, fun j hj => ?_, fun j hj => ?_⟩
  · rw [Array.getElem?_setIfInBounds_ne (by omega)]
    exact h2 j hj
  · by_cases e : j = m
    · subst e
      rw [Array.getElem?_setIfInBounds_self_of_lt (by omega)]
    · rw [Array.getElem?_setIfInBounds_ne (by omega)]
      exact h3 j (by omega)
theorem TlRow.old {w : World} {g m K : Nat} {hs : List Value} {ls : List Nat} (h : TlRow w g hs ls m K) {o : Nat} (ho : o < ls.length * 2) : (∃ u, w.cell? ⟨g, o, none⟩ = some u) ∧ w.frozen? ⟨g, o, none⟩ = false := by
  obtain ⟨cs, hr, h1, h2, h3⟩ := h
  exact ⟨⟨cs[o]'(by omega), by rw [hr.cell, Array.getElem?_eq_getElem]⟩, hr.frozen o⟩
theorem TlRow.hd {w : World} {g m K : Nat} {hs : List Value} {ls : List Nat} (h : TlRow w g hs ls m K) {j o : Nat} (hj : j < ls.length) (ho : o = j * 2 + 1) : w.cell? ⟨g, o, none⟩ = hs[j]? := by
  subst ho
  obtain ⟨cs, hr, h1, h2, h3⟩ := h
  rw [hr.cell, h2 j hj]
theorem TlRow.mk {w : World} {g m K : Nat} {hs : List Value} {ls : List Nat} (h : TlRow w g hs ls m K) {j o : Nat} (hj : j < m) (ho : o = j * 2) : w.cell? ⟨g, o, none⟩ = some (tmk ls K j) := by
  subst ho
  obtain ⟨cs, hr, h1, h2, h3⟩ := h
  rw [hr.cell, h3 j hj]
theorem tmk0 (ls : List Nat) (K i : Nat) : tmk ls K (2 * i) = .int .i64 (K + ofT 1 ls (2 * i) : Nat) := by unfold tmk; rw [if_pos (by omega)]
theorem tmk1 (ls : List Nat) (K i : Nat) : tmk ls K (2 * i + 1) = .bool (((K + ofT 1 ls (2 * i + 1) : Nat) : Int) % 3 == 0) := by unfold tmk; rw [if_neg (by omega)]
theorem HT.hdr {w : World} {B m K j : Nat} {hs : List Value} {ls : List Nat} (h : HT w B 1 hs ls m K) (hj : j < ls.length) : ∃ (A : Option Addr) (c : Nat), hs[j]? = some (.slice A (ls.getD j 0) c) := by
  obtain ⟨A, c, e, _⟩ := h.lf j hj
  exact ⟨A, c, e⟩
theorem TlRow.rows {w w' : World} {g m K : Nat} {hs : List Value} {ls : List Nat} (h : TlRow w g hs ls m K) (hr : ∀ b t cs, t ≠ 3 → Row w b t cs → Row w' b t cs) : TlRow w' g hs ls m K := by
  obtain ⟨cs, h0, h1⟩ := h
  exact ⟨cs, hr g _ cs (by decide) h0, h1⟩
theorem TlRow.htset {w : World} {B g m m' K K' : Nat} {hs : List Value} {ls : List Nat} (h : TlRow w g hs ls m K) (hh : HT w B 1 hs ls m' K') (i : Nat) (u : Value) : HT (w.setCell ⟨g, i, none⟩ u) B 1 hs ls m' K' := by
  obtain ⟨cs, h0, h1⟩ := h
  exact hh.set h0 (by decide) i u
/-- Every row of another type than integers and tiles stands. -/
def RKeep (w w' : World) : Prop := ∀ b t cs, t ≠ 3 → t ≠ 33 → Row w b t cs → Row w' b t cs
theorem RKeep.refl (w : World) : RKeep w w := fun _ _ _ _ _ h => h
theorem RKeep.trans {w w' w'' : World} (h : RKeep w w') (h' : RKeep w' w'') : RKeep w w'' := fun b t cs a c r => h' b t cs a c (h b t cs a c r)
theorem RKeep.ints {w w' : World} (h : ∀ b t cs, t ≠ 3 → Row w b t cs → Row w' b t cs) : RKeep w w' := fun b t cs a _ r => h b t cs a r
theorem TlRow.rset {w : World} {g m K : Nat} {hs : List Value} {ls : List Nat} (h : TlRow w g hs ls m K) (i : Nat) (u : Value) : RKeep w (w.setCell ⟨g, i, none⟩ u) := fun b t cs _ ht r => by
  obtain ⟨cg, h0, h1⟩ := h
  exact r.far (p := ⟨g, i, none⟩) (r.ne h0 ht) u
/-- One slice marked, or none where it is empty: what markIntS does. -/
theorem mark_oneW {w : World} {B T m K : Nat} {hs : List Value} {ls : List Nat} (h : HT w B T hs ls m K) (hd : DistH hs) (hm : m < ls.length) (hl : ls.getD m 0 ≤ 2000000) (hk : K + ofT T ls m + 1 ≤ 100000000) (hBs : B ≤ w.heap.size) {A : Option Addr} {c : Nat} (he : hs[m]? = some (.slice A (ls.getD m 0) c)) :
    Calls Try.prog 123 #[.slice A (ls.getD m 0) c, .int .i64 (K + ofT T ls m + 1 : Nat)] w fun e w' => e = .returned (.int .i64 (K + ofT T ls m + 1 + ls.getD m 0 : Nat)) ∧ HT w' B T hs ls (m + 1) K ∧ Below B w w' ∧ w'.heap.size = w.heap.size ∧ ∀ b t cs, t ≠ 3 → Row w b t cs → Row w' b t cs := by
  obtain ⟨A2, c2, e2, h1⟩ := h.lf m hm
  rw [he] at e2
  injection e2 with e2
  injection e2 with x1 _ x3
  subst x1 x3
  by_cases hz : ls.getD m 0 = 0
  · have hs2 := h.skip hz
    rw [hz]
    refine (markNone_any A c _ w).mono ?_
    rintro e w' ⟨rfl, rfl⟩
    exact ⟨rfl, hs2, Below.refl _ _, rfl, fun _ _ _ _ hr => hr⟩
  · rcases h1 with h1 | ⟨b, cs, rfl, hBb, hrow, hsz, _⟩
    · exact absurd h1 hz
    · refine (markLeaf_any b _ c _ cs w hrow hsz (by omega) (by omega)).mono ?_
      rintro e w' ⟨rfl, ⟨cs', hr', hs', hm'⟩, ho⟩
      exact ⟨rfl, h.mark hd hm he (by omega) ho hBb hr' (by omega) hm', ho.below (B := B) (fun _ e => by injection e; omega) hBs, ho.size, fun b' t cs'' ht hr'' => ho.row hr'' (fun e => by injection e with e; exact hr''.ne hrow ht e)⟩
set_option maxHeartbeats 1600000 in
theorem markTile_any (g cap n K B : Nat) (hs : List Value) (ls : List Nat) (w : World) (hr : TlRow w g hs ls 0 K) (H : HT w B 1 hs ls 0 K) (hd : DistH hs) (hn : ls.length = 2 * n) (hl : ∀ j, j < 2 * n → ls.getD j 0 ≤ 2000000) (ht : K + ofT 1 ls (2 * n) ≤ 50000000) (hnb : n ≤ 2000000) (hBg : B ≤ g) :
    Calls Try.prog 80 #[.slice (some ⟨g, 0, none⟩) n cap, .int .i64 K] w fun e w' => e = .returned (.int .i64 (K + ofT 1 ls (2 * n) : Nat)) ∧ TlRow w' g hs ls (2 * n) K ∧ HT w' B 1 hs ls (2 * n) K ∧ Below B w w' ∧ w'.heap.size = w.heap.size ∧ RKeep w w' := by
  have HR0 := Lib.hid hr
  have H0 := Lib.hid H
  have HD := Lib.hid hd
  have HN := Lib.hid hn
  have HL := Lib.hid hl
  have HMO := Lib.hid (fun j (hj : j ≤ 2 * n) => Nat.le_trans (Nat.add_le_add_left (ofT_mono 1 ls hj) K) ht)
  clear hr H hd hn hl ht
  go_enter Try.func80, Try.ntmps80
  go_wp2
  go_loopw [1, 5] (fun kv iv wr => ∃ (j : Nat), j ≤ n ∧ iv = .int .i64 j ∧ kv = .int .i64 (K + ofT 1 ls (2 * j) : Nat) ∧ Hid (TlRow wr g hs ls (2 * j) K) ∧ Hid (HT wr B 1 hs ls (2 * j) K) ∧ Hid (Below B w wr) ∧ Hid (wr.heap.size = w.heap.size) ∧ Hid (RKeep w wr)) (fun _ iv _ => n - (intOf iv).toNat)
  case atStart => exact ⟨0, Nat.zero_le _, rfl, rfl, HR0, H0, Lib.hid (Below.refl _ _), Lib.hid rfl, Lib.hid (RKeep.refl _)⟩
  case round =>
    clear HR0 H0
    obtain ⟨j, hj, rfl, rfl, HR, HH, HB, HZ, HQ⟩ := hrel
    by_cases hlt : j < n
    · have hj0 : 2 * j < ls.length := by rw [HN.out]; omega
      have hj1 : 2 * j + 1 < ls.length := by rw [HN.out]; omega
      obtain ⟨A1, c1, he1⟩ := HH.out.hdr hj0
      obtain ⟨A2, c2, he2⟩ := HH.out.hdr hj1
      have hlb1 := HL.out (2 * j) (by omega)
      have hlb2 := HL.out (2 * j + 1) (by omega)
      have hkb := HMO.out (2 * j + 1 + 1) (by omega)
      have HS1 : Hid (K + ofT 1 ls (2 * j + 1) = K + ofT 1 ls (2 * j) + 1 + ls.getD (2 * j) 0) := Lib.hid (by simp only [ofT]; omega)
      have HS2 : Hid (K + ofT 1 ls (2 * (j + 1)) = K + ofT 1 ls (2 * j) + 1 + ls.getD (2 * j) 0 + 1 + ls.getD (2 * j + 1) 0) := Lib.hid (by rw [show 2 * (j + 1) = 2 * j + 1 + 1 by omega]; simp only [ofT]; omega)
      rw [show 2 * j + 1 + 1 = 2 * (j + 1) by omega, HS2.out] at hkb
      have hgw : g < wr.heap.size := HR.out.lt
      have hBw : B ≤ wr.heap.size := by omega
      obtain ⟨⟨old0, hc0⟩, hf0⟩ := HR.out.old (o := j * 4) (by omega)
      have hc1 : wr.cell? ⟨g, j * 4 + 1, none⟩ = some (.slice A1 (ls.getD (2 * j) 0) c1) := (HR.out.hd hj0 (by omega)).trans he1
      have HR1 := Lib.hid (HR.out.set hj0 (o := j * 4) (by omega) (u := .int .i64 (K + ofT 1 ls (2 * j) : Nat)) (tmk0 ls K j).symm)
      have hHT1 := HR.out.htset HH.out (j * 4) (.int .i64 (K + ofT 1 ls (2 * j) : Nat))
      have HMAIN := Lib.hid (mark_oneW hHT1 HD.out hj0 hlb1 (by omega) (by simpa [World.setCell] using hBw) he1)
      have HB1 := Lib.hid (HB.out.setCell (p := ⟨g, j * 4, none⟩) hBg (.int .i64 (K + ofT 1 ls (2 * j) : Nat)))
      have hz1 : (wr.setCell ⟨g, j * 4, none⟩ (.int .i64 (K + ofT 1 ls (2 * j) : Nat))).heap.size = wr.heap.size := by simp [World.setCell]
      have HZ1 := Lib.hid (hz1.trans HZ.out)
      have HQ1 := Lib.hid (HQ.out.trans (HR.out.rset (j * 4) (.int .i64 (K + ofT 1 ls (2 * j) : Nat))))
      have HE2 := Lib.hid he2
      have HK1 := Lib.hid (tmk1 ls K j)
      rw [HS1.out] at HK1
      have HMO1 : Hid (K + ofT 1 ls (2 * j + 1) + 1 ≤ 100000000) := Lib.hid (by rw [HS1.out]; omega)
      clear hHT1 hz1 he1 he2 HR HB HZ HH HQ
      generalize hl1 : ls.getD (2 * j) 0 = l1 at *
      generalize hl2 : ls.getD (2 * j + 1) 0 = l2 at *
      generalize hkk : K + ofT 1 ls (2 * j) = kk at *
      have HL1 := Lib.hid hl1
      have HL2 := Lib.hid hl2
      have HKK := Lib.hid hkk
      clear hl1 hl2 hkk
      go_wp2_with fail
      rw [show (kk : Int) + 1 = ((kk + 1 : Nat) : Int) by omega]
      refine HMAIN.out.mono ?_
      rintro e w2 ⟨rfl, ht2, hb2, hz2, hrows2⟩
      have hr2 := HR1.out.rows hrows2
      have hB2 := HB1.out.trans hb2
      have hZ2 := hz2.trans HZ1.out
      have hQ2 := HQ1.out.trans (RKeep.ints hrows2)
      clear HQ1 HMAIN HR1 HB1 HZ1 hrows2 hb2 hz2 hc0 hf0 hc1
      obtain ⟨⟨old2, hc2⟩, hf2⟩ := hr2.old (o := j * 4 + 2) (by omega)
      have hc3 : w2.cell? ⟨g, j * 4 + 3, none⟩ = some (.slice A2 l2 c2) := (hr2.hd hj1 (by omega)).trans HE2.out
      have hgw2 : g < w2.heap.size := hr2.lt
      have em : ((kk + 1 + l1 : Nat) : Int) = (kk : Int) + 1 + (l1 : Int) := by omega
      have HR3 := Lib.hid (hr2.set hj1 (o := j * 4 + 2) (by omega) (u := .bool (((kk + 1 + l1 : Nat) : Int) % 3 == 0)) HK1.out.symm)
      have hHT3 := hr2.htset ht2 (j * 4 + 2) (.bool (((kk + 1 + l1 : Nat) : Int) % 3 == 0))
      have HB3 := Lib.hid (hB2.setCell (p := ⟨g, j * 4 + 2, none⟩) hBg (.bool (((kk + 1 + l1 : Nat) : Int) % 3 == 0)))
      have hz3 : (w2.setCell ⟨g, j * 4 + 2, none⟩ (.bool (((kk + 1 + l1 : Nat) : Int) % 3 == 0))).heap.size = w2.heap.size := by simp [World.setCell]
      have HZ3 := Lib.hid (hz3.trans hZ2)
      have HQ3 := Lib.hid (hQ2.trans (hr2.rset (j * 4 + 2) (.bool (((kk + 1 + l1 : Nat) : Int) % 3 == 0))))
      have HMAIN2 := Lib.hid (mark_oneW hHT3 HD.out hj1 (by rw [HL2.out]; exact hlb2) HMO1.out (by rw [hz3]; omega) (by rw [HL2.out]; exact HE2.out))
      rw [HL2.out, HS1.out] at HMAIN2
      clear hHT3 hz3 hr2 ht2 hB2 hZ2 hQ2
      rw [em] at HR3 HB3 HZ3 HMAIN2 HQ3
      have hk0 : (0 : Int) ≤ (kk : Int) + 1 + (l1 : Int) := by omega
      go_wp2_with fail
      rw [show (kk : Int) + 1 + (l1 : Int) + 1 = ((kk + 1 + l1 + 1 : Nat) : Int) by omega]
      refine HMAIN2.out.mono ?_
      rintro e w4 ⟨rfl, ht4, hb4, hz4, hrows4⟩
      have HR4 := Lib.hid (HR3.out.rows hrows4)
      have HB4 := Lib.hid (HB3.out.trans hb4)
      have HZ4 := Lib.hid (hz4.trans HZ3.out)
      have HT4 := Lib.hid ht4
      have HQ4 := Lib.hid (HQ3.out.trans (RKeep.ints hrows4))
      clear HQ3 HMAIN2 HR3 HB3 HZ3 hrows4 hb4 hz4 ht4 hc2 hf2 hc3
      rw [show 2 * j + 1 + 1 = 2 * (j + 1) by omega] at HR4 HT4
      go_wp2
      go_roundw
      case rel => exact ⟨j + 1, by omega, by go_num, by rw [HS2.out]; go_num, HR4, HT4, HB4, HZ4, HQ4⟩
      case measure => simp [intOf]; omega
    · obtain rfl : j = n := by omega
      go_wp2
      go_ret
      exact ⟨rfl, HR.out, HH.out, HB.out, HZ.out, HQ.out⟩
/-- The row of the pads, the first m of them marked. -/
def PdRow (w : World) (g n m K : Nat) : Prop := ∃ cs, Row w g 81 cs ∧ n * 2 ≤ cs.size ∧ ∀ j, j < m → cs[j * 2]? = some (.int .i64 (K + j * 2 : Nat)) ∧ cs[j * 2 + 1]? = some (.bool (((K + j * 2 + 1 : Nat) : Int) % 3 == 0))
theorem PdRow.below {w w' : World} {g n m K B : Nat} (h : PdRow w g n m K) (hb : Below B w w') (hg : g < B) : PdRow w' g n m K := by
  obtain ⟨cs, hr, h1⟩ := h
  exact ⟨cs, hr.below hb hg, h1⟩
theorem PdRow.lt {w : World} {g n m K : Nat} (h : PdRow w g n m K) : g < w.heap.size := by
  obtain ⟨cs, hr, _⟩ := h
  exact hr.lt
theorem PdRow.old {w : World} {g n m K : Nat} (h : PdRow w g n m K) {o : Nat} (ho : o < n * 2) : (∃ u, w.cell? ⟨g, o, none⟩ = some u) ∧ w.frozen? ⟨g, o, none⟩ = false := by
  obtain ⟨cs, hr, h1, h2⟩ := h
  exact ⟨⟨cs[o]'(by omega), by rw [hr.cell, Array.getElem?_eq_getElem]⟩, hr.frozen o⟩
theorem PdRow.set {w : World} {g n m K : Nat} (h : PdRow w g n m K) (hm : m < n) : PdRow ((w.setCell ⟨g, m * 2, none⟩ (.int .i64 (K + m * 2 : Nat))).setCell ⟨g, m * 2 + 1, none⟩ (.bool (((K + m * 2 + 1 : Nat) : Int) % 3 == 0))) g n (m + 1) K := by
  obtain ⟨cs, hr, h1, h2⟩ := h
  refine ⟨_, (hr.set (m * 2) _).set (m * 2 + 1) _, by simpa using h1, fun j hj => ?_⟩
  by_cases e : j = m
  · subst e
    exact ⟨by rw [Array.getElem?_setIfInBounds_ne (by omega), Array.getElem?_setIfInBounds_self_of_lt (by omega)], by rw [Array.getElem?_setIfInBounds_self_of_lt (by simp; omega)]⟩
  · obtain ⟨a, b⟩ := h2 j (by omega)
    exact ⟨by rw [Array.getElem?_setIfInBounds_ne (by omega), Array.getElem?_setIfInBounds_ne (by omega)]; exact a, by rw [Array.getElem?_setIfInBounds_ne (by omega), Array.getElem?_setIfInBounds_ne (by omega)]; exact b⟩
set_option maxHeartbeats 800000 in
theorem markPad_any (g cap n K B : Nat) (w : World) (hr : PdRow w g n 0 K) (ht : K ≤ 50000000) (hnb : n ≤ 2000000) (_hBg : B ≤ g) :
    Calls Try.prog 81 #[.slice (some ⟨g, 0, none⟩) n cap, .int .i64 K] w fun e w' => e = .returned (.int .i64 (K + n * 2 : Nat)) ∧ PdRow w' g n n K ∧ Only (some g) w w' := by
  have HR0 := Lib.hid hr
  clear hr
  go_enter Try.func81, Try.ntmps81
  go_wp2
  go_loopw [1, 5] (fun kv iv wr => ∃ (j : Nat), j ≤ n ∧ iv = .int .i64 j ∧ kv = .int .i64 (K + j * 2 : Nat) ∧ Hid (PdRow wr g n j K) ∧ Hid (Only (some g) w wr)) (fun _ iv _ => n - (intOf iv).toNat)
  case atStart => exact ⟨0, Nat.zero_le _, rfl, rfl, HR0, Lib.hid (Only.refl _ _)⟩
  case round =>
    clear HR0
    obtain ⟨j, hj, rfl, rfl, HR, HO⟩ := hrel
    by_cases hlt : j < n
    · obtain ⟨⟨old0, hc0⟩, hf0⟩ := HR.out.old (o := j * 2) (by omega)
      obtain ⟨⟨old1, hc1⟩, hf1⟩ := HR.out.old (o := j * 2 + 1) (by omega)
      have HR1 := Lib.hid (HR.out.set hlt)
      have HO1 := Lib.hid ((HO.out.set (j * 2) (.int .i64 (K + j * 2 : Nat))).set (j * 2 + 1) (.bool (((K + j * 2 + 1 : Nat) : Int) % 3 == 0)))
      have em : ((K + j * 2 + 1 : Nat) : Int) = ((K + j * 2 : Nat) : Int) + 1 := by omega
      have HST : Hid (K + (j + 1) * 2 = K + j * 2 + 1 + 1) := Lib.hid (by omega)
      rw [em] at HR1 HO1
      have hkb : K + j * 2 ≤ 54000002 := by omega
      clear em HR HO
      generalize hkk : K + j * 2 = kk at *
      have hk0 : (0 : Int) ≤ (kk : Int) + 1 := by omega
      clear hkk
      go_wp2
      go_roundw
      case rel => exact ⟨j + 1, by omega, by go_num, by rw [HST.out]; go_num, HR1, HO1⟩
      case measure => simp [intOf]; omega
    · obtain rfl : j = n := by omega
      go_wp2
      go_ret
      exact ⟨rfl, HR.out, HO.out⟩
end Go.Proofs.Ytdadokcodklfgaa
/- The contracts of comparison and marks of whole configurations. -/
namespace Go.Proofs.Ytdadokcodklfgaa
open Go.RowKit Go.Deep Cut

/-- The value of a configuration. -/
abbrev cfv (TA : Option Addr) (n tc : Nat) (PA : Option Addr) (m pc : Nat) : Value := .agg #[.slice TA n tc, .slice PA m pc]
/-- A configuration in the cell of a variable. -/
structure CBox (w : World) (H : Nat) (TA : Option Addr) (n tc : Nat) (PA : Option Addr) (m pc : Nat) : Prop where
  c0 : w.cell? ⟨H, 0, none⟩ = some (.slice TA n tc)
  c1 : w.cell? ⟨H, 1, none⟩ = some (.slice PA m pc)
theorem CBox.new (w : World) (TA : Option Addr) (n tc : Nat) (PA : Option Addr) (m pc : Nat) (t : TypeId) : CBox (w.alloc (.cells #[.slice TA n tc, .slice PA m pc] t)) w.heap.size TA n tc PA m pc := by
  have h : Row (w.alloc (.cells #[.slice TA n tc, .slice PA m pc] t)) w.heap.size t #[.slice TA n tc, .slice PA m pc] := heap_alloc_new w _
  exact ⟨h.cell 0, h.cell 1⟩
theorem CBox.below {w w' : World} {B H : Nat} {TA : Option Addr} {n tc : Nat} {PA : Option Addr} {m pc : Nat} (h : CBox w H TA n tc PA m pc) (hb : Below B w w') (hH : H < B) : CBox w' H TA n tc PA m pc :=
  ⟨(hb.cell (p := ⟨H, 0, none⟩) hH).trans h.c0, (hb.cell (p := ⟨H, 1, none⟩) hH).trans h.c1⟩
theorem CBox.of {w w' : World} {H : Nat} {TA : Option Addr} {n tc : Nat} {PA : Option Addr} {m pc : Nat} (h : CBox w H TA n tc PA m pc) (hb : w'.heap[H]? = w.heap[H]?) : CBox w' H TA n tc PA m pc :=
  ⟨(World.cell?_of_block (a := ⟨H, 0, none⟩) hb).trans h.c0, (World.cell?_of_block (a := ⟨H, 1, none⟩) hb).trans h.c1⟩
theorem CBox.lt {w : World} {H : Nat} {TA : Option Addr} {n tc : Nat} {PA : Option Addr} {m pc : Nat} (h : CBox w H TA n tc PA m pc) : H < w.heap.size := by
  have h0 := h.c0
  unfold World.cell? at h0
  cases e : w.heap[H]? with
  | none => simp [e] at h0
  | some o => exact (Array.getElem?_eq_some_iff.1 e).1
theorem eqConfig_any (TA TA' PA PA' : Option Addr) (n m tc tc' pc pc' : Nat) (ts : List Tl) (ps : List Pd) (w : World) (hx : TlIn w w.heap.size TA ts) (hx' : TlIn w w.heap.size TA' ts) (hy : PdIn w w.heap.size PA ps) (hy' : PdIn w w.heap.size PA' ps) (hn : ts.length = n) (hm : ps.length = m) (hT : TlBd ts) (hP : m ≤ 2000000) :
    Calls Try.prog 30 #[cfv TA n tc PA m pc, cfv TA' n tc' PA' m pc'] w fun e w' => e = .returned (.bool true) ∧ Below w.heap.size w w' := by
  have HX := Lib.hid hx
  have HX' := Lib.hid hx'
  have HY := Lib.hid hy
  have HY' := Lib.hid hy'
  have HN := Lib.hid hn
  have HM := Lib.hid hm
  have HT := Lib.hid hT
  have HW0 : Hid (Below w.heap.size w ((w.alloc (.cells #[.slice TA n tc, .slice PA m pc] 26)).alloc (.cells #[.slice TA' n tc', .slice PA' m pc'] 26))) := Lib.hid (((Below.refl _ _).alloc (Nat.le_refl _) _).alloc (by simp) _)
  have HR0 := Lib.hid ((CBox.new w TA n tc PA m pc 26).below ((Below.refl (w.heap.size + 1) _).alloc (by simp) (.cells #[.slice TA' n tc', .slice PA' m pc'] 26)) (Nat.lt_succ_self _))
  have hr1 := CBox.new (w.alloc (.cells #[.slice TA n tc, .slice PA m pc] 26)) TA' n tc' PA' m pc' 26
  rw [show (w.alloc (.cells #[.slice TA n tc, .slice PA m pc] 26)).heap.size = w.heap.size + 1 by simp] at hr1
  have HR1 := Lib.hid hr1
  have hz0 : w.heap.size + 1 < ((w.alloc (.cells #[.slice TA n tc, .slice PA m pc] 26)).alloc (.cells #[.slice TA' n tc', .slice PA' m pc'] 26)).heap.size := by simp
  clear hx hy hx' hy' hn hm hT hr1
  go_enter Try.func30, Try.ntmps30
  go_wp2_with fail
  generalize (w.alloc (.cells #[.slice TA n tc, .slice PA m pc] 26)).alloc (.cells #[.slice TA' n tc', .slice PA' m pc'] 26) = w0 at *
  refine (eqTileS_any TA TA' n tc tc' ts _ ((HX.out.below HW0.out).mono HW0.out.size) ((HX'.out.below HW0.out).mono HW0.out.size) HN.out HT.out).mono ?_
  rintro e w1 ⟨rfl, hb1⟩
  have a1 := (HR0.out.below hb1 (by omega)).c1
  have b1 := (HR1.out.below hb1 (by omega)).c1
  have HL1 := Lib.hid (HW0.out.trans (hb1.mono HW0.out.size))
  clear hb1 HR0 HR1
  go_wp2_with fail
  refine (eqPadS_any PA PA' m pc pc' ps _ ((HY.out.below HL1.out).mono HL1.out.size) ((HY'.out.below HL1.out).mono HL1.out.size) HM.out (by omega)).mono ?_
  rintro e w2 ⟨rfl, hb2⟩
  have HL2 := Lib.hid (HL1.out.trans (hb2.mono HL1.out.size))
  clear hb2 a1 b1
  go_wp2
  go_ret
  exact ⟨rfl, HL2.out⟩
theorem HT.only {w w' : World} {B T m K g : Nat} {t : TypeId} {cg : Array Value} {hs : List Value} {ls : List Nat} (h : HT w B T hs ls m K) (ho : Only (some g) w w') (hg : Row w g t cg) (ht : t ≠ 3) : HT w' B T hs ls m K := ⟨h.len, fun j hj => by
  obtain ⟨A, cap, e, h1⟩ := h.lf j hj
  refine ⟨A, cap, e, ?_⟩
  rcases h1 with h1 | ⟨b, cs, e1, h2, h3, h4, h5⟩
  · exact .inl h1
  · exact .inr ⟨b, cs, e1, h2, ho.row h3 (fun e => by injection e with e; exact h3.ne hg (fun e' => ht e'.symm) e), h4, h5⟩⟩
/-- A configuration in rows of its own, marked (or, with m = 0, to be marked). -/
structure CMk (w : World) (B g gp n np m mp K : Nat) (hds : List Value) (ls : List Nat) : Prop where
  tl : TlRow w g hds ls m K
  ht : HT w B 1 hds ls m K
  pd : PdRow w gp np mp (K + ofT 1 ls (2 * n))
  dist : DistH hds
  len : ls.length = 2 * n
  bd : ∀ j, j < 2 * n → ls.getD j 0 ≤ 2000000
  tot : K + ofT 1 ls (2 * n) ≤ 50000000
  n1 : n ≤ 2000000
  np1 : np ≤ 2000000
  Bg : B ≤ g
  Bp : B ≤ gp
theorem CMk.on {w w' : World} {B g gp n np m mp K : Nat} {hds : List Value} {ls : List Nat} (h : CMk w B g gp n np m mp K hds ls) (hb : Below w.heap.size w w') : CMk w' B g gp n np m mp K hds ls :=
  { h with tl := h.tl.below hb h.tl.lt, ht := h.ht.on hb, pd := h.pd.below hb h.pd.lt }
/-- Every row of another type than integers, tiles and pads stands. -/
def RKeep3 (w w' : World) : Prop := ∀ b t cs, t ≠ 3 → t ≠ 33 → t ≠ 81 → Row w b t cs → Row w' b t cs
theorem markConfig_any (g gp n np tc pc K B : Nat) (hds : List Value) (ls : List Nat) (w : World) (h : CMk w B g gp n np 0 0 K hds ls) :
    Calls Try.prog 33 #[cfv (some ⟨g, 0, none⟩) n tc (some ⟨gp, 0, none⟩) np pc, .int .i64 K] w fun e w' => e = .returned (.int .i64 (K + ofT 1 ls (2 * n) + np * 2 : Nat)) ∧ CMk w' B g gp n np (2 * n) np K hds ls ∧ Below B w w' ∧ RKeep3 w w' := by
  have hgz : g < w.heap.size := h.tl.lt
  have hBg := h.Bg
  have hBw : B ≤ w.heap.size := by omega
  have H0 := Lib.hid (h.on ((Below.refl _ w).alloc (Nat.le_refl _) (.cells #[.slice (some ⟨g, 0, none⟩) n tc, .slice (some ⟨gp, 0, none⟩) np pc] 26)))
  have HB0 : Hid (Below w.heap.size w (w.alloc (.cells #[.slice (some ⟨g, 0, none⟩) n tc, .slice (some ⟨gp, 0, none⟩) np pc] 26))) := Lib.hid ((Below.refl _ _).alloc (Nat.le_refl _) _)
  have HK0 : Hid (RKeep3 w (w.alloc (.cells #[.slice (some ⟨g, 0, none⟩) n tc, .slice (some ⟨gp, 0, none⟩) np pc] 26))) := Lib.hid (fun b t cs _ _ _ r => (Below.heap_alloc _ _ _ r.lt).trans r)
  have HR0 := Lib.hid (heap_alloc_new w (.cells #[.slice (some ⟨g, 0, none⟩) n tc, .slice (some ⟨gp, 0, none⟩) np pc] 26))
  have hz0 : w.heap.size < (w.alloc (.cells #[.slice (some ⟨g, 0, none⟩) n tc, .slice (some ⟨gp, 0, none⟩) np pc] 26)).heap.size := by simp
  clear h
  go_enter Try.func33, Try.ntmps33
  go_wp2_with fail
  generalize w.alloc (.cells #[.slice (some ⟨g, 0, none⟩) n tc, .slice (some ⟨gp, 0, none⟩) np pc] 26) = w0 at *
  have HM := Lib.hid (markTile_any g tc n K B hds ls w0 H0.out.tl H0.out.ht H0.out.dist H0.out.len H0.out.bd H0.out.tot H0.out.n1 H0.out.Bg)
  refine HM.out.mono ?_
  rintro e w1 ⟨rfl, ht1, hh1, hb1, hz1, hq1⟩
  have hbox : CBox w1 w.heap.size (some ⟨g, 0, none⟩) n tc (some ⟨gp, 0, none⟩) np pc := by
    have h := hq1 w.heap.size _ _ (by decide) (by decide) HR0.out
    exact ⟨h.cell 0, h.cell 1⟩
  have hc1 := hbox.c1
  have hp1 : PdRow w1 gp np 0 (K + ofT 1 ls (2 * n)) := by
    obtain ⟨cs, hr, h1, h2⟩ := H0.out.pd
    exact ⟨cs, hq1 _ _ _ (by decide) (by decide) hr, h1, h2⟩
  have HP := Lib.hid (markPad_any gp pc np (K + ofT 1 ls (2 * n)) B w1 hp1 H0.out.tot H0.out.np1 H0.out.Bp)
  have HNE : Hid (g ≠ gp) := Lib.hid (by
    obtain ⟨cg, hcg, _⟩ := ht1
    obtain ⟨cp, hcp, _⟩ := hp1
    exact hcg.ne hcp (by decide))
  obtain ⟨cp1, hcp1, _⟩ := id hp1
  have HCP := Lib.hid hcp1
  clear hcp1
  have HT1 := Lib.hid ht1
  have HH1 := Lib.hid hh1
  have HB1 := Lib.hid ((HB0.out.mono hBw).trans hb1)
  have HK1 : Hid (RKeep3 w w1) := Lib.hid (fun b t cs h1 h2 h3 r => hq1 b t cs h1 h2 (HK0.out b t cs h1 h2 h3 r))
  clear HM ht1 hh1 hb1 hq1 hbox hp1 HR0
  have hkb := H0.out.tot
  generalize hkk : K + ofT 1 ls (2 * n) = kk at *
  go_wp2_with fail
  refine HP.out.mono ?_
  rintro e w2 ⟨rfl, hp2, ho2⟩
  have HP2 := Lib.hid hp2
  have HT2 : Hid (TlRow w2 g hds ls (2 * n) K) := Lib.hid (by
    obtain ⟨cs, hr, h1⟩ := HT1.out
    exact ⟨cs, ho2.row hr (fun e => by injection e with e; exact HNE.out e), h1⟩)
  have HH2 : Hid (HT w2 B 1 hds ls (2 * n) K) := Lib.hid (HH1.out.only ho2 HCP.out (by decide))
  have HB2 := Lib.hid (HB1.out.trans (ho2.below (B := B) (fun q e => by injection e with e; rw [← e]; exact H0.out.Bp) (by have := HB1.out.size; omega)))
  have HK2 : Hid (RKeep3 w w2) := Lib.hid (fun b t cs h1 h2 h3 r => ho2.row (HK1.out b t cs h1 h2 h3 r) (fun e => by injection e with e; exact (HK1.out b t cs h1 h2 h3 r).ne HCP.out h3 e))
  clear HP hp2 ho2 HT1 HH1 HB1 hc1
  go_wp2
  go_ret
  exact ⟨congrArg (fun z => Ending.returned (.int .i64 z)) (by rw [hkk]; omega : (kk : Int) + np * 2 = ((K + ofT 1 ls (2 * n) + np * 2 : Nat) : Int)), { H0.out with tl := HT2.out, ht := HH2.out, pd := by rw [hkk]; exact HP2.out }, HB2.out, HK2.out⟩
/-- The lengths of all lists. -/
def lensT (ts : List Tl) : List Nat := (List.range (2 * ts.length)).map fun j => if j % 2 = 0 then (ts.getD (j / 2) tl0).2.1.length else (ts.getD (j / 2) tl0).2.2.2.length
theorem lensT_len (ts : List Tl) : (lensT ts).length = 2 * ts.length := by simp [lensT]
theorem lensT_get (ts : List Tl) {j : Nat} (hj : j < 2 * ts.length) : (lensT ts).getD j 0 = if j % 2 = 0 then (ts.getD (j / 2) tl0).2.1.length else (ts.getD (j / 2) tl0).2.2.2.length := by
  rw [List.getD_eq_getElem?_getD, lensT, List.getElem?_map, List.getElem?_range hj]; rfl
theorem dist_pick {hs hds : List Value} {f : Nat → Nat} (hd : DistH hs) (hf : ∀ j k, j < k → f j < f k) (h : ∀ j, j < hds.length → hds[j]? = hs[f j]?) : DistH hds := fun j k hjk u v hu hv => by
  have hk := (List.getElem?_eq_some_iff.1 hv).1
  rw [h j (by omega)] at hu
  rw [h k hk] at hv
  exact hd (f j) (f k) (hf j k hjk) u v hu hv
theorem leafZ_size {w : World} {S : Nat → Prop} {A : Option Addr} {x : List Int} (h : LeafZ w S A x) : x.length = 0 ∨ ∃ (b : Nat) (cs : Array Value), A = some ⟨b, 0, none⟩ ∧ S b ∧ Row w b 3 cs ∧ x.length ≤ cs.size := by
  rcases h with h | ⟨b, cs, eA, hS, hr, hc⟩
  · exact .inl (by rw [h]; rfl)
  · refine .inr ⟨b, cs, eA, hS, hr, ?_⟩
    rcases Nat.eq_zero_or_pos x.length with h0 | h0
    · omega
    · obtain ⟨h9, _⟩ := Array.getElem?_eq_some_iff.1 (hc (x.length - 1) (by omega))
      omega
theorem TlAt.marks {w : World} {B g cap : Nat} {ts : List Tl} {hs : List Value} (h : TlAt w B ts hs (some ⟨g, 0, none⟩) cap) (hd : DistH hs) (K : Nat) : ∃ hds, TlRow w g hds (lensT ts) 0 K ∧ HT w B 1 hds (lensT ts) 0 K ∧ DistH hds := by
  obtain ⟨cur, hrow, _, hnc, hcs, hhl, hget⟩ := own_partsE h.1
  have hll := lensT_len ts
  have hE : ∀ j, j < 2 * ts.length → ((List.range (2 * ts.length)).map fun j => hs.getD (j * 2 + 1) (.bool false))[j]? = hs[j * 2 + 1]? := fun j hj => by
    rw [List.getElem?_map, List.getElem?_range hj]
    show some (hs.getD (j * 2 + 1) (.bool false)) = _
    rw [List.getD_eq_getElem?_getD, List.getElem?_eq_getElem (by omega)]
    rfl
  refine ⟨(List.range (2 * ts.length)).map fun j => hs.getD (j * 2 + 1) (.bool false), ⟨cur, hrow, ?_, fun j hj => ?_, fun j hj => by omega⟩, ⟨by simp [hll], fun j hj => ?_⟩, ?_⟩
  · rw [hll, hcs]; omega
  · rw [hll] at hj
    rw [hE j hj]
    exact hget _ (by omega)
  · rw [hll] at hj
    obtain ⟨A1, c1, A2, c2, ⟨_, e1, _, e3⟩, ⟨x1, x2⟩, _⟩ := h.2.2 (j / 2) (by omega)
    rw [lensT_get ts hj, hE j hj]
    by_cases hp : j % 2 = 0
    · rw [if_pos hp, show j * 2 + 1 = j / 2 * 4 + 1 by omega]
      refine ⟨A1, c1, e1, ?_⟩
      rcases leafZ_size x1 with h0 | ⟨b, cs, eA, hS, hr, hz⟩
      · exact .inl h0
      · exact .inr ⟨b, cs, eA, hS.1, hr, hz, fun h => absurd h (by omega)⟩
    · rw [if_neg hp, show j * 2 + 1 = j / 2 * 4 + 3 by omega]
      refine ⟨A2, c2, e3, ?_⟩
      rcases leafZ_size x2 with h0 | ⟨b, cs, eA, hS, hr, hz⟩
      · exact .inl h0
      · exact .inr ⟨b, cs, eA, hS.1, hr, hz, fun h => absurd h (by omega)⟩
  · exact dist_pick (f := fun j => j * 2 + 1) hd (fun j k h => by omega) (fun j hj => hE j (by simpa using hj))
/-- A configuration in memory of the call's own. -/
structure CfAt (w : World) (B : Nat) (ts : List Tl) (ps : List Pd) (hs : List Value) (TA : Option Addr) (tc : Nat) (PA : Option Addr) (pc : Nat) : Prop where
  tl : TlAt w B ts hs TA tc
  pd : PdAt w B ps PA pc
  dist : DistH hs
theorem CfAt.on {w w' : World} {B : Nat} {ts : List Tl} {ps : List Pd} {hs : List Value} {TA : Option Addr} {tc : Nat} {PA : Option Addr} {pc : Nat} (h : CfAt w B ts ps hs TA tc PA pc) (hb : Below w.heap.size w w') : CfAt w' B ts ps hs TA tc PA pc := ⟨h.tl.on hb, h.pd.on hb, h.dist⟩
theorem CfAt.low {w : World} {B B' : Nat} {ts : List Tl} {ps : List Pd} {hs : List Value} {TA : Option Addr} {tc : Nat} {PA : Option Addr} {pc : Nat} (h : CfAt w B ts ps hs TA tc PA pc) (hb : B' ≤ B) : CfAt w B' ts ps hs TA tc PA pc := ⟨h.tl.low hb, h.pd.low hb, h.dist⟩
theorem CfAt.drew {w : World} {B : Nat} {ts : List Tl} {ps : List Pd} {hs : List Value} {TA : Option Addr} {tc : Nat} {PA : Option Addr} {pc : Nat} (h : CfAt w B ts ps hs TA tc PA pc) : CfAt w.drew B ts ps hs TA tc PA pc := ⟨h.tl, h.pd, h.dist⟩
theorem CfAt.marks {w : World} {B : Nat} {ts : List Tl} {ps : List Pd} {hs : List Value} {g gp tc pc : Nat} (h : CfAt w B ts ps hs (some ⟨g, 0, none⟩) tc (some ⟨gp, 0, none⟩) pc) (K : Nat) (hbd : ∀ j, j < 2 * ts.length → (lensT ts).getD j 0 ≤ 2000000) (htot : K + ofT 1 (lensT ts) (2 * ts.length) ≤ 50000000) (h1 : ts.length ≤ 2000000) (h2 : ps.length ≤ 2000000) :
    ∃ hds, CMk w B g gp ts.length ps.length 0 0 K hds (lensT ts) := by
  obtain ⟨hds, a, b, c⟩ := h.tl.marks h.dist K
  obtain ⟨cur, hrow, hBp, hnc, hcs, _, _⟩ := own_partsE h.pd
  exact ⟨hds, a, b, ⟨cur, hrow, by rw [hcs]; omega, fun j hj => by omega⟩, c, lensT_len ts, hbd, htot, h1, h2, (h.tl.ltA g rfl).1, hBp⟩
end Go.Proofs.Ytdadokcodklfgaa
