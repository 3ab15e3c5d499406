/- Memory of lists of Ce: headers of leaves among other cells. -/
import Derived.Test.YthcpgbfghededaaEL
import Derived.Test.YthcpgbfghededaaEQ
namespace Go.Proofs.Ythcpgbfghededaa
open Go.RowKit Go.Deep Cut

abbrev Cl := Nat × List Nat × Nat × Bool
/-- The cells of such a list, the leaves in S. -/
def CeHdrs (w : World) (S : Nat → Prop) (hs : List Value) (es : List Cl) : Prop :=
  hs.length = es.length * 4 ∧ ∀ k, k < es.length → ∃ (A' : Option Addr) (cap : Nat), hs[k * 4]? = some (.int .i64 ((es.getD k (0, [], 0, false)).1 : Nat)) ∧ hs[k * 4 + 1]? = some (.slice A' (es.getD k (0, [], 0, false)).2.1.length cap) ∧ (hs[k * 4 + 2]? = some (.int .i64 ((es.getD k (0, [], 0, false)).2.2.1 : Nat)) ∧ hs[k * 4 + 3]? = some (.bool (es.getD k (0, [], 0, false)).2.2.2)) ∧ LeafIn w S A' (es.getD k (0, [], 0, false)).2.1
theorem CeHdrs.kept {w w' : World} {S T : Nat → Prop} {hs : List Value} {es : List Cl} (h : CeHdrs w S hs es) (hS : ∀ b, S b → w'.heap[b]? = w.heap[b]?) (hT : ∀ b, S b → T b) : CeHdrs w' T hs es := ⟨h.1, fun k hk => by
  obtain ⟨A', cap, e0, e1, e2, hx⟩ := h.2 k hk
  exact ⟨A', cap, e0, e1, e2, hx.kept hS hT⟩⟩
theorem CeHdrs.nil (w : World) (S : Nat → Prop) : CeHdrs w S [] [] := ⟨rfl, fun k hk => absurd hk (by simp)⟩
theorem CeHdrs.snoc {w : World} {S : Nat → Prop} {hs : List Value} {es : List Cl} (h : CeHdrs w S hs es) (v : Nat) {A : Option Addr} {m c : Nat} {y : List Nat} (t : Nat) (r : Bool) (hm : y.length = m) (hx : LeafIn w S A y) : CeHdrs w S (hs ++ [.int .i64 v, .slice A m c, .int .i64 t, .bool r]) (es ++ [(v, y, t, r)]) := by
  subst hm
  have hl := h.1
  refine ⟨by simp [hl]; omega, fun k hk => ?_⟩
  by_cases e : k < es.length
  · obtain ⟨A', cap, e0, e1, e2, hx'⟩ := h.2 k e
    rw [Circ.getD_app_lt _ _ _ _ e]
    refine ⟨A', cap, ?_, ?_, ?_, hx'⟩
    · rw [List.getElem?_append_left (by omega)]; exact e0
    · rw [List.getElem?_append_left (by omega)]; exact e1
    · refine ⟨?_, ?_⟩
      · rw [List.getElem?_append_left (by omega)]; exact e2.1
      · rw [List.getElem?_append_left (by omega)]; exact e2.2
  · obtain rfl : k = es.length := by simp at hk; omega
    rw [Circ.getD_app_at _ _ _ _ rfl]
    refine ⟨A, c, ?_, ?_, ?_, hx⟩
    · rw [List.getElem?_append_right (by omega), hl, Nat.sub_self]; rfl
    · rw [List.getElem?_append_right (by omega), hl, show es.length * 4 + 1 - es.length * 4 = 1 by omega]; rfl
    · refine ⟨?_, ?_⟩
      · rw [List.getElem?_append_right (by omega), hl, show es.length * 4 + 2 - es.length * 4 = 2 by omega]; rfl
      · rw [List.getElem?_append_right (by omega), hl, show es.length * 4 + 3 - es.length * 4 = 3 by omega]; rfl
/-- Such a list that can be read. -/
def CeIn (w : World) (B : Nat) (A : Option Addr) (es : List Cl) : Prop :=
  ∀ k, k < es.length → ∃ (b off : Nat), A = some ⟨b, off, none⟩ ∧ b < B ∧ ∃ (A' : Option Addr) (c' : Nat), w.cell? ⟨b, off + k * 4, none⟩ = some (.int .i64 ((es.getD k (0, [], 0, false)).1 : Nat)) ∧ w.cell? ⟨b, off + k * 4 + 1, none⟩ = some (.slice A' (es.getD k (0, [], 0, false)).2.1.length c') ∧ (w.cell? ⟨b, off + k * 4 + 2, none⟩ = some (.int .i64 ((es.getD k (0, [], 0, false)).2.2.1 : Nat)) ∧ w.cell? ⟨b, off + k * 4 + 3, none⟩ = some (.bool (es.getD k (0, [], 0, false)).2.2.2)) ∧ IntsAt w B A' (Opt.intL (es.getD k (0, [], 0, false)).2.1)
theorem CeIn.below {w w' : World} {B : Nat} {A : Option Addr} {es : List Cl} (h : CeIn w B A es) (hb : Below B w w') : CeIn w' B A es := fun k hk => by
  obtain ⟨b, off, e, hB, A', c', e0, e1, e2, hx⟩ := h k hk
  refine ⟨b, off, e, hB, A', c', (hb.cell (by exact hB)).trans e0, (hb.cell (by exact hB)).trans e1, ?_, hx.below hb⟩
  exact ⟨(hb.cell (by exact hB)).trans e2.1, (hb.cell (by exact hB)).trans e2.2⟩
theorem CeIn.mono {w : World} {B B' : Nat} {A : Option Addr} {es : List Cl} (h : CeIn w B A es) (hb : B ≤ B') : CeIn w B' A es := fun k hk => by
  obtain ⟨b, off, e, hB, A', c', e0, e1, e2, hx⟩ := h k hk
  exact ⟨b, off, e, Nat.lt_of_lt_of_le hB hb, A', c', e0, e1, e2, hx.mono hb⟩
/-- Such a list in memory of the call's own. -/
def CeAt (w : World) (B : Nat) (es : List Cl) (hs : List Value) (g cap : Nat) : Prop := w.ownsRow B 45 4 (.slice (some ⟨g, 0, none⟩) es.length cap) es.length hs ∧ CeHdrs w (Off w B g) hs es
theorem CeAt.gb {w : World} {B g cap : Nat} {es : List Cl} {hs : List Value} (h : CeAt w B es hs g cap) : B ≤ g ∧ g < w.heap.size := h.1.lt g rfl
theorem CeAt.on {w w' : World} {B g cap : Nat} {es : List Cl} {hs : List Value} (h : CeAt w B es hs g cap) (hb : Below w.heap.size w w') : CeAt w' B es hs g cap :=
  ⟨own_keepE h.1 (hb.block g (h.1.lt g rfl).2), h.2.kept (fun b hb' => hb.block b hb'.2.1) (Off.on hb.size)⟩
theorem CeAt.keep {w w' : World} {B g cap : Nat} {es : List Cl} {hs : List Value} (h : CeAt w B es hs g cap) (hk : ∀ b, B ≤ b → b < w.heap.size → w'.heap[b]? = w.heap[b]?) (hz : w.heap.size ≤ w'.heap.size) : CeAt w' B es hs g cap :=
  ⟨own_keepE h.1 (hk g h.gb.1 h.gb.2), h.2.kept (fun b hb' => hk b hb'.1 hb'.2.1) (Off.on hz)⟩
theorem CeAt.read {w : World} {B g cap : Nat} {es : List Cl} {hs : List Value} (h : CeAt w B es hs g cap) : CeIn w w.heap.size (some ⟨g, 0, none⟩) es := fun k hk => by
  obtain ⟨cur, hrow, _, _, _, _, hget⟩ := own_partsE h.1
  obtain ⟨A', c', e0, e1, e2, hx⟩ := h.2.2 k hk
  refine ⟨g, 0, rfl, hrow.lt, A', c', ?_, ?_, ?_, (hx.kept (fun _ _ => rfl) (T := fun b => b < w.heap.size) (fun b hb => hb.2.1)).ints⟩
  · rw [Nat.zero_add, hrow.cell, hget _ (by omega)]; exact e0
  · rw [Nat.zero_add, hrow.cell, hget _ (by omega)]; exact e1
  · refine ⟨?_, ?_⟩
    · rw [Nat.zero_add, hrow.cell, hget _ (by omega)]; exact e2.1
    · rw [Nat.zero_add, hrow.cell, hget _ (by omega)]; exact e2.2
theorem Try.infoCe : (Try.prog.info? 45).map (fun i => (i.zero, i.size, i.bytes)) = some (some (.agg #[.int .i64 0, .slice none 0 0, .int .i64 0, .bool false]), 4, 48) := by kernel_rfl
theorem CeAt.made (w : World) (B : Nat) (hB : B ≤ w.heap.size) : CeAt (w.alloc (.cells #[] 45)) B [] [] w.heap.size 0 := by
  have h := World.ownsRow_lit (base := B) (e := 45) (size := 4) w #[] 0 hB (by simp [maxLen]) (by simp)
  exact ⟨h, CeHdrs.nil _ _⟩
section
variable {ops : Array Oper} {rest : List Oper} {o : Oper} {a : Act} {Q : Exit → Act → World → Prop}
/-- One more. -/
theorem wpList_pushCe (hgd : o.guard = none) (s x : Operand) (ho : o.op = .call { callee := .builtin .append, args := #[s, x], argTypes := #[41, 41] })
    (wr : World) (B g cap n : Nat) (es : List Cl) (hs : List Value) (hev : a.eval s = .slice (some ⟨g, 0, none⟩) n cap) (hn : es.length = n) (h : CeAt wr B es hs g cap) (hnb : n ≤ 1000)
    (v : Nat) (A : Option Addr) (m c : Nat) (y : List Nat) (t : Nat) (r : Bool) (hx : a.eval x = .slice (some ⟨wr.heap.size, 0, none⟩) 1 1) (hm : y.length = m) (hL : LeafIn wr (Off wr B g) A y)
    (cont : ∀ g' cap' w5, CeAt w5 B (es ++ [(v, y, t, r)]) (hs ++ [.int .i64 v, .slice A m c, .int .i64 t, .bool r]) g' cap' → Below B wr w5 → (∀ b, b < wr.heap.size → b ≠ g → w5.heap[b]? = wr.heap[b]?) → (g' = g ∨ wr.heap.size < g') → wpList Try.prog ops Q rest (a.put o.dst (.slice (some ⟨g', 0, none⟩) (n + 1) cap')) w5) :
    wpList Try.prog ops Q (o :: rest) a (wr.alloc (.cells #[.int .i64 v, .slice A m c, .int .i64 t, .bool r] 45)) := by
  subst hn
  obtain ⟨i0, hi0, hz0, hz1, hz2⟩ := info_split Try.infoCe
  obtain ⟨hB, hgl⟩ := h.gb
  refine wpList_append_kept _ hgd s x 41 ho B 45 i0 _ 4 48 Try.underlying41 hi0 hz0 hz1 hz2 rfl (by omega) (.slice (some ⟨g, 0, none⟩) es.length cap) es.length hs hev (h.1.alloc _) ⟨wr.heap.size, 0, none⟩ 1 1 [.int .i64 v, .slice A m c, .int .i64 t, .bool r] hx rfl (World.news_of_block (cs := #[.int .i64 v, .slice A m c, .int .i64 t, .bool r]) (t := 45) (fr := (0, 0)) (heap_alloc_new wr _)) (by simp [Value.oneCell']) (by omega) (by simp [maxLen]; omega) (by omega) (by simp; omega) _ rfl ?_
  intro g' cap' w5 hown5 hgr5 hat5 hlt5 hkept5
  refine cont g' cap' w5 ⟨by rw [List.length_append, List.length_singleton]; exact hown5, ?_⟩ (below_alloc_grown hgr5 (by omega) hB) (off_grown hgr5) ?_
  · exact (h.2.kept (fun b hb => off_grown hgr5 b hb.2.1 hb.2.2) (off_step hgr5 hat5)).snoc v t r hm (hL.kept (fun b hb => off_grown hgr5 b hb.2.1 hb.2.2) (off_step hgr5 hat5))
  · rcases hat5 with h1 | h1
    · left; simp [Value.ownBlock] at h1; omega
    · right; simp at h1; omega
theorem step_pushCe {K : Act → World → Prop} {E : Prop} (hgd : o.guard = none) (s x : Operand) (ho : o.op = .call { callee := .builtin .append, args := #[s, x], argTypes := #[41, 41] })
    (wr : World) (B g cap n : Nat) (es : List Cl) (hs : List Value) (hev : a.eval s = .slice (some ⟨g, 0, none⟩) n cap) (hn : es.length = n) (h : CeAt wr B es hs g cap) (hnb : n ≤ 1000)
    (v : Nat) (A : Option Addr) (m c : Nat) (y : List Nat) (t : Nat) (r : Bool) (hx : a.eval x = .slice (some ⟨wr.heap.size, 0, none⟩) 1 1) (hm : y.length = m) (hL : LeafIn wr (Off wr B g) A y)
    (cont : ∀ g' cap' w5, CeAt w5 B (es ++ [(v, y, t, r)]) (hs ++ [.int .i64 v, .slice A m c, .int .i64 t, .bool r]) g' cap' → Below B wr w5 → (∀ b, b < wr.heap.size → b ≠ g → w5.heap[b]? = wr.heap[b]?) → (g' = g ∨ wr.heap.size < g') → K (a.put o.dst (.slice (some ⟨g', 0, none⟩) (n + 1) cap')) w5) :
    if Region.wanted o (yielded ops a.tmps) = true then Oper.wp Try.prog o a (wr.alloc (.cells #[.int .i64 v, .slice A m c, .int .i64 t, .bool r] 45)) K Q else E := by
  subst hn
  obtain ⟨i0, hi0, hz0, hz1, hz2⟩ := info_split Try.infoCe
  obtain ⟨hB, hgl⟩ := h.gb
  refine step_append_kept _ hgd s x 41 ho B 45 i0 _ 4 48 Try.underlying41 hi0 hz0 hz1 hz2 rfl (by omega) (.slice (some ⟨g, 0, none⟩) es.length cap) es.length hs hev (h.1.alloc _) ⟨wr.heap.size, 0, none⟩ 1 1 [.int .i64 v, .slice A m c, .int .i64 t, .bool r] hx rfl (World.news_of_block (cs := #[.int .i64 v, .slice A m c, .int .i64 t, .bool r]) (t := 45) (fr := (0, 0)) (heap_alloc_new wr _)) (by simp [Value.oneCell']) (by omega) (by simp [maxLen]; omega) (by omega) (by simp; omega) _ rfl ?_
  intro g' cap' w5 hown5 hgr5 hat5 hlt5 hkept5
  refine cont g' cap' w5 ⟨by rw [List.length_append, List.length_singleton]; exact hown5, ?_⟩ (below_alloc_grown hgr5 (by omega) hB) (off_grown hgr5) ?_
  · exact (h.2.kept (fun b hb => off_grown hgr5 b hb.2.1 hb.2.2) (off_step hgr5 hat5)).snoc v t r hm (hL.kept (fun b hb => off_grown hgr5 b hb.2.1 hb.2.2) (off_step hgr5 hat5))
  · rcases hat5 with h1 | h1
    · left; simp [Value.ownBlock] at h1; omega
    · right; simp at h1; omega
end
end Go.Proofs.Ythcpgbfghededaa
/- The contracts of comparing cells. -/
namespace Go.Proofs.Ythcpgbfghededaa
open Go.RowKit Go.Deep Cut

set_option maxHeartbeats 800000 in
theorem eqCell_any (A A' : Option Addr) (m c c' v : Nat) (y : List Nat) (t : Nat) (r : Bool) (w : World) (hx : IntsAt w w.heap.size A (Opt.intL y)) (hy : IntsAt w w.heap.size A' (Opt.intL y)) (hm : y.length = m) (hl : m ≤ 1000) (_hv : v ≤ 1000000) (_ht : t ≤ 1000000) :
    Calls Try.prog 77 #[.agg #[.int .i64 v, .slice A m c, .int .i64 t, .bool r], .agg #[.int .i64 v, .slice A' m c', .int .i64 t, .bool r]] w fun e w' => e = .returned (.bool true) ∧ Below w.heap.size w w' := by
  have HX := Lib.hid hx
  have HY := Lib.hid hy
  have HM := Lib.hid hm
  have HW0 : Hid (Below w.heap.size w ((w.alloc (.cells #[.int .i64 v, .slice A m c, .int .i64 t, .bool r] 45)).alloc (.cells #[.int .i64 v, .slice A' m c', .int .i64 t, .bool r] 45))) := Lib.hid (((Below.refl _ _).alloc (Nat.le_refl _) _).alloc (by simp) _)
  have hr0 : Row ((w.alloc (.cells #[.int .i64 v, .slice A m c, .int .i64 t, .bool r] 45)).alloc (.cells #[.int .i64 v, .slice A' m c', .int .i64 t, .bool r] 45)) w.heap.size 45 #[.int .i64 v, .slice A m c, .int .i64 t, .bool r] := (Below.heap_alloc _ _ _ (by simp)).trans (heap_alloc_new w _)
  have hr1 : Row ((w.alloc (.cells #[.int .i64 v, .slice A m c, .int .i64 t, .bool r] 45)).alloc (.cells #[.int .i64 v, .slice A' m c', .int .i64 t, .bool r] 45)) (w.heap.size + 1) 45 #[.int .i64 v, .slice A' m c', .int .i64 t, .bool r] := by
    have h := heap_alloc_new (w.alloc (.cells #[.int .i64 v, .slice A m c, .int .i64 t, .bool r] 45)) (.cells #[.int .i64 v, .slice A' m c', .int .i64 t, .bool r] 45)
    rwa [show (w.alloc (.cells #[.int .i64 v, .slice A m c, .int .i64 t, .bool r] 45)).heap.size = w.heap.size + 1 by simp] at h
  have HR0 := Lib.hid hr0
  have HR1 := Lib.hid hr1
  clear hx hy hm hr0 hr1
  go_enter Try.func77, Try.ntmps77
  go_wp2_with fail
  generalize (w.alloc (.cells #[.int .i64 v, .slice A m c, .int .i64 t, .bool r] 45)).alloc (.cells #[.int .i64 v, .slice A' m c', .int .i64 t, .bool r] 45) = w0 at *
  refine (eqI_n A A' m c c' y _ ((HX.out.below HW0.out).mono HW0.out.size) ((HY.out.below HW0.out).mono HW0.out.size) HM.out (by omega)).mono ?_
  rintro e w1 ⟨rfl, hb1⟩
  have HR01 := Lib.hid (HR0.out.below hb1 HR0.out.lt)
  have HR11 := Lib.hid (HR1.out.below hb1 HR1.out.lt)
  have HL1 := Lib.hid (HW0.out.trans (hb1.mono HW0.out.size))
  clear hb1 HR0 HR1
  have a2 := HR01.out.cell 2
  have a3 := HR01.out.cell 3
  have b2 := HR11.out.cell 2
  have b3 := HR11.out.cell 3
  simp at a2 a3 b2 b3
  go_wp2
  go_ret
  exact ⟨rfl, HL1.out⟩
theorem Cekeep {w w' : World} {B b b' o o' : Nat} {x0 x1 x2 x3 x4 x5 x6 x7 : Value} (h : Below B w w') (h1 : b < B) (h2 : b' < B) (s : w.cell? ⟨b, o, none⟩ = some x0 ∧ w.cell? ⟨b, o + 1, none⟩ = some x1 ∧ w.cell? ⟨b, o + 2, none⟩ = some x2 ∧ w.cell? ⟨b, o + 3, none⟩ = some x3 ∧ w.cell? ⟨b', o', none⟩ = some x4 ∧ w.cell? ⟨b', o' + 1, none⟩ = some x5 ∧ w.cell? ⟨b', o' + 2, none⟩ = some x6 ∧ w.cell? ⟨b', o' + 3, none⟩ = some x7) :
    w'.cell? ⟨b, o, none⟩ = some x0 ∧ w'.cell? ⟨b, o + 1, none⟩ = some x1 ∧ w'.cell? ⟨b, o + 2, none⟩ = some x2 ∧ w'.cell? ⟨b, o + 3, none⟩ = some x3 ∧ w'.cell? ⟨b', o', none⟩ = some x4 ∧ w'.cell? ⟨b', o' + 1, none⟩ = some x5 ∧ w'.cell? ⟨b', o' + 2, none⟩ = some x6 ∧ w'.cell? ⟨b', o' + 3, none⟩ = some x7 :=
  ⟨(h.cell (by exact h1)).trans s.1, (h.cell (by exact h1)).trans s.2.1, (h.cell (by exact h1)).trans s.2.2.1, (h.cell (by exact h1)).trans s.2.2.2.1, (h.cell (by exact h2)).trans s.2.2.2.2.1, (h.cell (by exact h2)).trans s.2.2.2.2.2.1, (h.cell (by exact h2)).trans s.2.2.2.2.2.2.1, (h.cell (by exact h2)).trans s.2.2.2.2.2.2.2⟩
set_option maxHeartbeats 800000 in
theorem eqCellS_any (A A' : Option Addr) (n cap cap' : Nat) (es : List Cl) (w : World) (hx : CeIn w w.heap.size A es) (hy : CeIn w w.heap.size A' es) (hn : es.length = n) (hl : n ≤ 1000) (hr : ∀ k, k < n → (es.getD k (0, [], 0, false)).1 ≤ 1000 ∧ (es.getD k (0, [], 0, false)).2.1.length ≤ 1000 ∧ (es.getD k (0, [], 0, false)).2.2.1 ≤ 1000) :
    Calls Try.prog 40 #[.slice A n cap, .slice A' n cap'] w fun e w' => e = .returned (.bool true) ∧ Below w.heap.size w w' := by
  have HX := Lib.hid hx
  have HY := Lib.hid hy
  have HN := Lib.hid hn
  have HT := Lib.hid hr
  clear hx hy hn hr
  go_enter Try.func40, Try.ntmps40
  go_wp2
  go_loopw [5] (fun iv wr => ∃ (k : Nat), k ≤ n ∧ iv = .int .i64 k ∧ Below w.heap.size w wr) (fun iv _ => n - (intOf iv).toNat)
  case atStart => exact ⟨0, Nat.zero_le _, rfl, Below.refl _ _⟩
  case round =>
    obtain ⟨k, hk, rfl, hbr⟩ := hrel
    by_cases hlt : k < n
    · obtain ⟨b, off, rfl, hbl, B1, c1, p0, p1, p2, hbA⟩ := HX.out k (by rw [HN.out]; exact hlt)
      obtain ⟨b', off', rfl, hbl', B2, c2, r0, r1, r2, hbB⟩ := HY.out k (by rw [HN.out]; exact hlt)
      obtain ⟨t1, t2, t3⟩ := HT.out k hlt
      have HBA := Lib.hid ((hbA.below hbr).mono hbr.size)
      have HBB := Lib.hid ((hbB.below hbr).mono hbr.size)
      have hz := hbr.size
      have HS := Lib.hid (Cekeep hbr hbl hbl' ⟨p0, p1, p2.1, p2.2, r0, r1, r2.1, r2.2⟩)
      have hblr : b < wr.heap.size := by omega
      have hblr' : b' < wr.heap.size := by omega
      clear hbA hbB p0 p1 p2 r0 r1 r2
      generalize (es.getD k (0, [], 0, false)).2.2.1 = t at *
      generalize (es.getD k (0, [], 0, false)).2.2.2 = r at *
      generalize (es.getD k (0, [], 0, false)).2.1 = y at *
      generalize (es.getD k (0, [], 0, false)).1 = v at *
      obtain ⟨m, hm⟩ : ∃ m, y.length = m := ⟨_, rfl⟩
      rw [hm] at HS t2
      have HM := Lib.hid hm
      clear hm
      obtain ⟨g0, g1, g2, g3, g4, g5, g6, g7⟩ := HS.out
      have hk0 : (0 : Int) ≤ (k : Int) := Int.natCast_nonneg _
      have hk1 : (k : Int) < (n : Int) := by omega
      go_wp2
      go_region_held3 (fun w' => w'.cell? ⟨b, off + k * 4, none⟩ = some (.int .i64 (v : Nat)) ∧ w'.cell? ⟨b, off + k * 4 + 1, none⟩ = some (.slice B1 m c1) ∧ w'.cell? ⟨b, off + k * 4 + 2, none⟩ = some (.int .i64 t) ∧ w'.cell? ⟨b, off + k * 4 + 3, none⟩ = some (.bool r) ∧ w'.cell? ⟨b', off' + k * 4, none⟩ = some (.int .i64 (v : Nat)) ∧ w'.cell? ⟨b', off' + k * 4 + 1, none⟩ = some (.slice B2 m c2) ∧ w'.cell? ⟨b', off' + k * 4 + 2, none⟩ = some (.int .i64 t) ∧ w'.cell? ⟨b', off' + k * 4 + 3, none⟩ = some (.bool r))
        (first | (with_reducible assumption) | go_keep)
        (first | (go_at_call 77; refine (eqCell_any B1 B2 m c1 c2 v y t r _ ?_ ?_ HM.out (by omega) (by omega) (by omega)).mono ?_; (exact HBA.out.below (Below.refl _ wr).drew); (exact HBB.out.below (Below.refl _ wr).drew); rintro e w3 ⟨rfl, hb3⟩; have hS3 := Cekeep hb3 hblr hblr' HS.out))
      rename_i _hheld
      clear _hheld hS3 g0 g1 g2 g3 g4 g5 g6 g7
      go_wp2
      go_roundw
      case rel => exact ⟨k + 1, by omega, by go_num, hbr.drew.trans (hb3.mono hbr.size)⟩
      case measure => simp [intOf]; omega
    · go_wp2
      go_ret
      exact ⟨rfl, hbr⟩
end Go.Proofs.Ythcpgbfghededaa
/- The contracts of marks on cells. -/
namespace Go.Proofs.Ythcpgbfghededaa
open Go.RowKit Go.Deep Cut

/-- What the marks on struct j of such a row are. -/
def CeMk (cs : Array Value) (ls : List Nat) (K j : Nat) : Prop := cs[j * 4]? = some (.int .i64 (K + ofT 3 ls j : Nat)) ∧ cs[j * 4 + 2]? = some (.int .i64 (K + ofT 3 ls j + 1 + ls.getD j 0 : Nat)) ∧ cs[j * 4 + 3]? = some (.bool (((K + ofT 3 ls j + 1 + ls.getD j 0 + 1 : Nat) : Int) % 3 == 0))
/-- The row of the structs, the first m of them marked. -/
def CeRow (w : World) (g : Nat) (hs : List Value) (ls : List Nat) (m K : Nat) : Prop := ∃ cs, Row w g 45 cs ∧ ls.length * 4 ≤ cs.size ∧ (∀ j, j < ls.length → cs[j * 4 + 1]? = hs[j]?) ∧ ∀ j, j < m → CeMk cs ls K j
theorem CeRow.below {w w' : World} {g m K B : Nat} {hs : List Value} {ls : List Nat} (h : CeRow w g hs ls m K) (hb : Below B w w') (hg : g < B) : CeRow w' g hs ls m K := by
  obtain ⟨cs, hr, h1, h2, h3⟩ := h
  exact ⟨cs, hr.below hb hg, h1, h2, h3⟩
theorem CeRow.lt {w : World} {g m K : Nat} {hs : List Value} {ls : List Nat} (h : CeRow w g hs ls m K) : g < w.heap.size := by
  obtain ⟨cs, hr, _⟩ := h
  exact hr.lt
theorem CeMk.set {cs : Array Value} {hs : List Value} {ls : List Nat} {m K : Nat} (h1 : ls.length * 4 ≤ cs.size) (h2 : ∀ j, j < ls.length → cs[j * 4 + 1]? = hs[j]?) (h3 : ∀ j, j < m → CeMk cs ls K j) (hm : m < ls.length) :
    ls.length * 4 ≤ (((cs.setIfInBounds (m * 4) (.int .i64 (K + ofT 3 ls m : Nat))).setIfInBounds (m * 4 + 2) (.int .i64 (K + ofT 3 ls m + 1 + ls.getD m 0 : Nat))).setIfInBounds (m * 4 + 3) (.bool (((K + ofT 3 ls m + 1 + ls.getD m 0 + 1 : Nat) : Int) % 3 == 0))).size ∧ (∀ j, j < ls.length → (((cs.setIfInBounds (m * 4) (.int .i64 (K + ofT 3 ls m : Nat))).setIfInBounds (m * 4 + 2) (.int .i64 (K + ofT 3 ls m + 1 + ls.getD m 0 : Nat))).setIfInBounds (m * 4 + 3) (.bool (((K + ofT 3 ls m + 1 + ls.getD m 0 + 1 : Nat) : Int) % 3 == 0)))[j * 4 + 1]? = hs[j]?) ∧ ∀ j, j < m + 1 → CeMk (((cs.setIfInBounds (m * 4) (.int .i64 (K + ofT 3 ls m : Nat))).setIfInBounds (m * 4 + 2) (.int .i64 (K + ofT 3 ls m + 1 + ls.getD m 0 : Nat))).setIfInBounds (m * 4 + 3) (.bool (((K + ofT 3 ls m + 1 + ls.getD m 0 + 1 : Nat) : Int) % 3 == 0))) ls K j := by
  refine ⟨by simpa using h1, fun j hj => ?_, fun j hj => ?_⟩
  · rw [Array.getElem?_setIfInBounds_ne (by omega), Array.getElem?_setIfInBounds_ne (by omega), Array.getElem?_setIfInBounds_ne (by omega)]
    exact h2 j hj
  · by_cases e : j = m
    · subst e
      refine ⟨?_, ?_, ?_⟩
      · rw [Array.getElem?_setIfInBounds_ne (by omega), Array.getElem?_setIfInBounds_ne (by omega), Array.getElem?_setIfInBounds_self_of_lt (by omega)]
      · rw [Array.getElem?_setIfInBounds_ne (by omega), Array.getElem?_setIfInBounds_self_of_lt (by simp; omega)]
      · rw [Array.getElem?_setIfInBounds_self_of_lt (by simp; omega)]
    · obtain ⟨a, b, c⟩ := h3 j (by omega)
      refine ⟨?_, ?_, ?_⟩
      · rw [Array.getElem?_setIfInBounds_ne (by omega), Array.getElem?_setIfInBounds_ne (by omega), Array.getElem?_setIfInBounds_ne (by omega)]; exact a
      · rw [Array.getElem?_setIfInBounds_ne (by omega), Array.getElem?_setIfInBounds_ne (by omega), Array.getElem?_setIfInBounds_ne (by omega)]; exact b
      · rw [Array.getElem?_setIfInBounds_ne (by omega), Array.getElem?_setIfInBounds_ne (by omega), Array.getElem?_setIfInBounds_ne (by omega)]; exact c

set_option maxHeartbeats 800000 in
theorem markCe_any (g cap n K B : Nat) (hs : List Value) (ls : List Nat) (w : World) (hr : CeRow w g hs ls 0 K) (H : HT w B 3 hs ls 0 K) (hd : DistH hs) (hn : ls.length = n) (hl : ∀ j, j < n → ls.getD j 0 ≤ 1000) (ht : K + ofT 3 ls n ≤ 1000000) (hnb : n ≤ 1000) (hBg : B ≤ g) :
    Calls Try.prog 41 #[.slice (some ⟨g, 0, none⟩) n cap, .int .i64 K] w fun e w' => e = .returned (.int .i64 (K + ofT 3 ls n : Nat)) ∧ CeRow w' g hs ls n K ∧ HT w' B 3 hs ls n K ∧ Below B w w' ∧ w'.heap.size = w.heap.size := by
  have HR0 := Lib.hid hr
  have H0 := Lib.hid H
  have HD := Lib.hid hd
  have HN := Lib.hid hn
  have HL := Lib.hid hl
  have HMO := Lib.hid (fun j (hj : j ≤ n) => Nat.le_trans (Nat.add_le_add_left (ofT_mono 3 ls hj) K) ht)
  clear hr H hd hn hl ht
  go_enter Try.func41, Try.ntmps41
  go_wp2
  go_loopw [1, 5] (fun kv iv wr => ∃ (j : Nat), j ≤ n ∧ iv = .int .i64 j ∧ kv = .int .i64 (K + ofT 3 ls j : Nat) ∧ Hid (CeRow wr g hs ls j K) ∧ Hid (HT wr B 3 hs ls j K) ∧ Hid (Below B w wr) ∧ Hid (wr.heap.size = w.heap.size)) (fun _ iv _ => n - (intOf iv).toNat)
  case atStart => exact ⟨0, Nat.zero_le _, rfl, rfl, HR0, H0, Lib.hid (Below.refl _ _), Lib.hid rfl⟩
  case round =>
    clear HR0 H0
    obtain ⟨j, hj, rfl, rfl, HR, HH, HB, HZ⟩ := hrel
    by_cases hlt : j < n
    · obtain ⟨cs, hrow, s1, s2, s3⟩ := HR.out
      have hjl : j < ls.length := by rw [HN.out]; exact hlt
      have HMS := Lib.hid (CeMk.set s1 s2 s3 hjl)
      obtain ⟨A, c2, he, _⟩ := HH.out.lf j hjl
      have HHE := Lib.hid he
      have hlb := HL.out j hlt
      have hkb := HMO.out (j + 1) (by omega)
      have HST : Hid (K + ofT 3 ls (j + 1) = K + ofT 3 ls j + 1 + ls.getD j 0 + 1 + 1) := Lib.hid (by simp only [ofT]; omega)
      rw [HST.out] at hkb
      have hc1 := (hrow.cell (j * 4 + 1)).trans ((s2 j hjl).trans he)
      obtain ⟨old0, hc0⟩ : ∃ u, wr.cell? ⟨g, j * 4, none⟩ = some u := ⟨cs[j * 4]'(by omega), by rw [hrow.cell, Array.getElem?_eq_getElem]⟩
      have hf0 := hrow.frozen (j * 4)
      have HROW := Lib.hid hrow
      have hsz0 : j * 4 < cs.size := by omega
      have hsz2 : j * 4 + 2 < cs.size := by omega
      have hsz3 : j * 4 + 3 < cs.size := by omega
      have hBw : B ≤ wr.heap.size := by have := hrow.lt; omega
      have hgw : g < wr.heap.size := hrow.lt
      have hHT1 := HH.out.set hrow (by decide) (j * 4) (.int .i64 (K + ofT 3 ls j : Nat))
      have HMAIN := Lib.hid (mark_one hHT1 HD.out hjl hlb (by omega) (by simpa [World.setCell] using hBw) he)
      have HR1 := Lib.hid (hrow.set (j * 4) (.int .i64 (K + ofT 3 ls j : Nat)))
      have HB1 := Lib.hid (HB.out.setCell (p := ⟨g, j * 4, none⟩) hBg (.int .i64 (K + ofT 3 ls j : Nat)))
      have hz1 : (wr.setCell ⟨g, j * 4, none⟩ (.int .i64 (K + ofT 3 ls j : Nat))).heap.size = wr.heap.size := by simp [World.setCell]
      have HZ1 := Lib.hid (hz1.trans HZ.out)
      clear hHT1 hz1 hrow s1 s2 s3 he HR
      generalize K + ofT 3 ls j = kk at *
      generalize ls.getD j 0 = ln at *
      go_wp2_with fail
      rw [show (kk : Int) + 1 = ((kk + 1 : Nat) : Int) by omega]
      refine HMAIN.out.mono ?_
      rintro e w2 ⟨rfl, ht2, hb2, hz2, hrows2⟩
      have hr2 := hrows2 _ _ _ (by decide) HR1.out
      have HT2 := Lib.hid ht2
      have HB2 := Lib.hid (HB1.out.trans hb2)
      have HZ2 := Lib.hid (hz2.trans HZ1.out)
      have HR2 := Lib.hid hr2
      obtain ⟨old2, hc2⟩ : ∃ u, w2.cell? ⟨g, j * 4 + 2, none⟩ = some u := ⟨(cs.setIfInBounds (j * 4) (.int .i64 (kk : Nat)))[j * 4 + 2]'(by simpa using hsz2), by rw [hr2.cell, Array.getElem?_eq_getElem]⟩
      obtain ⟨old3, hc3⟩ : ∃ u, w2.cell? ⟨g, j * 4 + 3, none⟩ = some u := ⟨(cs.setIfInBounds (j * 4) (.int .i64 (kk : Nat)))[j * 4 + 3]'(by simpa using hsz3), by rw [hr2.cell, Array.getElem?_eq_getElem]⟩
      have hf2 := hr2.frozen (j * 4 + 2)
      have hf3 := hr2.frozen (j * 4 + 3)
      clear hc1 hc0 hf0
      have hrA := hr2.set (j * 4 + 2) (.int .i64 (kk + 1 + ln : Nat))
      have HTA := HT2.out.set hr2 (by decide) (j * 4 + 2) (.int .i64 (kk + 1 + ln : Nat))
      have HR3 : Hid (CeRow ((w2.setCell ⟨g, j * 4 + 2, none⟩ (.int .i64 (kk + 1 + ln : Nat))).setCell ⟨g, j * 4 + 3, none⟩ (.bool (((kk + 1 + ln + 1 : Nat) : Int) % 3 == 0))) g hs ls (j + 1) K) := Lib.hid ⟨_, hrA.set (j * 4 + 3) (.bool (((kk + 1 + ln + 1 : Nat) : Int) % 3 == 0)), HMS.out.1, HMS.out.2.1, HMS.out.2.2⟩
      have HT3 := Lib.hid (HTA.set hrA (by decide) (j * 4 + 3) (.bool (((kk + 1 + ln + 1 : Nat) : Int) % 3 == 0)))
      have HB3 := Lib.hid ((HB2.out.setCell (p := ⟨g, j * 4 + 2, none⟩) hBg (.int .i64 (kk + 1 + ln : Nat))).setCell (p := ⟨g, j * 4 + 3, none⟩) hBg (.bool (((kk + 1 + ln + 1 : Nat) : Int) % 3 == 0)))
      have HZ3 : Hid (((w2.setCell ⟨g, j * 4 + 2, none⟩ (.int .i64 (kk + 1 + ln : Nat))).setCell ⟨g, j * 4 + 3, none⟩ (.bool (((kk + 1 + ln + 1 : Nat) : Int) % 3 == 0))).heap.size = w.heap.size) := Lib.hid (by rw [show ((w2.setCell ⟨g, j * 4 + 2, none⟩ (.int .i64 (kk + 1 + ln : Nat))).setCell ⟨g, j * 4 + 3, none⟩ (.bool (((kk + 1 + ln + 1 : Nat) : Int) % 3 == 0))).heap.size = w2.heap.size by simp [World.setCell]]; exact HZ2.out)
      clear HMAIN hrows2 ht2 hb2 hz2 hr2 hrA HTA
      have em : ((kk + 1 + ln + 1 : Nat) : Int) = (kk : Int) + 1 + (ln : Int) + 1 := by omega
      rw [em] at HR3 HT3 HB3 HZ3
      clear em
      go_wp2
      rw [show (kk : Int) + 1 + (ln : Int) = ((kk + 1 + ln : Nat) : Int) by omega]
      go_roundw
      case rel => exact ⟨j + 1, by omega, by go_num, by rw [HST.out]; go_num, HR3, HT3, HB3, HZ3⟩
      case measure => simp [intOf]; omega
    · obtain rfl : j = n := by omega
      go_wp2
      go_ret
      exact ⟨rfl, HR.out, HH.out, HB.out, HZ.out⟩

set_option maxHeartbeats 800000 in
theorem heldCe_any (g cap n K B : Nat) (hs : List Value) (ls : List Nat) (w : World) (hr : CeRow w g hs ls n K) (H : HT w B 3 hs ls n K) (hn : ls.length = n) (hl : ∀ j, j < n → ls.getD j 0 ≤ 1000) (ht : K + ofT 3 ls n ≤ 1000000) (hnb : n ≤ 1000) :
    Calls Try.prog 42 #[.slice (some ⟨g, 0, none⟩) n cap, .int .i64 K] w fun e w' => e = .returned (.int .i64 (K + ofT 3 ls n : Nat)) ∧ w = w' := by
  have HR0 := Lib.hid hr
  have H0 := Lib.hid H
  have HN := Lib.hid hn
  have HL := Lib.hid hl
  have HMO := Lib.hid (fun j (hj : j ≤ n) => Nat.le_trans (Nat.add_le_add_left (ofT_mono 3 ls hj) K) ht)
  clear hr H hn hl ht
  go_enter Try.func42, Try.ntmps42
  go_wp2
  go_loop [1, 5] (fun kv iv => ∃ (j : Nat), j ≤ n ∧ iv = .int .i64 j ∧ kv = .int .i64 (K + ofT 3 ls j : Nat)) (fun _ iv => n - (intOf iv).toNat)
  case atStart => exact ⟨0, Nat.zero_le _, rfl, rfl⟩
  case round =>
    obtain ⟨j, hj, rfl, rfl⟩ := hrel
    by_cases hlt : j < n
    · obtain ⟨cs, hrow, s1, s2, s3⟩ := HR0.out
      have hjl : j < ls.length := by rw [HN.out]; exact hlt
      obtain ⟨A, c2, he, _⟩ := H0.out.lf j hjl
      have hlb := HL.out j hlt
      have hkb := HMO.out (j + 1) (by omega)
      have HST : Hid (K + ofT 3 ls (j + 1) = K + ofT 3 ls j + 1 + ls.getD j 0 + 1 + 1) := Lib.hid (by simp only [ofT]; omega)
      rw [HST.out] at hkb
      have hc1 := (hrow.cell (j * 4 + 1)).trans ((s2 j hjl).trans he)
      have hc0 := (hrow.cell (j * 4)).trans (s3 j hlt).1
      have hc2 := (hrow.cell (j * 4 + 2)).trans (s3 j hlt).2.1
      have hc3 := (hrow.cell (j * 4 + 3)).trans (s3 j hlt).2.2
      have HMAIN := Lib.hid (held_one H0.out hlt hjl hlb (by omega) he)
      clear hrow s1 s2 s3 he
      generalize K + ofT 3 ls j = kk at *
      generalize ls.getD j 0 = ln at *
      go_wp2_with fail
      rw [show (kk : Int) + 1 = ((kk + 1 : Nat) : Int) by omega]
      refine HMAIN.out.mono ?_
      rintro e w2 ⟨rfl, rfl⟩
      clear HMAIN
      rw [show ((kk + 1 + ln : Nat) : Int) = (kk : Int) + 1 + (ln : Int) by omega] at hc2
      rw [show ((kk + 1 + ln + 1 : Nat) : Int) = (kk : Int) + 1 + (ln : Int) + 1 by omega] at hc3
      have hk0 : (0 : Int) ≤ (kk : Int) + 1 + (ln : Int) := by omega
      have hk1 : (0 : Int) ≤ (kk : Int) + 1 + (ln : Int) + 1 := by omega
      go_wp2
      go_round
      case rel => exact ⟨j + 1, by omega, by go_num, by rw [HST.out]; go_num⟩
      case measure => simp [intOf]; omega
    · obtain rfl : j = n := by omega
      go_wp2
      go_ret
      exact ⟨rfl, rfl⟩
end Go.Proofs.Ythcpgbfghededaa
