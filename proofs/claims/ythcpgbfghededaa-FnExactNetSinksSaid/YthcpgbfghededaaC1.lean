/- Lists of cuts in memory. -/
import Derived.Test.YthcpgbfghededaaQC
import Derived.Test.YthcpgbfghededaaT3
import Derived.Test.YthcpgbfghededaaCL
namespace Go.Proofs.Ythcpgbfghededaa
open Go.RowKit Go.Deep Cut

theorem IntsAt.on {w w' : World} {A : Option Addr} {xs : List Int} (h : IntsAt w w.heap.size A xs) (hb : Below w.heap.size w w') : IntsAt w' w'.heap.size A xs := (h.below hb).mono hb.size
/-- Read in blocks of S alone. -/
def IntsIn (w : World) (S : Nat → Prop) (A : Option Addr) (xs : List Int) : Prop :=
  ∀ k, k < xs.length → ∃ b off, A = some ⟨b, off, none⟩ ∧ S b ∧ w.cell? ⟨b, off + k, none⟩ = some (.int .i64 (xs.getD k 0))
def ListIn (w : World) (S : Nat → Prop) (A : Option Addr) (xs : Cs) : Prop :=
  ∀ k, k < xs.length → ∃ b off, A = some ⟨b, off, none⟩ ∧ S b ∧ ∃ (A' : Option Addr) (cap : Nat), w.cell? ⟨b, off + k, none⟩ = some (.slice A' (xs.getD k []).length cap) ∧ IntsIn w S A' (Opt.intL (xs.getD k []))
def CutsIn (w : World) (S : Nat → Prop) (A : Option Addr) (cs : List Cs) : Prop :=
  ∀ k, k < cs.length → ∃ b off, A = some ⟨b, off, none⟩ ∧ S b ∧ ∃ (A' : Option Addr) (cap : Nat), w.cell? ⟨b, off + k, none⟩ = some (.slice A' (cs.getD k []).length cap) ∧ ListIn w S A' (cs.getD k [])
section
variable {w w' : World} {S T : Nat → Prop} {A : Option Addr}
theorem IntsIn.kept {xs : List Int} (h : IntsIn w S A xs) (hS : ∀ b, S b → w'.heap[b]? = w.heap[b]?) (hT : ∀ b, S b → T b) : IntsIn w' T A xs := fun k hk => by
  obtain ⟨b, off, e, hs, hc⟩ := h k hk
  exact ⟨b, off, e, hT b hs, (World.cell?_of_block (a := ⟨b, off + k, none⟩) (hS b hs)).trans hc⟩
theorem ListIn.kept {xs : Cs} (h : ListIn w S A xs) (hS : ∀ b, S b → w'.heap[b]? = w.heap[b]?) (hT : ∀ b, S b → T b) : ListIn w' T A xs := fun k hk => by
  obtain ⟨b, off, e, hs, A', cap, hc, hx⟩ := h k hk
  exact ⟨b, off, e, hT b hs, A', cap, (World.cell?_of_block (a := ⟨b, off + k, none⟩) (hS b hs)).trans hc, hx.kept hS hT⟩
theorem CutsIn.kept {xs : List Cs} (h : CutsIn w S A xs) (hS : ∀ b, S b → w'.heap[b]? = w.heap[b]?) (hT : ∀ b, S b → T b) : CutsIn w' T A xs := fun k hk => by
  obtain ⟨b, off, e, hs, A', cap, hc, hx⟩ := h k hk
  exact ⟨b, off, e, hT b hs, A', cap, (World.cell?_of_block (a := ⟨b, off + k, none⟩) (hS b hs)).trans hc, hx.kept hS hT⟩
end
def ListAt (w : World) (B : Nat) (A : Option Addr) (xs : Cs) : Prop := ListIn w (fun b => b < B) A xs
def CutsAt (w : World) (B : Nat) (A : Option Addr) (cs : List Cs) : Prop := CutsIn w (fun b => b < B) A cs
theorem ListAt.below {w w' : World} {B : Nat} {A : Option Addr} {xs : Cs} (h : ListAt w B A xs) (hb : Below B w w') : ListAt w' B A xs := ListIn.kept h (fun b hs => hb.block b hs) (fun _ h => h)
theorem ListAt.mono {w : World} {B B' : Nat} {A : Option Addr} {xs : Cs} (h : ListAt w B A xs) (hb : B ≤ B') : ListAt w B' A xs := ListIn.kept h (fun _ _ => rfl) (fun _ h => Nat.lt_of_lt_of_le h hb)
theorem ListAt.on {w w' : World} {A : Option Addr} {xs : Cs} (h : ListAt w w.heap.size A xs) (hb : Below w.heap.size w w') : ListAt w' w'.heap.size A xs := (h.below hb).mono hb.size
theorem CutsAt.below {w w' : World} {B : Nat} {A : Option Addr} {xs : List Cs} (h : CutsAt w B A xs) (hb : Below B w w') : CutsAt w' B A xs := CutsIn.kept h (fun b hs => hb.block b hs) (fun _ h => h)
theorem CutsAt.mono {w : World} {B B' : Nat} {A : Option Addr} {xs : List Cs} (h : CutsAt w B A xs) (hb : B ≤ B') : CutsAt w B' A xs := CutsIn.kept h (fun _ _ => rfl) (fun _ h => Nat.lt_of_lt_of_le h hb)
theorem CutsAt.on {w w' : World} {A : Option Addr} {xs : List Cs} (h : CutsAt w w.heap.size A xs) (hb : Below w.heap.size w w') : CutsAt w' w'.heap.size A xs := (h.below hb).mono hb.size

/-- A list in a block of its own, in S. -/
def LeafIn (w : World) (S : Nat → Prop) (A : Option Addr) (x : List Nat) : Prop :=
  x = [] ∨ ∃ (b : Nat) (cs : Array Value), A = some ⟨b, 0, none⟩ ∧ S b ∧ Row w b 3 cs ∧ ∀ j, j < x.length → cs[j]? = some (.int .i64 (x.getD j 0 : Nat))
/-- The headers of such lists. -/
def Hdrs (w : World) (S : Nat → Prop) (hs : List Value) (xs : Cs) : Prop :=
  hs.length = xs.length ∧ ∀ k, k < xs.length → ∃ (A' : Option Addr) (cap : Nat), hs[k]? = some (.slice A' (xs.getD k []).length cap) ∧ LeafIn w S A' (xs.getD k [])
/-- Such headers in a block of their own, in S. -/
def RowIn (w : World) (S : Nat → Prop) (A : Option Addr) (hs : List Value) (xs : Cs) : Prop :=
  (∃ (b : Nat) (cs : Array Value), A = some ⟨b, 0, none⟩ ∧ S b ∧ Row w b 23 cs ∧ ∀ j, j < hs.length → cs[j]? = hs[j]?) ∧ Hdrs w S hs xs
def CHdrs (w : World) (S : Nat → Prop) (hs : List Value) (HH : List (List Value)) (cs : List Cs) : Prop :=
  hs.length = cs.length ∧ HH.length = cs.length ∧ ∀ k, k < cs.length → ∃ (A' : Option Addr) (cap : Nat), (hs[k]? = some (.slice A' (cs.getD k []).length cap) ∧ (cs.getD k []).length ≤ cap) ∧ RowIn w S A' (HH.getD k []) (cs.getD k [])
section
variable {w w' : World} {S T : Nat → Prop} {hs : List Value} {HH : List (List Value)} {A : Option Addr}
theorem LeafIn.kept {x : List Nat} (h : LeafIn w S A x) (hS : ∀ b, S b → w'.heap[b]? = w.heap[b]?) (hT : ∀ b, S b → T b) : LeafIn w' T A x := by
  rcases h with h | ⟨b, cs, e, hs, hr, hc⟩
  · exact .inl h
  · exact .inr ⟨b, cs, e, hT b hs, (hS b hs).trans hr, hc⟩
theorem LeafIn.ints {x : List Nat} (h : LeafIn w S A x) : IntsIn w S A (Opt.intL x) := fun k hk => by
  rw [Opt.intL_len] at hk
  rcases h with h | ⟨b, cs, e, hs, hr, hc⟩
  · subst h; simp at hk
  · exact ⟨b, 0, e, hs, by rw [Nat.zero_add, hr.cell, hc k hk, Opt.intL_at]⟩
theorem Hdrs.kept {xs : Cs} (h : Hdrs w S hs xs) (hS : ∀ b, S b → w'.heap[b]? = w.heap[b]?) (hT : ∀ b, S b → T b) : Hdrs w' T hs xs := ⟨h.1, fun k hk => by
  obtain ⟨A', cap, e, hx⟩ := h.2 k hk
  exact ⟨A', cap, e, hx.kept hS hT⟩⟩
theorem RowIn.kept {xs : Cs} (h : RowIn w S A hs xs) (hS : ∀ b, S b → w'.heap[b]? = w.heap[b]?) (hT : ∀ b, S b → T b) : RowIn w' T A hs xs := by
  obtain ⟨⟨b, cs, e, hs', hr, hc⟩, hh⟩ := h
  exact ⟨⟨b, cs, e, hT b hs', (hS b hs').trans hr, hc⟩, hh.kept hS hT⟩
theorem RowIn.lists {xs : Cs} (h : RowIn w S A hs xs) : ListIn w S A xs := fun k hk => by
  obtain ⟨⟨b, cs, e, hs', hr, hc⟩, hh⟩ := h
  obtain ⟨A', cap, e', hx⟩ := hh.2 k hk
  exact ⟨b, 0, e, hs', A', cap, by rw [Nat.zero_add, hr.cell, hc k (by rw [hh.1]; exact hk)]; exact e', hx.ints⟩
theorem CHdrs.kept {xs : List Cs} (h : CHdrs w S hs HH xs) (hS : ∀ b, S b → w'.heap[b]? = w.heap[b]?) (hT : ∀ b, S b → T b) : CHdrs w' T hs HH xs := ⟨h.1, h.2.1, fun k hk => by
  obtain ⟨A', cap, e, hx⟩ := h.2.2 k hk
  exact ⟨A', cap, e, hx.kept hS hT⟩⟩
theorem Hdrs.nil (w : World) (S : Nat → Prop) : Hdrs w S [] [] := ⟨rfl, fun k hk => absurd hk (by simp)⟩
theorem CHdrs.nil (w : World) (S : Nat → Prop) : CHdrs w S [] [] [] := ⟨rfl, rfl, fun k hk => absurd hk (by simp)⟩
theorem Hdrs.snoc {xs : Cs} (h : Hdrs w S hs xs) {A : Option Addr} {x : List Nat} {cap n : Nat} (hn : x.length = n) (hx : LeafIn w S A x) : Hdrs w S (hs ++ [.slice A n cap]) (xs ++ [x]) := by
  subst hn
  refine ⟨by simp [h.1], fun k hk => ?_⟩
  by_cases e : k < xs.length
  · obtain ⟨A', cap', e', hx'⟩ := h.2 k e
    rw [Circ.getD_app_lt _ _ _ _ e]
    exact ⟨A', cap', by rw [List.getElem?_append_left (by rw [h.1]; exact e)]; exact e', hx'⟩
  · obtain rfl : k = xs.length := by simp at hk; omega
    rw [Circ.getD_app_at _ _ _ _ rfl]
    exact ⟨A, cap, by rw [List.getElem?_append_right (by rw [h.1]; exact Nat.le_refl _), h.1]; simp, hx⟩
theorem CHdrs.snoc {xs : List Cs} (h : CHdrs w S hs HH xs) {A : Option Addr} {x : Cs} {H : List Value} {cap n : Nat} (hn : x.length = n) (hcap : n ≤ cap) (hx : RowIn w S A H x) : CHdrs w S (hs ++ [.slice A n cap]) (HH ++ [H]) (xs ++ [x]) := by
  subst hn
  refine ⟨by simp [h.1], by simp [h.2.1], fun k hk => ?_⟩
  by_cases e : k < xs.length
  · obtain ⟨A', cap', e', hx'⟩ := h.2.2 k e
    rw [Circ.getD_app_lt _ _ _ _ e, Circ.getD_app_lt _ _ _ _ (by rw [h.2.1]; exact e)]
    exact ⟨A', cap', ⟨by rw [List.getElem?_append_left (by rw [h.1]; exact e)]; exact e'.1, e'.2⟩, hx'⟩
  · obtain rfl : k = xs.length := by simp at hk; omega
    rw [Circ.getD_app_at _ _ _ _ rfl, Circ.getD_app_at _ _ _ _ h.2.1.symm]
    exact ⟨A, cap, ⟨by rw [List.getElem?_append_right (by rw [h.1]; exact Nat.le_refl _), h.1]; simp, hcap⟩, hx⟩
/-- A row of the call's own is such a row. -/
theorem own_row {base g n cap : Nat} {xs : Cs} (h : w.ownsRow base 23 1 (.slice (some ⟨g, 0, none⟩) n cap) n hs) (hh : Hdrs w S hs xs) (hT : ∀ b, S b → T b) (hg : T g) : RowIn w T (some ⟨g, 0, none⟩) hs xs := by
  refine ⟨?_, hh.kept (fun _ _ => rfl) hT⟩
  rcases h.2 with ⟨hv, _⟩ | ⟨g', cap', cur, hv, _, hheap, hnc, _, hsz, htake⟩
  · cases hv
  · injection hv with h1 h2 h3
    injection h1 with h1
    injection h1 with h1
    subst h1
    refine ⟨g, cur, rfl, hg, hheap, fun j hj => ?_⟩
    rw [← htake] at hj ⊢
    rw [List.length_take] at hj
    have hj2 : j < n * 1 := by omega
    rw [List.getElem?_take, if_pos hj2, Array.getElem?_toList]
theorem own_leaf {base g n cap : Nat} {x : List Nat} (h : w.ownsRow base 3 1 (.slice (some ⟨g, 0, none⟩) n cap) n (ivs (Opt.intL x))) (hg : T g) : LeafIn w T (some ⟨g, 0, none⟩) x := by
  rcases h.2 with ⟨hv, _⟩ | ⟨g', cap', cur, hv, _, hheap, hnc, _, hsz, htake⟩
  · cases hv
  · injection hv with h1 h2 h3
    injection h1 with h1
    injection h1 with h1
    subst h1
    refine .inr ⟨g, cur, rfl, hg, hheap, fun j hj => ?_⟩
    have hk := ivs_get (xs := Opt.intL x) (k := j) (by rw [Opt.intL_len]; exact hj)
    rw [Opt.intL_at, ← htake] at hk
    have hj2 : j < n * 1 := by have := h.1; rw [ivs_len, Opt.intL_len] at this; omega
    rw [List.getElem?_take, if_pos hj2, Array.getElem?_toList] at hk
    exact hk
theorem own_cuts {base g n cap : Nat} {xs : List Cs} (h : w.ownsRow base 68 1 (.slice (some ⟨g, 0, none⟩) n cap) n hs) (hh : CHdrs w S hs HH xs) (hT : ∀ b, S b → T b) (hg : T g) : CutsIn w T (some ⟨g, 0, none⟩) xs := fun k hk => by
  obtain ⟨A', cap', e, hx⟩ := hh.2.2 k hk
  refine ⟨g, 0, rfl, hg, A', cap', ?_, (hx.kept (fun _ _ => rfl) hT).lists⟩
  have hl := h.1
  rw [Nat.zero_add, h.cellAt k (by have := hh.1; omega)]
  exact e.1
end
/-- The blocks of w from B on but g. -/
def Off (w : World) (B g b : Nat) : Prop := B ≤ b ∧ b < w.heap.size ∧ b ≠ g
theorem Try.info23 : (Try.prog.info? 23).map (fun i => (i.zero, i.size, i.bytes)) = some (some (.slice none 0 0), 1, 24) := by kernel_rfl
theorem Try.info30 : (Try.prog.info? 68).map (fun i => (i.zero, i.size, i.bytes)) = some (some (.slice none 0 0), 1, 24) := by kernel_rfl
theorem info_split {i? : Option TypeInfo} {z : Value} {s b : Nat} (h : i?.map (fun i => (i.zero, i.size, i.bytes)) = some (some z, s, b)) : ∃ i, i? = some i ∧ i.zero = some z ∧ i.size = s ∧ i.bytes = b := by
  cases i? with
  | none => simp at h
  | some i => simp at h; exact ⟨i, rfl, h.1, h.2.1, h.2.2⟩
/-- A list of lists, and all lists of lists, being built. -/
def LstAt (w : World) (B : Nat) (xs : Cs) (hs : List Value) (g cap : Nat) : Prop := w.ownsRow B 23 1 (.slice (some ⟨g, 0, none⟩) xs.length cap) xs.length hs ∧ Hdrs w (Off w B g) hs xs
def AllAt (w : World) (B : Nat) (cs : List Cs) (HH : List (List Value)) (g cap : Nat) : Prop := ∃ hs, w.ownsRow B 68 1 (.slice (some ⟨g, 0, none⟩) cs.length cap) cs.length hs ∧ CHdrs w (Off w B g) hs HH cs
theorem Off.on {w w' : World} {B g : Nat} (hb : w.heap.size ≤ w'.heap.size) : ∀ b, Off w B g b → Off w' B g b := fun _ h => ⟨h.1, by have := h.2.1; omega, h.2.2⟩
theorem ownsRow_keep {w w' : World} {B e g n cap : Nat} {hs : List Value} (h : w.ownsRow B e 1 (.slice (some ⟨g, 0, none⟩) n cap) n hs) (hg : w'.heap[g]? = w.heap[g]?) : w'.ownsRow B e 1 (.slice (some ⟨g, 0, none⟩) n cap) n hs := by
  refine ⟨h.1, ?_⟩
  rcases h.2 with ⟨hv, _⟩ | ⟨g', cap', cur, hv, h1, h2, h3⟩
  · cases hv
  · have hv' := hv
    injection hv with e1
    injection e1 with e1
    injection e1 with e1
    subst e1
    exact .inr ⟨g, cap', cur, hv', h1, hg.trans h2, h3⟩
theorem LstAt.on {w w' : World} {B g cap : Nat} {xs : Cs} {hs : List Value} (h : LstAt w B xs hs g cap) (hb : Below w.heap.size w w') : LstAt w' B xs hs g cap :=
  ⟨ownsRow_keep h.1 (hb.block g (h.1.lt g rfl).2), h.2.kept (fun b hb' => hb.block b hb'.2.1) (Off.on hb.size)⟩
theorem AllAt.on {w w' : World} {B g cap : Nat} {cs : List Cs} {HH : List (List Value)} (h : AllAt w B cs HH g cap) (hb : Below w.heap.size w w') : AllAt w' B cs HH g cap := by
  obtain ⟨hs, h1, h2⟩ := h
  exact ⟨hs, ownsRow_keep h1 (hb.block g (h1.lt g rfl).2), h2.kept (fun b hb' => hb.block b hb'.2.1) (Off.on hb.size)⟩
theorem LstAt.gb {w : World} {B g cap : Nat} {xs : Cs} {hs : List Value} (h : LstAt w B xs hs g cap) : B ≤ g ∧ g < w.heap.size := h.1.lt g rfl
theorem AllAt.gb {w : World} {B g cap : Nat} {cs : List Cs} {HH : List (List Value)} (h : AllAt w B cs HH g cap) : B ≤ g ∧ g < w.heap.size := by
  obtain ⟨hs, h1, h2⟩ := h
  exact h1.lt g rfl
/-- One more cell onto a row of the call's own: what may be said of the blocks. -/
theorem off_grown {w0 w5 : World} {o : Obj} {g n cap : Nat} (hgr : (w0.alloc o).grownBy w5 (Value.slice (some ⟨g, 0, none⟩) n cap).ownBlock) : (∀ b, b < w0.heap.size → b ≠ g → w5.heap[b]? = w0.heap[b]?) := fun b h1 h2 => by
  rw [hgr.block b (by simp; omega) (by simp [Value.ownBlock]; exact h2)]
  exact Below.heap_alloc _ _ _ h1
theorem off_step {w0 w5 : World} {o : Obj} {B g g' n cap : Nat} (hgr : (w0.alloc o).grownBy w5 (Value.slice (some ⟨g, 0, none⟩) n cap).ownBlock) (hat : (Value.slice (some ⟨g, 0, none⟩) n cap).ownBlock = some g' ∨ g' = (w0.alloc o).heap.size) : (∀ b, Off w0 B g b → Off w5 B g' b) := fun b hb => by
  have h1 := hgr.size
  simp at h1
  refine ⟨hb.1, by have := hb.2.1; omega, ?_⟩
  rcases hat with h | h
  · simp [Value.ownBlock] at h
    have := hb.2.2
    omega
  · simp at h
    have := hb.2.1
    omega
theorem below_alloc_grown {w0 w5 : World} {o : Obj} {B g n cap : Nat} (hgr : (w0.alloc o).grownBy w5 (Value.slice (some ⟨g, 0, none⟩) n cap).ownBlock) (hB : B ≤ w0.heap.size) (hg : B ≤ g) : Below B w0 w5 :=
  ((Below.refl B w0).alloc hB o).grown hgr (by simp; omega) (fun j hj => by simp [Value.ownBlock] at hj; omega)

section
variable {ops : Array Oper} {rest : List Oper} {o : Oper} {a : Act} {Q : Exit → Act → World → Prop}
/-- One more list. -/
theorem wpList_push2 (hgd : o.guard = none) (s x : Operand) (ho : o.op = .call { callee := .builtin .append, args := #[s, x], argTypes := #[68, 68] })
    (wr : World) (B g cap n : Nat) (xs : Cs) (hs : List Value) (hev : a.eval s = .slice (some ⟨g, 0, none⟩) n cap) (hn : xs.length = n) (h : LstAt wr B xs hs g cap) (hnb : n ≤ 1000)
    (A : Option Addr) (m c : Nat) (y : List Nat) (hx : a.eval x = .slice (some ⟨wr.heap.size, 0, none⟩) 1 1) (hm : y.length = m) (hL : LeafIn wr (Off wr B g) A y)
    (cont : ∀ g' cap' w5, LstAt w5 B (xs ++ [y]) (hs ++ [.slice A m c]) g' cap' → Below B wr w5 → (∀ b, b < wr.heap.size → b ≠ g → w5.heap[b]? = wr.heap[b]?) → wpList Try.prog ops Q rest (a.put o.dst (.slice (some ⟨g', 0, none⟩) (n + 1) cap')) w5) :
    wpList Try.prog ops Q (o :: rest) a (wr.alloc (.cells #[.slice A m c] 23)) := by
  subst hn
  obtain ⟨i0, hi0, hz0, hz1, hz2⟩ := info_split Try.info23
  obtain ⟨hB, hgl⟩ := h.gb
  refine wpList_append_kept _ hgd s x 68 ho B 23 i0 _ 1 24 Try.underlying68 hi0 hz0 hz1 hz2 rfl (by omega) (.slice (some ⟨g, 0, none⟩) xs.length cap) xs.length hs hev (h.1.alloc _) ⟨wr.heap.size, 0, none⟩ 1 1 [.slice A m c] hx rfl (World.news_of_block (cs := #[.slice A m c]) (t := 23) (fr := (0, 0)) (heap_alloc_new wr _)) (by simp [Value.oneCell']) (by omega) (by simp [maxLen]; omega) (by omega) (by simp; omega) _ rfl ?_
  intro g' cap' w5 hown5 hgr5 hat5 hlt5 hkept5
  refine cont g' cap' w5 ⟨by rw [List.length_append, List.length_singleton]; exact hown5, ?_⟩ (below_alloc_grown hgr5 (by omega) hB) (off_grown hgr5)
  exact (h.2.kept (fun b hb => off_grown hgr5 b hb.2.1 hb.2.2) (off_step hgr5 hat5)).snoc hm (hL.kept (fun b hb => off_grown hgr5 b hb.2.1 hb.2.2) (off_step hgr5 hat5))
theorem wpList_push3 (hgd : o.guard = none) (s x : Operand) (ho : o.op = .call { callee := .builtin .append, args := #[s, x], argTypes := #[85, 85] })
    (wr : World) (B g cap n : Nat) (cs : List Cs) (HH : List (List Value)) (hev : a.eval s = .slice (some ⟨g, 0, none⟩) n cap) (hn : cs.length = n) (h : AllAt wr B cs HH g cap) (hnb : n ≤ 1000)
    (A : Option Addr) (m c : Nat) (H : List Value) (y : Cs) (hx : a.eval x = .slice (some ⟨wr.heap.size, 0, none⟩) 1 1) (hm : y.length = m) (hmc : m ≤ c) (hL : RowIn wr (Off wr B g) A H y)
    (cont : ∀ g' cap' w5, AllAt w5 B (cs ++ [y]) (HH ++ [H]) g' cap' → Below B wr w5 → wpList Try.prog ops Q rest (a.put o.dst (.slice (some ⟨g', 0, none⟩) (n + 1) cap')) w5) :
    wpList Try.prog ops Q (o :: rest) a (wr.alloc (.cells #[.slice A m c] 68)) := by
  subst hn
  obtain ⟨i0, hi0, hz0, hz1, hz2⟩ := info_split Try.info30
  obtain ⟨hB, hgl⟩ := h.gb
  obtain ⟨hs, h1, h2⟩ := h
  refine wpList_append_kept _ hgd s x 85 ho B 68 i0 _ 1 24 Try.underlying85 hi0 hz0 hz1 hz2 rfl (by omega) (.slice (some ⟨g, 0, none⟩) cs.length cap) cs.length hs hev (h1.alloc _) ⟨wr.heap.size, 0, none⟩ 1 1 [.slice A m c] hx rfl (World.news_of_block (cs := #[.slice A m c]) (t := 68) (fr := (0, 0)) (heap_alloc_new wr _)) (by simp [Value.oneCell']) (by omega) (by simp [maxLen]; omega) (by omega) (by simp; omega) _ rfl ?_
  intro g' cap' w5 hown5 hgr5 hat5 hlt5 hkept5
  refine cont g' cap' w5 ⟨_, by rw [List.length_append, List.length_singleton]; exact hown5, ?_⟩ (below_alloc_grown hgr5 (by omega) hB)
  exact (h2.kept (fun b hb => off_grown hgr5 b hb.2.1 hb.2.2) (off_step hgr5 hat5)).snoc hm hmc (hL.kept (fun b hb => off_grown hgr5 b hb.2.1 hb.2.2) (off_step hgr5 hat5))
end
theorem own_cap {w : World} {base e g n cap : Nat} {hs : List Value} (h : w.ownsRow base e 1 (.slice (some ⟨g, 0, none⟩) n cap) n hs) : n ≤ cap := by
  rcases h.2 with ⟨hv, _⟩ | ⟨g', cap', cur, hv, _, _, hc, _⟩
  · cases hv
  · injection hv with _ _ hv
    omega
end Go.Proofs.Ythcpgbfghededaa
