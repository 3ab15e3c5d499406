/- Lists of cuts in memory. -/
import Derived.Test.YtkkkkalgfmddbaaQD
import Derived.Test.YtkkkkalgfmddbaaT3
import Derived.Test.YtkkkkalgfmddbaaCL
import Derived.Shelf.RegionOpen
namespace Go.Proofs.Ytkkkkalgfmddbaa
open Go.RowKit Go.Deep Cut

theorem IntsAt.on {w w' : World} {A : Option Addr} {xs : List Int} (h : IntsAt w w.heap.size A xs) (hb : Below w.heap.size w w') : IntsAt w' w'.heap.size A xs := (h.below hb).mono hb.size
/-- Read in blocks of S alone. -/
def IntsIn (w : World) (S : Nat → Prop) (A : Option Addr) (xs : List Int) : Prop :=
  ∀ k, k < xs.length → ∃ b off, A = some ⟨b, off, none⟩ ∧ S b ∧ w.cell? ⟨b, off + k, none⟩ = some (.int .i64 (xs.getD k 0))
def ListIn (w : World) (S : Nat → Prop) (A : Option Addr) (xs : Cs) : Prop :=
  ∀ k, k < xs.length → ∃ b off, A = some ⟨b, off, none⟩ ∧ S b ∧ ∃ (A' : Option Addr) (cap : Nat), w.cell? ⟨b, off + k, none⟩ = some (.slice A' (xs.getD k []).length cap) ∧ IntsIn w S A' (Opt.intL (xs.getD k []))
def CutsIn (w : World) (S : Nat → Prop) (A : Option Addr) (cs : List Cs) : Prop :=
  ∀ k, k < cs.length → ∃ b off, A = some ⟨b, off, none⟩ ∧ S b ∧ ∃ (A' : Option Addr) (cap : Nat), w.cell? ⟨b, off + k, none⟩ = some (.slice A' (cs.getD k []).length cap) ∧ ListIn w S A' (cs.getD k [])
section
variable {w w' : World} {S T : Nat → Prop} {A : Option Addr}
theorem IntsIn.kept {xs : List Int} (h : IntsIn w S A xs) (hS : ∀ b, S b → w'.heap[b]? = w.heap[b]?) (hT : ∀ b, S b → T b) : IntsIn w' T A xs := fun k hk => by
  obtain ⟨b, off, e, hs, hc⟩ := h k hk
  exact ⟨b, off, e, hT b hs, (World.cell?_of_block (a := ⟨b, off + k, none⟩) (hS b hs)).trans hc⟩
theorem ListIn.kept {xs : Cs} (h : ListIn w S A xs) (hS : ∀ b, S b → w'.heap[b]? = w.heap[b]?) (hT : ∀ b, S b → T b) : ListIn w' T A xs := fun k hk => by
  obtain ⟨b, off, e, hs, A', cap, hc, hx⟩ := h k hk
  exact ⟨b, off, e, hT b hs, A', cap, (World.cell?_of_block (a := ⟨b, off + k, none⟩) (hS b hs)).trans hc, hx.kept hS hT⟩
theorem CutsIn.kept {xs : List Cs} (h : CutsIn w S A xs) (hS : ∀ b, S b → w'.heap[b]? = w.heap[b]?) (hT : ∀ b, S b → T b) : CutsIn w' T A xs := fun k hk => by
  obtain ⟨b, off, e, hs, A', cap, hc, hx⟩ := h k hk
  exact ⟨b, off, e, hT b hs, A', cap, (World.cell?_of_block (a := ⟨b, off + k, none⟩) (hS b hs)).trans hc, hx.kept hS hT⟩
end
def ListAt (w : World) (B : Nat) (A : Option Addr) (xs : Cs) : Prop := ListIn w (fun b => b < B) A xs
def CutsAt (w : World) (B : Nat) (A : Option Addr) (cs : List Cs) : Prop := CutsIn w (fun b => b < B) A cs
theorem ListAt.below {w w' : World} {B : Nat} {A : Option Addr} {xs : Cs} (h : ListAt w B A xs) (hb : Below B w w') : ListAt w' B A xs := ListIn.kept h (fun b hs => hb.block b hs) (fun _ h => h)
theorem ListAt.mono {w : World} {B B' : Nat} {A : Option Addr} {xs : Cs} (h : ListAt w B A xs) (hb : B ≤ B') : ListAt w B' A xs := ListIn.kept h (fun _ _ => rfl) (fun _ h => Nat.lt_of_lt_of_le h hb)
theorem ListAt.on {w w' : World} {A : Option Addr} {xs : Cs} (h : ListAt w w.heap.size A xs) (hb : Below w.heap.size w w') : ListAt w' w'.heap.size A xs := (h.below hb).mono hb.size
theorem CutsAt.below {w w' : World} {B : Nat} {A : Option Addr} {xs : List Cs} (h : CutsAt w B A xs) (hb : Below B w w') : CutsAt w' B A xs := CutsIn.kept h (fun b hs => hb.block b hs) (fun _ h => h)
theorem CutsAt.mono {w : World} {B B' : Nat} {A : Option Addr} {xs : List Cs} (h : CutsAt w B A xs) (hb : B ≤ B') : CutsAt w B' A xs := CutsIn.kept h (fun _ _ => rfl) (fun _ h => Nat.lt_of_lt_of_le h hb)
theorem CutsAt.on {w w' : World} {A : Option Addr} {xs : List Cs} (h : CutsAt w w.heap.size A xs) (hb : Below w.heap.size w w') : CutsAt w' w'.heap.size A xs := (h.below hb).mono hb.size

/-- A list in a block of its own, in S. -/
def LeafIn (w : World) (S : Nat → Prop) (A : Option Addr) (x : List Nat) : Prop :=
  x = [] ∨ ∃ (b : Nat) (cs : Array Value), A = some ⟨b, 0, none⟩ ∧ S b ∧ Row w b 3 cs ∧ ∀ j, j < x.length → cs[j]? = some (.int .i64 (x.getD j 0 : Nat))
/-- The headers of such lists. -/
def Hdrs (w : World) (S : Nat → Prop) (hs : List Value) (xs : Cs) : Prop :=
  hs.length = xs.length ∧ ∀ k, k < xs.length → ∃ (A' : Option Addr) (cap : Nat), hs[k]? = some (.slice A' (xs.getD k []).length cap) ∧ LeafIn w S A' (xs.getD k [])
/-- Such headers in a block of their own, in S. -/
def RowIn (w : World) (S : Nat → Prop) (A : Option Addr) (hs : List Value) (xs : Cs) : Prop :=
  (∃ (b : Nat) (cs : Array Value), A = some ⟨b, 0, none⟩ ∧ S b ∧ Row w b 31 cs ∧ ∀ j, j < hs.length → cs[j]? = hs[j]?) ∧ Hdrs w S hs xs
def CHdrs (w : World) (S : Nat → Prop) (hs : List Value) (HH : List (List Value)) (cs : List Cs) : Prop :=
  hs.length = cs.length ∧ HH.length = cs.length ∧ ∀ k, k < cs.length → ∃ (A' : Option Addr) (cap : Nat), (hs[k]? = some (.slice A' (cs.getD k []).length cap) ∧ (cs.getD k []).length ≤ cap) ∧ RowIn w S A' (HH.getD k []) (cs.getD k [])
section
variable {w w' : World} {S T : Nat → Prop} {hs : List Value} {HH : List (List Value)} {A : Option Addr}
theorem LeafIn.kept {x : List Nat} (h : LeafIn w S A x) (hS : ∀ b, S b → w'.heap[b]? = w.heap[b]?) (hT : ∀ b, S b → T b) : LeafIn w' T A x := by
  rcases h with h | ⟨b, cs, e, hs, hr, hc⟩
  · exact .inl h
  · exact .inr ⟨b, cs, e, hT b hs, (hS b hs).trans hr, hc⟩
theorem LeafIn.ints {x : List Nat} (h : LeafIn w S A x) : IntsIn w S A (Opt.intL x) := fun k hk => by
  rw [Opt.intL_len] at hk
  rcases h with h | ⟨b, cs, e, hs, hr, hc⟩
  · subst h; simp at hk
  · exact ⟨b, 0, e, hs, by rw [Nat.zero_add, hr.cell, hc k hk, Opt.intL_at]⟩
theorem Hdrs.kept {xs : Cs} (h : Hdrs w S hs xs) (hS : ∀ b, S b → w'.heap[b]? = w.heap[b]?) (hT : ∀ b, S b → T b) : Hdrs w' T hs xs := ⟨h.1, fun k hk => by
  obtain ⟨A', cap, e, hx⟩ := h.2 k hk
  exact ⟨A', cap, e, hx.kept hS hT⟩⟩
theorem RowIn.kept {xs : Cs} (h : RowIn w S A hs xs) (hS : ∀ b, S b → w'.heap[b]? = w.heap[b]?) (hT : ∀ b, S b → T b) : RowIn w' T A hs xs := by
  obtain ⟨⟨b, cs, e, hs', hr, hc⟩, hh⟩ := h
  exact ⟨⟨b, cs, e, hT b hs', (hS b hs').trans hr, hc⟩, hh.kept hS hT⟩
theorem RowIn.lists {xs : Cs} (h : RowIn w S A hs xs) : ListIn w S A xs := fun k hk => by
  obtain ⟨⟨b, cs, e, hs', hr, hc⟩, hh⟩ := h
  obtain ⟨A', cap, e', hx⟩ := hh.2 k hk
  exact ⟨b, 0, e, hs', A', cap, by rw [Nat.zero_add, hr.cell, hc k (by rw [hh.1]; exact hk)]; exact e', hx.ints⟩
theorem CHdrs.kept {xs : List Cs} (h : CHdrs w S hs HH xs) (hS : ∀ b, S b → w'.heap[b]? = w.heap[b]?) (hT : ∀ b, S b → T b) : CHdrs w' T hs HH xs := ⟨h.1, h.2.1, fun k hk => by
  obtain ⟨A', cap, e, hx⟩ := h.2.2 k hk
  exact ⟨A', cap, e, hx.kept hS hT⟩⟩
theorem Hdrs.nil (w : World) (S : Nat → Prop) : Hdrs w S [] [] := ⟨rfl, fun k hk => absurd hk (by simp)⟩
theorem CHdrs.nil (w : World) (S : Nat → Prop) : CHdrs w S [] [] [] := ⟨rfl, rfl, fun k hk => absurd hk (by simp)⟩
theorem Hdrs.snoc {xs : Cs} (h : Hdrs w S hs xs) {A : Option Addr} {x : List Nat} {cap n : Nat} (hn : x.length = n) (hx : LeafIn w S A x) : Hdrs w S (hs ++ [.slice A n cap]) (xs ++ [x]) := by
  subst hn
  refine ⟨by simp [h.1], fun k hk => ?_⟩
  by_cases e : k < xs.length
  · obtain ⟨A', cap', e', hx'⟩ := h.2 k e
    rw [Circ.getD_app_lt _ _ _ _ e]
    exact ⟨A', cap', by rw [List.getElem?_append_left (by rw [h.1]; exact e)]; exact e', hx'⟩
  · obtain rfl : k = xs.length := by simp at hk; omega
    rw [Circ.getD_app_at _ _ _ _ rfl]
    exact ⟨A, cap, by rw [List.getElem?_append_right (by rw [h.1]; exact Nat.le_refl _), h.1]; simp, hx⟩
theorem CHdrs.snoc {xs : List Cs} (h : CHdrs w S hs HH xs) {A : Option Addr} {x : Cs} {H : List Value} {cap n : Nat} (hn : x.length = n) (hcap : n ≤ cap) (hx : RowIn w S A H x) : CHdrs w S (hs ++ [.slice A n cap]) (HH ++ [H]) (xs ++ [x]) := by
  subst hn
  refine ⟨by simp [h.1], by simp [h.2.1], fun k hk => ?_⟩
  by_cases e : k < xs.length
  · obtain ⟨A', cap', e', hx'⟩ := h.2.2 k e
    rw [Circ.getD_app_lt _ _ _ _ e, Circ.getD_app_lt _ _ _ _ (by rw [h.2.1]; exact e)]
    exact ⟨A', cap', ⟨by rw [List.getElem?_append_left (by rw [h.1]; exact e)]; exact e'.1, e'.2⟩, hx'⟩
  · obtain rfl : k = xs.length := by simp at hk; omega
    rw [Circ.getD_app_at _ _ _ _ rfl, Circ.getD_app_at _ _ _ _ h.2.1.symm]
    exact ⟨A, cap, ⟨by rw [List.getElem?_append_right (by rw [h.1]; exact Nat.le_refl _), h.1]; simp, hcap⟩, hx⟩
/-- A row of the call's own is such a row. -/
theorem own_row {base g n cap : Nat} {xs : Cs} (h : w.ownsRow base 31 1 (.slice (some ⟨g, 0, none⟩) n cap) n hs) (hh : Hdrs w S hs xs) (hT : ∀ b, S b → T b) (hg : T g) : RowIn w T (some ⟨g, 0, none⟩) hs xs := by
  refine ⟨?_, hh.kept (fun _ _ => rfl) hT⟩
  rcases h.2 with ⟨hv, _⟩ | ⟨g', cap', cur, hv, _, hheap, hnc, _, hsz, htake⟩
  · cases hv
  · injection hv with h1 h2 h3
    injection h1 with h1
    injection h1 with h1
    subst h1
    refine ⟨g, cur, rfl, hg, hheap, fun j hj => ?_⟩
    rw [← htake] at hj ⊢
    rw [List.length_take] at hj
    have hj2 : j < n * 1 := by omega
    rw [List.getElem?_take, if_pos hj2, Array.getElem?_toList]
theorem own_leaf {base g n cap : Nat} {x : List Nat} (h : w.ownsRow base 3 1 (.slice (some ⟨g, 0, none⟩) n cap) n (ivs (Opt.intL x))) (hg : T g) : LeafIn w T (some ⟨g, 0, none⟩) x := by
  rcases h.2 with ⟨hv, _⟩ | ⟨g', cap', cur, hv, _, hheap, hnc, _, hsz, htake⟩
  · cases hv
  · injection hv with h1 h2 h3
    injection h1 with h1
    injection h1 with h1
    subst h1
    refine .inr ⟨g, cur, rfl, hg, hheap, fun j hj => ?_⟩
    have hk := ivs_get (xs := Opt.intL x) (k := j) (by rw [Opt.intL_len]; exact hj)
    rw [Opt.intL_at, ← htake] at hk
    have hj2 : j < n * 1 := by have := h.1; rw [ivs_len, Opt.intL_len] at this; omega
    rw [List.getElem?_take, if_pos hj2, Array.getElem?_toList] at hk
    exact hk
theorem own_cuts {base g n cap : Nat} {xs : List Cs} (h : w.ownsRow base 151 1 (.slice (some ⟨g, 0, none⟩) n cap) n hs) (hh : CHdrs w S hs HH xs) (hT : ∀ b, S b → T b) (hg : T g) : CutsIn w T (some ⟨g, 0, none⟩) xs := fun k hk => by
  obtain ⟨A', cap', e, hx⟩ := hh.2.2 k hk
  refine ⟨g, 0, rfl, hg, A', cap', ?_, (hx.kept (fun _ _ => rfl) hT).lists⟩
  have hl := h.1
  rw [Nat.zero_add, h.cellAt k (by have := hh.1; omega)]
  exact e.1
end
/-- The blocks of w from B on but g. -/
def Off (w : World) (B g b : Nat) : Prop := B ≤ b ∧ b < w.heap.size ∧ b ≠ g
theorem Try.info23 : (Try.prog.info? 31).map (fun i => (i.zero, i.size, i.bytes)) = some (some (.slice none 0 0), 1, 24) := by kernel_rfl
theorem Try.info30 : (Try.prog.info? 151).map (fun i => (i.zero, i.size, i.bytes)) = some (some (.slice none 0 0), 1, 24) := by kernel_rfl
theorem info_split {i? : Option TypeInfo} {z : Value} {s b : Nat} (h : i?.map (fun i => (i.zero, i.size, i.bytes)) = some (some z, s, b)) : ∃ i, i? = some i ∧ i.zero = some z ∧ i.size = s ∧ i.bytes = b := by
  cases i? with
  | none => simp at h
  | some i => simp at h; exact ⟨i, rfl, h.1, h.2.1, h.2.2⟩
/-- A list of lists, and all lists of lists, being built. -/
def LstAt (w : World) (B : Nat) (xs : Cs) (hs : List Value) (g cap : Nat) : Prop := w.ownsRow B 31 1 (.slice (some ⟨g, 0, none⟩) xs.length cap) xs.length hs ∧ Hdrs w (Off w B g) hs xs
def AllAt (w : World) (B : Nat) (cs : List Cs) (HH : List (List Value)) (g cap : Nat) : Prop := ∃ hs, w.ownsRow B 151 1 (.slice (some ⟨g, 0, none⟩) cs.length cap) cs.length hs ∧ CHdrs w (Off w B g) hs HH cs
theorem Off.on {w w' : World} {B g : Nat} (hb : w.heap.size ≤ w'.heap.size) : ∀ b, Off w B g b → Off w' B g b := fun _ h => ⟨h.1, by have := h.2.1; omega, h.2.2⟩
theorem ownsRow_keep {w w' : World} {B e g n cap : Nat} {hs : List Value} (h : w.ownsRow B e 1 (.slice (some ⟨g, 0, none⟩) n cap) n hs) (hg : w'.heap[g]? = w.heap[g]?) : w'.ownsRow B e 1 (.slice (some ⟨g, 0, none⟩) n cap) n hs := by
  refine ⟨h.1, ?_⟩
  rcases h.2 with ⟨hv, _⟩ | ⟨g', cap', cur, hv, h1, h2, h3⟩
  · cases hv
  · have hv' := hv
    injection hv with e1
    injection e1 with e1
    injection e1 with e1
    subst e1
    exact .inr ⟨g, cap', cur, hv', h1, hg.trans h2, h3⟩
theorem LstAt.on {w w' : World} {B g cap : Nat} {xs : Cs} {hs : List Value} (h : LstAt w B xs hs g cap) (hb : Below w.heap.size w w') : LstAt w' B xs hs g cap :=
  ⟨ownsRow_keep h.1 (hb.block g (h.1.lt g rfl).2), h.2.kept (fun b hb' => hb.block b hb'.2.1) (Off.on hb.size)⟩
theorem AllAt.on {w w' : World} {B g cap : Nat} {cs : List Cs} {HH : List (List Value)} (h : AllAt w B cs HH g cap) (hb : Below w.heap.size w w') : AllAt w' B cs HH g cap := by
  obtain ⟨hs, h1, h2⟩ := h
  exact ⟨hs, ownsRow_keep h1 (hb.block g (h1.lt g rfl).2), h2.kept (fun b hb' => hb.block b hb'.2.1) (Off.on hb.size)⟩
theorem LstAt.gb {w : World} {B g cap : Nat} {xs : Cs} {hs : List Value} (h : LstAt w B xs hs g cap) : B ≤ g ∧ g < w.heap.size := h.1.lt g rfl
theorem AllAt.gb {w : World} {B g cap : Nat} {cs : List Cs} {HH : List (List Value)} (h : AllAt w B cs HH g cap) : B ≤ g ∧ g < w.heap.size := by
  obtain ⟨hs, h1, h2⟩ := h
  exact h1.lt g rfl
/-- One more cell onto a row of the call's own: what may be said of the blocks. -/
theorem off_grown {w0 w5 : World} {o : Obj} {g n cap : Nat} (hgr : (w0.alloc o).grownBy w5 (Value.slice (some ⟨g, 0, none⟩) n cap).ownBlock) : (∀ b, b < w0.heap.size → b ≠ g → w5.heap[b]? = w0.heap[b]?) := fun b h1 h2 => by
  rw [hgr.block b (by simp; omega) (by simp [Value.ownBlock]; exact h2)]
  exact Below.heap_alloc _ _ _ h1
theorem off_step {w0 w5 : World} {o : Obj} {B g g' n cap : Nat} (hgr : (w0.alloc o).grownBy w5 (Value.slice (some ⟨g, 0, none⟩) n cap).ownBlock) (hat : (Value.slice (some ⟨g, 0, none⟩) n cap).ownBlock = some g' ∨ g' = (w0.alloc o).heap.size) : (∀ b, Off w0 B g b → Off w5 B g' b) := fun b hb => by
  have h1 := hgr.size
  simp at h1
  refine ⟨hb.1, by have := hb.2.1; omega, ?_⟩
  rcases hat with h | h
  · simp [Value.ownBlock] at h
    have := hb.2.2
    omega
  · simp at h
    have := hb.2.1
    omega
theorem below_alloc_grown {w0 w5 : World} {o : Obj} {B g n cap : Nat} (hgr : (w0.alloc o).grownBy w5 (Value.slice (some ⟨g, 0, none⟩) n cap).ownBlock) (hB : B ≤ w0.heap.size) (hg : B ≤ g) : Below B w0 w5 :=
  ((Below.refl B w0).alloc hB o).grown hgr (by simp; omega) (fun j hj => by simp [Value.ownBlock] at hj; omega)

section
variable {ops : Array Oper} {rest : List Oper} {o : Oper} {a : Act} {Q : Exit → Act → World → Prop}
/-- One more list. -/
theorem wpList_push2 (hgd : o.guard = none) (s x : Operand) (ho : o.op = .call { callee := .builtin .append, args := #[s, x], argTypes := #[151, 151] })
    (wr : World) (B g cap n : Nat) (xs : Cs) (hs : List Value) (hev : a.eval s = .slice (some ⟨g, 0, none⟩) n cap) (hn : xs.length = n) (h : LstAt wr B xs hs g cap) (hnb : n ≤ 1000)
    (A : Option Addr) (m c : Nat) (y : List Nat) (hx : a.eval x = .slice (some ⟨wr.heap.size, 0, none⟩) 1 1) (hm : y.length = m) (hL : LeafIn wr (Off wr B g) A y)
    (cont : ∀ g' cap' w5, LstAt w5 B (xs ++ [y]) (hs ++ [.slice A m c]) g' cap' → Below B wr w5 → (∀ b, b < wr.heap.size → b ≠ g → w5.heap[b]? = wr.heap[b]?) → wpList Try.prog ops Q rest (a.put o.dst (.slice (some ⟨g', 0, none⟩) (n + 1) cap')) w5) :
    wpList Try.prog ops Q (o :: rest) a (wr.alloc (.cells #[.slice A m c] 31)) := by
  subst hn
  obtain ⟨i0, hi0, hz0, hz1, hz2⟩ := info_split Try.info23
  obtain ⟨hB, hgl⟩ := h.gb
  refine wpList_append_kept _ hgd s x 151 ho B 31 i0 _ 1 24 Try.underlying151 hi0 hz0 hz1 hz2 rfl (by omega) (.slice (some ⟨g, 0, none⟩) xs.length cap) xs.length hs hev (h.1.alloc _) ⟨wr.heap.size, 0, none⟩ 1 1 [.slice A m c] hx rfl (World.news_of_block (cs := #[.slice A m c]) (t := 31) (fr := (0, 0)) (heap_alloc_new wr _)) (by simp [Value.oneCell']) (by omega) (by simp [maxLen]; omega) (by omega) (by simp; omega) _ rfl ?_
  intro g' cap' w5 hown5 hgr5 hat5 hlt5 hkept5
  refine cont g' cap' w5 ⟨by rw [List.length_append, List.length_singleton]; exact hown5, ?_⟩ (below_alloc_grown hgr5 (by omega) hB) (off_grown hgr5)
  exact (h.2.kept (fun b hb => off_grown hgr5 b hb.2.1 hb.2.2) (off_step hgr5 hat5)).snoc hm (hL.kept (fun b hb => off_grown hgr5 b hb.2.1 hb.2.2) (off_step hgr5 hat5))
theorem wpList_push3 (hgd : o.guard = none) (s x : Operand) (ho : o.op = .call { callee := .builtin .append, args := #[s, x], argTypes := #[216, 216] })
    (wr : World) (B g cap n : Nat) (cs : List Cs) (HH : List (List Value)) (hev : a.eval s = .slice (some ⟨g, 0, none⟩) n cap) (hn : cs.length = n) (h : AllAt wr B cs HH g cap) (hnb : n ≤ 1000)
    (A : Option Addr) (m c : Nat) (H : List Value) (y : Cs) (hx : a.eval x = .slice (some ⟨wr.heap.size, 0, none⟩) 1 1) (hm : y.length = m) (hmc : m ≤ c) (hL : RowIn wr (Off wr B g) A H y)
    (cont : ∀ g' cap' w5, AllAt w5 B (cs ++ [y]) (HH ++ [H]) g' cap' → Below B wr w5 → wpList Try.prog ops Q rest (a.put o.dst (.slice (some ⟨g', 0, none⟩) (n + 1) cap')) w5) :
    wpList Try.prog ops Q (o :: rest) a (wr.alloc (.cells #[.slice A m c] 151)) := by
  subst hn
  obtain ⟨i0, hi0, hz0, hz1, hz2⟩ := info_split Try.info30
  obtain ⟨hB, hgl⟩ := h.gb
  obtain ⟨hs, h1, h2⟩ := h
  refine wpList_append_kept _ hgd s x 216 ho B 151 i0 _ 1 24 Try.underlying216 hi0 hz0 hz1 hz2 rfl (by omega) (.slice (some ⟨g, 0, none⟩) cs.length cap) cs.length hs hev (h1.alloc _) ⟨wr.heap.size, 0, none⟩ 1 1 [.slice A m c] hx rfl (World.news_of_block (cs := #[.slice A m c]) (t := 151) (fr := (0, 0)) (heap_alloc_new wr _)) (by simp [Value.oneCell']) (by omega) (by simp [maxLen]; omega) (by omega) (by simp; omega) _ rfl ?_
  intro g' cap' w5 hown5 hgr5 hat5 hlt5 hkept5
  refine cont g' cap' w5 ⟨_, by rw [List.length_append, List.length_singleton]; exact hown5, ?_⟩ (below_alloc_grown hgr5 (by omega) hB)
  exact (h2.kept (fun b hb => off_grown hgr5 b hb.2.1 hb.2.2) (off_step hgr5 hat5)).snoc hm hmc (hL.kept (fun b hb => off_grown hgr5 b hb.2.1 hb.2.2) (off_step hgr5 hat5))
end
theorem own_cap {w : World} {base e g n cap : Nat} {hs : List Value} (h : w.ownsRow base e 1 (.slice (some ⟨g, 0, none⟩) n cap) n hs) : n ≤ cap := by
  rcases h.2 with ⟨hv, _⟩ | ⟨g', cap', cur, hv, _, _, hc, _⟩
  · cases hv
  · injection hv with _ _ hv
    omega
end Go.Proofs.Ytkkkkalgfmddbaa
/- The contract of the model's union of two cuts. -/
namespace Go.Proofs.Ytkkkkalgfmddbaa
open Go.RowKit Go.Deep Cut

def iv1 (x : Nat) : Value := .int .i64 (x : Int)
theorem ivs_snoc (l : List Nat) (x : Nat) : ivs (Opt.intL (l ++ [x])) = ivs (Opt.intL l) ++ [.int .i64 (x : Int)] := by simp [ivs, Opt.intL]
/-- What the loop of the union keeps. -/
def MInv (wr : World) (B : Nat) (xs ys : List Nat) (o : List Nat) (i j g cap : Nat) : Prop :=
  wr.ownsRow B 3 1 (.slice (some ⟨g, 0, none⟩) o.length cap) o.length (ivs (Opt.intL o)) ∧ o ++ merge (xs.drop i) (ys.drop j) = merge xs ys ∧ o.length ≤ i + j
theorem MInv.push {wr : World} {B : Nat} {xs ys o : List Nat} {i j g cap g' cap' i' j' x : Nat} {w5 : World} (h : MInv wr B xs ys o i j g cap) (hown : w5.ownsRow B 3 1 (.slice (some ⟨g', 0, none⟩) (o.length + 1) cap') (o.length + 1) (ivs (Opt.intL o) ++ [.int .i64 (x : Int)]))
    (hm : merge (xs.drop i) (ys.drop j) = x :: merge (xs.drop i') (ys.drop j')) (hl : i + j + 1 ≤ i' + j') : MInv w5 B xs ys (o ++ [x]) i' j' g' cap' := by
  refine ⟨?_, ?_, ?_⟩
  · rw [List.length_append, List.length_singleton, ivs_snoc]
    exact hown
  · have := h.2.1
    rw [hm] at this
    rw [← this]
    simp
  · have := h.2.2
    simp
    omega
theorem mstep_a {xs ys : List Nat} {i j : Nat} (hi : i < xs.length) (hj : ys.length ≤ j) : merge (xs.drop i) (ys.drop j) = xs.getD i 0 :: merge (xs.drop (i + 1)) (ys.drop j) := by
  rw [List.drop_of_length_le hj, merge_nil_r, merge_nil_r, drop_get hi]
theorem mstep_b {xs ys : List Nat} {i j : Nat} (hi : xs.length ≤ i) (hj : j < ys.length) : merge (xs.drop i) (ys.drop j) = ys.getD j 0 :: merge (xs.drop i) (ys.drop (j + 1)) := by
  rw [List.drop_of_length_le hi, merge_nil_l, merge_nil_l, drop_get hj]
theorem mstep_lt {xs ys : List Nat} {i j : Nat} (hi : i < xs.length) (hj : j < ys.length) (h : xs.getD i 0 < ys.getD j 0) : merge (xs.drop i) (ys.drop j) = xs.getD i 0 :: merge (xs.drop (i + 1)) (ys.drop j) := by
  rw [drop_get hi, drop_get hj, merge_lt _ _ h, ← drop_get hj]
theorem mstep_gt {xs ys : List Nat} {i j : Nat} (hi : i < xs.length) (hj : j < ys.length) (h : ys.getD j 0 < xs.getD i 0) : merge (xs.drop i) (ys.drop j) = ys.getD j 0 :: merge (xs.drop i) (ys.drop (j + 1)) := by
  rw [drop_get hi, drop_get hj, merge_gt _ _ h, ← drop_get hi]
theorem mstep_eq {xs ys : List Nat} {i j : Nat} (hi : i < xs.length) (hj : j < ys.length) (h : xs.getD i 0 = ys.getD j 0) : merge (xs.drop i) (ys.drop j) = xs.getD i 0 :: merge (xs.drop (i + 1)) (ys.drop (j + 1)) := by
  rw [drop_get hi, drop_get hj, ← h, merge_eq]
theorem merge_end {xs ys : List Nat} {i j : Nat} (hi : xs.length ≤ i) (hj : ys.length ≤ j) : merge (xs.drop i) (ys.drop j) = [] := by
  rw [List.drop_of_length_le hi, List.drop_of_length_le hj, merge_nil_l]
def MOut (w : World) (xs ys : List Nat) (e : Ending) (w' : World) : Prop := ∃ g cap, e = .returned (.slice (some ⟨g, 0, none⟩) (merge xs ys).length cap) ∧ w'.ownsRow w.heap.size 3 1 (.slice (some ⟨g, 0, none⟩) (merge xs ys).length cap) (merge xs ys).length (ivs (Opt.intL (merge xs ys))) ∧ Below w.heap.size w w'

set_option maxRecDepth 10000 in
set_option maxHeartbeats 1000000 in
theorem l5Merge_any (A A' : Option Addr) (n m cap cap' : Nat) (xs ys : List Nat) (w : World) (hx : IntsAt w w.heap.size A (Opt.intL xs)) (hy : IntsAt w w.heap.size A' (Opt.intL ys)) (hn : xs.length = n) (hm : ys.length = m) (hnb : n ≤ 1000) (hmb : m ≤ 1000) :
    Calls Try.prog 174 #[.slice A n cap, .slice A' m cap'] w (MOut w xs ys) := by
  have HX := Lib.hid hx
  have HY := Lib.hid hy
  have HN := Lib.hid hn
  have HM := Lib.hid hm
  clear hx hy hn hm
  obtain ⟨i0, hi0, hz0, hz1, hz2⟩ := info_split Try.info3
  have HI0 := Lib.hid hi0
  have HZ0 := Lib.hid hz0
  have HZ1 := Lib.hid hz1
  have HZ2 := Lib.hid hz2
  clear hi0 hz0 hz1 hz2
  have HO0 : Hid ((w.alloc (.cells #[] 3)).ownsRow w.heap.size 3 1 (.slice (some ⟨w.heap.size, 0, none⟩) 0 0) 0 []) := Lib.hid (World.ownsRow_lit (base := w.heap.size) (e := 3) (size := 1) w #[] 0 (by omega) (by simp [maxLen]) (by simp))
  have HB0 : Hid (Below w.heap.size w (w.alloc (.cells #[] 3))) := Lib.hid ((Below.refl _ _).alloc (Nat.le_refl _) _)
  go_enter Try.func174, Try.ntmps174
  go_wp2
  go_loopw [5, 6, 7] (fun v iv jv wr => ∃ (o : List Nat) (i j g cap : Nat), i ≤ n ∧ j ≤ m ∧ iv = .int .i64 i ∧ jv = .int .i64 j ∧ v = .slice (some ⟨g, 0, none⟩) o.length cap ∧ Hid (MInv wr w.heap.size xs ys o i j g cap) ∧ Below w.heap.size w wr) (fun _ iv jv _ => n + m - (intOf iv).toNat - (intOf jv).toNat)
  case atStart => exact ⟨[], 0, 0, _, _, Nat.zero_le _, Nat.zero_le _, rfl, rfl, rfl, Lib.hid ⟨HO0.out, by simp, by simp⟩, HB0.out⟩
  case round =>
    clear HO0 HB0
    obtain ⟨o, i, j, g, cap, hi, hj, rfl, rfl, rfl, HI, hbr⟩ := hrel
    have hgb : w.heap.size ≤ g := (HI.out.1.lt g rfl).1
    have hol : o.length ≤ 2000 := by have := HI.out.2.2; omega
    have hrs : w.heap.size ≤ wr.heap.size := hbr.size
    have HIq : ∀ q, Hid (MInv (wr.drewN q) w.heap.size xs ys o i j g cap) := fun q => Lib.hid HI.out
    have HBq : ∀ q, Hid (Below w.heap.size w (wr.drewN q)) := fun q => Lib.hid (below_drewN hbr q)
    have HB := Lib.hid hbr
    by_cases hin : i < n
    · obtain ⟨b, off, rfl, hbl, hcA⟩ := HX.out i (by rw [Opt.intL_len, HN.out]; exact hin)
      rw [← hbr.cell (by exact hbl), Opt.intL_at] at hcA
      by_cases hjm : j < m
      · obtain ⟨b', off', rfl, hbl', hcB⟩ := HY.out j (by rw [Opt.intL_len, HM.out]; exact hjm)
        rw [← hbr.cell (by exact hbl'), Opt.intL_at] at hcB
        have HSl := Lib.hid (mstep_lt (xs := xs) (ys := ys) (i := i) (j := j) (by rw [HN.out]; exact hin) (by rw [HM.out]; exact hjm))
        have HSg := Lib.hid (mstep_gt (xs := xs) (ys := ys) (i := i) (j := j) (by rw [HN.out]; exact hin) (by rw [HM.out]; exact hjm))
        have HSe := Lib.hid (mstep_eq (xs := xs) (ys := ys) (i := i) (j := j) (by rw [HN.out]; exact hin) (by rw [HM.out]; exact hjm))
        generalize xs.getD i 0 = x at *
        generalize ys.getD j 0 = y at *
        have k0 : ((i : Int) == (n : Int)) = false := by simp; omega
        have k1 : ((j : Int) == (m : Int)) = false := by simp; omega
        rcases Nat.lt_trichotomy x y with hxy | hxy | hxy
        · have HS := Lib.hid (HSl.out hxy)
          clear HSl HSg HSe
          go_wp2
          go_quiet (fail)
          go_wp2_with (at_builtin; refine wpList_append_kept _ rfl (.tmp 52) (.tmp 57) 31 rfl w.heap.size 3 i0 _ 1 8 Try.underlying31 HI0.out HZ0.out HZ1.out HZ2.out rfl (by omega) (.slice (some ⟨g, 0, none⟩) o.length cap) o.length (ivs (Opt.intL o)) rfl ((HIq _).out.1.alloc _) ⟨wr.heap.size, 0, none⟩ 1 1 [.int .i64 (x : Int)] rfl rfl (World.news_of_block (cs := #[.int .i64 (x : Int)]) (t := 3) (fr := (0, 0)) (heap_alloc_new _ _)) (by simp [Value.oneCell']) (by omega) (by simp [maxLen]; omega) (by omega) (by simp; omega) _ rfl ?_)
          intro g' cap' w5 hown5 hgr5 hat5 hlt5 hkept5
          have HL5 := Lib.hid (((HBq _).out.alloc (by simp; omega) _).grown hgr5 (by simp; omega) (fun j hj => by simp [Value.ownBlock] at hj; omega))
          have HI5 := Lib.hid (HI.out.push hown5 HS.out (i' := i + 1) (j' := j) (by omega))
          have ho5 : (o ++ [x]).length = o.length + 1 := by simp
          clear hown5 hgr5 hat5 hlt5 hkept5 HI hbr HIq HBq k0 k1
          go_wp2
          go_roundw
          case rel => exact ⟨o ++ [x], i + 1, j, g', cap', by omega, by omega, by go_num, by go_num, by rw [ho5], HI5, HL5.out⟩
          case measure => simp [intOf]; omega
        · subst hxy
          have HS := Lib.hid (HSe.out rfl)
          clear HSl HSg HSe
          go_wp2
          go_quiet (fail)
          have HIr : Hid (MInv (wr.drewN nq) w.heap.size xs ys o i j g cap) := Lib.hid HI.out
          have hbq : Below w.heap.size w (wr.drewN nq) := below_drewN hbr _
          have hcAq : (wr.drewN nq).cell? ⟨b, off + i, none⟩ = some (.int .i64 (x : Int)) := hcA
          have hcBq : (wr.drewN nq).cell? ⟨b', off' + j, none⟩ = some (.int .i64 (x : Int)) := hcB
          have hrq : w.heap.size ≤ (wr.drewN nq).heap.size := hrs
          clear HI hbr hcA hcB hrs HIq HBq HB hbl hbl'
          generalize wr.drewN nq = wq at *
          clear wr
          rename World => wr
          have HI := HIr
          have hbr := hbq
          have HIq : ∀ q, Hid (MInv (wr.drewN q) w.heap.size xs ys o i j g cap) := fun q => Lib.hid HI.out
          have HBq : ∀ q, Hid (Below w.heap.size w (wr.drewN q)) := fun q => Lib.hid (below_drewN hbr q)
          go_wp2
          go_quiet (fail)
          go_wp2_with (at_builtin; refine wpList_append_kept _ rfl (.tmp 19) (.tmp 24) 31 rfl w.heap.size 3 i0 _ 1 8 Try.underlying31 HI0.out HZ0.out HZ1.out HZ2.out rfl (by omega) (.slice (some ⟨g, 0, none⟩) o.length cap) o.length (ivs (Opt.intL o)) rfl ((HIq _).out.1.alloc _) ⟨wr.heap.size, 0, none⟩ 1 1 [.int .i64 (x : Int)] rfl rfl (World.news_of_block (cs := #[.int .i64 (x : Int)]) (t := 3) (fr := (0, 0)) (heap_alloc_new _ _)) (by simp [Value.oneCell']) (by omega) (by simp [maxLen]; omega) (by omega) (by simp; omega) _ rfl ?_)
          intro g' cap' w5 hown5 hgr5 hat5 hlt5 hkept5
          have HL5 := Lib.hid (((HBq _).out.alloc (by simp; omega) _).grown hgr5 (by simp; omega) (fun j hj => by simp [Value.ownBlock] at hj; omega))
          have HI5 := Lib.hid (HI.out.push hown5 HS.out (i' := i + 1) (j' := j + 1) (by omega))
          have ho5 : (o ++ [x]).length = o.length + 1 := by simp
          clear hown5 hgr5 hat5 hlt5 hkept5 HI hbr HIq HBq k0 k1
          go_wp2
          go_roundw
          case rel => exact ⟨o ++ [x], i + 1, j + 1, g', cap', by omega, by omega, by go_num, by go_num, by rw [ho5], HI5, HL5.out⟩
          case measure => simp [intOf]; omega
        · have HS := Lib.hid (HSg.out hxy)
          clear HSl HSg HSe
          go_wp2
          go_quiet (fail)
          have HIr : Hid (MInv (wr.drewN nq) w.heap.size xs ys o i j g cap) := Lib.hid HI.out
          have hbq : Below w.heap.size w (wr.drewN nq) := below_drewN hbr _
          have hcAq : (wr.drewN nq).cell? ⟨b, off + i, none⟩ = some (.int .i64 (x : Int)) := hcA
          have hcBq : (wr.drewN nq).cell? ⟨b', off' + j, none⟩ = some (.int .i64 (y : Int)) := hcB
          have hrq : w.heap.size ≤ (wr.drewN nq).heap.size := hrs
          clear HI hbr hcA hcB hrs HIq HBq HB hbl hbl'
          generalize wr.drewN nq = wq at *
          clear wr
          rename World => wr
          have HI := HIr
          have hbr := hbq
          have HIq : ∀ q, Hid (MInv (wr.drewN q) w.heap.size xs ys o i j g cap) := fun q => Lib.hid HI.out
          have HBq : ∀ q, Hid (Below w.heap.size w (wr.drewN q)) := fun q => Lib.hid (below_drewN hbr q)
          go_wp2
          go_quiet (fail)
          go_wp2_with (at_builtin; refine wpList_append_kept _ rfl (.tmp 77) (.tmp 82) 31 rfl w.heap.size 3 i0 _ 1 8 Try.underlying31 HI0.out HZ0.out HZ1.out HZ2.out rfl (by omega) (.slice (some ⟨g, 0, none⟩) o.length cap) o.length (ivs (Opt.intL o)) rfl ((HIq _).out.1.alloc _) ⟨wr.heap.size, 0, none⟩ 1 1 [.int .i64 (y : Int)] rfl rfl (World.news_of_block (cs := #[.int .i64 (y : Int)]) (t := 3) (fr := (0, 0)) (heap_alloc_new _ _)) (by simp [Value.oneCell']) (by omega) (by simp [maxLen]; omega) (by omega) (by simp; omega) _ rfl ?_)
          intro g' cap' w5 hown5 hgr5 hat5 hlt5 hkept5
          have HL5 := Lib.hid (((HBq _).out.alloc (by simp; omega) _).grown hgr5 (by simp; omega) (fun j hj => by simp [Value.ownBlock] at hj; omega))
          have HI5 := Lib.hid (HI.out.push hown5 HS.out (i' := i) (j' := j + 1) (by omega))
          have ho5 : (o ++ [y]).length = o.length + 1 := by simp
          clear hown5 hgr5 hat5 hlt5 hkept5 HI hbr HIq HBq k0 k1
          go_wp2
          go_roundw
          case rel => exact ⟨o ++ [y], i, j + 1, g', cap', by omega, by omega, by go_num, by go_num, by rw [ho5], HI5, HL5.out⟩
          case measure => simp [intOf]; omega
      · obtain rfl : j = m := by omega
        have HS := Lib.hid (mstep_a (xs := xs) (ys := ys) (i := i) (j := j) (by rw [HN.out]; exact hin) (by rw [HM.out]; exact Nat.le_refl _))
        generalize xs.getD i 0 = x at *
        have k1 : ((j : Int) == (j : Int)) = true := by simp
        go_wp2
        go_quiet (fail)
        go_wp2_with (at_builtin; refine wpList_append_kept _ rfl (.tmp 52) (.tmp 57) 31 rfl w.heap.size 3 i0 _ 1 8 Try.underlying31 HI0.out HZ0.out HZ1.out HZ2.out rfl (by omega) (.slice (some ⟨g, 0, none⟩) o.length cap) o.length (ivs (Opt.intL o)) rfl ((HIq _).out.1.alloc _) ⟨wr.heap.size, 0, none⟩ 1 1 [.int .i64 (x : Int)] rfl rfl (World.news_of_block (cs := #[.int .i64 (x : Int)]) (t := 3) (fr := (0, 0)) (heap_alloc_new _ _)) (by simp [Value.oneCell']) (by omega) (by simp [maxLen]; omega) (by omega) (by simp; omega) _ rfl ?_)
        intro g' cap' w5 hown5 hgr5 hat5 hlt5 hkept5
        have HL5 := Lib.hid (((HBq _).out.alloc (by simp; omega) _).grown hgr5 (by simp; omega) (fun j hj => by simp [Value.ownBlock] at hj; omega))
        have HI5 := Lib.hid (HI.out.push hown5 HS.out (i' := i + 1) (j' := j) (by omega))
        have ho5 : (o ++ [x]).length = o.length + 1 := by simp
        clear hown5 hgr5 hat5 hlt5 hkept5 HI hbr HIq HBq k1
        go_wp2
        go_roundw
        case rel => exact ⟨o ++ [x], i + 1, j, g', cap', by omega, by omega, by go_num, by go_num, by rw [ho5], HI5, HL5.out⟩
        case measure => simp [intOf]; omega
    · obtain rfl : i = n := by omega
      have k0 : ((i : Int) == (i : Int)) = true := by simp
      by_cases hjm : j < m
      · obtain ⟨b', off', rfl, hbl', hcB⟩ := HY.out j (by rw [Opt.intL_len, HM.out]; exact hjm)
        rw [← hbr.cell (by exact hbl'), Opt.intL_at] at hcB
        have HS := Lib.hid (mstep_b (xs := xs) (ys := ys) (i := i) (j := j) (by rw [HN.out]; exact Nat.le_refl _) (by rw [HM.out]; exact hjm))
        generalize ys.getD j 0 = y at *
        have k1 : ((j : Int) == (m : Int)) = false := by simp; omega
        go_wp2
        go_quiet (fail)
        have HIr : Hid (MInv (wr.drewN nq) w.heap.size xs ys o i j g cap) := Lib.hid HI.out
        have hbq : Below w.heap.size w (wr.drewN nq) := below_drewN hbr _
        have hcBq : (wr.drewN nq).cell? ⟨b', off' + j, none⟩ = some (.int .i64 (y : Int)) := hcB
        have hrq : w.heap.size ≤ (wr.drewN nq).heap.size := hrs
        clear HI hbr hcB hrs HIq HBq HB hbl'
        generalize wr.drewN nq = wq at *
        clear wr
        rename World => wr
        have HI := HIr
        have hbr := hbq
        have HIq : ∀ q, Hid (MInv (wr.drewN q) w.heap.size xs ys o i j g cap) := fun q => Lib.hid HI.out
        have HBq : ∀ q, Hid (Below w.heap.size w (wr.drewN q)) := fun q => Lib.hid (below_drewN hbr q)
        go_wp2
        go_quiet (fail)
        go_wp2_with (at_builtin; refine wpList_append_kept _ rfl (.tmp 77) (.tmp 82) 31 rfl w.heap.size 3 i0 _ 1 8 Try.underlying31 HI0.out HZ0.out HZ1.out HZ2.out rfl (by omega) (.slice (some ⟨g, 0, none⟩) o.length cap) o.length (ivs (Opt.intL o)) rfl ((HIq _).out.1.alloc _) ⟨wr.heap.size, 0, none⟩ 1 1 [.int .i64 (y : Int)] rfl rfl (World.news_of_block (cs := #[.int .i64 (y : Int)]) (t := 3) (fr := (0, 0)) (heap_alloc_new _ _)) (by simp [Value.oneCell']) (by omega) (by simp [maxLen]; omega) (by omega) (by simp; omega) _ rfl ?_)
        intro g' cap' w5 hown5 hgr5 hat5 hlt5 hkept5
        have HL5 := Lib.hid (((HBq _).out.alloc (by simp; omega) _).grown hgr5 (by simp; omega) (fun j hj => by simp [Value.ownBlock] at hj; omega))
        have HI5 := Lib.hid (HI.out.push hown5 HS.out (i' := i) (j' := j + 1) (by omega))
        have ho5 : (o ++ [y]).length = o.length + 1 := by simp
        clear hown5 hgr5 hat5 hlt5 hkept5 HI hbr HIq HBq k0 k1
        go_wp2
        go_roundw
        case rel => exact ⟨o ++ [y], i, j + 1, g', cap', by omega, by omega, by go_num, by go_num, by rw [ho5], HI5, HL5.out⟩
        case measure => simp [intOf]; omega
      · obtain rfl : j = m := by omega
        have HE : Hid (o = merge xs ys) := Lib.hid (by have := HI.out.2.1; rw [merge_end (by rw [HN.out]; exact Nat.le_refl _) (by rw [HM.out]; exact Nat.le_refl _)] at this; simpa using this)
        rw [HE.out] at HI ⊢
        go_wp2
        go_ret
        exact ⟨g, cap, rfl, HI.out.1, hbr⟩
end Go.Proofs.Ytkkkkalgfmddbaa
/- The contract of the model's search among cuts. -/
namespace Go.Proofs.Ytkkkkalgfmddbaa
open Go.RowKit Go.Deep Cut

theorem eq_of_getD {a b : List Nat} (hl : a.length = b.length) (h : ∀ t, t < b.length → a.getD t 0 = b.getD t 0) : a = b := by
  apply List.ext_getElem hl
  intro t h1 h2
  have := h t h2
  simpa [List.getD_eq_getElem?_getD, h1, h2] using this
def SameUp (s : Bool) (xi x : List Nat) (k : Nat) : Prop := (s = true → xi.length = x.length ∧ ∀ t, t < k → xi.getD t 0 = x.getD t 0) ∧ (s = false → xi ≠ x)
theorem SameUp.start (xi x : List Nat) : SameUp (decide (xi.length = x.length)) xi x 0 := by
  refine ⟨fun h => ⟨by simpa using h, fun t ht => absurd ht (by omega)⟩, fun h e => ?_⟩
  subst e
  simp at h
theorem SameUp.step {xi x : List Nat} {k : Nat} (h : SameUp true xi x k) (_hk : k < x.length) : SameUp (decide (xi.getD k 0 = x.getD k 0)) xi x (k + 1) := by
  refine ⟨fun e => ⟨(h.1 rfl).1, fun t ht => ?_⟩, fun e h2 => ?_⟩
  · by_cases e2 : t < k
    · exact (h.1 rfl).2 t e2
    · obtain rfl : t = k := by omega
      simpa using e
  · subst h2
    simp at e
theorem mem_take_step {xs : Cs} {x : List Nat} {k : Nat} (h : x ∉ xs.take k) (hk : k < xs.length) (hne : xs.getD k [] ≠ x) : x ∉ xs.take (k + 1) := by
  rw [take_succ_getD xs k [] hk]
  intro hm
  rcases List.mem_append.1 hm with h1 | h1
  · exact h h1
  · simp at h1
    exact hne (by simpa [List.getD_eq_getElem?_getD] using h1.symm)
theorem getD_mem' {xs : Cs} {k : Nat} (hk : k < xs.length) : xs.getD k [] ∈ xs := by
  rw [List.getD_eq_getElem?_getD, List.getElem?_eq_getElem hk]
  exact List.getElem_mem hk

set_option maxRecDepth 4000 in
set_option maxHeartbeats 1000000 in
theorem l5Has_any (A A' : Option Addr) (n m cap cap' : Nat) (xs : Cs) (x : List Nat) (w : World) (hx : ListAt w w.heap.size A xs) (hy : IntsAt w w.heap.size A' (Opt.intL x)) (hn : xs.length = n) (hm : x.length = m) (hnb : n ≤ 1000) (hmb : m ≤ 1000) (hlb : ∀ k, k < n → (xs.getD k []).length ≤ 1000) :
    Calls Try.prog 175 #[.slice A n cap, .slice A' m cap'] w fun e w' => e = .returned (.bool (decide (x ∈ xs))) ∧ Below w.heap.size w w' := by
  have HX := Lib.hid hx
  have HY := Lib.hid hy
  have HN := Lib.hid hn
  have HM := Lib.hid hm
  have HLB := Lib.hid hlb
  clear hx hy hn hm hlb
  go_enter Try.func175, Try.ntmps175
  go_wp2
  go_loopw [5] (fun iv wr => ∃ i : Nat, i ≤ n ∧ iv = .int .i64 i ∧ Hid (x ∉ xs.take i) ∧ Below w.heap.size w wr) (fun iv _ => n - (intOf iv).toNat)
  case atStart => exact ⟨0, Nat.zero_le _, rfl, Lib.hid (by simp), Below.refl _ _⟩
  case round =>
    obtain ⟨i, hi, rfl, HNM, hbr⟩ := hrel
    by_cases hlt : i < n
    · obtain ⟨b, off, rfl, hbl, B1, c1, hcell, hbx⟩ := HX.out i (by rw [HN.out]; exact hlt)
      have HCELL := Lib.hid hcell
      rw [← hbr.cell (by exact hbl)] at hcell
      have HBX := Lib.hid hbx
      have hlb := HLB.out i hlt
      have HST := Lib.hid (SameUp.start (xs.getD i []) x)
      have HNX := Lib.hid (fun hne => mem_take_step HNM.out (by rw [HN.out]; exact hlt) hne)
      have HIN : Hid (xs.getD i [] ∈ xs) := Lib.hid (getD_mem' (by rw [HN.out]; exact hlt))
      clear hbx
      generalize xs.getD i [] = xi at *
      have hd : (((xi.length : Int) == (m : Int))) = decide (xi.length = m) := by rw [Bool.eq_iff_iff]; simp; omega
      rw [HM.out] at HST
      generalize hs0 : decide (xi.length = m) = s0 at *
      go_wp2
      clear hd
      go_loopw [6, 7] (fun sv kv wk => ∃ (k : Nat) (s : Bool), k ≤ m ∧ kv = .int .i64 k ∧ sv = .bool s ∧ Hid (SameUp s xi x k) ∧ Below w.heap.size w wk) (fun _ kv _ => m - (intOf kv).toNat)
      case atStart => exact ⟨0, s0, Nat.zero_le _, rfl, rfl, HST, hbr⟩
      case round =>
        clear hbr hcell
        obtain ⟨k, s, hk, rfl, rfl, HS, hbk⟩ := hrel
        cases s
        · have HNX2 := Lib.hid (HNX.out (HS.out.2 rfl))
          go_wp2
          go_roundw
          case rel => exact ⟨i + 1, by omega, by go_num, HNX2, hbk⟩
          case measure => simp [intOf]; omega
        · by_cases hkm : k < m
          · have hxl : xi.length = m := by rw [← HM.out]; exact (HS.out.1 rfl).1
            obtain ⟨bx, ox, rfl, hbxl, hcx⟩ := HBX.out k (by rw [Opt.intL_len, hxl]; exact hkm)
            obtain ⟨by', oy, rfl, hbyl, hcy⟩ := HY.out k (by rw [Opt.intL_len, HM.out]; exact hkm)
            have hcell2 : wr.cell? ⟨b, off + i, none⟩ = some (.slice (some ⟨bx, ox, none⟩) m c1) := by rw [hbk.cell (by exact hbl), HCELL.out, hxl]
            rw [← hbk.cell (by exact hbyl), Opt.intL_at] at hcy
            have hcx2 : wr.cell? ⟨bx, ox + k, none⟩ = some (.int .i64 (xi.getD k 0 : Int)) := by rw [hbk.cell (by exact hbxl), hcx, Opt.intL_at]
            have HS2 := Lib.hid (HS.out.step (by rw [HM.out]; exact hkm))
            clear hcx
            generalize xi.getD k 0 = vx at *
            generalize x.getD k 0 = vy at *
            have hd : ((vx : Int) == (vy : Int)) = decide (vx = vy) := by rw [Bool.eq_iff_iff]; simp; omega
            generalize hs1 : decide (vx = vy) = s1 at *
            go_wp2
            go_quiet (fail)
            go_wp2
            clear hd
            go_roundw
            case rel => exact ⟨k + 1, s1, by omega, by go_num, rfl, HS2, below_drewN hbk _⟩
            case measure => simp [intOf]; omega
          · obtain rfl : k = m := by omega
            have HE : Hid (decide (x ∈ xs) = true) := Lib.hid (by
              have h := HS.out.1 rfl
              have e := eq_of_getD h.1 (by rw [HM.out]; exact h.2)
              rw [← e]
              simpa using HIN.out)
            go_wp2
            go_ret
            exact ⟨ret_bool HE.out.symm, hbk⟩
    · obtain rfl : i = n := by omega
      have HE : Hid (decide (x ∈ xs) = false) := Lib.hid (by have := HNM.out; rw [List.take_of_length_le (by rw [HN.out]; exact Nat.le_refl _)] at this; simp [this])
      go_wp2
      go_ret
      exact ⟨ret_bool HE.out.symm, hbr⟩
end Go.Proofs.Ytkkkkalgfmddbaa
/- The contract of the model's cuts. -/
namespace Go.Proofs.Ytkkkkalgfmddbaa
open Go.RowKit Go.Deep Cut

theorem ListIn.at {w : World} {S : Nat → Prop} {A : Option Addr} {xs : Cs} {B : Nat} (h : ListIn w S A xs) (hS : ∀ b, S b → b < B) : ListAt w B A xs := h.kept (fun _ _ => rfl) hS
theorem IntsIn.at {w : World} {S : Nat → Prop} {A : Option Addr} {xs : List Int} {B : Nat} (h : IntsIn w S A xs) (hS : ∀ b, S b → b < B) : IntsAt w B A xs := h.kept (fun _ _ => rfl) hS
/-- What is known of the list of variable v while all are built. -/
theorem AllAt.at {w : World} {B g cap : Nat} {cs : List Cs} {HH : List (List Value)} (h : AllAt w B cs HH g cap) (v : Nat) (hv : v < cs.length) :
    ∃ (A' : Option Addr) (cap' : Nat), w.cell? ⟨g, v, none⟩ = some (.slice A' (cs.getD v []).length cap') ∧ ListAt w w.heap.size A' (cs.getD v []) := by
  obtain ⟨hs, h1, h2⟩ := h
  obtain ⟨A', cap', e, hx⟩ := h2.2.2 v hv
  exact ⟨A', cap', by rw [h1.cellAt v (by have := h1.1; have := h2.1; omega)]; exact e.1, hx.lists.at (fun b hb => hb.2.1)⟩
theorem base_step {f k : Nat} (_ : k < f) : ((List.range (k + 1)).map fun v => [own v]) = ((List.range k).map fun v => [own v]) ++ [[own k]] := by
  rw [List.range_succ, List.map_append]; rfl
theorem base_len (k : Nat) : ((List.range k).map fun v => [own v]).length = k := by simp
theorem own_pos {v : Nat} (h : 0 < v) : own v = [v] := by unfold Cut.own; rw [if_neg (by omega)]
def CutsOut (w : World) (f : Nat) (gs : List Opt.G) (e : Ending) (w' : World) : Prop := ∃ g cap HH, e = .returned (.slice (some ⟨g, 0, none⟩) (f + gs.length) cap) ∧ AllAt w' w.heap.size (cuts f gs) HH g cap ∧ Below w.heap.size w w'
/-- A list of one list of one number, in two new blocks. -/
theorem one_row {w : World} {B g v : Nat} (hB : B ≤ w.heap.size) (hg : g < w.heap.size) : RowIn ((w.alloc (.cells #[.int .i64 (v : Int)] 3)).alloc (.cells #[.slice (some ⟨w.heap.size, 0, none⟩) 1 1] 31)) (Off ((w.alloc (.cells #[.int .i64 (v : Int)] 3)).alloc (.cells #[.slice (some ⟨w.heap.size, 0, none⟩) 1 1] 31)) B g) (some ⟨w.heap.size + 1, 0, none⟩) [.slice (some ⟨w.heap.size, 0, none⟩) 1 1] [[v]] := by
  have r1 : Row ((w.alloc (.cells #[.int .i64 (v : Int)] 3)).alloc (.cells #[.slice (some ⟨w.heap.size, 0, none⟩) 1 1] 31)) w.heap.size 3 #[.int .i64 (v : Int)] := (Below.heap_alloc _ _ _ (by simp)).trans (heap_alloc_new w _)
  have r2 : Row ((w.alloc (.cells #[.int .i64 (v : Int)] 3)).alloc (.cells #[.slice (some ⟨w.heap.size, 0, none⟩) 1 1] 31)) (w.heap.size + 1) 31 #[.slice (some ⟨w.heap.size, 0, none⟩) 1 1] := by
    have h := heap_alloc_new (w.alloc (.cells #[.int .i64 (v : Int)] 3)) (.cells #[.slice (some ⟨w.heap.size, 0, none⟩) 1 1] 31)
    rwa [show (w.alloc (.cells #[.int .i64 (v : Int)] 3)).heap.size = w.heap.size + 1 by simp] at h
  refine ⟨⟨_, _, rfl, ⟨by omega, by simp, by omega⟩, r2, fun j hj => ?_⟩, rfl, fun k hk => ?_⟩
  · simp at hj; subst hj; rfl
  · simp at hk; subst hk
    refine ⟨_, _, rfl, .inr ⟨_, _, rfl, ⟨hB, by simp; omega, by omega⟩, r1, fun j hj => ?_⟩⟩
    simp at hj; subst hj; rfl

theorem all_init (w : World) (z : Nat) (hz : w.heap.size = z) : AllAt (((w.alloc (.cells #[] 3)).alloc (.cells #[.slice (some ⟨z, 0, none⟩) 0 0] 31)).alloc (.cells #[.slice (some ⟨z + 1, 0, none⟩) 1 1] 151)) z ((List.range 1).map fun v => [own v]) [[.slice (some ⟨z, 0, none⟩) 0 0]] (z + 1 + 1) 1 := by
  subst hz
  have hs1 : (w.alloc (.cells #[] 3)).heap.size = w.heap.size + 1 := by simp
  have hs2 : ((w.alloc (.cells #[] 3)).alloc (.cells #[.slice (some ⟨w.heap.size, 0, none⟩) 0 0] 31)).heap.size = w.heap.size + 1 + 1 := by simp
  have h := World.ownsRow_lit (base := w.heap.size) (e := 151) (size := 1) ((w.alloc (.cells #[] 3)).alloc (.cells #[.slice (some ⟨w.heap.size, 0, none⟩) 0 0] 31)) #[.slice (some ⟨w.heap.size + 1, 0, none⟩) 1 1] 1 (by omega) (by simp [maxLen]) (by simp)
  rw [hs2] at h
  have r2 := heap_alloc_new (w.alloc (.cells #[] 3)) (.cells #[.slice (some ⟨w.heap.size, 0, none⟩) 0 0] 31)
  rw [hs1] at r2
  refine ⟨_, h, rfl, rfl, fun k hk => ?_⟩
  simp at hk
  subst hk
  refine ⟨_, _, ⟨rfl, by simp⟩, ⟨_, _, rfl, ⟨by omega, by simp, by omega⟩, (Below.heap_alloc _ _ _ (by simp)).trans r2, fun j hj => ?_⟩, rfl, fun k hk => ?_⟩
  · simp at hj; subst hj; rfl
  · simp at hk; subst hk; exact ⟨_, _, rfl, .inl rfl⟩
theorem AllAt.mono {w : World} {B B' g cap : Nat} {cs : List Cs} {HH : List (List Value)} (h : AllAt w B cs HH g cap) (hb : B' ≤ B) : AllAt w B' cs HH g cap := by
  obtain ⟨hs, h1, h2⟩ := h
  refine ⟨hs, ⟨h1.1, ?_⟩, h2.kept (fun _ _ => rfl) (fun b hb' => ⟨by have := hb'.1; omega, hb'.2⟩)⟩
  rcases h1.2 with h | ⟨g', cap', cur, hv, h3, h4⟩
  · exact .inl h
  · exact .inr ⟨g', cap', cur, hv, by omega, h4⟩
theorem lst_init (w : World) : LstAt (w.alloc (.cells #[] 31)) w.heap.size [] [] w.heap.size 0 :=
  ⟨World.ownsRow_lit (base := w.heap.size) (e := 31) (size := 1) w #[] 0 (by omega) (by simp [maxLen]) (by simp), Hdrs.nil _ _⟩

set_option maxRecDepth 10000 in
set_option maxHeartbeats 1000000 in
theorem l5Cuts_any (i : Int) (nA gA oA : Option Addr) (nc gc oc nl gl ol f : Nat) (c : Opt.C) (w : World) (hc : CircAt w w.heap.size nA gA oA (Opt.intL c.ns) (Opt.intG c.gs) (Opt.intL c.os)) (hF : Fits i f nl gl ol c) :
    Calls Try.prog 167 #[.agg #[.int .i64 i, .slice nA nl nc, .slice gA gl gc, .slice oA ol oc]] w (CutsOut w f c.gs) := by
  have h0 := hF.i0
  have h1 := hF.i4
  have h2 := hF.n3
  have h3 := hF.g14
  have hf1 : 1 ≤ f := by have := hF.hf; omega
  have hf8 : f ≤ 8 := by have := hF.hf; omega
  have HF := Lib.hid hF
  have HC := Lib.hid hc
  clear hc hF
  have HB0 := Lib.hid (Boxed.new w i nA gA oA nl nc gl gc ol oc 108)
  have HW0 : Hid (Below w.heap.size w (w.alloc (.cells #[.int .i64 i, .slice nA nl nc, .slice gA gl gc, .slice oA ol oc] 108))) := Lib.hid ((Below.refl _ _).alloc (Nat.le_refl _) _)
  have hsz0 : (w.alloc (.cells #[.int .i64 i, .slice nA nl nc, .slice gA gl gc, .slice oA ol oc] 108)).heap.size = w.heap.size + 1 := by simp
  have HA0 := Lib.hid (all_init (w.alloc (.cells #[.int .i64 i, .slice nA nl nc, .slice gA gl gc, .slice oA ol oc] 108)) _ hsz0)
  have HZ0 := Lib.hid hsz0
  clear hsz0
  go_enter Try.func167, Try.ntmps167
  go_wp2
  generalize w.alloc (.cells #[.int .i64 i, .slice nA nl nc, .slice gA gl gc, .slice oA ol oc] 108) = w0 at *
  have HL0 : Hid (Below (w.heap.size + 1) w0 (((w0.alloc (.cells #[] 3)).alloc (.cells #[.slice (some ⟨w.heap.size + 1, 0, none⟩) 0 0] 31)).alloc (.cells #[.slice (some ⟨w.heap.size + 1 + 1, 0, none⟩) 1 1] 151))) := Lib.hid ((((Below.refl _ _).alloc (by have := HZ0.out; omega) _).alloc (by have := HZ0.out; simp; omega) _).alloc (by have := HZ0.out; simp; omega) _)
  generalize ((w0.alloc (.cells #[] 3)).alloc (.cells #[.slice (some ⟨w.heap.size + 1, 0, none⟩) 0 0] 31)).alloc (.cells #[.slice (some ⟨w.heap.size + 1 + 1, 0, none⟩) 1 1] 151) = w1 at *
  go_loopw [3, 4] (fun av vv wr => ∃ (k g cap : Nat) (HH : List (List Value)), 1 ≤ k ∧ k ≤ f ∧ vv = .int .i64 k ∧ av = .slice (some ⟨g, 0, none⟩) k cap ∧ Hid (AllAt wr (w.heap.size + 1) ((List.range k).map fun v => [own v]) HH g cap) ∧ Hid (Below (w.heap.size + 1) w0 wr)) (fun _ vv _ => f - (intOf vv).toNat)
  case atStart => exact ⟨1, _, _, _, by omega, hf1, rfl, rfl, HA0, HL0⟩
  case round =>
    clear HA0 HL0 w1
    obtain ⟨k, g, cap, HH, hk1, hkf, rfl, rfl, HA, HL⟩ := hrel
    have hB := HB0.out.below HL.out (by omega)
    have q0 := hB.c0
    have q1 := hB.c1
    have q2 := hB.c2
    have q3 := hB.c3
    clear hB
    go_wp2_with fail
    refine (l1First_any _ _ _ _ _ _ _ _ _ _ _ (by omega) (by omega) (by omega)).mono ?_
    rintro e w2 ⟨rfl, hb2⟩
    rw [HF.out.hf]
    have hsz : w.heap.size + 1 ≤ wr.heap.size := by have := HA.out.gb; omega
    have HA2 := Lib.hid (HA.out.on hb2)
    have HL2 := Lib.hid (HL.out.trans (hb2.mono hsz))
    have hsz2 : w.heap.size + 1 ≤ w2.heap.size := by have := HA2.out.gb; omega
    have hg2 := HA2.out.gb.2
    clear hb2 HA HL q0 q1 q2 q3 hsz
    by_cases hlt : k < f
    · have HS := Lib.hid (base_step hlt)
      have HR := Lib.hid (one_row (w := w2) (B := w.heap.size + 1) (g := g) (v := k) hsz2 hg2)
      go_wp2_with (at_builtin; refine wpList_push3 rfl (.tmp 22) (.tmp 26) rfl _ (w.heap.size + 1) g cap k _ HH rfl (base_len k) ((HA2.out.on ((Below.refl _ _).alloc (Nat.le_refl _) _)).on ((Below.refl _ _).alloc (Nat.le_refl _) _)) (by omega) (some ⟨w2.heap.size + 1, 0, none⟩) 1 1 _ [[k]] ?_ rfl (Nat.le_refl _) HR.out ?_; (simp; rfl))
      intro g' cap' w5 h5 hb5
      have HA5 : Hid (AllAt w5 (w.heap.size + 1) ((List.range (k + 1)).map fun v => [own v]) (HH ++ [[.slice (some ⟨w2.heap.size, 0, none⟩) 1 1]]) g' cap') := Lib.hid (by rw [HS.out, own_pos (by omega)]; exact h5)
      have HL5 := Lib.hid (HL2.out.trans ((((Below.refl (w.heap.size + 1) w2).alloc hsz2 _).alloc (by simp; omega) _).trans hb5))
      clear h5 hb5 HA2 HL2 HR HS hsz2 hg2
      go_wp2
      go_roundw
      case rel => exact ⟨k + 1, g', cap', _, by omega, by omega, by go_num, rfl, HA5, HL5⟩
      case measure => simp [intOf]; omega
    · obtain rfl : k = f := by omega
      clear hsz2 hg2
      have HA3 : Hid (AllAt w2 (w.heap.size + 1) (cutsTo k c.gs 0) HH g cap) := Lib.hid HA2.out
      clear HA2
      go_wp2
      go_loopw [3, 5] (fun av iv wr => ∃ (j g cap : Nat) (HH : List (List Value)), j ≤ gl ∧ iv = .int .i64 j ∧ av = .slice (some ⟨g, 0, none⟩) (k + j) cap ∧ Hid (AllAt wr (w.heap.size + 1) (cutsTo k c.gs j) HH g cap) ∧ Hid (Below (w.heap.size + 1) w0 wr)) (fun _ iv _ => gl - (intOf iv).toNat)
      case atStart => exact ⟨0, g, cap, HH, Nat.zero_le _, rfl, rfl, HA3, HL2⟩
      case round =>
        clear HA3 HL2
        obtain ⟨j, g, cap, HH, hj, rfl, rfl, HA, HL⟩ := hrel
        have hB := HB0.out.below HL.out (by omega)
        have q0 := hB.c0
        have q1 := hB.c1
        have q2 := hB.c2
        have q3 := hB.c3
        have HBX := Lib.hid hB
        clear hB
        by_cases hlt : j < gl
        · have hjl : j < c.gs.length := by rw [HF.out.lg]; exact hlt
          have hC : CircAt wr w.heap.size nA gA oA (Opt.intL c.ns) (Opt.intG c.gs) (Opt.intL c.os) := (HC.out.below HW0.out).below (HL.out.mono (by omega))
          obtain ⟨b, off, rfl, hbl, hcA, hcB⟩ := hC.gates j (by rw [Opt.intG_len]; exact hjl)
          rw [Opt.intG_at] at hcA hcB
          obtain ⟨oA, oB⟩ := HF.out.ok.ord j hjl
          have hsz : w.heap.size + 1 ≤ wr.heap.size := by have := HA.out.gb; omega
          have HCL : Hid ((cutsTo k c.gs j).length = k + j) := Lib.hid (cutsTo_len _ _ _)
          have HSTEP : Hid (cutsTo k c.gs (j + 1) = cutsTo k c.gs j ++ [uni ((cutsTo k c.gs j).getD ((Opt.at_ c.gs j).1 / 2) []) ((cutsTo k c.gs j).getD ((Opt.at_ c.gs j).2 / 2) []) ++ [[k + j]]]) := Lib.hid rfl
          obtain ⟨Ap, cp, hp1, hp2⟩ := HA.out.at ((Opt.at_ c.gs j).1 / 2) (by rw [cutsTo_len]; exact oA)
          obtain ⟨Aq, cq, hq1, hq2⟩ := HA.out.at ((Opt.at_ c.gs j).2 / 2) (by rw [cutsTo_len]; exact oB)
          have HGp := Lib.hid (cutsTo_gd (f := k) (by omega) HF.out.ok.ord j (by omega) _ oA)
          have HGq := Lib.hid (cutsTo_gd (f := k) (by omega) HF.out.ok.ord j (by omega) _ oB)
          have u1 : ((((Opt.at_ c.gs j).1 : Nat) : Int)).tdiv 2 = (((Opt.at_ c.gs j).1 / 2 : Nat) : Int) := by rw [Int.tdiv_eq_ediv_of_nonneg (by omega)]; omega
          have u2 : ((((Opt.at_ c.gs j).2 : Nat) : Int)).tdiv 2 = (((Opt.at_ c.gs j).2 / 2 : Nat) : Int) := by rw [Int.tdiv_eq_ediv_of_nonneg (by omega)]; omega
          clear hC hjl
          generalize hP : (cutsTo k c.gs j).getD ((Opt.at_ c.gs j).1 / 2) [] = P at *
          generalize hQ : (cutsTo k c.gs j).getD ((Opt.at_ c.gs j).2 / 2) [] = Qs at *
          clear hP hQ
          generalize (Opt.at_ c.gs j).1 = va at *
          generalize (Opt.at_ c.gs j).2 = vb at *
          generalize va / 2 = qa at *
          generalize vb / 2 = qb at *
          have HP2 := Lib.hid hp2
          have HQ2 := Lib.hid hq2
          have hpl := HGp.out.len
          have hql := HGq.out.len
          clear hp2 hq2
          go_wp2_with fail
          refine (l1First_any _ _ _ _ _ _ _ _ _ _ _ (by omega) (by omega) (by omega)).mono ?_
          rintro e w3 ⟨rfl, hb3⟩
          rw [HF.out.hf]
          have HA3 := Lib.hid (HA.out.on hb3)
          have HL3 := Lib.hid (HL.out.trans (hb3.mono hsz))
          have hB3 := HB0.out.below HL3.out (by omega)
          have r2 := hB3.c2
          have hgA := HA.out.gb
          have hz3 := hb3.size
          have hcA3 := (hb3.cell (p := ⟨b, off + j * 2, none⟩) (by show b < _; omega)).trans hcA
          have hcB3 := (hb3.cell (p := ⟨b, off + j * 2 + 1, none⟩) (by show b < _; omega)).trans hcB
          have hp3 := (hb3.cell (p := ⟨g, qa, none⟩) hgA.2).trans hp1
          have hq3 := (hb3.cell (p := ⟨g, qb, none⟩) hgA.2).trans hq1
          have HP3 := Lib.hid (HP2.out.on hb3)
          have HQ3 := Lib.hid (HQ2.out.on hb3)
          have hg3 : g < w3.heap.size := by omega
          have hb3' : b < w3.heap.size := by omega
          have hw3 : w.heap.size < w3.heap.size := by omega
          have HI3 := Lib.hid (lst_init w3)
          have HJ3 : Hid (Below w3.heap.size w3 (w3.alloc (.cells #[] 31))) := Lib.hid ((Below.refl _ _).alloc (Nat.le_refl _) _)
          have s1 : IntKind.i64.wrap ((k : Int) + (j : Int)) = (k : Int) + (j : Int) := IntWalk.i64_in _ (by omega)
          have t1 : IntKind.i64.wrap (qa : Int) = (qa : Int) := IntWalk.i64_in _ (by omega)
          have t2 : IntKind.i64.wrap (qb : Int) = (qb : Int) := IntWalk.i64_in _ (by omega)
          have t3 : (qa : Int) < (k : Int) + (j : Int) := by omega
          have t4 : (qb : Int) < (k : Int) + (j : Int) := by omega
          clear hb3 hcA hcB hp1 hq1 HP2 HQ2 HA HL q0 q1 q2 q3 hB3 HBX hgA hz3
          go_wp2
          clear s1 t1 t2 t3 t4 u1 u2 hcA3 hcB3 hp3 hq3 r2
          go_loopw [7, 10] (fun lv av wr => ∃ (a gm cl : Nat) (hs : List Value), a ≤ P.length ∧ av = .int .i64 a ∧ lv = .slice (some ⟨gm, 0, none⟩) (uniA [] (P.take a) Qs).length cl ∧ Hid (LstAt wr w3.heap.size (uniA [] (P.take a) Qs) hs gm cl) ∧ Hid (Below w3.heap.size w3 wr)) (fun _ av _ => P.length - (intOf av).toNat)
          case atStart => exact ⟨0, _, _, [], Nat.zero_le _, rfl, rfl, HI3, HJ3⟩
          case round =>
            clear HI3 HJ3
            obtain ⟨a, gm, cl, hs, ha, rfl, rfl, HM, HB⟩ := hrel
            by_cases hap : a < P.length
            · obtain ⟨bp, op, rfl, hbp, Ax, cx, hcx, hx⟩ := HP3.out a hap
              have HX3 : Hid (IntsAt w3 w3.heap.size Ax (Opt.intL (P.getD a []))) := Lib.hid (hx.at (fun _ h => h))
              have HCX := Lib.hid hcx
              have hxl := HGp.out.fit _ (getD_mem' hap)
              have HSA := Lib.hid (uniA_step [] P Qs a hap)
              have HU0 : Hid ((uniA [] (P.take a) Qs).length ≤ 8) := Lib.hid (uniA_le (by simp))
              have HU3 : Hid (∀ z, z ∈ uniA [] (P.take a) Qs → z.length ≤ 3) := Lib.hid (uniA_all (P := fun z => z.length ≤ 3) (fun z hz => absurd hz (by simp)) (fun _ _ _ _ h => h))
              clear hx hcx
              generalize P.getD a [] = x at *
              generalize uniA [] (P.take a) Qs = U0 at *
              have HM0 : Hid (LstAt wr w3.heap.size (uni1 U0 x (Qs.take 0)) hs gm cl) := HM
              clear HM
              go_wp2
              go_loopw [7, 11] (fun lv dv wr => ∃ (d gm cl : Nat) (hs : List Value), d ≤ Qs.length ∧ dv = .int .i64 d ∧ lv = .slice (some ⟨gm, 0, none⟩) (uni1 U0 x (Qs.take d)).length cl ∧ Hid (LstAt wr w3.heap.size (uni1 U0 x (Qs.take d)) hs gm cl) ∧ Hid (Below w3.heap.size w3 wr)) (fun _ dv _ => Qs.length - (intOf dv).toNat)
              case atStart => exact ⟨0, gm, cl, hs, Nat.zero_le _, rfl, rfl, HM0, HB⟩
              case round =>
                clear HM0 HB
                obtain ⟨d, gm, cl, hs, hd, rfl, rfl, HM, HB⟩ := hrel
                by_cases hdq : d < Qs.length
                · obtain ⟨bq, oq, rfl, hbq, Ay, cy, hcy, hy⟩ := HQ3.out d hdq
                  have hyl := HGq.out.fit _ (getD_mem' hdq)
                  have HSU := Lib.hid (uni1_step U0 x Qs d hdq)
                  have hU1 : (uni1 U0 x (Qs.take d)).length ≤ 8 := uni1_le HU0.out
                  have HUF := Lib.hid (fun t (ht : t < (uni1 U0 x (Qs.take d)).length) => uni1_all (P := fun z => z.length ≤ 3) HU3.out (fun _ _ h => h) _ (getD_mem' ht))
                  have hy' : IntsAt w3 w3.heap.size Ay (Opt.intL (Qs.getD d [])) := hy.at (fun _ h => h)
                  have HXr := Lib.hid ((HX3.out.below HB.out).mono HB.out.size)
                  have HYr := Lib.hid ((hy'.below HB.out).mono HB.out.size)
                  have hcx : wr.cell? ⟨bp, op + a, none⟩ = some (.slice Ax x.length cx) := (HB.out.cell (p := ⟨bp, op + a, none⟩) hbp).trans HCX.out
                  have hcyr := (HB.out.cell (p := ⟨bq, oq + d, none⟩) hbq).trans hcy
                  have hbs := HB.out.size
                  clear hy hy' hcy
                  generalize Qs.getD d [] = y at *
                  generalize uni1 U0 x (Qs.take d) = U at *
                  have i1 : (0 : Int) ≤ (a : Int) := Int.natCast_nonneg _
                  have i2 : (a : Int) < (P.length : Int) := by omega
                  have i3 : (0 : Int) ≤ (d : Int) := Int.natCast_nonneg _
                  have i4 : (d : Int) < (Qs.length : Int) := by omega
                  go_wp2
                  go_region_held3 (fun w' => w'.cell? ⟨bp, op + a, none⟩ = some (.slice Ax x.length cx) ∧ w'.cell? ⟨bq, oq + d, none⟩ = some (.slice Ay y.length cy))
                    (first | exact hS5 | go_keep)
                    (first | (go_at_call 174; refine (l5Merge_any Ax Ay x.length y.length cx cy x y _ ?_ ?_ rfl rfl ?_ ?_).mono ?_; (exact HXr.out); (exact HYr.out); (omega); (omega); rintro e w5 ⟨gz, cz, rfl, hown5, hb5⟩; have HO5 := Lib.hid hown5; have HB5 := Lib.hid hb5; have hS5 := And.intro ((hb5.cell (p := ⟨bp, op + a, none⟩) (by show bp < wr.heap.size; omega)).trans hcx) ((hb5.cell (p := ⟨bq, oq + d, none⟩) (by show bq < wr.heap.size; omega)).trans hcyr); clear hown5 hb5))
                  have hbw : Below wr.heap.size wr w5 := (Below.refl wr.heap.size wr).drew.trans HB5.out
                  have HM5 := Lib.hid (HM.out.on hbw)
                  have HJ5 := Lib.hid (HB.out.trans (hbw.mono hbs))
                  have hzg : wr.heap.size ≤ gz ∧ gz < w5.heap.size := HO5.out.lt gz rfl
                  have hgm := HM.out.gb
                  have hml : (merge x y).length ≤ 1000 := by have := merge_len x y; omega
                  have HL5 : Hid (LeafIn w5 (Off w5 w3.heap.size gm) (some ⟨gz, 0, none⟩) (merge x y)) := Lib.hid (own_leaf HO5.out ⟨by omega, hzg.2, by omega⟩)
                  have HIM : Hid (IntsAt w5 w5.heap.size (some ⟨gz, 0, none⟩) (Opt.intL (merge x y))) := Lib.hid (HL5.out.ints.at (fun b hb => hb.2.1))
                  have HLU : Hid (ListAt w5 w5.heap.size (some ⟨gm, 0, none⟩) U) := Lib.hid ((own_row (T := fun b => b < w5.heap.size) HM5.out.1 HM5.out.2 (fun b hb => hb.2.1) HM5.out.gb.2).lists.at (fun _ h => h))
                  have hz5 : w3.heap.size ≤ w5.heap.size := by omega
                  clear hS5 HO5 HB5 hcx hcyr hbw HM HB HXr HYr hbs i1 i2 i3 i4
                  have HPUT : Hid (put U (merge x y) = if (merge x y).length ≤ 3 ∧ U.length < 8 ∧ merge x y ∉ U then U ++ [merge x y] else U) := Lib.hid rfl
                  generalize merge x y = mg at *
                  by_cases hl3 : mg.length ≤ 3
                  · by_cases hu8 : U.length < 8
                    · cases hmem : decide (mg ∈ U) with
                      | true =>
                        have HME := Lib.hid hmem
                        have HPE : Hid (uni1 U0 x (Qs.take (d + 1)) = U) := Lib.hid (by rw [HSU.out, HPUT.out, if_neg (by simp at hmem; simp [hmem])])
                        clear hmem
                        go_wp2_with (go_at_call 175; refine (l5Has_any (some ⟨gm, 0, none⟩) (some ⟨gz, 0, none⟩) U.length mg.length cl cz U mg _ HLU.out HIM.out rfl rfl ?_ ?_ ?_).mono ?_; (omega); (omega); (intro t ht; have := HUF.out t ht; omega); rintro e w6 ⟨rfl, hb6⟩; rw [HME.out])
                        have HM6 : Hid (LstAt w6 w3.heap.size (uni1 U0 x (Qs.take (d + 1))) hs gm cl) := Lib.hid (by rw [HPE.out]; exact HM5.out.on hb6)
                        have HJ6 := Lib.hid (HJ5.out.trans (hb6.mono hz5))
                        clear hb6 HM5 HJ5 HL5 HIM HLU
                        go_roundw
                        case rel => exact ⟨d + 1, gm, cl, hs, by omega, by go_num, by rw [HPE.out], HM6, HJ6⟩
                        case measure => simp [intOf]; omega
                      | false =>
                        have HME := Lib.hid hmem
                        have HPE : Hid (uni1 U0 x (Qs.take (d + 1)) = U ++ [mg]) := Lib.hid (by rw [HSU.out, HPUT.out, if_pos ⟨hl3, hu8, by simpa using hmem⟩])
                        clear hmem
                        go_wp2_with (first
                          | (go_at_call 175; refine (l5Has_any (some ⟨gm, 0, none⟩) (some ⟨gz, 0, none⟩) U.length mg.length cl cz U mg _ HLU.out HIM.out rfl rfl ?_ ?_ ?_).mono ?_; (omega); (omega); (intro t ht; have := HUF.out t ht; omega); rintro e w6 ⟨rfl, hb6⟩; rw [HME.out]; have HM6 := Lib.hid (HM5.out.on hb6); have HJ6 := Lib.hid (HJ5.out.trans (hb6.mono hz5)); have HL6 := Lib.hid (HL5.out.kept (fun b hb => hb6.block b hb.2.1) (Off.on hb6.size)); have hz6 := Nat.le_trans hz5 hb6.size; clear hb6)
                          | (at_builtin; refine wpList_push2 rfl (.tmp 95) (.tmp 97) rfl _ w3.heap.size gm cl U.length U hs rfl rfl HM6.out (by omega) (some ⟨gz, 0, none⟩) mg.length cz mg rfl rfl HL6.out ?_))
                        intro gm7 cl7 w7 hM7 hb7 _
                        have HM7 : Hid (LstAt w7 w3.heap.size (uni1 U0 x (Qs.take (d + 1))) (hs ++ [.slice (some ⟨gz, 0, none⟩) mg.length cz]) gm7 cl7) := Lib.hid (by rw [HPE.out]; exact hM7)
                        have HJ7 := Lib.hid (HJ6.out.trans hb7)
                        have hln : (U ++ [mg]).length = U.length + 1 := by simp
                        clear hb7 hM7 HM5 HJ5 HL5 HIM HLU HM6 HJ6 HL6
                        go_wp2
                        go_roundw
                        case rel => exact ⟨d + 1, gm7, cl7, _, by omega, by go_num, by rw [HPE.out, hln], HM7, HJ7⟩
                        case measure => simp [intOf]; omega
                    · have HPE : Hid (uni1 U0 x (Qs.take (d + 1)) = U) := Lib.hid (by rw [HSU.out, HPUT.out, if_neg (fun h => hu8 h.2.1)])
                      have HM6 : Hid (LstAt w5 w3.heap.size (uni1 U0 x (Qs.take (d + 1))) hs gm cl) := Lib.hid (by rw [HPE.out]; exact HM5.out)
                      clear HM5 HL5 HIM HLU
                      go_wp2
                      go_roundw
                      case rel => exact ⟨d + 1, gm, cl, hs, by omega, by go_num, by rw [HPE.out], HM6, HJ5⟩
                      case measure => simp [intOf]; omega
                  · have HPE : Hid (uni1 U0 x (Qs.take (d + 1)) = U) := Lib.hid (by rw [HSU.out, HPUT.out, if_neg (fun h => hl3 h.1)])
                    have HM6 : Hid (LstAt w5 w3.heap.size (uni1 U0 x (Qs.take (d + 1))) hs gm cl) := Lib.hid (by rw [HPE.out]; exact HM5.out)
                    clear HM5 HL5 HIM HLU
                    go_wp2
                    go_roundw
                    case rel => exact ⟨d + 1, gm, cl, hs, by omega, by go_num, by rw [HPE.out], HM6, HJ5⟩
                    case measure => simp [intOf]; omega
                · obtain rfl : d = Qs.length := by omega
                  have HE : Hid (uni1 U0 x (Qs.take Qs.length) = uniA [] (P.take (a + 1)) Qs) := Lib.hid (by rw [List.take_length]; exact HSA.out.symm)
                  rw [HE.out] at HM
                  clear HSA
                  go_wp2
                  go_roundw
                  case rel => exact ⟨a + 1, gm, cl, hs, by omega, by go_num, by rw [HE.out], HM, HB⟩
                  case measure => simp [intOf]; omega
            · obtain rfl : a = P.length := by omega
              have hTk : P.take P.length = P := List.take_length
              rw [hTk] at HM ⊢
              have hul : (uniA [] P Qs).length ≤ 8 := uniA_le (by simp)
              have HST2 : Hid (cutsTo k c.gs (j + 1) = cutsTo k c.gs j ++ [uniA [] P Qs ++ [[k + j]]]) := HSTEP
              clear HSTEP hTk
              generalize uniA [] P Qs = U at *
              have hgm := HM.out.gb
              have hbs := HB.out.size
              have HA4 := Lib.hid (HA3.out.on HB.out)
              have hcl := HCL.out
              have HL4 : Hid (LeafIn (wr.alloc (.cells #[.int .i64 ((k : Int) + (j : Int))] 3)) (Off (wr.alloc (.cells #[.int .i64 ((k : Int) + (j : Int))] 3)) w3.heap.size gm) (some ⟨wr.heap.size, 0, none⟩) [k + j]) := Lib.hid (.inr ⟨_, _, rfl, ⟨hbs, by simp, by omega⟩, heap_alloc_new wr _, fun t ht => by simp at ht; subst ht; simp⟩)
              have HM4 := Lib.hid (HM.out.on (w' := wr.alloc (.cells #[.int .i64 ((k : Int) + (j : Int))] 3)) ((Below.refl _ _).alloc (Nat.le_refl _) _))
              have hz4 : (wr.alloc (.cells #[.int .i64 ((k : Int) + (j : Int))] 3)).heap.size = wr.heap.size + 1 := by simp
              have hb4 : Below w3.heap.size w3 (wr.alloc (.cells #[.int .i64 ((k : Int) + (j : Int))] 3)) := HB.out.alloc hbs _
              have HB4 := Lib.hid hb4
              clear hb4 HA4
              go_wp2_with (first
                | (at_builtin; (with_reducible refine wpList_push2 rfl (.tmp 100) (.tmp 103) rfl (wr.alloc (.cells #[.int .i64 ((k : Int) + (j : Int))] 3)) w3.heap.size gm cl U.length U hs rfl rfl HM4.out (by omega) (some ⟨wr.heap.size, 0, none⟩) 1 1 [k + j] ?_ rfl HL4.out ?_); (rw [hz4]; rfl); intro gm7 cl7 w7 hM7 hb7 _; have HM7 := Lib.hid hM7; have HO7 := Lib.hid hM7.1; have HH7 := Lib.hid hM7.2; have HA7 := Lib.hid (HA3.out.on (HB4.out.trans hb7)); have HB7 := Lib.hid (HB4.out.trans hb7); clear hM7 hb7)
                | (at_builtin; (with_reducible refine wpList_push3 rfl (.tmp 99) (.tmp 105) rfl w7 (w.heap.size + 1) g cap (k + j) _ HH rfl hcl HA7.out (by omega) (some ⟨gm7, 0, none⟩) (U.length + 1) cl7 _ (U ++ [[k + j]]) rfl ?_ ?_ (own_row HO7.out HH7.out ?_ ?_) ?_); (simp); (simpa using own_cap HO7.out); (intro b hb; exact ⟨by have := hb.1; omega, hb.2.1, by have := hb.1; omega⟩); (exact ⟨by have := HM7.out.gb; omega, HM7.out.gb.2, by have := HM7.out.gb; omega⟩)))
              intro g8 cap8 w8 hA8 hb8
              have HA8 : Hid (AllAt w8 (w.heap.size + 1) (cutsTo k c.gs (j + 1)) (HH ++ [hs ++ [.slice (some ⟨wr.heap.size, 0, none⟩) 1 1]]) g8 cap8) := Lib.hid (by rw [HST2.out]; exact hA8)
              have HL8 := Lib.hid (HL3.out.trans ((HB7.out.mono (by omega)).trans hb8))
              clear hA8 hb8 HM7 HB7 HO7 HH7 HA7 HM4 HL4 HB4 HM HB HA3 HL3 hcl
              go_wp2
              go_roundw
              case rel => exact ⟨j + 1, g8, cap8, _, by omega, by go_num, by rfl, HA8, HL8⟩
              case measure => simp [intOf]; omega
        · obtain rfl : j = gl := by omega
          have HE : Hid (cutsTo k c.gs j = cuts k c.gs ∧ j = c.gs.length) := Lib.hid ⟨by unfold cuts; rw [HF.out.lg], HF.out.lg.symm⟩
          go_wp2
          go_ret
          refine ⟨g, cap, HH, by rw [← HE.out.2]; rfl, ?_, HW0.out.trans (HL.out.mono (by omega))⟩
          rw [← HE.out.1]
          exact HA.out.mono (by omega)
end Go.Proofs.Ytkkkkalgfmddbaa
