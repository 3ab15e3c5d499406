/- Lists of cuts in memory. -/
import Derived.Test.YtdadokcodklfgaaQD
import Derived.Test.YtdadokcodklfgaaT3
import Derived.Test.YtdadokcodklfgaaCL
import Derived.Shelf.RegionOpen
namespace Go.Proofs.Ytdadokcodklfgaa
open Go.RowKit Go.Deep Cut

theorem IntsAt.on {w w' : World} {A : Option Addr} {xs : List Int} (h : IntsAt w w.heap.size A xs) (hb : Below w.heap.size w w') : IntsAt w' w'.heap.size A xs := (h.below hb).mono hb.size
/-- Read in blocks of S alone. -/
def IntsIn (w : World) (S : Nat → Prop) (A : Option Addr) (xs : List Int) : Prop :=
  ∀ k, k < xs.length → ∃ b off, A = some ⟨b, off, none⟩ ∧ S b ∧ w.cell? ⟨b, off + k, none⟩ = some (.int .i64 (xs.getD k 0))
def ListIn (w : World) (S : Nat → Prop) (A : Option Addr) (xs : Cs) : Prop :=
  ∀ k, k < xs.length → ∃ b off, A = some ⟨b, off, none⟩ ∧ S b ∧ ∃ (A' : Option Addr) (cap : Nat), w.cell? ⟨b, off + k, none⟩ = some (.slice A' (xs.getD k []).length cap) ∧ IntsIn w S A' (Opt.intL (xs.getD k []))
def CutsIn (w : World) (S : Nat → Prop) (A : Option Addr) (cs : List Cs) : Prop :=
  ∀ k, k < cs.length → ∃ b off, A = some ⟨b, off, none⟩ ∧ S b ∧ ∃ (A' : Option Addr) (cap : Nat), w.cell? ⟨b, off + k, none⟩ = some (.slice A' (cs.getD k []).length cap) ∧ ListIn w S A' (cs.getD k [])
section
variable {w w' : World} {S T : Nat → Prop} {A : Option Addr}
theorem IntsIn.kept {xs : List Int} (h : IntsIn w S A xs) (hS : ∀ b, S b → w'.heap[b]? = w.heap[b]?) (hT : ∀ b, S b → T b) : IntsIn w' T A xs := fun k hk => by
  obtain ⟨b, off, e, hs, hc⟩ := h k hk
  exact ⟨b, off, e, hT b hs, (World.cell?_of_block (a := ⟨b, off + k, none⟩) (hS b hs)).trans hc⟩
theorem ListIn.kept {xs : Cs} (h : ListIn w S A xs) (hS : ∀ b, S b → w'.heap[b]? = w.heap[b]?) (hT : ∀ b, S b → T b) : ListIn w' T A xs := fun k hk => by
  obtain ⟨b, off, e, hs, A', cap, hc, hx⟩ := h k hk
  exact ⟨b, off, e, hT b hs, A', cap, (World.cell?_of_block (a := ⟨b, off + k, none⟩) (hS b hs)).trans hc, hx.kept hS hT⟩
theorem CutsIn.kept {xs : List Cs} (h : CutsIn w S A xs) (hS : ∀ b, S b → w'.heap[b]? = w.heap[b]?) (hT : ∀ b, S b → T b) : CutsIn w' T A xs := fun k hk => by
  obtain ⟨b, off, e, hs, A', cap, hc, hx⟩ := h k hk
  exact ⟨b, off, e, hT b hs, A', cap, (World.cell?_of_block (a := ⟨b, off + k, none⟩) (hS b hs)).trans hc, hx.kept hS hT⟩
end
def ListAt (w : World) (B : Nat) (A : Option Addr) (xs : Cs) : Prop := ListIn w (fun b => b < B) A xs
def CutsAt (w : World) (B : Nat) (A : Option Addr) (cs : List Cs) : Prop := CutsIn w (fun b => b < B) A cs
theorem ListAt.below {w w' : World} {B : Nat} {A : Option Addr} {xs : Cs} (h : ListAt w B A xs) (hb : Below B w w') : ListAt w' B A xs := ListIn.kept h (fun b hs => hb.block b hs) (fun _ h => h)
theorem ListAt.mono {w : World} {B B' : Nat} {A : Option Addr} {xs : Cs} (h : ListAt w B A xs) (hb : B ≤ B') : ListAt w B' A xs := ListIn.kept h (fun _ _ => rfl) (fun _ h => Nat.lt_of_lt_of_le h hb)
theorem ListAt.on {w w' : World} {A : Option Addr} {xs : Cs} (h : ListAt w w.heap.size A xs) (hb : Below w.heap.size w w') : ListAt w' w'.heap.size A xs := (h.below hb).mono hb.size
theorem CutsAt.below {w w' : World} {B : Nat} {A : Option Addr} {xs : List Cs} (h : CutsAt w B A xs) (hb : Below B w w') : CutsAt w' B A xs := CutsIn.kept h (fun b hs => hb.block b hs) (fun _ h => h)
theorem CutsAt.mono {w : World} {B B' : Nat} {A : Option Addr} {xs : List Cs} (h : CutsAt w B A xs) (hb : B ≤ B') : CutsAt w B' A xs := CutsIn.kept h (fun _ _ => rfl) (fun _ h => Nat.lt_of_lt_of_le h hb)
theorem CutsAt.on {w w' : World} {A : Option Addr} {xs : List Cs} (h : CutsAt w w.heap.size A xs) (hb : Below w.heap.size w w') : CutsAt w' w'.heap.size A xs := (h.below hb).mono hb.size

/-- A list in a block of its own, in S. -/
def LeafIn (w : World) (S : Nat → Prop) (A : Option Addr) (x : List Nat) : Prop :=
  x = [] ∨ ∃ (b : Nat) (cs : Array Value), A = some ⟨b, 0, none⟩ ∧ S b ∧ Row w b 3 cs ∧ ∀ j, j < x.length → cs[j]? = some (.int .i64 (x.getD j 0 : Nat))
/-- The headers of such lists. -/
def Hdrs (w : World) (S : Nat → Prop) (hs : List Value) (xs : Cs) : Prop :=
  hs.length = xs.length ∧ ∀ k, k < xs.length → ∃ (A' : Option Addr) (cap : Nat), hs[k]? = some (.slice A' (xs.getD k []).length cap) ∧ LeafIn w S A' (xs.getD k [])
/-- Such headers in a block of their own, in S. -/
def RowIn (w : World) (S : Nat → Prop) (A : Option Addr) (hs : List Value) (xs : Cs) : Prop :=
  (∃ (b : Nat) (cs : Array Value), A = some ⟨b, 0, none⟩ ∧ S b ∧ Row w b 31 cs ∧ ∀ j, j < hs.length → cs[j]? = hs[j]?) ∧ Hdrs w S hs xs
def CHdrs (w : World) (S : Nat → Prop) (hs : List Value) (HH : List (List Value)) (cs : List Cs) : Prop :=
  hs.length = cs.length ∧ HH.length = cs.length ∧ ∀ k, k < cs.length → ∃ (A' : Option Addr) (cap : Nat), (hs[k]? = some (.slice A' (cs.getD k []).length cap) ∧ (cs.getD k []).length ≤ cap) ∧ RowIn w S A' (HH.getD k []) (cs.getD k [])
section
variable {w w' : World} {S T : Nat → Prop} {hs : List Value} {HH : List (List Value)} {A : Option Addr}
theorem LeafIn.kept {x : List Nat} (h : LeafIn w S A x) (hS : ∀ b, S b → w'.heap[b]? = w.heap[b]?) (hT : ∀ b, S b → T b) : LeafIn w' T A x := by
  rcases h with h | ⟨b, cs, e, hs, hr, hc⟩
  · exact .inl h
  · exact .inr ⟨b, cs, e, hT b hs, (hS b hs).trans hr, hc⟩
theorem LeafIn.ints {x : List Nat} (h : LeafIn w S A x) : IntsIn w S A (Opt.intL x) := fun k hk => by
  rw [Opt.intL_len] at hk
  rcases h with h | ⟨b, cs, e, hs, hr, hc⟩
  · subst h; simp at hk
  · exact ⟨b, 0, e, hs, by rw [Nat.zero_add, hr.cell, hc k hk, Opt.intL_at]⟩
theorem Hdrs.kept {xs : Cs} (h : Hdrs w S hs xs) (hS : ∀ b, S b → w'.heap[b]? = w.heap[b]?) (hT : ∀ b, S b → T b) : Hdrs w' T hs xs := ⟨h.1, fun k hk => by
  obtain ⟨A', cap, e, hx⟩ := h.2 k hk
  exact ⟨A', cap, e, hx.kept hS hT⟩⟩
theorem RowIn.kept {xs : Cs} (h : RowIn w S A hs xs) (hS : ∀ b, S b → w'.heap[b]? = w.heap[b]?) (hT : ∀ b, S b → T b) : RowIn w' T A hs xs := by
  obtain ⟨⟨b, cs, e, hs', hr, hc⟩, hh⟩ := h
  exact ⟨⟨b, cs, e, hT b hs', (hS b hs').trans hr, hc⟩, hh.kept hS hT⟩
theorem RowIn.lists {xs : Cs} (h : RowIn w S A hs xs) : ListIn w S A xs := fun k hk => by
  obtain ⟨⟨b, cs, e, hs', hr, hc⟩, hh⟩ := h
  obtain ⟨A', cap, e', hx⟩ := hh.2 k hk
  exact ⟨b, 0, e, hs', A', cap, by rw [Nat.zero_add, hr.cell, hc k (by rw [hh.1]; exact hk)]; exact e', hx.ints⟩
theorem CHdrs.kept {xs : List Cs} (h : CHdrs w S hs HH xs) (hS : ∀ b, S b → w'.heap[b]? = w.heap[b]?) (hT : ∀ b, S b → T b) : CHdrs w' T hs HH xs := ⟨h.1, h.2.1, fun k hk => by
  obtain ⟨A', cap, e, hx⟩ := h.2.2 k hk
  exact ⟨A', cap, e, hx.kept hS hT⟩⟩
theorem Hdrs.nil (w : World) (S : Nat → Prop) : Hdrs w S [] [] := ⟨rfl, fun k hk => absurd hk (by simp)⟩
theorem CHdrs.nil (w : World) (S : Nat → Prop) : CHdrs w S [] [] [] := ⟨rfl, rfl, fun k hk => absurd hk (by simp)⟩
theorem Hdrs.snoc {xs : Cs} (h : Hdrs w S hs xs) {A : Option Addr} {x : List Nat} {cap n : Nat} (hn : x.length = n) (hx : LeafIn w S A x) : Hdrs w S (hs ++ [.slice A n cap]) (xs ++ [x]) := by
  subst hn
  refine ⟨by simp [h.1], fun k hk => ?_⟩
  by_cases e : k < xs.length
  · obtain ⟨A', cap', e', hx'⟩ := h.2 k e
    rw [Circ.getD_app_lt _ _ _ _ e]
    exact ⟨A', cap', by rw [List.getElem?_append_left (by rw [h.1]; exact e)]; exact e', hx'⟩
  · obtain rfl : k = xs.length := by simp at hk; omega
    rw [Circ.getD_app_at _ _ _ _ rfl]
    exact ⟨A, cap, by rw [List.getElem?_append_right (by rw [h.1]; exact Nat.le_refl _), h.1]; simp, hx⟩
theorem CHdrs.snoc {xs : List Cs} (h : CHdrs w S hs HH xs) {A : Option Addr} {x : Cs} {H : List Value} {cap n : Nat} (hn : x.length = n) (hcap : n ≤ cap) (hx : RowIn w S A H x) : CHdrs w S (hs ++ [.slice A n cap]) (HH ++ [H]) (xs ++ [x]) := by
  subst hn
  refine ⟨by simp [h.1], by simp [h.2.1], fun k hk => ?_⟩
  by_cases e : k < xs.length
  · obtain ⟨A', cap', e', hx'⟩ := h.2.2 k e
    rw [Circ.getD_app_lt _ _ _ _ e, Circ.getD_app_lt _ _ _ _ (by rw [h.2.1]; exact e)]
    exact ⟨A', cap', ⟨by rw [List.getElem?_append_left (by rw [h.1]; exact e)]; exact e'.1, e'.2⟩, hx'⟩
  · obtain rfl : k = xs.length := by simp at hk; omega
    rw [Circ.getD_app_at _ _ _ _ rfl, Circ.getD_app_at _ _ _ _ h.2.1.symm]
    exact ⟨A, cap, ⟨by rw [List.getElem?_append_right (by rw [h.1]; exact Nat.le_refl _), h.1]; simp, hcap⟩, hx⟩
end
/-- The blocks of w from B on but g. -/
def Off (w : World) (B g b : Nat) : Prop := B ≤ b ∧ b < w.heap.size ∧ b ≠ g
theorem Try.info23 : (Try.prog.info? 31).map (fun i => (i.zero, i.size, i.bytes)) = some (some (.slice none 0 0), 1, 24) := by kernel_rfl
theorem info_split {i? : Option TypeInfo} {z : Value} {s b : Nat} (h : i?.map (fun i => (i.zero, i.size, i.bytes)) = some (some z, s, b)) : ∃ i, i? = some i ∧ i.zero = some z ∧ i.size = s ∧ i.bytes = b := by
  cases i? with
  | none => simp at h
  | some i => simp at h; exact ⟨i, rfl, h.1, h.2.1, h.2.2⟩
/-- A list of lists, and all lists of lists, being built. -/
def LstAt (w : World) (B : Nat) (xs : Cs) (hs : List Value) (g cap : Nat) : Prop := w.ownsRow B 31 1 (.slice (some ⟨g, 0, none⟩) xs.length cap) xs.length hs ∧ Hdrs w (Off w B g) hs xs
def AllAt (w : World) (B : Nat) (cs : List Cs) (HH : List (List Value)) (g cap : Nat) : Prop := ∃ hs, w.ownsRow B 181 1 (.slice (some ⟨g, 0, none⟩) cs.length cap) cs.length hs ∧ CHdrs w (Off w B g) hs HH cs
theorem Off.on {w w' : World} {B g : Nat} (hb : w.heap.size ≤ w'.heap.size) : ∀ b, Off w B g b → Off w' B g b := fun _ h => ⟨h.1, by have := h.2.1; omega, h.2.2⟩
theorem ownsRow_keep {w w' : World} {B e g n cap : Nat} {hs : List Value} (h : w.ownsRow B e 1 (.slice (some ⟨g, 0, none⟩) n cap) n hs) (hg : w'.heap[g]? = w.heap[g]?) : w'.ownsRow B e 1 (.slice (some ⟨g, 0, none⟩) n cap) n hs := by
  refine ⟨h.1, ?_⟩
  rcases h.2 with ⟨hv, _⟩ | ⟨g', cap', cur, hv, h1, h2, h3⟩
  · cases hv
  · have hv' := hv
    injection hv with e1
    injection e1 with e1
    injection e1 with e1
    subst e1
    exact .inr ⟨g, cap', cur, hv', h1, hg.trans h2, h3⟩
theorem LstAt.on {w w' : World} {B g cap : Nat} {xs : Cs} {hs : List Value} (h : LstAt w B xs hs g cap) (hb : Below w.heap.size w w') : LstAt w' B xs hs g cap :=
  ⟨ownsRow_keep h.1 (hb.block g (h.1.lt g rfl).2), h.2.kept (fun b hb' => hb.block b hb'.2.1) (Off.on hb.size)⟩
theorem AllAt.on {w w' : World} {B g cap : Nat} {cs : List Cs} {HH : List (List Value)} (h : AllAt w B cs HH g cap) (hb : Below w.heap.size w w') : AllAt w' B cs HH g cap := by
  obtain ⟨hs, h1, h2⟩ := h
  exact ⟨hs, ownsRow_keep h1 (hb.block g (h1.lt g rfl).2), h2.kept (fun b hb' => hb.block b hb'.2.1) (Off.on hb.size)⟩
theorem LstAt.gb {w : World} {B g cap : Nat} {xs : Cs} {hs : List Value} (h : LstAt w B xs hs g cap) : B ≤ g ∧ g < w.heap.size := h.1.lt g rfl
theorem AllAt.gb {w : World} {B g cap : Nat} {cs : List Cs} {HH : List (List Value)} (h : AllAt w B cs HH g cap) : B ≤ g ∧ g < w.heap.size := by
  obtain ⟨hs, h1, h2⟩ := h
  exact h1.lt g rfl
/-- One more cell onto a row of the call's own: what may be said of the blocks. -/
theorem off_grown {w0 w5 : World} {o : Obj} {g n cap : Nat} (hgr : (w0.alloc o).grownBy w5 (Value.slice (some ⟨g, 0, none⟩) n cap).ownBlock) : (∀ b, b < w0.heap.size → b ≠ g → w5.heap[b]? = w0.heap[b]?) := fun b h1 h2 => by
  rw [hgr.block b (by simp; omega) (by simp [Value.ownBlock]; exact h2)]
  exact Below.heap_alloc _ _ _ h1
theorem below_alloc_grown {w0 w5 : World} {o : Obj} {B g n cap : Nat} (hgr : (w0.alloc o).grownBy w5 (Value.slice (some ⟨g, 0, none⟩) n cap).ownBlock) (hB : B ≤ w0.heap.size) (hg : B ≤ g) : Below B w0 w5 :=
  ((Below.refl B w0).alloc hB o).grown hgr (by simp; omega) (fun j hj => by simp [Value.ownBlock] at hj; omega)

section
variable {ops : Array Oper} {rest : List Oper} {o : Oper} {a : Act} {Q : Exit → Act → World → Prop}
end
end Go.Proofs.Ytdadokcodklfgaa
/- The contract of the model's union of two cuts. -/
namespace Go.Proofs.Ytdadokcodklfgaa
open Go.RowKit Go.Deep Cut

end Go.Proofs.Ytdadokcodklfgaa
/- The contract of the model's search among cuts. -/
namespace Go.Proofs.Ytdadokcodklfgaa
open Go.RowKit Go.Deep Cut

def SameUp (s : Bool) (xi x : List Nat) (k : Nat) : Prop := (s = true → xi.length = x.length ∧ ∀ t, t < k → xi.getD t 0 = x.getD t 0) ∧ (s = false → xi ≠ x)
theorem SameUp.start (xi x : List Nat) : SameUp (decide (xi.length = x.length)) xi x 0 := by
  refine ⟨fun h => ⟨by simpa using h, fun t ht => absurd ht (by omega)⟩, fun h e => ?_⟩
  subst e
  simp at h
theorem SameUp.step {xi x : List Nat} {k : Nat} (h : SameUp true xi x k) (_hk : k < x.length) : SameUp (decide (xi.getD k 0 = x.getD k 0)) xi x (k + 1) := by
  refine ⟨fun e => ⟨(h.1 rfl).1, fun t ht => ?_⟩, fun e h2 => ?_⟩
  · by_cases e2 : t < k
    · exact (h.1 rfl).2 t e2
    · obtain rfl : t = k := by omega
      simpa using e
  · subst h2
    simp at e
end Go.Proofs.Ytdadokcodklfgaa
/- The contract of the model's cuts. -/
namespace Go.Proofs.Ytdadokcodklfgaa
open Go.RowKit Go.Deep Cut

theorem ListIn.at {w : World} {S : Nat → Prop} {A : Option Addr} {xs : Cs} {B : Nat} (h : ListIn w S A xs) (hS : ∀ b, S b → b < B) : ListAt w B A xs := h.kept (fun _ _ => rfl) hS
theorem IntsIn.at {w : World} {S : Nat → Prop} {A : Option Addr} {xs : List Int} {B : Nat} (h : IntsIn w S A xs) (hS : ∀ b, S b → b < B) : IntsAt w B A xs := h.kept (fun _ _ => rfl) hS
/-- What is known of the list of variable v while all are built. -/
theorem AllAt.at {w : World} {B g cap : Nat} {cs : List Cs} {HH : List (List Value)} (h : AllAt w B cs HH g cap) (v : Nat) (hv : v < cs.length) :
    ∃ (A' : Option Addr) (cap' : Nat), w.cell? ⟨g, v, none⟩ = some (.slice A' (cs.getD v []).length cap') ∧ ListAt w w.heap.size A' (cs.getD v []) := by
  obtain ⟨hs, h1, h2⟩ := h
  obtain ⟨A', cap', e, hx⟩ := h2.2.2 v hv
  exact ⟨A', cap', by rw [h1.cellAt v (by have := h1.1; have := h2.1; omega)]; exact e.1, hx.lists.at (fun b hb => hb.2.1)⟩
theorem AllAt.mono {w : World} {B B' g cap : Nat} {cs : List Cs} {HH : List (List Value)} (h : AllAt w B cs HH g cap) (hb : B' ≤ B) : AllAt w B' cs HH g cap := by
  obtain ⟨hs, h1, h2⟩ := h
  refine ⟨hs, ⟨h1.1, ?_⟩, h2.kept (fun _ _ => rfl) (fun b hb' => ⟨by have := hb'.1; omega, hb'.2⟩)⟩
  rcases h1.2 with h | ⟨g', cap', cur, hv, h3, h4⟩
  · exact .inl h
  · exact .inr ⟨g', cap', cur, hv, by omega, h4⟩
end Go.Proofs.Ytdadokcodklfgaa
