/- The contract of the program's unions of cuts. -/
import Derived.Test.YtkkkkalgfmddbaaCB
namespace Go.Proofs.Ytkkkkalgfmddbaa
open Go.RowKit Go.Deep Cut

/-- The block of a slice that is not empty. -/
def vblk : Value → Option Nat
  | .slice (some a) (_ + 1) _ => some a.block
  | _ => none
/-- No two slices share a block. -/
def DistH (hs : List Value) : Prop := ∀ (j k : Nat), j < k → ∀ (u v : Value), hs[j]? = some u → hs[k]? = some v → ∀ b, vblk u = some b → vblk v ≠ some b
theorem DistH.nil : DistH [] := fun j k _ u v hu => by simp at hu
theorem DistH.snoc {hs : List Value} {v : Value} {N : Nat} (h : DistH hs) (hl : ∀ u, u ∈ hs → ∀ b, vblk u = some b → b < N) (hv : ∀ b, vblk v = some b → N ≤ b) : DistH (hs ++ [v]) := by
  intro j k hjk u v' hu hv' b hb hb'
  have hk := (List.getElem?_eq_some_iff.1 hv').1
  simp at hk
  rw [List.getElem?_append_left (by omega)] at hu
  by_cases e : k < hs.length
  · rw [List.getElem?_append_left e] at hv'
    exact h j k hjk u v' hu hv' b hb hb'
  · obtain rfl : k = hs.length := by omega
    simp at hv'
    subst hv'
    have h1 := hl u (List.mem_of_getElem? hu) b hb
    have h2 := hv b hb'
    omega
theorem LeafIn.blk {w : World} {S : Nat → Prop} {A : Option Addr} {x : List Nat} {c : Nat} (h : LeafIn w S A x) : ∀ b, vblk (.slice A x.length c) = some b → S b := by
  intro b hb
  rcases h with h | ⟨b', cs, e, hs, _⟩
  · subst h; cases A <;> simp [vblk] at hb
  · subst e
    cases x with
    | nil => simp [vblk] at hb
    | cons y ys => simp [vblk] at hb; subst hb; exact hs
theorem Hdrs.blk {w : World} {S : Nat → Prop} {hs : List Value} {K : Cs} (h : Hdrs w S hs K) : ∀ u, u ∈ hs → ∀ b, vblk u = some b → S b := by
  intro u hu b hb
  obtain ⟨k, hk, e⟩ := List.mem_iff_getElem.1 hu
  obtain ⟨A, cap, e2, hx⟩ := h.2 k (by have := h.1; omega)
  rw [List.getElem?_eq_getElem hk] at e2
  injection e2 with e2
  rw [← e, e2] at hb
  exact hx.blk b hb
section
variable {ops : Array Oper} {rest : List Oper} {o : Oper} {a : Act} {Q : Exit → Act → World → Prop}
/-- One more list; where the row lies behind it. -/
theorem wpList_push2b (hgd : o.guard = none) (s x : Operand) (ho : o.op = .call { callee := .builtin .append, args := #[s, x], argTypes := #[151, 151] })
    (wr : World) (B g cap n : Nat) (xs : Cs) (hs : List Value) (hev : a.eval s = .slice (some ⟨g, 0, none⟩) n cap) (hn : xs.length = n) (h : LstAt wr B xs hs g cap) (hnb : n ≤ 1000)
    (A : Option Addr) (m c : Nat) (y : List Nat) (hx : a.eval x = .slice (some ⟨wr.heap.size, 0, none⟩) 1 1) (hm : y.length = m) (hL : LeafIn wr (Off wr B g) A y)
    (cont : ∀ g' cap' w5, LstAt w5 B (xs ++ [y]) (hs ++ [.slice A m c]) g' cap' → Below B wr w5 → (∀ b, b < wr.heap.size → b ≠ g → w5.heap[b]? = wr.heap[b]?) → (g' = g ∨ wr.heap.size ≤ g') → wpList Try.prog ops Q rest (a.put o.dst (.slice (some ⟨g', 0, none⟩) (n + 1) cap')) w5) :
    wpList Try.prog ops Q (o :: rest) a (wr.alloc (.cells #[.slice A m c] 31)) := by
  subst hn
  obtain ⟨i0, hi0, hz0, hz1, hz2⟩ := info_split Try.info23
  obtain ⟨hB, hgl⟩ := h.gb
  refine wpList_append_kept _ hgd s x 151 ho B 31 i0 _ 1 24 Try.underlying151 hi0 hz0 hz1 hz2 rfl (by omega) (.slice (some ⟨g, 0, none⟩) xs.length cap) xs.length hs hev (h.1.alloc _) ⟨wr.heap.size, 0, none⟩ 1 1 [.slice A m c] hx rfl (World.news_of_block (cs := #[.slice A m c]) (t := 31) (fr := (0, 0)) (heap_alloc_new wr _)) (by simp [Value.oneCell']) (by omega) (by simp [maxLen]; omega) (by omega) (by simp; omega) _ rfl ?_
  intro g' cap' w5 hown5 hgr5 hat5 hlt5 hkept5
  refine cont g' cap' w5 ⟨by rw [List.length_append, List.length_singleton]; exact hown5, ?_⟩ (below_alloc_grown hgr5 (by omega) hB) (off_grown hgr5) ?_
  · exact (h.2.kept (fun b hb => off_grown hgr5 b hb.2.1 hb.2.2) (off_step hgr5 hat5)).snoc hm (hL.kept (fun b hb => off_grown hgr5 b hb.2.1 hb.2.2) (off_step hgr5 hat5))
  · rcases hat5 with h | h
    · simp [Value.ownBlock] at h; exact .inl h.symm
    · simp at h; exact .inr (by omega)
end
/-- Two other blocks have turned. -/
theorem LstAt.beside2 {w w' : World} {B g cap g2 g3 : Nat} {xs : Cs} {hs : List Value} {t2 t3 : TypeId} {c2 c3 : Array Value} (h : LstAt w B xs hs g cap) (n2 : g ≠ g2) (n3 : g ≠ g3) (h2 : Row w g2 t2 c2) (h3 : Row w g3 t3 c3) (e2 : t2 ≠ 3) (e3 : t3 ≠ 3) (hsame : ∀ b, b < w.heap.size → b ≠ g2 → b ≠ g3 → w'.heap[b]? = w.heap[b]?) (hsz : w.heap.size ≤ w'.heap.size) : LstAt w' B xs hs g cap :=
  ⟨ownsRow_keep h.1 (hsame g h.gb.2 n2 n3), ((h.2.off (T := fun b => Off w B g b ∧ b ≠ g2) h2 e2 (fun _ h1 h2 => ⟨h1, h2⟩)).off (T := fun b => (Off w B g b ∧ b ≠ g2) ∧ b ≠ g3) h3 e3 (fun _ h1 h2 => ⟨h1, h2⟩)).kept (fun b hb => hsame b hb.1.1.2.1 hb.1.2 hb.2) (fun b hb => Off.on hsz b hb.1.1)⟩
theorem LeafIn.beside2 {w w' : World} {S T : Nat → Prop} {A : Option Addr} {x : List Nat} {g2 g3 : Nat} {t2 t3 : TypeId} {c2 c3 : Array Value} (h : LeafIn w S A x) (h2 : Row w g2 t2 c2) (h3 : Row w g3 t3 c3) (e2 : t2 ≠ 3) (e3 : t3 ≠ 3) (hsame : ∀ b, b < w.heap.size → b ≠ g2 → b ≠ g3 → w'.heap[b]? = w.heap[b]?) (hS : ∀ b, S b → b < w.heap.size) (hT : ∀ b, S b → T b) : LeafIn w' T A x :=
  ((h.off (T := fun b => S b ∧ b ≠ g2) h2 e2 (fun _ h1 h2 => ⟨h1, h2⟩)).off (T := fun b => (S b ∧ b ≠ g2) ∧ b ≠ g3) h3 e3 (fun _ h1 h2 => ⟨h1, h2⟩)).kept (fun b hb => hsame b (hS b hb.1.1) hb.1.2 hb.2) (fun b hb => hT b hb.1.1)
def UCOut (w : World) (U : Cs) (e : Ending) (w' : World) : Prop := ∃ hs g cap, e = .returned (.slice (some ⟨g, 0, none⟩) U.length cap) ∧ LstAt w' w.heap.size U hs g cap ∧ DistH hs ∧ Below w.heap.size w w'
end Go.Proofs.Ytkkkkalgfmddbaa
