/- The contract of slices.Repeat at one integer, three times. -/
import Derived.Test.YtdadokcodklfgaaKF
import Derived.Laws.CopyRow
import Derived.Laws.CopyOwn
import Derived.Deep.WholeRow
import Derived.BigRegion
import Derived.Test.YtdadokcodklfgaaNP
namespace Go.Proofs.Ytdadokcodklfgaa
open Go.RowKit Go.Deep

end Go.Proofs.Ytdadokcodklfgaa
/- The contracts of EmptyConfig. -/
namespace Go.Proofs.Ytdadokcodklfgaa
open Go.RowKit Go.Deep

theorem row_new (w : World) (t : TypeId) (cs : Array Value) : Row (w.alloc (.cells cs t)) w.heap.size t cs := heap_alloc_new w _
theorem row_n1 (w : World) (o : Obj) (t : TypeId) (cs : Array Value) : Row ((w.alloc o).alloc (.cells cs t)).drew (w.heap.size + 1) t cs := by
  have h := row_new (w.alloc o) t cs
  rw [show (w.alloc o).heap.size = w.heap.size + 1 by simp] at h
  exact h
theorem row_n2 (w : World) (o o' : Obj) (t : TypeId) (cs : Array Value) : Row (((w.alloc o).alloc (.cells cs t)).alloc o').drew (w.heap.size + 1) t cs := (Below.heap_alloc ((w.alloc o).alloc (.cells cs t)) _ _ (by simp)).trans (row_n1 w o t cs)
theorem row_n3 (w : World) (o o' : Obj) (t : TypeId) (cs : Array Value) : Row (((w.alloc o).alloc o').alloc (.cells cs t)).drew (w.heap.size + 1 + 1) t cs := by
  have h := row_n1 (w.alloc o) o' t cs
  rw [show (w.alloc o).heap.size = w.heap.size + 1 by simp] at h
  exact h
theorem row_o1 (w : World) (o : Obj) (t : TypeId) (cs : Array Value) : Row ((w.alloc (.cells cs t)).alloc o).drew w.heap.size t cs := (Below.heap_alloc (w.alloc (.cells cs t)) _ _ (by simp)).trans (row_new w t cs)
theorem row_o2 (w : World) (o o' : Obj) (t : TypeId) (cs : Array Value) : Row (((w.alloc (.cells cs t)).alloc o).alloc o').drew w.heap.size t cs := (Below.heap_alloc ((w.alloc (.cells cs t)).alloc o) _ _ (by simp; omega)).trans (row_o1 w o t cs)
/-- Four cells of a row stored one after another. -/
def set4 (w : World) (g : Nat) (a b c d : Value) : World := (((w.setCell ⟨g, 0, none⟩ a).setCell ⟨g, 1, none⟩ b).setCell ⟨g, 2, none⟩ c).setCell ⟨g, 3, none⟩ d
theorem set4_row {w : World} {g : Nat} {t : TypeId} {a b c d : Value} (h : Row w g t #[a, b, c, d]) (a' b' c' d' : Value) : Row (set4 w g a' b' c' d') g t #[a', b', c', d'] := (((h.set 0 a').set 1 b').set 2 c').set 3 d'
theorem set4_far (w : World) {g b : Nat} (a' b' c' d' : Value) (hb : b ≠ g) : (set4 w g a' b' c' d').heap[b]? = w.heap[b]? := by
  unfold set4
  rw [Below.heap_setCell _ _ _ _ hb, Below.heap_setCell _ _ _ _ hb, Below.heap_setCell _ _ _ _ hb, Below.heap_setCell _ _ _ _ hb]
theorem set4_below {B g : Nat} {a w : World} (h : Below B a w) (hg : B ≤ g) (a' b' c' d' : Value) : Below B a (set4 w g a' b' c' d') :=
  (((h.setCell (p := ⟨g, 0, none⟩) hg _).setCell (p := ⟨g, 1, none⟩) hg _).setCell (p := ⟨g, 2, none⟩) hg _).setCell (p := ⟨g, 3, none⟩) hg _
/-- The tile that EmptyConfig makes. -/
abbrev etl : Tl := (0, [15, 15, 15], false, [0, 0, 0, 0, 0, 0, 0, 0])
/-- The blocks of all lists lie below N. -/
def HdsLt (hs : List Value) (N : Nat) : Prop := ∀ u, u ∈ hs → ∀ b, vblk u = some b → b < N
theorem HdsLt.mono {hs : List Value} {N M : Nat} (h : HdsLt hs N) (hm : N ≤ M) : HdsLt hs M := fun u hu b e => Nat.lt_of_lt_of_le (h u hu b e) hm
theorem vblk_sl (g n c : Nat) : ∀ b, vblk (.slice (some ⟨g, 0, none⟩) n c) = some b → b = g := fun b e => by
  cases n with
  | zero => simp [vblk] at e
  | succ n => simp [vblk] at e; exact e.symm
theorem dist_snoc_tl {xs : List Value} {N g1 m1 c1 g2 m2 c2 : Nat} {z : Int} {r : Bool} (h : DistH xs) (hl : HdsLt xs N) (h1 : N ≤ g1) (h2 : N ≤ g2) (hne : g1 ≠ g2) : DistH (xs ++ tlv z (some ⟨g1, 0, none⟩) m1 c1 r (some ⟨g2, 0, none⟩) m2 c2) := by
  refine DistH.append h ?_ ?_
  · intro j k hjk u w hu hw b hb hb'
    match j, k, hjk with
    | 0, _, _ => simp [tlv] at hu; subst hu; simp [vblk] at hb
    | 1, 2, _ => simp [tlv] at hw; subst hw; simp [vblk] at hb'
    | 1, 3, _ => simp [tlv] at hu hw; subst hu hw; exact hne ((vblk_sl _ _ _ _ hb).symm.trans (vblk_sl _ _ _ _ hb'))
    | 2, _, _ => simp [tlv] at hu; subst hu; simp [vblk] at hb
    | 3, k + 4, _ => simp [tlv] at hw
    | 1, k + 4, _ => simp [tlv] at hw
    | j + 4, _, _ => simp [tlv] at hu
  · intro u hu v hv x hx hx'
    have := hl u hu x hx
    simp [tlv] at hv
    rcases hv with rfl | rfl | rfl | rfl
    · simp [vblk] at hx'
    · have := vblk_sl _ _ _ _ hx'; omega
    · simp [vblk] at hx'
    · have := vblk_sl _ _ _ _ hx'; omega
theorem HdsLt.snoc {xs : List Value} {N M g1 m1 c1 g2 m2 c2 : Nat} {z : Int} {r : Bool} (hl : HdsLt xs N) (hm : N ≤ M) (h1 : g1 < M) (h2 : g2 < M) : HdsLt (xs ++ tlv z (some ⟨g1, 0, none⟩) m1 c1 r (some ⟨g2, 0, none⟩) m2 c2) M := fun u hu b e => by
  rcases List.mem_append.1 hu with hu | hu
  · exact hl.mono hm u hu b e
  · simp [tlv] at hu
    rcases hu with rfl | rfl | rfl | rfl
    · simp [vblk] at e
    · rw [vblk_sl _ _ _ _ e]; exact h1
    · simp [vblk] at e
    · rw [vblk_sl _ _ _ _ e]; exact h2
/-- The result cell and the configuration that is being built. -/
structure EBox (w wr : World) (TA : Option Addr) (n tc : Nat) (PA : Option Addr) (m pc : Nat) : Prop where
  r0 : Row wr w.heap.size 26 #[.slice none 0 0, .slice none 0 0]
  r1 : Row wr (w.heap.size + 1) 26 #[.slice TA n tc, .slice PA m pc]
theorem EBox.on {w wr wr' : World} {TA PA : Option Addr} {n tc m pc : Nat} (h : EBox w wr TA n tc PA m pc) (hk : ∀ b, b < w.heap.size + 2 → wr'.heap[b]? = wr.heap[b]?) : EBox w wr' TA n tc PA m pc := ⟨(hk _ (by omega)).trans h.r0, (hk _ (by omega)).trans h.r1⟩
theorem TlAt.set {w : World} {B cap : Nat} {ts : List Tl} {hs : List Value} {A : Option Addr} (h : TlAt w B ts hs A cap) (p : Addr) (hp : p.block < B) (u : Value) : TlAt (w.setCell p u) B ts hs A cap := h.keep (fun b h1 _ => Below.heap_setCell _ _ _ _ (by omega)) (by simp [World.setCell])
theorem PdAt.set {w : World} {B cap : Nat} {ps : List Pd} {A : Option Addr} (h : PdAt w B ps A cap) (p : Addr) (hp : p.block < B) (u : Value) : PdAt (w.setCell p u) B ps A cap := h.keep (fun b h1 _ => Below.heap_setCell _ _ _ _ (by omega))
end Go.Proofs.Ytdadokcodklfgaa
/- The contract of the model's EmptyConfig. -/
namespace Go.Proofs.Ytdadokcodklfgaa
open Go.RowKit Go.Deep

theorem LzAt.set {w : World} {B cap : Nat} {xs : List Int} {A : Option Addr} (h : LzAt w B xs A cap) (p : Addr) (hp : p.block < B) (u : Value) : LzAt (w.setCell p u) B xs A cap := h.keep (fun b h1 _ => Below.heap_setCell _ _ _ _ (by omega))
end Go.Proofs.Ytdadokcodklfgaa
