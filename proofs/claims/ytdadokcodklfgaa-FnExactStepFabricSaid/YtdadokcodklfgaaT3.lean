/- The contracts of the program's literals and renamings. -/
import Derived.Test.YtdadokcodklfgaaB1a
import Derived.Test.YtdadokcodklfgaaQA
import Derived.Deep.RegionLaw
namespace Go.Proofs.Ytdadokcodklfgaa
open Go.RowKit Go.Deep

end Go.Proofs.Ytdadokcodklfgaa
/- The contracts of the pair of operands, and of the variables that are reached. -/
namespace Go.Proofs.Ytdadokcodklfgaa
open Go.RowKit Go.Deep

end Go.Proofs.Ytdadokcodklfgaa
/- The contracts of the variables that are reached. -/
namespace Go.Proofs.Ytdadokcodklfgaa
open Go.RowKit Go.Deep

/-- Integers that do not lie in block g. -/
def IntsNe (w : World) (g : Nat) (A : Option Addr) (xs : List Int) : Prop :=
  ∀ k, k < xs.length → ∃ b off, A = some ⟨b, off, none⟩ ∧ b < w.heap.size ∧ b ≠ g ∧ w.cell? ⟨b, off + k, none⟩ = some (.int .i64 (xs.getD k 0))
theorem IntsAt.ne {w : World} {B g : Nat} {A : Option Addr} {xs : List Int} (h : IntsAt w B A xs) (hg : B ≤ g) (hB : B ≤ w.heap.size) : IntsNe w g A xs := fun k hk => by
  obtain ⟨b, off, e, hlt, hc⟩ := h k hk
  exact ⟨b, off, e, by omega, by omega, hc⟩

/-- The circuit's blocks and the box of the call's argument. -/
structure Boxed (w : World) (H : Nat) (i : Int) (nA gA oA : Option Addr) (nl nc gl gc ol oc : Nat) : Prop where
  c0 : w.cell? ⟨H, 0, none⟩ = some (.int .i64 i)
  c1 : w.cell? ⟨H, 1, none⟩ = some (.slice nA nl nc)
  c2 : w.cell? ⟨H, 2, none⟩ = some (.slice gA gl gc)
  c3 : w.cell? ⟨H, 3, none⟩ = some (.slice oA ol oc)
theorem Boxed.new (w : World) (i : Int) (nA gA oA : Option Addr) (nl nc gl gc ol oc : Nat) (t : TypeId) : Boxed (w.alloc (.cells #[.int .i64 i, .slice nA nl nc, .slice gA gl gc, .slice oA ol oc] t)) w.heap.size i nA gA oA nl nc gl gc ol oc := by
  have h : Row (w.alloc (.cells #[.int .i64 i, .slice nA nl nc, .slice gA gl gc, .slice oA ol oc] t)) w.heap.size t #[.int .i64 i, .slice nA nl nc, .slice gA gl gc, .slice oA ol oc] := heap_alloc_new w _
  exact ⟨h.cell 0, h.cell 1, h.cell 2, h.cell 3⟩
theorem Boxed.below {w w' : World} {B H : Nat} {i : Int} {nA gA oA : Option Addr} {nl nc gl gc ol oc : Nat} (h : Boxed w H i nA gA oA nl nc gl gc ol oc) (hb : Below B w w') (hH : H < B) : Boxed w' H i nA gA oA nl nc gl gc ol oc :=
  ⟨(hb.cell (p := ⟨H, 0, none⟩) hH).trans h.c0, (hb.cell (p := ⟨H, 1, none⟩) hH).trans h.c1, (hb.cell (p := ⟨H, 2, none⟩) hH).trans h.c2, (hb.cell (p := ⟨H, 3, none⟩) hH).trans h.c3⟩

end Go.Proofs.Ytdadokcodklfgaa
