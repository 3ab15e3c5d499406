/- Lists of truth values in memory. -/
import Derived.Test.YtdadokcodklfgaaW3
import Derived.Test.YtdadokcodklfgaaW5
import Derived.Test.YtdadokcodklfgaaQA
import Derived.Laws.BitsAllLaws
namespace Go.Proofs.Ytdadokcodklfgaa
open Go.RowKit Go.Deep

def BoolsAt (w : World) (B : Nat) (A : Option Addr) (xs : List Bool) : Prop :=
  ∀ k, k < xs.length → ∃ b off, A = some ⟨b, off, none⟩ ∧ b < B ∧ w.cell? ⟨b, off + k, none⟩ = some (.bool (xs.getD k false))
theorem BoolsAt.below {w w' : World} {B : Nat} {A : Option Addr} {xs : List Bool} (h : BoolsAt w B A xs) (hb : Below B w w') : BoolsAt w' B A xs := fun k hk => by
  obtain ⟨b, off, e, hlt, hc⟩ := h k hk
  exact ⟨b, off, e, hlt, (hb.cell (p := ⟨b, off + k, none⟩) hlt).trans hc⟩
theorem BoolsAt.mono {w : World} {B B' : Nat} {A : Option Addr} {xs : List Bool} (h : BoolsAt w B A xs) (hb : B ≤ B') : BoolsAt w B' A xs := fun k hk => by
  obtain ⟨b, off, e, hlt, hc⟩ := h k hk
  exact ⟨b, off, e, by omega, hc⟩
theorem BoolsAt.on {w w' : World} {A : Option Addr} {xs : List Bool} (h : BoolsAt w w.heap.size A xs) (hb : Below w.heap.size w w') : BoolsAt w' w'.heap.size A xs := (h.below hb).mono hb.size
theorem BoolsAt.nil (w : World) (B : Nat) (A : Option Addr) : BoolsAt w B A [] := fun k hk => absurd hk (by simp)

def FilledB (cs : Array Value) (xs : List Bool) (k : Nat) : Prop := cs.size = xs.length ∧ ∀ j, j < k → cs[j]? = some (.bool (xs.getD j false))
theorem FilledB.start {cs : Array Value} {xs : List Bool} (h : cs.size = xs.length) : FilledB cs xs 0 := ⟨h, fun j hj => absurd hj (by omega)⟩
theorem FilledB.step {cs : Array Value} {xs : List Bool} {k : Nat} (h : FilledB cs xs k) (hk : k < xs.length) : FilledB (cs.setIfInBounds k (.bool (xs.getD k false))) xs (k + 1) := by
  refine ⟨by simpa using h.1, fun j hj => ?_⟩
  by_cases e : k = j
  · subst e
    simp [h.1, hk]
  · rw [Array.getElem?_setIfInBounds_ne e]
    exact h.2 j (by omega)
/-- Block g is just these truth values. -/
def BRow (w : World) (g : Nat) (xs : List Bool) : Prop := ∃ cs, Row w g 4 cs ∧ FilledB cs xs xs.length
theorem BRow.lt {w : World} {g : Nat} {xs : List Bool} (h : BRow w g xs) : g < w.heap.size := by
  obtain ⟨cs, hr, hf⟩ := h
  exact hr.lt
theorem BRow.bools {w : World} {g : Nat} {xs : List Bool} (h : BRow w g xs) : BoolsAt w w.heap.size (some ⟨g, 0, none⟩) xs := by
  obtain ⟨cs, hr, hf⟩ := h
  exact fun k hk => ⟨g, 0, rfl, hr.lt, by rw [Nat.zero_add, hr.cell]; exact hf.2 k hk⟩
theorem BRow.below {w w' : World} {B g : Nat} {xs : List Bool} (h : BRow w g xs) (hb : Below B w w') (hg : g < B) : BRow w' g xs := by
  obtain ⟨cs, hr, hf⟩ := h
  exact ⟨cs, hr.below hb hg, hf⟩
theorem BRow.on {w w' : World} {g : Nat} {xs : List Bool} (h : BRow w g xs) (hb : Below w.heap.size w w') : BRow w' g xs := h.below hb h.lt

theorem Try.infoB : (Try.prog.info? 4).map (fun i => (i.zero, i.size, i.bytes)) = some (some (.bool false), 1, 1) := by kernel_rfl

end Go.Proofs.Ytdadokcodklfgaa
/- The contracts of the marks: what a law writes into memory to see whether it is shared. -/
namespace Go.Proofs.Ytdadokcodklfgaa
open Go.RowKit Go.Deep

/-- Only block g may have changed, and no block is new. -/
structure Only (g : Option Nat) (w w' : World) : Prop where
  grown : w.grownBy w' g
  size : w'.heap.size = w.heap.size
theorem Only.refl (g : Option Nat) (w : World) : Only g w w := ⟨World.grownBy.refl w g, rfl⟩
theorem Only.set {w w' : World} {g : Nat} (h : Only (some g) w w') (j : Nat) (u : Value) : Only (some g) w (w'.setCell ⟨g, j, none⟩ u) :=
  ⟨⟨h.grown.os, h.grown.tape, h.grown.output, by simpa [World.setCell] using h.grown.size, fun k hk hne => (Below.heap_setCell w' ⟨g, j, none⟩ u k (by rintro rfl; exact hne rfl)).trans (h.grown.block k hk hne)⟩, by simpa [World.setCell] using h.size⟩
theorem Only.row {w w' : World} {o : Option Nat} (h : Only o w w') {g : Nat} {t : TypeId} {cs : Array Value} (hr : Row w g t cs) (hne : some g ≠ o) : Row w' g t cs := (h.grown.block g hr.lt hne).trans hr
theorem Only.brow {w w' : World} {o : Option Nat} (h : Only o w w') {g : Nat} {xs : List Bool} (hr : BRow w g xs) (hne : some g ≠ o) : BRow w' g xs := by
  obtain ⟨cs, hr, hf⟩ := hr
  exact ⟨cs, h.row hr hne, hf⟩
theorem Only.below {w w' : World} {o : Option Nat} {B : Nat} (h : Only o w w') (hB : ∀ g, o = some g → B ≤ g) (hs : B ≤ w.heap.size) : Below B w w' :=
  ⟨h.grown.os, h.grown.tape, h.grown.output, h.grown.size, fun k hk => h.grown.block k (by omega) (fun e => by have := hB k e.symm; omega)⟩

def mk3 (k n : Nat) : List Bool := (List.range n).map fun j => decide ((k + j) % 3 = 0)
theorem mk3_len (k n : Nat) : (mk3 k n).length = n := by simp [mk3]
theorem mk3_get (k n j : Nat) (hj : j < n) : (mk3 k n).getD j false = decide ((k + j) % 3 = 0) := by simp [mk3, List.getD_eq_getElem?_getD, hj]

end Go.Proofs.Ytdadokcodklfgaa
/- The contracts of the bit set. -/
namespace Go.Proofs.Ytdadokcodklfgaa
open Go.RowKit Go.Deep

theorem i64_odd (n : Nat) (hn : n < 9223372036854775808) : bits .and .i64 (n : Int) 1 = ((n % 2 : Nat) : Int) := by
  have h1 : (BitVec.ofInt 64 (n : Int)).toNat = n := by
    rw [BitVec.ofInt_natCast, BitVec.toNat_ofNat]; exact Nat.mod_eq_of_lt (by omega)
  show IntKind.i64.wrap ((BitVec.ofInt 64 (n : Int) &&& BitVec.ofInt 64 ((1 : Nat) : Int)).toNat : Int) = _
  have h2 : (BitVec.ofInt 64 ((1 : Nat) : Int)).toNat = 1 := by rfl
  rw [BitVec.toNat_and, h1, h2, Nat.and_one_is_mod, IntKind.wrap_i64]
  omega

end Go.Proofs.Ytdadokcodklfgaa
/- The marks on a circuit; what they leave alone. -/
namespace Go.Proofs.Ytdadokcodklfgaa
open Go.RowKit Go.Deep

/-- Outside the blocks from lo to hi nothing has changed. -/
structure Mid (lo hi : Nat) (w w' : World) : Prop where
  os : w'.os = w.os
  tape : w'.tape = w.tape
  output : w'.output = w.output
  size : w.heap.size ≤ w'.heap.size
  block : ∀ k, k < w.heap.size → (k < lo ∨ hi ≤ k) → w'.heap[k]? = w.heap[k]?
theorem Mid.trans {lo hi : Nat} {a b c : World} (h : Mid lo hi a b) (k : Mid lo hi b c) : Mid lo hi a c :=
  ⟨k.os.trans h.os, k.tape.trans h.tape, k.output.trans h.output, Nat.le_trans h.size k.size, fun i hi hb => (k.block i (Nat.lt_of_lt_of_le hi h.size) hb).trans (h.block i hi hb)⟩
theorem Below.mid {w w' : World} {B : Nat} (h : Below B w w') (hB : w.heap.size ≤ B) (lo hi : Nat) : Mid lo hi w w' :=
  ⟨h.os, h.tape, h.output, h.size, fun k hk _ => h.block k (by omega)⟩
theorem Only.mid {w w' : World} {g lo hi : Nat} (h : Only (some g) w w') (h1 : lo ≤ g) (h2 : g < hi) : Mid lo hi w w' :=
  ⟨h.grown.os, h.grown.tape, h.grown.output, h.grown.size, fun k hk hb => h.grown.block k hk (by intro e; injection e; omega)⟩
theorem Mid.below {lo hi : Nat} {w w' : World} (h : Mid lo hi w w') (hs : lo ≤ w.heap.size) : Below lo w w' :=
  ⟨h.os, h.tape, h.output, h.size, fun k hk => h.block k (by omega) (.inl hk)⟩
theorem Mid.row {lo hi : Nat} {w w' : World} (h : Mid lo hi w w') {g : Nat} {t : TypeId} {cs : Array Value} (hr : Row w g t cs) (hg : g < lo ∨ hi ≤ g) : Row w' g t cs := (h.block g hr.lt hg).trans hr
theorem Mid.brow {lo hi : Nat} {w w' : World} (h : Mid lo hi w w') {g : Nat} {xs : List Bool} (hr : BRow w g xs) (hg : g < lo ∨ hi ≤ g) : BRow w' g xs := by
  obtain ⟨cs, hr, hf⟩ := hr
  exact ⟨cs, h.row hr hg, hf⟩
theorem Mid.bools {lo hi B : Nat} {w w' : World} (h : Mid lo hi w w') {A : Option Addr} {xs : List Bool} (hr : BoolsAt w B A xs) (hB : B ≤ lo) (hs : lo ≤ w.heap.size) : BoolsAt w' B A xs := hr.below ((h.below hs).mono hB)

end Go.Proofs.Ytdadokcodklfgaa
