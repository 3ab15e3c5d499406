/- The contract of the specification's validity test. -/
import Derived.Test.YtdadokcodklfgaaW2
import Derived.Deep.OwnRows
import Derived.Test.YtdadokcodklfgaaK
import Derived.StillTailTactics
namespace Go.Proofs.Ytdadokcodklfgaa
open Go.RowKit

end Go.Proofs.Ytdadokcodklfgaa
/- The contracts of the copies: lists of integers and of gates. -/
namespace Go.Proofs.Ytdadokcodklfgaa
open Go.RowKit Go.Deep

/-- Block g is just the cells cs of element type t, none frozen. -/
def Row (w : World) (g : Nat) (t : TypeId) (cs : Array Value) : Prop := w.heap[g]? = some (.cells cs t (0, 0))
theorem Row.lt {w : World} {g : Nat} {t : TypeId} {cs : Array Value} (h : Row w g t cs) : g < w.heap.size := by
  unfold Row at h
  exact (Array.getElem?_eq_some_iff.1 h).1
theorem Row.cell {w : World} {g : Nat} {t : TypeId} {cs : Array Value} (h : Row w g t cs) (i : Nat) : w.cell? ⟨g, i, none⟩ = cs[i]? := cell_of_row w g i cs t (0, 0) h
theorem Row.frozen {w : World} {g : Nat} {t : TypeId} {cs : Array Value} (h : Row w g t cs) (i : Nat) : w.frozen? ⟨g, i, none⟩ = false := by
  unfold Row at h
  simp [World.frozen?, h]
theorem Row.set {w : World} {g : Nat} {t : TypeId} {cs : Array Value} (h : Row w g t cs) (i : Nat) (u : Value) : Row (w.setCell ⟨g, i, none⟩ u) g t (cs.setIfInBounds i u) := by
  unfold Row at h ⊢
  simp [World.setCell, Array.getElem?_modify, h]
theorem Row.below {w w' : World} {B g : Nat} {t : TypeId} {cs : Array Value} (h : Row w g t cs) (hb : Below B w w') (hg : g < B) : Row w' g t cs := (hb.block g hg).trans h

def FilledI (cs : Array Value) (xs : List Int) (k : Nat) : Prop := cs.size = xs.length ∧ ∀ j, j < k → cs[j]? = some (.int .i64 (xs.getD j 0))
theorem FilledI.start {cs : Array Value} {xs : List Int} (h : cs.size = xs.length) : FilledI cs xs 0 := ⟨h, fun j hj => absurd hj (by omega)⟩
theorem FilledI.step {cs : Array Value} {xs : List Int} {k : Nat} (h : FilledI cs xs k) (hk : k < xs.length) : FilledI (cs.setIfInBounds k (.int .i64 (xs.getD k 0))) xs (k + 1) := by
  refine ⟨by simpa using h.1, fun j hj => ?_⟩
  by_cases e : k = j
  · subst e
    simp [h.1, hk]
  · rw [Array.getElem?_setIfInBounds_ne e]
    exact h.2 j (by omega)
theorem FilledI.ints {w : World} {g : Nat} {t : TypeId} {cs : Array Value} {xs : List Int} (hr : Row w g t cs) (h : FilledI cs xs xs.length) : IntsAt w w.heap.size (some ⟨g, 0, none⟩) xs := fun k hk =>
  ⟨g, 0, rfl, hr.lt, by rw [Nat.zero_add, hr.cell]; exact h.2 k hk⟩

theorem FilledI.ints' {w : World} {g n : Nat} {t : TypeId} {cs : Array Value} {xs : List Int} (h : FilledI cs xs n) (hr : Row w g t cs) (hn : xs.length = n) : IntsAt w w.heap.size (some ⟨g, 0, none⟩) xs := by
  subst hn
  exact FilledI.ints hr h

/-- Block g is just these integers. -/
def IRow (w : World) (g : Nat) (xs : List Int) : Prop := ∃ cs, Row w g 3 cs ∧ FilledI cs xs xs.length
theorem IRow.ints {w : World} {g : Nat} {xs : List Int} (h : IRow w g xs) : IntsAt w w.heap.size (some ⟨g, 0, none⟩) xs := by
  obtain ⟨cs, hr, hf⟩ := h
  exact hf.ints' hr rfl
theorem IRow.below {w w' : World} {B g : Nat} {xs : List Int} (h : IRow w g xs) (hb : Below B w w') (hg : g < B) : IRow w' g xs := by
  obtain ⟨cs, hr, hf⟩ := h
  exact ⟨cs, hr.below hb hg, hf⟩
theorem IRow.lt {w : World} {g : Nat} {xs : List Int} (h : IRow w g xs) : g < w.heap.size := by
  obtain ⟨cs, hr, hf⟩ := h
  exact hr.lt

theorem Try.info3 : (Try.prog.info? 3).map (fun i => (i.zero, i.size, i.bytes)) = some (some (.int .i64 0), 1, 8) := by kernel_rfl

set_option maxHeartbeats 400000 in
theorem toIntS_row (A : Option Addr) (cap : Nat) (xs : List Int) (w : World) (hx : IntsAt w w.heap.size A xs) (hl : xs.length ≤ 2000000) :
    Calls Try.prog 138 #[.slice A xs.length cap] w fun e w' => e = .returned (.slice (some ⟨w.heap.size, 0, none⟩) xs.length xs.length) ∧ Below w.heap.size w w' ∧ IRow w' w.heap.size xs := by
  have HX := Lib.hid hx
  clear hx
  generalize hn : xs.length = n at *
  have HN := Lib.hid hn
  clear hn
  have hmk := fun W => run_make_row' (P := Try.prog) 31 3 (.int .i64 0) 8 Try.underlying31 Try.info3 rfl .i64 .i64 n (by omega) (by omega) W
  go_enter Try.func138, Try.ntmps138
  go_wp2
  clear hmk
  go_loopw [4] (fun iv wr => ∃ (k : Nat) (cs : Array Value), k ≤ n ∧ iv = .int .i64 k ∧ Hid (Row wr w.heap.size 3 cs) ∧ Hid (FilledI cs xs k) ∧ Below w.heap.size w wr) (fun iv _ => n - (intOf iv).toNat)
  case atStart => exact ⟨0, _, Nat.zero_le _, rfl, Lib.hid (heap_alloc_new w _), Lib.hid (FilledI.start (by rw [size_madeCells, HN.out])), (Below.refl _ _).alloc (Nat.le_refl _) _⟩
  case round =>
    obtain ⟨k, cs, hk, rfl, HRow, HF, hbr⟩ := hrel
    by_cases hlt : k < n
    · obtain ⟨b, off, rfl, hbl, hcell⟩ := HX.out k (by rw [HN.out]; exact hlt)
      rw [← hbr.cell (by exact hbl)] at hcell
      have HF2 := Lib.hid (HF.out.step (by rw [HN.out]; exact hlt))
      have hsz : k < cs.size := by rw [HF.out.1, HN.out]; exact hlt
      have hc0 : wr.cell? ⟨w.heap.size, k, none⟩ = some cs[k] := by rw [HRow.out.cell, Array.getElem?_eq_getElem hsz]
      have hf0 := HRow.out.frozen k
      have HB := Lib.hid (hbr.setCell (p := ⟨w.heap.size, k, none⟩) (Nat.le_refl _) (.int .i64 (xs.getD k 0)))
      have HR2 := Lib.hid (HRow.out.set k (.int .i64 (xs.getD k 0)))
      generalize xs.getD k 0 = v at *
      generalize cs[k] = old at *
      go_wp2
      go_roundw
      case rel => exact ⟨k + 1, _, by omega, by go_num, HR2, HF2, HB.out⟩
      case measure => simp [intOf]; omega
    · obtain rfl : k = n := by omega
      go_wp2
      go_ret
      exact ⟨rfl, hbr, _, HRow.out, by rw [HN.out]; exact HF.out⟩

def FilledG (cs : Array Value) (gs : List (Int × Int)) (k : Nat) : Prop :=
  cs.size = gs.length * 2 ∧ ∀ j, j < k → cs[j * 2]? = some (.int .i64 (gs.getD j (0, 0)).1) ∧ cs[j * 2 + 1]? = some (.int .i64 (gs.getD j (0, 0)).2)
theorem FilledG.start {cs : Array Value} {gs : List (Int × Int)} (h : cs.size = gs.length * 2) : FilledG cs gs 0 := ⟨h, fun j hj => absurd hj (by omega)⟩
theorem FilledG.step {cs : Array Value} {gs : List (Int × Int)} {k : Nat} (h : FilledG cs gs k) (hk : k < gs.length) :
    FilledG ((cs.setIfInBounds (k * 2) (.int .i64 (gs.getD k (0, 0)).1)).setIfInBounds (k * 2 + 1) (.int .i64 (gs.getD k (0, 0)).2)) gs (k + 1) := by
  have hs := h.1
  refine ⟨by simpa using h.1, fun j hj => ?_⟩
  by_cases e : k = j
  · subst e
    constructor
    · rw [Array.getElem?_setIfInBounds_ne (by omega), Array.getElem?_setIfInBounds_self_of_lt (by omega)]
    · rw [Array.getElem?_setIfInBounds_self_of_lt (by simp; omega)]
  · have := h.2 j (by omega)
    constructor
    · rw [Array.getElem?_setIfInBounds_ne (by omega), Array.getElem?_setIfInBounds_ne (by omega)]; exact this.1
    · rw [Array.getElem?_setIfInBounds_ne (by omega), Array.getElem?_setIfInBounds_ne (by omega)]; exact this.2
theorem FilledG.gates {w : World} {g n : Nat} {t : TypeId} {cs : Array Value} {gs : List (Int × Int)} (h : FilledG cs gs n) (hr : Row w g t cs) (hn : gs.length = n) : GatesAt w w.heap.size (some ⟨g, 0, none⟩) gs := by
  subst hn
  intro k hk
  exact ⟨g, 0, rfl, hr.lt, by rw [Nat.zero_add, hr.cell]; exact (h.2 k hk).1, by rw [Nat.zero_add, hr.cell]; exact (h.2 k hk).2⟩

/-- Block g is just these gates. -/
def GRow (w : World) (g : Nat) (gs : List (Int × Int)) : Prop := ∃ cs, Row w g 174 cs ∧ FilledG cs gs gs.length
theorem GRow.gates {w : World} {g : Nat} {xs : List (Int × Int)} (h : GRow w g xs) : GatesAt w w.heap.size (some ⟨g, 0, none⟩) xs := by
  obtain ⟨cs, hr, hf⟩ := h
  exact hf.gates hr rfl
theorem GRow.below {w w' : World} {B g : Nat} {xs : List (Int × Int)} (h : GRow w g xs) (hb : Below B w w') (hg : g < B) : GRow w' g xs := by
  obtain ⟨cs, hr, hf⟩ := h
  exact ⟨cs, hr.below hb hg, hf⟩
theorem GRow.lt {w : World} {g : Nat} {xs : List (Int × Int)} (h : GRow w g xs) : g < w.heap.size := by
  obtain ⟨cs, hr, hf⟩ := h
  exact hr.lt

end Go.Proofs.Ytdadokcodklfgaa
/- Small facts: cells that make lays, and integer rows of the call's own. -/
namespace Go.Proofs.Ytdadokcodklfgaa
open Go.RowKit Go.Deep

theorem made_int (n j : Nat) (hj : j < n) : (madeCells #[.int .i64 0] n)[j]? = some (.int .i64 0) := by
  simp [madeCells, hj, Nat.mod_one]
theorem FilledI.made {L : List Int} {n f : Nat} (hl : L.length = n) (hf : f ≤ n) (h0 : ∀ j, j < f → L.getD j 0 = 0) : FilledI (madeCells #[.int .i64 0] n) L f :=
  ⟨by rw [size_madeCells, hl], fun j hj => by rw [made_int n j (by omega), h0 j hj]⟩

def ivs (xs : List Int) : List Value := xs.map (Value.int .i64)
theorem ivs_get {xs : List Int} {k : Nat} (hk : k < xs.length) : (ivs xs)[k]? = some (.int .i64 (xs.getD k 0)) := by
  simp [ivs, List.getD_eq_getElem?_getD, hk]
theorem own_ints {w : World} {base g n cap : Nat} {xs : List Int} (h : w.ownsRow base 3 1 (.slice (some ⟨g, 0, none⟩) n cap) n (ivs xs)) (hn : xs.length = n) : IntsAt w w.heap.size (some ⟨g, 0, none⟩) xs := fun k hk => by
  refine ⟨g, 0, rfl, (h.lt g rfl).2, ?_⟩
  rw [Nat.zero_add, h.cellAt k (by omega)]
  exact ivs_get hk
theorem Row.grown {w w' : World} {row : Option Nat} {g : Nat} {t : TypeId} {cs : Array Value} (h : Row w g t cs) (hb : w.grownBy w' row) (hg : some g ≠ row) : Row w' g t cs := (hb.block g h.lt hg).trans h

end Go.Proofs.Ytdadokcodklfgaa
