/- The contracts of lists of truth values: copy, comparison, marks. -/
import Derived.Test.YtbhkpjcflghgbaaI
import Derived.Test.YtbhkpjcflghgbaaW5
namespace Go.Proofs.Ytbhkpjcflghgbaa
open Go.RowKit Go.Deep

def BoolsAt (w : World) (B : Nat) (A : Option Addr) (xs : List Bool) : Prop :=
  ∀ k, k < xs.length → ∃ b off, A = some ⟨b, off, none⟩ ∧ b < B ∧ w.cell? ⟨b, off + k, none⟩ = some (.bool (xs.getD k false))
theorem BoolsAt.below {w w' : World} {B : Nat} {A : Option Addr} {xs : List Bool} (h : BoolsAt w B A xs) (hb : Below B w w') : BoolsAt w' B A xs := fun k hk => by
  obtain ⟨b, off, e, hlt, hc⟩ := h k hk
  exact ⟨b, off, e, hlt, (hb.cell (p := ⟨b, off + k, none⟩) hlt).trans hc⟩
theorem BoolsAt.mono {w : World} {B B' : Nat} {A : Option Addr} {xs : List Bool} (h : BoolsAt w B A xs) (hb : B ≤ B') : BoolsAt w B' A xs := fun k hk => by
  obtain ⟨b, off, e, hlt, hc⟩ := h k hk
  exact ⟨b, off, e, by omega, hc⟩
theorem BoolsAt.on {w w' : World} {A : Option Addr} {xs : List Bool} (h : BoolsAt w w.heap.size A xs) (hb : Below w.heap.size w w') : BoolsAt w' w'.heap.size A xs := (h.below hb).mono hb.size
theorem BoolsAt.nil (w : World) (B : Nat) (A : Option Addr) : BoolsAt w B A [] := fun k hk => absurd hk (by simp)

def FilledB (cs : Array Value) (xs : List Bool) (k : Nat) : Prop := cs.size = xs.length ∧ ∀ j, j < k → cs[j]? = some (.bool (xs.getD j false))
theorem FilledB.start {cs : Array Value} {xs : List Bool} (h : cs.size = xs.length) : FilledB cs xs 0 := ⟨h, fun j hj => absurd hj (by omega)⟩
theorem FilledB.step {cs : Array Value} {xs : List Bool} {k : Nat} (h : FilledB cs xs k) (hk : k < xs.length) : FilledB (cs.setIfInBounds k (.bool (xs.getD k false))) xs (k + 1) := by
  refine ⟨by simpa using h.1, fun j hj => ?_⟩
  by_cases e : k = j
  · subst e
    simp [h.1, hk]
  · rw [Array.getElem?_setIfInBounds_ne e]
    exact h.2 j (by omega)
/-- Block g is just these truth values. -/
def BRow (w : World) (g : Nat) (xs : List Bool) : Prop := ∃ cs, Row w g 4 cs ∧ FilledB cs xs xs.length
theorem BRow.lt {w : World} {g : Nat} {xs : List Bool} (h : BRow w g xs) : g < w.heap.size := by
  obtain ⟨cs, hr, hf⟩ := h
  exact hr.lt
theorem BRow.bools {w : World} {g : Nat} {xs : List Bool} (h : BRow w g xs) : BoolsAt w w.heap.size (some ⟨g, 0, none⟩) xs := by
  obtain ⟨cs, hr, hf⟩ := h
  exact fun k hk => ⟨g, 0, rfl, hr.lt, by rw [Nat.zero_add, hr.cell]; exact hf.2 k hk⟩
theorem BRow.below {w w' : World} {B g : Nat} {xs : List Bool} (h : BRow w g xs) (hb : Below B w w') (hg : g < B) : BRow w' g xs := by
  obtain ⟨cs, hr, hf⟩ := h
  exact ⟨cs, hr.below hb hg, hf⟩
theorem BRow.on {w w' : World} {g : Nat} {xs : List Bool} (h : BRow w g xs) (hb : Below w.heap.size w w') : BRow w' g xs := h.below hb h.lt

theorem Try.infoB : (Try.prog.info? 4).map (fun i => (i.zero, i.size, i.bytes)) = some (some (.bool false), 1, 1) := by kernel_rfl

set_option maxHeartbeats 400000 in
theorem toBoolS_any (A : Option Addr) (cap : Nat) (xs : List Bool) (w : World) (hx : BoolsAt w w.heap.size A xs) (hl : xs.length ≤ 2000000) :
    Calls Try.prog 25 #[.slice A xs.length cap] w fun e w' => e = .returned (.slice (some ⟨w.heap.size, 0, none⟩) xs.length xs.length) ∧ Below w.heap.size w w' ∧ BRow w' w.heap.size xs := by
  have HX := Lib.hid hx
  clear hx
  generalize hn : xs.length = n at *
  have HN := Lib.hid hn
  clear hn
  have hmk := fun W => run_make_row' (P := Try.prog) 27 4 (.bool false) 1 Try.underlying27 Try.infoB rfl .i64 .i64 n (by omega) (by omega) W
  go_enter Try.func25, Try.ntmps25
  go_wp2
  clear hmk
  go_loopw [4] (fun iv wr => ∃ (k : Nat) (cs : Array Value), k ≤ n ∧ iv = .int .i64 k ∧ Hid (Row wr w.heap.size 4 cs) ∧ Hid (FilledB cs xs k) ∧ Below w.heap.size w wr) (fun iv _ => n - (intOf iv).toNat)
  case atStart => exact ⟨0, _, Nat.zero_le _, rfl, Lib.hid (heap_alloc_new w _), Lib.hid (FilledB.start (by rw [size_madeCells, HN.out])), (Below.refl _ _).alloc (Nat.le_refl _) _⟩
  case round =>
    obtain ⟨k, cs, hk, rfl, HRow, HF, hbr⟩ := hrel
    by_cases hlt : k < n
    · obtain ⟨b, off, rfl, hbl, hcell⟩ := HX.out k (by rw [HN.out]; exact hlt)
      rw [← hbr.cell (by exact hbl)] at hcell
      have HF2 := Lib.hid (HF.out.step (by rw [HN.out]; exact hlt))
      have hsz : k < cs.size := by rw [HF.out.1, HN.out]; exact hlt
      have hc0 : wr.cell? ⟨w.heap.size, k, none⟩ = some cs[k] := by rw [HRow.out.cell, Array.getElem?_eq_getElem hsz]
      have hf0 := HRow.out.frozen k
      have HB := Lib.hid (hbr.setCell (p := ⟨w.heap.size, k, none⟩) (Nat.le_refl _) (.bool (xs.getD k false)))
      have HR2 := Lib.hid (HRow.out.set k (.bool (xs.getD k false)))
      generalize xs.getD k false = v at *
      generalize cs[k] = old at *
      go_wp2
      go_roundw
      case rel => exact ⟨k + 1, _, by omega, by go_num, HR2, HF2, HB.out⟩
      case measure => simp [intOf]; omega
    · obtain rfl : k = n := by omega
      go_wp2
      go_ret
      exact ⟨rfl, hbr, _, HRow.out, by rw [HN.out]; exact HF.out⟩

set_option maxHeartbeats 400000 in
theorem eqBoolS_any (A A' : Option Addr) (cap cap' : Nat) (xs : List Bool) (w : World) (hx : BoolsAt w w.heap.size A xs) (hy : BoolsAt w w.heap.size A' xs) (hl : xs.length ≤ 2000000) :
    Calls Try.prog 26 #[.slice A xs.length cap, .slice A' xs.length cap'] w fun e w' => e = .returned (.bool true) ∧ Below w.heap.size w w' := by
  have HX := Lib.hid hx
  have HY := Lib.hid hy
  clear hx hy
  generalize hn : xs.length = n at *
  have HN := Lib.hid hn
  clear hn
  go_enter Try.func26, Try.ntmps26
  go_wp2
  go_loopw [5] (fun iv wr => ∃ (k : Nat), k ≤ n ∧ iv = .int .i64 k ∧ Below w.heap.size w wr) (fun iv _ => n - (intOf iv).toNat)
  case atStart => exact ⟨0, Nat.zero_le _, rfl, Below.refl _ _⟩
  case round =>
    obtain ⟨k, hk, rfl, hbr⟩ := hrel
    by_cases hlt : k < n
    · obtain ⟨b, off, rfl, hbl, hcA⟩ := HX.out k (by rw [HN.out]; exact hlt)
      obtain ⟨b', off', rfl, hbl', hcB⟩ := HY.out k (by rw [HN.out]; exact hlt)
      rw [← hbr.cell (by exact hbl)] at hcA
      rw [← hbr.cell (by exact hbl')] at hcB
      generalize xs.getD k false = v at *
      have hk0 : (0 : Int) ≤ (k : Int) := Int.natCast_nonneg _
      have hk1 : (k : Int) < (n : Int) := by omega
      cases v
      all_goals
        go_wp2
        go_quiet (fail)
        go_wp2
        go_roundw
        case rel => exact ⟨k + 1, by omega, by go_num, below_drewN hbr _⟩
        case measure => simp [intOf]; omega
    · go_wp2
      go_ret
      exact ⟨rfl, hbr⟩
end Go.Proofs.Ytbhkpjcflghgbaa
