/- The contracts of the marks: what a law writes into memory to see whether it is shared. -/
import Derived.Test.YthpiddpkcmecfaaB1a
namespace Go.Proofs.Ythpiddpkcmecfaa
open Go.RowKit Go.Deep

/-- Only block g may have changed, and no block is new. -/
structure Only (g : Option Nat) (w w' : World) : Prop where
  grown : w.grownBy w' g
  size : w'.heap.size = w.heap.size
theorem Only.refl (g : Option Nat) (w : World) : Only g w w := ⟨World.grownBy.refl w g, rfl⟩
theorem Only.set {w w' : World} {g : Nat} (h : Only (some g) w w') (j : Nat) (u : Value) : Only (some g) w (w'.setCell ⟨g, j, none⟩ u) :=
  ⟨⟨h.grown.os, h.grown.tape, h.grown.output, by simpa [World.setCell] using h.grown.size, fun k hk hne => (Below.heap_setCell w' ⟨g, j, none⟩ u k (by rintro rfl; exact hne rfl)).trans (h.grown.block k hk hne)⟩, by simpa [World.setCell] using h.size⟩
theorem Only.row {w w' : World} {o : Option Nat} (h : Only o w w') {g : Nat} {t : TypeId} {cs : Array Value} (hr : Row w g t cs) (hne : some g ≠ o) : Row w' g t cs := (h.grown.block g hr.lt hne).trans hr
theorem Only.brow {w w' : World} {o : Option Nat} (h : Only o w w') {g : Nat} {xs : List Bool} (hr : BRow w g xs) (hne : some g ≠ o) : BRow w' g xs := by
  obtain ⟨cs, hr, hf⟩ := hr
  exact ⟨cs, h.row hr hne, hf⟩
theorem Only.below {w w' : World} {o : Option Nat} {B : Nat} (h : Only o w w') (hB : ∀ g, o = some g → B ≤ g) (hs : B ≤ w.heap.size) : Below B w w' :=
  ⟨h.grown.os, h.grown.tape, h.grown.output, h.grown.size, fun k hk => h.grown.block k (by omega) (fun e => by have := hB k e.symm; omega)⟩

def mk3 (k n : Nat) : List Bool := (List.range n).map fun j => decide ((k + j) % 3 = 0)
theorem mk3_len (k n : Nat) : (mk3 k n).length = n := by simp [mk3]
theorem mk3_get (k n j : Nat) (hj : j < n) : (mk3 k n).getD j false = decide ((k + j) % 3 = 0) := by simp [mk3, List.getD_eq_getElem?_getD, hj]

set_option maxHeartbeats 400000 in
theorem markI_row (g n k : Nat) (cs : Array Value) (w : World) (hr : Row w g 3 cs) (hs : cs.size = n) (hn : n ≤ 2000000) (hk : k ≤ 1000000000) :
    Calls Try.prog 75 #[.slice (some ⟨g, 0, none⟩) n n, .int .i64 k] w fun e w' => e = .returned (.int .i64 ((k + n : Nat) : Int)) ∧ Only (some g) w w' := by
  have HR0 := Lib.hid hr
  have HS0 := Lib.hid hs
  clear hr hs
  go_enter Try.func75, Try.ntmps75
  go_wp2
  go_loopw [1, 5] (fun kv iv wr => ∃ (i : Nat) (cs : Array Value), i ≤ n ∧ iv = .int .i64 i ∧ kv = .int .i64 ((k : Int) + i) ∧ Hid (Row wr g 3 cs) ∧ Hid (cs.size = n) ∧ Hid (Only (some g) w wr)) (fun _ iv _ => n - (intOf iv).toNat)
  case atStart => exact ⟨0, cs, Nat.zero_le _, rfl, by simp, HR0, HS0, Lib.hid (Only.refl _ _)⟩
  case round =>
    clear HR0 HS0 cs
    obtain ⟨i, cs, hi, rfl, rfl, HRow, HF, HO⟩ := hrel
    by_cases hlt : i < n
    · have hsz : i < cs.size := by rw [HF.out]; exact hlt
      have hc0 : wr.cell? ⟨g, i, none⟩ = some cs[i] := by rw [HRow.out.cell, Array.getElem?_eq_getElem hsz]
      have hf0 := HRow.out.frozen i
      have HO2 := Lib.hid (HO.out.set i (.int .i64 ((k : Int) + i)))
      have HR2 := Lib.hid (HRow.out.set i (.int .i64 ((k : Int) + i)))
      have HF2 : Hid ((cs.setIfInBounds i (.int .i64 ((k : Int) + i))).size = n) := Lib.hid (by simpa using HF.out)
      generalize cs[i] = old at *
      go_wp2
      go_roundw
      case rel => exact ⟨i + 1, _, by omega, by go_num, by go_num, HR2, HF2, HO2⟩
      case measure => simp [intOf]; omega
    · obtain rfl : i = n := by omega
      go_wp2
      go_ret
      exact ⟨rfl, HO.out⟩

set_option maxHeartbeats 400000 in
theorem markG_row (g n k : Nat) (cs : Array Value) (w : World) (hr : Row w g 46 cs) (hs : cs.size = n * 2) (hn : n ≤ 2000000) (hk : k ≤ 1000000000) :
    Calls Try.prog 76 #[.slice (some ⟨g, 0, none⟩) n n, .int .i64 k] w fun e w' => e = .returned (.int .i64 ((k + 2 * n : Nat) : Int)) ∧ Only (some g) w w' := by
  have HR0 := Lib.hid hr
  have HS0 := Lib.hid hs
  clear hr hs
  go_enter Try.func76, Try.ntmps76
  go_wp2
  go_loopw [1, 5] (fun kv iv wr => ∃ (i : Nat) (cs : Array Value), i ≤ n ∧ iv = .int .i64 i ∧ kv = .int .i64 ((k : Int) + 2 * i) ∧ Hid (Row wr g 46 cs) ∧ Hid (cs.size = n * 2) ∧ Hid (Only (some g) w wr)) (fun _ iv _ => n - (intOf iv).toNat)
  case atStart => exact ⟨0, cs, Nat.zero_le _, rfl, by simp, HR0, HS0, Lib.hid (Only.refl _ _)⟩
  case round =>
    clear HR0 HS0 cs
    obtain ⟨i, cs, hi, rfl, rfl, HRow, HF, HO⟩ := hrel
    by_cases hlt : i < n
    · have hsz : i * 2 + 1 < cs.size := by rw [HF.out]; omega
      have hc0 : wr.cell? ⟨g, i * 2, none⟩ = some (cs[i * 2]'(by omega)) := by rw [HRow.out.cell, Array.getElem?_eq_getElem (by omega)]
      have hc1 : wr.cell? ⟨g, i * 2 + 1, none⟩ = some cs[i * 2 + 1] := by rw [HRow.out.cell, Array.getElem?_eq_getElem hsz]
      have hf0 := HRow.out.frozen (i * 2)
      have hf1 := HRow.out.frozen (i * 2 + 1)
      have HO2 := Lib.hid ((HO.out.set (i * 2) (.int .i64 ((k : Int) + 2 * i))).set (i * 2 + 1) (.int .i64 ((k : Int) + 2 * i + 1)))
      have HR2 := Lib.hid ((HRow.out.set (i * 2) (.int .i64 ((k : Int) + 2 * i))).set (i * 2 + 1) (.int .i64 ((k : Int) + 2 * i + 1)))
      have HF2 : Hid (((cs.setIfInBounds (i * 2) (.int .i64 ((k : Int) + 2 * i))).setIfInBounds (i * 2 + 1) (.int .i64 ((k : Int) + 2 * i + 1))).size = n * 2) := Lib.hid (by simpa using HF.out)
      generalize cs[i * 2]'(by omega) = old0 at *
      generalize cs[i * 2 + 1] = old1 at *
      go_wp2
      go_roundw
      case rel => exact ⟨i + 1, _, by omega, by go_num, by go_num, HR2, HF2, HO2⟩
      case measure => simp [intOf]; omega
    · obtain rfl : i = n := by omega
      go_wp2
      go_ret
      exact ⟨ret_int (by omega), HO.out⟩
end Go.Proofs.Ythpiddpkcmecfaa
