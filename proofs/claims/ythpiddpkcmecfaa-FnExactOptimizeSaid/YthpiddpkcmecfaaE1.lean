/- The marks on an optimized circuit: what they leave there, and that it is found again. -/
import Derived.Test.YthpiddpkcmecfaaT7
namespace Go.Proofs.Ythpiddpkcmecfaa
open Go.RowKit Go.Deep
set_option maxRecDepth 100000

def mkI (k n : Nat) : List Int := (List.range n).map fun j => ((k + j : Nat) : Int)
theorem mkI_len (k n : Nat) : (mkI k n).length = n := by simp [mkI]
theorem mkI_get (k n j : Nat) (hj : j < n) : (mkI k n).getD j 0 = ((k + j : Nat) : Int) := by simp [mkI, List.getD_eq_getElem?_getD, hj]

set_option maxHeartbeats 400000 in
theorem markI_vals (g n k : Nat) (cs : Array Value) (w : World) (hr : Row w g 3 cs) (hs : cs.size = n) (hn : n ≤ 2000000) (hk : k ≤ 1000000000) :
    Calls Try.prog 75 #[.slice (some ⟨g, 0, none⟩) n n, .int .i64 k] w fun e w' => e = .returned (.int .i64 ((k + n : Nat) : Int)) ∧ IRow w' g (mkI k n) ∧ Only (some g) w w' := by
  have HR0 := Lib.hid hr
  have HS0 := Lib.hid hs
  clear hr hs
  go_enter Try.func75, Try.ntmps75
  go_wp2
  go_loopw [1, 5] (fun kv iv wr => ∃ (i : Nat) (cs : Array Value), i ≤ n ∧ iv = .int .i64 i ∧ kv = .int .i64 ((k : Int) + i) ∧ Hid (Row wr g 3 cs) ∧ Hid (FilledI cs (mkI k n) i) ∧ Hid (Only (some g) w wr)) (fun _ iv _ => n - (intOf iv).toNat)
  case atStart => exact ⟨0, cs, Nat.zero_le _, rfl, by simp, HR0, Lib.hid (FilledI.start (by rw [HS0.out, mkI_len])), Lib.hid (Only.refl _ _)⟩
  case round =>
    clear HR0 HS0 cs
    obtain ⟨i, cs, hi, rfl, rfl, HRow, HF, HO⟩ := hrel
    by_cases hlt : i < n
    · have hsz : i < cs.size := by rw [HF.out.1, mkI_len]; exact hlt
      have HF2 := Lib.hid (HF.out.step (by rw [mkI_len]; exact hlt))
      have hv : (mkI k n).getD i 0 = (k : Int) + i := by rw [mkI_get k n i hlt]; omega
      rw [hv] at HF2
      have hc0 : wr.cell? ⟨g, i, none⟩ = some cs[i] := by rw [HRow.out.cell, Array.getElem?_eq_getElem hsz]
      have hf0 := HRow.out.frozen i
      have HO2 := Lib.hid (HO.out.set i (.int .i64 ((k : Int) + i)))
      have HR2 := Lib.hid (HRow.out.set i (.int .i64 ((k : Int) + i)))
      clear hv
      generalize cs[i] = old at *
      go_wp2
      go_roundw
      case rel => exact ⟨i + 1, _, by omega, by go_num, by go_num, HR2, HF2, HO2⟩
      case measure => simp [intOf]; omega
    · obtain rfl : i = n := by omega
      go_wp2
      go_ret
      exact ⟨rfl, ⟨_, HRow.out, by rw [mkI_len]; exact HF.out⟩, HO.out⟩

set_option maxHeartbeats 400000 in
theorem heldI_row (g n k : Nat) (w : World) (hr : IRow w g (mkI k n)) (hn : n ≤ 2000000) (hk : k ≤ 1000000000) :
    Calls Try.prog 77 #[.slice (some ⟨g, 0, none⟩) n n, .int .i64 k] w fun e w' => e = .returned (.int .i64 ((k + n : Nat) : Int)) ∧ w = w' := by
  have HR0 := Lib.hid hr.ints
  clear hr
  go_enter Try.func77, Try.ntmps77
  go_wp2
  go_loop [1, 5] (fun kv iv => ∃ (i : Nat), i ≤ n ∧ iv = .int .i64 i ∧ kv = .int .i64 ((k : Int) + i)) (fun _ iv => n - (intOf iv).toNat)
  case atStart => exact ⟨0, Nat.zero_le _, rfl, by simp⟩
  case round =>
    obtain ⟨i, hi, rfl, rfl⟩ := hrel
    by_cases hlt : i < n
    · obtain ⟨b, off, he, hb, hc⟩ := HR0.out i (by rw [mkI_len]; exact hlt)
      injection he with he
      injection he with e1 e2
      subst e1 e2
      rw [mkI_get k n i hlt, Nat.zero_add] at hc
      have e3 : ((k + i : Nat) : Int) = (k : Int) + i := by omega
      rw [e3] at hc
      clear e3
      go_wp2
      go_round
      case rel => exact ⟨i + 1, by omega, by go_num, by go_num⟩
      case measure => simp [intOf]; omega
    · obtain rfl : i = n := by omega
      go_wp2
      go_ret
      exact ⟨rfl, rfl⟩

/-- The first n gates of block g hold marks from k on. -/
def GMarks (cs : Array Value) (k n : Nat) : Prop := ∀ j, j < n → cs[j * 2]? = some (.int .i64 ((k : Int) + 2 * j)) ∧ cs[j * 2 + 1]? = some (.int .i64 ((k : Int) + 2 * j + 1))
theorem GMarks.step {cs : Array Value} {k i : Nat} (h : GMarks cs k i) (hs : i * 2 + 1 < cs.size) : GMarks ((cs.setIfInBounds (i * 2) (.int .i64 ((k : Int) + 2 * i))).setIfInBounds (i * 2 + 1) (.int .i64 ((k : Int) + 2 * i + 1))) k (i + 1) := fun j hj => by
  by_cases e : i = j
  · subst e
    constructor
    · rw [Array.getElem?_setIfInBounds_ne (by omega), Array.getElem?_setIfInBounds_self_of_lt (by omega)]
    · rw [Array.getElem?_setIfInBounds_self_of_lt (by simp; omega)]
  · have := h j (by omega)
    constructor
    · rw [Array.getElem?_setIfInBounds_ne (by omega), Array.getElem?_setIfInBounds_ne (by omega)]; exact this.1
    · rw [Array.getElem?_setIfInBounds_ne (by omega), Array.getElem?_setIfInBounds_ne (by omega)]; exact this.2
def GMRow (w : World) (g k n : Nat) : Prop := ∃ cs, Row w g 46 cs ∧ GMarks cs k n

set_option maxHeartbeats 400000 in
theorem markG_vals (g n cap k : Nat) (cs : Array Value) (w : World) (hr : Row w g 46 cs) (hs : n * 2 ≤ cs.size) (hn : n ≤ 2000000) (hk : k ≤ 1000000000) :
    Calls Try.prog 76 #[.slice (some ⟨g, 0, none⟩) n cap, .int .i64 k] w fun e w' => e = .returned (.int .i64 ((k + 2 * n : Nat) : Int)) ∧ GMRow w' g k n ∧ Only (some g) w w' := by
  have HR0 := Lib.hid hr
  have HS0 := Lib.hid hs
  clear hr hs
  go_enter Try.func76, Try.ntmps76
  go_wp2
  go_loopw [1, 5] (fun kv iv wr => ∃ (i : Nat) (cs : Array Value), i ≤ n ∧ iv = .int .i64 i ∧ kv = .int .i64 ((k : Int) + 2 * i) ∧ Hid (Row wr g 46 cs) ∧ Hid (n * 2 ≤ cs.size) ∧ Hid (GMarks cs k i) ∧ Hid (Only (some g) w wr)) (fun _ iv _ => n - (intOf iv).toNat)
  case atStart => exact ⟨0, cs, Nat.zero_le _, rfl, by simp, HR0, HS0, Lib.hid (fun j hj => absurd hj (by omega)), Lib.hid (Only.refl _ _)⟩
  case round =>
    clear HR0 HS0 cs
    obtain ⟨i, cs, hi, rfl, rfl, HRow, HF, HM, HO⟩ := hrel
    by_cases hlt : i < n
    · have hsz : i * 2 + 1 < cs.size := by have := HF.out; omega
      have hc0 : wr.cell? ⟨g, i * 2, none⟩ = some (cs[i * 2]'(by omega)) := by rw [HRow.out.cell, Array.getElem?_eq_getElem (by omega)]
      have hc1 : wr.cell? ⟨g, i * 2 + 1, none⟩ = some cs[i * 2 + 1] := by rw [HRow.out.cell, Array.getElem?_eq_getElem hsz]
      have hf0 := HRow.out.frozen (i * 2)
      have hf1 := HRow.out.frozen (i * 2 + 1)
      have HM2 := Lib.hid (HM.out.step hsz)
      have HO2 := Lib.hid ((HO.out.set (i * 2) (.int .i64 ((k : Int) + 2 * i))).set (i * 2 + 1) (.int .i64 ((k : Int) + 2 * i + 1)))
      have HR2 := Lib.hid ((HRow.out.set (i * 2) (.int .i64 ((k : Int) + 2 * i))).set (i * 2 + 1) (.int .i64 ((k : Int) + 2 * i + 1)))
      have HF2 : Hid (n * 2 ≤ ((cs.setIfInBounds (i * 2) (.int .i64 ((k : Int) + 2 * i))).setIfInBounds (i * 2 + 1) (.int .i64 ((k : Int) + 2 * i + 1))).size) := Lib.hid (by simpa using HF.out)
      generalize cs[i * 2]'(by omega) = old0 at *
      generalize cs[i * 2 + 1] = old1 at *
      go_wp2
      go_roundw
      case rel => exact ⟨i + 1, _, by omega, by go_num, by go_num, HR2, HF2, HM2, HO2⟩
      case measure => simp [intOf]; omega
    · obtain rfl : i = n := by omega
      go_wp2
      go_ret
      exact ⟨ret_int (by omega), ⟨_, HRow.out, HM.out⟩, HO.out⟩

set_option maxHeartbeats 400000 in
theorem heldG_row (g n cap k : Nat) (w : World) (hr : GMRow w g k n) (hn : n ≤ 2000000) (hk : k ≤ 1000000000) :
    Calls Try.prog 78 #[.slice (some ⟨g, 0, none⟩) n cap, .int .i64 k] w fun e w' => e = .returned (.int .i64 ((k + 2 * n : Nat) : Int)) ∧ w = w' := by
  obtain ⟨cs, hr, hm⟩ := hr
  have HR0 := Lib.hid hr
  have HM := Lib.hid hm
  clear hr hm
  go_enter Try.func78, Try.ntmps78
  go_wp2
  go_loop [1, 5] (fun kv iv => ∃ (i : Nat), i ≤ n ∧ iv = .int .i64 i ∧ kv = .int .i64 ((k : Int) + 2 * i)) (fun _ iv => n - (intOf iv).toNat)
  case atStart => exact ⟨0, Nat.zero_le _, rfl, by simp⟩
  case round =>
    obtain ⟨i, hi, rfl, rfl⟩ := hrel
    by_cases hlt : i < n
    · have hc0 : w.cell? ⟨g, i * 2, none⟩ = some (.int .i64 ((k : Int) + 2 * i)) := by rw [HR0.out.cell]; exact (HM.out i hlt).1
      have hc1 : w.cell? ⟨g, i * 2 + 1, none⟩ = some (.int .i64 ((k : Int) + 2 * i + 1)) := by rw [HR0.out.cell]; exact (HM.out i hlt).2
      go_wp2
      go_round
      case rel => exact ⟨i + 1, by omega, by go_num, by go_num⟩
      case measure => simp [intOf]; omega
    · obtain rfl : i = n := by omega
      go_wp2
      go_ret
      exact ⟨ret_int (by omega), rfl⟩

set_option maxHeartbeats 400000 in
theorem markG_nil (k : Int) (w : World) :
    Calls Try.prog 76 #[.slice none 0 0, .int .i64 k] w fun e w' => e = .returned (.int .i64 k) ∧ w = w' := by
  go_enter Try.func76, Try.ntmps76
  go_wp2
  go_loop [1, 5] (fun kv iv => iv = .int .i64 0 ∧ kv = .int .i64 k) (fun _ _ => 0)
  case atStart => exact ⟨rfl, rfl⟩
  case round =>
    obtain ⟨rfl, rfl⟩ := hrel
    go_wp2
    go_ret
    exact ⟨rfl, rfl⟩
set_option maxHeartbeats 400000 in
theorem heldG_nil (k : Int) (w : World) :
    Calls Try.prog 78 #[.slice none 0 0, .int .i64 k] w fun e w' => e = .returned (.int .i64 k) ∧ w = w' := by
  go_enter Try.func78, Try.ntmps78
  go_wp2
  go_loop [1, 5] (fun kv iv => iv = .int .i64 0 ∧ kv = .int .i64 k) (fun _ _ => 0)
  case atStart => exact ⟨rfl, rfl⟩
  case round =>
    obtain ⟨rfl, rfl⟩ := hrel
    go_wp2
    go_ret
    exact ⟨rfl, rfl⟩
end Go.Proofs.Ythpiddpkcmecfaa
