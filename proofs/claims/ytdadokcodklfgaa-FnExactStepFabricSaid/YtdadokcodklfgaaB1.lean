/- The contracts of lists of truth values: copy, comparison. -/
import Derived.Test.YtdadokcodklfgaaB1a
namespace Go.Proofs.Ytdadokcodklfgaa
open Go.RowKit Go.Deep

set_option maxHeartbeats 400000 in
theorem toBoolS_any (A : Option Addr) (cap : Nat) (xs : List Bool) (w : World) (hx : BoolsAt w w.heap.size A xs) (hl : xs.length ≤ 2000000) :
    Calls Try.prog 27 #[.slice A xs.length cap] w fun e w' => e = .returned (.slice (some ⟨w.heap.size, 0, none⟩) xs.length xs.length) ∧ Below w.heap.size w w' ∧ BRow w' w.heap.size xs := by
  have HX := Lib.hid hx
  clear hx
  generalize hn : xs.length = n at *
  have HN := Lib.hid hn
  clear hn
  have hmk := fun W => run_make_row' (P := Try.prog) 45 4 (.bool false) 1 Try.underlying45 Try.infoB rfl .i64 .i64 n (by omega) (by omega) W
  go_enter Try.func27, Try.ntmps27
  go_wp2
  clear hmk
  go_loopw [4] (fun iv wr => ∃ (k : Nat) (cs : Array Value), k ≤ n ∧ iv = .int .i64 k ∧ Hid (Row wr w.heap.size 4 cs) ∧ Hid (FilledB cs xs k) ∧ Below w.heap.size w wr) (fun iv _ => n - (intOf iv).toNat)
  case atStart => exact ⟨0, _, Nat.zero_le _, rfl, Lib.hid (heap_alloc_new w _), Lib.hid (FilledB.start (by rw [size_madeCells, HN.out])), (Below.refl _ _).alloc (Nat.le_refl _) _⟩
  case round =>
    obtain ⟨k, cs, hk, rfl, HRow, HF, hbr⟩ := hrel
    by_cases hlt : k < n
    · obtain ⟨b, off, rfl, hbl, hcell⟩ := HX.out k (by rw [HN.out]; exact hlt)
      rw [← hbr.cell (by exact hbl)] at hcell
      have HF2 := Lib.hid (HF.out.step (by rw [HN.out]; exact hlt))
      have hsz : k < cs.size := by rw [HF.out.1, HN.out]; exact hlt
      have hc0 : wr.cell? ⟨w.heap.size, k, none⟩ = some cs[k] := by rw [HRow.out.cell, Array.getElem?_eq_getElem hsz]
      have hf0 := HRow.out.frozen k
      have HB := Lib.hid (hbr.setCell (p := ⟨w.heap.size, k, none⟩) (Nat.le_refl _) (.bool (xs.getD k false)))
      have HR2 := Lib.hid (HRow.out.set k (.bool (xs.getD k false)))
      generalize xs.getD k false = v at *
      generalize cs[k] = old at *
      go_wp2
      go_roundw
      case rel => exact ⟨k + 1, _, by omega, by go_num, HR2, HF2, HB.out⟩
      case measure => simp [intOf]; omega
    · obtain rfl : k = n := by omega
      go_wp2
      go_ret
      exact ⟨rfl, hbr, _, HRow.out, by rw [HN.out]; exact HF.out⟩

set_option maxHeartbeats 400000 in
theorem eqBoolS_any (A A' : Option Addr) (cap cap' : Nat) (xs : List Bool) (w : World) (hx : BoolsAt w w.heap.size A xs) (hy : BoolsAt w w.heap.size A' xs) (hl : xs.length ≤ 2000000) :
    Calls Try.prog 32 #[.slice A xs.length cap, .slice A' xs.length cap'] w fun e w' => e = .returned (.bool true) ∧ Below w.heap.size w w' := by
  have HX := Lib.hid hx
  have HY := Lib.hid hy
  clear hx hy
  generalize hn : xs.length = n at *
  have HN := Lib.hid hn
  clear hn
  go_enter Try.func32, Try.ntmps32
  go_wp2
  go_loopw [5] (fun iv wr => ∃ (k : Nat), k ≤ n ∧ iv = .int .i64 k ∧ Below w.heap.size w wr) (fun iv _ => n - (intOf iv).toNat)
  case atStart => exact ⟨0, Nat.zero_le _, rfl, Below.refl _ _⟩
  case round =>
    obtain ⟨k, hk, rfl, hbr⟩ := hrel
    by_cases hlt : k < n
    · obtain ⟨b, off, rfl, hbl, hcA⟩ := HX.out k (by rw [HN.out]; exact hlt)
      obtain ⟨b', off', rfl, hbl', hcB⟩ := HY.out k (by rw [HN.out]; exact hlt)
      rw [← hbr.cell (by exact hbl)] at hcA
      rw [← hbr.cell (by exact hbl')] at hcB
      generalize xs.getD k false = v at *
      have hk0 : (0 : Int) ≤ (k : Int) := Int.natCast_nonneg _
      have hk1 : (k : Int) < (n : Int) := by omega
      cases v
      all_goals
        go_wp2
        go_quiet (fail)
        go_wp2
        go_roundw
        case rel => exact ⟨k + 1, by omega, by go_num, below_drewN hbr _⟩
        case measure => simp [intOf]; omega
    · go_wp2
      go_ret
      exact ⟨rfl, hbr⟩
end Go.Proofs.Ytdadokcodklfgaa
/- The contracts of the marks on truth values. -/
namespace Go.Proofs.Ytdadokcodklfgaa
open Go.RowKit Go.Deep

set_option maxHeartbeats 400000 in
theorem markB_nil (k : Int) (w : World) :
    Calls Try.prog 35 #[.slice none 0 0, .int .i64 k] w fun e w' => e = .returned (.int .i64 k) ∧ w = w' := by
  go_enter Try.func35, Try.ntmps35
  go_wp2
  go_loop [1, 5] (fun kv iv => iv = .int .i64 0 ∧ kv = .int .i64 k) (fun _ _ => 0)
  case atStart => exact ⟨rfl, rfl⟩
  case round =>
    obtain ⟨rfl, rfl⟩ := hrel
    go_wp2
    go_ret
    exact ⟨rfl, rfl⟩

set_option maxHeartbeats 400000 in
theorem markB_row (g n k : Nat) (cs : Array Value) (w : World) (hr : Row w g 4 cs) (hs : cs.size = n) (hn : n ≤ 2000000) (hk : k ≤ 1000000000) :
    Calls Try.prog 35 #[.slice (some ⟨g, 0, none⟩) n n, .int .i64 k] w fun e w' => e = .returned (.int .i64 ((k + n : Nat) : Int)) ∧ BRow w' g (mk3 k n) ∧ Only (some g) w w' := by
  have HR0 := Lib.hid hr
  have HS0 := Lib.hid hs
  clear hr hs
  go_enter Try.func35, Try.ntmps35
  go_wp2
  go_loopw [1, 5] (fun kv iv wr => ∃ (i : Nat) (cs : Array Value), i ≤ n ∧ iv = .int .i64 i ∧ kv = .int .i64 ((k : Int) + i) ∧ Hid (Row wr g 4 cs) ∧ Hid (FilledB cs (mk3 k n) i) ∧ Hid (Only (some g) w wr)) (fun _ iv _ => n - (intOf iv).toNat)
  case atStart => exact ⟨0, cs, Nat.zero_le _, rfl, by simp, HR0, Lib.hid (FilledB.start (by rw [HS0.out, mk3_len])), Lib.hid (Only.refl _ _)⟩
  case round =>
    clear HR0 HS0 cs
    obtain ⟨i, cs, hi, rfl, rfl, HRow, HF, HO⟩ := hrel
    by_cases hlt : i < n
    · have HF2 := Lib.hid (HF.out.step (by rw [mk3_len]; exact hlt))
      have hsz : i < cs.size := by rw [HF.out.1, mk3_len]; exact hlt
      have hc0 : wr.cell? ⟨g, i, none⟩ = some cs[i] := by rw [HRow.out.cell, Array.getElem?_eq_getElem hsz]
      have hf0 := HRow.out.frozen i
      have HO2 := Lib.hid (HO.out.set i (.bool ((mk3 k n).getD i false)))
      have HR2 := Lib.hid (HRow.out.set i (.bool ((mk3 k n).getD i false)))
      have hv : ((k : Int) + (i : Int)) % 3 = ((k + i) % 3 : Nat) := by omega
      have HV := Lib.hid (show ((((k + i) % 3 : Nat) : Int) == 0) = (mk3 k n).getD i false from by
        rw [mk3_get k n i hlt]
        by_cases h : (k + i) % 3 = 0
        · rw [h]; rfl
        · rw [decide_eq_false h]; simp; omega)
      rw [← HV.out] at HF2 HO2 HR2
      clear HV
      generalize cs[i] = old at *
      generalize (k + i) % 3 = r3 at *
      go_wp2
      go_roundw
      case rel => exact ⟨i + 1, _, by omega, by go_num, by go_num, HR2, HF2, HO2⟩
      case measure => simp [intOf]; omega
    · obtain rfl : i = n := by omega
      go_wp2
      go_ret
      exact ⟨rfl, ⟨_, HRow.out, by rw [mk3_len]; exact HF.out⟩, HO.out⟩

set_option maxHeartbeats 400000 in
theorem heldB_nil (k : Int) (w : World) :
    Calls Try.prog 82 #[.slice none 0 0, .int .i64 k] w fun e w' => e = .returned (.int .i64 k) ∧ w = w' := by
  go_enter Try.func82, Try.ntmps82
  go_wp2
  go_loop [1, 5] (fun kv iv => iv = .int .i64 0 ∧ kv = .int .i64 k) (fun _ _ => 0)
  case atStart => exact ⟨rfl, rfl⟩
  case round =>
    obtain ⟨rfl, rfl⟩ := hrel
    go_wp2
    go_ret
    exact ⟨rfl, rfl⟩

set_option maxHeartbeats 400000 in
theorem heldB_row (g n k : Nat) (w : World) (hr : BRow w g (mk3 k n)) (hn : n ≤ 2000000) (hk : k ≤ 1000000000) :
    Calls Try.prog 82 #[.slice (some ⟨g, 0, none⟩) n n, .int .i64 k] w fun e w' => e = .returned (.int .i64 ((k + n : Nat) : Int)) ∧ w = w' := by
  have HR0 := Lib.hid hr.bools
  clear hr
  go_enter Try.func82, Try.ntmps82
  go_wp2
  go_loop [1, 5] (fun kv iv => ∃ (i : Nat), i ≤ n ∧ iv = .int .i64 i ∧ kv = .int .i64 ((k : Int) + i)) (fun _ iv => n - (intOf iv).toNat)
  case atStart => exact ⟨0, Nat.zero_le _, rfl, by simp⟩
  case round =>
    obtain ⟨i, hi, rfl, rfl⟩ := hrel
    by_cases hlt : i < n
    · obtain ⟨b, off, he, hb, hc⟩ := HR0.out i (by rw [mk3_len]; exact hlt)
      injection he with he
      injection he with e1 e2
      subst e1 e2
      have hv : ((k : Int) + (i : Int)) % 3 = ((k + i) % 3 : Nat) := by omega
      have HV : (mk3 k n).getD i false = ((((k + i) % 3 : Nat) : Int) == 0) := by
        rw [mk3_get k n i hlt]
        by_cases h : (k + i) % 3 = 0
        · rw [h]; rfl
        · rw [decide_eq_false h]; simp; omega
      rw [HV, Nat.zero_add] at hc
      clear HV
      generalize (k + i) % 3 = r3 at *
      generalize hrr : ((r3 : Int) == 0) = rr at *
      cases rr
      all_goals
        go_wp2
        go_round
        case rel => exact ⟨i + 1, by omega, by go_num, by go_num⟩
        case measure => simp [intOf]; omega
    · obtain rfl : i = n := by omega
      go_wp2
      go_ret
      exact ⟨rfl, rfl⟩

end Go.Proofs.Ytdadokcodklfgaa
/- The contracts of the bit set: truth values put into it. -/
namespace Go.Proofs.Ytdadokcodklfgaa
open Go.RowKit Go.Deep

end Go.Proofs.Ytdadokcodklfgaa
