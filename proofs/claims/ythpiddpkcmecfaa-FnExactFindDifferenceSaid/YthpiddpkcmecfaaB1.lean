/- The contracts of lists of truth values: copy, comparison. -/
import Derived.Test.YthpiddpkcmecfaaB1a
namespace Go.Proofs.Ythpiddpkcmecfaa
open Go.RowKit Go.Deep

set_option maxHeartbeats 400000 in
theorem eqBoolS_any (A A' : Option Addr) (cap cap' : Nat) (xs : List Bool) (w : World) (hx : BoolsAt w w.heap.size A xs) (hy : BoolsAt w w.heap.size A' xs) (hl : xs.length ≤ 2000000) :
    Calls Try.prog 79 #[.slice A xs.length cap, .slice A' xs.length cap'] w fun e w' => e = .returned (.bool true) ∧ Below w.heap.size w w' := by
  have HX := Lib.hid hx
  have HY := Lib.hid hy
  clear hx hy
  generalize hn : xs.length = n at *
  have HN := Lib.hid hn
  clear hn
  go_enter Try.func79, Try.ntmps79
  go_wp2
  go_loopw [5] (fun iv wr => ∃ (k : Nat), k ≤ n ∧ iv = .int .i64 k ∧ Below w.heap.size w wr) (fun iv _ => n - (intOf iv).toNat)
  case atStart => exact ⟨0, Nat.zero_le _, rfl, Below.refl _ _⟩
  case round =>
    obtain ⟨k, hk, rfl, hbr⟩ := hrel
    by_cases hlt : k < n
    · obtain ⟨b, off, rfl, hbl, hcA⟩ := HX.out k (by rw [HN.out]; exact hlt)
      obtain ⟨b', off', rfl, hbl', hcB⟩ := HY.out k (by rw [HN.out]; exact hlt)
      rw [← hbr.cell (by exact hbl)] at hcA
      rw [← hbr.cell (by exact hbl')] at hcB
      generalize xs.getD k false = v at *
      have hk0 : (0 : Int) ≤ (k : Int) := Int.natCast_nonneg _
      have hk1 : (k : Int) < (n : Int) := by omega
      cases v
      all_goals
        go_wp2
        go_quiet (fail)
        go_wp2
        go_roundw
        case rel => exact ⟨k + 1, by omega, by go_num, below_drewN hbr _⟩
        case measure => simp [intOf]; omega
    · go_wp2
      go_ret
      exact ⟨rfl, hbr⟩
end Go.Proofs.Ythpiddpkcmecfaa
/- The contracts of the marks on truth values. -/
namespace Go.Proofs.Ythpiddpkcmecfaa
open Go.RowKit Go.Deep

set_option maxHeartbeats 400000 in
theorem markB_nil (k : Int) (w : World) :
    Calls Try.prog 80 #[.slice none 0 0, .int .i64 k] w fun e w' => e = .returned (.int .i64 k) ∧ w = w' := by
  go_enter Try.func80, Try.ntmps80
  go_wp2
  go_loop [1, 5] (fun kv iv => iv = .int .i64 0 ∧ kv = .int .i64 k) (fun _ _ => 0)
  case atStart => exact ⟨rfl, rfl⟩
  case round =>
    obtain ⟨rfl, rfl⟩ := hrel
    go_wp2
    go_ret
    exact ⟨rfl, rfl⟩

set_option maxHeartbeats 400000 in
theorem markB_row (g n k : Nat) (cs : Array Value) (w : World) (hr : Row w g 4 cs) (hs : cs.size = n) (hn : n ≤ 2000000) (hk : k ≤ 1000000000) :
    Calls Try.prog 80 #[.slice (some ⟨g, 0, none⟩) n n, .int .i64 k] w fun e w' => e = .returned (.int .i64 ((k + n : Nat) : Int)) ∧ BRow w' g (mk3 k n) ∧ Only (some g) w w' := by
  have HR0 := Lib.hid hr
  have HS0 := Lib.hid hs
  clear hr hs
  go_enter Try.func80, Try.ntmps80
  go_wp2
  go_loopw [1, 5] (fun kv iv wr => ∃ (i : Nat) (cs : Array Value), i ≤ n ∧ iv = .int .i64 i ∧ kv = .int .i64 ((k : Int) + i) ∧ Hid (Row wr g 4 cs) ∧ Hid (FilledB cs (mk3 k n) i) ∧ Hid (Only (some g) w wr)) (fun _ iv _ => n - (intOf iv).toNat)
  case atStart => exact ⟨0, cs, Nat.zero_le _, rfl, by simp, HR0, Lib.hid (FilledB.start (by rw [HS0.out, mk3_len])), Lib.hid (Only.refl _ _)⟩
  case round =>
    clear HR0 HS0 cs
    obtain ⟨i, cs, hi, rfl, rfl, HRow, HF, HO⟩ := hrel
    by_cases hlt : i < n
    · have HF2 := Lib.hid (HF.out.step (by rw [mk3_len]; exact hlt))
      have hsz : i < cs.size := by rw [HF.out.1, mk3_len]; exact hlt
      have hc0 : wr.cell? ⟨g, i, none⟩ = some cs[i] := by rw [HRow.out.cell, Array.getElem?_eq_getElem hsz]
      have hf0 := HRow.out.frozen i
      have HO2 := Lib.hid (HO.out.set i (.bool ((mk3 k n).getD i false)))
      have HR2 := Lib.hid (HRow.out.set i (.bool ((mk3 k n).getD i false)))
      have hv : ((k : Int) + (i : Int)) % 3 = ((k + i) % 3 : Nat) := by omega
      have HV := Lib.hid (show ((((k + i) % 3 : Nat) : Int) == 0) = (mk3 k n).getD i false from by
        rw [mk3_get k n i hlt]
        by_cases h : (k + i) % 3 = 0
        · rw [h]; rfl
        · rw [decide_eq_false h]; simp; omega)
      rw [← HV.out] at HF2 HO2 HR2
      clear HV
      generalize cs[i] = old at *
      generalize (k + i) % 3 = r3 at *
      go_wp2
      go_roundw
      case rel => exact ⟨i + 1, _, by omega, by go_num, by go_num, HR2, HF2, HO2⟩
      case measure => simp [intOf]; omega
    · obtain rfl : i = n := by omega
      go_wp2
      go_ret
      exact ⟨rfl, ⟨_, HRow.out, by rw [mk3_len]; exact HF.out⟩, HO.out⟩

set_option maxHeartbeats 400000 in
theorem heldB_nil (k : Int) (w : World) :
    Calls Try.prog 81 #[.slice none 0 0, .int .i64 k] w fun e w' => e = .returned (.int .i64 k) ∧ w = w' := by
  go_enter Try.func81, Try.ntmps81
  go_wp2
  go_loop [1, 5] (fun kv iv => iv = .int .i64 0 ∧ kv = .int .i64 k) (fun _ _ => 0)
  case atStart => exact ⟨rfl, rfl⟩
  case round =>
    obtain ⟨rfl, rfl⟩ := hrel
    go_wp2
    go_ret
    exact ⟨rfl, rfl⟩

set_option maxHeartbeats 400000 in
theorem heldB_row (g n k : Nat) (w : World) (hr : BRow w g (mk3 k n)) (hn : n ≤ 2000000) (hk : k ≤ 1000000000) :
    Calls Try.prog 81 #[.slice (some ⟨g, 0, none⟩) n n, .int .i64 k] w fun e w' => e = .returned (.int .i64 ((k + n : Nat) : Int)) ∧ w = w' := by
  have HR0 := Lib.hid hr.bools
  clear hr
  go_enter Try.func81, Try.ntmps81
  go_wp2
  go_loop [1, 5] (fun kv iv => ∃ (i : Nat), i ≤ n ∧ iv = .int .i64 i ∧ kv = .int .i64 ((k : Int) + i)) (fun _ iv => n - (intOf iv).toNat)
  case atStart => exact ⟨0, Nat.zero_le _, rfl, by simp⟩
  case round =>
    obtain ⟨i, hi, rfl, rfl⟩ := hrel
    by_cases hlt : i < n
    · obtain ⟨b, off, he, hb, hc⟩ := HR0.out i (by rw [mk3_len]; exact hlt)
      injection he with he
      injection he with e1 e2
      subst e1 e2
      have hv : ((k : Int) + (i : Int)) % 3 = ((k + i) % 3 : Nat) := by omega
      have HV : (mk3 k n).getD i false = ((((k + i) % 3 : Nat) : Int) == 0) := by
        rw [mk3_get k n i hlt]
        by_cases h : (k + i) % 3 = 0
        · rw [h]; rfl
        · rw [decide_eq_false h]; simp; omega
      rw [HV, Nat.zero_add] at hc
      clear HV
      generalize (k + i) % 3 = r3 at *
      generalize hrr : ((r3 : Int) == 0) = rr at *
      cases rr
      all_goals
        go_wp2
        go_round
        case rel => exact ⟨i + 1, by omega, by go_num, by go_num⟩
        case measure => simp [intOf]; omega
    · obtain rfl : i = n := by omega
      go_wp2
      go_ret
      exact ⟨rfl, rfl⟩

end Go.Proofs.Ythpiddpkcmecfaa
/- The contracts of the bit set: truth values put into it. -/
namespace Go.Proofs.Ythpiddpkcmecfaa
open Go.RowKit Go.Deep

set_option maxHeartbeats 400000 in
theorem holds_any (g m n : Nat) (L : List Bool) (w : World) (hc : w.cell? ⟨g, 0, none⟩ = some (.int .u64 m)) (hB : Circ.Bits m L) (hn : n < 128) :
    Calls Try.prog 110 #[.slice (some ⟨g, 0, none⟩) 1 1, .int .i64 n] w fun e w' => e = .returned (.bool (Circ.litV L n)) ∧ w = w' := by
  have HM := Lib.hid hB.1
  have HW := Lib.hid (hB.2 (n / 2))
  have HL := Lib.hid (litV_nat L n)
  clear hB
  have hq : (n : Int) / 2 = ((n / 2 : Nat) : Int) := by omega
  have hq64 : n / 2 < 64 := by omega
  have ho := i64_odd n (by omega)
  generalize n / 2 = q at *
  rcases Nat.mod_two_eq_zero_or_one n with e | e
  all_goals
    rw [e] at ho HL
    clear e
    go_enter Try.func110, Try.ntmps110
    go_wp2_with (first
      | (go_at_call 97; refine (var_any _ _).mono ?_; rintro e w' ⟨rfl, rfl⟩; rw [hq])
      | (go_at_call 87; refine (has_any g m q _ hc hq64 HM.out).mono ?_; rintro e w' ⟨rfl, rfl⟩))
    go_ret
    exact ⟨ret_bool (by rw [HL.out, HW.out]; cases L.getD q false <;> rfl), rfl⟩

set_option maxHeartbeats 400000 in
theorem addTrue_any (g m f : Nat) (A : Option Addr) (cap : Nat) (L xs : List Bool) (w : World) (hR : Row w g 123 #[.int .u64 m]) (hB : Circ.Bits m L) (hf : L.length = f) (hx : BoolsAt w g A xs) (hl : f + xs.length ≤ 64) :
    Calls Try.prog 109 #[.slice (some ⟨g, 0, none⟩) 1 1, .int .i64 f, .slice A xs.length cap] w fun e w' => ∃ m' : Nat, e = .returned (.tuple #[]) ∧ Row w' g 123 #[.int .u64 m'] ∧ Circ.Bits m' (L ++ xs) ∧ Only (some g) w w' := by
  have HR0 := Lib.hid hR
  have HB0 := Lib.hid hB
  have HF := Lib.hid hf
  have HX := Lib.hid hx
  clear hR hB hf hx
  generalize hn : xs.length = n at *
  have HN := Lib.hid hn
  clear hn
  go_enter Try.func109, Try.ntmps109
  go_wp2
  go_loopw [10] (fun iv wr => ∃ (k m : Nat), k ≤ n ∧ iv = .int .i64 k ∧ Hid (Row wr g 123 #[.int .u64 m]) ∧ Hid (Circ.Bits m (L ++ xs.take k)) ∧ Hid (Only (some g) w wr)) (fun iv _ => n - (intOf iv).toNat)
  case atStart => exact ⟨0, m, Nat.zero_le _, rfl, HR0, Lib.hid (by simpa using HB0.out), Lib.hid (Only.refl _ _)⟩
  case round =>
    clear HR0 HB0 m
    obtain ⟨k, m, hk, rfl, HRow, HB, HO⟩ := hrel
    by_cases hlt : k < n
    · obtain ⟨b, off, rfl, hbl, hcell⟩ := HX.out k (by rw [HN.out]; exact hlt)
      rw [← (HO.out.below (B := g) (fun _ e => by injection e with e; omega) (Nat.le_of_lt (by have := HRow.out.lt; rw [HO.out.size] at this; exact this))).cell (by exact hbl)] at hcell
      have HT : Hid (L ++ xs.take (k + 1) = (L ++ xs.take k) ++ [xs.getD k false]) := Lib.hid (by
        have hk' : k < xs.length := by rw [HN.out]; exact hlt
        rw [List.take_succ_eq_append_getElem hk', List.append_assoc]
        simp [List.getD_eq_getElem?_getD, hk'])
      have hlen : (L ++ xs.take k).length = f + k := by rw [List.length_append, List.length_take, HF.out, HN.out]; omega
      have HL := Lib.hid hlen
      have HS := Lib.hid (HB.out.snoc (by rw [hlen]; omega) (xs.getD k false))
      rw [← HT.out, hlen] at HS
      clear hlen
      generalize xs.getD k false = v at *
      have ec : ((f + k : Nat) : Int) = (f : Int) + (k : Int) := by omega
      have HM := Lib.hid HB.out.1
      cases v
      · go_wp2
        go_roundw
        case rel => exact ⟨k + 1, m, by omega, by go_num, HRow, HS, HO⟩
        case measure => simp [intOf]; omega
      · go_wp2_with (go_at_call 111; rw [← ec]; refine (add_any g m (f + k) _ _ HRow.out (by omega) HM.out).mono ?_; rintro e w' ⟨rfl, rfl⟩)
        go_roundw
        case rel => exact ⟨k + 1, m ||| 2 ^ (f + k), by omega, by go_num, Lib.hid (by have := HRow.out.set 0 (.int .u64 (m ||| 2 ^ (f + k) : Nat)); simpa using this), HS, Lib.hid (HO.out.set 0 _)⟩
        case measure => simp [intOf]; omega
    · obtain rfl : k = n := by omega
      go_wp2
      go_end0
      exact ⟨m, rfl, HRow.out, by have := HB.out; rwa [List.take_of_length_le (by rw [HN.out]; omega)] at this, HO.out⟩

theorem addTrue_len (g m f : Nat) (A : Option Addr) (cap n : Nat) (L xs : List Bool) (w : World) (hn : xs.length = n) (hR : Row w g 123 #[.int .u64 m]) (hB : Circ.Bits m L) (hf : L.length = f) (hx : BoolsAt w g A xs) (hl : f + n ≤ 64) :
    Calls Try.prog 109 #[.slice (some ⟨g, 0, none⟩) 1 1, .int .i64 f, .slice A n cap] w fun e w' => ∃ m' : Nat, e = .returned (.tuple #[]) ∧ Row w' g 123 #[.int .u64 m'] ∧ Circ.Bits m' (L ++ xs) ∧ Only (some g) w w' := by
  subst hn
  exact addTrue_any g m f A cap L xs w hR hB hf hx hl
end Go.Proofs.Ythpiddpkcmecfaa
