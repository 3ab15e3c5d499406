/- The contracts of lists of truth values: copy, comparison. -/
import Derived.Test.YthcpgbfghededaaB1a
namespace Go.Proofs.Ythcpgbfghededaa
open Go.RowKit Go.Deep

end Go.Proofs.Ythcpgbfghededaa
/- The contracts of the marks on truth values. -/
namespace Go.Proofs.Ythcpgbfghededaa
open Go.RowKit Go.Deep

end Go.Proofs.Ythcpgbfghededaa
/- The contracts of the bit set: truth values put into it. -/
namespace Go.Proofs.Ythcpgbfghededaa
open Go.RowKit Go.Deep

set_option maxHeartbeats 400000 in
theorem holds_any (g m n : Nat) (L : List Bool) (w : World) (hc : w.cell? ⟨g, 0, none⟩ = some (.int .u64 m)) (hB : Circ.Bits m L) (hn : n < 128) :
    Calls Try.prog 94 #[.slice (some ⟨g, 0, none⟩) 1 1, .int .i64 n] w fun e w' => e = .returned (.bool (Circ.litV L n)) ∧ w = w' := by
  have HM := Lib.hid hB.1
  have HW := Lib.hid (hB.2 (n / 2))
  have HL := Lib.hid (litV_nat L n)
  clear hB
  have hq : (n : Int) / 2 = ((n / 2 : Nat) : Int) := by omega
  have hq64 : n / 2 < 64 := by omega
  have ho := i64_odd n (by omega)
  generalize n / 2 = q at *
  rcases Nat.mod_two_eq_zero_or_one n with e | e
  all_goals
    rw [e] at ho HL
    clear e
    go_enter Try.func94, Try.ntmps94
    go_wp2_with (first
      | (go_at_call 95; refine (var_any _ _).mono ?_; rintro e w' ⟨rfl, rfl⟩; rw [hq])
      | (go_at_call 52; refine (has_any g m q _ hc hq64 HM.out).mono ?_; rintro e w' ⟨rfl, rfl⟩))
    go_ret
    exact ⟨ret_bool (by rw [HL.out, HW.out]; cases L.getD q false <;> rfl), rfl⟩

set_option maxHeartbeats 400000 in
theorem addTrue_any (g m f : Nat) (A : Option Addr) (cap : Nat) (L xs : List Bool) (w : World) (hR : Row w g 110 #[.int .u64 m]) (hB : Circ.Bits m L) (hf : L.length = f) (hx : BoolsAt w g A xs) (hl : f + xs.length ≤ 64) :
    Calls Try.prog 93 #[.slice (some ⟨g, 0, none⟩) 1 1, .int .i64 f, .slice A xs.length cap] w fun e w' => ∃ m' : Nat, e = .returned (.tuple #[]) ∧ Row w' g 110 #[.int .u64 m'] ∧ Circ.Bits m' (L ++ xs) ∧ Only (some g) w w' := by
  have HR0 := Lib.hid hR
  have HB0 := Lib.hid hB
  have HF := Lib.hid hf
  have HX := Lib.hid hx
  clear hR hB hf hx
  generalize hn : xs.length = n at *
  have HN := Lib.hid hn
  clear hn
  go_enter Try.func93, Try.ntmps93
  go_wp2
  go_loopw [10] (fun iv wr => ∃ (k m : Nat), k ≤ n ∧ iv = .int .i64 k ∧ Hid (Row wr g 110 #[.int .u64 m]) ∧ Hid (Circ.Bits m (L ++ xs.take k)) ∧ Hid (Only (some g) w wr)) (fun iv _ => n - (intOf iv).toNat)
  case atStart => exact ⟨0, m, Nat.zero_le _, rfl, HR0, Lib.hid (by simpa using HB0.out), Lib.hid (Only.refl _ _)⟩
  case round =>
    clear HR0 HB0 m
    obtain ⟨k, m, hk, rfl, HRow, HB, HO⟩ := hrel
    by_cases hlt : k < n
    · obtain ⟨b, off, rfl, hbl, hcell⟩ := HX.out k (by rw [HN.out]; exact hlt)
      rw [← (HO.out.below (B := g) (fun _ e => by injection e with e; omega) (Nat.le_of_lt (by have := HRow.out.lt; rw [HO.out.size] at this; exact this))).cell (by exact hbl)] at hcell
      have HT : Hid (L ++ xs.take (k + 1) = (L ++ xs.take k) ++ [xs.getD k false]) := Lib.hid (by
        have hk' : k < xs.length := by rw [HN.out]; exact hlt
        rw [List.take_succ_eq_append_getElem hk', List.append_assoc]
        simp [List.getD_eq_getElem?_getD, hk'])
      have hlen : (L ++ xs.take k).length = f + k := by rw [List.length_append, List.length_take, HF.out, HN.out]; omega
      have HL := Lib.hid hlen
      have HS := Lib.hid (HB.out.snoc (by rw [hlen]; omega) (xs.getD k false))
      rw [← HT.out, hlen] at HS
      clear hlen
      generalize xs.getD k false = v at *
      have ec : ((f + k : Nat) : Int) = (f : Int) + (k : Int) := by omega
      have HM := Lib.hid HB.out.1
      cases v
      · go_wp2
        go_roundw
        case rel => exact ⟨k + 1, m, by omega, by go_num, HRow, HS, HO⟩
        case measure => simp [intOf]; omega
      · go_wp2_with (go_at_call 90; rw [← ec]; refine (add_any g m (f + k) _ _ HRow.out (by omega) HM.out).mono ?_; rintro e w' ⟨rfl, rfl⟩)
        go_roundw
        case rel => exact ⟨k + 1, m ||| 2 ^ (f + k), by omega, by go_num, Lib.hid (by have := HRow.out.set 0 (.int .u64 (m ||| 2 ^ (f + k) : Nat)); simpa using this), HS, Lib.hid (HO.out.set 0 _)⟩
        case measure => simp [intOf]; omega
    · obtain rfl : k = n := by omega
      go_wp2
      go_end0
      exact ⟨m, rfl, HRow.out, by have := HB.out; rwa [List.take_of_length_le (by rw [HN.out]; omega)] at this, HO.out⟩

theorem addTrue_len (g m f : Nat) (A : Option Addr) (cap n : Nat) (L xs : List Bool) (w : World) (hn : xs.length = n) (hR : Row w g 110 #[.int .u64 m]) (hB : Circ.Bits m L) (hf : L.length = f) (hx : BoolsAt w g A xs) (hl : f + n ≤ 64) :
    Calls Try.prog 93 #[.slice (some ⟨g, 0, none⟩) 1 1, .int .i64 f, .slice A n cap] w fun e w' => ∃ m' : Nat, e = .returned (.tuple #[]) ∧ Row w' g 110 #[.int .u64 m'] ∧ Circ.Bits m' (L ++ xs) ∧ Only (some g) w w' := by
  subst hn
  exact addTrue_any g m f A cap L xs w hR hB hf hx hl
end Go.Proofs.Ythcpgbfghededaa
