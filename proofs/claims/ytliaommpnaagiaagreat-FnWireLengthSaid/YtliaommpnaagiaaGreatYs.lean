/- The contract of sameInts. -/
import Derived.Test.YtliaommpnaagiaaGreatW6
namespace Go.Proofs.YtliaommpnaagiaaGreat
open Go.RowKit Go.Deep

set_option maxHeartbeats 400000 in
theorem sameI_any (A A' : Option Addr) (cap cap' : Nat) (xs : List Int) (w : World) (hx : IntsAt w w.heap.size A xs) (hy : IntsAt w w.heap.size A' xs) (hl : xs.length ≤ 2000000) :
    Calls Tryz.prog 15 #[.slice A xs.length cap, .slice A' xs.length cap'] w fun e w' => e = .returned (.bool true) ∧ Below w.heap.size w w' := by
  have HX := Lib.hid hx
  have HY := Lib.hid hy
  clear hx hy
  generalize hn : xs.length = n at *
  have HN := Lib.hid hn
  clear hn
  go_enter Tryz.func15, Tryz.ntmps15
  go_wp2
  go_loopw [5] (fun iv wr => ∃ (k : Nat), k ≤ n ∧ iv = .int .i64 k ∧ Below w.heap.size w wr) (fun iv _ => n - (intOf iv).toNat)
  case atStart => exact ⟨0, Nat.zero_le _, rfl, Below.refl _ _⟩
  case round =>
    obtain ⟨k, hk, rfl, hbr⟩ := hrel
    by_cases hlt : k < n
    · obtain ⟨b, off, rfl, hbl, hcA⟩ := HX.out k (by rw [HN.out]; exact hlt)
      obtain ⟨b', off', rfl, hbl', hcB⟩ := HY.out k (by rw [HN.out]; exact hlt)
      rw [← hbr.cell (by exact hbl)] at hcA
      rw [← hbr.cell (by exact hbl')] at hcB
      generalize xs.getD k 0 = v at *
      have hk0 : (0 : Int) ≤ (k : Int) := Int.natCast_nonneg _
      have hk1 : (k : Int) < (n : Int) := by omega
      go_wp2
      go_quiet (fail)
      go_wp2
      go_roundw
      case rel => exact ⟨k + 1, by omega, by go_num, below_drewN hbr _⟩
      case measure => simp [intOf]; omega
    · go_wp2
      go_ret
      exact ⟨rfl, hbr⟩
theorem sameI_ln (A A' : Option Addr) (n n' cap cap' : Nat) (xs : List Int) (w : World) (hn : xs.length = n) (hn' : xs.length = n') (hx : IntsAt w w.heap.size A xs) (hy : IntsAt w w.heap.size A' xs) (hl : n ≤ 2000000) :
    Calls Tryz.prog 15 #[.slice A n cap, .slice A' n' cap'] w fun e w' => e = .returned (.bool true) ∧ Below w.heap.size w w' := by
  subst hn hn'
  exact sameI_any A A' cap cap' xs w hx hy hl
end Go.Proofs.YtliaommpnaagiaaGreat
