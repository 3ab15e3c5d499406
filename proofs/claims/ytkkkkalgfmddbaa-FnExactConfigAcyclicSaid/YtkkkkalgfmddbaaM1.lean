/- The contracts of the arrival times: l5Arrive, latestArrival, leafCount. -/
import Derived.Test.YtkkkkalgfmddbaaQD
import Derived.Test.YtkkkkalgfmddbaaC5
import Derived.Test.YtkkkkalgfmddbaaCL
namespace Go.Proofs.Ytkkkkalgfmddbaa
open Go.RowKit Go.Deep Cut

theorem maxN (a b : Nat) : max (a : Int) (b : Int) = ((max a b : Nat) : Int) := by omega
theorem late_take_all (arr x : List Nat) (k : Nat) (h : x.length ≤ k) : late arr (x.take k) = late arr x := by rw [List.take_of_length_le h]

set_option maxHeartbeats 800000 in
theorem l5Arrive_any (A A' : Option Addr) (n m cap cap' : Nat) (arr x : List Nat) (w : World) (ha : IntsAt w w.heap.size A (Opt.intL arr)) (hx : IntsAt w w.heap.size A' (Opt.intL x)) (hn : arr.length = n) (hm : x.length = m) (hmb : m ≤ 1000) (hl : ∀ l, l ∈ x → l < n) (hb : ∀ v, arr.getD v 0 ≤ 1000) :
    Calls Try.prog 173 #[.slice A n cap, .slice A' m cap'] w fun e w' => e = .returned (.int .i64 (late arr x : Nat)) ∧ w' = w := by
  have HA := Lib.hid ha
  have HX := Lib.hid hx
  have HN := Lib.hid hn
  have HM := Lib.hid hm
  have HL := Lib.hid hl
  have HB := Lib.hid hb
  clear ha hx hn hm hl hb
  go_enter Try.func173, Try.ntmps173
  go_wp2
  go_loop [5, 6] (fun tv kv => ∃ (k t : Nat), k ≤ m ∧ kv = .int .i64 k ∧ tv = .int .i64 t ∧ t ≤ 1000 ∧ Hid (late arr (x.take k) = t)) (fun _ kv => m - (intOf kv).toNat)
  case atStart => exact ⟨0, 0, Nat.zero_le _, rfl, rfl, by omega, Lib.hid rfl⟩
  case round =>
    obtain ⟨k, t, hk, rfl, rfl, ht, HT⟩ := hrel
    by_cases hlt : k < m
    · obtain ⟨b, off, rfl, hbl, hcA⟩ := HX.out k (by rw [Opt.intL_len, HM.out]; exact hlt)
      rw [Opt.intL_at] at hcA
      have hkx : k < x.length := by rw [HM.out]; exact hlt
      have hyn : x.getD k 0 < n := HL.out _ (by rw [List.getD_eq_getElem?_getD, List.getElem?_eq_getElem hkx]; exact List.getElem_mem hkx)
      have HS := Lib.hid (late_take arr x k hkx)
      generalize x.getD k 0 = y at *
      obtain ⟨b', off', rfl, hbl', hcB⟩ := HA.out y (by rw [Opt.intL_len, HN.out]; exact hyn)
      rw [Opt.intL_at] at hcB
      have hv := HB.out y
      generalize arr.getD y 0 = u at *
      have hmx : max t u ≤ 1000 := Nat.max_le.2 ⟨ht, hv⟩
      clear hkx
      go_wp2
      go_round
      case rel => exact ⟨k + 1, max t u, by omega, by go_num, by rw [maxN], hmx, Lib.hid (by rw [HS.out, HT.out])⟩
      case measure => simp [intOf]; omega
    · go_wp2
      go_ret
      have e := HT.out
      rw [late_take_all _ _ _ (by rw [HM.out]; omega)] at e
      rw [e]
      exact ⟨rfl, rfl⟩

end Go.Proofs.Ytkkkkalgfmddbaa
/- The contracts of compareByKeys and of the closure byPreference. -/
namespace Go.Proofs.Ytkkkkalgfmddbaa
open Go.RowKit Go.Deep Cut

/-- How two cuts compare. -/
def prefC (arr x y : List Nat) : Int := if Lib.compareInt (late arr x : Nat) (late arr y : Nat) = 0 then Lib.compareInt (x.length : Nat) (y.length : Nat) else Lib.compareInt (late arr x : Nat) (late arr y : Nat)
theorem prefC_neg (arr x y : List Nat) : decide (prefC arr x y < 0) = better arr x y := by
  unfold prefC better Lib.compareInt
  generalize late arr x = a
  generalize late arr y = b
  generalize x.length = n
  generalize y.length = m
  by_cases h1 : a < b
  · have h2 : (a : Int) < b := by omega
    simp [h1, h2]
  · by_cases h3 : a = b
    · subst h3
      by_cases h4 : n < m
      · have h5 : (n : Int) < m := by omega
        simp [h4, h5]
      · have h5 : ¬ (n : Int) < m := by omega
        simp [h4, h5]
        split <;> simp
    · have h6 : ¬ a ≤ b := by omega
      have h7 : b < a := by omega
      simp [h1, h3, h7]

end Go.Proofs.Ytkkkkalgfmddbaa
/- The contracts of the closure byPreference and of MinFunc over it. -/
namespace Go.Proofs.Ytkkkkalgfmddbaa
open Go.RowKit Go.Deep Cut

end Go.Proofs.Ytkkkkalgfmddbaa
/- The contract of MinFunc over byPreference. -/
namespace Go.Proofs.Ytkkkkalgfmddbaa
open Go.RowKit Go.Deep Cut

/-- The header that the search has chosen. -/
def Chosen (w : World) (A : Option Addr) (L : Cs) (j : Nat) (v : Value) : Prop := ∃ (b off : Nat) (A' : Option Addr) (c : Nat), A = some ⟨b, off, none⟩ ∧ v = .slice A' (L.getD j []).length c ∧ w.cell? ⟨b, off + j, none⟩ = some v ∧ IntsAt w w.heap.size A' (Opt.intL (L.getD j []))

end Go.Proofs.Ytkkkkalgfmddbaa
