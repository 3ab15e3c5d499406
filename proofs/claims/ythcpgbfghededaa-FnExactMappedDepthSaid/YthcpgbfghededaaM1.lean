/- The contracts of the arrival times: l5Arrive, latestArrival, leafCount. -/
import Derived.Test.YthcpgbfghededaaQM
import Derived.Test.YthcpgbfghededaaC5
namespace Go.Proofs.Ythcpgbfghededaa
open Go.RowKit Go.Deep Cut

theorem maxN (a b : Nat) : max (a : Int) (b : Int) = ((max a b : Nat) : Int) := by omega
theorem late_take_all (arr x : List Nat) (k : Nat) (h : x.length ≤ k) : late arr (x.take k) = late arr x := by rw [List.take_of_length_le h]

set_option maxHeartbeats 800000 in
theorem l5Arrive_any (A A' : Option Addr) (n m cap cap' : Nat) (arr x : List Nat) (w : World) (ha : IntsAt w w.heap.size A (Opt.intL arr)) (hx : IntsAt w w.heap.size A' (Opt.intL x)) (hn : arr.length = n) (hm : x.length = m) (hmb : m ≤ 1000) (hl : ∀ l, l ∈ x → l < n) (hb : ∀ v, arr.getD v 0 ≤ 1000) :
    Calls Try.prog 96 #[.slice A n cap, .slice A' m cap'] w fun e w' => e = .returned (.int .i64 (late arr x : Nat)) ∧ w' = w := by
  have HA := Lib.hid ha
  have HX := Lib.hid hx
  have HN := Lib.hid hn
  have HM := Lib.hid hm
  have HL := Lib.hid hl
  have HB := Lib.hid hb
  clear ha hx hn hm hl hb
  go_enter Try.func96, Try.ntmps96
  go_wp2
  go_loop [5, 6] (fun tv kv => ∃ (k t : Nat), k ≤ m ∧ kv = .int .i64 k ∧ tv = .int .i64 t ∧ t ≤ 1000 ∧ Hid (late arr (x.take k) = t)) (fun _ kv => m - (intOf kv).toNat)
  case atStart => exact ⟨0, 0, Nat.zero_le _, rfl, rfl, by omega, Lib.hid rfl⟩
  case round =>
    obtain ⟨k, t, hk, rfl, rfl, ht, HT⟩ := hrel
    by_cases hlt : k < m
    · obtain ⟨b, off, rfl, hbl, hcA⟩ := HX.out k (by rw [Opt.intL_len, HM.out]; exact hlt)
      rw [Opt.intL_at] at hcA
      have hkx : k < x.length := by rw [HM.out]; exact hlt
      have hyn : x.getD k 0 < n := HL.out _ (by rw [List.getD_eq_getElem?_getD, List.getElem?_eq_getElem hkx]; exact List.getElem_mem hkx)
      have HS := Lib.hid (late_take arr x k hkx)
      generalize x.getD k 0 = y at *
      obtain ⟨b', off', rfl, hbl', hcB⟩ := HA.out y (by rw [Opt.intL_len, HN.out]; exact hyn)
      rw [Opt.intL_at] at hcB
      have hv := HB.out y
      generalize arr.getD y 0 = u at *
      have hmx : max t u ≤ 1000 := Nat.max_le.2 ⟨ht, hv⟩
      clear hkx
      go_wp2
      go_round
      case rel => exact ⟨k + 1, max t u, by omega, by go_num, by rw [maxN], hmx, Lib.hid (by rw [HS.out, HT.out])⟩
      case measure => simp [intOf]; omega
    · go_wp2
      go_ret
      have e := HT.out
      rw [late_take_all _ _ _ (by rw [HM.out]; omega)] at e
      rw [e]
      exact ⟨rfl, rfl⟩

set_option maxHeartbeats 800000 in
theorem latest_any (A A' BA : Option Addr) (n m p cap cap' cp : Nat) (arr x : List Nat) (w : World) (ha : IntsAt w w.heap.size A (Opt.intL arr)) (hx : IntsAt w w.heap.size A' (Opt.intL x)) (hn : arr.length = n) (hm : x.length = m) (hmb : m ≤ 1000) (hl : ∀ l, l ∈ x → l < n) (hb : ∀ v, arr.getD v 0 ≤ 1000) :
    Calls Try.prog 85 #[.agg #[.slice A n cap, .slice BA p cp], .slice A' m cap'] w fun e w' => e = .returned (.int .i64 (late arr x : Nat)) ∧ Below w.heap.size w w' := by
  have HA := Lib.hid ha
  have HX := Lib.hid hx
  have HN := Lib.hid hn
  have HM := Lib.hid hm
  have HL := Lib.hid hl
  have HB := Lib.hid hb
  clear ha hx hn hm hl hb
  have HW0 : Hid (Below w.heap.size w (w.alloc (.cells #[.slice A n cap, .slice BA p cp] 70))) := Lib.hid ((Below.refl _ _).alloc (Nat.le_refl _) _)
  have HR0 : Hid (Row (w.alloc (.cells #[.slice A n cap, .slice BA p cp] 70)) w.heap.size 70 #[.slice A n cap, .slice BA p cp]) := Lib.hid (heap_alloc_new w _)
  go_enter Try.func85, Try.ntmps85
  go_wp2
  generalize w.alloc (.cells #[.slice A n cap, .slice BA p cp] 70) = w0 at *
  have q0 := HR0.out.cell 0
  simp at q0
  go_loop [5, 7, 10] (fun tv uv kv => ∃ (k t : Nat), k ≤ m ∧ kv = .int .i64 k ∧ tv = .int .i64 t ∧ t ≤ 1000 ∧ Hid (late arr (x.take k) = t)) (fun _ _ kv => m - (intOf kv).toNat)
  case atStart => exact ⟨0, 0, Nat.zero_le _, rfl, rfl, by omega, Lib.hid rfl⟩
  case round =>
    obtain ⟨k, t, hk, rfl, rfl, ht, HT⟩ := hrel
    by_cases hlt : k < m
    · obtain ⟨b, off, rfl, hbl, hcA⟩ := HX.out k (by rw [Opt.intL_len, HM.out]; exact hlt)
      rw [← HW0.out.cell (by exact hbl), Opt.intL_at] at hcA
      have hkx : k < x.length := by rw [HM.out]; exact hlt
      have hyn : x.getD k 0 < n := HL.out _ (by rw [List.getD_eq_getElem?_getD, List.getElem?_eq_getElem hkx]; exact List.getElem_mem hkx)
      have HS := Lib.hid (late_take arr x k hkx)
      generalize x.getD k 0 = y at *
      obtain ⟨b', off', rfl, hbl', hcB⟩ := HA.out y (by rw [Opt.intL_len, HN.out]; exact hyn)
      rw [← HW0.out.cell (by exact hbl'), Opt.intL_at] at hcB
      have hv := HB.out y
      generalize arr.getD y 0 = u at *
      have hmx : max t u ≤ 1000 := Nat.max_le.2 ⟨ht, hv⟩
      clear hkx
      go_wp2
      go_round
      case rel => exact ⟨k + 1, max t u, by omega, by go_num, by rw [maxN], hmx, Lib.hid (by rw [HS.out, HT.out])⟩
      case measure => simp [intOf]; omega
    · go_wp2
      go_ret
      have e := HT.out
      rw [late_take_all _ _ _ (by rw [HM.out]; omega)] at e
      rw [e]
      exact ⟨rfl, HW0.out⟩
theorem leafCount_any (A : Option Addr) (n cap : Nat) (w : World) : Calls Try.prog 86 #[.slice A n cap] w fun e w' => e = .returned (.int .i64 (n : Int)) ∧ w' = w := by
  go_enter Try.func86, Try.ntmps86
  go_wp2
  go_ret
  exact ⟨rfl, rfl⟩
end Go.Proofs.Ythcpgbfghededaa
