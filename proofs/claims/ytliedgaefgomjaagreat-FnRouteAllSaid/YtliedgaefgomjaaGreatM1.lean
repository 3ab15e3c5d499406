/- The contracts of the arrival times: l5Arrive, latestArrival, leafCount. -/
import Derived.Test.YtliedgaefgomjaaGreatQD
import Derived.Test.YtliedgaefgomjaaGreatC5
import Derived.Test.YtliedgaefgomjaaGreatCL
namespace Go.Proofs.YtliedgaefgomjaaGreat
open Go.RowKit Go.Deep Cut

theorem maxN (a b : Nat) : max (a : Int) (b : Int) = ((max a b : Nat) : Int) := by omega
theorem late_take_all (arr x : List Nat) (k : Nat) (h : x.length ≤ k) : late arr (x.take k) = late arr x := by rw [List.take_of_length_le h]

set_option maxHeartbeats 800000 in
theorem l5Arrive_any (A A' : Option Addr) (n m cap cap' : Nat) (arr x : List Nat) (w : World) (ha : IntsAt w w.heap.size A (Opt.intL arr)) (hx : IntsAt w w.heap.size A' (Opt.intL x)) (hn : arr.length = n) (hm : x.length = m) (hmb : m ≤ 1000) (hl : ∀ l, l ∈ x → l < n) (hb : ∀ v, arr.getD v 0 ≤ 1000) :
    Calls Tryz.prog 92 #[.slice A n cap, .slice A' m cap'] w fun e w' => e = .returned (.int .i64 (late arr x : Nat)) ∧ w' = w := by
  have HA := Lib.hid ha
  have HX := Lib.hid hx
  have HN := Lib.hid hn
  have HM := Lib.hid hm
  have HL := Lib.hid hl
  have HB := Lib.hid hb
  clear ha hx hn hm hl hb
  go_enter Tryz.func92, Tryz.ntmps92
  go_wp2
  go_loop [5, 6] (fun tv kv => ∃ (k t : Nat), k ≤ m ∧ kv = .int .i64 k ∧ tv = .int .i64 t ∧ t ≤ 1000 ∧ Hid (late arr (x.take k) = t)) (fun _ kv => m - (intOf kv).toNat)
  case atStart => exact ⟨0, 0, Nat.zero_le _, rfl, rfl, by omega, Lib.hid rfl⟩
  case round =>
    obtain ⟨k, t, hk, rfl, rfl, ht, HT⟩ := hrel
    by_cases hlt : k < m
    · obtain ⟨b, off, rfl, hbl, hcA⟩ := HX.out k (by rw [Opt.intL_len, HM.out]; exact hlt)
      rw [Opt.intL_at] at hcA
      have hkx : k < x.length := by rw [HM.out]; exact hlt
      have hyn : x.getD k 0 < n := HL.out _ (by rw [List.getD_eq_getElem?_getD, List.getElem?_eq_getElem hkx]; exact List.getElem_mem hkx)
      have HS := Lib.hid (late_take arr x k hkx)
      generalize x.getD k 0 = y at *
      obtain ⟨b', off', rfl, hbl', hcB⟩ := HA.out y (by rw [Opt.intL_len, HN.out]; exact hyn)
      rw [Opt.intL_at] at hcB
      have hv := HB.out y
      generalize arr.getD y 0 = u at *
      have hmx : max t u ≤ 1000 := Nat.max_le.2 ⟨ht, hv⟩
      clear hkx
      go_wp2
      go_round
      case rel => exact ⟨k + 1, max t u, by omega, by go_num, by rw [maxN], hmx, Lib.hid (by rw [HS.out, HT.out])⟩
      case measure => simp [intOf]; omega
    · go_wp2
      go_ret
      have e := HT.out
      rw [late_take_all _ _ _ (by rw [HM.out]; omega)] at e
      rw [e]
      exact ⟨rfl, rfl⟩

set_option maxHeartbeats 800000 in
theorem latest_any (A A' BA : Option Addr) (n m p cap cap' cp : Nat) (arr x : List Nat) (w : World) (ha : IntsAt w w.heap.size A (Opt.intL arr)) (hx : IntsAt w w.heap.size A' (Opt.intL x)) (hn : arr.length = n) (hm : x.length = m) (hmb : m ≤ 1000) (hl : ∀ l, l ∈ x → l < n) (hb : ∀ v, arr.getD v 0 ≤ 1000) :
    Calls Tryz.prog 99 #[.agg #[.slice A n cap, .slice BA p cp], .slice A' m cap'] w fun e w' => e = .returned (.int .i64 (late arr x : Nat)) ∧ Below w.heap.size w w' := by
  have HA := Lib.hid ha
  have HX := Lib.hid hx
  have HN := Lib.hid hn
  have HM := Lib.hid hm
  have HL := Lib.hid hl
  have HB := Lib.hid hb
  clear ha hx hn hm hl hb
  have HW0 : Hid (Below w.heap.size w (w.alloc (.cells #[.slice A n cap, .slice BA p cp] 133))) := Lib.hid ((Below.refl _ _).alloc (Nat.le_refl _) _)
  have HR0 : Hid (Row (w.alloc (.cells #[.slice A n cap, .slice BA p cp] 133)) w.heap.size 133 #[.slice A n cap, .slice BA p cp]) := Lib.hid (heap_alloc_new w _)
  go_enter Tryz.func99, Tryz.ntmps99
  go_wp2
  generalize w.alloc (.cells #[.slice A n cap, .slice BA p cp] 133) = w0 at *
  have q0 := HR0.out.cell 0
  simp at q0
  go_loop [5, 7, 10] (fun tv uv kv => ∃ (k t : Nat), k ≤ m ∧ kv = .int .i64 k ∧ tv = .int .i64 t ∧ t ≤ 1000 ∧ Hid (late arr (x.take k) = t)) (fun _ _ kv => m - (intOf kv).toNat)
  case atStart => exact ⟨0, 0, Nat.zero_le _, rfl, rfl, by omega, Lib.hid rfl⟩
  case round =>
    obtain ⟨k, t, hk, rfl, rfl, ht, HT⟩ := hrel
    by_cases hlt : k < m
    · obtain ⟨b, off, rfl, hbl, hcA⟩ := HX.out k (by rw [Opt.intL_len, HM.out]; exact hlt)
      rw [← HW0.out.cell (by exact hbl), Opt.intL_at] at hcA
      have hkx : k < x.length := by rw [HM.out]; exact hlt
      have hyn : x.getD k 0 < n := HL.out _ (by rw [List.getD_eq_getElem?_getD, List.getElem?_eq_getElem hkx]; exact List.getElem_mem hkx)
      have HS := Lib.hid (late_take arr x k hkx)
      generalize x.getD k 0 = y at *
      obtain ⟨b', off', rfl, hbl', hcB⟩ := HA.out y (by rw [Opt.intL_len, HN.out]; exact hyn)
      rw [← HW0.out.cell (by exact hbl'), Opt.intL_at] at hcB
      have hv := HB.out y
      generalize arr.getD y 0 = u at *
      have hmx : max t u ≤ 1000 := Nat.max_le.2 ⟨ht, hv⟩
      clear hkx
      go_wp2
      go_round
      case rel => exact ⟨k + 1, max t u, by omega, by go_num, by rw [maxN], hmx, Lib.hid (by rw [HS.out, HT.out])⟩
      case measure => simp [intOf]; omega
    · go_wp2
      go_ret
      have e := HT.out
      rw [late_take_all _ _ _ (by rw [HM.out]; omega)] at e
      rw [e]
      exact ⟨rfl, HW0.out⟩
theorem leafCount_any (A : Option Addr) (n cap : Nat) (w : World) : Calls Tryz.prog 100 #[.slice A n cap] w fun e w' => e = .returned (.int .i64 (n : Int)) ∧ w' = w := by
  go_enter Tryz.func100, Tryz.ntmps100
  go_wp2
  go_ret
  exact ⟨rfl, rfl⟩
end Go.Proofs.YtliedgaefgomjaaGreat
/- The contracts of compareByKeys and of the closure byPreference. -/
namespace Go.Proofs.YtliedgaefgomjaaGreat
open Go.RowKit Go.Deep Cut

/-- How two cuts compare. -/
def prefC (arr x y : List Nat) : Int := if Lib.compareInt (late arr x : Nat) (late arr y : Nat) = 0 then Lib.compareInt (x.length : Nat) (y.length : Nat) else Lib.compareInt (late arr x : Nat) (late arr y : Nat)
theorem prefC_neg (arr x y : List Nat) : decide (prefC arr x y < 0) = better arr x y := by
  unfold prefC better Lib.compareInt
  generalize late arr x = a
  generalize late arr y = b
  generalize x.length = n
  generalize y.length = m
  by_cases h1 : a < b
  · have h2 : (a : Int) < b := by omega
    simp [h1, h2]
  · by_cases h3 : a = b
    · subst h3
      by_cases h4 : n < m
      · have h5 : (n : Int) < m := by omega
        simp [h4, h5]
      · have h5 : ¬ (n : Int) < m := by omega
        simp [h4, h5]
        split <;> simp
    · have h6 : ¬ a ≤ b := by omega
      have h7 : b < a := by omega
      simp [h1, h3, h7]

set_option maxHeartbeats 1000000 in
theorem byKeys_any (A A1 A2 BA : Option Addr) (kb n m1 m2 p cap c1 c2 cp : Nat) (arr x y : List Nat) (w : World) (ha : IntsAt w w.heap.size A (Opt.intL arr)) (hx : IntsAt w w.heap.size A1 (Opt.intL x)) (hy : IntsAt w w.heap.size A2 (Opt.intL y)) (hn : arr.length = n) (hm1 : x.length = m1) (hm2 : y.length = m2) (hb1 : m1 ≤ 1000) (hb2 : m2 ≤ 1000) (hl1 : ∀ l, l ∈ x → l < n) (hl2 : ∀ l, l ∈ y → l < n) (hb : ∀ v, arr.getD v 0 ≤ 1000)
    (hkb : kb < w.heap.size) (hk0 : w.cell? ⟨kb, 0, none⟩ = some (.func (.func 99) #[.agg #[.slice A n cap, .slice BA p cp]] #[])) (hk1 : w.cell? ⟨kb, 1, none⟩ = some (.func (.func 100) #[] #[])) :
    Calls Tryz.prog 98 #[.slice A1 m1 c1, .slice A2 m2 c2, .slice (some ⟨kb, 0, none⟩) 2 2] w fun e w' => e = .returned (.int .i64 (prefC arr x y)) ∧ Below w.heap.size w w' := by
  have HA := Lib.hid ha
  have HX := Lib.hid hx
  have HY := Lib.hid hy
  have HN := Lib.hid hn
  have HM1 := Lib.hid hm1
  have HM2 := Lib.hid hm2
  have HL1 := Lib.hid hl1
  have HL2 := Lib.hid hl2
  have HB := Lib.hid hb
  have HK0 := Lib.hid hk0
  have HK1 := Lib.hid hk1
  clear ha hx hy hn hm1 hm2 hl1 hl2 hb hk0 hk1
  have eg : ∀ args w, (callFunc 99 args).run Tryz.prog w = .ok (.enter 99 args) w := enters_of Tryz.func99 (by kernel_rfl) rfl
  have eh : ∀ args w, (callFunc 100 args).run Tryz.prog w = .ok (.enter 100 args) w := enters_of Tryz.func100 (by kernel_rfl) rfl
  go_enter Tryz.func98, Tryz.ntmps98
  go_wp2
  go_loopw [12] (fun kv wr => ∃ (k : Nat), k ≤ 2 ∧ kv = .int .i64 k ∧ Hid (1 ≤ k → Lib.compareInt (late arr x : Nat) (late arr y : Nat) = 0) ∧ Hid (2 ≤ k → Lib.compareInt (x.length : Nat) (y.length : Nat) = 0) ∧ Hid (Below w.heap.size w wr)) (fun kv _ => 2 - (intOf kv).toNat)
  case atStart => exact ⟨0, by omega, rfl, Lib.hid (fun h => absurd h (by omega)), Lib.hid (fun h => absurd h (by omega)), Lib.hid (Below.refl _ _)⟩
  case round =>
    obtain ⟨k, hk, rfl, HE1, HE2, HBr⟩ := hrel
    have hz := HBr.out.size
    by_cases k0 : k = 0
    · subst k0
      have h0 := (HBr.out.cell (p := ⟨kb, 0, none⟩) hkb).trans HK0.out
      have HAr := Lib.hid ((HA.out.below HBr.out).mono hz)
      have HXr := Lib.hid ((HX.out.below HBr.out).mono hz)
      have HYr := Lib.hid ((HY.out.below HBr.out).mono hz)
      clear HE1 HE2
      obtain ⟨c, HC⟩ : ∃ c, Hid (Lib.compareInt (late arr x : Nat) (late arr y : Nat) = c) := ⟨_, Lib.hid rfl⟩
      have tok0 : True := trivial
      by_cases hc : c = 0
      · subst hc
        go_wp2_with (first
          | (revert tok0; intro tok0; go_at_fn 99; refine (latest_any A A1 BA n m1 p cap c1 cp arr x _ HAr.out HXr.out HN.out HM1.out hb1 HL1.out HB.out).mono ?_; rintro e u1 ⟨rfl, hu1⟩; have tokA : True := trivial; clear tok0)
          | (revert tokA; intro tokA; go_at_fn 99; refine (latest_any A A2 BA n m2 p cap c2 cp arr y _ ((HAr.out.below hu1).mono hu1.size) ((HYr.out.below hu1).mono hu1.size) HN.out HM2.out hb2 HL2.out HB.out).mono ?_; rintro e u2 ⟨rfl, hu2⟩; clear tokA)
          | (go_at_call 108; refine (cmpCompare_any _ _ _).mono ?_; rintro e w' ⟨rfl, hw⟩; obtain rfl := hw.symm; clear hw; rw [HC.out]))
        go_roundw
        case rel => exact ⟨1, by omega, by go_num, Lib.hid (fun _ => HC.out), Lib.hid (fun h => absurd h (by omega)), Lib.hid ((HBr.out.trans (hu1.mono hz)).trans (hu2.mono (Nat.le_trans hz hu1.size)))⟩
        case measure => simp [intOf]
      · go_wp2_with (first
          | (revert tok0; intro tok0; go_at_fn 99; refine (latest_any A A1 BA n m1 p cap c1 cp arr x _ HAr.out HXr.out HN.out HM1.out hb1 HL1.out HB.out).mono ?_; rintro e u1 ⟨rfl, hu1⟩; have tokA : True := trivial; clear tok0)
          | (revert tokA; intro tokA; go_at_fn 99; refine (latest_any A A2 BA n m2 p cap c2 cp arr y _ ((HAr.out.below hu1).mono hu1.size) ((HYr.out.below hu1).mono hu1.size) HN.out HM2.out hb2 HL2.out HB.out).mono ?_; rintro e u2 ⟨rfl, hu2⟩; clear tokA)
          | (go_at_call 108; refine (cmpCompare_any _ _ _).mono ?_; rintro e w' ⟨rfl, hw⟩; obtain rfl := hw.symm; clear hw; rw [HC.out]))
        go_ret
        have e : prefC arr x y = c := by unfold prefC; rw [HC.out, if_neg hc]
        rw [e]
        exact ⟨rfl, (HBr.out.trans (hu1.mono hz)).trans (hu2.mono (Nat.le_trans hz hu1.size))⟩
    · by_cases k1 : k = 1
      · subst k1
        have h1 := (HBr.out.cell (p := ⟨kb, 1, none⟩) hkb).trans HK1.out
        obtain ⟨c, HC⟩ : ∃ c, Hid (Lib.compareInt (m1 : Nat) (m2 : Nat) = c) := ⟨_, Lib.hid rfl⟩
        have e1 := HE1.out (by omega)
        have HP : Hid (prefC arr x y = c) := Lib.hid (by unfold prefC; rw [e1, if_pos rfl, HM1.out, HM2.out]; exact HC.out)
        have HE := Lib.hid e1
        clear HE2 e1 HE1 k0
        by_cases hc : c = 0
        · subst hc
          go_wp2_with (first
            | (go_at_fn 100; refine (leafCount_any _ _ _ _).mono ?_; rintro e w' ⟨rfl, hw⟩; obtain rfl := hw.symm; clear hw)
            | (go_at_call 108; refine (cmpCompare_any _ _ _).mono ?_; rintro e w' ⟨rfl, hw⟩; obtain rfl := hw.symm; clear hw; rw [HC.out]))
          go_roundw
          case rel => exact ⟨2, by omega, by go_num, Lib.hid (fun _ => HE.out), Lib.hid (fun _ => by rw [HM1.out, HM2.out]; exact HC.out), HBr⟩
          case measure => simp [intOf]
        · go_wp2_with (first
            | (go_at_fn 100; refine (leafCount_any _ _ _ _).mono ?_; rintro e w' ⟨rfl, hw⟩; obtain rfl := hw.symm; clear hw)
            | (go_at_call 108; refine (cmpCompare_any _ _ _).mono ?_; rintro e w' ⟨rfl, hw⟩; obtain rfl := hw.symm; clear hw; rw [HC.out]))
          go_ret
          rw [HP.out]
          exact ⟨rfl, HBr.out⟩
      · obtain rfl : k = 2 := by omega
        have HP : Hid (prefC arr x y = 0) := Lib.hid (by unfold prefC; rw [HE1.out (by omega), if_pos rfl]; exact HE2.out (by omega))
        clear k0 k1 HE1 HE2
        go_wp2
        go_ret
        rw [HP.out]
        exact ⟨rfl, HBr.out⟩
end Go.Proofs.YtliedgaefgomjaaGreat
/- The contracts of the closure byPreference and of MinFunc over it. -/
namespace Go.Proofs.YtliedgaefgomjaaGreat
open Go.RowKit Go.Deep Cut

set_option maxHeartbeats 1000000 in
theorem pref_any (A A1 A2 BA : Option Addr) (mb n m1 m2 p cap c1 c2 cp : Nat) (arr x y : List Nat) (w : World) (ha : IntsAt w w.heap.size A (Opt.intL arr)) (hx : IntsAt w w.heap.size A1 (Opt.intL x)) (hy : IntsAt w w.heap.size A2 (Opt.intL y)) (hn : arr.length = n) (hm1 : x.length = m1) (hm2 : y.length = m2) (hb1 : m1 ≤ 1000) (hb2 : m2 ≤ 1000) (hl1 : ∀ l, l ∈ x → l < n) (hl2 : ∀ l, l ∈ y → l < n) (hb : ∀ v, arr.getD v 0 ≤ 1000)
    (hk0 : w.cell? ⟨mb, 0, none⟩ = some (.slice A n cap)) (hk1 : w.cell? ⟨mb, 1, none⟩ = some (.slice BA p cp)) :
    Calls Tryz.prog 97 #[.slice A1 m1 c1, .slice A2 m2 c2, .pointer (some ⟨mb, 0, none⟩)] w fun e w' => e = .returned (.int .i64 (prefC arr x y)) ∧ Below w.heap.size w w' := by
  have HA := Lib.hid ha
  have HX := Lib.hid hx
  have HY := Lib.hid hy
  have HL1 := Lib.hid hl1
  have HL2 := Lib.hid hl2
  have HN := Lib.hid hn
  have HM1 := Lib.hid hm1
  have HM2 := Lib.hid hm2
  have HB := Lib.hid hb
  clear ha hx hy hl1 hl2 hb hn hm1 hm2
  go_enter Tryz.func97, Tryz.ntmps97
  go_wp2_with fail
  have hbw := (Below.refl w.heap.size w).alloc (Nat.le_refl _) (.cells #[.func (.func 99) #[.agg #[.slice A n cap, .slice BA p cp]] #[], .func (.func 100) #[] #[]] 99)
  have hr := heap_alloc_new w (.cells #[.func (.func 99) #[.agg #[.slice A n cap, .slice BA p cp]] #[], .func (.func 100) #[] #[]] 99)
  refine (byKeys_any A A1 A2 BA w.heap.size n m1 m2 p cap c1 c2 cp arr x y _ ((HA.out.below hbw).mono hbw.size) ((HX.out.below hbw).mono hbw.size) ((HY.out.below hbw).mono hbw.size) HN.out HM1.out HM2.out hb1 hb2 HL1.out HL2.out HB.out (by simp) ((Row.cell hr) 0) ((Row.cell hr) 1)).mono ?_
  rintro e w1 ⟨rfl, hb1⟩
  go_wp2
  go_ret
  exact ⟨rfl, hbw.trans (hb1.mono hbw.size)⟩
end Go.Proofs.YtliedgaefgomjaaGreat
/- The contract of MinFunc over byPreference. -/
namespace Go.Proofs.YtliedgaefgomjaaGreat
open Go.RowKit Go.Deep Cut

/-- The header that the search has chosen. -/
def Chosen (w : World) (A : Option Addr) (L : Cs) (j : Nat) (v : Value) : Prop := ∃ (b off : Nat) (A' : Option Addr) (c : Nat), A = some ⟨b, off, none⟩ ∧ v = .slice A' (L.getD j []).length c ∧ w.cell? ⟨b, off + j, none⟩ = some v ∧ IntsAt w w.heap.size A' (Opt.intL (L.getD j []))

set_option maxHeartbeats 1000000 in
theorem minFunc_any (A AL BA : Option Addr) (mb n p q cap cl cp : Nat) (arr : List Nat) (L : Cs) (w : World) (ha : IntsAt w w.heap.size A (Opt.intL arr)) (hL : ListAt w w.heap.size AL L) (hn : arr.length = n) (hq : q ≤ L.length) (hq1 : 1 ≤ q) (hq2 : q ≤ 1000) (hb1 : ∀ j, j < q → (L.getD j []).length ≤ 1000) (hl1 : ∀ j, j < q → ∀ l, l ∈ L.getD j [] → l < n) (hb : ∀ v, arr.getD v 0 ≤ 1000)
    (hmb : mb < w.heap.size) (hk0 : w.cell? ⟨mb, 0, none⟩ = some (.slice A n cap)) (hk1 : w.cell? ⟨mb, 1, none⟩ = some (.slice BA p cp)) :
    Calls Tryz.prog 101 #[.slice AL q cl, .func (.func 97) #[] #[.pointer (some ⟨mb, 0, none⟩)]] w fun e w' => ∃ v, e = .returned v ∧ Chosen w AL L (pick arr L (q - 1)) v ∧ Below w.heap.size w w' := by
  have HA := Lib.hid ha
  have HX := Lib.hid hL
  have HN := Lib.hid hn
  have HB1 := Lib.hid hb1
  have HL1 := Lib.hid hl1
  have HB := Lib.hid hb
  have HK0 := Lib.hid hk0
  have HK1 := Lib.hid hk1
  obtain ⟨b, off, rfl, hbl, A0, c0, hc0, hi0⟩ := hL 0 (by omega)
  have HC0 : Hid (Chosen w (some ⟨b, off, none⟩) L (pick arr L (1 - 1)) (.slice A0 (L.getD 0 []).length c0)) := Lib.hid ⟨b, off, A0, c0, rfl, rfl, hc0, hi0⟩
  rw [Nat.add_zero] at hc0
  clear ha hL hn hb1 hl1 hb hk0 hk1 hi0
  have eg : ∀ args w, (callFunc 97 args).run Tryz.prog w = .ok (.enter 97 args) w := enters_of Tryz.func97 (by kernel_rfl) rfl
  go_enter Tryz.func101, Tryz.ntmps101
  go_wp2
  go_loopw [5, 6] (fun mv iv wr => ∃ (i : Nat), 1 ≤ i ∧ i ≤ q ∧ iv = .int .i64 i ∧ Hid (Chosen w (some ⟨b, off, none⟩) L (pick arr L (i - 1)) mv) ∧ Hid (Below w.heap.size w wr)) (fun _ iv _ => q - (intOf iv).toNat)
  case atStart => exact ⟨1, by omega, hq1, rfl, HC0, Lib.hid (Below.refl _ _)⟩
  case round =>
    clear HC0
    obtain ⟨i, hi1, hiq, rfl, HC, HBr⟩ := hrel
    have hz := HBr.out.size
    by_cases hlt : i < q
    · obtain ⟨b', off', A1, c1, e1, rfl, hcM, hiM⟩ := HC.out
      injection e1 with e1
      injection e1 with e1 e2
      subst e1 e2
      have HIM := Lib.hid ((hiM.below HBr.out).mono hz)
      obtain ⟨b', off', e1, hbl', A2, c2, hcN, hiN⟩ := HX.out i (by omega)
      injection e1 with e1
      injection e1 with e1 e2
      subst e1 e2
      have HIN : Hid (IntsAt wr wr.heap.size A2 (Opt.intL (L.getD i []))) := Lib.hid (((IntsIn.at (B := w.heap.size) hiN (fun _ h => h)).below HBr.out).mono hz)
      have HCN : Hid (Chosen w (some ⟨b, off, none⟩) L i (.slice A2 (L.getD i []).length c2)) := Lib.hid ⟨b, off, A2, c2, rfl, rfl, hcN, IntsIn.at (B := w.heap.size) hiN (fun _ h => h)⟩
      have hcN' := (HBr.out.cell (p := ⟨b, off + i, none⟩) hbl).trans hcN
      have hpl := pick_le arr L (i - 1)
      have hpq : pick arr L (i - 1) < q := by omega
      have HPS : Hid (pick arr L (i + 1 - 1) = if better arr (L.getD i []) (L.getD (pick arr L (i - 1)) []) = true then i else pick arr L (i - 1)) := Lib.hid (by
        obtain ⟨d, rfl⟩ : ∃ d, i = d + 1 := ⟨i - 1, by omega⟩
        rfl)
      have h1 := HB1.out i hlt
      have h2 := HB1.out _ hpq
      have HL1i := Lib.hid (HL1.out i hlt)
      have HL1p := Lib.hid (HL1.out _ hpq)
      have HAr := Lib.hid ((HA.out.below HBr.out).mono hz)
      have g0 := (HBr.out.cell (p := ⟨mb, 0, none⟩) hmb).trans HK0.out
      have g1 := (HBr.out.cell (p := ⟨mb, 1, none⟩) hmb).trans HK1.out
      have HG0 := Lib.hid g0
      have HG1 := Lib.hid g1
      clear hcM hiM hiN hcN g0 g1 hbl'
      obtain ⟨pr, HPR⟩ : ∃ pr, Hid (prefC arr (L.getD i []) (L.getD (pick arr L (i - 1)) []) = pr) := ⟨_, Lib.hid rfl⟩
      have HPN : Hid (decide (pr < 0) = better arr (L.getD i []) (L.getD (pick arr L (i - 1)) [])) := Lib.hid (by rw [← HPR.out]; exact prefC_neg _ _ _)
      obtain ⟨x, HXE⟩ : ∃ x, Hid (L.getD i [] = x) := ⟨_, Lib.hid rfl⟩
      obtain ⟨y, HYE⟩ : ∃ y, Hid (L.getD (pick arr L (i - 1)) [] = y) := ⟨_, Lib.hid rfl⟩
      rw [HXE.out] at HIN h1 HL1i HPR hcN'
      rw [HYE.out] at HIM h2 HL1p HPR
      rw [HYE.out]
      by_cases hneg : pr < 0
      · have HB2 : Hid (pick arr L (i + 1 - 1) = i) := Lib.hid (by rw [HPS.out, if_pos]; rw [← HPN.out]; simpa using hneg)
        go_wp2_with (go_at_fn 97; refine (pref_any A A2 A1 BA mb n x.length y.length p cap c2 c1 cp arr x y _ HAr.out HIN.out HIM.out HN.out rfl rfl h1 h2 HL1i.out HL1p.out HB.out HG0.out HG1.out).mono ?_; rintro e u1 ⟨rfl, hu1⟩; rw [HPR.out]; have hcN2 := (hu1.cell (p := ⟨b, off + i, none⟩) (by show b < _; omega)).trans hcN')
        go_roundw
        case rel => exact ⟨i + 1, by omega, by omega, by go_num, by rw [HB2.out, ← HXE.out]; exact HCN, Lib.hid (HBr.out.trans (hu1.mono hz))⟩
        case measure => simp [intOf]; omega
      · have HB2 : Hid (pick arr L (i + 1 - 1) = pick arr L (i - 1)) := Lib.hid (by rw [HPS.out, if_neg]; rw [← HPN.out]; simpa using hneg)
        go_wp2_with (go_at_fn 97; refine (pref_any A A2 A1 BA mb n x.length y.length p cap c2 c1 cp arr x y _ HAr.out HIN.out HIM.out HN.out rfl rfl h1 h2 HL1i.out HL1p.out HB.out HG0.out HG1.out).mono ?_; rintro e u1 ⟨rfl, hu1⟩; rw [HPR.out])
        go_roundw
        case rel => exact ⟨i + 1, by omega, by omega, by go_num, by rw [HB2.out, ← HYE.out]; exact HC, Lib.hid (HBr.out.trans (hu1.mono hz))⟩
        case measure => simp [intOf]; omega
    · obtain rfl : i = q := by omega
      have HCx := HC
      go_wp2
      go_ret
      exact ⟨_, rfl, HCx.out, HBr.out⟩
end Go.Proofs.YtliedgaefgomjaaGreat
