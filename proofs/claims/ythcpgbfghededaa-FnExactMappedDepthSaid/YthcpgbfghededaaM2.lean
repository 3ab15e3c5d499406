/- The contracts of compareByKeys and of the closure byPreference. -/
import Derived.Test.YthcpgbfghededaaM1
import Derived.Test.YthcpgbfghededaaCL
namespace Go.Proofs.Ythcpgbfghededaa
open Go.RowKit Go.Deep Cut

/-- How two cuts compare. -/
def prefC (arr x y : List Nat) : Int := if Lib.compareInt (late arr x : Nat) (late arr y : Nat) = 0 then Lib.compareInt (x.length : Nat) (y.length : Nat) else Lib.compareInt (late arr x : Nat) (late arr y : Nat)
theorem prefC_neg (arr x y : List Nat) : decide (prefC arr x y < 0) = better arr x y := by
  unfold prefC better Lib.compareInt
  generalize late arr x = a
  generalize late arr y = b
  generalize x.length = n
  generalize y.length = m
  by_cases h1 : a < b
  · have h2 : (a : Int) < b := by omega
    simp [h1, h2]
  · by_cases h3 : a = b
    · subst h3
      by_cases h4 : n < m
      · have h5 : (n : Int) < m := by omega
        simp [h4, h5]
      · have h5 : ¬ (n : Int) < m := by omega
        simp [h4, h5]
        split <;> simp
    · have h6 : ¬ a ≤ b := by omega
      have h7 : b < a := by omega
      simp [h1, h3, h7]

set_option maxHeartbeats 1000000 in
theorem byKeys_any (A A1 A2 BA : Option Addr) (kb n m1 m2 p cap c1 c2 cp : Nat) (arr x y : List Nat) (w : World) (ha : IntsAt w w.heap.size A (Opt.intL arr)) (hx : IntsAt w w.heap.size A1 (Opt.intL x)) (hy : IntsAt w w.heap.size A2 (Opt.intL y)) (hn : arr.length = n) (hm1 : x.length = m1) (hm2 : y.length = m2) (hb1 : m1 ≤ 1000) (hb2 : m2 ≤ 1000) (hl1 : ∀ l, l ∈ x → l < n) (hl2 : ∀ l, l ∈ y → l < n) (hb : ∀ v, arr.getD v 0 ≤ 1000)
    (hkb : kb < w.heap.size) (hk0 : w.cell? ⟨kb, 0, none⟩ = some (.func (.func 85) #[.agg #[.slice A n cap, .slice BA p cp]] #[])) (hk1 : w.cell? ⟨kb, 1, none⟩ = some (.func (.func 86) #[] #[])) :
    Calls Try.prog 84 #[.slice A1 m1 c1, .slice A2 m2 c2, .slice (some ⟨kb, 0, none⟩) 2 2] w fun e w' => e = .returned (.int .i64 (prefC arr x y)) ∧ Below w.heap.size w w' := by
  have HA := Lib.hid ha
  have HX := Lib.hid hx
  have HY := Lib.hid hy
  have HN := Lib.hid hn
  have HM1 := Lib.hid hm1
  have HM2 := Lib.hid hm2
  have HL1 := Lib.hid hl1
  have HL2 := Lib.hid hl2
  have HB := Lib.hid hb
  have HK0 := Lib.hid hk0
  have HK1 := Lib.hid hk1
  clear ha hx hy hn hm1 hm2 hl1 hl2 hb hk0 hk1
  have eg : ∀ args w, (callFunc 85 args).run Try.prog w = .ok (.enter 85 args) w := enters_of Try.func85 (by kernel_rfl) rfl
  have eh : ∀ args w, (callFunc 86 args).run Try.prog w = .ok (.enter 86 args) w := enters_of Try.func86 (by kernel_rfl) rfl
  go_enter Try.func84, Try.ntmps84
  go_wp2
  go_loopw [12] (fun kv wr => ∃ (k : Nat), k ≤ 2 ∧ kv = .int .i64 k ∧ Hid (1 ≤ k → Lib.compareInt (late arr x : Nat) (late arr y : Nat) = 0) ∧ Hid (2 ≤ k → Lib.compareInt (x.length : Nat) (y.length : Nat) = 0) ∧ Hid (Below w.heap.size w wr)) (fun kv _ => 2 - (intOf kv).toNat)
  case atStart => exact ⟨0, by omega, rfl, Lib.hid (fun h => absurd h (by omega)), Lib.hid (fun h => absurd h (by omega)), Lib.hid (Below.refl _ _)⟩
  case round =>
    obtain ⟨k, hk, rfl, HE1, HE2, HBr⟩ := hrel
    have hz := HBr.out.size
    by_cases k0 : k = 0
    · subst k0
      have h0 := (HBr.out.cell (p := ⟨kb, 0, none⟩) hkb).trans HK0.out
      have HAr := Lib.hid ((HA.out.below HBr.out).mono hz)
      have HXr := Lib.hid ((HX.out.below HBr.out).mono hz)
      have HYr := Lib.hid ((HY.out.below HBr.out).mono hz)
      clear HE1 HE2
      obtain ⟨c, HC⟩ : ∃ c, Hid (Lib.compareInt (late arr x : Nat) (late arr y : Nat) = c) := ⟨_, Lib.hid rfl⟩
      have tok0 : True := trivial
      by_cases hc : c = 0
      · subst hc
        go_wp2_with (first
          | (revert tok0; intro tok0; go_at_fn 85; refine (latest_any A A1 BA n m1 p cap c1 cp arr x _ HAr.out HXr.out HN.out HM1.out hb1 HL1.out HB.out).mono ?_; rintro e u1 ⟨rfl, hu1⟩; have tokA : True := trivial; clear tok0)
          | (revert tokA; intro tokA; go_at_fn 85; refine (latest_any A A2 BA n m2 p cap c2 cp arr y _ ((HAr.out.below hu1).mono hu1.size) ((HYr.out.below hu1).mono hu1.size) HN.out HM2.out hb2 HL2.out HB.out).mono ?_; rintro e u2 ⟨rfl, hu2⟩; clear tokA)
          | (go_at_call 105; refine (cmpCompare_any _ _ _).mono ?_; rintro e w' ⟨rfl, hw⟩; obtain rfl := hw.symm; clear hw; rw [HC.out]))
        go_roundw
        case rel => exact ⟨1, by omega, by go_num, Lib.hid (fun _ => HC.out), Lib.hid (fun h => absurd h (by omega)), Lib.hid ((HBr.out.trans (hu1.mono hz)).trans (hu2.mono (Nat.le_trans hz hu1.size)))⟩
        case measure => simp [intOf]
      · go_wp2_with (first
          | (revert tok0; intro tok0; go_at_fn 85; refine (latest_any A A1 BA n m1 p cap c1 cp arr x _ HAr.out HXr.out HN.out HM1.out hb1 HL1.out HB.out).mono ?_; rintro e u1 ⟨rfl, hu1⟩; have tokA : True := trivial; clear tok0)
          | (revert tokA; intro tokA; go_at_fn 85; refine (latest_any A A2 BA n m2 p cap c2 cp arr y _ ((HAr.out.below hu1).mono hu1.size) ((HYr.out.below hu1).mono hu1.size) HN.out HM2.out hb2 HL2.out HB.out).mono ?_; rintro e u2 ⟨rfl, hu2⟩; clear tokA)
          | (go_at_call 105; refine (cmpCompare_any _ _ _).mono ?_; rintro e w' ⟨rfl, hw⟩; obtain rfl := hw.symm; clear hw; rw [HC.out]))
        go_ret
        have e : prefC arr x y = c := by unfold prefC; rw [HC.out, if_neg hc]
        rw [e]
        exact ⟨rfl, (HBr.out.trans (hu1.mono hz)).trans (hu2.mono (Nat.le_trans hz hu1.size))⟩
    · by_cases k1 : k = 1
      · subst k1
        have h1 := (HBr.out.cell (p := ⟨kb, 1, none⟩) hkb).trans HK1.out
        obtain ⟨c, HC⟩ : ∃ c, Hid (Lib.compareInt (m1 : Nat) (m2 : Nat) = c) := ⟨_, Lib.hid rfl⟩
        have e1 := HE1.out (by omega)
        have HP : Hid (prefC arr x y = c) := Lib.hid (by unfold prefC; rw [e1, if_pos rfl, HM1.out, HM2.out]; exact HC.out)
        have HE := Lib.hid e1
        clear HE2 e1 HE1 k0
        by_cases hc : c = 0
        · subst hc
          go_wp2_with (first
            | (go_at_fn 86; refine (leafCount_any _ _ _ _).mono ?_; rintro e w' ⟨rfl, hw⟩; obtain rfl := hw.symm; clear hw)
            | (go_at_call 105; refine (cmpCompare_any _ _ _).mono ?_; rintro e w' ⟨rfl, hw⟩; obtain rfl := hw.symm; clear hw; rw [HC.out]))
          go_roundw
          case rel => exact ⟨2, by omega, by go_num, Lib.hid (fun _ => HE.out), Lib.hid (fun _ => by rw [HM1.out, HM2.out]; exact HC.out), HBr⟩
          case measure => simp [intOf]
        · go_wp2_with (first
            | (go_at_fn 86; refine (leafCount_any _ _ _ _).mono ?_; rintro e w' ⟨rfl, hw⟩; obtain rfl := hw.symm; clear hw)
            | (go_at_call 105; refine (cmpCompare_any _ _ _).mono ?_; rintro e w' ⟨rfl, hw⟩; obtain rfl := hw.symm; clear hw; rw [HC.out]))
          go_ret
          rw [HP.out]
          exact ⟨rfl, HBr.out⟩
      · obtain rfl : k = 2 := by omega
        have HP : Hid (prefC arr x y = 0) := Lib.hid (by unfold prefC; rw [HE1.out (by omega), if_pos rfl]; exact HE2.out (by omega))
        clear k0 k1 HE1 HE2
        go_wp2
        go_ret
        rw [HP.out]
        exact ⟨rfl, HBr.out⟩
end Go.Proofs.Ythcpgbfghededaa
