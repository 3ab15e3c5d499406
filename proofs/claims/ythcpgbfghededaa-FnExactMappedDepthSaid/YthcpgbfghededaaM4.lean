/- The contract of MinFunc over byPreference. -/
import Derived.Test.YthcpgbfghededaaM3
namespace Go.Proofs.Ythcpgbfghededaa
open Go.RowKit Go.Deep Cut

/-- The header that the search has chosen. -/
def Chosen (w : World) (A : Option Addr) (L : Cs) (j : Nat) (v : Value) : Prop := ∃ (b off : Nat) (A' : Option Addr) (c : Nat), A = some ⟨b, off, none⟩ ∧ v = .slice A' (L.getD j []).length c ∧ w.cell? ⟨b, off + j, none⟩ = some v ∧ IntsAt w w.heap.size A' (Opt.intL (L.getD j []))

set_option maxHeartbeats 1000000 in
theorem minFunc_any (A AL BA : Option Addr) (mb n p q cap cl cp : Nat) (arr : List Nat) (L : Cs) (w : World) (ha : IntsAt w w.heap.size A (Opt.intL arr)) (hL : ListAt w w.heap.size AL L) (hn : arr.length = n) (hq : q ≤ L.length) (hq1 : 1 ≤ q) (hq2 : q ≤ 1000) (hb1 : ∀ j, j < q → (L.getD j []).length ≤ 1000) (hl1 : ∀ j, j < q → ∀ l, l ∈ L.getD j [] → l < n) (hb : ∀ v, arr.getD v 0 ≤ 1000)
    (hmb : mb < w.heap.size) (hk0 : w.cell? ⟨mb, 0, none⟩ = some (.slice A n cap)) (hk1 : w.cell? ⟨mb, 1, none⟩ = some (.slice BA p cp)) :
    Calls Try.prog 87 #[.slice AL q cl, .func (.func 83) #[] #[.pointer (some ⟨mb, 0, none⟩)]] w fun e w' => ∃ v, e = .returned v ∧ Chosen w AL L (pick arr L (q - 1)) v ∧ Below w.heap.size w w' := by
  have HA := Lib.hid ha
  have HX := Lib.hid hL
  have HN := Lib.hid hn
  have HB1 := Lib.hid hb1
  have HL1 := Lib.hid hl1
  have HB := Lib.hid hb
  have HK0 := Lib.hid hk0
  have HK1 := Lib.hid hk1
  obtain ⟨b, off, rfl, hbl, A0, c0, hc0, hi0⟩ := hL 0 (by omega)
  have HC0 : Hid (Chosen w (some ⟨b, off, none⟩) L (pick arr L (1 - 1)) (.slice A0 (L.getD 0 []).length c0)) := Lib.hid ⟨b, off, A0, c0, rfl, rfl, hc0, hi0⟩
  rw [Nat.add_zero] at hc0
  clear ha hL hn hb1 hl1 hb hk0 hk1 hi0
  have eg : ∀ args w, (callFunc 83 args).run Try.prog w = .ok (.enter 83 args) w := enters_of Try.func83 (by kernel_rfl) rfl
  go_enter Try.func87, Try.ntmps87
  go_wp2
  go_loopw [5, 6] (fun mv iv wr => ∃ (i : Nat), 1 ≤ i ∧ i ≤ q ∧ iv = .int .i64 i ∧ Hid (Chosen w (some ⟨b, off, none⟩) L (pick arr L (i - 1)) mv) ∧ Hid (Below w.heap.size w wr)) (fun _ iv _ => q - (intOf iv).toNat)
  case atStart => exact ⟨1, by omega, hq1, rfl, HC0, Lib.hid (Below.refl _ _)⟩
  case round =>
    clear HC0
    obtain ⟨i, hi1, hiq, rfl, HC, HBr⟩ := hrel
    have hz := HBr.out.size
    by_cases hlt : i < q
    · obtain ⟨b', off', A1, c1, e1, rfl, hcM, hiM⟩ := HC.out
      injection e1 with e1
      injection e1 with e1 e2
      subst e1 e2
      have HIM := Lib.hid ((hiM.below HBr.out).mono hz)
      obtain ⟨b', off', e1, hbl', A2, c2, hcN, hiN⟩ := HX.out i (by omega)
      injection e1 with e1
      injection e1 with e1 e2
      subst e1 e2
      have HIN : Hid (IntsAt wr wr.heap.size A2 (Opt.intL (L.getD i []))) := Lib.hid (((IntsIn.at (B := w.heap.size) hiN (fun _ h => h)).below HBr.out).mono hz)
      have HCN : Hid (Chosen w (some ⟨b, off, none⟩) L i (.slice A2 (L.getD i []).length c2)) := Lib.hid ⟨b, off, A2, c2, rfl, rfl, hcN, IntsIn.at (B := w.heap.size) hiN (fun _ h => h)⟩
      have hcN' := (HBr.out.cell (p := ⟨b, off + i, none⟩) hbl).trans hcN
      have hpl := pick_le arr L (i - 1)
      have hpq : pick arr L (i - 1) < q := by omega
      have HPS : Hid (pick arr L (i + 1 - 1) = if better arr (L.getD i []) (L.getD (pick arr L (i - 1)) []) = true then i else pick arr L (i - 1)) := Lib.hid (by
        obtain ⟨d, rfl⟩ : ∃ d, i = d + 1 := ⟨i - 1, by omega⟩
        rfl)
      have h1 := HB1.out i hlt
      have h2 := HB1.out _ hpq
      have HL1i := Lib.hid (HL1.out i hlt)
      have HL1p := Lib.hid (HL1.out _ hpq)
      have HAr := Lib.hid ((HA.out.below HBr.out).mono hz)
      have g0 := (HBr.out.cell (p := ⟨mb, 0, none⟩) hmb).trans HK0.out
      have g1 := (HBr.out.cell (p := ⟨mb, 1, none⟩) hmb).trans HK1.out
      have HG0 := Lib.hid g0
      have HG1 := Lib.hid g1
      clear hcM hiM hiN hcN g0 g1 hbl'
      obtain ⟨pr, HPR⟩ : ∃ pr, Hid (prefC arr (L.getD i []) (L.getD (pick arr L (i - 1)) []) = pr) := ⟨_, Lib.hid rfl⟩
      have HPN : Hid (decide (pr < 0) = better arr (L.getD i []) (L.getD (pick arr L (i - 1)) [])) := Lib.hid (by rw [← HPR.out]; exact prefC_neg _ _ _)
      obtain ⟨x, HXE⟩ : ∃ x, Hid (L.getD i [] = x) := ⟨_, Lib.hid rfl⟩
      obtain ⟨y, HYE⟩ : ∃ y, Hid (L.getD (pick arr L (i - 1)) [] = y) := ⟨_, Lib.hid rfl⟩
      rw [HXE.out] at HIN h1 HL1i HPR hcN'
      rw [HYE.out] at HIM h2 HL1p HPR
      rw [HYE.out]
      by_cases hneg : pr < 0
      · have HB2 : Hid (pick arr L (i + 1 - 1) = i) := Lib.hid (by rw [HPS.out, if_pos]; rw [← HPN.out]; simpa using hneg)
        go_wp2_with (go_at_fn 83; refine (pref_any A A2 A1 BA mb n x.length y.length p cap c2 c1 cp arr x y _ HAr.out HIN.out HIM.out HN.out rfl rfl h1 h2 HL1i.out HL1p.out HB.out HG0.out HG1.out).mono ?_; rintro e u1 ⟨rfl, hu1⟩; rw [HPR.out]; have hcN2 := (hu1.cell (p := ⟨b, off + i, none⟩) (by show b < _; omega)).trans hcN')
        go_roundw
        case rel => exact ⟨i + 1, by omega, by omega, by go_num, by rw [HB2.out, ← HXE.out]; exact HCN, Lib.hid (HBr.out.trans (hu1.mono hz))⟩
        case measure => simp [intOf]; omega
      · have HB2 : Hid (pick arr L (i + 1 - 1) = pick arr L (i - 1)) := Lib.hid (by rw [HPS.out, if_neg]; rw [← HPN.out]; simpa using hneg)
        go_wp2_with (go_at_fn 83; refine (pref_any A A2 A1 BA mb n x.length y.length p cap c2 c1 cp arr x y _ HAr.out HIN.out HIM.out HN.out rfl rfl h1 h2 HL1i.out HL1p.out HB.out HG0.out HG1.out).mono ?_; rintro e u1 ⟨rfl, hu1⟩; rw [HPR.out])
        go_roundw
        case rel => exact ⟨i + 1, by omega, by omega, by go_num, by rw [HB2.out, ← HYE.out]; exact HC, Lib.hid (HBr.out.trans (hu1.mono hz))⟩
        case measure => simp [intOf]; omega
    · obtain rfl : i = q := by omega
      have HCx := HC
      go_wp2
      go_ret
      exact ⟨_, rfl, HCx.out, HBr.out⟩
end Go.Proofs.Ythcpgbfghededaa
