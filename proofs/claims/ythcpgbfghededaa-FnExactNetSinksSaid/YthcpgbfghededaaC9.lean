/- The contract of the library's search among sorted lists. -/
import Derived.Test.YthcpgbfghededaaC8
namespace Go.Proofs.Ythcpgbfghededaa
open Go.RowKit Go.Deep Cut

def SrOut (w : World) (K : Cs) (x : List Nat) (e : Ending) (w' : World) : Prop := (∃ p, Pos K x p ∧ e = .returned (.tuple #[.int .i64 (p : Int), .bool (decide (x ∈ K))])) ∧ w = w'
theorem tuple_ret {a b : Int} {c d : Bool} (h1 : a = b) (h2 : c = d) : Ending.returned (.tuple #[.int .i64 a, .bool c]) = .returned (.tuple #[.int .i64 b, .bool d]) := by rw [h1, h2]

set_option maxHeartbeats 1000000 in
theorem search_any (A A' : Option Addr) (n m cap cap' : Nat) (K : Cs) (x : List Nat) (w : World) (hx : ListAt w w.heap.size A K) (hy : IntsAt w w.heap.size A' (Opt.intL x)) (hn : K.length = n) (hm : x.length = m) (hnb : n ≤ 1000) (hmb : m ≤ 1000) (hlb : ∀ k, k < n → (K.getD k []).length ≤ 1000) (hs : LS K) :
    Calls Try.prog 113 #[.slice A n cap, .slice A' m cap', .func (.func 114) #[] #[]] w (SrOut w K x) := by
  have HX := Lib.hid hx
  have HY := Lib.hid hy
  have HN := Lib.hid hn
  have HM := Lib.hid hm
  have HLB := Lib.hid hlb
  have HS := Lib.hid hs
  clear hx hy hn hm hlb hs
  have eg : ∀ args w, (callFunc 114 args).run Try.prog w = .ok (.enter 114 args) w := enters_of Try.func114 (by kernel_rfl) rfl
  go_enter Try.func113, Try.ntmps113
  go_wp2
  go_loop [9, 10] (fun iv jv => ∃ lo hi : Nat, lo ≤ hi ∧ hi ≤ n ∧ iv = .int .i64 lo ∧ jv = .int .i64 hi ∧ Hid (∀ t, t < lo → lexC (K.getD t []) x < 0) ∧ Hid (∀ t, hi ≤ t → t < n → 0 ≤ lexC (K.getD t []) x)) (fun iv jv => (intOf jv).toNat - (intOf iv).toNat)
  case atStart => exact ⟨0, n, Nat.zero_le _, Nat.le_refl _, rfl, rfl, Lib.hid (fun t ht => absurd ht (by omega)), Lib.hid (fun t h1 h2 => absurd h2 (by omega))⟩
  case round =>
    obtain ⟨lo, hi, hlh, hhn, rfl, rfl, HL, HH⟩ := hrel
    by_cases hlt : lo < hi
    · obtain ⟨h, hh⟩ : ∃ h, (lo + hi) / 2 = h := ⟨_, rfl⟩
      have hq : ((lo : Int) + (hi : Int)) / 2 = (h : Int) := by omega
      have hhl : h < n := by omega
      obtain ⟨b, off, rfl, hbl, Ah, ch, hc, hxh⟩ := HX.out h (by rw [HN.out]; exact hhl)
      have HXH := Lib.hid hxh
      have hlen := HLB.out h hhl
      have i1 : (0 : Int) ≤ (h : Int) := by omega
      have i2 : (h : Int) < (n : Int) := by omega
      have HLO : Hid (lexC (K.getD h []) x < 0 → ∀ t, t < h + 1 → lexC (K.getD t []) x < 0) := Lib.hid (fun h1 t ht => by
        by_cases e : t = h
        · subst e; exact h1
        · exact lexC_trans _ _ _ (HS.out t h (by omega) (by rw [HN.out]; exact hhl)) h1)
      have HHI : Hid (¬ lexC (K.getD h []) x < 0 → ∀ t, h ≤ t → t < n → 0 ≤ lexC (K.getD t []) x) := Lib.hid (fun h1 t ht htn => by
        by_cases e : t = h
        · subst e; omega
        · by_cases h2 : lexC (K.getD t []) x < 0
          · exact absurd (lexC_trans _ _ _ (HS.out h t (by omega) (by rw [HN.out]; exact htn)) h2) h1
          · omega)
      clear hxh
      generalize hK : K.getD h [] = kh at *
      clear hK
      by_cases hneg : lexC kh x < 0
      · have HL2 := Lib.hid (HLO.out hneg)
        clear HLO HHI
        go_wp2_with (go_at_fn 114; refine (compare_any Ah A' kh.length m ch cap' _ kh x _ HXH.out HY.out rfl HM.out hlen hmb).mono ?_; rintro e w' ⟨rfl, rfl⟩)
        go_round
        case rel => exact ⟨h + 1, hi, by omega, by omega, by go_num, rfl, HL2, HH⟩
        case measure => simp [intOf]; omega
      · have HH2 := Lib.hid (HHI.out hneg)
        clear HLO HHI
        go_wp2_with (go_at_fn 114; refine (compare_any Ah A' kh.length m ch cap' _ kh x _ HXH.out HY.out rfl HM.out hlen hmb).mono ?_; rintro e w' ⟨rfl, rfl⟩)
        go_round
        case rel => exact ⟨lo, h, by omega, by omega, rfl, by go_num, HL, HH2⟩
        case measure => simp [intOf]; omega
    · obtain rfl : lo = hi := by omega
      have HP : Hid (Pos K x lo) := Lib.hid ⟨by rw [HN.out]; exact hhn, HL.out, fun t h1 h2 => HH.out t h1 (by rw [← HN.out]; exact h2)⟩
      have HD := Lib.hid (HP.out.found HS.out)
      by_cases hln : lo < n
      · obtain ⟨b, off, rfl, hbl, Ah, ch, hc, hxh⟩ := HX.out lo (by rw [HN.out]; exact hln)
        have HXH := Lib.hid hxh
        have hlen := HLB.out lo hln
        clear hxh
        have hnK : lo < K.length := by rw [HN.out]; exact hln
        have HD2 : Hid (lexC (K.getD lo []) x = 0 ↔ x ∈ K) := Lib.hid ⟨fun h => HD.out.1 ⟨hnK, h⟩, fun h => (HD.out.2 h).2⟩
        clear HD hnK HL HH
        generalize K.getD lo [] = kh at *
        by_cases h0 : lexC kh x = 0
        · have HE : Hid (decide (x ∈ K) = true) := Lib.hid (by simpa using HD2.out.1 h0)
          clear HD2
          go_wp2_with (go_at_fn 114; refine (compare_any Ah A' kh.length m ch cap' _ kh x _ HXH.out HY.out rfl HM.out hlen hmb).mono ?_; rintro e w' ⟨rfl, rfl⟩)
          go_ret2
          exact ⟨⟨lo, HP.out, tuple_ret rfl HE.out.symm⟩, rfl⟩
        · have HE : Hid (decide (x ∈ K) = false) := Lib.hid (by simp; exact fun h => h0 (HD2.out.2 h))
          clear HD2
          go_wp2_with (go_at_fn 114; refine (compare_any Ah A' kh.length m ch cap' _ kh x _ HXH.out HY.out rfl HM.out hlen hmb).mono ?_; rintro e w' ⟨rfl, rfl⟩)
          go_ret2
          exact ⟨⟨lo, HP.out, tuple_ret rfl (by rw [HE.out]; simpa using h0)⟩, rfl⟩
      · have HE : Hid (decide (x ∈ K) = false) := Lib.hid (by simp; exact fun h => hln (by have := (HD.out.2 h).1; rwa [HN.out] at this))
        clear HD HL HH
        go_wp2
        go_ret2
        exact ⟨⟨lo, HP.out, tuple_ret rfl HE.out.symm⟩, rfl⟩
end Go.Proofs.Ythcpgbfghededaa
