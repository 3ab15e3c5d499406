/- The contracts of marks on cells. -/
import Derived.Test.YthcpgbfghededaaEC
import Derived.Test.YthcpgbfghededaaEQ
namespace Go.Proofs.Ythcpgbfghededaa
open Go.RowKit Go.Deep Cut

/-- What the marks on struct j of such a row are. -/
def CeMk (cs : Array Value) (ls : List Nat) (K j : Nat) : Prop := cs[j * 4]? = some (.int .i64 (K + ofT 3 ls j : Nat)) ∧ cs[j * 4 + 2]? = some (.int .i64 (K + ofT 3 ls j + 1 + ls.getD j 0 : Nat)) ∧ cs[j * 4 + 3]? = some (.bool (((K + ofT 3 ls j + 1 + ls.getD j 0 + 1 : Nat) : Int) % 3 == 0))
/-- The row of the structs, the first m of them marked. -/
def CeRow (w : World) (g : Nat) (hs : List Value) (ls : List Nat) (m K : Nat) : Prop := ∃ cs, Row w g 45 cs ∧ ls.length * 4 ≤ cs.size ∧ (∀ j, j < ls.length → cs[j * 4 + 1]? = hs[j]?) ∧ ∀ j, j < m → CeMk cs ls K j
theorem CeRow.below {w w' : World} {g m K B : Nat} {hs : List Value} {ls : List Nat} (h : CeRow w g hs ls m K) (hb : Below B w w') (hg : g < B) : CeRow w' g hs ls m K := by
  obtain ⟨cs, hr, h1, h2, h3⟩ := h
  exact ⟨cs, hr.below hb hg, h1, h2, h3⟩
theorem CeRow.lt {w : World} {g m K : Nat} {hs : List Value} {ls : List Nat} (h : CeRow w g hs ls m K) : g < w.heap.size := by
  obtain ⟨cs, hr, _⟩ := h
  exact hr.lt
theorem CeMk.set {cs : Array Value} {hs : List Value} {ls : List Nat} {m K : Nat} (h1 : ls.length * 4 ≤ cs.size) (h2 : ∀ j, j < ls.length → cs[j * 4 + 1]? = hs[j]?) (h3 : ∀ j, j < m → CeMk cs ls K j) (hm : m < ls.length) :
    ls.length * 4 ≤ (((cs.setIfInBounds (m * 4) (.int .i64 (K + ofT 3 ls m : Nat))).setIfInBounds (m * 4 + 2) (.int .i64 (K + ofT 3 ls m + 1 + ls.getD m 0 : Nat))).setIfInBounds (m * 4 + 3) (.bool (((K + ofT 3 ls m + 1 + ls.getD m 0 + 1 : Nat) : Int) % 3 == 0))).size ∧ (∀ j, j < ls.length → (((cs.setIfInBounds (m * 4) (.int .i64 (K + ofT 3 ls m : Nat))).setIfInBounds (m * 4 + 2) (.int .i64 (K + ofT 3 ls m + 1 + ls.getD m 0 : Nat))).setIfInBounds (m * 4 + 3) (.bool (((K + ofT 3 ls m + 1 + ls.getD m 0 + 1 : Nat) : Int) % 3 == 0)))[j * 4 + 1]? = hs[j]?) ∧ ∀ j, j < m + 1 → CeMk (((cs.setIfInBounds (m * 4) (.int .i64 (K + ofT 3 ls m : Nat))).setIfInBounds (m * 4 + 2) (.int .i64 (K + ofT 3 ls m + 1 + ls.getD m 0 : Nat))).setIfInBounds (m * 4 + 3) (.bool (((K + ofT 3 ls m + 1 + ls.getD m 0 + 1 : Nat) : Int) % 3 == 0))) ls K j := by
  refine ⟨by simpa using h1, fun j hj => ?_, fun j hj => ?_⟩
  · rw [Array.getElem?_setIfInBounds_ne (by omega), Array.getElem?_setIfInBounds_ne (by omega), Array.getElem?_setIfInBounds_ne (by omega)]
    exact h2 j hj
  · by_cases e : j = m
    · subst e
      refine ⟨?_, ?_, ?_⟩
      · rw [Array.getElem?_setIfInBounds_ne (by omega), Array.getElem?_setIfInBounds_ne (by omega), Array.getElem?_setIfInBounds_self_of_lt (by omega)]
      · rw [Array.getElem?_setIfInBounds_ne (by omega), Array.getElem?_setIfInBounds_self_of_lt (by simp; omega)]
      · rw [Array.getElem?_setIfInBounds_self_of_lt (by simp; omega)]
    · obtain ⟨a, b, c⟩ := h3 j (by omega)
      refine ⟨?_, ?_, ?_⟩
      · rw [Array.getElem?_setIfInBounds_ne (by omega), Array.getElem?_setIfInBounds_ne (by omega), Array.getElem?_setIfInBounds_ne (by omega)]; exact a
      · rw [Array.getElem?_setIfInBounds_ne (by omega), Array.getElem?_setIfInBounds_ne (by omega), Array.getElem?_setIfInBounds_ne (by omega)]; exact b
      · rw [Array.getElem?_setIfInBounds_ne (by omega), Array.getElem?_setIfInBounds_ne (by omega), Array.getElem?_setIfInBounds_ne (by omega)]; exact c

set_option maxHeartbeats 800000 in
theorem markCe_any (g cap n K B : Nat) (hs : List Value) (ls : List Nat) (w : World) (hr : CeRow w g hs ls 0 K) (H : HT w B 3 hs ls 0 K) (hd : DistH hs) (hn : ls.length = n) (hl : ∀ j, j < n → ls.getD j 0 ≤ 1000) (ht : K + ofT 3 ls n ≤ 1000000) (hnb : n ≤ 1000) (hBg : B ≤ g) :
    Calls Try.prog 41 #[.slice (some ⟨g, 0, none⟩) n cap, .int .i64 K] w fun e w' => e = .returned (.int .i64 (K + ofT 3 ls n : Nat)) ∧ CeRow w' g hs ls n K ∧ HT w' B 3 hs ls n K ∧ Below B w w' ∧ w'.heap.size = w.heap.size := by
  have HR0 := Lib.hid hr
  have H0 := Lib.hid H
  have HD := Lib.hid hd
  have HN := Lib.hid hn
  have HL := Lib.hid hl
  have HMO := Lib.hid (fun j (hj : j ≤ n) => Nat.le_trans (Nat.add_le_add_left (ofT_mono 3 ls hj) K) ht)
  clear hr H hd hn hl ht
  go_enter Try.func41, Try.ntmps41
  go_wp2
  go_loopw [1, 5] (fun kv iv wr => ∃ (j : Nat), j ≤ n ∧ iv = .int .i64 j ∧ kv = .int .i64 (K + ofT 3 ls j : Nat) ∧ Hid (CeRow wr g hs ls j K) ∧ Hid (HT wr B 3 hs ls j K) ∧ Hid (Below B w wr) ∧ Hid (wr.heap.size = w.heap.size)) (fun _ iv _ => n - (intOf iv).toNat)
  case atStart => exact ⟨0, Nat.zero_le _, rfl, rfl, HR0, H0, Lib.hid (Below.refl _ _), Lib.hid rfl⟩
  case round =>
    clear HR0 H0
    obtain ⟨j, hj, rfl, rfl, HR, HH, HB, HZ⟩ := hrel
    by_cases hlt : j < n
    · obtain ⟨cs, hrow, s1, s2, s3⟩ := HR.out
      have hjl : j < ls.length := by rw [HN.out]; exact hlt
      have HMS := Lib.hid (CeMk.set s1 s2 s3 hjl)
      obtain ⟨A, c2, he, _⟩ := HH.out.lf j hjl
      have HHE := Lib.hid he
      have hlb := HL.out j hlt
      have hkb := HMO.out (j + 1) (by omega)
      have HST : Hid (K + ofT 3 ls (j + 1) = K + ofT 3 ls j + 1 + ls.getD j 0 + 1 + 1) := Lib.hid (by simp only [ofT]; omega)
      rw [HST.out] at hkb
      have hc1 := (hrow.cell (j * 4 + 1)).trans ((s2 j hjl).trans he)
      obtain ⟨old0, hc0⟩ : ∃ u, wr.cell? ⟨g, j * 4, none⟩ = some u := ⟨cs[j * 4]'(by omega), by rw [hrow.cell, Array.getElem?_eq_getElem]⟩
      have hf0 := hrow.frozen (j * 4)
      have HROW := Lib.hid hrow
      have hsz0 : j * 4 < cs.size := by omega
      have hsz2 : j * 4 + 2 < cs.size := by omega
      have hsz3 : j * 4 + 3 < cs.size := by omega
      have hBw : B ≤ wr.heap.size := by have := hrow.lt; omega
      have hgw : g < wr.heap.size := hrow.lt
      have hHT1 := HH.out.set hrow (by decide) (j * 4) (.int .i64 (K + ofT 3 ls j : Nat))
      have HMAIN := Lib.hid (mark_one hHT1 HD.out hjl hlb (by omega) (by simpa [World.setCell] using hBw) he)
      have HR1 := Lib.hid (hrow.set (j * 4) (.int .i64 (K + ofT 3 ls j : Nat)))
      have HB1 := Lib.hid (HB.out.setCell (p := ⟨g, j * 4, none⟩) hBg (.int .i64 (K + ofT 3 ls j : Nat)))
      have hz1 : (wr.setCell ⟨g, j * 4, none⟩ (.int .i64 (K + ofT 3 ls j : Nat))).heap.size = wr.heap.size := by simp [World.setCell]
      have HZ1 := Lib.hid (hz1.trans HZ.out)
      clear hHT1 hz1 hrow s1 s2 s3 he HR
      generalize K + ofT 3 ls j = kk at *
      generalize ls.getD j 0 = ln at *
      go_wp2_with fail
      rw [show (kk : Int) + 1 = ((kk + 1 : Nat) : Int) by omega]
      refine HMAIN.out.mono ?_
      rintro e w2 ⟨rfl, ht2, hb2, hz2, hrows2⟩
      have hr2 := hrows2 _ _ _ (by decide) HR1.out
      have HT2 := Lib.hid ht2
      have HB2 := Lib.hid (HB1.out.trans hb2)
      have HZ2 := Lib.hid (hz2.trans HZ1.out)
      have HR2 := Lib.hid hr2
      obtain ⟨old2, hc2⟩ : ∃ u, w2.cell? ⟨g, j * 4 + 2, none⟩ = some u := ⟨(cs.setIfInBounds (j * 4) (.int .i64 (kk : Nat)))[j * 4 + 2]'(by simpa using hsz2), by rw [hr2.cell, Array.getElem?_eq_getElem]⟩
      obtain ⟨old3, hc3⟩ : ∃ u, w2.cell? ⟨g, j * 4 + 3, none⟩ = some u := ⟨(cs.setIfInBounds (j * 4) (.int .i64 (kk : Nat)))[j * 4 + 3]'(by simpa using hsz3), by rw [hr2.cell, Array.getElem?_eq_getElem]⟩
      have hf2 := hr2.frozen (j * 4 + 2)
      have hf3 := hr2.frozen (j * 4 + 3)
      clear hc1 hc0 hf0
      have hrA := hr2.set (j * 4 + 2) (.int .i64 (kk + 1 + ln : Nat))
      have HTA := HT2.out.set hr2 (by decide) (j * 4 + 2) (.int .i64 (kk + 1 + ln : Nat))
      have HR3 : Hid (CeRow ((w2.setCell ⟨g, j * 4 + 2, none⟩ (.int .i64 (kk + 1 + ln : Nat))).setCell ⟨g, j * 4 + 3, none⟩ (.bool (((kk + 1 + ln + 1 : Nat) : Int) % 3 == 0))) g hs ls (j + 1) K) := Lib.hid ⟨_, hrA.set (j * 4 + 3) (.bool (((kk + 1 + ln + 1 : Nat) : Int) % 3 == 0)), HMS.out.1, HMS.out.2.1, HMS.out.2.2⟩
      have HT3 := Lib.hid (HTA.set hrA (by decide) (j * 4 + 3) (.bool (((kk + 1 + ln + 1 : Nat) : Int) % 3 == 0)))
      have HB3 := Lib.hid ((HB2.out.setCell (p := ⟨g, j * 4 + 2, none⟩) hBg (.int .i64 (kk + 1 + ln : Nat))).setCell (p := ⟨g, j * 4 + 3, none⟩) hBg (.bool (((kk + 1 + ln + 1 : Nat) : Int) % 3 == 0)))
      have HZ3 : Hid (((w2.setCell ⟨g, j * 4 + 2, none⟩ (.int .i64 (kk + 1 + ln : Nat))).setCell ⟨g, j * 4 + 3, none⟩ (.bool (((kk + 1 + ln + 1 : Nat) : Int) % 3 == 0))).heap.size = w.heap.size) := Lib.hid (by rw [show ((w2.setCell ⟨g, j * 4 + 2, none⟩ (.int .i64 (kk + 1 + ln : Nat))).setCell ⟨g, j * 4 + 3, none⟩ (.bool (((kk + 1 + ln + 1 : Nat) : Int) % 3 == 0))).heap.size = w2.heap.size by simp [World.setCell]]; exact HZ2.out)
      clear HMAIN hrows2 ht2 hb2 hz2 hr2 hrA HTA
      have em : ((kk + 1 + ln + 1 : Nat) : Int) = (kk : Int) + 1 + (ln : Int) + 1 := by omega
      rw [em] at HR3 HT3 HB3 HZ3
      clear em
      go_wp2
      rw [show (kk : Int) + 1 + (ln : Int) = ((kk + 1 + ln : Nat) : Int) by omega]
      go_roundw
      case rel => exact ⟨j + 1, by omega, by go_num, by rw [HST.out]; go_num, HR3, HT3, HB3, HZ3⟩
      case measure => simp [intOf]; omega
    · obtain rfl : j = n := by omega
      go_wp2
      go_ret
      exact ⟨rfl, HR.out, HH.out, HB.out, HZ.out⟩

set_option maxHeartbeats 800000 in
theorem heldCe_any (g cap n K B : Nat) (hs : List Value) (ls : List Nat) (w : World) (hr : CeRow w g hs ls n K) (H : HT w B 3 hs ls n K) (hn : ls.length = n) (hl : ∀ j, j < n → ls.getD j 0 ≤ 1000) (ht : K + ofT 3 ls n ≤ 1000000) (hnb : n ≤ 1000) :
    Calls Try.prog 42 #[.slice (some ⟨g, 0, none⟩) n cap, .int .i64 K] w fun e w' => e = .returned (.int .i64 (K + ofT 3 ls n : Nat)) ∧ w = w' := by
  have HR0 := Lib.hid hr
  have H0 := Lib.hid H
  have HN := Lib.hid hn
  have HL := Lib.hid hl
  have HMO := Lib.hid (fun j (hj : j ≤ n) => Nat.le_trans (Nat.add_le_add_left (ofT_mono 3 ls hj) K) ht)
  clear hr H hn hl ht
  go_enter Try.func42, Try.ntmps42
  go_wp2
  go_loop [1, 5] (fun kv iv => ∃ (j : Nat), j ≤ n ∧ iv = .int .i64 j ∧ kv = .int .i64 (K + ofT 3 ls j : Nat)) (fun _ iv => n - (intOf iv).toNat)
  case atStart => exact ⟨0, Nat.zero_le _, rfl, rfl⟩
  case round =>
    obtain ⟨j, hj, rfl, rfl⟩ := hrel
    by_cases hlt : j < n
    · obtain ⟨cs, hrow, s1, s2, s3⟩ := HR0.out
      have hjl : j < ls.length := by rw [HN.out]; exact hlt
      obtain ⟨A, c2, he, _⟩ := H0.out.lf j hjl
      have hlb := HL.out j hlt
      have hkb := HMO.out (j + 1) (by omega)
      have HST : Hid (K + ofT 3 ls (j + 1) = K + ofT 3 ls j + 1 + ls.getD j 0 + 1 + 1) := Lib.hid (by simp only [ofT]; omega)
      rw [HST.out] at hkb
      have hc1 := (hrow.cell (j * 4 + 1)).trans ((s2 j hjl).trans he)
      have hc0 := (hrow.cell (j * 4)).trans (s3 j hlt).1
      have hc2 := (hrow.cell (j * 4 + 2)).trans (s3 j hlt).2.1
      have hc3 := (hrow.cell (j * 4 + 3)).trans (s3 j hlt).2.2
      have HMAIN := Lib.hid (held_one H0.out hlt hjl hlb (by omega) he)
      clear hrow s1 s2 s3 he
      generalize K + ofT 3 ls j = kk at *
      generalize ls.getD j 0 = ln at *
      go_wp2_with fail
      rw [show (kk : Int) + 1 = ((kk + 1 : Nat) : Int) by omega]
      refine HMAIN.out.mono ?_
      rintro e w2 ⟨rfl, rfl⟩
      clear HMAIN
      rw [show ((kk + 1 + ln : Nat) : Int) = (kk : Int) + 1 + (ln : Int) by omega] at hc2
      rw [show ((kk + 1 + ln + 1 : Nat) : Int) = (kk : Int) + 1 + (ln : Int) + 1 by omega] at hc3
      have hk0 : (0 : Int) ≤ (kk : Int) + 1 + (ln : Int) := by omega
      have hk1 : (0 : Int) ≤ (kk : Int) + 1 + (ln : Int) + 1 := by omega
      go_wp2
      go_round
      case rel => exact ⟨j + 1, by omega, by go_num, by rw [HST.out]; go_num⟩
      case measure => simp [intOf]; omega
    · obtain rfl : j = n := by omega
      go_wp2
      go_ret
      exact ⟨rfl, rfl⟩
end Go.Proofs.Ythcpgbfghededaa
