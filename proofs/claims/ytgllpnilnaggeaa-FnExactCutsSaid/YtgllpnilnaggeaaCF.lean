/- The contracts of marks on lists of lists of cuts. -/
import Derived.Test.YtgllpnilnaggeaaCE
namespace Go.Proofs.Ytgllpnilnaggeaa
open Go.RowKit Go.Deep Cut

def ofs (ls : List Nat) : Nat → Nat
  | 0 => 0
  | j + 1 => ofs ls j + ls.getD j 0
theorem ofs_mono (ls : List Nat) {j l : Nat} (h : j ≤ l) : ofs ls j ≤ ofs ls l := by
  induction l with
  | zero => obtain rfl : j = 0 := by omega
            exact Nat.le_refl _
  | succ l ih =>
    by_cases e : j = l + 1
    · subst e; exact Nat.le_refl _
    · have := ih (by omega)
      simp only [ofs]
      omega
/-- Slices of integers in blocks of their own from B on, the first m of them marked from K on. -/
structure HM (w : World) (B : Nat) (hs : List Value) (ls : List Nat) (m K : Nat) : Prop where
  len : hs.length = ls.length
  lf : ∀ j, j < ls.length → ∃ (A : Option Addr) (cap : Nat), hs[j]? = some (.slice A (ls.getD j 0) cap) ∧ (ls.getD j 0 = 0 ∨ ∃ (b : Nat) (cs : Array Value), A = some ⟨b, 0, none⟩ ∧ B ≤ b ∧ Row w b 3 cs ∧ ls.getD j 0 ≤ cs.size ∧ (j < m → MarksC cs (K + ofs ls j) (ls.getD j 0)))
theorem HM.on {w w' : World} {B m K : Nat} {hs : List Value} {ls : List Nat} (h : HM w B hs ls m K) (hb : Below w.heap.size w w') : HM w' B hs ls m K := ⟨h.len, fun j hj => by
  obtain ⟨A, cap, e, h1⟩ := h.lf j hj
  refine ⟨A, cap, e, ?_⟩
  rcases h1 with h1 | ⟨b, cs, e1, h2, h3, h4, h5⟩
  · exact .inl h1
  · exact .inr ⟨b, cs, e1, h2, h3.below hb h3.lt, h4, h5⟩⟩
/-- Only integers from B on have turned. -/
structure OnlyI (B : Nat) (w w' : World) : Prop where
  low : Below B w w'
  size : w'.heap.size = w.heap.size
  rows : ∀ b t cs, t ≠ 3 → Row w b t cs → Row w' b t cs
theorem OnlyI.refl (B : Nat) (w : World) : OnlyI B w w := ⟨Below.refl _ _, rfl, fun _ _ _ _ h => h⟩
theorem OnlyI.trans {B : Nat} {a b c : World} (h : OnlyI B a b) (k : OnlyI B b c) : OnlyI B a c := ⟨h.low.trans k.low, k.size.trans h.size, fun b t cs ht hr => k.rows b t cs ht (h.rows b t cs ht hr)⟩
theorem Only.onlyI {B b : Nat} {w w' : World} {cs : Array Value} (h : Only (some b) w w') (hB : B ≤ b) (hBs : B ≤ w.heap.size) (hr : Row w b 3 cs) : OnlyI B w w' :=
  ⟨h.below (B := B) (fun _ e => by injection e; omega) hBs, h.size, fun b' t cs' ht hr' => h.row hr' (fun e => by injection e with e; exact hr'.ne hr ht e)⟩
/-- One more slice is marked. -/
theorem HM.mark {w w' : World} {B m K b : Nat} {hs : List Value} {ls : List Nat} {cs' : Array Value} {cap : Nat} (h : HM w B hs ls m K) (hd : DistH hs) (hm : m < ls.length) (he : hs[m]? = some (.slice (some ⟨b, 0, none⟩) (ls.getD m 0) cap)) (hpos : 0 < ls.getD m 0)
    (ho : Only (some b) w w') (hB : B ≤ b) (hr : Row w' b 3 cs') (hs' : ls.getD m 0 ≤ cs'.size) (hk : MarksC cs' (K + ofs ls m) (ls.getD m 0)) : HM w' B hs ls (m + 1) K := ⟨h.len, fun j hj => by
  by_cases e : j = m
  · subst e
    exact ⟨_, cap, he, .inr ⟨b, cs', rfl, hB, hr, hs', fun _ => hk⟩⟩
  · obtain ⟨A, cap2, e2, h1⟩ := h.lf j hj
    refine ⟨A, cap2, e2, ?_⟩
    rcases h1 with h1 | ⟨b2, cs2, e1, h2, h3, h4, h5⟩
    · exact .inl h1
    · by_cases hz : ls.getD j 0 = 0
      · exact .inl hz
      · refine .inr ⟨b2, cs2, e1, h2, ho.row h3 (fun eb => ?_), h4, fun hjm => h5 (by omega)⟩
        injection eb with eb
        subst eb e1
        have v1 : vblk (.slice (some ⟨b2, 0, none⟩) (ls.getD j 0) cap2) = some b2 := by
          obtain ⟨q, hq⟩ : ∃ q, ls.getD j 0 = q + 1 := ⟨ls.getD j 0 - 1, by omega⟩
          rw [hq]; rfl
        have v2 : vblk (.slice (some ⟨b2, 0, none⟩) (ls.getD m 0) cap) = some b2 := by
          obtain ⟨q, hq⟩ : ∃ q, ls.getD m 0 = q + 1 := ⟨ls.getD m 0 - 1, by omega⟩
          rw [hq]; rfl
        rcases Nat.lt_or_gt_of_ne e with h6 | h6
        · exact hd j m h6 _ _ e2 he b2 v1 v2
        · exact hd m j h6 _ _ he e2 b2 v2 v1⟩
theorem HM.skip {w : World} {B m K : Nat} {hs : List Value} {ls : List Nat} (h : HM w B hs ls m K) (hz : ls.getD m 0 = 0) : HM w B hs ls (m + 1) K := ⟨h.len, fun j hj => by
  obtain ⟨A, cap, e, h1⟩ := h.lf j hj
  refine ⟨A, cap, e, ?_⟩
  rcases h1 with h1 | ⟨b, cs, e1, h2, h3, h4, h5⟩
  · exact .inl h1
  · by_cases hj2 : j = m
    · subst hj2; exact .inl hz
    · exact .inr ⟨b, cs, e1, h2, h3, h4, fun h => h5 (by omega)⟩⟩

set_option maxHeartbeats 800000 in
theorem markSeg_any (hb cap n s K B : Nat) (hs : List Value) (ls : List Nat) (hc : Array Value) (w : World) (hr : Row w hb 23 hc) (hg : ∀ j, j < n → hc[j]? = hs[s + j]?) (H : HM w B hs ls s K) (hd : DistH hs) (hsn : s + n ≤ ls.length) (hl : ∀ j, j < ls.length → ls.getD j 0 ≤ 1000) (ht : K + ofs ls (s + n) ≤ 100000000) (hn : n ≤ 1000000) (hBs : B ≤ w.heap.size) :
    Calls Try.prog 66 #[.slice (some ⟨hb, 0, none⟩) n cap, .int .i64 (K + ofs ls s : Nat)] w fun e w' => e = .returned (.int .i64 (K + ofs ls (s + n) : Nat)) ∧ HM w' B hs ls (s + n) K ∧ OnlyI B w w' := by
  have HR := Lib.hid hr
  have HG := Lib.hid hg
  have H0 := Lib.hid H
  have HD := Lib.hid hd
  have HL := Lib.hid hl
  have HMO := Lib.hid (fun j (hj : j ≤ n) => Nat.le_trans (Nat.add_le_add_left (ofs_mono ls (j := s + j) (l := s + n) (by omega)) K) ht)
  clear hr hg H hd hl ht
  go_enter Try.func66, Try.ntmps66
  go_wp2
  go_loopw [1, 5] (fun kv iv wr => ∃ (j : Nat), j ≤ n ∧ iv = .int .i64 j ∧ kv = .int .i64 (K + ofs ls (s + j) : Nat) ∧ Hid (HM wr B hs ls (s + j) K) ∧ Hid (OnlyI B w wr)) (fun _ iv _ => n - (intOf iv).toNat)
  case atStart => exact ⟨0, Nat.zero_le _, rfl, rfl, H0, Lib.hid (OnlyI.refl _ _)⟩
  case round =>
    clear H0
    obtain ⟨j, hj, rfl, rfl, HH, HO⟩ := hrel
    by_cases hlt : j < n
    · obtain ⟨A, c2, he, hlf⟩ := HH.out.lf (s + j) (by omega)
      have hcell : wr.cell? ⟨hb, j, none⟩ = some (.slice A (ls.getD (s + j) 0) c2) := by rw [(HO.out.rows hb _ _ (by decide) HR.out).cell, HG.out j hlt]; exact he
      have HST : Hid (K + ofs ls (s + (j + 1)) = K + ofs ls (s + j) + ls.getD (s + j) 0) := Lib.hid (by rw [show s + (j + 1) = (s + j) + 1 by omega]; simp only [ofs]; omega)
      have hlb := HL.out (s + j) (by omega)
      have hkb := HMO.out j (by omega)
      have hszw := HO.out.size
      rcases hlf with hz | ⟨b, cs, rfl, hBb, hrow, hsz, _⟩
      · have HS2 : Hid (HM wr B hs ls (s + (j + 1)) K) := Lib.hid (HH.out.skip hz)
        rw [hz] at hcell HST
        generalize K + ofs ls (s + j) = kk at *
        go_wp2_with fail
        refine (markNone_any A c2 kk _).mono ?_
        rintro e w' ⟨rfl, rfl⟩
        rw [← HST.out]
        go_wp2
        go_roundw
        case rel => exact ⟨j + 1, by omega, by go_num, rfl, HS2, HO⟩
        case measure => simp [intOf]; omega
      · by_cases hz : ls.getD (s + j) 0 = 0
        · have HS2 : Hid (HM wr B hs ls (s + (j + 1)) K) := Lib.hid (HH.out.skip hz)
          rw [hz] at hcell HST
          generalize K + ofs ls (s + j) = kk at *
          go_wp2_with fail
          refine (markNone_any _ c2 kk _).mono ?_
          rintro e w' ⟨rfl, rfl⟩
          rw [← HST.out]
          go_wp2
          go_roundw
          case rel => exact ⟨j + 1, by omega, by go_num, rfl, HS2, HO⟩
          case measure => simp [intOf]; omega
        · have HMK := Lib.hid (fun w' cs' ho hr' hs' hk => HH.out.mark (w' := w') (cs' := cs') HD.out (by omega) he (by omega) ho hBb hr' hs' hk)
          have HRW := Lib.hid hrow
          clear hrow he
          generalize hkk : K + ofs ls (s + j) = kk at *
          generalize ls.getD (s + j) 0 = ln at *
          go_wp2_with fail
          refine (markLeaf_any b ln c2 kk cs _ HRW.out hsz (by omega) (by omega)).mono ?_
          rintro e w' ⟨rfl, ⟨cs', hr', hs', hm'⟩, ho⟩
          have HS2 : Hid (HM w' B hs ls (s + (j + 1)) K) := Lib.hid (HMK.out w' cs' ho hr' (by omega) hm')
          have HO2 := Lib.hid (HO.out.trans (ho.onlyI hBb (by omega) HRW.out))
          clear hr' hs' hm' ho HRW HMK
          rw [← HST.out]
          go_wp2
          go_roundw
          case rel => exact ⟨j + 1, by omega, by go_num, rfl, HS2, HO2⟩
          case measure => simp [intOf]; omega
    · obtain rfl : j = n := by omega
      go_wp2
      go_ret
      exact ⟨rfl, HH.out, HO.out⟩

set_option maxHeartbeats 800000 in
theorem heldSeg_any (hb cap n s K B m : Nat) (hs : List Value) (ls : List Nat) (hc : Array Value) (w : World) (hr : Row w hb 23 hc) (hg : ∀ j, j < n → hc[j]? = hs[s + j]?) (H : HM w B hs ls m K) (hmm : s + n ≤ m) (hsn : s + n ≤ ls.length) (hl : ∀ j, j < ls.length → ls.getD j 0 ≤ 1000) (ht : K + ofs ls (s + n) ≤ 100000000) (hn : n ≤ 1000000) :
    Calls Try.prog 67 #[.slice (some ⟨hb, 0, none⟩) n cap, .int .i64 (K + ofs ls s : Nat)] w fun e w' => e = .returned (.int .i64 (K + ofs ls (s + n) : Nat)) ∧ w = w' := by
  have HR := Lib.hid hr
  have HG := Lib.hid hg
  have H0 := Lib.hid H
  have HL := Lib.hid hl
  have HMO := Lib.hid (fun j (hj : j ≤ n) => Nat.le_trans (Nat.add_le_add_left (ofs_mono ls (j := s + j) (l := s + n) (by omega)) K) ht)
  clear hr hg H hl ht
  go_enter Try.func67, Try.ntmps67
  go_wp2
  go_loop [1, 5] (fun kv iv => ∃ (j : Nat), j ≤ n ∧ iv = .int .i64 j ∧ kv = .int .i64 (K + ofs ls (s + j) : Nat)) (fun _ iv => n - (intOf iv).toNat)
  case atStart => exact ⟨0, Nat.zero_le _, rfl, rfl⟩
  case round =>
    obtain ⟨j, hj, rfl, rfl⟩ := hrel
    by_cases hlt : j < n
    · obtain ⟨A, c2, he, hlf⟩ := H0.out.lf (s + j) (by omega)
      have hcell : w.cell? ⟨hb, j, none⟩ = some (.slice A (ls.getD (s + j) 0) c2) := by rw [HR.out.cell, HG.out j hlt]; exact he
      have HST : Hid (K + ofs ls (s + (j + 1)) = K + ofs ls (s + j) + ls.getD (s + j) 0) := Lib.hid (by rw [show s + (j + 1) = (s + j) + 1 by omega]; simp only [ofs]; omega)
      have hlb := HL.out (s + j) (by omega)
      have hkb := HMO.out j (by omega)
      have hkb2 := HMO.out (j + 1) (by omega)
      have main : Hid (Calls Try.prog 69 #[.slice A (ls.getD (s + j) 0) c2, .int .i64 (K + ofs ls (s + j) : Nat)] w fun e w' => e = .returned (.int .i64 (K + ofs ls (s + (j + 1)) : Nat)) ∧ w = w') := Lib.hid (by
        by_cases hz : ls.getD (s + j) 0 = 0
        · rw [HST.out, hz]
          exact heldNone_any A c2 _ w
        · rcases hlf with h | ⟨b, cs, rfl, hBb, hrow, hsz, hmk⟩
          · exact absurd h hz
          · rw [HST.out]
            exact heldLeaf_any b _ c2 _ cs w hrow (hmk (by omega)) (by omega) (by omega))
      clear hlf he HST
      generalize ls.getD (s + j) 0 = ln at *
      generalize hk1 : K + ofs ls (s + (j + 1)) = k1 at *
      have HK1 := Lib.hid hk1
      clear hk1
      go_wp2_with fail
      refine main.out.mono ?_
      rintro e w' ⟨rfl, rfl⟩
      go_wp2
      go_round
      case rel => exact ⟨j + 1, by omega, by go_num, by rw [HK1.out]⟩
      case measure => simp [intOf]; omega
    · obtain rfl : j = n := by omega
      have := HMO.out j (by omega)
      go_wp2
      go_ret
      exact ⟨rfl, rfl⟩
end Go.Proofs.Ytgllpnilnaggeaa
