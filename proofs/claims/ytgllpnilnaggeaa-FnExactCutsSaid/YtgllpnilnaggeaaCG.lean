/- The contracts of marks on all cuts. -/
import Derived.Test.YtgllpnilnaggeaaCF
namespace Go.Proofs.Ytgllpnilnaggeaa
open Go.RowKit Go.Deep Cut

/-- How many stand ahead of list r. -/
def sg {α : Type} : List (List α) → Nat → Nat
  | _, 0 => 0
  | [], _ + 1 => 0
  | a :: L, r + 1 => a.length + sg L r
theorem sg_zero {α : Type} (L : List (List α)) : sg L 0 = 0 := by cases L <;> rfl
theorem sg_step {α : Type} : ∀ (L : List (List α)) (r : Nat), r < L.length → sg L (r + 1) = sg L r + (L.getD r []).length
  | [], r, h => by simp at h
  | a :: L, 0, _ => by simp [sg]
  | a :: L, r + 1, h => by
    have := sg_step L r (by simpa using h)
    simp only [sg] at this ⊢
    rw [this]
    simp
    omega
theorem sg_all {α : Type} : ∀ (L : List (List α)), sg L L.length = L.flatten.length
  | [] => rfl
  | a :: L => by simp [sg, sg_all L]
theorem sg_mono {α : Type} (L : List (List α)) {r : Nat} (h : r ≤ L.length) : sg L r ≤ L.flatten.length := by
  rw [← sg_all]
  obtain ⟨d, hd⟩ := Nat.le.dest h
  rw [← hd]
  have : ∀ d, r + d ≤ L.length → sg L r ≤ sg L (r + d) := fun d => by
    induction d with
    | zero => intro _; exact Nat.le_refl _
    | succ d ih =>
      intro h
      have h1 := sg_step L (r + d) (by omega)
      have h2 := ih (by omega)
      show _ ≤ sg L (r + d + 1)
      omega
  exact this d (by omega)
theorem flat_get {α : Type} : ∀ (L : List (List α)) (r j : Nat), r < L.length → j < (L.getD r []).length → L.flatten[sg L r + j]? = (L.getD r [])[j]?
  | [], r, _, h, _ => by simp at h
  | a :: L, 0, j, _, hj => by
    simp at hj
    simp [sg, List.getElem?_append_left hj]
  | a :: L, r + 1, j, h, hj => by
    have := flat_get L r j (by simpa using h) (by simpa using hj)
    simp only [sg, List.flatten_cons]
    rw [List.getElem?_append_right (by omega), show a.length + sg L r + j - a.length = sg L r + j by omega, this]
    simp
theorem flat_split {α : Type} : ∀ (L : List (List α)) (i : Nat), i < L.flatten.length → ∃ r j, r < L.length ∧ j < (L.getD r []).length ∧ i = sg L r + j
  | [], i, h => by simp at h
  | a :: L, i, h => by
    by_cases h1 : i < a.length
    · exact ⟨0, i, by simp, by simpa using h1, by simp [sg]⟩
    · obtain ⟨r, j, hr, hj, e⟩ := flat_split L (i - a.length) (by rw [List.flatten_cons, List.length_append] at h; omega)
      exact ⟨r + 1, j, by simpa using hr, by simpa using hj, by simp only [sg]; omega⟩
theorem sg_congr {α β : Type} : ∀ (L : List (List α)) (M : List (List β)) (r : Nat), L.length = M.length → (∀ k, k < L.length → (L.getD k []).length = (M.getD k []).length) → sg L r = sg M r
  | [], [], r, _, _ => by cases r <;> rfl
  | [], _ :: _, _, h, _ => by simp at h
  | _ :: _, [], _, h, _ => by simp at h
  | a :: L, b :: M, 0, _, _ => rfl
  | a :: L, b :: M, r + 1, h, hk => by
    have h0 := hk 0 (by simp)
    have := sg_congr L M r (by simpa using h) (fun k hk' => by have := hk (k + 1) (by simpa using hk'); simpa using this)
    simp only [sg]
    simp at h0
    omega

/-- All lists of lists in memory. -/
structure Tree (w : World) (B g : Nat) (HH : List (List Value)) : Prop where
  top : ∃ cells, Row w g 30 cells ∧ ∀ r, r < HH.length → ∃ (hb cap : Nat) (hc : Array Value), cells[r]? = some (.slice (some ⟨hb, 0, none⟩) (HH.getD r []).length cap) ∧ Row w hb 23 hc ∧ ∀ j, j < (HH.getD r []).length → hc[j]? = (HH.getD r [])[j]?
theorem Tree.only {w w' : World} {B g : Nat} {HH : List (List Value)} (h : Tree w B g HH) (ho : OnlyI B w w') : Tree w' B g HH := by
  obtain ⟨cells, hr, hk⟩ := h.top
  exact ⟨cells, ho.rows _ _ _ (by decide) hr, fun r hr' => by
    obtain ⟨hb, cap, hc, e, h1, h2⟩ := hk r hr'
    exact ⟨hb, cap, hc, e, ho.rows _ _ _ (by decide) h1, h2⟩⟩
theorem Tree.on {w w' : World} {B g : Nat} {HH : List (List Value)} (h : Tree w B g HH) (hb : Below w.heap.size w w') : Tree w' B g HH := by
  obtain ⟨cells, hr, hk⟩ := h.top
  exact ⟨cells, hr.below hb hr.lt, fun r hr' => by
    obtain ⟨b, cap, hc, e, h1, h2⟩ := hk r hr'
    exact ⟨b, cap, hc, e, h1.below hb h1.lt, h2⟩⟩
theorem AllAt.tree {w : World} {B g cap : Nat} {cs : List Cs} {HH : List (List Value)} (h : AllAt w B cs HH g cap) : Tree w B g HH := by
  obtain ⟨hs, h1, h2⟩ := h
  obtain ⟨cur, hrow, _, hnc, _, hcs, hhl, hget⟩ := own_parts h1
  refine ⟨cur, hrow, fun r hr => ?_⟩
  have hr' : r < cs.length := by rw [← h2.2.1]; exact hr
  obtain ⟨A, c, e, hR⟩ := h2.2.2 r hr'
  obtain ⟨⟨b, hc, eA, _, hrb, hcb⟩, hH⟩ := hR
  subst eA
  exact ⟨b, c, hc, by rw [hget r hr', e, hH.1], hrb, hcb⟩
/-- The lengths of all cuts. -/
def lens (cs : List Cs) : List (List Nat) := cs.map fun c => c.map List.length
theorem lens_get (cs : List Cs) (r : Nat) : (lens cs).getD r [] = (cs.getD r []).map List.length := by
  unfold lens
  simp only [List.getD_eq_getElem?_getD, List.getElem?_map]
  cases cs[r]? <;> simp
theorem AllAt.hm {w : World} {B g cap : Nat} {cs : List Cs} {HH : List (List Value)} (h : AllAt w B cs HH g cap) (K : Nat) : HM w B HH.flatten (lens cs).flatten 0 K := by
  obtain ⟨hs, h1, h2⟩ := h
  have hL : (lens cs).length = cs.length := by simp [lens]
  have hk : ∀ k, k < (lens cs).length → ((lens cs).getD k []).length = (HH.getD k []).length := fun k hk => by
    obtain ⟨A, c, _, hR⟩ := h2.2.2 k (by omega)
    rw [lens_get, List.length_map]
    exact hR.2.1.symm
  have hHL : (lens cs).length = HH.length := by rw [hL, h2.2.1]
  have hlen : HH.flatten.length = (lens cs).flatten.length := by
    rw [← sg_all, ← sg_all, ← hHL]
    exact (sg_congr (lens cs) HH _ hHL hk).symm
  refine ⟨hlen, fun i hi => ?_⟩
  obtain ⟨r, j, hr, hj, e⟩ := flat_split (lens cs) i hi
  have hr' : r < cs.length := by omega
  obtain ⟨A, c, _, hR⟩ := h2.2.2 r hr'
  have hjr := hk r hr
  have hjc : j < (cs.getD r []).length := by rw [lens_get, List.length_map] at hj; exact hj
  obtain ⟨A', c', e', hx⟩ := hR.2.2 j hjc
  have g1 : HH.flatten[i]? = (HH.getD r [])[j]? := by
    rw [e, sg_congr (lens cs) HH r hHL hk]
    exact flat_get HH r j (by omega) (by omega)
  have g2 : (lens cs).flatten.getD i 0 = ((cs.getD r []).getD j []).length := by
    rw [List.getD_eq_getElem?_getD, e, flat_get (lens cs) r j hr hj, lens_get, List.getElem?_map, List.getElem?_eq_getElem hjc]
    rw [List.getD_eq_getElem?_getD (l := cs.getD r []), List.getElem?_eq_getElem hjc]
    rfl
  refine ⟨A', c', by rw [g1, g2]; exact e', ?_⟩
  rw [g2]
  rcases hx with hx | ⟨b, cs', eA, hS, hrb, hcb⟩
  · exact .inl (by rw [hx]; rfl)
  · refine .inr ⟨b, cs', eA, hS.1, hrb, ?_, fun h => absurd h (by omega)⟩
    rcases Nat.lt_or_ge cs'.size ((cs.getD r []).getD j []).length with h | h
    · have := hcb cs'.size h
      simp at this
    · exact h

set_option maxHeartbeats 800000 in
theorem markSSS_any (g cap n K B : Nat) (HH : List (List Value)) (ls : List Nat) (w : World) (hT : Tree w B g HH) (H : HM w B HH.flatten ls 0 K) (hd : DistH HH.flatten) (hn : HH.length = n) (hl : ∀ j, j < ls.length → ls.getD j 0 ≤ 1000) (ht : K + ofs ls HH.flatten.length ≤ 100000000) (hf : HH.flatten.length ≤ 1000000) (hnb : n ≤ 1000) (hBs : B ≤ w.heap.size) :
    Calls Try.prog 32 #[.slice (some ⟨g, 0, none⟩) n cap, .int .i64 K] w fun e w' => e = .returned (.int .i64 (K + ofs ls HH.flatten.length : Nat)) ∧ HM w' B HH.flatten ls HH.flatten.length K ∧ OnlyI B w w' := by
  have HT := Lib.hid hT
  have H0 := Lib.hid H
  have HD := Lib.hid hd
  have HL := Lib.hid hl
  have HN := Lib.hid hn
  have HLN := Lib.hid H.len
  have HMO := Lib.hid (fun j (hj : j ≤ HH.flatten.length) => Nat.le_trans (Nat.add_le_add_left (ofs_mono ls hj) K) ht)
  have HSA : Hid (sg HH n = HH.flatten.length) := Lib.hid (by rw [← hn]; exact sg_all HH)
  have HSM := Lib.hid (fun r (hr : r ≤ n) => sg_mono HH (r := r) (by omega))
  clear hT H hd hl hn ht
  go_enter Try.func32, Try.ntmps32
  go_wp2
  go_loopw [1, 5] (fun kv iv wr => ∃ (r : Nat), r ≤ n ∧ iv = .int .i64 r ∧ kv = .int .i64 (K + ofs ls (sg HH r) : Nat) ∧ Hid (HM wr B HH.flatten ls (sg HH r) K) ∧ Hid (OnlyI B w wr)) (fun _ iv _ => n - (intOf iv).toNat)
  case atStart => exact ⟨0, Nat.zero_le _, rfl, by rw [sg_zero]; rfl, Lib.hid (by rw [sg_zero]; exact H0.out), Lib.hid (OnlyI.refl _ _)⟩
  case round =>
    clear H0
    obtain ⟨r, hr, rfl, rfl, HH1, HO⟩ := hrel
    by_cases hlt : r < n
    · have hrH : r < HH.length := by rw [HN.out]; exact hlt
      obtain ⟨cells, hrow, hk⟩ := (HT.out.only HO.out).top
      obtain ⟨hb, c2, hc, e, h1, h2⟩ := hk r hrH
      have hcell : wr.cell? ⟨g, r, none⟩ = some (.slice (some ⟨hb, 0, none⟩) (HH.getD r []).length c2) := by rw [hrow.cell]; exact e
      have hst := sg_step HH r hrH
      have hm2 := HSM.out (r + 1) (by omega)
      have HST := Lib.hid hst
      have HR1 := Lib.hid h1
      have HC := Lib.hid h2
      have HFG := Lib.hid (fun j hj => flat_get HH r j hrH hj)
      have hszw := HO.out.size
      have hlen := HLN.out
      clear hrow hk e h1 h2 hrH
      have hcg := HMO.out (sg HH (r + 1)) hm2
      have HGG : Hid (∀ j, j < (HH.getD r []).length → hc[j]? = HH.flatten[sg HH r + j]?) := Lib.hid (fun j hj => by rw [HFG.out j hj]; exact HC.out j hj)
      clear HFG HC
      generalize (HH.getD r []).length = ln at *
      rw [hst] at hcg hm2
      go_wp2_with fail
      refine (markSeg_any hb c2 ln (sg HH r) K B HH.flatten ls hc _ HR1.out HGG.out HH1.out HD.out (by omega) HL.out hcg (by omega) (by omega)).mono ?_
      rintro e w' ⟨rfl, h3, h4⟩
      have H3 : Hid (HM w' B HH.flatten ls (sg HH (r + 1)) K) := Lib.hid (by rw [HST.out]; exact h3)
      have H4 := Lib.hid (HO.out.trans h4)
      clear h3 h4 hst hcg hm2
      go_wp2
      go_roundw
      case rel => exact ⟨r + 1, by omega, by go_num, by rw [HST.out]; go_num, H3, H4⟩
      case measure => simp [intOf]; omega
    · obtain rfl : r = n := by omega
      rw [HSA.out] at HH1 ⊢
      go_wp2
      go_ret
      exact ⟨rfl, HH1.out, HO.out⟩
set_option maxHeartbeats 800000 in
theorem heldSSS_any (g cap n K B : Nat) (HH : List (List Value)) (ls : List Nat) (w : World) (hT : Tree w B g HH) (H : HM w B HH.flatten ls HH.flatten.length K) (hn : HH.length = n) (hl : ∀ j, j < ls.length → ls.getD j 0 ≤ 1000) (ht : K + ofs ls HH.flatten.length ≤ 100000000) (hf : HH.flatten.length ≤ 1000000) (hnb : n ≤ 1000) :
    Calls Try.prog 33 #[.slice (some ⟨g, 0, none⟩) n cap, .int .i64 K] w fun e w' => e = .returned (.int .i64 (K + ofs ls HH.flatten.length : Nat)) ∧ w = w' := by
  have HT := Lib.hid hT
  have H0 := Lib.hid H
  have HL := Lib.hid hl
  have HN := Lib.hid hn
  have HLN := Lib.hid H.len
  have HMO := Lib.hid (fun j (hj : j ≤ HH.flatten.length) => Nat.le_trans (Nat.add_le_add_left (ofs_mono ls hj) K) ht)
  have HSA : Hid (sg HH n = HH.flatten.length) := Lib.hid (by rw [← hn]; exact sg_all HH)
  have HSM := Lib.hid (fun r (hr : r ≤ n) => sg_mono HH (r := r) (by omega))
  clear hT H hl hn ht
  go_enter Try.func33, Try.ntmps33
  go_wp2
  go_loop [1, 5] (fun kv iv => ∃ (r : Nat), r ≤ n ∧ iv = .int .i64 r ∧ kv = .int .i64 (K + ofs ls (sg HH r) : Nat)) (fun _ iv => n - (intOf iv).toNat)
  case atStart => exact ⟨0, Nat.zero_le _, rfl, by rw [sg_zero]; rfl⟩
  case round =>
    obtain ⟨r, hr, rfl, rfl⟩ := hrel
    by_cases hlt : r < n
    · have hrH : r < HH.length := by rw [HN.out]; exact hlt
      obtain ⟨cells, hrow, hk⟩ := HT.out.top
      obtain ⟨hb, c2, hc, e, h1, h2⟩ := hk r hrH
      have hcell : w.cell? ⟨g, r, none⟩ = some (.slice (some ⟨hb, 0, none⟩) (HH.getD r []).length c2) := by rw [hrow.cell]; exact e
      have hst := sg_step HH r hrH
      have hm2 := HSM.out (r + 1) (by omega)
      have HST := Lib.hid hst
      have HR1 := Lib.hid h1
      have HC := Lib.hid h2
      have HFG := Lib.hid (fun j hj => flat_get HH r j hrH hj)
      have hlen := HLN.out
      clear hrow hk e h1 h2 hrH
      have hcg := HMO.out (sg HH (r + 1)) hm2
      have HGG : Hid (∀ j, j < (HH.getD r []).length → hc[j]? = HH.flatten[sg HH r + j]?) := Lib.hid (fun j hj => by rw [HFG.out j hj]; exact HC.out j hj)
      clear HFG HC
      generalize (HH.getD r []).length = ln at *
      rw [hst] at hcg hm2
      go_wp2_with fail
      refine (heldSeg_any hb c2 ln (sg HH r) K B HH.flatten.length HH.flatten ls hc _ HR1.out HGG.out H0.out hm2 (by omega) HL.out hcg (by omega)).mono ?_
      rintro e w' ⟨rfl, rfl⟩
      have HE : Hid (K + ofs ls (sg HH r + ln) = K + ofs ls (sg HH (r + 1))) := Lib.hid (by rw [HST.out])
      clear hst hm2 HST
      generalize K + ofs ls (sg HH r + ln) = kk at *
      go_wp2
      go_round
      case rel => exact ⟨r + 1, by omega, by go_num, by rw [HE.out]⟩
      case measure => simp [intOf]; omega
    · obtain rfl : r = n := by omega
      rw [HSA.out]
      have := HMO.out HH.flatten.length (Nat.le_refl _)
      go_wp2
      go_ret
      exact ⟨rfl, rfl⟩
end Go.Proofs.Ytgllpnilnaggeaa
