/- The contract of the model's search among cuts. -/
import Derived.Test.YthcpgbfghededaaC2
namespace Go.Proofs.Ythcpgbfghededaa
open Go.RowKit Go.Deep Cut

theorem eq_of_getD {a b : List Nat} (hl : a.length = b.length) (h : ∀ t, t < b.length → a.getD t 0 = b.getD t 0) : a = b := by
  apply List.ext_getElem hl
  intro t h1 h2
  have := h t h2
  simpa [List.getD_eq_getElem?_getD, h1, h2] using this
def SameUp (s : Bool) (xi x : List Nat) (k : Nat) : Prop := (s = true → xi.length = x.length ∧ ∀ t, t < k → xi.getD t 0 = x.getD t 0) ∧ (s = false → xi ≠ x)
theorem SameUp.start (xi x : List Nat) : SameUp (decide (xi.length = x.length)) xi x 0 := by
  refine ⟨fun h => ⟨by simpa using h, fun t ht => absurd ht (by omega)⟩, fun h e => ?_⟩
  subst e
  simp at h
theorem SameUp.step {xi x : List Nat} {k : Nat} (h : SameUp true xi x k) (_hk : k < x.length) : SameUp (decide (xi.getD k 0 = x.getD k 0)) xi x (k + 1) := by
  refine ⟨fun e => ⟨(h.1 rfl).1, fun t ht => ?_⟩, fun e h2 => ?_⟩
  · by_cases e2 : t < k
    · exact (h.1 rfl).2 t e2
    · obtain rfl : t = k := by omega
      simpa using e
  · subst h2
    simp at e
theorem mem_take_step {xs : Cs} {x : List Nat} {k : Nat} (h : x ∉ xs.take k) (hk : k < xs.length) (hne : xs.getD k [] ≠ x) : x ∉ xs.take (k + 1) := by
  rw [take_succ_getD xs k [] hk]
  intro hm
  rcases List.mem_append.1 hm with h1 | h1
  · exact h h1
  · simp at h1
    exact hne (by simpa [List.getD_eq_getElem?_getD] using h1.symm)
theorem getD_mem' {xs : Cs} {k : Nat} (hk : k < xs.length) : xs.getD k [] ∈ xs := by
  rw [List.getD_eq_getElem?_getD, List.getElem?_eq_getElem hk]
  exact List.getElem_mem hk

set_option maxRecDepth 4000 in
set_option maxHeartbeats 1000000 in
theorem l5Has_any (A A' : Option Addr) (n m cap cap' : Nat) (xs : Cs) (x : List Nat) (w : World) (hx : ListAt w w.heap.size A xs) (hy : IntsAt w w.heap.size A' (Opt.intL x)) (hn : xs.length = n) (hm : x.length = m) (hnb : n ≤ 1000) (hmb : m ≤ 1000) (hlb : ∀ k, k < n → (xs.getD k []).length ≤ 1000) :
    Calls Try.prog 98 #[.slice A n cap, .slice A' m cap'] w fun e w' => e = .returned (.bool (decide (x ∈ xs))) ∧ Below w.heap.size w w' := by
  have HX := Lib.hid hx
  have HY := Lib.hid hy
  have HN := Lib.hid hn
  have HM := Lib.hid hm
  have HLB := Lib.hid hlb
  clear hx hy hn hm hlb
  go_enter Try.func98, Try.ntmps98
  go_wp2
  go_loopw [5] (fun iv wr => ∃ i : Nat, i ≤ n ∧ iv = .int .i64 i ∧ Hid (x ∉ xs.take i) ∧ Below w.heap.size w wr) (fun iv _ => n - (intOf iv).toNat)
  case atStart => exact ⟨0, Nat.zero_le _, rfl, Lib.hid (by simp), Below.refl _ _⟩
  case round =>
    obtain ⟨i, hi, rfl, HNM, hbr⟩ := hrel
    by_cases hlt : i < n
    · obtain ⟨b, off, rfl, hbl, B1, c1, hcell, hbx⟩ := HX.out i (by rw [HN.out]; exact hlt)
      have HCELL := Lib.hid hcell
      rw [← hbr.cell (by exact hbl)] at hcell
      have HBX := Lib.hid hbx
      have hlb := HLB.out i hlt
      have HST := Lib.hid (SameUp.start (xs.getD i []) x)
      have HNX := Lib.hid (fun hne => mem_take_step HNM.out (by rw [HN.out]; exact hlt) hne)
      have HIN : Hid (xs.getD i [] ∈ xs) := Lib.hid (getD_mem' (by rw [HN.out]; exact hlt))
      clear hbx
      generalize xs.getD i [] = xi at *
      have hd : (((xi.length : Int) == (m : Int))) = decide (xi.length = m) := by rw [Bool.eq_iff_iff]; simp; omega
      rw [HM.out] at HST
      generalize hs0 : decide (xi.length = m) = s0 at *
      go_wp2
      clear hd
      go_loopw [6, 7] (fun sv kv wk => ∃ (k : Nat) (s : Bool), k ≤ m ∧ kv = .int .i64 k ∧ sv = .bool s ∧ Hid (SameUp s xi x k) ∧ Below w.heap.size w wk) (fun _ kv _ => m - (intOf kv).toNat)
      case atStart => exact ⟨0, s0, Nat.zero_le _, rfl, rfl, HST, hbr⟩
      case round =>
        clear hbr hcell
        obtain ⟨k, s, hk, rfl, rfl, HS, hbk⟩ := hrel
        cases s
        · have HNX2 := Lib.hid (HNX.out (HS.out.2 rfl))
          go_wp2
          go_roundw
          case rel => exact ⟨i + 1, by omega, by go_num, HNX2, hbk⟩
          case measure => simp [intOf]; omega
        · by_cases hkm : k < m
          · have hxl : xi.length = m := by rw [← HM.out]; exact (HS.out.1 rfl).1
            obtain ⟨bx, ox, rfl, hbxl, hcx⟩ := HBX.out k (by rw [Opt.intL_len, hxl]; exact hkm)
            obtain ⟨by', oy, rfl, hbyl, hcy⟩ := HY.out k (by rw [Opt.intL_len, HM.out]; exact hkm)
            have hcell2 : wr.cell? ⟨b, off + i, none⟩ = some (.slice (some ⟨bx, ox, none⟩) m c1) := by rw [hbk.cell (by exact hbl), HCELL.out, hxl]
            rw [← hbk.cell (by exact hbyl), Opt.intL_at] at hcy
            have hcx2 : wr.cell? ⟨bx, ox + k, none⟩ = some (.int .i64 (xi.getD k 0 : Int)) := by rw [hbk.cell (by exact hbxl), hcx, Opt.intL_at]
            have HS2 := Lib.hid (HS.out.step (by rw [HM.out]; exact hkm))
            clear hcx
            generalize xi.getD k 0 = vx at *
            generalize x.getD k 0 = vy at *
            have hd : ((vx : Int) == (vy : Int)) = decide (vx = vy) := by rw [Bool.eq_iff_iff]; simp; omega
            generalize hs1 : decide (vx = vy) = s1 at *
            go_wp2
            go_quiet (fail)
            go_wp2
            clear hd
            go_roundw
            case rel => exact ⟨k + 1, s1, by omega, by go_num, rfl, HS2, below_drewN hbk _⟩
            case measure => simp [intOf]; omega
          · obtain rfl : k = m := by omega
            have HE : Hid (decide (x ∈ xs) = true) := Lib.hid (by
              have h := HS.out.1 rfl
              have e := eq_of_getD h.1 (by rw [HM.out]; exact h.2)
              rw [← e]
              simpa using HIN.out)
            go_wp2
            go_ret
            exact ⟨ret_bool HE.out.symm, hbk⟩
    · obtain rfl : i = n := by omega
      have HE : Hid (decide (x ∈ xs) = false) := Lib.hid (by have := HNM.out; rw [List.take_of_length_le (by rw [HN.out]; exact Nat.le_refl _)] at this; simp [this])
      go_wp2
      go_ret
      exact ⟨ret_bool HE.out.symm, hbr⟩
end Go.Proofs.Ythcpgbfghededaa
