/- MapLuts of any circuit, both sides; contains. -/
import Derived.Test.YtliedgaefgomjaaGreatN4
import Derived.Test.YtliedgaefgomjaaGreatN7
import Derived.Test.YtliedgaefgomjaaGreatQD
namespace Go.Proofs.YtliedgaefgomjaaGreat
open Go.RowKit Go.Deep Cut

/-- The lookup tables of any circuit. -/
def mapV (i : Int) (ns : List Int) (gs : List (Int × Int)) (os : List Int) : List Lt := if Circ.validB i ns gs os = true then lutsV (Opt.fst i ns) (Opt.natG gs) (Opt.natL ns) (Opt.natL os) else []
theorem mapV_k {i : Int} {ns : List Int} {gs : List (Int × Int)} {os : List Int} (hv : Circ.validB i ns gs os = true) : LutK (Opt.fst i ns) (Opt.natG gs) (Opt.natL ns) (Opt.natL os) (mapV i ns gs os) := by
  obtain ⟨k0, k1⟩ := Opt.natC_ok hv
  unfold mapV
  rw [hv, if_pos rfl]
  exact lutsV_k k0 k1.ord (fun r hr => k1.root r hr)
theorem mapV_f {i : Int} {ns : List Int} {gs : List (Int × Int)} {os : List Int} (hv : Circ.validB i ns gs os = false) : mapV i ns gs os = [] := by
  unfold mapV
  rw [hv, if_neg (by simp)]
theorem mapV_bd (i : Int) (ns : List Int) (gs : List (Int × Int)) (os : List Int) : (mapV i ns gs os).length ≤ 14 ∧ ∀ k, k < (mapV i ns gs os).length → ((mapV i ns gs os).getD k (0, [], 0)).1 ≤ 22 ∧ ((mapV i ns gs os).getD k (0, [], 0)).2.1.length ≤ 3 ∧ ((mapV i ns gs os).getD k (0, [], 0)).2.2 < 256 := by
  cases hv : Circ.validB i ns gs os
  · rw [mapV_f hv]; exact ⟨by simp, fun k hk => absurd hk (by simp)⟩
  · have K := mapV_k hv
    obtain ⟨h0, h1, h2, h3, h4⟩ := Circ.valid_within hv
    have hgl : (Opt.natG gs).length = gs.length := Opt.natG_len gs
    have hf : Opt.fst i ns ≤ 8 := by unfold Opt.fst; omega
    exact ⟨by have := K.len; omega, fun k hk => by have := K.bd k hk; omega⟩

set_option maxHeartbeats 400000 in
theorem lawHas_any (A : Option Addr) (n cap B : Nat) (xs : List Nat) (y : Nat) (w : World) (hx : IntsAt w B A (Opt.intL xs)) (hn : xs.length = n) (hnb : n ≤ 1000) :
    Calls Tryz.prog 11 #[.slice A n cap, .int .i64 y] w fun e w' => e = .returned (.bool (xs.contains y)) ∧ w = w' := by
  have HX := Lib.hid hx
  have HN := Lib.hid hn
  clear hx hn
  go_enter Tryz.func11, Tryz.ntmps11
  go_wp2
  go_loop [5] (fun iv => ∃ (k : Nat), k ≤ n ∧ iv = .int .i64 k ∧ Hid (∀ j, j < k → xs.getD j 0 ≠ y)) (fun iv => n - (intOf iv).toNat)
  case atStart => exact ⟨0, Nat.zero_le _, rfl, Lib.hid (fun j hj => by omega)⟩
  case round =>
    obtain ⟨k, hk, rfl, HNO⟩ := hrel
    by_cases hlt : k < n
    · obtain ⟨b, off, rfl, hbl, hcell⟩ := HX.out k (by rw [Opt.intL_len, HN.out]; exact hlt)
      rw [Opt.intL_at] at hcell
      by_cases he : xs.getD k 0 = y
      · have HE : Hid (xs.contains y = true) := Lib.hid (List.contains_iff_mem.2 (by rw [← he]; exact memD0 (by rw [HN.out]; exact hlt)))
        rw [he] at hcell
        clear he
        go_wp2
        go_ret
        exact ⟨by rw [← List.contains_eq_mem, HE.out]; rfl, rfl⟩
      · have HN2 : Hid (∀ j, j < k + 1 → xs.getD j 0 ≠ y) := Lib.hid (fun j hj => by
          by_cases e : j = k
          · subst e; exact he
          · exact HNO.out j (by omega))
        have hne : ((xs.getD k 0 : Nat) : Int) ≠ (y : Int) := by omega
        generalize xs.getD k 0 = u at *
        go_wp2
        go_round
        case rel => exact ⟨k + 1, by omega, by go_num, HN2⟩
        case measure => simp [intOf]; omega
    · have HE : Hid (xs.contains y = false) := Lib.hid (by
        rw [Bool.eq_false_iff]
        intro hc
        obtain ⟨h1, h2⟩ := idx_get (List.contains_iff_mem.1 hc)
        exact HNO.out _ (by rw [HN.out] at h1; omega) h2)
      go_wp2
      go_ret
      exact ⟨by rw [← List.contains_eq_mem, HE.out]; rfl, rfl⟩
end Go.Proofs.YtliedgaefgomjaaGreat
