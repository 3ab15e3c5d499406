/- The contracts of SameInterface and of the comparisons of lists of values. -/
import Derived.Test.YthcpgbfghededaaQA
import Derived.Test.YthcpgbfghededaaW3
import Derived.Test.YthcpgbfghededaaB1a
import Derived.Test.YthcpgbfghededaaB9
namespace Circ
theorem take_same {xs ys : List Bool} {k : Nat} (hx : k < xs.length) (hy : k < ys.length) (h : xs.take k = ys.take k) (he : xs.getD k false = ys.getD k false) : xs.take (k + 1) = ys.take (k + 1) := by
  rw [List.take_succ_eq_append_getElem hx, List.take_succ_eq_append_getElem hy, h]
  congr 2
  simpa [List.getD_eq_getElem?_getD, hx, hy] using he
theorem beq_ne {xs ys : List Bool} {k : Nat} (he : xs.getD k false ≠ ys.getD k false) : (xs == ys) = false := by
  cases h : xs == ys
  · rfl
  · rw [beq_iff_eq] at h
    rw [h] at he
    exact absurd rfl he
theorem beq_len {xs ys : List Bool} (he : xs.length ≠ ys.length) : (xs == ys) = false := by
  cases h : xs == ys
  · rfl
  · rw [beq_iff_eq] at h
    rw [h] at he
    exact absurd rfl he
end Circ
namespace Go.Proofs.Ythcpgbfghededaa
open Go.RowKit Go.Deep
end Go.Proofs.Ythcpgbfghededaa
/- The contracts of the bits of a number. -/
namespace Go.Proofs.Ythcpgbfghededaa
open Go.RowKit Go.Deep
set_option maxRecDepth 100000

theorem digit_eq (x k : Nat) (hx : x < 1000000) (_hk : k ≤ 64) : (bits .and .i64 ((x : Int) / 2 ^ k) 1 == 1) = (x / 2 ^ k % 2 == 1) := by
  have h : (x : Int) / 2 ^ k = ((x / 2 ^ k : Nat) : Int) := by simp
  have hlt : x / 2 ^ k < 9223372036854775808 := Nat.lt_of_le_of_lt (Nat.div_le_self _ _) (by omega)
  rw [h, i64_odd _ hlt]
  rcases Nat.mod_two_eq_zero_or_one (x / 2 ^ k) with e | e <;> rw [e] <;> rfl
theorem shr_nat (x k : Nat) : (x : Int) / 2 ^ k = ((x / 2 ^ k : Nat) : Int) := by simp

theorem odd_eq (x k : Nat) (_hk : k ≤ 64) : ((x : Int) / 2 ^ k % 2 == 1) = (x / 2 ^ k % 2 == 1) := by
  rw [shr_nat]
  rcases Nat.mod_two_eq_zero_or_one (x / 2 ^ k) with e | e
  · rw [e, show (((x / 2 ^ k : Nat) : Int) % 2) = ((x / 2 ^ k % 2 : Nat) : Int) by omega, e]; rfl
  · rw [e, show (((x / 2 ^ k : Nat) : Int) % 2) = ((x / 2 ^ k % 2 : Nat) : Int) by omega, e]; rfl

set_option maxHeartbeats 400000 in
theorem bits_any (x n : Nat) (w : World) (_hx : x < 1000000) (hn : n ≤ 60) :
    Calls Try.prog 19 #[.int .i64 (x : Int), .int .i64 (n : Int)] w fun e w' => ∃ g cap2 : Nat, e = .returned (.slice (some ⟨g, 0, none⟩) n cap2) ∧ w.heap.size ≤ g ∧ BoolsAt w' w'.heap.size (some ⟨g, 0, none⟩) (Circ.bitsN x n) ∧ Below w.heap.size w w' := by
  obtain ⟨i0, hi0, hz0, hz1, hz2⟩ := info_parts Try.infoB
  have HI0 := Lib.hid hi0
  have HZ0 := Lib.hid hz0
  have HZ1 := Lib.hid hz1
  have HZ2 := Lib.hid hz2
  clear hi0 hz0 hz1 hz2
  have HO0 := Lib.hid (World.ownsRow_lit (base := w.heap.size) (e := 4) (size := 1) w #[] 0 (Nat.le_refl _) (by simp [maxLen]) (by simp))
  have HB0 : Hid (Below w.heap.size w (w.alloc (.cells #[] 4))) := Lib.hid ((Below.refl _ _).alloc (Nat.le_refl _) _)
  go_enter Try.func19, Try.ntmps19
  go_wp2
  go_loopw [5, 6] (fun v iv wr => ∃ (k g cap : Nat), k ≤ n ∧ iv = .int .i64 k ∧ v = .slice (some ⟨g, 0, none⟩) k cap ∧ Hid (wr.ownsRow w.heap.size 4 1 (.slice (some ⟨g, 0, none⟩) k cap) k (bvs (Circ.bitsN x k))) ∧ Below w.heap.size w wr) (fun _ iv _ => n - (intOf iv).toNat)
  case atStart => exact ⟨0, _, _, Nat.zero_le _, rfl, rfl, Lib.hid (by simpa [Circ.bitsN, bvs] using HO0.out), HB0.out⟩
  case round =>
    clear HO0 HB0
    obtain ⟨k, g, cap, hk, rfl, rfl, HOwn, hbr⟩ := hrel
    by_cases hlt : k < n
    · have HSN := Lib.hid (Circ.bitsN_snoc x k)
      rw [← odd_eq x k (by omega)] at HSN
      have hgb : w.heap.size ≤ g := (HOwn.out.lt g rfl).1
      have hrs : w.heap.size ≤ wr.heap.size := hbr.size
      have hx0 : (0 : Int) ≤ (x : Int) / 2 ^ k := by rw [shr_nat]; exact Int.natCast_nonneg _
      go_wp2_with (at_builtin; refine wpList_append_kept _ rfl (.tmp 13) (.tmp 19) 36 rfl w.heap.size 4 i0 _ 1 1 Try.underlying36 HI0.out HZ0.out HZ1.out HZ2.out rfl (by omega) (.slice (some ⟨g, 0, none⟩) k cap) k (bvs (Circ.bitsN x k)) rfl (HOwn.out.alloc _) ⟨wr.heap.size, 0, none⟩ 1 1 [.bool ((x : Int) / 2 ^ k % 2 == 1)] rfl rfl (World.news_of_block (cs := #[.bool ((x : Int) / 2 ^ k % 2 == 1)]) (t := 4) (fr := (0, 0)) (heap_alloc_new wr _)) (by simp [Value.oneCell']) (by omega) (by simp [maxLen]; omega) (by omega) (by simp; omega) _ rfl ?_)
      intro g' cap' w5 hown5 hgr5 hat5 hlt5 hkept5
      have HL5 := Lib.hid ((hbr.alloc hbr.size _).grown hgr5 (by simp; omega) (fun j hj => by simp [Value.ownBlock] at hj; omega))
      have HO5 : Hid (w5.ownsRow w.heap.size 4 1 (.slice (some ⟨g', 0, none⟩) (k + 1) cap') (k + 1) (bvs (Circ.bitsN x (k + 1)))) := Lib.hid (by rw [HSN.out, bvs_append]; exact hown5)
      clear hown5 hgr5 hat5 hlt5 hkept5 HOwn hbr hx0
      go_wp2
      go_roundw
      case rel => exact ⟨k + 1, g', cap', by omega, by go_num, rfl, HO5, HL5.out⟩
      case measure => simp [intOf]; omega
    · obtain rfl : k = n := by omega
      go_wp2
      go_ret
      exact ⟨g, cap, rfl, (HOwn.out.lt g rfl).1, own_bools HOwn.out (Circ.bitsN_len _ _), hbr⟩

end Go.Proofs.Ythcpgbfghededaa
