/- The contracts of the model's EvalVars, and of the values of literals. -/
import Derived.Test.YthpiddpkcmecfaaB6
namespace Go.Proofs.Ythpiddpkcmecfaa
open Go.RowKit Go.Deep

set_option maxHeartbeats 800000 in
theorem l2Lits_any (A A' : Option Addr) (n cap cap' : Nat) (L : List Bool) (xs : List Int) (w : World) (hL : BoolsAt w w.heap.size A L) (hn : L.length = n) (hn2 : n ≤ 1000) (hx : IntsAt w w.heap.size A' xs) (hl : xs.length ≤ 1000) (hok : ∀ k, k < xs.length → 0 ≤ xs.getD k 0 ∧ xs.getD k 0 < 2 * (n : Int)) :
    Calls Try.prog 102 #[.slice A n cap, .slice A' xs.length cap'] w fun e w' => ∃ g cap2 : Nat, e = .returned (.slice (some ⟨g, 0, none⟩) xs.length cap2) ∧ w.heap.size ≤ g ∧ BoolsAt w' w'.heap.size (some ⟨g, 0, none⟩) (Circ.litsV L xs) ∧ Below w.heap.size w w' := by
  have HX := Lib.hid hx
  have HL := Lib.hid hL
  have HLN := Lib.hid hn
  have HOK := Lib.hid hok
  clear hx hL hok hn
  generalize hn : xs.length = m at *
  have HN := Lib.hid hn
  clear hn
  obtain ⟨i0, hi0, hz0, hz1, hz2⟩ := info_parts Try.infoB
  have HI0 := Lib.hid hi0
  have HZ0 := Lib.hid hz0
  have HZ1 := Lib.hid hz1
  have HZ2 := Lib.hid hz2
  clear hi0 hz0 hz1 hz2
  have HO0 := Lib.hid (World.ownsRow_lit (base := w.heap.size) (e := 4) (size := 1) w #[] 0 (Nat.le_refl _) (by simp [maxLen]) (by simp))
  have HB0 : Hid (Below w.heap.size w (w.alloc (.cells #[] 4))) := Lib.hid ((Below.refl _ _).alloc (Nat.le_refl _) _)
  go_enter Try.func102, Try.ntmps102
  go_wp2
  go_loopw [5, 6] (fun v iv wr => ∃ (k g cap : Nat), k ≤ m ∧ iv = .int .i64 k ∧ v = .slice (some ⟨g, 0, none⟩) k cap ∧ Hid (wr.ownsRow w.heap.size 4 1 (.slice (some ⟨g, 0, none⟩) k cap) k (bvs (Circ.litsV L (xs.take k)))) ∧ Below w.heap.size w wr) (fun _ iv _ => m - (intOf iv).toNat)
  case atStart => exact ⟨0, _, _, Nat.zero_le _, rfl, rfl, Lib.hid (by simpa [Circ.litsV, bvs] using HO0.out), HB0.out⟩
  case round =>
    clear HO0 HB0
    obtain ⟨k, g, cap, hk, rfl, rfl, HOwn, hbr⟩ := hrel
    by_cases hlt : k < m
    · obtain ⟨b, off, rfl, hbl, hcell⟩ := HX.out k (by rw [HN.out]; exact hlt)
      rw [← hbr.cell (by exact hbl)] at hcell
      obtain ⟨o1, o2⟩ := HOK.out k hlt
      have HSN : Hid (Circ.litsV L (xs.take (k + 1)) = Circ.litsV L (xs.take k) ++ [Circ.litV L (xs.getD k 0)]) := Lib.hid (by
        have hk' : k < xs.length := by rw [HN.out]; exact hlt
        rw [List.take_succ_eq_append_getElem hk', Circ.litsV, List.map_append]
        simp [Circ.litsV, List.getD_eq_getElem?_getD, hk'])
      generalize xs.getD k 0 = v at *
      obtain ⟨q, rfl⟩ := Int.eq_ofNat_of_zero_le o1
      have hq : q < 2 * n := by omega
      clear o1 o2
      have HBL := Lib.hid (HL.out.below hbr)
      have hgb : w.heap.size ≤ g := (HOwn.out.lt g rfl).1
      have hrs : w.heap.size ≤ wr.heap.size := hbr.size
      go_wp2_with fail
      refine (l2Lit_any _ _ _ q L _ _ HBL.out HLN.out (by omega) hq).mono ?_
      rintro e w' ⟨rfl, rfl⟩
      generalize Circ.litV L (q : Int) = bv at *
      go_wp2_with (at_builtin; refine wpList_append_kept _ rfl (.tmp 14) (.tmp 21) 33 rfl w.heap.size 4 i0 _ 1 1 Try.underlying33 HI0.out HZ0.out HZ1.out HZ2.out rfl (by omega) (.slice (some ⟨g, 0, none⟩) k cap) k (bvs (Circ.litsV L (xs.take k))) rfl (HOwn.out.alloc _) ⟨wr.heap.size, 0, none⟩ 1 1 [.bool bv] rfl rfl (World.news_of_block (cs := #[.bool bv]) (t := 4) (fr := (0, 0)) (heap_alloc_new wr _)) (by simp [Value.oneCell']) (by omega) (by simp [maxLen]; omega) (by omega) (by simp; omega) _ rfl ?_)
      intro g' cap' w5 hown5 hgr5 hat5 hlt5 hkept5
      have HL5 := Lib.hid ((hbr.alloc hbr.size _).grown hgr5 (by simp; omega) (fun j hj => by simp [Value.ownBlock] at hj; omega))
      have HO5 : Hid (w5.ownsRow w.heap.size 4 1 (.slice (some ⟨g', 0, none⟩) (k + 1) cap') (k + 1) (bvs (Circ.litsV L (xs.take (k + 1))))) := Lib.hid (by rw [HSN.out, bvs_append]; exact hown5)
      clear hown5 hgr5 hat5 hlt5 hkept5 HOwn hbr
      go_wp2
      go_roundw
      case rel => exact ⟨k + 1, g', cap', by omega, by go_num, rfl, HO5, HL5.out⟩
      case measure => simp [intOf]; omega
    · obtain rfl : k = m := by omega
      have HF : Hid (xs.take k = xs) := Lib.hid (List.take_of_length_le (by rw [HN.out]; omega))
      rw [HF.out] at HOwn
      go_wp2
      go_ret
      exact ⟨g, cap, rfl, (HOwn.out.lt g rfl).1, own_bools HOwn.out (by rw [Circ.litsV_len, HN.out]), hbr⟩
end Go.Proofs.Ythpiddpkcmecfaa
