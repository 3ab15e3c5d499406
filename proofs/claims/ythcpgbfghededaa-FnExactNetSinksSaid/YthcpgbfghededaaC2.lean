/- The contract of the model's union of two cuts. -/
import Derived.Test.YthcpgbfghededaaC1
import Derived.Shelf.RegionOpen
namespace Go.Proofs.Ythcpgbfghededaa
open Go.RowKit Go.Deep Cut

def iv1 (x : Nat) : Value := .int .i64 (x : Int)
theorem ivs_snoc (l : List Nat) (x : Nat) : ivs (Opt.intL (l ++ [x])) = ivs (Opt.intL l) ++ [.int .i64 (x : Int)] := by simp [ivs, Opt.intL]
/-- What the loop of the union keeps. -/
def MInv (wr : World) (B : Nat) (xs ys : List Nat) (o : List Nat) (i j g cap : Nat) : Prop :=
  wr.ownsRow B 3 1 (.slice (some ⟨g, 0, none⟩) o.length cap) o.length (ivs (Opt.intL o)) ∧ o ++ merge (xs.drop i) (ys.drop j) = merge xs ys ∧ o.length ≤ i + j
theorem MInv.push {wr : World} {B : Nat} {xs ys o : List Nat} {i j g cap g' cap' i' j' x : Nat} {w5 : World} (h : MInv wr B xs ys o i j g cap) (hown : w5.ownsRow B 3 1 (.slice (some ⟨g', 0, none⟩) (o.length + 1) cap') (o.length + 1) (ivs (Opt.intL o) ++ [.int .i64 (x : Int)]))
    (hm : merge (xs.drop i) (ys.drop j) = x :: merge (xs.drop i') (ys.drop j')) (hl : i + j + 1 ≤ i' + j') : MInv w5 B xs ys (o ++ [x]) i' j' g' cap' := by
  refine ⟨?_, ?_, ?_⟩
  · rw [List.length_append, List.length_singleton, ivs_snoc]
    exact hown
  · have := h.2.1
    rw [hm] at this
    rw [← this]
    simp
  · have := h.2.2
    simp
    omega
theorem mstep_a {xs ys : List Nat} {i j : Nat} (hi : i < xs.length) (hj : ys.length ≤ j) : merge (xs.drop i) (ys.drop j) = xs.getD i 0 :: merge (xs.drop (i + 1)) (ys.drop j) := by
  rw [List.drop_of_length_le hj, merge_nil_r, merge_nil_r, drop_get hi]
theorem mstep_b {xs ys : List Nat} {i j : Nat} (hi : xs.length ≤ i) (hj : j < ys.length) : merge (xs.drop i) (ys.drop j) = ys.getD j 0 :: merge (xs.drop i) (ys.drop (j + 1)) := by
  rw [List.drop_of_length_le hi, merge_nil_l, merge_nil_l, drop_get hj]
theorem mstep_lt {xs ys : List Nat} {i j : Nat} (hi : i < xs.length) (hj : j < ys.length) (h : xs.getD i 0 < ys.getD j 0) : merge (xs.drop i) (ys.drop j) = xs.getD i 0 :: merge (xs.drop (i + 1)) (ys.drop j) := by
  rw [drop_get hi, drop_get hj, merge_lt _ _ h, ← drop_get hj]
theorem mstep_gt {xs ys : List Nat} {i j : Nat} (hi : i < xs.length) (hj : j < ys.length) (h : ys.getD j 0 < xs.getD i 0) : merge (xs.drop i) (ys.drop j) = ys.getD j 0 :: merge (xs.drop i) (ys.drop (j + 1)) := by
  rw [drop_get hi, drop_get hj, merge_gt _ _ h, ← drop_get hi]
theorem mstep_eq {xs ys : List Nat} {i j : Nat} (hi : i < xs.length) (hj : j < ys.length) (h : xs.getD i 0 = ys.getD j 0) : merge (xs.drop i) (ys.drop j) = xs.getD i 0 :: merge (xs.drop (i + 1)) (ys.drop (j + 1)) := by
  rw [drop_get hi, drop_get hj, ← h, merge_eq]
theorem merge_end {xs ys : List Nat} {i j : Nat} (hi : xs.length ≤ i) (hj : ys.length ≤ j) : merge (xs.drop i) (ys.drop j) = [] := by
  rw [List.drop_of_length_le hi, List.drop_of_length_le hj, merge_nil_l]
def MOut (w : World) (xs ys : List Nat) (e : Ending) (w' : World) : Prop := ∃ g cap, e = .returned (.slice (some ⟨g, 0, none⟩) (merge xs ys).length cap) ∧ w'.ownsRow w.heap.size 3 1 (.slice (some ⟨g, 0, none⟩) (merge xs ys).length cap) (merge xs ys).length (ivs (Opt.intL (merge xs ys))) ∧ Below w.heap.size w w'

set_option maxRecDepth 10000 in
set_option maxHeartbeats 1000000 in
theorem l5Merge_any (A A' : Option Addr) (n m cap cap' : Nat) (xs ys : List Nat) (w : World) (hx : IntsAt w w.heap.size A (Opt.intL xs)) (hy : IntsAt w w.heap.size A' (Opt.intL ys)) (hn : xs.length = n) (hm : ys.length = m) (hnb : n ≤ 1000) (hmb : m ≤ 1000) :
    Calls Try.prog 97 #[.slice A n cap, .slice A' m cap'] w (MOut w xs ys) := by
  have HX := Lib.hid hx
  have HY := Lib.hid hy
  have HN := Lib.hid hn
  have HM := Lib.hid hm
  clear hx hy hn hm
  obtain ⟨i0, hi0, hz0, hz1, hz2⟩ := info_split Try.info3
  have HI0 := Lib.hid hi0
  have HZ0 := Lib.hid hz0
  have HZ1 := Lib.hid hz1
  have HZ2 := Lib.hid hz2
  clear hi0 hz0 hz1 hz2
  have HO0 : Hid ((w.alloc (.cells #[] 3)).ownsRow w.heap.size 3 1 (.slice (some ⟨w.heap.size, 0, none⟩) 0 0) 0 []) := Lib.hid (World.ownsRow_lit (base := w.heap.size) (e := 3) (size := 1) w #[] 0 (by omega) (by simp [maxLen]) (by simp))
  have HB0 : Hid (Below w.heap.size w (w.alloc (.cells #[] 3))) := Lib.hid ((Below.refl _ _).alloc (Nat.le_refl _) _)
  go_enter Try.func97, Try.ntmps97
  go_wp2
  go_loopw [5, 6, 7] (fun v iv jv wr => ∃ (o : List Nat) (i j g cap : Nat), i ≤ n ∧ j ≤ m ∧ iv = .int .i64 i ∧ jv = .int .i64 j ∧ v = .slice (some ⟨g, 0, none⟩) o.length cap ∧ Hid (MInv wr w.heap.size xs ys o i j g cap) ∧ Below w.heap.size w wr) (fun _ iv jv _ => n + m - (intOf iv).toNat - (intOf jv).toNat)
  case atStart => exact ⟨[], 0, 0, _, _, Nat.zero_le _, Nat.zero_le _, rfl, rfl, rfl, Lib.hid ⟨HO0.out, by simp, by simp⟩, HB0.out⟩
  case round =>
    clear HO0 HB0
    obtain ⟨o, i, j, g, cap, hi, hj, rfl, rfl, rfl, HI, hbr⟩ := hrel
    have hgb : w.heap.size ≤ g := (HI.out.1.lt g rfl).1
    have hol : o.length ≤ 2000 := by have := HI.out.2.2; omega
    have hrs : w.heap.size ≤ wr.heap.size := hbr.size
    have HIq : ∀ q, Hid (MInv (wr.drewN q) w.heap.size xs ys o i j g cap) := fun q => Lib.hid HI.out
    have HBq : ∀ q, Hid (Below w.heap.size w (wr.drewN q)) := fun q => Lib.hid (below_drewN hbr q)
    have HB := Lib.hid hbr
    by_cases hin : i < n
    · obtain ⟨b, off, rfl, hbl, hcA⟩ := HX.out i (by rw [Opt.intL_len, HN.out]; exact hin)
      rw [← hbr.cell (by exact hbl), Opt.intL_at] at hcA
      by_cases hjm : j < m
      · obtain ⟨b', off', rfl, hbl', hcB⟩ := HY.out j (by rw [Opt.intL_len, HM.out]; exact hjm)
        rw [← hbr.cell (by exact hbl'), Opt.intL_at] at hcB
        have HSl := Lib.hid (mstep_lt (xs := xs) (ys := ys) (i := i) (j := j) (by rw [HN.out]; exact hin) (by rw [HM.out]; exact hjm))
        have HSg := Lib.hid (mstep_gt (xs := xs) (ys := ys) (i := i) (j := j) (by rw [HN.out]; exact hin) (by rw [HM.out]; exact hjm))
        have HSe := Lib.hid (mstep_eq (xs := xs) (ys := ys) (i := i) (j := j) (by rw [HN.out]; exact hin) (by rw [HM.out]; exact hjm))
        generalize xs.getD i 0 = x at *
        generalize ys.getD j 0 = y at *
        have k0 : ((i : Int) == (n : Int)) = false := by simp; omega
        have k1 : ((j : Int) == (m : Int)) = false := by simp; omega
        rcases Nat.lt_trichotomy x y with hxy | hxy | hxy
        · have HS := Lib.hid (HSl.out hxy)
          clear HSl HSg HSe
          go_wp2
          go_quiet (fail)
          go_wp2_with (at_builtin; refine wpList_append_kept _ rfl (.tmp 52) (.tmp 57) 23 rfl w.heap.size 3 i0 _ 1 8 Try.underlying23 HI0.out HZ0.out HZ1.out HZ2.out rfl (by omega) (.slice (some ⟨g, 0, none⟩) o.length cap) o.length (ivs (Opt.intL o)) rfl ((HIq _).out.1.alloc _) ⟨wr.heap.size, 0, none⟩ 1 1 [.int .i64 (x : Int)] rfl rfl (World.news_of_block (cs := #[.int .i64 (x : Int)]) (t := 3) (fr := (0, 0)) (heap_alloc_new _ _)) (by simp [Value.oneCell']) (by omega) (by simp [maxLen]; omega) (by omega) (by simp; omega) _ rfl ?_)
          intro g' cap' w5 hown5 hgr5 hat5 hlt5 hkept5
          have HL5 := Lib.hid (((HBq _).out.alloc (by simp; omega) _).grown hgr5 (by simp; omega) (fun j hj => by simp [Value.ownBlock] at hj; omega))
          have HI5 := Lib.hid (HI.out.push hown5 HS.out (i' := i + 1) (j' := j) (by omega))
          have ho5 : (o ++ [x]).length = o.length + 1 := by simp
          clear hown5 hgr5 hat5 hlt5 hkept5 HI hbr HIq HBq k0 k1
          go_wp2
          go_roundw
          case rel => exact ⟨o ++ [x], i + 1, j, g', cap', by omega, by omega, by go_num, by go_num, by rw [ho5], HI5, HL5.out⟩
          case measure => simp [intOf]; omega
        · subst hxy
          have HS := Lib.hid (HSe.out rfl)
          clear HSl HSg HSe
          go_wp2
          go_quiet (fail)
          have HIr : Hid (MInv (wr.drewN nq) w.heap.size xs ys o i j g cap) := Lib.hid HI.out
          have hbq : Below w.heap.size w (wr.drewN nq) := below_drewN hbr _
          have hcAq : (wr.drewN nq).cell? ⟨b, off + i, none⟩ = some (.int .i64 (x : Int)) := hcA
          have hcBq : (wr.drewN nq).cell? ⟨b', off' + j, none⟩ = some (.int .i64 (x : Int)) := hcB
          have hrq : w.heap.size ≤ (wr.drewN nq).heap.size := hrs
          clear HI hbr hcA hcB hrs HIq HBq HB hbl hbl'
          generalize wr.drewN nq = wq at *
          clear wr
          rename World => wr
          have HI := HIr
          have hbr := hbq
          have HIq : ∀ q, Hid (MInv (wr.drewN q) w.heap.size xs ys o i j g cap) := fun q => Lib.hid HI.out
          have HBq : ∀ q, Hid (Below w.heap.size w (wr.drewN q)) := fun q => Lib.hid (below_drewN hbr q)
          go_wp2
          go_quiet (fail)
          go_wp2_with (at_builtin; refine wpList_append_kept _ rfl (.tmp 19) (.tmp 24) 23 rfl w.heap.size 3 i0 _ 1 8 Try.underlying23 HI0.out HZ0.out HZ1.out HZ2.out rfl (by omega) (.slice (some ⟨g, 0, none⟩) o.length cap) o.length (ivs (Opt.intL o)) rfl ((HIq _).out.1.alloc _) ⟨wr.heap.size, 0, none⟩ 1 1 [.int .i64 (x : Int)] rfl rfl (World.news_of_block (cs := #[.int .i64 (x : Int)]) (t := 3) (fr := (0, 0)) (heap_alloc_new _ _)) (by simp [Value.oneCell']) (by omega) (by simp [maxLen]; omega) (by omega) (by simp; omega) _ rfl ?_)
          intro g' cap' w5 hown5 hgr5 hat5 hlt5 hkept5
          have HL5 := Lib.hid (((HBq _).out.alloc (by simp; omega) _).grown hgr5 (by simp; omega) (fun j hj => by simp [Value.ownBlock] at hj; omega))
          have HI5 := Lib.hid (HI.out.push hown5 HS.out (i' := i + 1) (j' := j + 1) (by omega))
          have ho5 : (o ++ [x]).length = o.length + 1 := by simp
          clear hown5 hgr5 hat5 hlt5 hkept5 HI hbr HIq HBq k0 k1
          go_wp2
          go_roundw
          case rel => exact ⟨o ++ [x], i + 1, j + 1, g', cap', by omega, by omega, by go_num, by go_num, by rw [ho5], HI5, HL5.out⟩
          case measure => simp [intOf]; omega
        · have HS := Lib.hid (HSg.out hxy)
          clear HSl HSg HSe
          go_wp2
          go_quiet (fail)
          have HIr : Hid (MInv (wr.drewN nq) w.heap.size xs ys o i j g cap) := Lib.hid HI.out
          have hbq : Below w.heap.size w (wr.drewN nq) := below_drewN hbr _
          have hcAq : (wr.drewN nq).cell? ⟨b, off + i, none⟩ = some (.int .i64 (x : Int)) := hcA
          have hcBq : (wr.drewN nq).cell? ⟨b', off' + j, none⟩ = some (.int .i64 (y : Int)) := hcB
          have hrq : w.heap.size ≤ (wr.drewN nq).heap.size := hrs
          clear HI hbr hcA hcB hrs HIq HBq HB hbl hbl'
          generalize wr.drewN nq = wq at *
          clear wr
          rename World => wr
          have HI := HIr
          have hbr := hbq
          have HIq : ∀ q, Hid (MInv (wr.drewN q) w.heap.size xs ys o i j g cap) := fun q => Lib.hid HI.out
          have HBq : ∀ q, Hid (Below w.heap.size w (wr.drewN q)) := fun q => Lib.hid (below_drewN hbr q)
          go_wp2
          go_quiet (fail)
          go_wp2_with (at_builtin; refine wpList_append_kept _ rfl (.tmp 77) (.tmp 82) 23 rfl w.heap.size 3 i0 _ 1 8 Try.underlying23 HI0.out HZ0.out HZ1.out HZ2.out rfl (by omega) (.slice (some ⟨g, 0, none⟩) o.length cap) o.length (ivs (Opt.intL o)) rfl ((HIq _).out.1.alloc _) ⟨wr.heap.size, 0, none⟩ 1 1 [.int .i64 (y : Int)] rfl rfl (World.news_of_block (cs := #[.int .i64 (y : Int)]) (t := 3) (fr := (0, 0)) (heap_alloc_new _ _)) (by simp [Value.oneCell']) (by omega) (by simp [maxLen]; omega) (by omega) (by simp; omega) _ rfl ?_)
          intro g' cap' w5 hown5 hgr5 hat5 hlt5 hkept5
          have HL5 := Lib.hid (((HBq _).out.alloc (by simp; omega) _).grown hgr5 (by simp; omega) (fun j hj => by simp [Value.ownBlock] at hj; omega))
          have HI5 := Lib.hid (HI.out.push hown5 HS.out (i' := i) (j' := j + 1) (by omega))
          have ho5 : (o ++ [y]).length = o.length + 1 := by simp
          clear hown5 hgr5 hat5 hlt5 hkept5 HI hbr HIq HBq k0 k1
          go_wp2
          go_roundw
          case rel => exact ⟨o ++ [y], i, j + 1, g', cap', by omega, by omega, by go_num, by go_num, by rw [ho5], HI5, HL5.out⟩
          case measure => simp [intOf]; omega
      · obtain rfl : j = m := by omega
        have HS := Lib.hid (mstep_a (xs := xs) (ys := ys) (i := i) (j := j) (by rw [HN.out]; exact hin) (by rw [HM.out]; exact Nat.le_refl _))
        generalize xs.getD i 0 = x at *
        have k1 : ((j : Int) == (j : Int)) = true := by simp
        go_wp2
        go_quiet (fail)
        go_wp2_with (at_builtin; refine wpList_append_kept _ rfl (.tmp 52) (.tmp 57) 23 rfl w.heap.size 3 i0 _ 1 8 Try.underlying23 HI0.out HZ0.out HZ1.out HZ2.out rfl (by omega) (.slice (some ⟨g, 0, none⟩) o.length cap) o.length (ivs (Opt.intL o)) rfl ((HIq _).out.1.alloc _) ⟨wr.heap.size, 0, none⟩ 1 1 [.int .i64 (x : Int)] rfl rfl (World.news_of_block (cs := #[.int .i64 (x : Int)]) (t := 3) (fr := (0, 0)) (heap_alloc_new _ _)) (by simp [Value.oneCell']) (by omega) (by simp [maxLen]; omega) (by omega) (by simp; omega) _ rfl ?_)
        intro g' cap' w5 hown5 hgr5 hat5 hlt5 hkept5
        have HL5 := Lib.hid (((HBq _).out.alloc (by simp; omega) _).grown hgr5 (by simp; omega) (fun j hj => by simp [Value.ownBlock] at hj; omega))
        have HI5 := Lib.hid (HI.out.push hown5 HS.out (i' := i + 1) (j' := j) (by omega))
        have ho5 : (o ++ [x]).length = o.length + 1 := by simp
        clear hown5 hgr5 hat5 hlt5 hkept5 HI hbr HIq HBq k1
        go_wp2
        go_roundw
        case rel => exact ⟨o ++ [x], i + 1, j, g', cap', by omega, by omega, by go_num, by go_num, by rw [ho5], HI5, HL5.out⟩
        case measure => simp [intOf]; omega
    · obtain rfl : i = n := by omega
      have k0 : ((i : Int) == (i : Int)) = true := by simp
      by_cases hjm : j < m
      · obtain ⟨b', off', rfl, hbl', hcB⟩ := HY.out j (by rw [Opt.intL_len, HM.out]; exact hjm)
        rw [← hbr.cell (by exact hbl'), Opt.intL_at] at hcB
        have HS := Lib.hid (mstep_b (xs := xs) (ys := ys) (i := i) (j := j) (by rw [HN.out]; exact Nat.le_refl _) (by rw [HM.out]; exact hjm))
        generalize ys.getD j 0 = y at *
        have k1 : ((j : Int) == (m : Int)) = false := by simp; omega
        go_wp2
        go_quiet (fail)
        have HIr : Hid (MInv (wr.drewN nq) w.heap.size xs ys o i j g cap) := Lib.hid HI.out
        have hbq : Below w.heap.size w (wr.drewN nq) := below_drewN hbr _
        have hcBq : (wr.drewN nq).cell? ⟨b', off' + j, none⟩ = some (.int .i64 (y : Int)) := hcB
        have hrq : w.heap.size ≤ (wr.drewN nq).heap.size := hrs
        clear HI hbr hcB hrs HIq HBq HB hbl'
        generalize wr.drewN nq = wq at *
        clear wr
        rename World => wr
        have HI := HIr
        have hbr := hbq
        have HIq : ∀ q, Hid (MInv (wr.drewN q) w.heap.size xs ys o i j g cap) := fun q => Lib.hid HI.out
        have HBq : ∀ q, Hid (Below w.heap.size w (wr.drewN q)) := fun q => Lib.hid (below_drewN hbr q)
        go_wp2
        go_quiet (fail)
        go_wp2_with (at_builtin; refine wpList_append_kept _ rfl (.tmp 77) (.tmp 82) 23 rfl w.heap.size 3 i0 _ 1 8 Try.underlying23 HI0.out HZ0.out HZ1.out HZ2.out rfl (by omega) (.slice (some ⟨g, 0, none⟩) o.length cap) o.length (ivs (Opt.intL o)) rfl ((HIq _).out.1.alloc _) ⟨wr.heap.size, 0, none⟩ 1 1 [.int .i64 (y : Int)] rfl rfl (World.news_of_block (cs := #[.int .i64 (y : Int)]) (t := 3) (fr := (0, 0)) (heap_alloc_new _ _)) (by simp [Value.oneCell']) (by omega) (by simp [maxLen]; omega) (by omega) (by simp; omega) _ rfl ?_)
        intro g' cap' w5 hown5 hgr5 hat5 hlt5 hkept5
        have HL5 := Lib.hid (((HBq _).out.alloc (by simp; omega) _).grown hgr5 (by simp; omega) (fun j hj => by simp [Value.ownBlock] at hj; omega))
        have HI5 := Lib.hid (HI.out.push hown5 HS.out (i' := i) (j' := j + 1) (by omega))
        have ho5 : (o ++ [y]).length = o.length + 1 := by simp
        clear hown5 hgr5 hat5 hlt5 hkept5 HI hbr HIq HBq k0 k1
        go_wp2
        go_roundw
        case rel => exact ⟨o ++ [y], i, j + 1, g', cap', by omega, by omega, by go_num, by go_num, by rw [ho5], HI5, HL5.out⟩
        case measure => simp [intOf]; omega
      · obtain rfl : j = m := by omega
        have HE : Hid (o = merge xs ys) := Lib.hid (by have := HI.out.2.1; rw [merge_end (by rw [HN.out]; exact Nat.le_refl _) (by rw [HM.out]; exact Nat.le_refl _)] at this; simpa using this)
        rw [HE.out] at HI ⊢
        go_wp2
        go_ret
        exact ⟨g, cap, rfl, HI.out.1, hbr⟩
end Go.Proofs.Ythcpgbfghededaa
