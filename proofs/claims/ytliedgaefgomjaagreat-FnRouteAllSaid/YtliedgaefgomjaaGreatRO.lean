/- The walks of routing: trees, tracks, tiles of pins. -/
import Derived.Test.YtliedgaefgomjaaGreatRW
import Derived.Test.YtliedgaefgomjaaGreatNP
import Derived.Test.YtliedgaefgomjaaGreatEL
import Derived.Test.YtliedgaefgomjaaGreatEC
import Derived.Test.YtliedgaefgomjaaGreatW6
namespace Rt
theorem tree_none {busy : List Bool} {p : Nat} {r : List Nat} (h : busy.getD p false = true) : tree busy (p :: r) = none := by
  unfold tree
  exact if_pos h
theorem tree_some {busy : List Bool} {p : Nat} {r : List Nat} (h : busy.getD p false = false) : tree busy (p :: r) = treeK busy (some [(p, -1)]) r := by
  unfold tree
  exact if_neg (by show ¬ busy.getD p false = true; rw [h]; simp)
theorem treeK_app (busy : List Bool) (o : Option (List Hp)) (a b : List Nat) : treeK busy o (a ++ b) = treeK busy (treeK busy o a) b := by simp [treeK]
theorem treeK_fail {busy : List Bool} {o : Option (List Hp)} {ps : List Nat} {k : Nat} (h : treeK busy o (ps.take k) = none) : treeK busy o ps = none := by
  rw [← List.take_append_drop k ps, treeK_app, h, treeK_none]
end Rt
namespace Go.Proofs.YtliedgaefgomjaaGreat
open Go.RowKit Go.Deep Cut Plc Rt

theorem ret_tuple_slice {A : Option Addr} {n m c : Nat} {b : Bool} (h : n = m) : Ending.returned (.tuple #[.slice A n c, .bool b]) = .returned (.tuple #[.slice A m c, .bool b]) := by rw [h]
theorem HAt.one (w : World) (B p : Nat) (x : Int) (hB : B ≤ w.heap.size) : HAt (w.alloc (.cells #[.int .i64 (p : Int), .int .i64 x] 38)) B [(p, x)] w.heap.size 1 := World.ownsRow_lit (base := B) (e := 38) (size := 2) w #[.int .i64 (p : Int), .int .i64 x] 1 hB (by simp [maxLen]) (by simp)

set_option maxRecDepth 10000 in
set_option maxHeartbeats 4000000 in
theorem tree_any (W track n c : Nat) (A : Option Addr) (B : List (List Bool)) (busy : List Bool) (ps : List Nat) (w : World) (hW : WAt w W B) (hB : Bok B) (ht : track < 8) (hbu : B.getD track [] = busy) (hA : IntsAt w w.heap.size A (Opt.intL ps)) (hn : ps.length = n) (hn1 : 1 ≤ n) (hnb : n ≤ 1000) (hnc : n ≤ c) (hp : ∀ x, x ∈ ps → x < 25) :
    Calls Tryz.prog 54 #[.pointer (some ⟨W, 0, none⟩), .int .i64 (track : Int), .slice A n c] w fun e w' => PathOut w.heap.size (tree busy ps) e w' ∧ Below w.heap.size w w' := by
  obtain ⟨src, tl, rfl⟩ : ∃ src tl, ps = src :: tl := by
    cases ps with
    | nil => simp at hn; omega
    | cons a r => exact ⟨a, r, rfl⟩
  obtain ⟨n', rfl⟩ : ∃ n', n = n' + 1 := ⟨n - 1, by omega⟩
  have htl : tl.length = n' := by simpa using hn
  have hs25 : src < 25 := hp src (by simp)
  have HP := Lib.hid (fun x (hx : x ∈ tl) => hp x (by simp [hx]))
  have HW := Lib.hid hW
  have HB := Lib.hid hB
  have HBU := Lib.hid hbu
  have HN := Lib.hid htl
  have hWz := hW.lt
  obtain ⟨b, off, rfl, hbl, hc0⟩ := hA 0 (by rw [Opt.intL_len]; simp)
  rw [Opt.intL_at] at hc0
  have e0 : (src :: tl).getD 0 0 = src := rfl
  rw [e0, Nat.add_zero] at hc0
  have HC : Hid (∀ k, k < n' → w.cell? ⟨b, off + 1 + k, none⟩ = some (.int .i64 (tl.getD k 0 : Nat))) := Lib.hid (fun k hk => by
    obtain ⟨b', off', e, _, h⟩ := hA (k + 1) (by rw [Opt.intL_len]; simp; omega)
    injection e with e
    injection e with e1 e2
    subst e1 e2
    rw [Opt.intL_at, show off + (k + 1) = off + 1 + k by omega] at h
    exact h)
  have hwc := (hW.cell (src * 8 + track)).trans (wRow_at B hs25 ht)
  rw [hbu] at hwc
  have hs0 : (0 : Int) ≤ (src : Int) := Int.natCast_nonneg _
  have hs1 : (src : Int) < 25 := by omega
  have ht0 : (0 : Int) ≤ (track : Int) := Int.natCast_nonneg _
  have ht1 : (track : Int) < 8 := by omega
  have hn0 : (0 : Int) < ((n' + 1 : Nat) : Int) := by omega
  clear hW hB hbu hA hn hp e0 htl
  cases hbs : busy.getD src false
  · have HT0 : Hid (tree busy (src :: tl) = treeK busy (some [(src, -1)]) tl) := Lib.hid (tree_some hbs)
    have HTR : Hid (Tree busy src [(src, -1)]) := Lib.hid (Tree.one hs25 hbs)
    rw [hbs] at hwc
    clear hbs
    rw [HT0.out]
    have HA0 := Lib.hid (HAt.one w w.heap.size src (-1) (Nat.le_refl _))
    have HX0 : Hid (Below w.heap.size w (w.alloc (.cells #[.int .i64 (src : Int), .int .i64 (-1)] 38))) := Lib.hid ((Below.refl _ _).alloc (Nat.le_refl _) _)
    have HK0 : Hid (treeK busy (some [(src, -1)]) (tl.take 0) = some [(src, -1)]) := Lib.hid rfl
    have HL0 : Hid (([(src, -1)] : List Hp).length = 1) := Lib.hid rfl
    have hsl : (n' = 0 ∧ c = 1) ∨ c ≠ 1 := by omega
    rcases hsl with ⟨rfl, rfl⟩ | hc1
    · clear HC
      go_enter Tryz.func54, Tryz.ntmps54
      go_upto_region 6 with fail
      go_loopw [9, 30] (fun hv iv wr => ∃ (k g cap m : Nat) (hs : List Hp), k ≤ 0 ∧ iv = .int .i64 k ∧ hv = .slice (some ⟨g, 0, none⟩) m cap ∧ Hid (hs.length = m) ∧ Hid (treeK busy (some [(src, -1)]) (tl.take k) = some hs) ∧ Hid (HAt wr w.heap.size hs g cap) ∧ Hid (Below w.heap.size w wr)) (fun _ iv _ => 0 - (intOf iv).toNat)
      case atStart => exact ⟨0, _, _, 1, _, Nat.zero_le _, rfl, rfl, HL0, HK0, HA0, HX0⟩
      case round =>
        clear HA0 HX0 HK0 HL0
        obtain ⟨k, g, cap, m, hs, hk, rfl, rfl, HL, HK, HA, HX⟩ := hrel
        have HTR2 := Lib.hid (treeK_ok (tl.take k) _ hs HTR.out (fun x hx => HP.out x (List.mem_of_mem_take hx)) HK.out).1
        have hm25 := HTR2.out.len
        rw [HL.out] at hm25
        by_cases hlt : k < 0
        · exact absurd hlt (by omega)
        · obtain rfl : k = 0 := by omega
          have HF : Hid (treeK busy (some [(src, -1)]) tl = some hs) := Lib.hid (by
            have h := HK.out
            rw [List.take_of_length_le (by rw [HN.out]; exact Nat.le_refl _)] at h
            exact h)
          go_wp2
          go_ret2
          exact ⟨by rw [HF.out]; exact ⟨g, cap, ret_tuple_slice HL.out.symm, HA.out⟩, HX.out⟩
    · have hc2 : 1 ≤ c := by omega
      have hc3 : ¬ c - 1 = 0 := by omega
      have hc4 : ¬ (c : Int) - 1 = 0 := by omega
      go_enter Tryz.func54, Tryz.ntmps54
      go_upto_region 6 with fail
      go_loopw [9, 30] (fun hv iv wr => ∃ (k g cap m : Nat) (hs : List Hp), k ≤ n' ∧ iv = .int .i64 k ∧ hv = .slice (some ⟨g, 0, none⟩) m cap ∧ Hid (hs.length = m) ∧ Hid (treeK busy (some [(src, -1)]) (tl.take k) = some hs) ∧ Hid (HAt wr w.heap.size hs g cap) ∧ Hid (Below w.heap.size w wr)) (fun _ iv _ => n' - (intOf iv).toNat)
      case atStart => exact ⟨0, _, _, 1, _, Nat.zero_le _, rfl, rfl, HL0, HK0, HA0, HX0⟩
      case round =>
        clear HA0 HX0 HK0 HL0
        obtain ⟨k, g, cap, m, hs, hk, rfl, rfl, HL, HK, HA, HX⟩ := hrel
        have HTR2 := Lib.hid (treeK_ok (tl.take k) _ hs HTR.out (fun x hx => HP.out x (List.mem_of_mem_take hx)) HK.out).1
        have hm25 := HTR2.out.len
        rw [HL.out] at hm25
        by_cases hlt : k < n'
        · have hcT := (HX.out.cell (p := ⟨b, off + 1 + k, none⟩) hbl).trans (HC.out k hlt)
          have hkl : k < tl.length := by rw [HN.out]; exact hlt
          have htm : tl.getD k 0 ∈ tl := by simp [List.getD_eq_getElem?_getD, hkl]
          have h25 := HP.out _ htm
          have HKS : Hid (treeK busy (some [(src, -1)]) (tl.take (k + 1)) = extend busy hs (tl.getD k 0)) := Lib.hid (by
            rw [List.take_succ_eq_append_getElem hkl, treeK_snoc, HK.out]
            simp [List.getD_eq_getElem?_getD, hkl])
          have HFA : Hid (treeK busy (some [(src, -1)]) (tl.take (k + 1)) = none → treeK busy (some [(src, -1)]) tl = none) := Lib.hid treeK_fail
          generalize tl.getD k 0 = tile at *
          have HEE := Lib.hid (extend_eq HTR2.out h25)
          obtain ⟨hmc, hcm⟩ := HA.out.cap
          rw [HL.out] at hmc
          have hk0 : (0 : Int) ≤ (k : Int) := Int.natCast_nonneg _
          have hk1 : (k : Int) < (n' : Int) := by omega
          clear hkl htm
          go_wp2_with fail
          refine (path_any W track m cap tile src (some ⟨g, 0, none⟩) B busy hs _ (HW.out.below HX.out hWz) HB.out ht HBU.out HTR2.out HA.out.read HL.out hmc hcm h25).mono ?_
          rintro e w5 ⟨hp5, hb5⟩
          have HX5 := Lib.hid (HX.out.trans (hb5.mono HX.out.size))
          have HA5 := Lib.hid (HA.out.on hb5)
          have hwz5 := HX.out.size
          cases hpp : pathP busy hs tile with
          | none =>
            rw [hpp] at hp5
            obtain rfl : e = .returned (.tuple #[.slice none 0 0, .bool false]) := hp5
            have HNO : Hid (treeK busy (some [(src, -1)]) tl = none) := Lib.hid (HFA.out (by rw [HKS.out, HEE.out, hpp]; rfl))
            clear hpp hb5 hcT
            go_wp2
            go_ret2
            exact ⟨by rw [HNO.out]; rfl, HX5.out⟩
          | some P =>
            rw [hpp] at hp5
            obtain ⟨g9, c9, rfl, ha9⟩ := hp5
            have HSO : Hid (treeK busy (some [(src, -1)]) (tl.take (k + 1)) = some (hs ++ P)) := Lib.hid (by rw [HKS.out, HEE.out, hpp]; rfl)
            have hT3 := (treeK_ok (tl.take (k + 1)) _ (hs ++ P) HTR.out (fun x hx => HP.out x (List.mem_of_mem_take hx)) HSO.out).1.len
            rw [List.length_append, HL.out] at hT3
            obtain ⟨pl, hpl⟩ : ∃ pl, P.length = pl := ⟨_, rfl⟩
            have HPL := Lib.hid hpl
            rw [hpl] at hT3
            rw [hpl]
            have HP9 := Lib.hid ha9.read
            clear hpp hpl hb5 ha9 hcT
            go_wp2_with (at_builtin; refine wpList_appendH rfl (.tmp 44) (.tmp 45) rfl w5 w.heap.size g cap m hs rfl HL.out HA5.out (by omega) (some ⟨g9, 0, none⟩) pl c9 P rfl HPL.out (by omega) HP9.out ?_)
            intro g' cap' w7 ha7 hb7 _ _
            have HA7 := Lib.hid ha7
            have HX7 := Lib.hid (HX5.out.trans hb7)
            have HL7 : Hid ((hs ++ P).length = m + pl) := Lib.hid (by rw [List.length_append, HL.out, HPL.out])
            clear ha7 hb7 HA HX HA5 HX5 HP9
            go_wp2
            go_roundw
            case rel => exact ⟨k + 1, g', cap', m + pl, _, by omega, by go_num, rfl, HL7, HSO, HA7, HX7⟩
            case measure => simp [intOf]; omega
        · obtain rfl : k = n' := by omega
          have HF : Hid (treeK busy (some [(src, -1)]) tl = some hs) := Lib.hid (by
            have h := HK.out
            rw [List.take_of_length_le (by rw [HN.out]; exact Nat.le_refl _)] at h
            exact h)
          go_wp2
          go_ret2
          exact ⟨by rw [HF.out]; exact ⟨g, cap, ret_tuple_slice HL.out.symm, HA.out⟩, HX.out⟩
  · have HT0 : Hid (tree busy (src :: tl) = none) := Lib.hid (tree_none hbs)
    rw [hbs] at hwc
    clear hbs
    go_enter Tryz.func54, Tryz.ntmps54
    go_wp2
    go_ret2
    exact ⟨by rw [HT0.out]; rfl, Below.refl _ _⟩
end Go.Proofs.YtliedgaefgomjaaGreat
namespace Go.Proofs.YtliedgaefgomjaaGreat
open Go.RowKit Go.Deep Cut Plc Rt

/-- What route answers. -/
def RouteOut (BS net : Nat) (o : Option (Nat × List Hp)) (e : Ending) (w' : World) : Prop := match o with
  | none => e = .returned (.tuple #[.agg #[.int .i64 0, .int .i64 0, .slice none 0 0], .bool false])
  | some (t, hs) => ∃ g cap : Nat, e = .returned (.tuple #[.agg #[.int .i64 (net : Int), .int .i64 (t : Int), .slice (some ⟨g, 0, none⟩) hs.length cap], .bool true]) ∧ HAt w' BS hs g cap

set_option maxRecDepth 10000 in
set_option maxHeartbeats 2000000 in
theorem route_any (W net n c : Nat) (A : Option Addr) (B : List (List Bool)) (ps : List Nat) (w : World) (hW : WAt w W B) (hB : Bok B) (hA : IntsAt w w.heap.size A (Opt.intL ps)) (hn : ps.length = n) (hn1 : 1 ≤ n) (hnb : n ≤ 1000) (hnc : n ≤ c) (hp : ∀ x, x ∈ ps → x < 25) :
    Calls Tryz.prog 27 #[.pointer (some ⟨W, 0, none⟩), .int .i64 (net : Int), .slice A n c] w fun e w' => RouteOut w.heap.size net (onTrack B ps 8 0) e w' ∧ Below w.heap.size w w' := by
  have HW := Lib.hid hW
  have HB := Lib.hid hB
  have HA := Lib.hid hA
  have HN := Lib.hid hn
  have HP := Lib.hid hp
  have hWz := hW.lt
  obtain ⟨o, ho⟩ : ∃ o, onTrack B ps 8 0 = o := ⟨_, rfl⟩
  have HO0 : Hid (onTrack B ps (8 - 0) 0 = o) := Lib.hid ho
  rw [ho]
  have hr0 : Row (w.alloc (.cells #[.int .i64 0, .int .i64 0, .slice none 0 0] 36)) w.heap.size 36 #[.int .i64 0, .int .i64 0, .slice none 0 0] := heap_alloc_new w _
  have hb0 : Below w.heap.size w (w.alloc (.cells #[.int .i64 0, .int .i64 0, .slice none 0 0] 36)) := (Below.refl _ _).alloc (Nat.le_refl _) _
  clear hW hB hA hn hp ho
  go_enter Tryz.func27, Tryz.ntmps27
  go_upto_region 2 with fail
  generalize w.alloc (.cells #[.int .i64 0, .int .i64 0, .slice none 0 0] 36) = w1 at *
  have HR0 := Lib.hid hr0
  have HX0 := Lib.hid hb0
  clear hr0 hb0
  go_loopw [11] (fun iv wr => ∃ (t : Nat), t ≤ 8 ∧ iv = .int .i64 t ∧ Hid (onTrack B ps (8 - t) t = o) ∧ Hid (Row wr w.heap.size 36 #[.int .i64 0, .int .i64 0, .slice none 0 0]) ∧ Hid (Below w.heap.size w wr)) (fun iv _ => 8 - (intOf iv).toNat)
  case atStart => exact ⟨0, by omega, rfl, HO0, HR0, HX0⟩
  case round =>
    clear HR0 HX0 HO0
    obtain ⟨t, ht, rfl, HO, HR, HX⟩ := hrel
    have q0 := HR.out.cell 0
    have q1 := HR.out.cell 1
    have q2 := HR.out.cell 2
    have f0 := HR.out.frozen 0
    have f1 := HR.out.frozen 1
    have f2 := HR.out.frozen 2
    simp at q0 q1 q2
    have hz := HX.out.size
    by_cases hlt : t < 8
    · clear q0 q1 q2 f0 f1 f2
      go_wp2_with fail
      refine (tree_any W t n c A B (B.getD t []) ps wr (HW.out.below HX.out hWz) HB.out hlt rfl ((HA.out.below HX.out).mono hz) HN.out hn1 hnb hnc HP.out).mono ?_
      rintro e w3 ⟨hp3, hb3⟩
      have HX3 := Lib.hid (HX.out.trans (hb3.mono hz))
      have HR3 := Lib.hid (HR.out.below hb3 HR.out.lt)
      cases htr : tree (B.getD t []) ps with
      | none =>
        rw [htr] at hp3
        obtain rfl : e = .returned (.tuple #[.slice none 0 0, .bool false]) := hp3
        have HO3 : Hid (onTrack B ps (8 - (t + 1)) (t + 1) = o) := Lib.hid (by
          have h := HO.out
          rw [show 8 - t = 8 - (t + 1) + 1 by omega, onTrack_go htr] at h
          exact h)
        clear htr hb3
        go_wp2
        go_roundw
        case rel => exact ⟨t + 1, by omega, by go_num, HO3, HR3, HX3⟩
        case measure => simp [intOf]; omega
      | some hs =>
        rw [htr] at hp3
        obtain ⟨g9, c9, rfl, ha9⟩ := hp3
        have HOS : Hid (o = some (t, hs)) := Lib.hid (by
          have h := HO.out
          rw [show 8 - t = 8 - (t + 1) + 1 by omega, onTrack_on htr] at h
          exact h.symm)
        have q0 := HR3.out.cell 0
        have q1 := HR3.out.cell 1
        have q2 := HR3.out.cell 2
        have f0 := HR3.out.frozen 0
        have f1 := HR3.out.frozen 1
        have f2 := HR3.out.frozen 2
        simp at q0 q1 q2
        have HA9 := Lib.hid ha9
        have hg9 := ha9.gb
        have hRl := HR.out.lt
        clear htr hb3 ha9
        go_wp2
        have hr4 := ((HR3.out.set 0 (.int .i64 (net : Int))).set 1 (.int .i64 (t : Int))).set 2 (.slice (some ⟨g9, 0, none⟩) hs.length c9)
        simp at hr4
        have HA4 := Lib.hid (HA9.out.keep (w' := ((w3.setCell ⟨w.heap.size, 0, none⟩ (.int .i64 (net : Int))).setCell ⟨w.heap.size, 1, none⟩ (.int .i64 (t : Int))).setCell ⟨w.heap.size, 2, none⟩ (.slice (some ⟨g9, 0, none⟩) hs.length c9)) ((Below.heap_setCell _ ⟨w.heap.size, 2, none⟩ _ g9 (by show g9 ≠ w.heap.size; omega)).trans ((Below.heap_setCell _ ⟨w.heap.size, 1, none⟩ _ g9 (by show g9 ≠ w.heap.size; omega)).trans (Below.heap_setCell _ ⟨w.heap.size, 0, none⟩ _ g9 (by show g9 ≠ w.heap.size; omega)))))
        have HX4 := Lib.hid (((HX3.out.setCell (p := ⟨w.heap.size, 0, none⟩) (Nat.le_refl w.heap.size) (.int .i64 (net : Int))).setCell (p := ⟨w.heap.size, 1, none⟩) (Nat.le_refl w.heap.size) (.int .i64 (t : Int))).setCell (p := ⟨w.heap.size, 2, none⟩) (Nat.le_refl w.heap.size) (.slice (some ⟨g9, 0, none⟩) hs.length c9))
        generalize ((w3.setCell ⟨w.heap.size, 0, none⟩ (.int .i64 (net : Int))).setCell ⟨w.heap.size, 1, none⟩ (.int .i64 (t : Int))).setCell ⟨w.heap.size, 2, none⟩ (.slice (some ⟨g9, 0, none⟩) hs.length c9) = w4 at *
        clear q0 q1 q2 f0 f1 f2
        have q0 := hr4.cell 0
        have q1 := hr4.cell 1
        have q2 := hr4.cell 2
        simp at q0 q1 q2
        refine bodyPost_ret (v := .tuple #[.agg #[.int .i64 (net : Int), .int .i64 (t : Int), .slice (some ⟨g9, 0, none⟩) hs.length c9], .bool true]) (by simp [results, Tryz.results27, go_sem, q0, q1, q2]) rfl ⟨?_, HX4.out⟩
        rw [HOS.out]
        exact ⟨g9, c9, rfl, HA4.out.lower (by omega)⟩
    · obtain rfl : t = 8 := by omega
      have HON : Hid (o = none) := Lib.hid HO.out.symm
      go_wp2
      have hr4 := ((HR.out.set 0 (.int .i64 0)).set 1 (.int .i64 0)).set 2 (.slice none 0 0)
      simp at hr4
      have HX4 := Lib.hid (((HX.out.setCell (p := ⟨w.heap.size, 0, none⟩) (Nat.le_refl w.heap.size) (.int .i64 0)).setCell (p := ⟨w.heap.size, 1, none⟩) (Nat.le_refl w.heap.size) (.int .i64 0)).setCell (p := ⟨w.heap.size, 2, none⟩) (Nat.le_refl w.heap.size) (.slice none 0 0))
      generalize ((wr.setCell ⟨w.heap.size, 0, none⟩ (.int .i64 0)).setCell ⟨w.heap.size, 1, none⟩ (.int .i64 0)).setCell ⟨w.heap.size, 2, none⟩ (.slice none 0 0) = w4 at *
      clear q0 q1 q2 f0 f1 f2
      have q0 := hr4.cell 0
      have q1 := hr4.cell 1
      have q2 := hr4.cell 2
      simp at q0 q1 q2
      refine bodyPost_ret (v := .tuple #[.agg #[.int .i64 0, .int .i64 0, .slice none 0 0], .bool false]) (by simp [results, Tryz.results27, go_sem, q0, q1, q2]) rfl ⟨?_, HX4.out⟩
      rw [HON.out]
      rfl

set_option maxRecDepth 10000 in
set_option maxHeartbeats 2000000 in
theorem take_any (BS W net t n c : Nat) (A : Option Addr) (B : List (List Bool)) (hs : List Hp) (w : World) (hW : WAt w W B) (hB : Bok B) (hBS : BS ≤ W) (hBz : BS ≤ w.heap.size) (ht : t < 8) (hA : GatesAt w w.heap.size A (hpI hs)) (hAW : ∀ b off, A = some ⟨b, off, none⟩ → b ≠ W) (hn : hs.length = n) (hnb : n ≤ 1000) (hh : ∀ x, x ∈ tiles hs → x < 25) :
    Calls Tryz.prog 29 #[.pointer (some ⟨W, 0, none⟩), .agg #[.int .i64 (net : Int), .int .i64 (t : Int), .slice A n c]] w fun e w' => e = .returned (.tuple #[]) ∧ WAt w' W (takeK B t (tiles hs)) ∧ Below BS w w' ∧ ∀ b, b < w.heap.size → b ≠ W → w'.heap[b]? = w.heap[b]? := by
  have HB := Lib.hid hB
  have HA := Lib.hid hA
  have HN := Lib.hid hn
  have HH := Lib.hid hh
  have HAW := Lib.hid hAW
  have hWz := hW.lt
  have HTL : Hid ((tiles hs).length = n) := Lib.hid (by unfold tiles; rw [List.length_map, hn])
  have HTK : Hid (∀ k, k < n → (tiles hs).take (k + 1) = (tiles hs).take k ++ [(hs.getD k (0, 0)).1] ∧ (hs.getD k (0, 0)).1 < 25) := Lib.hid (fun k hk => by
    have hk2 : k < hs.length := by rw [hn]; exact hk
    have hk3 : k < (tiles hs).length := by rw [HTL.out]; exact hk
    have e : (tiles hs)[k] = (hs.getD k (0, 0)).1 := by simp [tiles, List.getD_eq_getElem?_getD, hk2]
    exact ⟨by rw [List.take_succ_eq_append_getElem hk3, e], by rw [← e]; exact hh _ (List.getElem_mem hk3)⟩)
  have hb0 : Below w.heap.size w (w.alloc (.cells #[.int .i64 (net : Int), .int .i64 (t : Int), .slice A n c] 36)) := (Below.refl _ _).alloc (Nat.le_refl _) _
  have hr0 : Row (w.alloc (.cells #[.int .i64 (net : Int), .int .i64 (t : Int), .slice A n c] 36)) w.heap.size 36 #[.int .i64 (net : Int), .int .i64 (t : Int), .slice A n c] := heap_alloc_new w _
  have HW0 : Hid (WAt (w.alloc (.cells #[.int .i64 (net : Int), .int .i64 (t : Int), .slice A n c] 36)) W (takeK B t ((tiles hs).take 0))) := Lib.hid (by
    rw [show (tiles hs).take 0 = [] from rfl, takeK_nil hB ht]
    exact hW.below hb0 hWz)
  have HX0 : Hid (Below BS w (w.alloc (.cells #[.int .i64 (net : Int), .int .i64 (t : Int), .slice A n c] 36)) ∧ ∀ b, b < w.heap.size → b ≠ W → (w.alloc (.cells #[.int .i64 (net : Int), .int .i64 (t : Int), .slice A n c] 36)).heap[b]? = w.heap[b]?) := Lib.hid ⟨hb0.mono hBz, fun b hb _ => hb0.block b hb⟩
  clear hW hB hA hn hh hAW hb0
  go_enter Tryz.func29, Tryz.ntmps29
  go_upto_region 2 with fail
  generalize w.alloc (.cells #[.int .i64 (net : Int), .int .i64 (t : Int), .slice A n c] 36) = w1 at *
  have HR0 := Lib.hid hr0
  clear hr0
  go_loopw [9] (fun iv wr => ∃ (k : Nat), k ≤ n ∧ iv = .int .i64 k ∧ Hid (WAt wr W (takeK B t ((tiles hs).take k))) ∧ Hid (Row wr w.heap.size 36 #[.int .i64 (net : Int), .int .i64 (t : Int), .slice A n c]) ∧ Hid (Below BS w wr ∧ ∀ b, b < w.heap.size → b ≠ W → wr.heap[b]? = w.heap[b]?)) (fun iv _ => n - (intOf iv).toNat)
  case atStart => exact ⟨0, Nat.zero_le _, rfl, HW0, HR0, HX0⟩
  case round =>
    clear HW0 HR0 HX0
    obtain ⟨k, hk, rfl, HW, HR, HX⟩ := hrel
    by_cases hlt : k < n
    · obtain ⟨b, off, rfl, hbl, hc0, hc1⟩ := HA.out k (by rw [hpI_len, HN.out]; exact hlt)
      rw [hpI_at] at hc0 hc1
      have hbW := HAW.out b off rfl
      have hc0 := (World.cell?_of_block (a := ⟨b, off + k * 2, none⟩) (HX.out.2 b hbl hbW)).trans hc0
      have hc1 := (World.cell?_of_block (a := ⟨b, off + k * 2 + 1, none⟩) (HX.out.2 b hbl hbW)).trans hc1
      obtain ⟨e1, e2⟩ := HTK.out k hlt
      have HE1 := Lib.hid e1
      simp only at hc0 hc1
      generalize (hs.getD k (0, 0)).1 = v at *
      generalize (hs.getD k (0, 0)).2 = x at *
      have hk0 : (0 : Int) ≤ (k : Int) := Int.natCast_nonneg _
      have hk1 : (k : Int) < (n : Int) := by omega
      clear e1
      go_upto_region 4 with fail
      have hb5 : Below wr.heap.size wr (wr.alloc (.cells #[.int .i64 (v : Int), .int .i64 x] 38)) := (Below.refl _ _).alloc (Nat.le_refl _) _
      have hr5 : Row (wr.alloc (.cells #[.int .i64 (v : Int), .int .i64 x] 38)) wr.heap.size 38 #[.int .i64 (v : Int), .int .i64 x] := heap_alloc_new wr _
      have HR5 := Lib.hid (HR.out.below hb5 HR.out.lt)
      have HW5 : Hid (WAt (wr.alloc (.cells #[.int .i64 (v : Int), .int .i64 x] 38)) W (takeK B t ((tiles hs).take k))) := Lib.hid (Row.below HW.out hb5 (Row.lt HW.out))
      have hzz := HX.out.1.size
      have HX5 : Hid (Below BS w (wr.alloc (.cells #[.int .i64 (v : Int), .int .i64 x] 38)) ∧ ∀ b, b < w.heap.size → b ≠ W → (wr.alloc (.cells #[.int .i64 (v : Int), .int .i64 x] 38)).heap[b]? = w.heap[b]?) := Lib.hid ⟨HX.out.1.trans (hb5.mono (by omega)), fun b h1 h2 => (hb5.block b (by omega)).trans (HX.out.2 b h1 h2)⟩
      have hwq : w.heap.size < wr.heap.size := HR.out.lt
      generalize wr.alloc (.cells #[.int .i64 (v : Int), .int .i64 x] 38) = w5 at *
      generalize wr.heap.size = q5 at *
      have z0 := hr5.cell 0
      simp at z0
      have q1 := HR5.out.cell 1
      simp at q1
      clear hb5 hr5 hc0 hc1 HW HR HX
      have wc := (Row.cell HW5.out (v * 8 + t)).trans (wRow_at _ e2 ht)
      have wf := Row.frozen HW5.out (v * 8 + t)
      generalize ((takeK B t ((tiles hs).take k)).getD t []).getD v false = old at *
      have HS := Lib.hid (takeK_snoc HB.out ht ((tiles hs).take k) v)
      have HW6 : Hid (WAt (w5.setCell ⟨W, v * 8 + t, none⟩ (.bool true)) W (takeK B t ((tiles hs).take (k + 1)))) := Lib.hid (by
        have h := Row.set HW5.out (v * 8 + t) (.bool true)
        rw [wRow_set (takeK_ok HB.out ht _) e2 ht, ← HS.out, ← HE1.out] at h
        exact h)
      have HR6 := Lib.hid (HR5.out.far (p := ⟨W, v * 8 + t, none⟩) (show w.heap.size ≠ W by omega) (.bool true))
      have HX6 : Hid (Below BS w (w5.setCell ⟨W, v * 8 + t, none⟩ (.bool true)) ∧ ∀ b, b < w.heap.size → b ≠ W → (w5.setCell ⟨W, v * 8 + t, none⟩ (.bool true)).heap[b]? = w.heap[b]?) := Lib.hid ⟨HX5.out.1.setCell (p := ⟨W, v * 8 + t, none⟩) hBS _, fun b h1 h2 => (Below.heap_setCell w5 ⟨W, v * 8 + t, none⟩ _ b h2).trans (HX5.out.2 b h1 h2)⟩
      have hv0 : (0 : Int) ≤ (v : Int) := Int.natCast_nonneg _
      have hv1 : (v : Int) < 25 := by omega
      have ht0 : (0 : Int) ≤ (t : Int) := Int.natCast_nonneg _
      have ht1 : (t : Int) < 8 := by omega
      go_region
      have HW7 : Hid (WAt (w5.setCell ⟨W, v * 8 + t, none⟩ (.bool true)).drew W (takeK B t ((tiles hs).take (k + 1)))) := HW6
      have HR7 : Hid (Row (w5.setCell ⟨W, v * 8 + t, none⟩ (.bool true)).drew w.heap.size 36 #[.int .i64 (net : Int), .int .i64 (t : Int), .slice (some ⟨b, off, none⟩) n c]) := HR6
      have HX7 : Hid (Below BS w (w5.setCell ⟨W, v * 8 + t, none⟩ (.bool true)).drew ∧ ∀ b, b < w.heap.size → b ≠ W → (w5.setCell ⟨W, v * 8 + t, none⟩ (.bool true)).drew.heap[b]? = w.heap[b]?) := Lib.hid ⟨HX6.out.1.drew, HX6.out.2⟩
      clear wc wf q1 z0 HW6 HR6 HX6 HW5 HR5 HX5
      generalize (w5.setCell ⟨W, v * 8 + t, none⟩ (.bool true)).drew = w7 at *
      go_wp2
      go_roundw
      case rel => exact ⟨k + 1, by omega, by go_num, HW7, HR7, HX7⟩
      case measure => simp [intOf]; omega
    · obtain rfl : k = n := by omega
      have HF : Hid (WAt wr W (takeK B t (tiles hs))) := Lib.hid (by
        have h := HW.out
        rw [List.take_of_length_le (by rw [HTL.out]; exact Nat.le_refl _)] at h
        exact h)
      go_wp2_with fail
      go_end0
      exact ⟨rfl, HF.out, HX.out⟩

theorem tiles_snoc (p : List Nat) (xs : List Pn) {k : Nat} (hk : k < xs.length) : (xs.take (k + 1)).map (tileP p) = (xs.take k).map (tileP p) ++ [tileP p (xs.getD k (0, 0))] := by
  rw [List.take_succ_eq_append_getElem hk, List.map_append, List.getD_eq_getElem?_getD, List.getElem?_eq_getElem hk]
  rfl
/-- The first k tiles, and zeros. -/
def tilK (p : List Nat) (xs : List Pn) (k : Nat) : List Nat := (xs.take k).map (tileP p) ++ List.replicate (xs.length - k) 0
theorem tilK_len (p : List Nat) (xs : List Pn) {k : Nat} (hk : k ≤ xs.length) : (tilK p xs k).length = xs.length := by
  unfold tilK
  rw [List.length_append, List.length_map, List.length_take, List.length_replicate]
  omega
theorem tilK_set (p : List Nat) (xs : List Pn) {k : Nat} (hk : k < xs.length) : (tilK p xs k).set k (tileP p (xs.getD k (0, 0))) = tilK p xs (k + 1) := by
  unfold tilK
  rw [tiles_snoc p xs hk, List.set_append_right _ _ (by rw [List.length_map, List.length_take]; omega), List.length_map, List.length_take, show k - min k xs.length = 0 by omega, show xs.length - k = xs.length - (k + 1) + 1 by omega, List.replicate_succ, List.append_assoc]
  rfl

set_option maxRecDepth 10000 in
set_option maxHeartbeats 2000000 in
theorem tilesOf_any (A AP : Option Addr) (l c n cap : Nat) (xs : List Pn) (pl : List Nat) (w : World) (hx : GatesAt w w.heap.size A xs) (hl : xs.length = l) (hlb : l ≤ 1000) (hp : IntsAt w w.heap.size AP (Opt.intL pl)) (hn : pl.length = n) (hnb : n ≤ 1000) (hok : ∀ k, k < l → okPin n (xs.getD k (0, 0))) :
    Calls Tryz.prog 28 #[.slice A l c, .slice AP n cap] w fun e w' => ∃ g cap' : Nat, e = .returned (.slice (some ⟨g, 0, none⟩) l cap') ∧ TimesAt w' w.heap.size (xs.map (tileP pl)) g cap' ∧ Below w.heap.size w w' := by
  have HX := Lib.hid hx
  have HL := Lib.hid hl
  have HP := Lib.hid hp
  have HN := Lib.hid hn
  have HOK := Lib.hid hok
  have hmk := fun W => run_make_row' (P := Tryz.prog) 23 3 (.int .i64 0) 8 Tryz.underlying23 Tryz.info3 rfl .i64 .i64 l (by omega) (by omega) W
  have HT0 : Hid (TimesAt (w.alloc (.cells (madeCells #[.int .i64 0] l) 3)) w.heap.size (tilK pl xs 0) w.heap.size l) := Lib.hid (by
    have h := TimesAt.made w w.heap.size l (Nat.le_refl _) (by omega)
    have e : tilK pl xs 0 = List.replicate l 0 := by unfold tilK; rw [hl]; rfl
    rw [e]
    exact h)
  have HB0 : Hid (Below w.heap.size w (w.alloc (.cells (madeCells #[.int .i64 0] l) 3))) := Lib.hid ((Below.refl _ _).alloc (Nat.le_refl _) _)
  clear hx hl hp hn hok
  go_enter Tryz.func28, Tryz.ntmps28
  go_upto_region 3 with fail
  clear hmk
  generalize w.alloc (.cells (madeCells #[.int .i64 0] l) 3) = w1 at *
  go_loopw [13] (fun iv wr => ∃ (k : Nat), k ≤ l ∧ iv = .int .i64 k ∧ Hid (TimesAt wr w.heap.size (tilK pl xs k) w.heap.size l) ∧ Hid (Below w.heap.size w wr)) (fun iv _ => l - (intOf iv).toNat)
  case atStart => exact ⟨0, Nat.zero_le _, rfl, HT0, HB0⟩
  case round =>
    clear HT0 HB0
    obtain ⟨k, hk, rfl, HT, HB⟩ := hrel
    by_cases hlt : k < l
    · obtain ⟨b, off, rfl, hbl, hc0, hc1⟩ := HX.out k (by rw [HL.out]; exact hlt)
      have hc0 := (HB.out.cell (p := ⟨b, off + k * 2, none⟩) hbl).trans hc0
      have hc1 := (HB.out.cell (p := ⟨b, off + k * 2 + 1, none⟩) hbl).trans hc1
      have HOKk := Lib.hid (HOK.out k hlt)
      have HS := Lib.hid (tilK_set pl xs (k := k) (by rw [HL.out]; exact hlt))
      have HZ : Hid (xs.getD k (0, 0) = ((xs.getD k (0, 0)).1, (xs.getD k (0, 0)).2)) := Lib.hid rfl
      generalize (xs.getD k (0, 0)).1 = u0 at *
      generalize (xs.getD k (0, 0)).2 = u1 at *
      rw [HZ.out] at HOKk HS
      have hk0 : (0 : Int) ≤ (k : Int) := Int.natCast_nonneg _
      have hk1 : (k : Int) < (l : Int) := by omega
      go_upto_region 5 with fail
      have hb5 : Below wr.heap.size wr (wr.alloc (.cells #[.int .i64 u0, .int .i64 u1] 92)) := (Below.refl _ _).alloc (Nat.le_refl _) _
      have hr5 : Row (wr.alloc (.cells #[.int .i64 u0, .int .i64 u1] 92)) wr.heap.size 92 #[.int .i64 u0, .int .i64 u1] := heap_alloc_new wr _
      have HT5 := Lib.hid (HT.out.keep (hb5.block w.heap.size HT.out.gb.2))
      have HB5 := Lib.hid (HB.out.trans (hb5.mono HB.out.size))
      generalize wr.alloc (.cells #[.int .i64 u0, .int .i64 u1] 92) = w5 at *
      generalize wr.heap.size = q5 at *
      have z0 := hr5.cell 0
      have z1 := hr5.cell 1
      simp at z0 z1
      clear hb5 hr5 hc0 hc1 HT HB
      go_wp2_with fail
      refine (tile_any AP n cap u0 u1 pl w5 ((HP.out.below HB5.out).mono HB5.out.size) HN.out HOKk.out hnb).mono ?_
      rintro e w6 ⟨rfl, hb6⟩
      have HT6 := Lib.hid (HT5.out.keep (hb6.block w.heap.size HT5.out.gb.2))
      have HB6 := Lib.hid (HB5.out.trans (hb6.mono HB5.out.size))
      obtain ⟨d1, d2⟩ := HT6.out.row (k := k) (by rw [tilK_len _ _ (by rw [HL.out]; omega), HL.out]; exact hlt)
      have HT7 := Lib.hid (HT6.out.put k (tileP pl (u0, u1)))
      rw [HS.out] at HT7
      have HB7 := Lib.hid (HB6.out.setCell (p := ⟨w.heap.size, k, none⟩) (Nat.le_refl w.heap.size) (.int .i64 (tileP pl (u0, u1) : Nat)))
      generalize (tilK pl xs k).getD k 0 = old at *
      generalize tileP pl (u0, u1) = tv at *
      clear hb6 z0 z1 HT5 HB5 HT6 HB6
      go_wp2
      go_roundw
      case rel => exact ⟨k + 1, by omega, by go_num, HT7, HB7⟩
      case measure => simp [intOf]; omega
    · obtain rfl : k = l := by omega
      have HF : Hid (TimesAt wr w.heap.size (xs.map (tileP pl)) w.heap.size k) := Lib.hid (by
        have h := HT.out
        unfold tilK at h
        rw [HL.out, Nat.sub_self, List.take_of_length_le (by rw [HL.out]; exact Nat.le_refl _)] at h
        simpa using h)
      go_wp2
      go_ret
      exact ⟨w.heap.size, k, rfl, HF.out, HB.out⟩
end Go.Proofs.YtliedgaefgomjaaGreat
/- Memory of lists of routes. -/
namespace Go.Proofs.YtliedgaefgomjaaGreat
open Go.RowKit Go.Deep Cut Plc Rt

/-- A list of hops in a block of its own, in S. -/
def HLeaf (w : World) (S : Nat → Prop) (A : Option Addr) (x : List Hp) : Prop :=
  x = [] ∨ ∃ (b : Nat) (cs : Array Value), A = some ⟨b, 0, none⟩ ∧ S b ∧ Row w b 38 cs ∧ ∀ j, j < x.length → cs[j * 2]? = some (.int .i64 ((x.getD j (0, 0)).1 : Nat)) ∧ cs[j * 2 + 1]? = some (.int .i64 (x.getD j (0, 0)).2)
theorem HLeaf.kept {w w' : World} {S T : Nat → Prop} {A : Option Addr} {x : List Hp} (h : HLeaf w S A x) (hS : ∀ b, S b → w'.heap[b]? = w.heap[b]?) (hT : ∀ b, S b → T b) : HLeaf w' T A x := by
  rcases h with h | ⟨b, cs, e, hs, hr, hc⟩
  · exact .inl h
  · exact .inr ⟨b, cs, e, hT b hs, (hS b hs).trans hr, hc⟩
theorem HLeaf.gates {w : World} {B : Nat} {A : Option Addr} {x : List Hp} (h : HLeaf w (fun b => b < B) A x) : GatesAt w B A (hpI x) := fun k hk => by
  rw [hpI_len] at hk
  rcases h with h | ⟨b, cs, e, hs, hr, hc⟩
  · subst h; simp at hk
  · obtain ⟨h1, h2⟩ := hc k hk
    refine ⟨b, 0, e, hs, ?_, ?_⟩
    · rw [Nat.zero_add, hpI_at, hr.cell]; exact h1
    · rw [Nat.zero_add, hpI_at, hr.cell]; exact h2
theorem HAt.leaf {w : World} {B g cap : Nat} {hs : List Hp} (h : HAt w B hs g cap) {S : Nat → Prop} (hS : S g) : HLeaf w S (some ⟨g, 0, none⟩) hs := by
  obtain ⟨cur, hrow, _, _, _, _, hget⟩ := own_partsE h
  refine .inr ⟨g, cur, rfl, hS, hrow, fun j hj => ?_⟩
  obtain ⟨e1, e2⟩ := gvs_get (hpI hs) j (by rw [hpI_len]; exact hj)
  rw [hpI_at] at e1 e2
  exact ⟨(hget _ (by omega)).trans e1, (hget _ (by omega)).trans e2⟩

/-- The cells of such a list, the leaves in S. -/
def RoHdrs (w : World) (S : Nat → Prop) (hs : List Value) (es : List Ro) : Prop :=
  hs.length = es.length * 3 ∧ ∀ k, k < es.length → ∃ (A' : Option Addr) (cap : Nat), hs[k * 3]? = some (.int .i64 ((es.getD k (0, 0, [])).1 : Nat)) ∧ hs[k * 3 + 1]? = some (.int .i64 ((es.getD k (0, 0, [])).2.1 : Nat)) ∧ (hs[k * 3 + 2]? = some (.slice A' (es.getD k (0, 0, [])).2.2.length cap)) ∧ HLeaf w S A' (es.getD k (0, 0, [])).2.2
theorem RoHdrs.kept {w w' : World} {S T : Nat → Prop} {hs : List Value} {es : List Ro} (h : RoHdrs w S hs es) (hS : ∀ b, S b → w'.heap[b]? = w.heap[b]?) (hT : ∀ b, S b → T b) : RoHdrs w' T hs es := ⟨h.1, fun k hk => by
  obtain ⟨A', cap, e0, e1, e2, hx⟩ := h.2 k hk
  exact ⟨A', cap, e0, e1, e2, hx.kept hS hT⟩⟩
theorem RoHdrs.nil (w : World) (S : Nat → Prop) : RoHdrs w S [] [] := ⟨rfl, fun k hk => absurd hk (by simp)⟩
theorem RoHdrs.snoc {w : World} {S : Nat → Prop} {hs : List Value} {es : List Ro} (h : RoHdrs w S hs es) (v : Nat) {A : Option Addr} {m c : Nat} {y : List Hp} (t : Nat) (hm : y.length = m) (hx : HLeaf w S A y) : RoHdrs w S (hs ++ [.int .i64 v, .int .i64 t, .slice A m c]) (es ++ [(v, t, y)]) := by
  subst hm
  have hl := h.1
  refine ⟨by simp [hl]; omega, fun k hk => ?_⟩
  by_cases e : k < es.length
  · obtain ⟨A', cap, e0, e1, e2, hx'⟩ := h.2 k e
    rw [Circ.getD_app_lt _ _ _ _ e]
    refine ⟨A', cap, ?_, ?_, ?_, hx'⟩
    · rw [List.getElem?_append_left (by omega)]; exact e0
    · rw [List.getElem?_append_left (by omega)]; exact e1
    · skip
      · rw [List.getElem?_append_left (by omega)]; exact e2
  · obtain rfl : k = es.length := by simp at hk; omega
    rw [Circ.getD_app_at _ _ _ _ rfl]
    refine ⟨A, c, ?_, ?_, ?_, hx⟩
    · rw [List.getElem?_append_right (by omega), hl, Nat.sub_self]; rfl
    · rw [List.getElem?_append_right (by omega), hl, show es.length * 3 + 1 - es.length * 3 = 1 by omega]; rfl
    · skip
      · rw [List.getElem?_append_right (by omega), hl, show es.length * 3 + 2 - es.length * 3 = 2 by omega]; rfl
/-- Such a list that can be read. -/
def RoIn (w : World) (B : Nat) (A : Option Addr) (es : List Ro) : Prop :=
  ∀ k, k < es.length → ∃ (b off : Nat), A = some ⟨b, off, none⟩ ∧ b < B ∧ ∃ (A' : Option Addr) (c' : Nat), w.cell? ⟨b, off + k * 3, none⟩ = some (.int .i64 ((es.getD k (0, 0, [])).1 : Nat)) ∧ w.cell? ⟨b, off + k * 3 + 1, none⟩ = some (.int .i64 ((es.getD k (0, 0, [])).2.1 : Nat)) ∧ (w.cell? ⟨b, off + k * 3 + 2, none⟩ = some (.slice A' (es.getD k (0, 0, [])).2.2.length c')) ∧ GatesAt w B A' (hpI (es.getD k (0, 0, [])).2.2)
theorem RoIn.below {w w' : World} {B : Nat} {A : Option Addr} {es : List Ro} (h : RoIn w B A es) (hb : Below B w w') : RoIn w' B A es := fun k hk => by
  obtain ⟨b, off, e, hB, A', c', e0, e1, e2, hx⟩ := h k hk
  refine ⟨b, off, e, hB, A', c', (hb.cell (by exact hB)).trans e0, (hb.cell (by exact hB)).trans e1, ?_, hx.below hb⟩
  exact (hb.cell (by exact hB)).trans e2
theorem RoIn.mono {w : World} {B B' : Nat} {A : Option Addr} {es : List Ro} (h : RoIn w B A es) (hb : B ≤ B') : RoIn w B' A es := fun k hk => by
  obtain ⟨b, off, e, hB, A', c', e0, e1, e2, hx⟩ := h k hk
  exact ⟨b, off, e, Nat.lt_of_lt_of_le hB hb, A', c', e0, e1, e2, hx.mono hb⟩
/-- Such a list in memory of the call's own. -/
def RoAt (w : World) (B : Nat) (es : List Ro) (hs : List Value) (g cap : Nat) : Prop := w.ownsRow B 36 3 (.slice (some ⟨g, 0, none⟩) es.length cap) es.length hs ∧ RoHdrs w (Off w B g) hs es
theorem RoAt.gb {w : World} {B g cap : Nat} {es : List Ro} {hs : List Value} (h : RoAt w B es hs g cap) : B ≤ g ∧ g < w.heap.size := h.1.lt g rfl
theorem RoAt.on {w w' : World} {B g cap : Nat} {es : List Ro} {hs : List Value} (h : RoAt w B es hs g cap) (hb : Below w.heap.size w w') : RoAt w' B es hs g cap :=
  ⟨own_keepE h.1 (hb.block g (h.1.lt g rfl).2), h.2.kept (fun b hb' => hb.block b hb'.2.1) (Off.on hb.size)⟩
theorem RoAt.keep {w w' : World} {B g cap : Nat} {es : List Ro} {hs : List Value} (h : RoAt w B es hs g cap) (hk : ∀ b, B ≤ b → b < w.heap.size → w'.heap[b]? = w.heap[b]?) (hz : w.heap.size ≤ w'.heap.size) : RoAt w' B es hs g cap :=
  ⟨own_keepE h.1 (hk g h.gb.1 h.gb.2), h.2.kept (fun b hb' => hk b hb'.1 hb'.2.1) (Off.on hz)⟩
theorem RoAt.read {w : World} {B g cap : Nat} {es : List Ro} {hs : List Value} (h : RoAt w B es hs g cap) : RoIn w w.heap.size (some ⟨g, 0, none⟩) es := fun k hk => by
  obtain ⟨cur, hrow, _, _, _, _, hget⟩ := own_partsE h.1
  obtain ⟨A', c', e0, e1, e2, hx⟩ := h.2.2 k hk
  refine ⟨g, 0, rfl, hrow.lt, A', c', ?_, ?_, ?_, (hx.kept (fun _ _ => rfl) (T := fun b => b < w.heap.size) (fun b hb => hb.2.1)).gates⟩
  · rw [Nat.zero_add, hrow.cell, hget _ (by omega)]; exact e0
  · rw [Nat.zero_add, hrow.cell, hget _ (by omega)]; exact e1
  · skip
    · rw [Nat.zero_add, hrow.cell, hget _ (by omega)]; exact e2
theorem Tryz.infoRo : (Tryz.prog.info? 36).map (fun i => (i.zero, i.size, i.bytes)) = some (some (.agg #[.int .i64 0, .int .i64 0, .slice none 0 0]), 3, 40) := by kernel_rfl
theorem RoAt.made (w : World) (B : Nat) (hB : B ≤ w.heap.size) : RoAt (w.alloc (.cells #[] 36)) B [] [] w.heap.size 0 := by
  have h := World.ownsRow_lit (base := B) (e := 36) (size := 3) w #[] 0 hB (by simp [maxLen]) (by simp)
  exact ⟨h, RoHdrs.nil _ _⟩
section
variable {ops : Array Oper} {rest : List Oper} {o : Oper} {a : Act} {Q : Exit → Act → World → Prop}
/-- One more. -/
theorem wpList_pushRo (hgd : o.guard = none) (s x : Operand) (ho : o.op = .call { callee := .builtin .append, args := #[s, x], argTypes := #[29, 29] })
    (wr : World) (B g cap n : Nat) (es : List Ro) (hs : List Value) (hev : a.eval s = .slice (some ⟨g, 0, none⟩) n cap) (hn : es.length = n) (h : RoAt wr B es hs g cap) (hnb : n ≤ 1000)
    (v t : Nat) (A : Option Addr) (m c : Nat) (y : List Hp) (hx : a.eval x = .slice (some ⟨wr.heap.size, 0, none⟩) 1 1) (hm : y.length = m) (hL : HLeaf wr (Off wr B g) A y)
    (cont : ∀ g' cap' w5, RoAt w5 B (es ++ [(v, t, y)]) (hs ++ [.int .i64 v, .int .i64 t, .slice A m c]) g' cap' → Below B wr w5 → (∀ b, b < wr.heap.size → b ≠ g → w5.heap[b]? = wr.heap[b]?) → (g' = g ∨ wr.heap.size < g') → wpList Tryz.prog ops Q rest (a.put o.dst (.slice (some ⟨g', 0, none⟩) (n + 1) cap')) w5) :
    wpList Tryz.prog ops Q (o :: rest) a (wr.alloc (.cells #[.int .i64 v, .int .i64 t, .slice A m c] 36)) := by
  subst hn
  obtain ⟨i0, hi0, hz0, hz1, hz2⟩ := info_split Tryz.infoRo
  obtain ⟨hB, hgl⟩ := h.gb
  refine wpList_append_kept _ hgd s x 29 ho B 36 i0 _ 3 40 Tryz.underlying29 hi0 hz0 hz1 hz2 rfl (by omega) (.slice (some ⟨g, 0, none⟩) es.length cap) es.length hs hev (h.1.alloc _) ⟨wr.heap.size, 0, none⟩ 1 1 [.int .i64 v, .int .i64 t, .slice A m c] hx rfl (World.news_of_block (cs := #[.int .i64 v, .int .i64 t, .slice A m c]) (t := 36) (fr := (0, 0)) (heap_alloc_new wr _)) (by simp [Value.oneCell']) (by omega) (by simp [maxLen]; omega) (by omega) (by simp; omega) _ rfl ?_
  intro g' cap' w5 hown5 hgr5 hat5 hlt5 hkept5
  refine cont g' cap' w5 ⟨by rw [List.length_append, List.length_singleton]; exact hown5, ?_⟩ (below_alloc_grown hgr5 (by omega) hB) (off_grown hgr5) ?_
  · exact (h.2.kept (fun b hb => off_grown hgr5 b hb.2.1 hb.2.2) (off_step hgr5 hat5)).snoc v t hm (hL.kept (fun b hb => off_grown hgr5 b hb.2.1 hb.2.2) (off_step hgr5 hat5))
  · rcases hat5 with h1 | h1
    · left; simp [Value.ownBlock] at h1; omega
    · right; simp at h1; omega
end
end Go.Proofs.YtliedgaefgomjaaGreat
/- Comparison and marks of hops. -/
namespace Go.Proofs.YtliedgaefgomjaaGreat
open Go.RowKit Go.Deep Cut Plc Rt
set_option maxRecDepth 100000

set_option maxHeartbeats 400000 in
theorem eqHop_any (a b : Int) (w : World) :
    Calls Tryz.prog 84 #[.agg #[.int .i64 a, .int .i64 b], .agg #[.int .i64 a, .int .i64 b]] w fun e w' => e = .returned (.bool true) ∧ Below w.heap.size w w' := by
  go_enter Tryz.func84, Tryz.ntmps84
  go_wp2
  go_ret
  exact ⟨rfl, ((Below.refl _ _).alloc (Nat.le_refl _) _).alloc (by simp) _⟩

set_option maxHeartbeats 400000 in
theorem eqHopS_any (A A' : Option Addr) (cap cap' : Nat) (xs : List (Int × Int)) (w : World) (hx : GatesAt w w.heap.size A xs) (hy : GatesAt w w.heap.size A' xs) (hl : xs.length ≤ 2000000) :
    Calls Tryz.prog 68 #[.slice A xs.length cap, .slice A' xs.length cap'] w fun e w' => e = .returned (.bool true) ∧ Below w.heap.size w w' := by
  have HX := Lib.hid hx
  have HY := Lib.hid hy
  clear hx hy
  generalize hn : xs.length = n at *
  have HN := Lib.hid hn
  clear hn
  go_enter Tryz.func68, Tryz.ntmps68
  go_wp2
  go_loopw [5] (fun iv wr => ∃ (k : Nat), k ≤ n ∧ iv = .int .i64 k ∧ Below w.heap.size w wr) (fun iv _ => n - (intOf iv).toNat)
  case atStart => exact ⟨0, Nat.zero_le _, rfl, Below.refl _ _⟩
  case round =>
    obtain ⟨k, hk, rfl, hbr⟩ := hrel
    by_cases hlt : k < n
    · obtain ⟨b, off, rfl, hbl, hcA, hcA2⟩ := HX.out k (by rw [HN.out]; exact hlt)
      obtain ⟨b', off', rfl, hbl', hcB, hcB2⟩ := HY.out k (by rw [HN.out]; exact hlt)
      rw [← hbr.cell (by exact hbl)] at hcA hcA2
      rw [← hbr.cell (by exact hbl')] at hcB hcB2
      generalize (xs.getD k (0, 0)).1 = va at *
      generalize (xs.getD k (0, 0)).2 = vb at *
      have hk0 : (0 : Int) ≤ (k : Int) := Int.natCast_nonneg _
      have hk1 : (k : Int) < (n : Int) := by omega
      have hz := hbr.size
      go_wp2
      go_region_held3 (fun w' => w'.cell? ⟨b, off + k * 2, none⟩ = some (.int .i64 va) ∧ w'.cell? ⟨b, off + k * 2 + 1, none⟩ = some (.int .i64 vb) ∧ w'.cell? ⟨b', off' + k * 2, none⟩ = some (.int .i64 va) ∧ w'.cell? ⟨b', off' + k * 2 + 1, none⟩ = some (.int .i64 vb))
        (first | go_keep | (refine ⟨?_, ?_, ?_, ?_⟩ <;> (rw [hc3 _ _ (by simp; omega)]; simp [*])))
        (first | (go_at_call 84; refine (eqHop_any va vb _).mono ?_; rintro e w3 ⟨rfl, hb3⟩; obtain ⟨hc3, hf3⟩ := bcell hb3))
      go_wp2
      go_roundw
      case rel => exact ⟨k + 1, by omega, by go_num, hbr.drew.trans (hb3.mono hbr.size)⟩
      case measure => simp [intOf]; omega
    · go_wp2
      go_ret
      exact ⟨rfl, hbr⟩

/-- The first n hops of block g hold marks from k on. -/
def HMarks (cs : Array Value) (k n : Nat) : Prop := ∀ j, j < n → cs[j * 2]? = some (.int .i64 ((k : Int) + 2 * j)) ∧ cs[j * 2 + 1]? = some (.int .i64 ((k : Int) + 2 * j + 1))
theorem HMarks.step {cs : Array Value} {k i : Nat} (h : HMarks cs k i) (hs : i * 2 + 1 < cs.size) : HMarks ((cs.setIfInBounds (i * 2) (.int .i64 ((k : Int) + 2 * i))).setIfInBounds (i * 2 + 1) (.int .i64 ((k : Int) + 2 * i + 1))) k (i + 1) := fun j hj => by
  by_cases e : i = j
  · subst e
    constructor
    · rw [Array.getElem?_setIfInBounds_ne (by omega), Array.getElem?_setIfInBounds_self_of_lt (by omega)]
    · rw [Array.getElem?_setIfInBounds_self_of_lt (by simp; omega)]
  · have := h j (by omega)
    constructor
    · rw [Array.getElem?_setIfInBounds_ne (by omega), Array.getElem?_setIfInBounds_ne (by omega)]; exact this.1
    · rw [Array.getElem?_setIfInBounds_ne (by omega), Array.getElem?_setIfInBounds_ne (by omega)]; exact this.2
def HMRow (w : World) (g k n : Nat) : Prop := ∃ cs, Row w g 38 cs ∧ n * 2 ≤ cs.size ∧ HMarks cs k n

set_option maxHeartbeats 400000 in
theorem markHp_vals (g n cap k : Nat) (cs : Array Value) (w : World) (hr : Row w g 38 cs) (hs : n * 2 ≤ cs.size) (hn : n ≤ 2000000) (hk : k ≤ 1000000000) :
    Calls Tryz.prog 42 #[.slice (some ⟨g, 0, none⟩) n cap, .int .i64 k] w fun e w' => e = .returned (.int .i64 ((k + 2 * n : Nat) : Int)) ∧ HMRow w' g k n ∧ Only (some g) w w' := by
  have HR0 := Lib.hid hr
  have HS0 := Lib.hid hs
  clear hr hs
  go_enter Tryz.func42, Tryz.ntmps42
  go_wp2
  go_loopw [1, 5] (fun kv iv wr => ∃ (i : Nat) (cs : Array Value), i ≤ n ∧ iv = .int .i64 i ∧ kv = .int .i64 ((k : Int) + 2 * i) ∧ Hid (Row wr g 38 cs) ∧ Hid (n * 2 ≤ cs.size) ∧ Hid (HMarks cs k i) ∧ Hid (Only (some g) w wr)) (fun _ iv _ => n - (intOf iv).toNat)
  case atStart => exact ⟨0, cs, Nat.zero_le _, rfl, by simp, HR0, HS0, Lib.hid (fun j hj => absurd hj (by omega)), Lib.hid (Only.refl _ _)⟩
  case round =>
    clear HR0 HS0 cs
    obtain ⟨i, cs, hi, rfl, rfl, HRow, HF, HM, HO⟩ := hrel
    by_cases hlt : i < n
    · have hsz : i * 2 + 1 < cs.size := by have := HF.out; omega
      have hc0 : wr.cell? ⟨g, i * 2, none⟩ = some (cs[i * 2]'(by omega)) := by rw [HRow.out.cell, Array.getElem?_eq_getElem (by omega)]
      have hc1 : wr.cell? ⟨g, i * 2 + 1, none⟩ = some cs[i * 2 + 1] := by rw [HRow.out.cell, Array.getElem?_eq_getElem hsz]
      have hf0 := HRow.out.frozen (i * 2)
      have hf1 := HRow.out.frozen (i * 2 + 1)
      have HM2 := Lib.hid (HM.out.step hsz)
      have HO2 := Lib.hid ((HO.out.set (i * 2) (.int .i64 ((k : Int) + 2 * i))).set (i * 2 + 1) (.int .i64 ((k : Int) + 2 * i + 1)))
      have HR2 := Lib.hid ((HRow.out.set (i * 2) (.int .i64 ((k : Int) + 2 * i))).set (i * 2 + 1) (.int .i64 ((k : Int) + 2 * i + 1)))
      have HF2 : Hid (n * 2 ≤ ((cs.setIfInBounds (i * 2) (.int .i64 ((k : Int) + 2 * i))).setIfInBounds (i * 2 + 1) (.int .i64 ((k : Int) + 2 * i + 1))).size) := Lib.hid (by simpa using HF.out)
      generalize cs[i * 2]'(by omega) = old0 at *
      generalize cs[i * 2 + 1] = old1 at *
      go_wp2
      go_roundw
      case rel => exact ⟨i + 1, _, by omega, by go_num, by go_num, HR2, HF2, HM2, HO2⟩
      case measure => simp [intOf]; omega
    · obtain rfl : i = n := by omega
      go_wp2
      go_ret
      exact ⟨ret_int (by omega), ⟨_, HRow.out, HF.out, HM.out⟩, HO.out⟩

set_option maxHeartbeats 400000 in
theorem heldHp_row (g n cap k : Nat) (w : World) (hr : HMRow w g k n) (hn : n ≤ 2000000) (hk : k ≤ 1000000000) :
    Calls Tryz.prog 43 #[.slice (some ⟨g, 0, none⟩) n cap, .int .i64 k] w fun e w' => e = .returned (.int .i64 ((k + 2 * n : Nat) : Int)) ∧ w = w' := by
  obtain ⟨cs, hr, _, hm⟩ := hr
  have HR0 := Lib.hid hr
  have HM := Lib.hid hm
  clear hr hm
  go_enter Tryz.func43, Tryz.ntmps43
  go_wp2
  go_loop [1, 5] (fun kv iv => ∃ (i : Nat), i ≤ n ∧ iv = .int .i64 i ∧ kv = .int .i64 ((k : Int) + 2 * i)) (fun _ iv => n - (intOf iv).toNat)
  case atStart => exact ⟨0, Nat.zero_le _, rfl, by simp⟩
  case round =>
    obtain ⟨i, hi, rfl, rfl⟩ := hrel
    by_cases hlt : i < n
    · have hc0 : w.cell? ⟨g, i * 2, none⟩ = some (.int .i64 ((k : Int) + 2 * i)) := by rw [HR0.out.cell]; exact (HM.out i hlt).1
      have hc1 : w.cell? ⟨g, i * 2 + 1, none⟩ = some (.int .i64 ((k : Int) + 2 * i + 1)) := by rw [HR0.out.cell]; exact (HM.out i hlt).2
      go_wp2
      go_round
      case rel => exact ⟨i + 1, by omega, by go_num, by go_num⟩
      case measure => simp [intOf]; omega
    · obtain rfl : i = n := by omega
      go_wp2
      go_ret
      exact ⟨ret_int (by omega), rfl⟩

set_option maxHeartbeats 400000 in
theorem markHp_nil (A : Option Addr) (cap : Nat) (k : Int) (w : World) :
    Calls Tryz.prog 42 #[.slice A 0 cap, .int .i64 k] w fun e w' => e = .returned (.int .i64 k) ∧ w = w' := by
  go_enter Tryz.func42, Tryz.ntmps42
  go_wp2
  go_loop [1, 5] (fun kv iv => iv = .int .i64 0 ∧ kv = .int .i64 k) (fun _ _ => 0)
  case atStart => exact ⟨rfl, rfl⟩
  case round =>
    obtain ⟨rfl, rfl⟩ := hrel
    go_wp2
    go_ret
    exact ⟨rfl, rfl⟩
set_option maxHeartbeats 400000 in
theorem heldHp_nil (A : Option Addr) (cap : Nat) (k : Int) (w : World) :
    Calls Tryz.prog 43 #[.slice A 0 cap, .int .i64 k] w fun e w' => e = .returned (.int .i64 k) ∧ w = w' := by
  go_enter Tryz.func43, Tryz.ntmps43
  go_wp2
  go_loop [1, 5] (fun kv iv => iv = .int .i64 0 ∧ kv = .int .i64 k) (fun _ _ => 0)
  case atStart => exact ⟨rfl, rfl⟩
  case round =>
    obtain ⟨rfl, rfl⟩ := hrel
    go_wp2
    go_ret
    exact ⟨rfl, rfl⟩
theorem eqHp_n (A A' : Option Addr) (n cap cap' : Nat) (xs : List Hp) (w : World) (hx : GatesAt w w.heap.size A (hpI xs)) (hy : GatesAt w w.heap.size A' (hpI xs)) (hn : xs.length = n) (hl : n ≤ 2000000) :
    Calls Tryz.prog 68 #[.slice A n cap, .slice A' n cap'] w fun e w' => e = .returned (.bool true) ∧ Below w.heap.size w w' := by
  have h : (hpI xs).length = n := by rw [hpI_len]; exact hn
  subst h
  exact eqHopS_any A A' cap cap' (hpI xs) w hx hy hl
set_option maxHeartbeats 800000 in
theorem eqRo_any (A A' : Option Addr) (m c c' v t : Nat) (y : List Hp) (w : World) (hx : GatesAt w w.heap.size A (hpI y)) (hy : GatesAt w w.heap.size A' (hpI y)) (hm : y.length = m) (hl : m ≤ 1000) (_hv : v ≤ 1000000) (_ht : t ≤ 1000000) :
    Calls Tryz.prog 39 #[.agg #[.int .i64 v, .int .i64 t, .slice A m c], .agg #[.int .i64 v, .int .i64 t, .slice A' m c']] w fun e w' => e = .returned (.bool true) ∧ Below w.heap.size w w' := by
  have HX := Lib.hid hx
  have HY := Lib.hid hy
  have HM := Lib.hid hm
  have HW0 : Hid (Below w.heap.size w ((w.alloc (.cells #[.int .i64 v, .int .i64 t, .slice A m c] 36)).alloc (.cells #[.int .i64 v, .int .i64 t, .slice A' m c'] 36))) := Lib.hid (((Below.refl _ _).alloc (Nat.le_refl _) _).alloc (by simp) _)
  clear hx hy hm
  go_enter Tryz.func39, Tryz.ntmps39
  go_wp2_with fail
  generalize (w.alloc (.cells #[.int .i64 v, .int .i64 t, .slice A m c] 36)).alloc (.cells #[.int .i64 v, .int .i64 t, .slice A' m c'] 36) = w0 at *
  refine (eqHp_n A A' m c c' y _ ((HX.out.below HW0.out).mono HW0.out.size) ((HY.out.below HW0.out).mono HW0.out.size) HM.out (by omega)).mono ?_
  rintro e w1 ⟨rfl, hb1⟩
  have HL1 := Lib.hid (HW0.out.trans (hb1.mono HW0.out.size))
  clear hb1
  go_wp2
  go_ret
  exact ⟨rfl, HL1.out⟩
theorem Rokeep {w w' : World} {B b b' o o' : Nat} {x0 x1 x2 x3 x4 x5 : Value} (h : Below B w w') (h1 : b < B) (h2 : b' < B) (s : w.cell? ⟨b, o, none⟩ = some x0 ∧ w.cell? ⟨b, o + 1, none⟩ = some x1 ∧ w.cell? ⟨b, o + 2, none⟩ = some x2 ∧ w.cell? ⟨b', o', none⟩ = some x3 ∧ w.cell? ⟨b', o' + 1, none⟩ = some x4 ∧ w.cell? ⟨b', o' + 2, none⟩ = some x5) :
    w'.cell? ⟨b, o, none⟩ = some x0 ∧ w'.cell? ⟨b, o + 1, none⟩ = some x1 ∧ w'.cell? ⟨b, o + 2, none⟩ = some x2 ∧ w'.cell? ⟨b', o', none⟩ = some x3 ∧ w'.cell? ⟨b', o' + 1, none⟩ = some x4 ∧ w'.cell? ⟨b', o' + 2, none⟩ = some x5 :=
  ⟨(h.cell (by exact h1)).trans s.1, (h.cell (by exact h1)).trans s.2.1, (h.cell (by exact h1)).trans s.2.2.1, (h.cell (by exact h2)).trans s.2.2.2.1, (h.cell (by exact h2)).trans s.2.2.2.2.1, (h.cell (by exact h2)).trans s.2.2.2.2.2⟩
/-- The sizes of routes. -/
def RoBd (es : List Ro) (n : Nat) : Prop := ∀ k, k < n → (es.getD k (0, 0, [])).1 ≤ 1000 ∧ (es.getD k (0, 0, [])).2.1 ≤ 1000 ∧ (es.getD k (0, 0, [])).2.2.length ≤ 25
set_option maxHeartbeats 800000 in
theorem eqRoS_any (A A' : Option Addr) (n cap cap' : Nat) (es : List Ro) (w : World) (hx : RoIn w w.heap.size A es) (hy : RoIn w w.heap.size A' es) (hn : es.length = n) (hl : n ≤ 1000) (hr : RoBd es n) :
    Calls Tryz.prog 17 #[.slice A n cap, .slice A' n cap'] w fun e w' => e = .returned (.bool true) ∧ Below w.heap.size w w' := by
  have HX := Lib.hid hx
  have HY := Lib.hid hy
  have HN := Lib.hid hn
  have HT := Lib.hid hr
  clear hx hy hn hr
  go_enter Tryz.func17, Tryz.ntmps17
  go_wp2
  go_loopw [5] (fun iv wr => ∃ (k : Nat), k ≤ n ∧ iv = .int .i64 k ∧ Below w.heap.size w wr) (fun iv _ => n - (intOf iv).toNat)
  case atStart => exact ⟨0, Nat.zero_le _, rfl, Below.refl _ _⟩
  case round =>
    obtain ⟨k, hk, rfl, hbr⟩ := hrel
    by_cases hlt : k < n
    · obtain ⟨b, off, rfl, hbl, B1, c1, p0, p1, p2, hbA⟩ := HX.out k (by rw [HN.out]; exact hlt)
      obtain ⟨b', off', rfl, hbl', B2, c2, r0, r1, r2, hbB⟩ := HY.out k (by rw [HN.out]; exact hlt)
      obtain ⟨t1, t2, t3⟩ := HT.out k hlt
      have HBA := Lib.hid ((hbA.below hbr).mono hbr.size)
      have HBB := Lib.hid ((hbB.below hbr).mono hbr.size)
      have hz := hbr.size
      have HS := Lib.hid (Rokeep hbr hbl hbl' ⟨p0, p1, p2, r0, r1, r2⟩)
      have hblr : b < wr.heap.size := by omega
      have hblr' : b' < wr.heap.size := by omega
      clear hbA hbB p0 p1 p2 r0 r1 r2
      generalize (es.getD k (0, 0, [])).2.1 = t at *
      generalize (es.getD k (0, 0, [])).2.2 = y at *
      generalize (es.getD k (0, 0, [])).1 = v at *
      obtain ⟨m, hm⟩ : ∃ m, y.length = m := ⟨_, rfl⟩
      rw [hm] at HS t3
      have HM := Lib.hid hm
      clear hm
      obtain ⟨g0, g1, g2, g3, g4, g5⟩ := HS.out
      have hk0 : (0 : Int) ≤ (k : Int) := Int.natCast_nonneg _
      have hk1 : (k : Int) < (n : Int) := by omega
      go_wp2
      go_region_held3 (fun w' => w'.cell? ⟨b, off + k * 3, none⟩ = some (.int .i64 (v : Nat)) ∧ w'.cell? ⟨b, off + k * 3 + 1, none⟩ = some (.int .i64 t) ∧ w'.cell? ⟨b, off + k * 3 + 2, none⟩ = some (.slice B1 m c1) ∧ w'.cell? ⟨b', off' + k * 3, none⟩ = some (.int .i64 (v : Nat)) ∧ w'.cell? ⟨b', off' + k * 3 + 1, none⟩ = some (.int .i64 t) ∧ w'.cell? ⟨b', off' + k * 3 + 2, none⟩ = some (.slice B2 m c2))
        (first | (with_reducible assumption) | go_keep)
        (first | (go_at_call 39; refine (eqRo_any B1 B2 m c1 c2 v t y _ ?_ ?_ HM.out (by omega) (by omega) (by omega)).mono ?_; (exact HBA.out.below (Below.refl _ wr).drew); (exact HBB.out.below (Below.refl _ wr).drew); rintro e w3 ⟨rfl, hb3⟩; have hS3 := Rokeep hb3 hblr hblr' HS.out))
      rename_i _hheld
      clear _hheld hS3 g0 g1 g2 g3 g4 g5
      go_wp2
      go_roundw
      case rel => exact ⟨k + 1, by omega, by go_num, hbr.drew.trans (hb3.mono hbr.size)⟩
      case measure => simp [intOf]; omega
    · go_wp2
      go_ret
      exact ⟨rfl, hbr⟩
/-- The marks before route j. -/
def ofH (ls : List Nat) : Nat → Nat
  | 0 => 0
  | j + 1 => ofH ls j + (2 * ls.getD j 0 + 2)
theorem ofH_mono (ls : List Nat) {j l : Nat} (h : j ≤ l) : ofH ls j ≤ ofH ls l := by
  induction l with
  | zero => obtain rfl : j = 0 := by omega
            exact Nat.le_refl _
  | succ l ih =>
    by_cases e : j = l + 1
    · subst e; exact Nat.le_refl _
    · have := ih (by omega)
      simp only [ofH]
      omega
theorem ofH_bd {ls : List Nat} (h : ∀ j, j < ls.length → ls.getD j 0 ≤ 25) : ∀ n, ofH ls n ≤ 52 * n
  | 0 => by simp [ofH]
  | n + 1 => by
    have ih := ofH_bd h n
    simp only [ofH]
    by_cases hn : n < ls.length
    · have := h n hn; omega
    · have : ls.getD n 0 = 0 := by rw [List.getD_eq_getElem?_getD, List.getElem?_eq_none (by omega)]; rfl
      omega
/-- Lists of hops in blocks of their own from B on, the first m of them marked. -/
structure HH (w : World) (B : Nat) (hs : List Value) (ls : List Nat) (m K : Nat) : Prop where
  len : hs.length = ls.length
  lf : ∀ j, j < ls.length → ∃ (A : Option Addr) (cap : Nat), hs[j]? = some (.slice A (ls.getD j 0) cap) ∧ (ls.getD j 0 = 0 ∨ ∃ (b : Nat) (cs : Array Value), A = some ⟨b, 0, none⟩ ∧ B ≤ b ∧ Row w b 38 cs ∧ ls.getD j 0 * 2 ≤ cs.size ∧ (j < m → HMarks cs (K + ofH ls j + 2) (ls.getD j 0)))
theorem HH.on {w w' : World} {B m K : Nat} {hs : List Value} {ls : List Nat} (h : HH w B hs ls m K) (hb : Below w.heap.size w w') : HH w' B hs ls m K := ⟨h.len, fun j hj => by
  obtain ⟨A, cap, e, h1⟩ := h.lf j hj
  refine ⟨A, cap, e, ?_⟩
  rcases h1 with h1 | ⟨b, cs, e1, h2, h3, h4, h5⟩
  · exact .inl h1
  · exact .inr ⟨b, cs, e1, h2, h3.below hb h3.lt, h4, h5⟩⟩
theorem HH.set {w : World} {B m K g : Nat} {t : TypeId} {cg : Array Value} {hs : List Value} {ls : List Nat} (h : HH w B hs ls m K) (hg : Row w g t cg) (ht : t ≠ 38) (i : Nat) (u : Value) : HH (w.setCell ⟨g, i, none⟩ u) B hs ls m K := ⟨h.len, fun j hj => by
  obtain ⟨A, cap, e, h1⟩ := h.lf j hj
  refine ⟨A, cap, e, ?_⟩
  rcases h1 with h1 | ⟨b, cs, e1, h2, h3, h4, h5⟩
  · exact .inl h1
  · exact .inr ⟨b, cs, e1, h2, h3.far (p := ⟨g, i, none⟩) (h3.ne hg (fun e => ht e.symm)) u, h4, h5⟩⟩
theorem HH.mark {w w' : World} {B m K b : Nat} {hs : List Value} {ls : List Nat} {cs' : Array Value} {cap : Nat} (h : HH w B hs ls m K) (hd : DistH hs) (hm : m < ls.length) (he : hs[m]? = some (.slice (some ⟨b, 0, none⟩) (ls.getD m 0) cap)) (hpos : 0 < ls.getD m 0)
    (ho : Only (some b) w w') (hB : B ≤ b) (hr : Row w' b 38 cs') (hs' : ls.getD m 0 * 2 ≤ cs'.size) (hk : HMarks cs' (K + ofH ls m + 2) (ls.getD m 0)) : HH w' B hs ls (m + 1) K := ⟨h.len, fun j hj => by
  by_cases e : j = m
  · subst e
    exact ⟨_, cap, he, .inr ⟨b, cs', rfl, hB, hr, hs', fun _ => hk⟩⟩
  · obtain ⟨A, cap2, e2, h1⟩ := h.lf j hj
    refine ⟨A, cap2, e2, ?_⟩
    rcases h1 with h1 | ⟨b2, cs2, e1, h2, h3, h4, h5⟩
    · exact .inl h1
    · by_cases hz : ls.getD j 0 = 0
      · exact .inl hz
      · refine .inr ⟨b2, cs2, e1, h2, ho.row h3 (fun eb => ?_), h4, fun hjm => h5 (by omega)⟩
        injection eb with eb
        subst eb e1
        have v1 : vblk (.slice (some ⟨b2, 0, none⟩) (ls.getD j 0) cap2) = some b2 := by
          obtain ⟨q, hq⟩ : ∃ q, ls.getD j 0 = q + 1 := ⟨ls.getD j 0 - 1, by omega⟩
          rw [hq]; rfl
        have v2 : vblk (.slice (some ⟨b2, 0, none⟩) (ls.getD m 0) cap) = some b2 := by
          obtain ⟨q, hq⟩ : ∃ q, ls.getD m 0 = q + 1 := ⟨ls.getD m 0 - 1, by omega⟩
          rw [hq]; rfl
        rcases Nat.lt_or_gt_of_ne e with h6 | h6
        · exact hd j m h6 _ _ e2 he b2 v1 v2
        · exact hd m j h6 _ _ he e2 b2 v2 v1⟩
theorem HH.skip {w : World} {B m K : Nat} {hs : List Value} {ls : List Nat} (h : HH w B hs ls m K) (hz : ls.getD m 0 = 0) : HH w B hs ls (m + 1) K := ⟨h.len, fun j hj => by
  obtain ⟨A, cap, e, h1⟩ := h.lf j hj
  refine ⟨A, cap, e, ?_⟩
  rcases h1 with h1 | ⟨b, cs, e1, h2, h3, h4, h5⟩
  · exact .inl h1
  · by_cases hj2 : j = m
    · subst hj2; exact .inl hz
    · exact .inr ⟨b, cs, e1, h2, h3, h4, fun h => h5 (by omega)⟩⟩
theorem markHs_one {w : World} {B m K : Nat} {hs : List Value} {ls : List Nat} (h : HH w B hs ls m K) (hd : DistH hs) (hm : m < ls.length) (hl : ls.getD m 0 ≤ 1000) (hk : K + ofH ls m + 2 ≤ 100000000) (hBs : B ≤ w.heap.size) {A : Option Addr} {c : Nat} (he : hs[m]? = some (.slice A (ls.getD m 0) c)) :
    Calls Tryz.prog 42 #[.slice A (ls.getD m 0) c, .int .i64 (K + ofH ls m + 2 : Nat)] w fun e w' => e = .returned (.int .i64 (K + ofH ls m + 2 + 2 * ls.getD m 0 : Nat)) ∧ HH w' B hs ls (m + 1) K ∧ Below B w w' ∧ w'.heap.size = w.heap.size ∧ ∀ b t cs, t ≠ 38 → Row w b t cs → Row w' b t cs := by
  obtain ⟨A2, c2, e2, h1⟩ := h.lf m hm
  rw [he] at e2
  injection e2 with e2
  injection e2 with x1 _ x3
  subst x1 x3
  by_cases hz : ls.getD m 0 = 0
  · have hs2 := h.skip hz
    rw [hz]
    refine (markHp_nil A c _ w).mono ?_
    rintro e w' ⟨rfl, rfl⟩
    exact ⟨rfl, hs2, Below.refl _ _, rfl, fun _ _ _ _ hr => hr⟩
  · rcases h1 with h1 | ⟨b, cs, rfl, hBb, hrow, hsz, _⟩
    · exact absurd h1 hz
    · refine (markHp_vals b _ c _ cs w hrow hsz (by omega) (by omega)).mono ?_
      rintro e w' ⟨rfl, ⟨cs', hr', hs', hm'⟩, ho⟩
      exact ⟨rfl, h.mark hd hm he (by omega) ho hBb hr' hs' hm', ho.below (B := B) (fun _ e => by injection e; omega) hBs, ho.size, fun b' t cs'' ht hr'' => ho.row hr'' (fun e => by injection e with e; exact hr''.ne hrow ht e)⟩
theorem heldHs_one {w : World} {B m K j : Nat} {hs : List Value} {ls : List Nat} (h : HH w B hs ls m K) (hjm : j < m) (hj : j < ls.length) (hl : ls.getD j 0 ≤ 1000) (hk : K + ofH ls j + 2 ≤ 100000000) {A : Option Addr} {c : Nat} (he : hs[j]? = some (.slice A (ls.getD j 0) c)) :
    Calls Tryz.prog 43 #[.slice A (ls.getD j 0) c, .int .i64 (K + ofH ls j + 2 : Nat)] w fun e w' => e = .returned (.int .i64 (K + ofH ls j + 2 + 2 * ls.getD j 0 : Nat)) ∧ w = w' := by
  obtain ⟨A2, c2, e2, h1⟩ := h.lf j hj
  rw [he] at e2
  injection e2 with e2
  injection e2 with x1 _ x3
  subst x1 x3
  by_cases hz : ls.getD j 0 = 0
  · rw [hz]
    exact heldHp_nil A c _ w
  · rcases h1 with h1 | ⟨b, cs, rfl, hBb, hrow, hsz, hmk⟩
    · exact absurd h1 hz
    · exact heldHp_row b _ c _ w ⟨cs, hrow, hsz, hmk hjm⟩ (by omega) (by omega)
/-- What the marks on route j are. -/
def RoMk (cs : Array Value) (ls : List Nat) (K j : Nat) : Prop := cs[j * 3]? = some (.int .i64 (K + ofH ls j : Nat)) ∧ cs[j * 3 + 1]? = some (.int .i64 (K + ofH ls j + 1 : Nat))
def RoRow (w : World) (g : Nat) (hs : List Value) (ls : List Nat) (m K : Nat) : Prop := ∃ cs, Row w g 36 cs ∧ ls.length * 3 ≤ cs.size ∧ (∀ j, j < ls.length → cs[j * 3 + 2]? = hs[j]?) ∧ ∀ j, j < m → RoMk cs ls K j
theorem RoRow.below {w w' : World} {g m K B : Nat} {hs : List Value} {ls : List Nat} (h : RoRow w g hs ls m K) (hb : Below B w w') (hg : g < B) : RoRow w' g hs ls m K := by
  obtain ⟨cs, hr, h1, h2, h3⟩ := h
  exact ⟨cs, hr.below hb hg, h1, h2, h3⟩
theorem RoRow.lt {w : World} {g m K : Nat} {hs : List Value} {ls : List Nat} (h : RoRow w g hs ls m K) : g < w.heap.size := by
  obtain ⟨cs, hr, _⟩ := h
  exact hr.lt
theorem RoMk.set {cs : Array Value} {hs : List Value} {ls : List Nat} {m K : Nat} (h1 : ls.length * 3 ≤ cs.size) (h2 : ∀ j, j < ls.length → cs[j * 3 + 2]? = hs[j]?) (h3 : ∀ j, j < m → RoMk cs ls K j) (hm : m < ls.length) :
    ls.length * 3 ≤ ((cs.setIfInBounds (m * 3) (.int .i64 (K + ofH ls m : Nat))).setIfInBounds (m * 3 + 1) (.int .i64 (K + ofH ls m + 1 : Nat))).size ∧ (∀ j, j < ls.length → ((cs.setIfInBounds (m * 3) (.int .i64 (K + ofH ls m : Nat))).setIfInBounds (m * 3 + 1) (.int .i64 (K + ofH ls m + 1 : Nat)))[j * 3 + 2]? = hs[j]?) ∧ ∀ j, j < m + 1 → RoMk ((cs.setIfInBounds (m * 3) (.int .i64 (K + ofH ls m : Nat))).setIfInBounds (m * 3 + 1) (.int .i64 (K + ofH ls m + 1 : Nat))) ls K j := by
  refine ⟨by simpa using h1, fun j hj => ?_, fun j hj => ?_⟩
  · rw [Array.getElem?_setIfInBounds_ne (by omega), Array.getElem?_setIfInBounds_ne (by omega)]
    exact h2 j hj
  · by_cases e : j = m
    · subst e
      refine ⟨?_, ?_⟩
      · rw [Array.getElem?_setIfInBounds_ne (by omega), Array.getElem?_setIfInBounds_self_of_lt (by omega)]
      · rw [Array.getElem?_setIfInBounds_self_of_lt (by simp; omega)]
    · obtain ⟨a, b⟩ := h3 j (by omega)
      refine ⟨?_, ?_⟩
      · rw [Array.getElem?_setIfInBounds_ne (by omega), Array.getElem?_setIfInBounds_ne (by omega)]; exact a
      · rw [Array.getElem?_setIfInBounds_ne (by omega), Array.getElem?_setIfInBounds_ne (by omega)]; exact b

set_option maxHeartbeats 800000 in
theorem markRo_any (g cap n K B : Nat) (hs : List Value) (ls : List Nat) (w : World) (hr : RoRow w g hs ls 0 K) (H : HH w B hs ls 0 K) (hd : DistH hs) (hn : ls.length = n) (hl : ∀ j, j < n → ls.getD j 0 ≤ 1000) (ht : K + ofH ls n ≤ 1000000) (hnb : n ≤ 1000) (hBg : B ≤ g) :
    Calls Tryz.prog 22 #[.slice (some ⟨g, 0, none⟩) n cap, .int .i64 K] w fun e w' => e = .returned (.int .i64 (K + ofH ls n : Nat)) ∧ RoRow w' g hs ls n K ∧ HH w' B hs ls n K ∧ Below B w w' ∧ w'.heap.size = w.heap.size := by
  have HR0 := Lib.hid hr
  have H0 := Lib.hid H
  have HD := Lib.hid hd
  have HN := Lib.hid hn
  have HL := Lib.hid hl
  have HMO := Lib.hid (fun j (hj : j ≤ n) => Nat.le_trans (Nat.add_le_add_left (ofH_mono ls hj) K) ht)
  clear hr H hd hn hl ht
  go_enter Tryz.func22, Tryz.ntmps22
  go_wp2
  go_loopw [1, 5] (fun kv iv wr => ∃ (j : Nat), j ≤ n ∧ iv = .int .i64 j ∧ kv = .int .i64 (K + ofH ls j : Nat) ∧ Hid (RoRow wr g hs ls j K) ∧ Hid (HH wr B hs ls j K) ∧ Hid (Below B w wr) ∧ Hid (wr.heap.size = w.heap.size)) (fun _ iv _ => n - (intOf iv).toNat)
  case atStart => exact ⟨0, Nat.zero_le _, rfl, rfl, HR0, H0, Lib.hid (Below.refl _ _), Lib.hid rfl⟩
  case round =>
    clear HR0 H0
    obtain ⟨j, hj, rfl, rfl, HR, HH, HB, HZ⟩ := hrel
    by_cases hlt : j < n
    · obtain ⟨cs, hrow, s1, s2, s3⟩ := HR.out
      have hjl : j < ls.length := by rw [HN.out]; exact hlt
      have HMS := Lib.hid (RoMk.set s1 s2 s3 hjl)
      obtain ⟨A, c2, he, _⟩ := HH.out.lf j hjl
      have hlb := HL.out j hlt
      have hkb := HMO.out (j + 1) (by omega)
      have HST : Hid (K + ofH ls (j + 1) = K + ofH ls j + 2 + 2 * ls.getD j 0) := Lib.hid (by simp only [ofH]; omega)
      rw [HST.out] at hkb
      have hc2 := (hrow.cell (j * 3 + 2)).trans ((s2 j hjl).trans he)
      obtain ⟨old0, hc0⟩ : ∃ u, wr.cell? ⟨g, j * 3, none⟩ = some u := ⟨cs[j * 3]'(by omega), by rw [hrow.cell, Array.getElem?_eq_getElem]⟩
      obtain ⟨old1, hc1⟩ : ∃ u, wr.cell? ⟨g, j * 3 + 1, none⟩ = some u := ⟨cs[j * 3 + 1]'(by omega), by rw [hrow.cell, Array.getElem?_eq_getElem]⟩
      have hf0 := hrow.frozen (j * 3)
      have hf1 := hrow.frozen (j * 3 + 1)
      have hBw : B ≤ wr.heap.size := by have := hrow.lt; omega
      have hr1 := hrow.set (j * 3) (.int .i64 (K + ofH ls j : Nat))
      have hr2 := hr1.set (j * 3 + 1) (.int .i64 (K + ofH ls j + 1 : Nat))
      have hHT1 := (HH.out.set hrow (by decide) (j * 3) (.int .i64 (K + ofH ls j : Nat))).set hr1 (by decide) (j * 3 + 1) (.int .i64 (K + ofH ls j + 1 : Nat))
      have HMAIN := Lib.hid (markHs_one hHT1 HD.out hjl hlb (by omega) (by simpa [World.setCell] using hBw) he)
      have HR2 := Lib.hid hr2
      have HB2 := Lib.hid ((HB.out.setCell (p := ⟨g, j * 3, none⟩) hBg (.int .i64 (K + ofH ls j : Nat))).setCell (p := ⟨g, j * 3 + 1, none⟩) hBg (.int .i64 (K + ofH ls j + 1 : Nat)))
      have hz1 : ((wr.setCell ⟨g, j * 3, none⟩ (.int .i64 (K + ofH ls j : Nat))).setCell ⟨g, j * 3 + 1, none⟩ (.int .i64 (K + ofH ls j + 1 : Nat))).heap.size = wr.heap.size := by simp [World.setCell]
      have HZ2 := Lib.hid (hz1.trans HZ.out)
      clear hHT1 hz1 hrow hr1 hr2 s1 s2 s3 he HR HH
      generalize K + ofH ls j = kk at *
      generalize ls.getD j 0 = ln at *
      have em : ((kk + 1 : Nat) : Int) = (kk : Int) + 1 := by omega
      rw [em] at HMAIN HR2 HB2 HZ2 HMS
      go_wp2_with fail
      rw [show (kk : Int) + 1 + 1 = ((kk + 2 : Nat) : Int) by omega]
      refine HMAIN.out.mono ?_
      rintro e w2 ⟨rfl, ht2, hb2, hz2, hrows2⟩
      have HT3 := Lib.hid ht2
      have HB3 := Lib.hid (HB2.out.trans hb2)
      have HZ3 := Lib.hid (hz2.trans HZ2.out)
      have HR3 : Hid (RoRow w2 g hs ls (j + 1) K) := Lib.hid ⟨_, hrows2 _ _ _ (by decide) HR2.out, HMS.out.1, HMS.out.2.1, HMS.out.2.2⟩
      clear HMAIN hrows2 ht2 hb2 hz2 hc0 hc1 hc2 hf0 hf1 HMS
      go_wp2
      go_roundw
      case rel => exact ⟨j + 1, by omega, by go_num, by rw [HST.out]; go_num, HR3, HT3, HB3, HZ3⟩
      case measure => simp [intOf]; omega
    · obtain rfl : j = n := by omega
      go_wp2
      go_ret
      exact ⟨rfl, HR.out, HH.out, HB.out, HZ.out⟩

set_option maxHeartbeats 800000 in
theorem heldRo_any (g cap n K B : Nat) (hs : List Value) (ls : List Nat) (w : World) (hr : RoRow w g hs ls n K) (H : HH w B hs ls n K) (hn : ls.length = n) (hl : ∀ j, j < n → ls.getD j 0 ≤ 1000) (ht : K + ofH ls n ≤ 1000000) (hnb : n ≤ 1000) :
    Calls Tryz.prog 23 #[.slice (some ⟨g, 0, none⟩) n cap, .int .i64 K] w fun e w' => e = .returned (.int .i64 (K + ofH ls n : Nat)) ∧ w = w' := by
  have HR0 := Lib.hid hr
  have H0 := Lib.hid H
  have HN := Lib.hid hn
  have HL := Lib.hid hl
  have HMO := Lib.hid (fun j (hj : j ≤ n) => Nat.le_trans (Nat.add_le_add_left (ofH_mono ls hj) K) ht)
  clear hr H hn hl ht
  go_enter Tryz.func23, Tryz.ntmps23
  go_wp2
  go_loop [1, 5] (fun kv iv => ∃ (j : Nat), j ≤ n ∧ iv = .int .i64 j ∧ kv = .int .i64 (K + ofH ls j : Nat)) (fun _ iv => n - (intOf iv).toNat)
  case atStart => exact ⟨0, Nat.zero_le _, rfl, rfl⟩
  case round =>
    obtain ⟨j, hj, rfl, rfl⟩ := hrel
    by_cases hlt : j < n
    · obtain ⟨cs, hrow, s1, s2, s3⟩ := HR0.out
      have hjl : j < ls.length := by rw [HN.out]; exact hlt
      obtain ⟨A, c2, he, _⟩ := H0.out.lf j hjl
      have hlb := HL.out j hlt
      have hkb := HMO.out (j + 1) (by omega)
      have HST : Hid (K + ofH ls (j + 1) = K + ofH ls j + 2 + 2 * ls.getD j 0) := Lib.hid (by simp only [ofH]; omega)
      rw [HST.out] at hkb
      have hc2 := (hrow.cell (j * 3 + 2)).trans ((s2 j hjl).trans he)
      have hc0 := (hrow.cell (j * 3)).trans (s3 j hlt).1
      have hc1 := (hrow.cell (j * 3 + 1)).trans (s3 j hlt).2
      have HMAIN := Lib.hid (heldHs_one H0.out hlt hjl hlb (by omega) he)
      clear hrow s1 s2 s3 he
      generalize K + ofH ls j = kk at *
      generalize ls.getD j 0 = ln at *
      rw [show ((kk + 1 : Nat) : Int) = (kk : Int) + 1 by omega] at hc1
      have hk0 : (0 : Int) ≤ (kk : Int) + 1 := by omega
      go_wp2_with fail
      rw [show (kk : Int) + 1 + 1 = ((kk + 2 : Nat) : Int) by omega]
      refine HMAIN.out.mono ?_
      rintro e w2 ⟨rfl, rfl⟩
      clear HMAIN
      go_wp2
      go_round
      case rel => exact ⟨j + 1, by omega, by go_num, by rw [HST.out]; go_num⟩
      case measure => simp [intOf]; omega
    · obtain rfl : j = n := by omega
      go_wp2
      go_ret
      exact ⟨rfl, rfl⟩
set_option maxHeartbeats 400000 in
theorem markRo_none (A : Option Addr) (cap k : Nat) (w : World) : Calls Tryz.prog 22 #[.slice A 0 cap, .int .i64 k] w fun e w' => e = .returned (.int .i64 k) ∧ Below w.heap.size w w' := by
  go_enter Tryz.func22, Tryz.ntmps22
  go_wp2
  go_loop [1, 5] (fun kv iv => kv = .int .i64 k ∧ iv = .int .i64 0) (fun _ iv => 0)
  case atStart => exact ⟨rfl, rfl⟩
  case round =>
    obtain ⟨rfl, rfl⟩ := hrel
    go_wp2
    go_ret
    exact ⟨rfl, Below.refl _ _⟩
set_option maxHeartbeats 400000 in
theorem heldRo_none (A : Option Addr) (cap k : Nat) (w : World) : Calls Tryz.prog 23 #[.slice A 0 cap, .int .i64 k] w fun e w' => e = .returned (.int .i64 k) ∧ Below w.heap.size w w' := by
  go_enter Tryz.func23, Tryz.ntmps23
  go_wp2
  go_loop [1, 5] (fun kv iv => kv = .int .i64 k ∧ iv = .int .i64 0) (fun _ iv => 0)
  case atStart => exact ⟨rfl, rfl⟩
  case round =>
    obtain ⟨rfl, rfl⟩ := hrel
    go_wp2
    go_ret
    exact ⟨rfl, Below.refl _ _⟩
theorem eqRo_none (A A' : Option Addr) (cap cap' : Nat) (w : World) : Calls Tryz.prog 17 #[.slice A 0 cap, .slice A' 0 cap'] w fun e w' => e = .returned (.bool true) ∧ Below w.heap.size w w' :=
  eqRoS_any A A' 0 cap cap' [] w (fun k hk => absurd hk (by simp)) (fun k hk => absurd hk (by simp)) rfl (by omega) (fun k hk => absurd hk (by omega))
/-- The lengths of the lists of hops. -/
def lensR (es : List Ro) : List Nat := es.map fun e => e.2.2.length
theorem lensR_get (es : List Ro) (j : Nat) : (lensR es).getD j 0 = (es.getD j (0, 0, [])).2.2.length := by
  unfold lensR
  simp only [List.getD_eq_getElem?_getD, List.getElem?_map]
  cases es[j]? <;> rfl
theorem dist_pickR {hs hds : List Value} {f : Nat → Nat} (hd : DistH hs) (hf : ∀ j k, j < k → f j < f k) (h : ∀ j, j < hds.length → hds[j]? = hs[f j]?) : DistH hds := fun j k hjk u v hu hv => by
  have hk := (List.getElem?_eq_some_iff.1 hv).1
  rw [h j (by omega)] at hu
  rw [h k hk] at hv
  exact hd (f j) (f k) (hf j k hjk) u v hu hv
theorem RoAt.marks {w : World} {B g cap : Nat} {es : List Ro} {hs : List Value} (h : RoAt w B es hs g cap) (hd : DistH hs) (K : Nat) : ∃ hds, RoRow w g hds (lensR es) 0 K ∧ HH w B hds (lensR es) 0 K ∧ DistH hds := by
  obtain ⟨cur, hrow, _, hnc, hcs, hhl, hget⟩ := own_partsE h.1
  have hll : (lensR es).length = es.length := by simp [lensR]
  have hE : ∀ j, j < es.length → ((List.range es.length).map fun j => hs.getD (j * 3 + 2) (.bool false))[j]? = hs[j * 3 + 2]? := fun j hj => by
    rw [List.getElem?_map, List.getElem?_range hj]
    show some (hs.getD (j * 3 + 2) (.bool false)) = _
    rw [List.getD_eq_getElem?_getD]
    obtain ⟨_, _, _, _, e1, _⟩ := h.2.2 j hj
    rw [e1]; rfl
  refine ⟨(List.range es.length).map fun j => hs.getD (j * 3 + 2) (.bool false), ⟨cur, hrow, ?_, fun j hj => ?_, fun j hj => by omega⟩, ⟨by simp [hll], fun j hj => ?_⟩, ?_⟩
  · rw [hll, hcs]; exact Nat.mul_le_mul_right 3 hnc
  · rw [hll] at hj
    rw [hE j hj]
    exact hget _ (by omega)
  · rw [hll] at hj
    obtain ⟨A', c', _, _, e1, hx⟩ := h.2.2 j hj
    refine ⟨A', c', by rw [hE j hj, lensR_get]; exact e1, ?_⟩
    rw [lensR_get]
    rcases hx with hx | ⟨b, cs', eA, hS, hrb, hcb⟩
    · exact .inl (by rw [hx]; rfl)
    · refine .inr ⟨b, cs', eA, hS.1, hrb, ?_, fun h => absurd h (by omega)⟩
      generalize (es.getD j (0, 0, [])).2.2 = y at *
      rcases Nat.eq_zero_or_pos y.length with h0 | h0
      · omega
      · have := Array.getElem?_eq_some_iff.1 (hcb (y.length - 1) (by omega)).2
        obtain ⟨h9, _⟩ := this
        omega
  · exact dist_pickR (f := fun j => j * 3 + 2) hd (fun j k h => by omega) (fun j hj => hE j (by simpa using hj))
end Go.Proofs.YtliedgaefgomjaaGreat
