/- The contract of the library's concatenation of two slices. -/
import Derived.Test.YthcpgbfghededaaC1
import Derived.Shelf.Spec.SlicesGrow
namespace Go.Proofs.Ythcpgbfghededaa
open Go.RowKit Go.Deep Cut
def lays8_ren : Go.Shelf.Ren := ⟨fun | 4 => 116 | n => n, fun | 22 => 23 | 25 => 3 | 3 => 3 | 4 => 4 | 9 => 9 | 20 => 20 | 0 => 0 | n => n, fun | n => n⟩
theorem lays8 : Go.Proofs.Lays8.n4 Try.prog lays8_ren := {
  mixed := by kernel_rfl
  f4 := ⟨Try.f116.name, by decide, Try.func116.trans (congrArg some (by kernel_rfl))⟩
  t0 := Try.underlying0
  a0 := Try.isAgg0
  z0 := Try.sizeOf0
  v0 := Try.zeroValue0
  t3 := Try.underlying3
  a3 := Try.isAgg3
  z3 := Try.sizeOf3
  v3 := Try.zeroValue3
  t4 := Try.underlying4
  a4 := Try.isAgg4
  z4 := Try.sizeOf4
  v4 := Try.zeroValue4
  t9 := Try.underlying9
  a9 := Try.isAgg9
  z9 := Try.sizeOf9
  v9 := Try.zeroValue9
  t20 := Try.underlying20
  a20 := Try.isAgg20
  z20 := Try.sizeOf20
  v20 := Try.zeroValue20
  t22 := Try.underlying23
  a22 := Try.isAgg23
  z22 := Try.sizeOf23
  v22 := Try.zeroValue23 }
theorem grow_none (w : World) : Calls Try.prog 116 #[.slice none 0 0, .int .i64 0] w fun e w' => e = .returned (.slice none 0 0) ∧ w' = w :=
  Any8.slices_Grow_room lays8 none 0 0 0 w (by omega) (by omega) (by omega) (by omega)
/-- Room for n integers. -/
theorem grow_any (n : Nat) (w : World) (h0 : 0 < n) (hn : n ≤ 1000) : Calls Try.prog 116 #[.slice none 0 0, .int .i64 n] w fun e w' => ∃ cap, e = .returned (.slice (some ⟨w.heap.size, 0, none⟩) 0 cap) ∧ w'.ownsRow w.heap.size 3 1 (.slice (some ⟨w.heap.size, 0, none⟩) 0 cap) 0 [] ∧ Below w.heap.size w w' := by
  obtain ⟨i0, hi0, hz0, hz1, hz2⟩ := info_split Try.info3
  refine (Any8.slices_Grow_grow lays8 i0 (.int .i64 0) hi0 hz0 (by omega) none 0 0 n [] w (by omega) (by omega) (by rw [hz2]; omega) (by omega) (by simp) (fun _ => rfl) (fun a ha => by cases ha)).mono ?_
  rintro e w' ⟨rfl, rfl⟩
  have hc : n ≤ grownCap w (0 + n) 0 3 ∧ grownCap w (0 + n) 0 3 ≤ maxLen := ⟨by have := grownCap_ge w (0 + n) 0 3; omega, grownCap_le_maxLen w (0 + n) 0 3 (by unfold maxLen; omega)⟩
  refine ⟨_, rfl, ⟨by simp, .inr ⟨_, _, _, rfl, Nat.le_refl _, heap_alloc_new w.drew _, by omega, hc.2, ?_, by simp⟩⟩, ?_⟩
  · have hcs : (Value.int .i64 0).cells.size = 1 := rfl
    have ht : lays8_ren.t 25 = 3 := rfl
    simp only [ht, Builtin.zeroCells, hcs, Array.size_append, Array.size_map, Array.size_range, List.size_toArray, List.length_nil]
    omega
  · exact ((Below.refl _ _).drew).alloc (Nat.le_refl _) _

def CatOut (w : World) (xs ys : List Nat) (e : Ending) (w' : World) : Prop :=
  (xs = [] ∧ ys = [] ∧ e = .returned (.slice none 0 0) ∧ Below w.heap.size w w') ∨
  (∃ g cap, e = .returned (.slice (some ⟨g, 0, none⟩) (xs.length + ys.length) cap) ∧ w'.ownsRow w.heap.size 3 1 (.slice (some ⟨g, 0, none⟩) (xs.length + ys.length) cap) (xs.length + ys.length) (ivs (Opt.intL (xs ++ ys))) ∧ Below w.heap.size w w')
/-- The lengths, and the lists, of the first k of two. -/
def pre2 (a b k : Nat) : Nat := if k = 0 then 0 else if k = 1 then a else a + b
def preL (xs ys : List Nat) (k : Nat) : List Nat := if k = 0 then [] else if k = 1 then xs else xs ++ ys
theorem ints_src {w : World} {B : Nat} {A : Option Addr} {x : List Nat} (h : IntsAt w B A (Opt.intL x)) : ∀ j u, (ivs (Opt.intL x))[j]? = some u → ∃ ad, A = some ad ∧ w.cell? (ad.add j) = some u := by
  intro j u hu
  have hj : j < (Opt.intL x).length := by
    have := (List.getElem?_eq_some_iff.1 hu).1
    rwa [ivs_len] at this
  obtain ⟨b, off, e, _, hc⟩ := h j hj
  rw [ivs_get hj] at hu
  injection hu with hu
  exact ⟨_, e, by rw [← hu, Addr.add_lit]; exact hc⟩
theorem ivs_one (x : List Int) : ∀ u ∈ ivs x, u.oneCell' = true := by
  intro u hu
  simp [ivs] at hu
  obtain ⟨a, _, rfl⟩ := hu
  rfl
theorem ivsI_append (a b : List Nat) : ivs (Opt.intL (a ++ b)) = ivs (Opt.intL a) ++ ivs (Opt.intL b) := by simp [ivs, Opt.intL]

set_option maxRecDepth 4000 in
set_option maxHeartbeats 1000000 in
theorem concat_any (bl bc : Nat) (A A' : Option Addr) (n m cap cap' : Nat) (xs ys : List Nat) (w : World) (h1 : w.cell? ⟨bl, 0, none⟩ = some (.slice A n cap)) (h2 : w.cell? ⟨bl, 1, none⟩ = some (.slice A' m cap')) (hb : bl < w.heap.size)
    (hx : IntsAt w w.heap.size A (Opt.intL xs)) (hy : IntsAt w w.heap.size A' (Opt.intL ys)) (hn : xs.length = n) (hm : ys.length = m) (hnb : n ≤ 100) (hmb : m ≤ 100) :
    Calls Try.prog 110 #[.slice (some ⟨bl, 0, none⟩) 2 bc] w (CatOut w xs ys) := by
  have HX := Lib.hid hx
  have HY := Lib.hid hy
  have HN := Lib.hid hn
  have HM := Lib.hid hm
  clear hx hy hn hm
  obtain ⟨i0, hi0, hz0, hz1, hz2⟩ := info_split Try.info3
  have HI0 := Lib.hid hi0
  have HZ0 := Lib.hid hz0
  have HZ1 := Lib.hid hz1
  have HZ2 := Lib.hid hz2
  clear hi0 hz0 hz1 hz2
  go_enter Try.func110, Try.ntmps110
  go_wp2
  go_loop [3, 11] (fun sv iv => ∃ k : Nat, k ≤ 2 ∧ iv = .int .i64 k ∧ sv = .int .i64 (pre2 n m k : Nat)) (fun _ iv => 2 - (intOf iv).toNat)
  case atStart => exact ⟨0, Nat.zero_le _, rfl, rfl⟩
  case round =>
    obtain ⟨k, hk, rfl, rfl⟩ := hrel
    by_cases hlt : k < 2
    · obtain ⟨B, l, c, hcl, hstep, hlb⟩ : ∃ (B : Option Addr) (l c : Nat), w.cell? ⟨bl, k, none⟩ = some (.slice B l c) ∧ pre2 n m (k + 1) = pre2 n m k + l ∧ pre2 n m k + l ≤ 200 := by
        have : k = 0 ∨ k = 1 := by omega
        rcases this with rfl | rfl
        · exact ⟨_, _, _, h1, by simp [pre2], by simp [pre2]; omega⟩
        · exact ⟨_, _, _, h2, by simp [pre2], by simp [pre2]; omega⟩
      have HS : Hid (((pre2 n m (k + 1) : Nat) : Int) = (pre2 n m k : Int) + (l : Int)) := Lib.hid (by rw [hstep]; omega)
      clear hstep
      generalize pre2 n m k = p at *
      go_wp2
      go_round
      case rel => exact ⟨k + 1, by omega, by go_num, by rw [HS.out]⟩
      case measure => simp [intOf]; omega
    · obtain rfl : k = 2 := by omega
      have hp : pre2 n m 2 = n + m := rfl
      rw [hp]
      clear hp
      by_cases hN : n + m = 0
      · obtain ⟨rfl, rfl⟩ : n = 0 ∧ m = 0 := by omega
        have HXE : Hid (xs = []) := Lib.hid (List.length_eq_zero_iff.1 HN.out)
        have HYE : Hid (ys = []) := Lib.hid (List.length_eq_zero_iff.1 HM.out)
        go_wp2_with fail
        refine (grow_none _).mono ?_
        rintro e w' ⟨rfl, hw⟩
        obtain rfl : w = w' := hw.symm
        clear hw
        go_wp2
        go_loop [6, 27] (fun sv iv => ∃ k : Nat, k ≤ 2 ∧ iv = .int .i64 k ∧ sv = .slice none 0 0) (fun _ iv => 2 - (intOf iv).toNat)
        case atStart => exact ⟨0, Nat.zero_le _, rfl, rfl⟩
        case round =>
          obtain ⟨k, hk, rfl, rfl⟩ := hrel
          by_cases hlt : k < 2
          · obtain ⟨B, c, hcl⟩ : ∃ (B : Option Addr) (c : Nat), w.cell? ⟨bl, k, none⟩ = some (.slice B 0 c) := by
              have : k = 0 ∨ k = 1 := by omega
              rcases this with rfl | rfl
              · exact ⟨_, _, h1⟩
              · exact ⟨_, _, h2⟩
            cases B
            · go_wp2
              go_round
              case rel => exact ⟨k + 1, by omega, by go_num, rfl⟩
              case measure => simp [intOf]; omega
            · go_wp2
              go_round
              case rel => exact ⟨k + 1, by omega, by go_num, rfl⟩
              case measure => simp [intOf]; omega
          · obtain rfl : k = 2 := by omega
            go_wp2
            go_ret
            exact .inl ⟨HXE.out, HYE.out, rfl, Below.refl _ _⟩
      · go_wp2_with fail
        have hpos : 0 < n + m := by omega
        refine (grow_any (n + m) _ hpos (by omega)).mono ?_
        rintro e w1 ⟨c1, rfl, hown1, hb1⟩
        have HO1 := Lib.hid hown1
        have HB1 := Lib.hid hb1
        have HX1 := Lib.hid (HX.out.below hb1)
        have HY1 := Lib.hid (HY.out.below hb1)
        have k1 := (hb1.cell (p := ⟨bl, 0, none⟩) hb).trans h1
        have k2 := (hb1.cell (p := ⟨bl, 1, none⟩) hb).trans h2
        clear hown1 hb1 hN hpos
        go_wp2
        go_loopw [6, 27] (fun sv iv wr => ∃ (k g cap : Nat), k ≤ 2 ∧ iv = .int .i64 k ∧ sv = .slice (some ⟨g, 0, none⟩) (pre2 n m k) cap ∧ Hid (wr.ownsRow w.heap.size 3 1 (.slice (some ⟨g, 0, none⟩) (pre2 n m k) cap) (pre2 n m k) (ivs (Opt.intL (preL xs ys k)))) ∧ Hid (Below w.heap.size w wr)) (fun _ iv _ => 2 - (intOf iv).toNat)
        case atStart => exact ⟨0, _, _, Nat.zero_le _, rfl, rfl, HO1, HB1⟩
        case round =>
          clear HO1 HB1 HX1 HY1 k1 k2
          obtain ⟨k, g, cg, hk, rfl, rfl, HO, HB⟩ := hrel
          by_cases hlt : k < 2
          · obtain ⟨B, l, c, zs, hcl, hzl, hstep, hpl, hlb, hzi⟩ : ∃ (B : Option Addr) (l c : Nat) (zs : List Nat), w.cell? ⟨bl, k, none⟩ = some (.slice B l c) ∧ zs.length = l ∧ pre2 n m (k + 1) = pre2 n m k + l ∧ preL xs ys (k + 1) = preL xs ys k ++ zs ∧ pre2 n m k + l ≤ 200 ∧ IntsAt w w.heap.size B (Opt.intL zs) := by
              have : k = 0 ∨ k = 1 := by omega
              rcases this with rfl | rfl
              · exact ⟨_, _, _, xs, h1, HN.out, by simp [pre2], by simp [preL], by simp [pre2]; omega, HX.out⟩
              · exact ⟨_, _, _, ys, h2, HM.out, by simp [pre2], by simp [preL], by simp [pre2]; omega, HY.out⟩
            have HST := Lib.hid hstep
            have HPL := Lib.hid hpl
            have hclr := (HB.out.cell (p := ⟨bl, k, none⟩) hb).trans hcl
            have HZI := Lib.hid (ints_src (hzi.below HB.out))
            have HZL := Lib.hid hzl
            have hbs := HB.out.size
            clear hstep hpl hcl hzi hzl
            generalize pre2 n m k = p at *
            generalize preL xs ys k = pl at *
            go_wp2_with (at_builtin; refine wpList_append_src _ rfl (.tmp 31) (.tmp 32) 23 rfl w.heap.size 3 i0 _ 1 8 Try.underlying23 HI0.out HZ0.out HZ1.out HZ2.out rfl (by omega) g cg p (ivs (Opt.intL pl)) rfl HO.out B l c (ivs (Opt.intL zs)) rfl (by rw [ivs_len, Opt.intL_len, HZL.out]; omega) HZI.out (ivs_one _) (by simp [maxLen]; omega) (by omega) hbs _ rfl ?_)
            intro g2 c2 w2 hown2 hgr2 hat2
            have HB2 := Lib.hid (HB.out.grown hgr2 hbs (fun j hj => by injection hj; have := (HO.out.lt g rfl).1; omega))
            have HO2 : Hid (w2.ownsRow w.heap.size 3 1 (.slice (some ⟨g2, 0, none⟩) (pre2 n m (k + 1)) c2) (pre2 n m (k + 1)) (ivs (Opt.intL (preL xs ys (k + 1))))) := Lib.hid (by rw [HST.out, HPL.out, ivsI_append]; exact hown2)
            clear hown2 hgr2 hat2 HO HB
            go_wp2
            go_roundw
            case rel => exact ⟨k + 1, g2, c2, by omega, by go_num, by rw [HST.out], HO2, HB2⟩
            case measure => simp [intOf]; omega
          · obtain rfl : k = 2 := by omega
            have hp : pre2 n m 2 = n + m := rfl
            have hp2 : preL xs ys 2 = xs ++ ys := rfl
            rw [hp, hp2] at HO
            rw [hp]
            clear hp hp2
            go_wp2
            go_ret
            exact .inr ⟨g, cg, by rw [HN.out, HM.out]; rfl, by rw [HN.out, HM.out]; exact HO.out, HB.out⟩
end Go.Proofs.Ythcpgbfghededaa
