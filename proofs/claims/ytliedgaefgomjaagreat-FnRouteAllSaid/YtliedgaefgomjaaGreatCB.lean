/- The contract of the library's concatenation of two slices. -/
import Derived.Test.YtliedgaefgomjaaGreatC4
import Derived.Shelf.Spec.SlicesGrow
import Derived.Lib.OwnBridge
import Derived.Shelf.Spec.SlicesInsert
import Derived.Lib.AppendZerosOnto
namespace Go.Proofs.YtliedgaefgomjaaGreat
open Go.RowKit Go.Deep Cut
def lays8_ren : Go.Shelf.Ren := ⟨fun | 4 => 121 | n => n, fun | 22 => 23 | 25 => 3 | 3 => 3 | 4 => 4 | 9 => 9 | 20 => 20 | 0 => 0 | n => n, fun | n => n⟩
theorem lays8 : Go.Proofs.Lays8.n4 Tryz.prog lays8_ren := {
  mixed := by kernel_rfl
  f4 := ⟨Tryz.f121.name, by decide, Tryz.func121.trans (congrArg some (by kernel_rfl))⟩
  t0 := Tryz.underlying0
  a0 := Tryz.isAgg0
  z0 := Tryz.sizeOf0
  v0 := Tryz.zeroValue0
  t3 := Tryz.underlying3
  a3 := Tryz.isAgg3
  z3 := Tryz.sizeOf3
  v3 := Tryz.zeroValue3
  t4 := Tryz.underlying4
  a4 := Tryz.isAgg4
  z4 := Tryz.sizeOf4
  v4 := Tryz.zeroValue4
  t9 := Tryz.underlying9
  a9 := Tryz.isAgg9
  z9 := Tryz.sizeOf9
  v9 := Tryz.zeroValue9
  t20 := Tryz.underlying20
  a20 := Tryz.isAgg20
  z20 := Tryz.sizeOf20
  v20 := Tryz.zeroValue20
  t22 := Tryz.underlying23
  a22 := Tryz.isAgg23
  z22 := Tryz.sizeOf23
  v22 := Tryz.zeroValue23 }
theorem grow_none (w : World) : Calls Tryz.prog 121 #[.slice none 0 0, .int .i64 0] w fun e w' => e = .returned (.slice none 0 0) ∧ w' = w :=
  Any8.slices_Grow_room lays8 none 0 0 0 w (by omega) (by omega) (by omega) (by omega)
/-- Room for n integers. -/
theorem grow_any (n : Nat) (w : World) (h0 : 0 < n) (hn : n ≤ 1000) : Calls Tryz.prog 121 #[.slice none 0 0, .int .i64 n] w fun e w' => ∃ cap, e = .returned (.slice (some ⟨w.heap.size, 0, none⟩) 0 cap) ∧ w'.ownsRow w.heap.size 3 1 (.slice (some ⟨w.heap.size, 0, none⟩) 0 cap) 0 [] ∧ Below w.heap.size w w' := by
  obtain ⟨i0, hi0, hz0, hz1, hz2⟩ := info_split Tryz.info3
  refine (Any8.slices_Grow_grow lays8 i0 (.int .i64 0) hi0 hz0 (by omega) none 0 0 n [] w (by omega) (by omega) (by rw [hz2]; omega) (by omega) (by simp) (fun _ => rfl) (fun a ha => by cases ha)).mono ?_
  rintro e w' ⟨rfl, rfl⟩
  have hc : n ≤ grownCap w (0 + n) 0 3 ∧ grownCap w (0 + n) 0 3 ≤ maxLen := ⟨by have := grownCap_ge w (0 + n) 0 3; omega, grownCap_le_maxLen w (0 + n) 0 3 (by unfold maxLen; omega)⟩
  refine ⟨_, rfl, ⟨by simp, .inr ⟨_, _, _, rfl, Nat.le_refl _, heap_alloc_new w.drew _, by omega, hc.2, ?_, by simp⟩⟩, ?_⟩
  · have hcs : (Value.int .i64 0).cells.size = 1 := rfl
    have ht : lays8_ren.t 25 = 3 := rfl
    simp only [ht, Builtin.zeroCells, hcs, Array.size_append, Array.size_map, Array.size_range, List.size_toArray, List.length_nil]
    omega
  · exact ((Below.refl _ _).drew).alloc (Nat.le_refl _) _

def CatOut (w : World) (xs ys : List Nat) (e : Ending) (w' : World) : Prop :=
  (xs = [] ∧ ys = [] ∧ e = .returned (.slice none 0 0) ∧ Below w.heap.size w w') ∨
  (∃ g cap, e = .returned (.slice (some ⟨g, 0, none⟩) (xs.length + ys.length) cap) ∧ w'.ownsRow w.heap.size 3 1 (.slice (some ⟨g, 0, none⟩) (xs.length + ys.length) cap) (xs.length + ys.length) (ivs (Opt.intL (xs ++ ys))) ∧ Below w.heap.size w w')
/-- The lengths, and the lists, of the first k of two. -/
def pre2 (a b k : Nat) : Nat := if k = 0 then 0 else if k = 1 then a else a + b
def preL (xs ys : List Nat) (k : Nat) : List Nat := if k = 0 then [] else if k = 1 then xs else xs ++ ys
theorem ints_src {w : World} {B : Nat} {A : Option Addr} {x : List Nat} (h : IntsAt w B A (Opt.intL x)) : ∀ j u, (ivs (Opt.intL x))[j]? = some u → ∃ ad, A = some ad ∧ w.cell? (ad.add j) = some u := by
  intro j u hu
  have hj : j < (Opt.intL x).length := by
    have := (List.getElem?_eq_some_iff.1 hu).1
    rwa [ivs_len] at this
  obtain ⟨b, off, e, _, hc⟩ := h j hj
  rw [ivs_get hj] at hu
  injection hu with hu
  exact ⟨_, e, by rw [← hu, Addr.add_lit]; exact hc⟩
theorem ivs_one (x : List Int) : ∀ u ∈ ivs x, u.oneCell' = true := by
  intro u hu
  simp [ivs] at hu
  obtain ⟨a, _, rfl⟩ := hu
  rfl
theorem ivsI_append (a b : List Nat) : ivs (Opt.intL (a ++ b)) = ivs (Opt.intL a) ++ ivs (Opt.intL b) := by simp [ivs, Opt.intL]

set_option maxRecDepth 4000 in
set_option maxHeartbeats 1000000 in
theorem concat_any (bl bc : Nat) (A A' : Option Addr) (n m cap cap' : Nat) (xs ys : List Nat) (w : World) (h1 : w.cell? ⟨bl, 0, none⟩ = some (.slice A n cap)) (h2 : w.cell? ⟨bl, 1, none⟩ = some (.slice A' m cap')) (hb : bl < w.heap.size)
    (hx : IntsAt w w.heap.size A (Opt.intL xs)) (hy : IntsAt w w.heap.size A' (Opt.intL ys)) (hn : xs.length = n) (hm : ys.length = m) (hnb : n ≤ 100) (hmb : m ≤ 100) :
    Calls Tryz.prog 115 #[.slice (some ⟨bl, 0, none⟩) 2 bc] w (CatOut w xs ys) := by
  have HX := Lib.hid hx
  have HY := Lib.hid hy
  have HN := Lib.hid hn
  have HM := Lib.hid hm
  clear hx hy hn hm
  obtain ⟨i0, hi0, hz0, hz1, hz2⟩ := info_split Tryz.info3
  have HI0 := Lib.hid hi0
  have HZ0 := Lib.hid hz0
  have HZ1 := Lib.hid hz1
  have HZ2 := Lib.hid hz2
  clear hi0 hz0 hz1 hz2
  go_enter Tryz.func115, Tryz.ntmps115
  go_wp2
  go_loop [3, 11] (fun sv iv => ∃ k : Nat, k ≤ 2 ∧ iv = .int .i64 k ∧ sv = .int .i64 (pre2 n m k : Nat)) (fun _ iv => 2 - (intOf iv).toNat)
  case atStart => exact ⟨0, Nat.zero_le _, rfl, rfl⟩
  case round =>
    obtain ⟨k, hk, rfl, rfl⟩ := hrel
    by_cases hlt : k < 2
    · obtain ⟨B, l, c, hcl, hstep, hlb⟩ : ∃ (B : Option Addr) (l c : Nat), w.cell? ⟨bl, k, none⟩ = some (.slice B l c) ∧ pre2 n m (k + 1) = pre2 n m k + l ∧ pre2 n m k + l ≤ 200 := by
        have : k = 0 ∨ k = 1 := by omega
        rcases this with rfl | rfl
        · exact ⟨_, _, _, h1, by simp [pre2], by simp [pre2]; omega⟩
        · exact ⟨_, _, _, h2, by simp [pre2], by simp [pre2]; omega⟩
      have HS : Hid (((pre2 n m (k + 1) : Nat) : Int) = (pre2 n m k : Int) + (l : Int)) := Lib.hid (by rw [hstep]; omega)
      clear hstep
      generalize pre2 n m k = p at *
      go_wp2
      go_round
      case rel => exact ⟨k + 1, by omega, by go_num, by rw [HS.out]⟩
      case measure => simp [intOf]; omega
    · obtain rfl : k = 2 := by omega
      have hp : pre2 n m 2 = n + m := rfl
      rw [hp]
      clear hp
      by_cases hN : n + m = 0
      · obtain ⟨rfl, rfl⟩ : n = 0 ∧ m = 0 := by omega
        have HXE : Hid (xs = []) := Lib.hid (List.length_eq_zero_iff.1 HN.out)
        have HYE : Hid (ys = []) := Lib.hid (List.length_eq_zero_iff.1 HM.out)
        go_wp2_with fail
        refine (grow_none _).mono ?_
        rintro e w' ⟨rfl, hw⟩
        obtain rfl : w = w' := hw.symm
        clear hw
        go_wp2
        go_loop [6, 27] (fun sv iv => ∃ k : Nat, k ≤ 2 ∧ iv = .int .i64 k ∧ sv = .slice none 0 0) (fun _ iv => 2 - (intOf iv).toNat)
        case atStart => exact ⟨0, Nat.zero_le _, rfl, rfl⟩
        case round =>
          obtain ⟨k, hk, rfl, rfl⟩ := hrel
          by_cases hlt : k < 2
          · obtain ⟨B, c, hcl⟩ : ∃ (B : Option Addr) (c : Nat), w.cell? ⟨bl, k, none⟩ = some (.slice B 0 c) := by
              have : k = 0 ∨ k = 1 := by omega
              rcases this with rfl | rfl
              · exact ⟨_, _, h1⟩
              · exact ⟨_, _, h2⟩
            cases B
            · go_wp2
              go_round
              case rel => exact ⟨k + 1, by omega, by go_num, rfl⟩
              case measure => simp [intOf]; omega
            · go_wp2
              go_round
              case rel => exact ⟨k + 1, by omega, by go_num, rfl⟩
              case measure => simp [intOf]; omega
          · obtain rfl : k = 2 := by omega
            go_wp2
            go_ret
            exact .inl ⟨HXE.out, HYE.out, rfl, Below.refl _ _⟩
      · go_wp2_with fail
        have hpos : 0 < n + m := by omega
        refine (grow_any (n + m) _ hpos (by omega)).mono ?_
        rintro e w1 ⟨c1, rfl, hown1, hb1⟩
        have HO1 := Lib.hid hown1
        have HB1 := Lib.hid hb1
        have HX1 := Lib.hid (HX.out.below hb1)
        have HY1 := Lib.hid (HY.out.below hb1)
        have k1 := (hb1.cell (p := ⟨bl, 0, none⟩) hb).trans h1
        have k2 := (hb1.cell (p := ⟨bl, 1, none⟩) hb).trans h2
        clear hown1 hb1 hN hpos
        go_wp2
        go_loopw [6, 27] (fun sv iv wr => ∃ (k g cap : Nat), k ≤ 2 ∧ iv = .int .i64 k ∧ sv = .slice (some ⟨g, 0, none⟩) (pre2 n m k) cap ∧ Hid (wr.ownsRow w.heap.size 3 1 (.slice (some ⟨g, 0, none⟩) (pre2 n m k) cap) (pre2 n m k) (ivs (Opt.intL (preL xs ys k)))) ∧ Hid (Below w.heap.size w wr)) (fun _ iv _ => 2 - (intOf iv).toNat)
        case atStart => exact ⟨0, _, _, Nat.zero_le _, rfl, rfl, HO1, HB1⟩
        case round =>
          clear HO1 HB1 HX1 HY1 k1 k2
          obtain ⟨k, g, cg, hk, rfl, rfl, HO, HB⟩ := hrel
          by_cases hlt : k < 2
          · obtain ⟨B, l, c, zs, hcl, hzl, hstep, hpl, hlb, hzi⟩ : ∃ (B : Option Addr) (l c : Nat) (zs : List Nat), w.cell? ⟨bl, k, none⟩ = some (.slice B l c) ∧ zs.length = l ∧ pre2 n m (k + 1) = pre2 n m k + l ∧ preL xs ys (k + 1) = preL xs ys k ++ zs ∧ pre2 n m k + l ≤ 200 ∧ IntsAt w w.heap.size B (Opt.intL zs) := by
              have : k = 0 ∨ k = 1 := by omega
              rcases this with rfl | rfl
              · exact ⟨_, _, _, xs, h1, HN.out, by simp [pre2], by simp [preL], by simp [pre2]; omega, HX.out⟩
              · exact ⟨_, _, _, ys, h2, HM.out, by simp [pre2], by simp [preL], by simp [pre2]; omega, HY.out⟩
            have HST := Lib.hid hstep
            have HPL := Lib.hid hpl
            have hclr := (HB.out.cell (p := ⟨bl, k, none⟩) hb).trans hcl
            have HZI := Lib.hid (ints_src (hzi.below HB.out))
            have HZL := Lib.hid hzl
            have hbs := HB.out.size
            clear hstep hpl hcl hzi hzl
            generalize pre2 n m k = p at *
            generalize preL xs ys k = pl at *
            go_wp2_with (at_builtin; refine wpList_append_src _ rfl (.tmp 31) (.tmp 32) 23 rfl w.heap.size 3 i0 _ 1 8 Tryz.underlying23 HI0.out HZ0.out HZ1.out HZ2.out rfl (by omega) g cg p (ivs (Opt.intL pl)) rfl HO.out B l c (ivs (Opt.intL zs)) rfl (by rw [ivs_len, Opt.intL_len, HZL.out]; omega) HZI.out (ivs_one _) (by simp [maxLen]; omega) (by omega) hbs _ rfl ?_)
            intro g2 c2 w2 hown2 hgr2 hat2
            have HB2 := Lib.hid (HB.out.grown hgr2 hbs (fun j hj => by injection hj; have := (HO.out.lt g rfl).1; omega))
            have HO2 : Hid (w2.ownsRow w.heap.size 3 1 (.slice (some ⟨g2, 0, none⟩) (pre2 n m (k + 1)) c2) (pre2 n m (k + 1)) (ivs (Opt.intL (preL xs ys (k + 1))))) := Lib.hid (by rw [HST.out, HPL.out, ivsI_append]; exact hown2)
            clear hown2 hgr2 hat2 HO HB
            go_wp2
            go_roundw
            case rel => exact ⟨k + 1, g2, c2, by omega, by go_num, by rw [HST.out], HO2, HB2⟩
            case measure => simp [intOf]; omega
          · obtain rfl : k = 2 := by omega
            have hp : pre2 n m 2 = n + m := rfl
            have hp2 : preL xs ys 2 = xs ++ ys := rfl
            rw [hp, hp2] at HO
            rw [hp]
            clear hp hp2
            go_wp2
            go_ret
            exact .inr ⟨g, cg, by rw [HN.out, HM.out]; rfl, by rw [HN.out, HM.out]; exact HO.out, HB.out⟩
end Go.Proofs.YtliedgaefgomjaaGreat
/- The contract of the program's union of two cuts. -/
namespace Go.Proofs.YtliedgaefgomjaaGreat
open Go.RowKit Go.Deep Cut Go.Lib Go.Sort

structure CUp (d : Array Int) (m : Nat) : Prop where
  up : (compactUpTo d m).Pairwise (· < ·)
  mem : ∀ z, z ∈ compactUpTo d m ↔ ∃ j, j < m ∧ z = d[j]!
  le : ∀ z, z ∈ compactUpTo d m → 0 < m → z ≤ d[m - 1]!
theorem CUp.all (d : Array Int) (hs : ∀ i, i + 1 < d.size → d[i]! ≤ d[i + 1]!) : ∀ m, m ≤ d.size → CUp d m
  | 0, _ => ⟨by simp [compactUpTo], fun z => by simp [compactUpTo], fun z hz => by simp [compactUpTo] at hz⟩
  | m + 1, hm => by
    have ih := CUp.all d hs m (by omega)
    have hst : 0 < m → d[m - 1]! ≤ d[m]! := fun h => by
      have := hs (m - 1) (by omega)
      rwa [show m - 1 + 1 = m by omega] at this
    by_cases hk : keeps d m = true
    · have e : compactUpTo d (m + 1) = compactUpTo d m ++ [d[m]!] := by rw [compactUpTo_succ, if_pos hk]
      have hne : 0 < m → d[m]! ≠ d[m - 1]! := fun h => by
        simp [keeps] at hk
        rcases hk with h0 | h0
        · omega
        · exact h0
      refine ⟨?_, fun z => ?_, fun z hz _ => ?_⟩
      · rw [e, List.pairwise_append]
        refine ⟨ih.up, by simp, fun a ha b hb => ?_⟩
        simp at hb
        subst hb
        have hpos : 0 < m := by
          obtain ⟨j, hj, _⟩ := (ih.mem a).1 ha
          omega
        have h1 := ih.le a ha hpos
        have h2 := hst hpos
        have h3 := hne hpos
        omega
      · rw [e, List.mem_append, ih.mem]
        constructor
        · rintro (⟨j, hj, e⟩ | h)
          · exact ⟨j, by omega, e⟩
          · simp at h; exact ⟨m, by omega, h⟩
        · rintro ⟨j, hj, ez⟩
          by_cases h : j < m
          · exact .inl ⟨j, h, ez⟩
          · obtain rfl : j = m := by omega
            exact .inr (by simp [ez])
      · rw [e, List.mem_append] at hz
        rw [Nat.add_sub_cancel]
        rcases hz with h | h
        · have hpos : 0 < m := by
            obtain ⟨j, hj, _⟩ := (ih.mem z).1 h
            omega
          have h1 := ih.le z h hpos
          have h2 := hst hpos
          omega
        · simp at h; omega
    · have e : compactUpTo d (m + 1) = compactUpTo d m := by rw [compactUpTo_succ, if_neg hk, List.append_nil]
      have hm0 : 0 < m := by
        rcases Nat.eq_zero_or_pos m with h | h
        · exact absurd (by simp [keeps, h]) hk
        · exact h
      have heq : d[m]! = d[m - 1]! := by
        simp [keeps] at hk
        exact hk.2
      refine ⟨by rw [e]; exact ih.up, fun z => ?_, fun z hz _ => ?_⟩
      · rw [e, ih.mem]
        constructor
        · rintro ⟨j, hj, e⟩
          exact ⟨j, by omega, e⟩
        · rintro ⟨j, hj, ez⟩
          by_cases h : j < m
          · exact ⟨j, h, ez⟩
          · obtain rfl : j = m := by omega
            exact ⟨j - 1, by omega, by rw [ez, heq]⟩
      · rw [e] at hz
        rw [Nat.add_sub_cancel, heq]
        exact ih.le z hz hm0
theorem compact_sorted (l : List Int) (h : l.Pairwise (· ≤ ·)) : (Lib.compact l).Pairwise (· < ·) ∧ ∀ z, z ∈ Lib.compact l ↔ z ∈ l := by
  have hc := CUp.all l.toArray (fun i hi => by
    have hi' : i + 1 < l.length := by simpa using hi
    have := List.pairwise_iff_getElem.1 h i (i + 1) (by omega) hi' (by omega)
    simpa [getElem!_pos, hi', show i < l.length by omega] using this) l.length (by simp)
  refine ⟨hc.up, fun z => ?_⟩
  show z ∈ compactUpTo l.toArray l.length ↔ _
  rw [hc.mem, List.mem_iff_getElem]
  constructor
  · rintro ⟨j, hj, e⟩
    exact ⟨j, hj, by simpa [getElem!_pos, hj] using e.symm⟩
  · rintro ⟨j, hj, e⟩
    exact ⟨j, hj, by simpa [getElem!_pos, hj] using e.symm⟩
theorem union_eq {xs ys : List Nat} (hx : SA xs) (hy : SA ys) : Lib.compact ((Opt.intL (xs ++ ys)).mergeSort fun x y => decide (x ≤ y)) = Opt.intL (merge xs ys) := by
  have hs : ((Opt.intL (xs ++ ys)).mergeSort fun x y => decide (x ≤ y)).Pairwise (· ≤ ·) := by
    have := List.pairwise_mergeSort (le := fun (x y : Int) => decide (x ≤ y)) (fun a b c h1 h2 => by simp at h1 h2 ⊢; omega) (fun a b => by simp; omega) (Opt.intL (xs ++ ys))
    exact this.imp (fun h => by simpa using h)
  obtain ⟨h1, h2⟩ := compact_sorted _ hs
  refine sai_ext h1 (intL_sa (merge_sa xs ys hx hy)) (fun z => ?_)
  rw [h2, List.mem_mergeSort]
  simp only [Opt.intL, List.mem_map]
  constructor
  · rintro ⟨a, ha, e⟩
    exact ⟨a, (merge_mem _ _ _).2 (List.mem_append.1 ha), e⟩
  · rintro ⟨a, ha, e⟩
    exact ⟨a, List.mem_append.2 ((merge_mem _ _ _).1 ha), e⟩
/-- The blocks from B on. -/
def From (w : World) (B b : Nat) : Prop := B ≤ b ∧ b < w.heap.size
def UnOut (w : World) (xs ys : List Nat) (e : Ending) (w' : World) : Prop := ∃ A cap, e = .returned (.slice A (merge xs ys).length cap) ∧ LeafIn w' (From w' w.heap.size) A (merge xs ys) ∧ Below w.heap.size w w'
theorem own_grow {w : World} {B e n : Nat} {v : Value} {hs : List Value} (h : w.ownsRow B e 1 v n hs) (os : Array Obj) : (grow w os).ownsRow B e 1 v n hs := by
  refine ⟨h.1, ?_⟩
  rcases h.2 with h | ⟨g, cap, cur, hv, h1, h2, h3⟩
  · exact .inl h
  · refine .inr ⟨g, cap, cur, hv, h1, ?_, h3⟩
    have hlt := (Array.getElem?_eq_some_iff.1 h2).1
    show (w.heap ++ os)[g]? = _
    rw [Array.getElem?_append_left hlt]
    exact h2
theorem below_grow' {B : Nat} {w0 w : World} (h : Below B w0 w) (hB : B ≤ w.heap.size) (os : Array Obj) : Below B w0 (grow w os) :=
  ⟨h.os, h.tape, h.output, by have := h.size; show _ ≤ (w.heap ++ os).size; simp; omega, fun k hk => by
    show (w.heap ++ os)[k]? = _
    rw [Array.getElem?_append_left (by omega)]
    exact h.block k hk⟩

theorem sort_n (g cap n : Nat) (zs : List Int) (w : World) (B : Nat) (hn : zs.length = n) (hown : w.ownsRow B 3 1 (.slice (some ⟨g, 0, none⟩) n cap) n (ivs zs)) (hb : n ≤ 1000) (hB : B ≤ w.heap.size) :
    Calls Tryz.prog 116 #[.slice (some ⟨g, 0, none⟩) n cap] w fun e w' => e = .returned (.tuple #[]) ∧ w'.ownsRow B 3 1 (.slice (some ⟨g, 0, none⟩) n cap) n (ivs (zs.mergeSort fun x y => decide (x ≤ y))) ∧ Below B w w' := by
  subst hn
  obtain ⟨g', c', hv, hbase, hlt, hnc, hcm, hzl, hH⟩ := holds_of_ownsRow (enc := Value.int .i64) (zs := zs) hown (by simp)
  have hv' := hv
  injection hv' with h1
  injection h1 with h1
  injection h1 with h1
  subst h1
  refine (sort_any g 0 cap zs w hH hlt (by omega)).mono ?_
  rintro e w' ⟨rfl, q, os, rfl⟩
  have hl : (zs.mergeSort fun x y => decide (x ≤ y)).length = zs.length := List.length_mergeSort _
  refine ⟨rfl, own_grow ?_ os, below_grow' (below_putRow (Below.refl _ _) hbase) (by simp [Sort.ahead]; exact hB) os⟩
  have := ownsRow_putRow (enc := Value.int .i64) (q := q) (zs := zs) (ys := zs.mergeSort fun x y => decide (x ≤ y)) (k := zs.length) hown hl (Nat.le_refl _)
  rwa [List.take_of_length_le (Nat.le_of_eq hl)] at this
theorem compact_n (g cap n : Nat) (zs : List Int) (w : World) (B : Nat) (hn : zs.length = n) (hown : w.ownsRow B 3 1 (.slice (some ⟨g, 0, none⟩) n cap) n (ivs zs)) (hb : n ≤ 1000) :
    Calls Tryz.prog 117 #[.slice (some ⟨g, 0, none⟩) n cap] w fun e w' => e = .returned (.slice (some ⟨g, 0, none⟩) (Lib.compact zs).length cap) ∧ w'.ownsRow B 3 1 (.slice (some ⟨g, 0, none⟩) (Lib.compact zs).length cap) (Lib.compact zs).length (ivs (Lib.compact zs)) ∧ Below B w w' := by
  subst hn
  obtain ⟨g', c', hv, hbase, hlt, hnc, hcm, hzl, hH⟩ := holds_of_ownsRow (enc := Value.int .i64) (zs := zs) hown (by simp)
  have hv' := hv
  injection hv' with h1 _ h3
  injection h1 with h1
  injection h1 with h1
  subst h1 h3
  refine (compact_any g 0 cap zs w hH (by omega) hnc).mono ?_
  rintro e w' ⟨rfl, q, rfl⟩
  have hl : (Lib.compact zs).length ≤ zs.length := by
    show (((List.range zs.length).filter (keeps zs.toArray)).map _).length ≤ _
    rw [List.length_map]
    have := List.length_filter_le (keeps zs.toArray) (List.range zs.length)
    simpa using this
  refine ⟨rfl, ?_, below_putRow (Below.refl _ _) hbase⟩
  have := ownsRow_putRow (enc := Value.int .i64) (q := q) (zs := zs) (ys := Lib.compact zs ++ List.replicate (zs.length - (Lib.compact zs).length) 0) (k := (Lib.compact zs).length) hown (by simp; omega) hl
  rwa [List.take_left] at this

set_option maxHeartbeats 1000000 in
theorem unionOf_any (A A' : Option Addr) (n m cap cap' : Nat) (xs ys : List Nat) (w : World) (hx : IntsAt w w.heap.size A (Opt.intL xs)) (hy : IntsAt w w.heap.size A' (Opt.intL ys)) (hn : xs.length = n) (hm : ys.length = m) (hnb : n ≤ 100) (hmb : m ≤ 100) (sx : SA xs) (sy : SA ys) :
    Calls Tryz.prog 111 #[.slice A n cap, .slice A' m cap'] w (UnOut w xs ys) := by
  have HU := Lib.hid (union_eq sx sy)
  have HN := Lib.hid hn
  have HM := Lib.hid hm
  have hb0 : Below w.heap.size w (w.alloc (.cells #[.slice A n cap, .slice A' m cap'] 23)) := (Below.refl _ _).alloc (Nat.le_refl _) _
  have HB0 := Lib.hid hb0
  have HX := Lib.hid ((hx.below hb0).mono hb0.size)
  have HY := Lib.hid ((hy.below hb0).mono hb0.size)
  have e0 : (w.alloc (.cells #[.slice A n cap, .slice A' m cap'] 23)).cell? ⟨w.heap.size, 0, none⟩ = some (.slice A n cap) := by simp
  have e1 : (w.alloc (.cells #[.slice A n cap, .slice A' m cap'] 23)).cell? ⟨w.heap.size, 1, none⟩ = some (.slice A' m cap') := by simp
  have hz0 : (w.alloc (.cells #[.slice A n cap, .slice A' m cap'] 23)).heap.size = w.heap.size + 1 := by simp
  clear hx hy hn hm hb0 sx sy
  go_enter Tryz.func111, Tryz.ntmps111
  go_wp2_with fail
  refine (concat_any w.heap.size 2 A A' n m cap cap' xs ys _ e0 e1 (by omega) HX.out HY.out HN.out HM.out hnb hmb).mono ?_
  clear e0 e1
  generalize w.alloc (.cells #[.slice A n cap, .slice A' m cap'] 23) = w0 at *
  rintro e w1 (⟨hxe, hye, rfl, hb1⟩ | ⟨g, c1, rfl, hown, hb1⟩)
  · subst hxe hye
    have HE : Hid (merge [] [] = []) := Lib.hid (merge_nil_l [])
    have HB1 := Lib.hid (HB0.out.trans (hb1.mono (by omega)))
    clear hb1 HU
    go_wp2_with (first
      | (go_at_call 116; refine (sort_none _ _ _).mono ?_; rintro e w' ⟨rfl, hw⟩; obtain rfl := hw.symm; clear hw)
      | (go_at_call 117; refine (compact_none _ _ _).mono ?_; rintro e w' ⟨rfl, hw⟩; obtain rfl := hw.symm; clear hw))
    go_ret
    exact ⟨none, 0, by rw [HE.out]; rfl, .inl HE.out, HB1.out⟩
  · have hz1 : w.heap.size + 1 ≤ w1.heap.size := by have := hb1.size; omega
    have hown' : w1.ownsRow (w.heap.size + 1) 3 1 (.slice (some ⟨g, 0, none⟩) (xs.length + ys.length) c1) (xs.length + ys.length) (ivs (Opt.intL (xs ++ ys))) := by rw [← hz0]; exact hown
    have HO := Lib.hid hown'
    have HL : Hid ((Opt.intL (xs ++ ys)).length = xs.length + ys.length) := Lib.hid (by rw [Opt.intL_len, List.length_append])
    have HB1 := Lib.hid (HB0.out.trans (hb1.mono (by omega)))
    have hlb : xs.length + ys.length ≤ 1000 := by have := HN.out; have := HM.out; omega
    clear hown hown' hb1
    generalize xs.length + ys.length = L at *
    go_wp2_with fail
    refine (sort_n g c1 L _ _ (w.heap.size + 1) HL.out HO.out hlb hz1).mono ?_
    rintro e w2 ⟨rfl, hown2, hb2⟩
    have HO2 := Lib.hid hown2
    have HB2 := Lib.hid (HB1.out.trans (hb2.mono (by omega)))
    have HL2 : Hid (((Opt.intL (xs ++ ys)).mergeSort fun x y => decide (x ≤ y)).length = L) := Lib.hid (by rw [List.length_mergeSort]; exact HL.out)
    clear hown2 hb2 HO
    go_wp2_with fail
    refine (compact_n g c1 L _ _ (w.heap.size + 1) HL2.out HO2.out hlb).mono ?_
    rw [HU.out, Opt.intL_len]
    rintro e w3 ⟨rfl, hown3, hb3⟩
    have HO3 := Lib.hid hown3
    have HB3 := Lib.hid (HB2.out.trans (hb3.mono (by omega)))
    clear hown3 hb3 HO2
    go_wp2
    go_ret
    exact ⟨some ⟨g, 0, none⟩, c1, rfl, own_leaf HO3.out ⟨by have := (HO3.out.lt g rfl).1; omega, (HO3.out.lt g rfl).2⟩, HB3.out⟩
end Go.Proofs.YtliedgaefgomjaaGreat
/- The contracts of the library's comparison of lists, and of its search among sorted lists. -/
namespace Cut
/-- The order of lists: negative, zero or positive. -/
def lexC : List Nat → List Nat → Int
  | [], [] => 0
  | [], _ :: _ => -1
  | _ :: _, [] => 1
  | x :: xs, y :: ys => if x < y then -1 else if y < x then 1 else lexC xs ys
theorem lexC_lt {x y : Nat} (xs ys : List Nat) (h : x < y) : lexC (x :: xs) (y :: ys) = -1 := by rw [lexC, if_pos h]
theorem lexC_gt {x y : Nat} (xs ys : List Nat) (h : y < x) : lexC (x :: xs) (y :: ys) = 1 := by rw [lexC, if_neg (by omega), if_pos h]
theorem lexC_same (x : Nat) (xs ys : List Nat) : lexC (x :: xs) (x :: ys) = lexC xs ys := by rw [lexC, if_neg (by omega), if_neg (by omega)]
theorem lexC_eq : ∀ (a b : List Nat), lexC a b = 0 ↔ a = b
  | [], [] => by simp [lexC]
  | [], _ :: _ => by simp [lexC]
  | _ :: _, [] => by simp [lexC]
  | x :: xs, y :: ys => by
    rcases Nat.lt_trichotomy x y with h | h | h
    · rw [lexC_lt _ _ h]; simp; omega
    · subst h; rw [lexC_same, lexC_eq xs ys]; simp
    · rw [lexC_gt _ _ h]; simp; omega
theorem lexC_anti : ∀ (a b : List Nat), lexC b a = - lexC a b
  | [], [] => by simp [lexC]
  | [], _ :: _ => by simp [lexC]
  | _ :: _, [] => by simp [lexC]
  | x :: xs, y :: ys => by
    rcases Nat.lt_trichotomy x y with h | h | h
    · rw [lexC_lt _ _ h, lexC_gt _ _ h]; rfl
    · subst h; rw [lexC_same, lexC_same]; exact lexC_anti xs ys
    · rw [lexC_gt _ _ h, lexC_lt _ _ h]
theorem lexC_trans : ∀ (a b c : List Nat), lexC a b < 0 → lexC b c < 0 → lexC a c < 0
  | [], [], c, h, _ => by simp [lexC] at h
  | _ :: _, [], c, h, _ => by simp [lexC] at h
  | [], _ :: _, [], _, h => by simp [lexC] at h
  | [], _ :: _, _ :: _, _, _ => by simp [lexC]
  | _ :: _, _ :: _, [], _, h => by simp [lexC] at h
  | x :: xs, y :: ys, z :: zs, h1, h2 => by
    rcases Nat.lt_trichotomy x y with h | h | h
    · rcases Nat.lt_trichotomy y z with h' | h' | h'
      · rw [lexC_lt _ _ (by omega)]; decide
      · subst h'; rw [lexC_lt _ _ h]; decide
      · rw [lexC_gt _ _ h'] at h2; omega
    · subst h
      rcases Nat.lt_trichotomy x z with h' | h' | h'
      · rw [lexC_lt _ _ h']; decide
      · subst h'
        rw [lexC_same] at h1 h2 ⊢
        exact lexC_trans xs ys zs h1 h2
      · rw [lexC_gt _ _ h'] at h2; omega
    · rw [lexC_gt _ _ h] at h1; omega
/-- Strictly sorted. -/
def LS (K : Cs) : Prop := ∀ i j, i < j → j < K.length → lexC (K.getD i []) (K.getD j []) < 0
/-- How many lists precede x; whether x is there. -/
structure Pos (K : Cs) (x : List Nat) (p : Nat) : Prop where
  le : p ≤ K.length
  lo : ∀ t, t < p → lexC (K.getD t []) x < 0
  hi : ∀ t, p ≤ t → t < K.length → 0 ≤ lexC (K.getD t []) x
theorem Pos.found {K : Cs} {x : List Nat} {p : Nat} (h : Pos K x p) (hs : LS K) : (p < K.length ∧ lexC (K.getD p []) x = 0) ↔ x ∈ K := by
  constructor
  · rintro ⟨h1, h2⟩
    rw [lexC_eq] at h2
    rw [← h2, List.getD_eq_getElem?_getD, List.getElem?_eq_getElem h1]
    exact List.getElem_mem h1
  · intro hm
    obtain ⟨t, ht, e⟩ := List.mem_iff_getElem.1 hm
    have e' : K.getD t [] = x := by rw [List.getD_eq_getElem?_getD, List.getElem?_eq_getElem ht]; exact e
    have h0 : lexC (K.getD t []) x = 0 := by rw [e', lexC_eq]
    have hpt : p ≤ t := by
      rcases Nat.lt_or_ge t p with h1 | h1
      · have := h.lo t h1; omega
      · exact h1
    rcases Nat.lt_or_ge p t with h1 | h1
    · have h2 := hs p t h1 ht
      rw [e'] at h2
      have := h.hi p (Nat.le_refl _) (by omega)
      omega
    · obtain rfl : p = t := by omega
      exact ⟨ht, h0⟩
theorem getD_ins {α : Type} (K : List α) (x d : α) (p t : Nat) (hp : p ≤ K.length) : (K.take p ++ [x] ++ K.drop p).getD t d = if t < p then K.getD t d else if t = p then x else K.getD (t - 1) d := by
  simp only [List.getD_eq_getElem?_getD, List.append_assoc]
  split
  · next h => rw [List.getElem?_append_left (by simp; omega), List.getElem?_take, if_pos h]
  · next h =>
    rw [List.getElem?_append_right (by simp; omega)]
    have e : (K.take p).length = p := by simp; omega
    rw [e]
    split
    · next h2 => subst h2; simp
    · next h2 =>
      obtain ⟨q, hq⟩ : ∃ q, t - p = q + 1 := ⟨t - p - 1, by omega⟩
      rw [hq]
      simp
      congr 2
      omega
theorem Pos.ins {K : Cs} {x : List Nat} {p : Nat} (h : Pos K x p) (hs : LS K) (hx : x ∉ K) : LS (K.take p ++ [x] ++ K.drop p) := by
  intro i j hij hj
  have hp := h.le
  have hl : (K.take p ++ [x] ++ K.drop p).length = K.length + 1 := by simp; omega
  rw [hl] at hj
  have hgt : ∀ t, p ≤ t → t < K.length → lexC x (K.getD t []) < 0 := fun t h1 h2 => by
    have h3 := h.hi t h1 h2
    have h4 : lexC (K.getD t []) x ≠ 0 := fun e => by
      rw [lexC_eq] at e
      apply hx
      rw [← e, List.getD_eq_getElem?_getD, List.getElem?_eq_getElem h2]
      exact List.getElem_mem h2
    rw [lexC_anti (K.getD t []) x]
    omega
  rw [getD_ins K x [] p i hp, getD_ins K x [] p j hp]
  by_cases h1 : j < p
  · rw [if_pos (by omega), if_pos h1]; exact hs i j hij (by omega)
  · rw [if_neg h1]
    by_cases h2 : j = p
    · rw [if_pos h2, if_pos (by omega)]; exact h.lo i (by omega)
    · rw [if_neg h2]
      by_cases h3 : i < p
      · rw [if_pos h3]; exact hs i (j - 1) (by omega) (by omega)
      · rw [if_neg h3]
        by_cases h4 : i = p
        · rw [if_pos h4]; exact hgt (j - 1) (by omega) (by omega)
        · rw [if_neg h4]; exact hs (i - 1) (j - 1) (by omega) (by omega)
theorem ins_mem {K : Cs} {x : List Nat} {p : Nat} (z : List Nat) : z ∈ K.take p ++ [x] ++ K.drop p ↔ z ∈ K ∨ z = x := by
  have : z ∈ K ↔ z ∈ K.take p ∨ z ∈ K.drop p := by rw [← List.mem_append, List.take_append_drop]
  simp only [List.mem_append, List.mem_singleton, this]
  constructor
  · rintro ((h | h) | h)
    · exact .inl (.inl h)
    · exact .inr h
    · exact .inl (.inr h)
  · rintro ((h | h) | h)
    · exact .inl (.inl h)
    · exact .inr h
    · exact .inl (.inr h)
end Cut
namespace Go.Proofs.YtliedgaefgomjaaGreat
open Go.RowKit Go.Deep Cut

theorem lex_end {xs ys : List Nat} {i : Nat} (hi : i < xs.length) (hj : ys.length ≤ i) : lexC (xs.drop i) (ys.drop i) = 1 := by
  rw [drop_get hi, List.drop_of_length_le hj]; rfl
theorem lex_at {xs ys : List Nat} {i : Nat} (hi : i < xs.length) (hj : i < ys.length) : lexC (xs.drop i) (ys.drop i) = if xs.getD i 0 < ys.getD i 0 then -1 else if ys.getD i 0 < xs.getD i 0 then 1 else lexC (xs.drop (i + 1)) (ys.drop (i + 1)) := by
  rw [drop_get hi, drop_get hj, lexC]
theorem lex_fin {xs ys : List Nat} {i : Nat} (hi : xs.length ≤ i) : lexC (xs.drop i) (ys.drop i) = if i < ys.length then -1 else 0 := by
  rw [List.drop_of_length_le hi]
  split
  · next h => rw [drop_get h]; rfl
  · next h => rw [List.drop_of_length_le (by omega)]; rfl

set_option maxHeartbeats 1000000 in
theorem compare_any (A A' : Option Addr) (n m cap cap' B : Nat) (xs ys : List Nat) (w : World) (hx : IntsAt w B A (Opt.intL xs)) (hy : IntsAt w B A' (Opt.intL ys)) (hn : xs.length = n) (hm : ys.length = m) (hnb : n ≤ 1000) (_ : m ≤ 1000) :
    Calls Tryz.prog 119 #[.slice A n cap, .slice A' m cap'] w fun e w' => e = .returned (.int .i64 (lexC xs ys)) ∧ w = w' := by
  have HX := Lib.hid hx
  have HY := Lib.hid hy
  have HN := Lib.hid hn
  have HM := Lib.hid hm
  clear hx hy hn hm
  go_enter Tryz.func119, Tryz.ntmps119
  go_wp2
  go_loop [11] (fun iv => ∃ i : Nat, i ≤ n ∧ iv = .int .i64 i ∧ i ≤ m ∧ Hid (lexC (xs.drop i) (ys.drop i) = lexC xs ys)) (fun iv => n - (intOf iv).toNat)
  case atStart => exact ⟨0, Nat.zero_le _, rfl, Nat.zero_le _, Lib.hid (by simp)⟩
  case round =>
    obtain ⟨i, hi, rfl, him, HI⟩ := hrel
    by_cases hin : i < n
    · obtain ⟨b, off, rfl, hbl, hcA⟩ := HX.out i (by rw [Opt.intL_len, HN.out]; exact hin)
      rw [Opt.intL_at] at hcA
      by_cases hjm : i < m
      · obtain ⟨b', off', rfl, hbl', hcB⟩ := HY.out i (by rw [Opt.intL_len, HM.out]; exact hjm)
        rw [Opt.intL_at] at hcB
        have HS := Lib.hid (lex_at (xs := xs) (ys := ys) (i := i) (by rw [HN.out]; exact hin) (by rw [HM.out]; exact hjm))
        generalize xs.getD i 0 = x at *
        generalize ys.getD i 0 = y at *
        rcases Nat.lt_trichotomy x y with hxy | hxy | hxy
        · have HE : Hid (lexC xs ys = -1) := Lib.hid (by rw [← HI.out, HS.out, if_pos hxy])
          have HC : Hid (Lib.compareInt (x : Int) (y : Int) = -1) := Lib.hid (by unfold Lib.compareInt; rw [if_pos (by omega)])
          clear HS
          go_wp2_with (go_at_call 108; refine (cmpCompare_any _ _ _).mono ?_; rintro e w' ⟨rfl, hw⟩; obtain rfl := hw.symm; clear hw; rw [HC.out])
          go_ret
          exact ⟨ret_int HE.out.symm, rfl⟩
        · subst hxy
          have HE : Hid (lexC (xs.drop (i + 1)) (ys.drop (i + 1)) = lexC xs ys) := Lib.hid (by rw [← HI.out, HS.out, if_neg (by omega), if_neg (by omega)])
          have HC : Hid (Lib.compareInt (x : Int) (x : Int) = 0) := Lib.hid (by unfold Lib.compareInt; rw [if_neg (by omega), if_neg (by omega)])
          clear HS
          go_wp2_with (go_at_call 108; refine (cmpCompare_any _ _ _).mono ?_; rintro e w' ⟨rfl, hw⟩; obtain rfl := hw.symm; clear hw; rw [HC.out])
          go_round
          case rel => exact ⟨i + 1, by omega, by go_num, by omega, HE⟩
          case measure => simp [intOf]; omega
        · have HE : Hid (lexC xs ys = 1) := Lib.hid (by rw [← HI.out, HS.out, if_neg (by omega), if_pos hxy])
          have HC : Hid (Lib.compareInt (x : Int) (y : Int) = 1) := Lib.hid (by unfold Lib.compareInt; rw [if_neg (by omega), if_pos (by omega)])
          clear HS
          go_wp2_with (go_at_call 108; refine (cmpCompare_any _ _ _).mono ?_; rintro e w' ⟨rfl, hw⟩; obtain rfl := hw.symm; clear hw; rw [HC.out])
          go_ret
          exact ⟨ret_int HE.out.symm, rfl⟩
      · have HE : Hid (lexC xs ys = 1) := Lib.hid (by rw [← HI.out, lex_end (by rw [HN.out]; exact hin) (by rw [HM.out]; omega)])
        go_wp2
        go_ret
        exact ⟨ret_int HE.out.symm, rfl⟩
    · obtain rfl : i = n := by omega
      by_cases hjm : i < m
      · have HE : Hid (lexC xs ys = -1) := Lib.hid (by rw [← HI.out, lex_fin (by rw [HN.out]; exact Nat.le_refl _), if_pos (by rw [HM.out]; exact hjm)])
        go_wp2
        go_ret
        exact ⟨ret_int HE.out.symm, rfl⟩
      · have HE : Hid (lexC xs ys = 0) := Lib.hid (by rw [← HI.out, lex_fin (by rw [HN.out]; exact Nat.le_refl _), if_neg (by rw [HM.out]; exact hjm)])
        go_wp2
        go_ret
        exact ⟨ret_int HE.out.symm, rfl⟩
end Go.Proofs.YtliedgaefgomjaaGreat
/- The contract of the library's search among sorted lists. -/
namespace Go.Proofs.YtliedgaefgomjaaGreat
open Go.RowKit Go.Deep Cut

def SrOut (w : World) (K : Cs) (x : List Nat) (e : Ending) (w' : World) : Prop := (∃ p, Pos K x p ∧ e = .returned (.tuple #[.int .i64 (p : Int), .bool (decide (x ∈ K))])) ∧ w = w'
theorem tuple_ret {a b : Int} {c d : Bool} (h1 : a = b) (h2 : c = d) : Ending.returned (.tuple #[.int .i64 a, .bool c]) = .returned (.tuple #[.int .i64 b, .bool d]) := by rw [h1, h2]

set_option maxHeartbeats 1000000 in
theorem search_any (A A' : Option Addr) (n m cap cap' : Nat) (K : Cs) (x : List Nat) (w : World) (hx : ListAt w w.heap.size A K) (hy : IntsAt w w.heap.size A' (Opt.intL x)) (hn : K.length = n) (hm : x.length = m) (hnb : n ≤ 1000) (hmb : m ≤ 1000) (hlb : ∀ k, k < n → (K.getD k []).length ≤ 1000) (hs : LS K) :
    Calls Tryz.prog 118 #[.slice A n cap, .slice A' m cap', .func (.func 119) #[] #[]] w (SrOut w K x) := by
  have HX := Lib.hid hx
  have HY := Lib.hid hy
  have HN := Lib.hid hn
  have HM := Lib.hid hm
  have HLB := Lib.hid hlb
  have HS := Lib.hid hs
  clear hx hy hn hm hlb hs
  have eg : ∀ args w, (callFunc 119 args).run Tryz.prog w = .ok (.enter 119 args) w := enters_of Tryz.func119 (by kernel_rfl) rfl
  go_enter Tryz.func118, Tryz.ntmps118
  go_wp2
  go_loop [9, 10] (fun iv jv => ∃ lo hi : Nat, lo ≤ hi ∧ hi ≤ n ∧ iv = .int .i64 lo ∧ jv = .int .i64 hi ∧ Hid (∀ t, t < lo → lexC (K.getD t []) x < 0) ∧ Hid (∀ t, hi ≤ t → t < n → 0 ≤ lexC (K.getD t []) x)) (fun iv jv => (intOf jv).toNat - (intOf iv).toNat)
  case atStart => exact ⟨0, n, Nat.zero_le _, Nat.le_refl _, rfl, rfl, Lib.hid (fun t ht => absurd ht (by omega)), Lib.hid (fun t h1 h2 => absurd h2 (by omega))⟩
  case round =>
    obtain ⟨lo, hi, hlh, hhn, rfl, rfl, HL, HH⟩ := hrel
    by_cases hlt : lo < hi
    · obtain ⟨h, hh⟩ : ∃ h, (lo + hi) / 2 = h := ⟨_, rfl⟩
      have hq : ((lo : Int) + (hi : Int)) / 2 = (h : Int) := by omega
      have hhl : h < n := by omega
      obtain ⟨b, off, rfl, hbl, Ah, ch, hc, hxh⟩ := HX.out h (by rw [HN.out]; exact hhl)
      have HXH := Lib.hid hxh
      have hlen := HLB.out h hhl
      have i1 : (0 : Int) ≤ (h : Int) := by omega
      have i2 : (h : Int) < (n : Int) := by omega
      have HLO : Hid (lexC (K.getD h []) x < 0 → ∀ t, t < h + 1 → lexC (K.getD t []) x < 0) := Lib.hid (fun h1 t ht => by
        by_cases e : t = h
        · subst e; exact h1
        · exact lexC_trans _ _ _ (HS.out t h (by omega) (by rw [HN.out]; exact hhl)) h1)
      have HHI : Hid (¬ lexC (K.getD h []) x < 0 → ∀ t, h ≤ t → t < n → 0 ≤ lexC (K.getD t []) x) := Lib.hid (fun h1 t ht htn => by
        by_cases e : t = h
        · subst e; omega
        · by_cases h2 : lexC (K.getD t []) x < 0
          · exact absurd (lexC_trans _ _ _ (HS.out h t (by omega) (by rw [HN.out]; exact htn)) h2) h1
          · omega)
      clear hxh
      generalize hK : K.getD h [] = kh at *
      clear hK
      by_cases hneg : lexC kh x < 0
      · have HL2 := Lib.hid (HLO.out hneg)
        clear HLO HHI
        go_wp2_with (go_at_fn 119; refine (compare_any Ah A' kh.length m ch cap' _ kh x _ HXH.out HY.out rfl HM.out hlen hmb).mono ?_; rintro e w' ⟨rfl, rfl⟩)
        go_round
        case rel => exact ⟨h + 1, hi, by omega, by omega, by go_num, rfl, HL2, HH⟩
        case measure => simp [intOf]; omega
      · have HH2 := Lib.hid (HHI.out hneg)
        clear HLO HHI
        go_wp2_with (go_at_fn 119; refine (compare_any Ah A' kh.length m ch cap' _ kh x _ HXH.out HY.out rfl HM.out hlen hmb).mono ?_; rintro e w' ⟨rfl, rfl⟩)
        go_round
        case rel => exact ⟨lo, h, by omega, by omega, rfl, by go_num, HL, HH2⟩
        case measure => simp [intOf]; omega
    · obtain rfl : lo = hi := by omega
      have HP : Hid (Pos K x lo) := Lib.hid ⟨by rw [HN.out]; exact hhn, HL.out, fun t h1 h2 => HH.out t h1 (by rw [← HN.out]; exact h2)⟩
      have HD := Lib.hid (HP.out.found HS.out)
      by_cases hln : lo < n
      · obtain ⟨b, off, rfl, hbl, Ah, ch, hc, hxh⟩ := HX.out lo (by rw [HN.out]; exact hln)
        have HXH := Lib.hid hxh
        have hlen := HLB.out lo hln
        clear hxh
        have hnK : lo < K.length := by rw [HN.out]; exact hln
        have HD2 : Hid (lexC (K.getD lo []) x = 0 ↔ x ∈ K) := Lib.hid ⟨fun h => HD.out.1 ⟨hnK, h⟩, fun h => (HD.out.2 h).2⟩
        clear HD hnK HL HH
        generalize K.getD lo [] = kh at *
        by_cases h0 : lexC kh x = 0
        · have HE : Hid (decide (x ∈ K) = true) := Lib.hid (by simpa using HD2.out.1 h0)
          clear HD2
          go_wp2_with (go_at_fn 119; refine (compare_any Ah A' kh.length m ch cap' _ kh x _ HXH.out HY.out rfl HM.out hlen hmb).mono ?_; rintro e w' ⟨rfl, rfl⟩)
          go_ret2
          exact ⟨⟨lo, HP.out, tuple_ret rfl HE.out.symm⟩, rfl⟩
        · have HE : Hid (decide (x ∈ K) = false) := Lib.hid (by simp; exact fun h => h0 (HD2.out.2 h))
          clear HD2
          go_wp2_with (go_at_fn 119; refine (compare_any Ah A' kh.length m ch cap' _ kh x _ HXH.out HY.out rfl HM.out hlen hmb).mono ?_; rintro e w' ⟨rfl, rfl⟩)
          go_ret2
          exact ⟨⟨lo, HP.out, tuple_ret rfl (by rw [HE.out]; simpa using h0)⟩, rfl⟩
      · have HE : Hid (decide (x ∈ K) = false) := Lib.hid (by simp; exact fun h => hln (by have := (HD.out.2 h).1; rwa [HN.out] at this))
        clear HD HL HH
        go_wp2
        go_ret2
        exact ⟨⟨lo, HP.out, tuple_ret rfl HE.out.symm⟩, rfl⟩
end Go.Proofs.YtliedgaefgomjaaGreat
/- The contract of the library's insertion of one list among sorted lists. -/
namespace Go.Proofs.YtliedgaefgomjaaGreat
open Go.RowKit Go.Deep Cut

def setL (cs : Array Value) (o : Nat) : List Value → Array Value
  | [] => cs
  | v :: r => setL (cs.setIfInBounds o v) (o + 1) r
theorem setL_size : ∀ (vs : List Value) (cs : Array Value) (o : Nat), (setL cs o vs).size = cs.size
  | [], _, _ => rfl
  | v :: r, cs, o => by rw [setL, setL_size r]; simp
theorem setL_get : ∀ (vs : List Value) (cs : Array Value) (o j : Nat), j < cs.size → (setL cs o vs)[j]? = if o ≤ j ∧ j < o + vs.length then vs[j - o]? else cs[j]?
  | [], cs, o, j, hj => by
    rw [setL, if_neg (by simp)]
  | v :: r, cs, o, j, hj => by
    rw [setL, setL_get r _ _ _ (by simpa using hj)]
    by_cases h1 : j = o
    · subst h1
      rw [if_neg (by omega), if_pos (by simp)]
      simp [hj]
    · by_cases h2 : o + 1 ≤ j ∧ j < o + 1 + r.length
      · rw [if_pos h2, if_pos (by simp; omega), show j - o = (j - (o + 1)) + 1 by omega]
        rfl
      · rw [if_neg h2, if_neg (by simp; omega), Array.getElem?_setIfInBounds_ne (by omega)]
theorem Row.setCells {b : Nat} {t : TypeId} : ∀ (vs : List Value) {w : World} {cs : Array Value} (o : Nat), Row w b t cs → Row (w.setCells b o vs) b t (setL cs o vs)
  | [], _, _, _, h => h
  | v :: r, w, cs, o, h => by
    rw [World.setCells, setL]
    exact Row.setCells r (o + 1) (h.set o v)
theorem below_setCells {B b : Nat} {w0 : World} (hb : B ≤ b) : ∀ (vs : List Value) {w : World} (o : Nat), Below B w0 w → Below B w0 (w.setCells b o vs)
  | [], _, _, h => h
  | v :: r, w, o, h => by
    rw [World.setCells]
    exact below_setCells hb r (o + 1) (h.setCell (p := ⟨b, o, none⟩) hb v)
theorem heap_setCells {b k : Nat} (hk : k ≠ b) : ∀ (vs : List Value) (w : World) (o : Nat), (w.setCells b o vs).heap[k]? = w.heap[k]?
  | [], _, _ => rfl
  | v :: r, w, o => by
    rw [World.setCells, heap_setCells hk r]
    exact Below.heap_setCell w ⟨b, o, none⟩ v k (by exact hk)
/-- The cells with one more among them. -/
def insV (hs : List Value) (i : Nat) (v : Value) : List Value := hs.take i ++ [v] ++ hs.drop i
theorem insV_len {hs : List Value} {i : Nat} (v : Value) (hi : i ≤ hs.length) : (insV hs i v).length = hs.length + 1 := by unfold insV; simp; omega
theorem insV_get {hs : List Value} {i j : Nat} (v : Value) (hi : i ≤ hs.length) : (insV hs i v)[j]? = if j < i then hs[j]? else if j = i then some v else hs[j - 1]? := by
  unfold insV
  simp only [List.append_assoc]
  split
  · next h => rw [List.getElem?_append_left (by simp; omega), List.getElem?_take, if_pos h]
  · next h =>
    rw [List.getElem?_append_right (by simp; omega)]
    have e : (hs.take i).length = i := by simp; omega
    rw [e]
    split
    · next h2 => subst h2; simp
    · next h2 =>
      obtain ⟨q, hq⟩ : ∃ q, j - i = q + 1 := ⟨j - i - 1, by omega⟩
      rw [hq]
      simp
      congr 1
      omega
theorem own_of_row {W : World} {B b cap n : Nat} {t : TypeId} {cs : Array Value} {xs : List Value} (h : Row W b t cs) (hB : B ≤ b) (hs : cs.size = cap) (hn : n ≤ cap) (hm : cap ≤ maxLen) (hx : xs.length = n) (hc : ∀ j, j < n → cs[j]? = xs[j]?) : W.ownsRow B t 1 (.slice (some ⟨b, 0, none⟩) n cap) n xs := by
  refine ⟨by omega, .inr ⟨b, cap, cs, rfl, hB, h, hn, hm, by omega, ?_⟩⟩
  apply List.ext_getElem?
  intro j
  rw [List.getElem?_take, Array.getElem?_toList]
  by_cases hj : j < n
  · rw [if_pos (by omega), hc j hj]
  · rw [if_neg (by omega), List.getElem?_eq_none (by omega)]
/-- Headers with one more among them. -/
theorem Hdrs.ins {w : World} {S : Nat → Prop} {hs : List Value} {K : Cs} {i : Nat} (h : Hdrs w S hs K) (hi : i ≤ K.length) {A : Option Addr} {x : List Nat} {cap : Nat} (hx : LeafIn w S A x) : Hdrs w S (insV hs i (.slice A x.length cap)) (K.take i ++ [x] ++ K.drop i) := by
  have hl := h.1
  refine ⟨by rw [insV_len _ (by omega)]; simp; omega, fun k hk => ?_⟩
  have hk' : k < K.length + 1 := by simp at hk; omega
  rw [getD_ins K x [] i k hi, insV_get _ (by omega)]
  by_cases h1 : k < i
  · rw [if_pos h1, if_pos h1]
    exact h.2 k (by omega)
  · rw [if_neg h1, if_neg h1]
    by_cases h2 : k = i
    · rw [if_pos h2, if_pos h2]
      exact ⟨A, cap, rfl, hx⟩
    · rw [if_neg h2, if_neg h2]
      exact h.2 (k - 1) (by omega)
/-- What an insertion leaves. -/
def InsOut (w : World) (B b n i : Nat) (_ : Cs) (hs : List Value) (A : Option Addr) (x : List Nat) (c : Nat) (e : Ending) (w' : World) : Prop :=
  ∃ b' cap', e = .returned (.slice (some ⟨b', 0, none⟩) (n + 1) cap') ∧ w'.ownsRow B 23 1 (.slice (some ⟨b', 0, none⟩) (n + 1) cap') (n + 1) (insV hs i (.slice A x.length c)) ∧ Below B w w' ∧ (∀ k, k < w.heap.size → k ≠ b → w'.heap[k]? = w.heap[k]?) ∧ (b' = b ∨ w.heap.size ≤ b')

theorem insV_end {hs : List Value} {n : Nat} (v : Value) (h : hs.length = n) : insV hs n v = hs ++ [v] := by
  unfold insV
  rw [List.take_of_length_le (by omega), List.drop_of_length_le (by omega), List.append_nil]
theorem append_as {P : Program} {t t' e : TypeId} (ht : P.underlying t = some (.slice e)) (ht' : P.underlying t' = some (.slice e)) (ty : TypeId) (v x : Value) (w : World) :
    (Builtin.append_ #[t, t'] ty #[v, x]).run P w = (Builtin.append_ #[t', t'] ty #[v, x]).run P w := by
  simp [Builtin.append_, run_underlying ht, run_underlying ht']
set_option maxRecDepth 10000 in
set_option maxHeartbeats 1000000 in
theorem insert_end (B b n cap vb vc : Nat) (hs : List Value) (A : Option Addr) (x : List Nat) (c : Nat) (w : World) (K : Cs) (hown : w.ownsRow B 23 1 (.slice (some ⟨b, 0, none⟩) n cap) n hs) (hnb : n ≤ 1000)
    (hv : w.cell? ⟨vb, 0, none⟩ = some (.slice A x.length c)) :
    Calls Tryz.prog 120 #[.slice (some ⟨b, 0, none⟩) n cap, .int .i64 n, .slice (some ⟨vb, 0, none⟩) 1 vc] w (InsOut w B b n n K hs A x c) := by
  obtain ⟨i0, hi0, hz0, hz1, hz2⟩ := info_split Tryz.info23
  have hB : B ≤ b ∧ b < w.heap.size := hown.lt b rfl
  have hcap : n ≤ cap ∧ cap ≤ maxLen := by
    rcases hown.2 with ⟨h, _⟩ | ⟨g', cap', cur, hv, h1, h2, h3, h4, _⟩
    · cases h
    · injection hv with _ _ h5
      subst h5
      exact ⟨h3, h4⟩
  have HE : Hid (insV hs n (.slice A x.length c) = hs ++ [.slice A x.length c]) := Lib.hid (insV_end _ (by have := hown.1; omega))
  obtain ⟨g', cap', w', hr, hown5, hgr5, hat5, hlt5, hkept5⟩ := run_append_kept (P := Tryz.prog) w 125 158 B 23 i0 _ 1 24 Tryz.underlying125 hi0 hz0 hz1 hz2 rfl (by omega) (.slice (some ⟨b, 0, none⟩) n cap) n hs hown ⟨vb, 0, none⟩ 1 vc [.slice A x.length c] rfl (fun j u hj => by
    match j, hj with
    | 0, hj => simp at hj; subst hj; exact hv
    | j + 1, hj => simp at hj) (by simp [Value.oneCell']) (by omega) (by simp [maxLen]; omega) (by omega) (by omega)
  rw [← append_as (P := Tryz.prog) (t := 158) Tryz.underlying158 Tryz.underlying125] at hr
  have HOut : Hid (InsOut w B b n n K hs A x c (.returned (.slice (some ⟨g', 0, none⟩) (n + 1) cap')) w') := Lib.hid ⟨g', cap', rfl, by rw [HE.out]; exact hown5, (Below.refl B w).grown hgr5 (by omega) (fun j hj => by simp [Value.ownBlock] at hj; omega), fun k h1 h2 => hgr5.block k h1 (by simp [Value.ownBlock]; exact h2), by
    rcases hat5 with h | h
    · simp [Value.ownBlock] at h; exact .inl h.symm
    · exact .inr (by omega)⟩
  have HR := hr
  have hc63 : cap ≤ 9223372036854775807 := by have := hcap.2; unfold maxLen at this; omega
  have hnc := hcap.1
  clear hr hown5 hgr5 hat5 hlt5 hkept5 hi0 hz0 hz1 hz2 hown hv hcap
  go_enter Tryz.func120, Tryz.ntmps120
  go_wp2_with (at_builtin; refine Lib.wpList_append_run _ rfl _ _ _ _ rfl _ _ rfl rfl _ _ HR ?_)
  all_goals (go_ret; exact HOut.out)

theorem overlaps_no (w : World) (vb b o lb cb vc m : Nat) (hvb : vb ≠ b) {cv cb' : Array Value} {tv tb : TypeId} (hv : Row w vb tv cv) (hb : Row w b tb cb') (hk : cb'.size ≠ 0) :
    (callFunc 124 #[.slice (some ⟨vb, 0, none⟩) m vc, .slice (some ⟨b, o, none⟩) lb cb]).run Tryz.prog w = .ok (.value (.bool false)) w := by
  obtain ⟨i0, hi0, hz0, hz1, hz2⟩ := info_split Tryz.info23
  have hsz : ∀ w, (Go.sizeOf 23).run Tryz.prog w = .ok 1 w := fun w => by simp [Go.sizeOf, typeInfo, hi0, hz1]
  have s1 : w.shape? vb = some (tv, cv.size) := by unfold Row at hv; simp [World.shape?, hv]
  have s2 : w.shape? b = some (tb, cb'.size) := by unfold Row at hb; simp [World.shape?, hb]
  rw [run_callFunc_extern Tryz.func124 (by kernel_rfl) (by kernel_rfl) (by kernel_rfl) (e := Extern.SlicesOverlaps.overlaps #[125, 125] #[4]) (by kernel_rfl),
    Lib.run_overlaps_apart w 125 4 23 Tryz.underlying125 1 hsz ⟨vb, 0, none⟩ ⟨b, o, none⟩ m vc lb cb hvb tv tb _ _ s1 s2 hk (hv.frozen 0) (hv.frozen _)]
  rfl
theorem own_parts {w : World} {B b n cap : Nat} {t : TypeId} {hs : List Value} (h : w.ownsRow B t 1 (.slice (some ⟨b, 0, none⟩) n cap) n hs) : ∃ cur, Row w b t cur ∧ B ≤ b ∧ n ≤ cap ∧ cap ≤ maxLen ∧ cur.size = cap ∧ hs.length = n ∧ ∀ j, j < n → cur[j]? = hs[j]? := by
  have hl := h.1
  rcases h.2 with ⟨h, _⟩ | ⟨g', cap', cur, hv, h1, h2, h3, h4, h5, h6⟩
  · cases h
  · injection hv with e1 _ e3
    injection e1 with e1
    injection e1 with e1
    subst e1 e3
    refine ⟨cur, h2, h1, h3, h4, by omega, by omega, fun j hj => ?_⟩
    rw [← h6, List.getElem?_take, if_pos (by omega), Array.getElem?_toList]

set_option maxRecDepth 10000 in
set_option maxHeartbeats 1000000 in
theorem insert_shift (B b n cap vb vc i : Nat) (hs : List Value) (A : Option Addr) (x : List Nat) (c : Nat) (w : World) (K : Cs) (hown : w.ownsRow B 23 1 (.slice (some ⟨b, 0, none⟩) n cap) n hs) (hnb : n ≤ 1000) (hi : i < n) (hroom : n + 1 ≤ cap)
    (hvr : Row w vb 23 #[.slice A x.length c]) (hvb : vb ≠ b) (h1s : ∀ v ∈ hs, v.oneCell' = true) :
    Calls Tryz.prog 120 #[.slice (some ⟨b, 0, none⟩) n cap, .int .i64 i, .slice (some ⟨vb, 0, none⟩) 1 vc] w (InsOut w B b n i K hs A x c) := by
  obtain ⟨cur, hrow, hBb, hnc, hcm, hcs, hhl, hget⟩ := own_parts hown
  obtain ⟨i0, hi0, hz0, hz1, hz2⟩ := info_split Tryz.info23
  have hsz : (Tryz.prog.info? 23).map (·.size) = some 1 := by rw [hi0]; simp [hz1]
  have hbl := hrow.lt
  have hcell : ∀ j, j < n → ∀ v, hs[j]? = some v → w.cell? ⟨b, j, none⟩ = some v := fun j hj v h => by rw [hrow.cell, hget j hj]; exact h
  -- the first copy: what stands from i on, one place up
  have hcp1 : ∀ (W : World), Row W b 23 cur → ∀ ty dc sc, (Builtin.copy_ #[158, 158] ty #[.slice (some ⟨b, i + 1, none⟩) (n - i) dc, .slice (some ⟨b, i, none⟩) (n + 1 - i) sc]).run Tryz.prog W = .ok (goInt (hs.drop i).length) (W.setCells b (i + 1) (hs.drop i)) := fun W hW ty dc sc =>
    run_copy_cells W _ _ ty 23 b (i + 1) (n - i) dc ⟨b, i, none⟩ (n + 1 - i) sc (hs.drop i) Tryz.underlying158 hsz (by rw [List.length_drop, hhl]; simp only [Nat.min_def]; split <;> omega)
      (fun j v hj => by
        rw [List.getElem?_drop] at hj
        have hjn : i + j < n := by have := (List.getElem?_eq_some_iff.1 hj).1; omega
        rw [Addr.add_lit, hW.cell, hget _ hjn]; exact hj)
      (fun j hj => by rw [List.length_drop] at hj; rw [hW.cell, Array.getElem?_eq_getElem (by omega)]; rfl) (fun j hj => hW.frozen _) (fun v hv => h1s v (List.mem_of_mem_drop hv))
  have hcp2 : ∀ (W : World), Row W vb 23 #[.slice A x.length c] → Row W b 23 (setL cur (i + 1) (hs.drop i)) → ∀ ty dc, (Builtin.copy_ #[158, 125] ty #[.slice (some ⟨b, i, none⟩) (n + 1 - i) dc, .slice (some ⟨vb, 0, none⟩) 1 vc]).run Tryz.prog W = .ok (goInt [Value.slice A x.length c].length) (W.setCells b i [.slice A x.length c]) := fun W hV hW ty dc =>
    run_copy_cells W _ _ ty 23 b i (n + 1 - i) dc ⟨vb, 0, none⟩ 1 vc [.slice A x.length c] Tryz.underlying158 hsz (by simp only [Nat.min_def]; split <;> simp <;> omega)
      (fun j v hj => by
        match j, hj with
        | 0, hj => rw [Addr.add_lit, hV.cell]; exact hj
        | j + 1, hj => simp at hj)
      (fun j hj => by simp at hj; rw [hW.cell, Array.getElem?_eq_getElem (by rw [setL_size]; omega)]; rfl) (fun j hj => hW.frozen _) (by simp [Value.oneCell'])
  have HR1 := Lib.hid hrow
  have HV1 := Lib.hid hvr
  have hR2 : Row (w.drew.setCells b (i + 1) (hs.drop i)) b 23 (setL cur (i + 1) (hs.drop i)) := Row.setCells _ _ (w := w.drew) hrow
  have hV2 : Row (w.drew.setCells b (i + 1) (hs.drop i)) vb 23 #[.slice A x.length c] := (heap_setCells hvb _ _ _).trans hvr
  have hov : ∀ lb cb, (callFunc 124 #[.slice (some ⟨vb, 0, none⟩) 1 vc, .slice (some ⟨b, i + 1, none⟩) lb cb]).run Tryz.prog w = .ok (.value (.bool false)) w := fun lb cb => overlaps_no w vb b (i + 1) lb cb vc 1 hvb hvr hrow (by omega)
  have HOut : Hid (InsOut w B b n i K hs A x c (.returned (.slice (some ⟨b, 0, none⟩) (n + 1) cap)) ((w.drew.setCells b (i + 1) (hs.drop i)).setCells b i [.slice A x.length c])) := Lib.hid (by
    refine ⟨b, cap, rfl, own_of_row (Row.setCells _ _ hR2) hBb (by rw [setL_size, setL_size]; exact hcs) hroom hcm (by rw [insV_len _ (by omega), hhl]) (fun j hj => ?_), below_setCells hBb _ _ (below_setCells hBb _ _ (Below.refl B w).drew), fun k h1 h2 => (heap_setCells h2 _ _ _).trans (heap_setCells h2 _ _ _), .inl rfl⟩
    rw [setL_get _ _ _ _ (by rw [setL_size]; omega), setL_get _ _ _ _ (by omega), insV_get _ (by omega)]
    by_cases h1 : j < i
    · rw [if_neg (by simp; omega), if_neg (by omega), if_pos h1, hget j (by omega)]
    · by_cases h2 : j = i
      · subst h2
        rw [if_pos (by simp), if_neg h1, if_pos rfl]
        simp
      · rw [if_neg (by simp; omega), if_pos (by rw [List.length_drop]; omega), if_neg h1, if_neg h2, List.getElem?_drop]
        congr 1
        omega)
  have hc63 : cap ≤ 9223372036854775807 := by unfold maxLen at hcm; omega
  have hcpA := hcp1 w.drew hrow
  have hcpB := hcp2 _ hV2 hR2
  have hz2' : ¬ ((i : Int) = (n : Int)) := by omega
  have hw1 : IntKind.i64.wrap ((i : Int) + 1) = (i : Int) + 1 := IntWalk.i64_in _ (by omega)
  have hb1 : (0 : Int) ≤ (i : Int) + 1 := by omega
  have htn : ((i : Int) + 1).toNat = i + 1 := by omega
  have hb2 : ¬ (cap = i + 1) := by omega
  have hb3 : (i : Int) ≤ (n : Int) + 1 := by omega
  have hb4 : ¬ (cap = i) := by omega
  have hin : i ≤ n := by omega
  clear hcell hcp1 hcp2 hR2 hV2 hget hown hrow hvr h1s hi0 hz0 hz1 hz2 hsz hcm
  obtain ⟨W1, hW1⟩ : ∃ W1, W1 = w.drew.setCells b (i + 1) (hs.drop i) := ⟨_, rfl⟩
  rw [← hW1] at hcpA hcpB HOut
  clear hW1
  go_enter Tryz.func120, Tryz.ntmps120
  go_wp2_with (simp only [hov])
  go_region_law (refine step_copy_runI rfl _ _ 158 158 rfl _ _ (by simp [Act.eval, Act.put]) (by simp [Act.eval, Act.put]) (hcpA _ _ _) ?_)
  go_wp2_with (at_builtin; refine wpList_copy_runI _ rfl _ _ 158 125 rfl _ _ rfl rfl (hcpB _ _) ?_)
  go_ret
  exact HOut.out

set_option maxRecDepth 10000 in
set_option maxHeartbeats 1000000 in
theorem insert_grow (B b n cap vb vc i : Nat) (hs : List Value) (A : Option Addr) (x : List Nat) (c : Nat) (w : World) (K : Cs) (hown : w.ownsRow B 23 1 (.slice (some ⟨b, 0, none⟩) n cap) n hs) (hnb : n ≤ 1000) (hi : i < n) (hroom : cap < n + 1)
    (hvr : Row w vb 23 #[.slice A x.length c]) (h1s : ∀ v ∈ hs, v.oneCell' = true) :
    Calls Tryz.prog 120 #[.slice (some ⟨b, 0, none⟩) n cap, .int .i64 i, .slice (some ⟨vb, 0, none⟩) 1 vc] w (InsOut w B b n i K hs A x c) := by
  obtain ⟨cur, hrow, hBb, hnc, hcm, hcs, hhl, hget⟩ := own_parts hown
  obtain rfl : cap = n := by omega
  obtain ⟨i0, hi0, hz0, hz1, hz2⟩ := info_split Tryz.info23
  have hsz : (Tryz.prog.info? 23).map (·.size) = some 1 := by rw [hi0]; simp [hz1]
  have hbl := hrow.lt
  have hvl := hvr.lt
  have hold : (Builtin.firstCells i0.size i (.slice (some ⟨b, 0, none⟩) i cap)).run Tryz.prog w.drew = .ok (hs.take i).toArray w.drew := by
    rw [hz1]
    exact run_firstCells_some w.drew 1 i ⟨b, 0, none⟩ i cap (hs.take i) (by rw [List.length_take]; omega) (fun j v hj => by
      rw [List.getElem?_take] at hj
      split at hj
      · next h =>
        rw [Addr.add_lit]
        show w.cell? _ = _
        rw [Nat.zero_add, hrow.cell, hget j (by omega)]; exact hj
      · cases hj)
  have hkk : (cap : Int) + 1 - (i : Int) = ((cap + 1 - i : Nat) : Int) := by omega
  have hik : i + (cap + 1 - i) = cap + 1 := by omega
  obtain ⟨G, hG⟩ : ∃ G, G = grownCap w (cap + 1) cap 23 := ⟨_, rfl⟩
  have hGn : cap + 1 ≤ G := by rw [hG]; exact grownCap_ge w _ _ _
  have hGm : G ≤ maxLen := by rw [hG]; exact grownCap_le_maxLen w (cap + 1) cap _ (by unfold maxLen; omega)
  obtain ⟨ROW, hROW⟩ : ∃ ROW : Array Value, ROW = (hs.take i).toArray ++ Builtin.zeroCells (Value.slice none 0 0).cells (cap + 1 - i) ++ Builtin.zeroCells (Value.slice none 0 0).cells (G - (cap + 1)) := ⟨_, rfl⟩
  have hrz : ∀ ty, (Builtin.append_ #[158, 3] ty #[.slice (some ⟨b, 0, none⟩) i cap, .int .i64 ((cap : Int) + 1 - (i : Int))]).run Tryz.prog w =
      .ok (.slice (some ⟨w.heap.size, 0, none⟩) (cap + 1) G) (w.drew.alloc (.cells ROW 23)) := fun ty => by
    have h := Lib.run_append_grow_zeros (P := Tryz.prog) w 158 3 ty 23 i0 _ .i64 .i64 Tryz.underlying158 Tryz.underlying3 hi0 hz0 (some ⟨b, 0, none⟩) i cap (hs.take i) hold (cap + 1 - i) (by omega) (by omega) (by omega) (by omega) (by rw [hz2]; omega) (by rw [hz2, hik]; exact growslice_fits hroom (by omega))
    rw [hik, ← hG] at h
    rw [hkk, hROW]
    exact h
  have hzc : (Value.slice none 0 0).cells.size = 1 := rfl
  have hRs : ROW.size = G := by
    rw [hROW]
    simp only [Builtin.zeroCells, hzc, Array.size_append, Array.size_map, Array.size_range, List.size_toArray, List.length_take]
    omega
  have hRg : ∀ j, j < i → ROW[j]? = hs[j]? := fun j hj => by
    rw [hROW, Array.append_assoc, Array.getElem?_append_left (by simp; omega)]
    simp [hj]
  have hbz : b ≠ w.heap.size := by omega
  have hvz : vb ≠ w.heap.size := by omega
  have hrN : Row (w.drew.alloc (.cells ROW 23)) w.heap.size 23 ROW := heap_alloc_new w.drew _
  have hrB : Row (w.drew.alloc (.cells ROW 23)) b 23 cur := (Below.heap_alloc _ _ _ hbl).trans hrow
  have hrV : Row (w.drew.alloc (.cells ROW 23)) vb 23 #[.slice A x.length c] := (Below.heap_alloc _ _ _ hvl).trans hvr
  have hcpA : ∀ (W : World), Row W w.heap.size 23 ROW → Row W vb 23 #[.slice A x.length c] → ∀ ty dc, (Builtin.copy_ #[158, 125] ty #[.slice (some ⟨w.heap.size, i, none⟩) (cap + 1 - i) dc, .slice (some ⟨vb, 0, none⟩) 1 vc]).run Tryz.prog W = .ok (goInt [Value.slice A x.length c].length) (W.setCells w.heap.size i [.slice A x.length c]) := fun W hW hV ty dc =>
    run_copy_cells W _ _ ty 23 w.heap.size i (cap + 1 - i) dc ⟨vb, 0, none⟩ 1 vc [.slice A x.length c] Tryz.underlying158 hsz (by simp only [Nat.min_def]; split <;> simp <;> omega)
      (fun j v hj => by
        match j, hj with
        | 0, hj => rw [Addr.add_lit, hV.cell]; exact hj
        | j + 1, hj => simp at hj)
      (fun j hj => by simp at hj; rw [hW.cell, Array.getElem?_eq_getElem (by omega)]; rfl) (fun j hj => hW.frozen _) (by simp [Value.oneCell'])
  have hcpB : ∀ (W : World), Row W w.heap.size 23 (setL ROW i [.slice A x.length c]) → Row W b 23 cur → ∀ ty dc sc, (Builtin.copy_ #[158, 158] ty #[.slice (some ⟨w.heap.size, i + 1, none⟩) (cap - i) dc, .slice (some ⟨b, i, none⟩) (cap - i) sc]).run Tryz.prog W = .ok (goInt (hs.drop i).length) (W.setCells w.heap.size (i + 1) (hs.drop i)) := fun W hW hV ty dc sc =>
    run_copy_cells W _ _ ty 23 w.heap.size (i + 1) (cap - i) dc ⟨b, i, none⟩ (cap - i) sc (hs.drop i) Tryz.underlying158 hsz (by rw [List.length_drop, hhl]; simp only [Nat.min_def]; split <;> omega)
      (fun j v hj => by
        rw [List.getElem?_drop] at hj
        have hjn : i + j < cap := by have := (List.getElem?_eq_some_iff.1 hj).1; omega
        rw [Addr.add_lit, hV.cell, hget _ hjn]; exact hj)
      (fun j hj => by rw [List.length_drop] at hj; rw [hW.cell, Array.getElem?_eq_getElem (by rw [setL_size]; omega)]; rfl) (fun j hj => hW.frozen _) (fun v hv => h1s v (List.mem_of_mem_drop hv))
  obtain ⟨W1, hW1⟩ : ∃ W1, W1 = w.drew.alloc (.cells ROW 23) := ⟨_, rfl⟩
  have hb1 : Below B w W1 := by rw [hW1]; exact (Below.refl B w).drew.alloc (by show B ≤ w.heap.size; omega) _
  have hk1 : ∀ k, k < w.heap.size → W1.heap[k]? = w.heap[k]? := fun k hk => by rw [hW1]; exact Below.heap_alloc _ _ _ hk
  rw [← hW1] at hrz hrN hrB hrV
  clear hW1
  have hA := hcpA W1 hrN hrV
  obtain ⟨W2, hW2⟩ : ∃ W2, W2 = W1.setCells w.heap.size i [.slice A x.length c] := ⟨_, rfl⟩
  have hrN2 : Row W2 w.heap.size 23 (setL ROW i [.slice A x.length c]) := by rw [hW2]; exact Row.setCells _ _ hrN
  have hrB2 : Row W2 b 23 cur := by rw [hW2]; exact (heap_setCells hbz _ _ _).trans hrB
  have hb2 : Below B w W2 := by rw [hW2]; exact below_setCells (by omega) _ _ hb1
  have hk2 : ∀ k, k < w.heap.size → W2.heap[k]? = w.heap[k]? := fun k hk => by rw [hW2, heap_setCells (by omega)]; exact hk1 k hk
  rw [← hW2] at hA
  clear hW2
  have hBB := hcpB W2.drew hrN2 hrB2
  have HOut : Hid (InsOut w B b cap i K hs A x c (.returned (.slice (some ⟨w.heap.size, 0, none⟩) (cap + 1) G)) (W2.drew.setCells w.heap.size (i + 1) (hs.drop i))) := Lib.hid (by
    refine ⟨w.heap.size, G, rfl, own_of_row (Row.setCells _ _ (w := W2.drew) hrN2) (by omega) (by rw [setL_size, setL_size]; exact hRs) hGn hGm (by rw [insV_len _ (by omega), hhl]) (fun j hj => ?_), below_setCells (by omega) _ _ hb2.drew, fun k h1 h2 => (heap_setCells (by omega) _ _ _).trans (hk2 k h1), .inr (Nat.le_refl _)⟩
    rw [setL_get _ _ _ _ (by rw [setL_size]; omega), setL_get _ _ _ _ (by omega), insV_get _ (by omega)]
    by_cases h1 : j < i
    · rw [if_neg (by omega), if_neg (by simp; omega), if_pos h1, hRg j h1]
    · by_cases h2 : j = i
      · subst h2
        rw [if_neg (by omega), if_pos (by simp), if_neg h1, if_pos rfl]
        simp
      · rw [if_pos (by rw [List.length_drop]; omega), if_neg h1, if_neg h2, List.getElem?_drop]
        congr 1
        omega)
  have hG63 : G ≤ 9223372036854775807 := by unfold maxLen at hGm; omega
  have hz2' : ¬ ((i : Int) = (cap : Int)) := by omega
  have hz3 : (cap : Int) < (cap : Int) + 1 := by omega
  have hw1 : IntKind.i64.wrap ((i : Int) + 1) = (i : Int) + 1 := IntWalk.i64_in _ (by omega)
  have hx1 : (0 : Int) ≤ (i : Int) + 1 := by omega
  have htn : ((i : Int) + 1).toNat = i + 1 := by omega
  have hx2 : ¬ (G = i + 1) := by omega
  have hx4 : ¬ (G = i) := by omega
  have hx5 : ¬ (cap = i) := by omega
  have hin : i ≤ cap := by omega
  have hx6 : (i : Int) ≤ (cap : Int) := by omega
  clear hcpA hcpB hrN hrB hrV hrN2 hrB2 hb1 hb2 hk1 hk2 hget hown hrow hvr h1s hi0 hz0 hz1 hz2 hsz hcm hGm hkk hik hold hROW hG hRs hRg hzc
  go_enter Tryz.func120, Tryz.ntmps120
  go_wp2_with (first
    | (at_builtin; refine Lib.wpList_append_run _ rfl _ _ _ _ rfl _ _ rfl rfl _ _ (hrz _) ?_)
    | (at_builtin; refine wpList_copy_runI _ rfl _ _ 158 125 rfl _ _ rfl rfl (hA _ _) ?_))
  go_region_law (refine step_copy_runI rfl _ _ 158 158 rfl _ _ (by simp [Act.eval, Act.put]) (by simp [Act.eval, Act.put]) (hBB _ _ _) ?_)
  go_wp2
  go_ret
  exact HOut.out
end Go.Proofs.YtliedgaefgomjaaGreat
/- The contract of the program's insertion into sorted lists. -/
namespace Go.Proofs.YtliedgaefgomjaaGreat
open Go.RowKit Go.Deep Cut

theorem ListIn.at2 {w : World} {S : Nat → Prop} {A : Option Addr} {xs : Cs} {B : Nat} (h : ListIn w S A xs) (hS : ∀ b, S b → b < B) : ListAt w B A xs := h.kept (fun _ _ => rfl) hS
theorem IntsIn.at2 {w : World} {S : Nat → Prop} {A : Option Addr} {xs : List Int} {B : Nat} (h : IntsIn w S A xs) (hS : ∀ b, S b → b < B) : IntsAt w B A xs := h.kept (fun _ _ => rfl) hS
theorem getD_memC {xs : Cs} {k : Nat} (hk : k < xs.length) : xs.getD k [] ∈ xs := by
  rw [List.getD_eq_getElem?_getD, List.getElem?_eq_getElem hk]
  exact List.getElem_mem hk
theorem Hdrs.one {w : World} {S : Nat → Prop} {hs : List Value} {K : Cs} (h : Hdrs w S hs K) : ∀ v ∈ hs, v.oneCell' = true := fun v hv => by
  obtain ⟨k, hk, e⟩ := List.mem_iff_getElem.1 hv
  obtain ⟨A, cap, e2, _⟩ := h.2 k (by have := h.1; omega)
  rw [List.getElem?_eq_getElem hk] at e2
  injection e2 with e2
  rw [← e, e2]
  rfl
theorem insert_any (B b n cap vb vc i : Nat) (hs : List Value) (A : Option Addr) (x : List Nat) (c : Nat) (w : World) (K : Cs) (hown : w.ownsRow B 23 1 (.slice (some ⟨b, 0, none⟩) n cap) n hs) (hnb : n ≤ 1000) (hi : i ≤ n)
    (hvr : Row w vb 23 #[.slice A x.length c]) (hvb : vb ≠ b) (h1s : ∀ v ∈ hs, v.oneCell' = true) :
    Calls Tryz.prog 120 #[.slice (some ⟨b, 0, none⟩) n cap, .int .i64 i, .slice (some ⟨vb, 0, none⟩) 1 vc] w (InsOut w B b n i K hs A x c) := by
  by_cases h1 : i = n
  · subst h1
    exact insert_end B b i cap vb vc hs A x c w K hown hnb (hvr.cell 0)
  · by_cases h2 : n + 1 ≤ cap
    · exact insert_shift B b n cap vb vc i hs A x c w K hown hnb (by omega) h2 hvr hvb h1s
    · exact insert_grow B b n cap vb vc i hs A x c w K hown hnb (by omega) (by omega) hvr h1s
theorem Row.ne {w : World} {a b : Nat} {t t' : TypeId} {cs cs' : Array Value} (h : Row w a t cs) (h' : Row w b t' cs') (ht : t ≠ t') : a ≠ b := fun e => by
  subst e
  unfold Row at h h'
  rw [h] at h'
  injection h' with h'
  injection h' with _ h'
  exact ht h'
/-- Lists lie elsewhere than a block of another type. -/
theorem LeafIn.off {w : World} {S T : Nat → Prop} {A : Option Addr} {x : List Nat} {g : Nat} {t : TypeId} {cs : Array Value} (h : LeafIn w S A x) (hg : Row w g t cs) (ht : t ≠ 3) (hT : ∀ b, S b → b ≠ g → T b) : LeafIn w T A x := by
  rcases h with h | ⟨b, cs', e, hs, hr, hc⟩
  · exact .inl h
  · exact .inr ⟨b, cs', e, hT b hs (hr.ne hg (Ne.symm ht)), hr, hc⟩
theorem Hdrs.off {w : World} {S T : Nat → Prop} {hs : List Value} {K : Cs} {g : Nat} {t : TypeId} {cs : Array Value} (h : Hdrs w S hs K) (hg : Row w g t cs) (ht : t ≠ 3) (hT : ∀ b, S b → b ≠ g → T b) : Hdrs w T hs K := ⟨h.1, fun k hk => by
  obtain ⟨A, cap, e, hx⟩ := h.2 k hk
  exact ⟨A, cap, e, hx.off hg ht hT⟩⟩
theorem LstAt.row {w : World} {B g cap : Nat} {xs : Cs} {hs : List Value} (h : LstAt w B xs hs g cap) : ∃ cur, Row w g 23 cur := by
  obtain ⟨cur, hr, _⟩ := own_parts h.1
  exact ⟨cur, hr⟩
/-- A list of lists beside which another block has turned. -/
theorem LstAt.beside {w w' : World} {B g cap g2 : Nat} {xs : Cs} {hs : List Value} {t : TypeId} {cs : Array Value} (h : LstAt w B xs hs g cap) (hne : g ≠ g2) (h2 : Row w g2 t cs) (ht : t ≠ 3) (hsame : ∀ b, b < w.heap.size → b ≠ g2 → w'.heap[b]? = w.heap[b]?) (hsz : w.heap.size ≤ w'.heap.size) : LstAt w' B xs hs g cap :=
  ⟨ownsRow_keep h.1 (hsame g h.gb.2 hne), (h.2.off (T := fun b => Off w B g b ∧ b ≠ g2) h2 ht (fun _ h1 h2 => ⟨h1, h2⟩)).kept (fun b hb => hsame b hb.1.2.1 hb.2) (fun b hb => Off.on hsz b hb.1)⟩
theorem LeafIn.beside {w w' : World} {S T : Nat → Prop} {A : Option Addr} {x : List Nat} {g2 : Nat} {t : TypeId} {cs : Array Value} (h : LeafIn w S A x) (h2 : Row w g2 t cs) (ht : t ≠ 3) (hS : ∀ b, S b → b < w.heap.size) (hsame : ∀ b, b < w.heap.size → b ≠ g2 → w'.heap[b]? = w.heap[b]?) (hT : ∀ b, S b → T b) : LeafIn w' T A x :=
  (h.off (T := fun b => S b ∧ b ≠ g2) h2 ht (fun _ h1 h2 => ⟨h1, h2⟩)).kept (fun b hb => hsame b (hS b hb.1) hb.2) (fun b hb => hT b hb.1)

/-- What is known of the sorted lists. -/
structure Sorted (w : World) (B kb : Nat) (K : Cs) (hk : List Value) (gk ck : Nat) : Prop where
  lst : LstAt w B K hk gk ck
  box : Row w kb 158 #[.slice (some ⟨gk, 0, none⟩) K.length ck]
  ls : LS K
  fit : ∀ x, x ∈ K → x.length ≤ 3
def InMOut (w : World) (B kb gk : Nat) (K : Cs) (x : List Nat) (e : Ending) (w' : World) : Prop :=
  (x ∈ K ∧ e = .returned (.bool false) ∧ w = w') ∨
  (x ∉ K ∧ e = .returned (.bool true) ∧ Below B w w' ∧ (∀ k, k < w.heap.size → k ≠ gk → k ≠ kb → w'.heap[k]? = w.heap[k]?) ∧
    ∃ K' hk' gk' ck', Sorted w' B kb K' hk' gk' ck' ∧ (∀ z, z ∈ K' ↔ z ∈ K ∨ z = x) ∧ K'.length = K.length + 1 ∧ (gk' = gk ∨ w.heap.size ≤ gk'))

set_option maxHeartbeats 1000000 in
theorem insM_any (B kb gk ck c : Nat) (K : Cs) (hk : List Value) (A : Option Addr) (x : List Nat) (w : World) (hS : Sorted w B kb K hk gk ck) (hkb : B ≤ kb) (hn : K.length ≤ 100) (hx3 : x.length ≤ 3) (hx : LeafIn w (From w B) A x) :
    Calls Tryz.prog 112 #[.pointer (some ⟨kb, 0, none⟩), .slice A x.length c] w (InMOut w B kb gk K x) := by
  obtain ⟨cur, hrow⟩ := hS.lst.row
  have hgk := hS.lst.gb
  have hkl := hS.box.lt
  have hne : gk ≠ kb := hrow.ne hS.box (by decide)
  have hbox := hS.box.cell 0
  simp at hbox
  have HS := Lib.hid hS
  have HX := Lib.hid hx
  have HR := Lib.hid hrow
  have HLK : Hid (ListAt w w.heap.size (some ⟨gk, 0, none⟩) K) := Lib.hid (ListIn.at2 (own_row (T := fun b => b < w.heap.size) hS.lst.1 hS.lst.2 (fun b hb => hb.2.1) hgk.2).lists (fun _ h => h))
  have HIX : Hid (IntsAt w w.heap.size A (Opt.intL x)) := Lib.hid (IntsIn.at2 hx.ints (fun b hb => hb.2))
  clear hS hx hrow
  go_enter Tryz.func112, Tryz.ntmps112
  go_wp2_with fail
  refine (search_any (some ⟨gk, 0, none⟩) A K.length x.length ck c K x _ HLK.out HIX.out rfl rfl (by omega) (by omega) (fun k hk => by have := HS.out.fit _ (getD_memC hk); omega) HS.out.ls).mono ?_
  rintro e w1 ⟨⟨p, hp, rfl⟩, rfl⟩
  have HP := Lib.hid hp
  have hpl := hp.le
  clear hp
  cases hd : decide (x ∈ K) with
  | true =>
    have HD := Lib.hid hd
    clear hd
    go_wp2
    go_ret
    exact .inl ⟨by simpa using HD.out, rfl, rfl⟩
  | false =>
    have HD : Hid (x ∉ K) := Lib.hid (by simpa using hd)
    clear hd
    have hb1 : Below B w (w.alloc (.cells #[.slice A x.length c] 23)) := (Below.refl B w).alloc (by omega) _
    have hbw : Below w.heap.size w (w.alloc (.cells #[.slice A x.length c] 23)) := (Below.refl _ w).alloc (Nat.le_refl _) _
    have HB1 := Lib.hid hb1
    have HK1 : Hid (∀ k, k < w.heap.size → (w.alloc (.cells #[.slice A x.length c] 23)).heap[k]? = w.heap[k]?) := Lib.hid (fun k hk => hbw.block k hk)
    have HL1 := Lib.hid (HS.out.lst.on hbw)
    have HV1 : Hid (Row (w.alloc (.cells #[.slice A x.length c] 23)) w.heap.size 23 #[.slice A x.length c]) := Lib.hid (heap_alloc_new w _)
    have HX1 := Lib.hid (HX.out.kept (T := From w B) (fun b hb => hbw.block b hb.2) (fun _ h => h))
    have hz1 : (w.alloc (.cells #[.slice A x.length c] 23)).heap.size = w.heap.size + 1 := by simp
    have HBX1 := Lib.hid (HS.out.box.below hbw hkl)
    have HR1 := Lib.hid (HR.out.below hbw hgk.2)
    clear hb1 hbw
    go_wp2_with fail
    generalize w.alloc (.cells #[.slice A x.length c] 23) = w2 at *
    refine (insert_any B gk K.length ck w.heap.size 1 p hk A x c _ K HL1.out.1 (by omega) hpl HV1.out (by omega) HL1.out.2.one).mono ?_
    rintro e w3 ⟨b', cap', rfl, hown3, hb3, hk3, hor3⟩
    have hbx3 : Row w3 kb 158 #[.slice (some ⟨gk, 0, none⟩) K.length ck] := (hk3 kb (by omega) (fun e => hne e.symm)).trans HBX1.out
    have y0 := hbx3.cell 0
    have x0 := hbx3.frozen 0
    simp at y0
    have HBX3 := Lib.hid hbx3
    have HO3 := Lib.hid hown3
    have HB3 := Lib.hid hb3
    have HK3 := Lib.hid hk3
    clear hbx3 hown3 hb3 hk3
    have hkl' : (K.take p ++ [x] ++ K.drop p).length = K.length + 1 := by simp; omega
    have hbk : b' ≠ kb := by
      rcases hor3 with h | h
      · rw [h]; exact hne
      · omega
    have hz3 : w2.heap.size ≤ w3.heap.size := HB3.out.size
    have hHd : Hdrs w3 (Off w3 B b') (insV hk p (.slice A x.length c)) (K.take p ++ [x] ++ K.drop p) :=
      (HL1.out.2.ins hpl (HX1.out.off (T := Off w2 B gk) HR1.out (by decide) (fun b h1 h2 => ⟨h1.1, by have := h1.2; omega, h2⟩))).kept (fun b hb => HK3.out b hb.2.1 hb.2.2) (fun b hb => ⟨hb.1, by have := hb.2.1; omega, by
        rcases hor3 with h | h
        · rw [h]; exact hb.2.2
        · have := hb.2.1; omega⟩)
    have hL3 : LstAt w3 B (K.take p ++ [x] ++ K.drop p) (insV hk p (.slice A x.length c)) b' cap' := ⟨by rw [hkl']; exact HO3.out, hHd⟩
    have HL4 := Lib.hid (hL3.beside (w' := w3.setCell ⟨kb, 0, none⟩ (.slice (some ⟨b', 0, none⟩) (K.length + 1) cap')) hbk HBX3.out (by decide) (fun b h1 h2 => Below.heap_setCell w3 ⟨kb, 0, none⟩ _ b (by exact h2)) (by simp [World.setCell]))
    have hb4 := HBX3.out.set 0 (.slice (some ⟨b', 0, none⟩) (K.length + 1) cap')
    have HB4 : Hid (Row (w3.setCell ⟨kb, 0, none⟩ (.slice (some ⟨b', 0, none⟩) (K.length + 1) cap')) kb 158 #[.slice (some ⟨b', 0, none⟩) (K.take p ++ [x] ++ K.drop p).length cap']) := Lib.hid (by rw [hkl']; simpa using hb4)
    have HKL := Lib.hid hkl'
    have HF : Hid (Below B w (w3.setCell ⟨kb, 0, none⟩ (.slice (some ⟨b', 0, none⟩) (K.length + 1) cap'))) := Lib.hid ((HB1.out.trans HB3.out).setCell (p := ⟨kb, 0, none⟩) hkb _)
    have HK4 : Hid (∀ k, k < w.heap.size → k ≠ gk → k ≠ kb → (w3.setCell ⟨kb, 0, none⟩ (.slice (some ⟨b', 0, none⟩) (K.length + 1) cap')).heap[k]? = w.heap[k]?) := Lib.hid (fun k h1 h2 h3 => (Below.heap_setCell w3 ⟨kb, 0, none⟩ _ k (by exact h3)).trans ((HK3.out k (by omega) h2).trans (HK1.out k h1)))
    have HOR : Hid (b' = gk ∨ w.heap.size ≤ b') := Lib.hid (by
      rcases hor3 with h | h
      · exact .inl h
      · exact .inr (by omega))
    clear hHd hL3 hb4 hkl' hor3
    go_wp2
    go_ret
    exact .inr ⟨HD.out, rfl, HF.out, HK4.out, _, _, _, _, ⟨HL4.out, HB4.out, HP.out.ins HS.out.ls HD.out, fun z hz => by
      rcases (ins_mem z).1 hz with h | h
      · exact HS.out.fit z h
      · rw [h]; exact hx3⟩, fun z => ins_mem z, HKL.out, HOR.out⟩
end Go.Proofs.YtliedgaefgomjaaGreat
