/- The contract of the program's union of two cuts. -/
import Derived.Test.YthcpgbfghededaaC6
import Derived.Lib.OwnBridge
namespace Go.Proofs.Ythcpgbfghededaa
open Go.RowKit Go.Deep Cut Go.Lib Go.Sort

structure CUp (d : Array Int) (m : Nat) : Prop where
  up : (compactUpTo d m).Pairwise (· < ·)
  mem : ∀ z, z ∈ compactUpTo d m ↔ ∃ j, j < m ∧ z = d[j]!
  le : ∀ z, z ∈ compactUpTo d m → 0 < m → z ≤ d[m - 1]!
theorem CUp.all (d : Array Int) (hs : ∀ i, i + 1 < d.size → d[i]! ≤ d[i + 1]!) : ∀ m, m ≤ d.size → CUp d m
  | 0, _ => ⟨by simp [compactUpTo], fun z => by simp [compactUpTo], fun z hz => by simp [compactUpTo] at hz⟩
  | m + 1, hm => by
    have ih := CUp.all d hs m (by omega)
    have hst : 0 < m → d[m - 1]! ≤ d[m]! := fun h => by
      have := hs (m - 1) (by omega)
      rwa [show m - 1 + 1 = m by omega] at this
    by_cases hk : keeps d m = true
    · have e : compactUpTo d (m + 1) = compactUpTo d m ++ [d[m]!] := by rw [compactUpTo_succ, if_pos hk]
      have hne : 0 < m → d[m]! ≠ d[m - 1]! := fun h => by
        simp [keeps] at hk
        rcases hk with h0 | h0
        · omega
        · exact h0
      refine ⟨?_, fun z => ?_, fun z hz _ => ?_⟩
      · rw [e, List.pairwise_append]
        refine ⟨ih.up, by simp, fun a ha b hb => ?_⟩
        simp at hb
        subst hb
        have hpos : 0 < m := by
          obtain ⟨j, hj, _⟩ := (ih.mem a).1 ha
          omega
        have h1 := ih.le a ha hpos
        have h2 := hst hpos
        have h3 := hne hpos
        omega
      · rw [e, List.mem_append, ih.mem]
        constructor
        · rintro (⟨j, hj, e⟩ | h)
          · exact ⟨j, by omega, e⟩
          · simp at h; exact ⟨m, by omega, h⟩
        · rintro ⟨j, hj, ez⟩
          by_cases h : j < m
          · exact .inl ⟨j, h, ez⟩
          · obtain rfl : j = m := by omega
            exact .inr (by simp [ez])
      · rw [e, List.mem_append] at hz
        rw [Nat.add_sub_cancel]
        rcases hz with h | h
        · have hpos : 0 < m := by
            obtain ⟨j, hj, _⟩ := (ih.mem z).1 h
            omega
          have h1 := ih.le z h hpos
          have h2 := hst hpos
          omega
        · simp at h; omega
    · have e : compactUpTo d (m + 1) = compactUpTo d m := by rw [compactUpTo_succ, if_neg hk, List.append_nil]
      have hm0 : 0 < m := by
        rcases Nat.eq_zero_or_pos m with h | h
        · exact absurd (by simp [keeps, h]) hk
        · exact h
      have heq : d[m]! = d[m - 1]! := by
        simp [keeps] at hk
        exact hk.2
      refine ⟨by rw [e]; exact ih.up, fun z => ?_, fun z hz _ => ?_⟩
      · rw [e, ih.mem]
        constructor
        · rintro ⟨j, hj, e⟩
          exact ⟨j, by omega, e⟩
        · rintro ⟨j, hj, ez⟩
          by_cases h : j < m
          · exact ⟨j, h, ez⟩
          · obtain rfl : j = m := by omega
            exact ⟨j - 1, by omega, by rw [ez, heq]⟩
      · rw [e] at hz
        rw [Nat.add_sub_cancel, heq]
        exact ih.le z hz hm0
theorem compact_sorted (l : List Int) (h : l.Pairwise (· ≤ ·)) : (Lib.compact l).Pairwise (· < ·) ∧ ∀ z, z ∈ Lib.compact l ↔ z ∈ l := by
  have hc := CUp.all l.toArray (fun i hi => by
    have hi' : i + 1 < l.length := by simpa using hi
    have := List.pairwise_iff_getElem.1 h i (i + 1) (by omega) hi' (by omega)
    simpa [getElem!_pos, hi', show i < l.length by omega] using this) l.length (by simp)
  refine ⟨hc.up, fun z => ?_⟩
  show z ∈ compactUpTo l.toArray l.length ↔ _
  rw [hc.mem, List.mem_iff_getElem]
  constructor
  · rintro ⟨j, hj, e⟩
    exact ⟨j, hj, by simpa [getElem!_pos, hj] using e.symm⟩
  · rintro ⟨j, hj, e⟩
    exact ⟨j, hj, by simpa [getElem!_pos, hj] using e.symm⟩
theorem union_eq {xs ys : List Nat} (hx : SA xs) (hy : SA ys) : Lib.compact ((Opt.intL (xs ++ ys)).mergeSort fun x y => decide (x ≤ y)) = Opt.intL (merge xs ys) := by
  have hs : ((Opt.intL (xs ++ ys)).mergeSort fun x y => decide (x ≤ y)).Pairwise (· ≤ ·) := by
    have := List.pairwise_mergeSort (le := fun (x y : Int) => decide (x ≤ y)) (fun a b c h1 h2 => by simp at h1 h2 ⊢; omega) (fun a b => by simp; omega) (Opt.intL (xs ++ ys))
    exact this.imp (fun h => by simpa using h)
  obtain ⟨h1, h2⟩ := compact_sorted _ hs
  refine sai_ext h1 (intL_sa (merge_sa xs ys hx hy)) (fun z => ?_)
  rw [h2, List.mem_mergeSort]
  simp only [Opt.intL, List.mem_map]
  constructor
  · rintro ⟨a, ha, e⟩
    exact ⟨a, (merge_mem _ _ _).2 (List.mem_append.1 ha), e⟩
  · rintro ⟨a, ha, e⟩
    exact ⟨a, List.mem_append.2 ((merge_mem _ _ _).1 ha), e⟩
/-- The blocks from B on. -/
def From (w : World) (B b : Nat) : Prop := B ≤ b ∧ b < w.heap.size
def UnOut (w : World) (xs ys : List Nat) (e : Ending) (w' : World) : Prop := ∃ A cap, e = .returned (.slice A (merge xs ys).length cap) ∧ LeafIn w' (From w' w.heap.size) A (merge xs ys) ∧ Below w.heap.size w w'
theorem own_grow {w : World} {B e n : Nat} {v : Value} {hs : List Value} (h : w.ownsRow B e 1 v n hs) (os : Array Obj) : (grow w os).ownsRow B e 1 v n hs := by
  refine ⟨h.1, ?_⟩
  rcases h.2 with h | ⟨g, cap, cur, hv, h1, h2, h3⟩
  · exact .inl h
  · refine .inr ⟨g, cap, cur, hv, h1, ?_, h3⟩
    have hlt := (Array.getElem?_eq_some_iff.1 h2).1
    show (w.heap ++ os)[g]? = _
    rw [Array.getElem?_append_left hlt]
    exact h2
theorem below_grow' {B : Nat} {w0 w : World} (h : Below B w0 w) (hB : B ≤ w.heap.size) (os : Array Obj) : Below B w0 (grow w os) :=
  ⟨h.os, h.tape, h.output, by have := h.size; show _ ≤ (w.heap ++ os).size; simp; omega, fun k hk => by
    show (w.heap ++ os)[k]? = _
    rw [Array.getElem?_append_left (by omega)]
    exact h.block k hk⟩

theorem sort_n (g cap n : Nat) (zs : List Int) (w : World) (B : Nat) (hn : zs.length = n) (hown : w.ownsRow B 3 1 (.slice (some ⟨g, 0, none⟩) n cap) n (ivs zs)) (hb : n ≤ 1000) (hB : B ≤ w.heap.size) :
    Calls Try.prog 111 #[.slice (some ⟨g, 0, none⟩) n cap] w fun e w' => e = .returned (.tuple #[]) ∧ w'.ownsRow B 3 1 (.slice (some ⟨g, 0, none⟩) n cap) n (ivs (zs.mergeSort fun x y => decide (x ≤ y))) ∧ Below B w w' := by
  subst hn
  obtain ⟨g', c', hv, hbase, hlt, hnc, hcm, hzl, hH⟩ := holds_of_ownsRow (enc := Value.int .i64) (zs := zs) hown (by simp)
  have hv' := hv
  injection hv' with h1
  injection h1 with h1
  injection h1 with h1
  subst h1
  refine (sort_any g 0 cap zs w hH hlt (by omega)).mono ?_
  rintro e w' ⟨rfl, q, os, rfl⟩
  have hl : (zs.mergeSort fun x y => decide (x ≤ y)).length = zs.length := List.length_mergeSort _
  refine ⟨rfl, own_grow ?_ os, below_grow' (below_putRow (Below.refl _ _) hbase) (by simp [Sort.ahead]; exact hB) os⟩
  have := ownsRow_putRow (enc := Value.int .i64) (q := q) (zs := zs) (ys := zs.mergeSort fun x y => decide (x ≤ y)) (k := zs.length) hown hl (Nat.le_refl _)
  rwa [List.take_of_length_le (Nat.le_of_eq hl)] at this
theorem compact_n (g cap n : Nat) (zs : List Int) (w : World) (B : Nat) (hn : zs.length = n) (hown : w.ownsRow B 3 1 (.slice (some ⟨g, 0, none⟩) n cap) n (ivs zs)) (hb : n ≤ 1000) :
    Calls Try.prog 112 #[.slice (some ⟨g, 0, none⟩) n cap] w fun e w' => e = .returned (.slice (some ⟨g, 0, none⟩) (Lib.compact zs).length cap) ∧ w'.ownsRow B 3 1 (.slice (some ⟨g, 0, none⟩) (Lib.compact zs).length cap) (Lib.compact zs).length (ivs (Lib.compact zs)) ∧ Below B w w' := by
  subst hn
  obtain ⟨g', c', hv, hbase, hlt, hnc, hcm, hzl, hH⟩ := holds_of_ownsRow (enc := Value.int .i64) (zs := zs) hown (by simp)
  have hv' := hv
  injection hv' with h1 _ h3
  injection h1 with h1
  injection h1 with h1
  subst h1 h3
  refine (compact_any g 0 cap zs w hH (by omega) hnc).mono ?_
  rintro e w' ⟨rfl, q, rfl⟩
  have hl : (Lib.compact zs).length ≤ zs.length := by
    show (((List.range zs.length).filter (keeps zs.toArray)).map _).length ≤ _
    rw [List.length_map]
    have := List.length_filter_le (keeps zs.toArray) (List.range zs.length)
    simpa using this
  refine ⟨rfl, ?_, below_putRow (Below.refl _ _) hbase⟩
  have := ownsRow_putRow (enc := Value.int .i64) (q := q) (zs := zs) (ys := Lib.compact zs ++ List.replicate (zs.length - (Lib.compact zs).length) 0) (k := (Lib.compact zs).length) hown (by simp; omega) hl
  rwa [List.take_left] at this

set_option maxHeartbeats 1000000 in
theorem unionOf_any (A A' : Option Addr) (n m cap cap' : Nat) (xs ys : List Nat) (w : World) (hx : IntsAt w w.heap.size A (Opt.intL xs)) (hy : IntsAt w w.heap.size A' (Opt.intL ys)) (hn : xs.length = n) (hm : ys.length = m) (hnb : n ≤ 100) (hmb : m ≤ 100) (sx : SA xs) (sy : SA ys) :
    Calls Try.prog 107 #[.slice A n cap, .slice A' m cap'] w (UnOut w xs ys) := by
  have HU := Lib.hid (union_eq sx sy)
  have HN := Lib.hid hn
  have HM := Lib.hid hm
  have hb0 : Below w.heap.size w (w.alloc (.cells #[.slice A n cap, .slice A' m cap'] 23)) := (Below.refl _ _).alloc (Nat.le_refl _) _
  have HB0 := Lib.hid hb0
  have HX := Lib.hid ((hx.below hb0).mono hb0.size)
  have HY := Lib.hid ((hy.below hb0).mono hb0.size)
  have e0 : (w.alloc (.cells #[.slice A n cap, .slice A' m cap'] 23)).cell? ⟨w.heap.size, 0, none⟩ = some (.slice A n cap) := by simp
  have e1 : (w.alloc (.cells #[.slice A n cap, .slice A' m cap'] 23)).cell? ⟨w.heap.size, 1, none⟩ = some (.slice A' m cap') := by simp
  have hz0 : (w.alloc (.cells #[.slice A n cap, .slice A' m cap'] 23)).heap.size = w.heap.size + 1 := by simp
  clear hx hy hn hm hb0 sx sy
  go_enter Try.func107, Try.ntmps107
  go_wp2_with fail
  refine (concat_any w.heap.size 2 A A' n m cap cap' xs ys _ e0 e1 (by omega) HX.out HY.out HN.out HM.out hnb hmb).mono ?_
  clear e0 e1
  generalize w.alloc (.cells #[.slice A n cap, .slice A' m cap'] 23) = w0 at *
  rintro e w1 (⟨hxe, hye, rfl, hb1⟩ | ⟨g, c1, rfl, hown, hb1⟩)
  · subst hxe hye
    have HE : Hid (merge [] [] = []) := Lib.hid (merge_nil_l [])
    have HB1 := Lib.hid (HB0.out.trans (hb1.mono (by omega)))
    clear hb1 HU
    go_wp2_with (first
      | (go_at_call 111; refine (sort_none _ _ _).mono ?_; rintro e w' ⟨rfl, hw⟩; obtain rfl := hw.symm; clear hw)
      | (go_at_call 112; refine (compact_none _ _ _).mono ?_; rintro e w' ⟨rfl, hw⟩; obtain rfl := hw.symm; clear hw))
    go_ret
    exact ⟨none, 0, by rw [HE.out]; rfl, .inl HE.out, HB1.out⟩
  · have hz1 : w.heap.size + 1 ≤ w1.heap.size := by have := hb1.size; omega
    have hown' : w1.ownsRow (w.heap.size + 1) 3 1 (.slice (some ⟨g, 0, none⟩) (xs.length + ys.length) c1) (xs.length + ys.length) (ivs (Opt.intL (xs ++ ys))) := by rw [← hz0]; exact hown
    have HO := Lib.hid hown'
    have HL : Hid ((Opt.intL (xs ++ ys)).length = xs.length + ys.length) := Lib.hid (by rw [Opt.intL_len, List.length_append])
    have HB1 := Lib.hid (HB0.out.trans (hb1.mono (by omega)))
    have hlb : xs.length + ys.length ≤ 1000 := by have := HN.out; have := HM.out; omega
    clear hown hown' hb1
    generalize xs.length + ys.length = L at *
    go_wp2_with fail
    refine (sort_n g c1 L _ _ (w.heap.size + 1) HL.out HO.out hlb hz1).mono ?_
    rintro e w2 ⟨rfl, hown2, hb2⟩
    have HO2 := Lib.hid hown2
    have HB2 := Lib.hid (HB1.out.trans (hb2.mono (by omega)))
    have HL2 : Hid (((Opt.intL (xs ++ ys)).mergeSort fun x y => decide (x ≤ y)).length = L) := Lib.hid (by rw [List.length_mergeSort]; exact HL.out)
    clear hown2 hb2 HO
    go_wp2_with fail
    refine (compact_n g c1 L _ _ (w.heap.size + 1) HL2.out HO2.out hlb).mono ?_
    rw [HU.out, Opt.intL_len]
    rintro e w3 ⟨rfl, hown3, hb3⟩
    have HO3 := Lib.hid hown3
    have HB3 := Lib.hid (HB2.out.trans (hb3.mono (by omega)))
    clear hown3 hb3 HO2
    go_wp2
    go_ret
    exact ⟨some ⟨g, 0, none⟩, c1, rfl, own_leaf HO3.out ⟨by have := (HO3.out.lt g rfl).1; omega, (HO3.out.lt g rfl).2⟩, HB3.out⟩
end Go.Proofs.Ythcpgbfghededaa
