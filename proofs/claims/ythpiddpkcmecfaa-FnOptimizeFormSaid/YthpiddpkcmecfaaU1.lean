/- The contracts of the model's literals and marks. -/
import Derived.Test.YthpiddpkcmecfaaT3
import Derived.Test.YthpiddpkcmecfaaS
namespace Go.Proofs.Ythpiddpkcmecfaa
open Go.RowKit Go.Deep

theorem ivs_one (xs : List Int) : ∀ u ∈ ivs xs, u.oneCell' = true := by
  intro u hu
  simp only [ivs, List.mem_map] at hu
  obtain ⟨n, _, rfl⟩ := hu
  rfl
theorem ints_src {w : World} {B : Nat} {A : Option Addr} {xs : List Int} (h : IntsAt w B A xs) : ∀ j u, (ivs xs)[j]? = some u → ∃ ad, A = some ad ∧ w.cell? (ad.add j) = some u := by
  intro j u hu
  have hj : j < xs.length := by have := (List.getElem?_eq_some_iff.1 hu).1; rwa [ivs_len] at this
  obtain ⟨b, off, e, _, hc⟩ := h j hj
  rw [ivs_get hj] at hu
  injection hu with hu
  subst hu
  exact ⟨_, e, by rw [← hc]; unfold Addr.add; split <;> simp_all⟩

set_option maxHeartbeats 400000 in
theorem l3Map_any (A : Option Addr) (n cap l B : Nat) (m : List Nat) (w : World) (hm : IntsAt w B A (Opt.intL m)) (hn : m.length = n) (hl : l / 2 < n) (hb : l < 1000000) (hx : m.getD (l / 2) 0 < 1000000) :
    Calls Try.prog 93 #[.slice A n cap, .int .i64 l] w fun e w' => e = .returned (.int .i64 (Opt.mapL m l : Nat)) ∧ w = w' := by
  obtain ⟨b, off, rfl, _, hc⟩ := hm (l / 2) (by rw [Opt.intL_len, hn]; exact hl)
  rw [Opt.intL_at] at hc
  have HM : Hid (Opt.mapL m l = Opt.xl (m.getD (l / 2) 0) (l % 2)) := Lib.hid rfl
  have hq : (l : Int) / 2 = ((l / 2 : Nat) : Int) := by omega
  have hr : (l : Int) % 2 = ((l % 2 : Nat) : Int) := by omega
  have HX := Lib.hid (i64_xor_nat (m.getD (l / 2) 0) (l % 2) (by omega) (Nat.mod_lt _ (by omega)))
  clear hm hn
  generalize m.getD (l / 2) 0 = x at *
  generalize l / 2 = q at *
  generalize l % 2 = r at *
  go_enter Try.func93, Try.ntmps93
  go_wp2
  go_ret
  exact ⟨ret_int (by rw [HM.out]; exact HX.out), rfl⟩

theorem BRow.set {w : World} {g : Nat} {u : List Bool} (h : BRow w g u) {j : Nat} (hj : j < u.length) (b : Bool) : BRow (w.setCell ⟨g, j, none⟩ (.bool b)) g (u.set j b) := by
  obtain ⟨cs, hr, hf⟩ := h
  refine ⟨_, hr.set j _, ?_, fun k hk => ?_⟩
  · rw [Array.size_setIfInBounds, List.length_set, hf.1]
  · rw [List.length_set] at hk
    by_cases e : j = k
    · subst e
      simp [hf.1, hj]
    · rw [Array.getElem?_setIfInBounds_ne e, hf.2 k hk]
      simp [List.getD_eq_getElem?_getD, List.getElem?_set_ne e]
theorem BRow.cell {w : World} {g : Nat} {u : List Bool} (h : BRow w g u) {j : Nat} (hj : j < u.length) : w.cell? ⟨g, j, none⟩ = some (.bool (u.getD j false)) := by
  obtain ⟨cs, hr, hf⟩ := h
  rw [hr.cell, hf.2 j hj]
theorem BRow.frozen {w : World} {g : Nat} {u : List Bool} (h : BRow w g u) (j : Nat) : w.frozen? ⟨g, j, none⟩ = false := by
  obtain ⟨cs, hr, hf⟩ := h
  exact hr.frozen j
theorem BRow.grown {w w' : World} {row : Option Nat} {g : Nat} {u : List Bool} (h : BRow w g u) (hb : w.grownBy w' row) (hg : some g ≠ row) : BRow w' g u := by
  obtain ⟨cs, hr, hf⟩ := h
  exact ⟨cs, hr.grown hb hg, hf⟩
theorem made_brow (w : World) (n : Nat) : BRow (w.alloc (.cells (madeCells #[.bool false] n) 4)) w.heap.size (List.replicate n false) :=
  ⟨_, heap_alloc_new w _, by rw [size_madeCells, List.length_replicate], fun j hj => by
    rw [List.length_replicate] at hj
    rw [List.getD_eq_getElem?_getD, List.getElem?_replicate, if_pos hj]
    simp [madeCells, hj, Nat.mod_one]⟩

theorem marks_len (f n : Nat) (p : Nat → Bool) : (Opt.marks f n p).length = n := by simp [Opt.marks]
theorem marks_ext {f n : Nat} {p q : Nat → Bool} (h : ∀ v, f ≤ v → v < f + n → p v = q v) : Opt.marks f n p = Opt.marks f n q := by
  unfold Opt.marks
  refine List.map_congr_left (fun t ht => ?_)
  have := List.mem_range.mp ht
  exact h _ (by omega) (by omega)
theorem marks_set {f n x : Nat} {p q : Nat → Bool} (h1 : f ≤ x) (h2 : x < f + n) (h : ∀ v, f ≤ v → q v = (p v || x == v)) : Opt.marks f n q = (Opt.marks f n p).set (x - f) true := by
  refine List.ext_getElem (by simp [Opt.marks]) (fun t ht1 ht2 => ?_)
  have ht : t < n := by simpa [Opt.marks] using ht1
  rw [List.getElem_set]
  simp only [Opt.marks, List.getElem_map, List.getElem_range]
  rw [h _ (by omega)]
  by_cases e : x - f = t
  · rw [if_pos e]
    have : x = f + t := by omega
    subst this
    simp
  · rw [if_neg e]
    have : (x == f + t) = false := by simp; omega
    rw [this, Bool.or_false]
theorem marks_none (f n : Nat) : Opt.marks f n (fun _ => false) = List.replicate n false := by
  unfold Opt.marks
  rw [List.map_const', List.length_range]
end Go.Proofs.Ythpiddpkcmecfaa
