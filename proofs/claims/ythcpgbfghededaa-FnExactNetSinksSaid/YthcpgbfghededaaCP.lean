/- The contracts of the program's cells. -/
import Derived.Test.YthcpgbfghededaaEC
import Derived.Test.YthcpgbfghededaaN4
namespace Go.Proofs.Ythcpgbfghededaa
open Go.RowKit Go.Deep Cut

/-- The inputs and the table of a next-state literal's cell. -/
def nextY (l : Nat) : List Nat := if l / 2 = 0 then [] else [l / 2]
def nextT (l : Nat) : Nat := if l / 2 = 0 then l % 2 else 2 - l % 2
theorem nextT_le (l : Nat) : nextT l ≤ 2 := by unfold nextT; split <;> omega
theorem nextY_len (l : Nat) : (nextY l).length ≤ 1 := by unfold nextY; split <;> simp

set_option maxHeartbeats 400000 in
theorem nextTable_any (l : Nat) (hl : l ≤ 1000000) (w : World) :
    Calls Try.prog 156 #[.int .i64 l] w fun e w' => ∃ g, e = .returned (.tuple #[.slice (some ⟨g, 0, none⟩) (nextY l).length (nextY l).length, .int .i64 (nextT l : Nat)]) ∧ w.heap.size ≤ g ∧ g < w'.heap.size ∧ LeafIn w' (fun b => b = g) (some ⟨g, 0, none⟩) (nextY l) ∧ Below w.heap.size w w' := by
  by_cases h0 : l = 0
  · subst h0
    go_enter Try.func156, Try.ntmps156
    go_wp2
    go_ret2
    exact ⟨w.heap.size, rfl, Nat.le_refl _, by simp, .inl rfl, (Below.refl _ _).alloc (Nat.le_refl _) _⟩
  · by_cases h1 : l = 1
    · subst h1
      go_enter Try.func156, Try.ntmps156
      go_wp2
      go_ret2
      exact ⟨w.heap.size, rfl, Nat.le_refl _, by simp, .inl rfl, (Below.refl _ _).alloc (Nat.le_refl _) _⟩
    · have hY : nextY l = [l / 2] := by unfold nextY; rw [if_neg (by omega)]
      have hd : (l : Int) / 2 = ((l / 2 : Nat) : Int) := by omega
      rcases Nat.mod_two_eq_zero_or_one l with e | e
      · have hT : nextT l = 2 := by unfold nextT; rw [if_neg (by omega)]; omega
        rw [hY, hT]
        have HD := Lib.hid hd
        have n0 : (l : Int) ≠ 0 := by omega
        have n1 : (l : Int) ≠ 1 := by omega
        have em : bits .and .i64 (l : Int) 1 = 0 := by rw [i64_odd l (by omega), e]; rfl
        clear hd hY hT h0 h1
        go_enter Try.func156, Try.ntmps156
        go_wp2_with (go_at_call 95; refine (var_any _ _).mono ?_; rintro e w' ⟨rfl, rfl⟩; rw [HD.out])
        go_ret2
        exact ⟨w.heap.size, rfl, Nat.le_refl _, by simp, .inr ⟨_, _, rfl, rfl, heap_alloc_new w _, fun j hj => by simp at hj; subst hj; simp⟩, (Below.refl _ _).alloc (Nat.le_refl _) _⟩
      · have hT : nextT l = 1 := by unfold nextT; rw [if_neg (by omega)]; omega
        rw [hY, hT]
        have HD := Lib.hid hd
        have n0 : (l : Int) ≠ 0 := by omega
        have n1 : (l : Int) ≠ 1 := by omega
        have em : bits .and .i64 (l : Int) 1 = 1 := by rw [i64_odd l (by omega), e]; rfl
        clear hd hY hT h0 h1
        go_enter Try.func156, Try.ntmps156
        go_wp2_with (go_at_call 95; refine (var_any _ _).mono ?_; rintro e w' ⟨rfl, rfl⟩; rw [HD.out])
        go_ret2
        exact ⟨w.heap.size, rfl, Nat.le_refl _, by simp, .inr ⟨_, _, rfl, rfl, heap_alloc_new w _, fun j hj => by simp at hj; subst hj; simp⟩, (Below.refl _ _).alloc (Nat.le_refl _) _⟩

set_option maxHeartbeats 400000 in
theorem regCell_any (v l : Nat) (hl : l ≤ 1000000) (w : World) :
    Calls Try.prog 155 #[.agg #[.int .i64 v, .int .i64 l]] w fun e w' => ∃ g, e = .returned (.agg #[.int .i64 v, .slice (some ⟨g, 0, none⟩) (nextY l).length (nextY l).length, .int .i64 (nextT l : Nat), .bool true]) ∧ w.heap.size ≤ g ∧ g < w'.heap.size ∧ LeafIn w' (fun b => b = g) (some ⟨g, 0, none⟩) (nextY l) ∧ Below w.heap.size w w' := by
  have HW0 : Hid (Below w.heap.size w ((w.alloc (.cells #[.int .i64 v, .int .i64 l] 119)).alloc (.cells #[.int .i64 0, .slice none 0 0, .int .i64 0, .bool false] 45))) := Lib.hid (((Below.refl _ _).alloc (Nat.le_refl _) _).alloc (by simp) _)
  have hr0 : Row ((w.alloc (.cells #[.int .i64 v, .int .i64 l] 119)).alloc (.cells #[.int .i64 0, .slice none 0 0, .int .i64 0, .bool false] 45)) w.heap.size 119 #[.int .i64 v, .int .i64 l] := (Below.heap_alloc _ _ _ (by simp)).trans (heap_alloc_new w _)
  have hr1 : Row ((w.alloc (.cells #[.int .i64 v, .int .i64 l] 119)).alloc (.cells #[.int .i64 0, .slice none 0 0, .int .i64 0, .bool false] 45)) (w.heap.size + 1) 45 #[.int .i64 0, .slice none 0 0, .int .i64 0, .bool false] := by
    have h := heap_alloc_new (w.alloc (.cells #[.int .i64 v, .int .i64 l] 119)) (.cells #[.int .i64 0, .slice none 0 0, .int .i64 0, .bool false] 45)
    rwa [show (w.alloc (.cells #[.int .i64 v, .int .i64 l] 119)).heap.size = w.heap.size + 1 by simp] at h
  have hz0 : ((w.alloc (.cells #[.int .i64 v, .int .i64 l] 119)).alloc (.cells #[.int .i64 0, .slice none 0 0, .int .i64 0, .bool false] 45)).heap.size = w.heap.size + 2 := by simp
  have HR0 := Lib.hid hr0
  have HR1 := Lib.hid hr1
  have HZ0 := Lib.hid hz0
  clear hr0 hr1 hz0
  go_enter Try.func155, Try.ntmps155
  go_upto_region 1 with fail
  generalize (w.alloc (.cells #[.int .i64 v, .int .i64 l] 119)).alloc (.cells #[.int .i64 0, .slice none 0 0, .int .i64 0, .bool false] 45) = w0 at *
  have p0 := HR0.out.cell 0
  have p1 := HR0.out.cell 1
  simp at p0 p1
  go_wp2_with fail
  refine (nextTable_any l hl _).mono ?_
  rintro e w1 ⟨g, rfl, hg0, hg1, hlf, hb1⟩
  have HR01 := Lib.hid (HR0.out.below hb1 HR0.out.lt)
  have HR11 := Lib.hid (HR1.out.below hb1 HR1.out.lt)
  have HL1 := Lib.hid (HW0.out.trans (hb1.mono HW0.out.size))
  have HLF := Lib.hid hlf
  have hgw : w.heap.size + 2 ≤ g := by have := HZ0.out; omega
  clear hb1 HR0 HR1 hlf p0 p1
  have p0 := HR01.out.cell 0
  have p1 := HR01.out.cell 1
  have t0 := HR11.out.cell 0
  have t1 := HR11.out.cell 1
  have t2 := HR11.out.cell 2
  have t3 := HR11.out.cell 3
  have f0 := HR11.out.frozen 0
  have f1 := HR11.out.frozen 1
  have f2 := HR11.out.frozen 2
  have f3 := HR11.out.frozen 3
  simp at p0 p1 t0 t1 t2 t3
  generalize hm : (nextY l).length = m at *
  have HM := Lib.hid hm
  clear hm
  go_wp2
  refine bodyPost_ret (v := .agg #[.int .i64 v, .slice (some ⟨g, 0, none⟩) m m, .int .i64 (nextT l : Nat), .bool true]) (by simp [results, Try.results155, go_sem, t0, t1, t2, t3]) rfl ⟨g, by rw [HM.out], by omega, ?_, ?_, ?_⟩
  · simp [World.setCell]; omega
  · refine HLF.out.kept (fun b hb => ?_) (fun b hb => hb)
    subst hb
    have h : ∀ (W : World) (j : Nat) (u : Value), (W.setCell ⟨w.heap.size + 1, j, none⟩ u).heap[b]? = W.heap[b]? := fun W j u => Below.heap_setCell _ _ _ _ (by show b ≠ w.heap.size + 1; omega)
    simp only [h]
  · exact (((HL1.out.setCell (p := ⟨w.heap.size + 1, 0, none⟩) (by simp) _).setCell (p := ⟨w.heap.size + 1, 1, none⟩) (by simp) _).setCell (p := ⟨w.heap.size + 1, 2, none⟩) (by simp) _).setCell (p := ⟨w.heap.size + 1, 3, none⟩) (by simp) _

set_option maxHeartbeats 400000 in
theorem lutCell_any (A : Option Addr) (v m c t : Nat) (w : World) :
    Calls Try.prog 157 #[.agg #[.int .i64 v, .slice A m c, .int .i64 t]] w fun e w' => e = .returned (.agg #[.int .i64 v, .slice A m c, .int .i64 t, .bool false]) ∧ Below w.heap.size w w' := by
  have HW0 : Hid (Below w.heap.size w ((w.alloc (.cells #[.int .i64 v, .slice A m c, .int .i64 t] 120)).alloc (.cells #[.int .i64 0, .slice none 0 0, .int .i64 0, .bool false] 45))) := Lib.hid (((Below.refl _ _).alloc (Nat.le_refl _) _).alloc (by simp) _)
  have hr0 : Row ((w.alloc (.cells #[.int .i64 v, .slice A m c, .int .i64 t] 120)).alloc (.cells #[.int .i64 0, .slice none 0 0, .int .i64 0, .bool false] 45)) w.heap.size 120 #[.int .i64 v, .slice A m c, .int .i64 t] := (Below.heap_alloc _ _ _ (by simp)).trans (heap_alloc_new w _)
  have hr1 : Row ((w.alloc (.cells #[.int .i64 v, .slice A m c, .int .i64 t] 120)).alloc (.cells #[.int .i64 0, .slice none 0 0, .int .i64 0, .bool false] 45)) (w.heap.size + 1) 45 #[.int .i64 0, .slice none 0 0, .int .i64 0, .bool false] := by
    have h := heap_alloc_new (w.alloc (.cells #[.int .i64 v, .slice A m c, .int .i64 t] 120)) (.cells #[.int .i64 0, .slice none 0 0, .int .i64 0, .bool false] 45)
    rwa [show (w.alloc (.cells #[.int .i64 v, .slice A m c, .int .i64 t] 120)).heap.size = w.heap.size + 1 by simp] at h
  have HR0 := Lib.hid hr0
  have HR1 := Lib.hid hr1
  clear hr0 hr1
  go_enter Try.func157, Try.ntmps157
  go_upto_region 1 with fail
  generalize (w.alloc (.cells #[.int .i64 v, .slice A m c, .int .i64 t] 120)).alloc (.cells #[.int .i64 0, .slice none 0 0, .int .i64 0, .bool false] 45) = w0 at *
  have p0 := HR0.out.cell 0
  have p1 := HR0.out.cell 1
  have p2 := HR0.out.cell 2
  have t0 := HR1.out.cell 0
  have t1 := HR1.out.cell 1
  have t2 := HR1.out.cell 2
  have t3 := HR1.out.cell 3
  have f0 := HR1.out.frozen 0
  have f1 := HR1.out.frozen 1
  have f2 := HR1.out.frozen 2
  have f3 := HR1.out.frozen 3
  simp at p0 p1 p2 t0 t1 t2 t3
  go_wp2
  refine bodyPost_ret (v := .agg #[.int .i64 v, .slice A m c, .int .i64 t, .bool false]) (by simp [results, Try.results157, go_sem, t0, t1, t2, t3]) rfl ⟨rfl, ?_⟩
  exact (((HW0.out.setCell (p := ⟨w.heap.size + 1, 0, none⟩) (by simp) _).setCell (p := ⟨w.heap.size + 1, 1, none⟩) (by simp) _).setCell (p := ⟨w.heap.size + 1, 2, none⟩) (by simp) _).setCell (p := ⟨w.heap.size + 1, 3, none⟩) (by simp) _
end Go.Proofs.Ythcpgbfghededaa
