/- The fabric's reset: program and model, and the comparison and the marks of a fabric's state. -/
import Derived.Test.YtdadokcodklfgaaB1
namespace Go.Proofs.Ytdadokcodklfgaa
open Go.RowKit Go.Deep

theorem BRow.zeros (w : World) (n : Nat) : BRow (w.alloc (.cells (madeCells #[.bool false] n) 4)) w.heap.size (List.replicate n false) := by
  refine ⟨_, heap_alloc_new w _, by simp [size_madeCells], fun j hj => ?_⟩
  have hj' : j < n := by simpa using hj
  simp [madeCells, hj', Nat.mod_one, List.getD_eq_getElem?_getD]

set_option maxRecDepth 10000 in
set_option maxHeartbeats 400000 in
theorem ireset_any (w : World) :
    Calls Try.prog 86 #[] w fun e w' => ∃ g, e = .returned (.agg #[.slice (some ⟨g, 0, none⟩) 25 25]) ∧ w.heap.size ≤ g ∧ BRow w' g (List.replicate 25 false) ∧ Below w.heap.size w w' := by
  have hmk := fun W => run_make_row' (P := Try.prog) 45 4 (.bool false) 1 Try.underlying45 Try.infoB rfl .i64 .i64 25 (by omega) (by omega) W
  simp only [show ((25 : Nat) : Int) = 25 from rfl] at hmk
  go_enter Try.func86, Try.ntmps86
  go_wp2
  clear hmk
  obtain ⟨w1, hw1⟩ : ∃ w1, w1 = (w.alloc (.cells #[.slice (some ⟨w.heap.size + 1, 0, none⟩) 25 25] 50)) := ⟨_, rfl⟩
  have hz : w1.heap.size = w.heap.size + 1 := by rw [hw1]; simp
  have hb1 : Below w.heap.size w w1 := by rw [hw1]; exact (Below.refl _ _).alloc (Nat.le_refl _) _
  have hR : Row w1 w.heap.size 50 #[.slice (some ⟨w.heap.size + 1, 0, none⟩) 25 25] := by rw [hw1]; exact heap_alloc_new w _
  have hB := BRow.zeros w1 25
  have hb2 := hb1.alloc (by omega) (.cells (madeCells #[.bool false] 25) 4)
  have hb3 : Below w1.heap.size w1 (w1.alloc (.cells (madeCells #[.bool false] 25) 4)) := (Below.refl _ _).alloc (Nat.le_refl _) _
  have hR2 := (hR.below hb3 (by omega)).cell 0
  rw [hz] at hB
  rw [← hw1]
  clear hw1 hb1 hb3 hR
  generalize w1.alloc (.cells (madeCells #[.bool false] 25) 4) = w2 at *
  simp at hR2
  exact bodyPost_ret (v := .agg #[.slice (some ⟨w.heap.size + 1, 0, none⟩) 25 25]) (by simp [results, Try.results86, go_sem, hR2]) rfl ⟨_, rfl, by omega, hB, hb2⟩
set_option maxHeartbeats 400000 in
theorem eqFst_any (A A' : Option Addr) (n cap cap' : Nat) (xs : List Bool) (w : World) (hn : xs.length = n) (hx : BoolsAt w w.heap.size A xs) (hy : BoolsAt w w.heap.size A' xs) (hl : n ≤ 2000000) :
    Calls Try.prog 31 #[.agg #[.slice A n cap], .agg #[.slice A' n cap']] w fun e w' => e = .returned (.bool true) ∧ Below w.heap.size w w' := by
  subst hn
  have HX := Lib.hid hx
  have HY := Lib.hid hy
  clear hx hy
  have hb1 : Below w.heap.size w (w.alloc (.cells #[.slice A xs.length cap] 50)) := (Below.refl _ _).alloc (Nat.le_refl _) _
  have hb2 := hb1.alloc (by simp) (.cells #[.slice A' xs.length cap'] 50)
  have HL2 := Lib.hid hb2
  have HX2 := Lib.hid ((HX.out.below hb2).mono hb2.size)
  have HY2 := Lib.hid ((HY.out.below hb2).mono hb2.size)
  clear HX HY hb1 hb2
  go_enter Try.func31, Try.ntmps31
  go_wp2_with fail
  refine (eqBoolS_any A A' cap cap' xs _ HX2.out HY2.out hl).mono ?_
  rintro e w3 ⟨rfl, hb3⟩
  have HL3 := Lib.hid (HL2.out.trans (hb3.mono HL2.out.size))
  go_wp2
  go_ret
  exact ⟨rfl, HL3.out⟩

set_option maxHeartbeats 400000 in
theorem markFst_any (g n k : Nat) (xs : List Bool) (w : World) (hr : BRow w g xs) (hs : xs.length = n) (hn : n ≤ 2000000) (hk : k ≤ 1000000000) :
    Calls Try.prog 34 #[.agg #[.slice (some ⟨g, 0, none⟩) n n], .int .i64 k] w fun e w' => e = .returned (.int .i64 ((k + n : Nat) : Int)) ∧ BRow w' g (mk3 k n) ∧ Mid g (g + 1) w w' := by
  have hb1 : Below w.heap.size w (w.alloc (.cells #[.slice (some ⟨g, 0, none⟩) n n] 50)) := (Below.refl _ _).alloc (Nat.le_refl _) _
  have hg := hr.lt
  have hz : w.heap.size ≤ (w.alloc (.cells #[.slice (some ⟨g, 0, none⟩) n n] 50)).heap.size := by simp
  have hr1 := hr.on hb1
  obtain ⟨cs, hR, hF⟩ := hr1
  have HR := Lib.hid hR
  have HM1 := Lib.hid (Below.mid hb1 (Nat.le_refl _) g (g + 1))
  have hc : cs.size = n := by rw [hF.1, hs]
  clear hF hr hR
  go_enter Try.func34, Try.ntmps34
  go_wp2_with fail
  generalize w.alloc (.cells #[.slice (some ⟨g, 0, none⟩) n n] 50) = w1 at *
  refine (markB_row g n k cs w1 HR.out hc hn hk).mono ?_
  rintro e w2 ⟨rfl, hb, ho⟩
  have HB := Lib.hid hb
  have HO := Lib.hid ho
  clear hb ho
  go_wp2
  go_ret
  exact ⟨rfl, HB.out, HM1.out.trans (HO.out.mid (Nat.le_refl _) (by omega))⟩

end Go.Proofs.Ytdadokcodklfgaa
