/- The contract of slices.Repeat at one integer, three times. -/
import Derived.Test.YtkkkkalgfmddbaaKF
import Derived.Laws.CopyRow
import Derived.Laws.CopyOwn
import Derived.Deep.WholeRow
import Derived.BigRegion
import Derived.Test.YtkkkkalgfmddbaaNP
namespace Go.Proofs.Ytkkkkalgfmddbaa
open Go.RowKit Go.Deep

theorem mul_any (w : World) : Calls Try.prog 145 #[.int .u64 1, .int .u64 3] w fun e w' => e = .returned (.tuple #[.int .u64 0, .int .u64 3]) ∧ w' = w := by
  have h64 : ∀ w, Calls Try.prog 163 #[.int .u64 1, .int .u64 3] w fun e w' => e = .returned (.tuple #[.int .u64 0, .int .u64 3]) ∧ w' = w := fun w => by
    go_enter Try.func163, Try.ntmps163
    go_wp2
    go_ret2
    exact ⟨rfl, rfl⟩
  go_enter Try.func145, Try.ntmps145
  go_wp2_with (go_at_call 163; refine (h64 _).mono ?_; rintro e w1 ⟨rfl, rfl⟩)
  go_ret2
  exact ⟨rfl, rfl⟩
theorem copy_one (W : World) (N o dl dc : Nat) (a : Addr) (sl sc : Nat) (cur : Array Value) (v : Value) (hN : Row W N 3 cur) (hc : W.cell? a = some v) (hv : v.oneCell' = true) (hm : Nat.min sl dl = 1) (ho : o + 1 ≤ cur.size) (ty : TypeId) :
    (Builtin.copy_ #[31, 31] ty #[.slice (some ⟨N, o, none⟩) dl dc, .slice (some a) sl sc]).run Try.prog W = .ok (.int .i64 1) (W.setRow N (cur.toList.take o ++ [v] ++ cur.toList.drop (o + 1)).toArray) := by
  have hsz : (Try.prog.info? 3).map (·.size) = some 1 := by kernel_rfl
  exact run_copy_row Try.prog W _ _ ty 3 N o dl dc a sl sc cur 3 [v] Try.underlying31 hsz hN (by simpa using hm.symm) (fun j u hj => by
    match j, hj with
    | 0, hj => simp at hj; subst hj; simpa [Addr.add] using hc
    | j + 1, hj => simp at hj) (by simpa using ho) (by simpa using hv)
set_option maxRecDepth 100000 in
theorem repeat_any (b c : Nat) (v : Int) (w : World) (hb : Row w b 3 #[.int .i64 v]) :
    Calls Try.prog 106 #[.slice (some ⟨b, 0, none⟩) 1 c, .int .i64 3] w fun e w' => e = .returned (.slice (some ⟨w.heap.size, 0, none⟩) 3 3) ∧ Below w.heap.size w w' ∧ Row w' w.heap.size 3 #[.int .i64 v, .int .i64 v, .int .i64 v] := by
  have hbl := hb.lt
  have hb1 : (w.alloc (.cells #[.int .i64 0, .int .i64 0, .int .i64 0] 3)).cell? ⟨b, 0, none⟩ = some (.int .i64 v) := Row.cell (show Row _ b 3 _ from (Below.heap_alloc _ _ _ hbl).trans hb) 0
  have hn0 : Row (w.alloc (.cells #[.int .i64 0, .int .i64 0, .int .i64 0] 3)) w.heap.size 3 #[.int .i64 0, .int .i64 0, .int .i64 0] := heap_alloc_new w _
  have hc1 := fun dc sc => copy_one _ w.heap.size 0 3 dc ⟨b, 0, none⟩ 1 sc _ (.int .i64 v) hn0 hb1 rfl rfl (by simp)
  simp only [World.setRow_alloc_new, List.take_zero, List.nil_append, Nat.zero_add] at hc1
  have hmk : ∀ W, (Instr.makeSlice 31 (.int .i64 3) (.int .i64 3)).run Try.prog W = .ok (.slice (some ⟨W.heap.size, 0, none⟩) 3 3) (W.alloc (.cells #[.int .i64 0, .int .i64 0, .int .i64 0] 3)) := fun W => by
    have h := run_make_row' (P := Try.prog) 31 3 (.int .i64 0) 8 Try.underlying31 Try.info3 rfl .i64 .i64 3 (by omega) (by omega) W
    rw [show madeCells #[Value.int .i64 0] 3 = #[.int .i64 0, .int .i64 0, .int .i64 0] from by kernel_rfl] at h
    exact h
  simp at hc1
  have HW1 : Hid (Below w.heap.size w (w.alloc (.cells #[.int .i64 v, .int .i64 0, .int .i64 0] 3))) := Lib.hid ((Below.refl _ _).alloc (Nat.le_refl _) _)
  have HR1 : Hid (Row (w.alloc (.cells #[.int .i64 v, .int .i64 0, .int .i64 0] 3)) w.heap.size 3 #[.int .i64 v, .int .i64 0, .int .i64 0]) := Lib.hid (heap_alloc_new w _)
  clear hb1 hn0
  go_enter Try.func106, Try.ntmps106
  go_wp2_with (go_at_call 145; refine (mul_any _).mono ?_; rintro e w1 ⟨rfl, rfl⟩)
  clear hc1 hmk hb
  generalize w1.alloc (.cells #[.int .i64 v, .int .i64 0, .int .i64 0] 3) = w2 at *
  go_loopw [8] (fun nv wr => Hid (Below w1.heap.size w1 wr) ∧ ((nv = .int .i64 1 ∧ Hid (Row wr w1.heap.size 3 #[.int .i64 v, .int .i64 0, .int .i64 0])) ∨ (nv = .int .i64 2 ∧ Hid (Row wr w1.heap.size 3 #[.int .i64 v, .int .i64 v, .int .i64 0])) ∨ (nv = .int .i64 3 ∧ Hid (Row wr w1.heap.size 3 #[.int .i64 v, .int .i64 v, .int .i64 v])))) (fun nv _ => 3 - (intOf nv).toNat)
  case atStart => exact ⟨HW1, .inl ⟨rfl, HR1⟩⟩
  case round =>
    obtain ⟨HB, ⟨rfl, HR⟩ | ⟨rfl, HR⟩ | ⟨rfl, HR⟩⟩ := hrel
    · have hcp := fun dc sc => copy_one wr.drew w1.heap.size 1 2 dc ⟨w1.heap.size, 0, none⟩ 1 sc _ (.int .i64 v) HR.out (HR.out.cell 0) rfl rfl (by simp)
      simp at hcp
      have HB2 : Hid (Below w1.heap.size w1 (wr.drew.setRow w1.heap.size #[.int .i64 v, .int .i64 v, .int .i64 0])) := Lib.hid (below_setRow HB.out.drew (Nat.le_refl _) _)
      have HR2 : Hid (Row (wr.drew.setRow w1.heap.size #[.int .i64 v, .int .i64 v, .int .i64 0]) w1.heap.size 3 #[.int .i64 v, .int .i64 v, .int .i64 0]) := Lib.hid (setRow_heap _ _ _ _ _ _ HR.out)
      go_wp2
      go_region
      go_roundw
      case rel => exact ⟨_, _, _, _, _, _, _, _, _, _, _, _, _, _, ⟨HB2, .inr (.inl ⟨rfl, HR2⟩)⟩, rfl⟩
      case measure => simp [intOf]
    · have hcp := fun dc sc => copy_one wr.drew w1.heap.size 2 1 dc ⟨w1.heap.size, 0, none⟩ 2 sc _ (.int .i64 v) HR.out (HR.out.cell 0) rfl rfl (by simp)
      simp at hcp
      have HB2 : Hid (Below w1.heap.size w1 (wr.drew.setRow w1.heap.size #[.int .i64 v, .int .i64 v, .int .i64 v])) := Lib.hid (below_setRow HB.out.drew (Nat.le_refl _) _)
      have HR2 : Hid (Row (wr.drew.setRow w1.heap.size #[.int .i64 v, .int .i64 v, .int .i64 v]) w1.heap.size 3 #[.int .i64 v, .int .i64 v, .int .i64 v]) := Lib.hid (setRow_heap _ _ _ _ _ _ HR.out)
      go_wp2
      go_region
      go_roundw
      case rel => exact ⟨_, _, _, _, _, _, _, _, _, _, _, _, _, _, ⟨HB2, .inr (.inr ⟨rfl, HR2⟩)⟩, rfl⟩
      case measure => simp [intOf]
    · go_wp2
      go_ret
      exact ⟨rfl, HB.out, HR.out⟩
end Go.Proofs.Ytkkkkalgfmddbaa
/- The contracts of EmptyConfig. -/
namespace Go.Proofs.Ytkkkkalgfmddbaa
open Go.RowKit Go.Deep

theorem row_new (w : World) (t : TypeId) (cs : Array Value) : Row (w.alloc (.cells cs t)) w.heap.size t cs := heap_alloc_new w _
theorem row_n1 (w : World) (o : Obj) (t : TypeId) (cs : Array Value) : Row ((w.alloc o).alloc (.cells cs t)).drew (w.heap.size + 1) t cs := by
  have h := row_new (w.alloc o) t cs
  rw [show (w.alloc o).heap.size = w.heap.size + 1 by simp] at h
  exact h
theorem row_n2 (w : World) (o o' : Obj) (t : TypeId) (cs : Array Value) : Row (((w.alloc o).alloc (.cells cs t)).alloc o').drew (w.heap.size + 1) t cs := (Below.heap_alloc ((w.alloc o).alloc (.cells cs t)) _ _ (by simp)).trans (row_n1 w o t cs)
theorem row_n3 (w : World) (o o' : Obj) (t : TypeId) (cs : Array Value) : Row (((w.alloc o).alloc o').alloc (.cells cs t)).drew (w.heap.size + 1 + 1) t cs := by
  have h := row_n1 (w.alloc o) o' t cs
  rw [show (w.alloc o).heap.size = w.heap.size + 1 by simp] at h
  exact h
theorem row_o1 (w : World) (o : Obj) (t : TypeId) (cs : Array Value) : Row ((w.alloc (.cells cs t)).alloc o).drew w.heap.size t cs := (Below.heap_alloc (w.alloc (.cells cs t)) _ _ (by simp)).trans (row_new w t cs)
theorem row_o2 (w : World) (o o' : Obj) (t : TypeId) (cs : Array Value) : Row (((w.alloc (.cells cs t)).alloc o).alloc o').drew w.heap.size t cs := (Below.heap_alloc ((w.alloc (.cells cs t)).alloc o) _ _ (by simp; omega)).trans (row_o1 w o t cs)
theorem row_cells {w w' : World} {g : Nat} {t : TypeId} {a b c d : Value} (h : Row w g t #[a, b, c, d]) (hb : Below w.heap.size w w') : (w'.cell? ⟨g, 0, none⟩ = some a ∧ w'.cell? ⟨g, 1, none⟩ = some b ∧ w'.cell? ⟨g, 2, none⟩ = some c ∧ w'.cell? ⟨g, 3, none⟩ = some d) ∧ (w'.frozen? ⟨g, 0, none⟩ = false ∧ w'.frozen? ⟨g, 1, none⟩ = false ∧ w'.frozen? ⟨g, 2, none⟩ = false ∧ w'.frozen? ⟨g, 3, none⟩ = false) ∧ g < w'.heap.size ∧ Row w' g t #[a, b, c, d] := by
  have h' := h.below hb h.lt
  exact ⟨⟨h'.cell 0, h'.cell 1, h'.cell 2, h'.cell 3⟩, ⟨h'.frozen 0, h'.frozen 1, h'.frozen 2, h'.frozen 3⟩, h'.lt, h'⟩
/-- What emptySetting answers. -/
def ESOut (w : World) (e : Ending) (w' : World) : Prop := ∃ g1 g2 : Nat, e = .returned (.agg #[.int .i64 0, .slice (some ⟨g1, 0, none⟩) 3 3, .bool false, .slice (some ⟨g2, 0, none⟩) 8 8]) ∧ (w.heap.size ≤ g1 ∧ w.heap.size ≤ g2 ∧ g1 ≠ g2) ∧ Row w' g1 3 #[.int .i64 15, .int .i64 15, .int .i64 15] ∧ Row w' g2 3 (madeCells #[.int .i64 0] 8) ∧ Below w.heap.size w w'
/-- Four cells of a row stored one after another. -/
def set4 (w : World) (g : Nat) (a b c d : Value) : World := (((w.setCell ⟨g, 0, none⟩ a).setCell ⟨g, 1, none⟩ b).setCell ⟨g, 2, none⟩ c).setCell ⟨g, 3, none⟩ d
theorem set4_row {w : World} {g : Nat} {t : TypeId} {a b c d : Value} (h : Row w g t #[a, b, c, d]) (a' b' c' d' : Value) : Row (set4 w g a' b' c' d') g t #[a', b', c', d'] := (((h.set 0 a').set 1 b').set 2 c').set 3 d'
theorem set4_far (w : World) {g b : Nat} (a' b' c' d' : Value) (hb : b ≠ g) : (set4 w g a' b' c' d').heap[b]? = w.heap[b]? := by
  unfold set4
  rw [Below.heap_setCell _ _ _ _ hb, Below.heap_setCell _ _ _ _ hb, Below.heap_setCell _ _ _ _ hb, Below.heap_setCell _ _ _ _ hb]
theorem set4_below {B g : Nat} {a w : World} (h : Below B a w) (hg : B ≤ g) (a' b' c' d' : Value) : Below B a (set4 w g a' b' c' d') :=
  (((h.setCell (p := ⟨g, 0, none⟩) hg _).setCell (p := ⟨g, 1, none⟩) hg _).setCell (p := ⟨g, 2, none⟩) hg _).setCell (p := ⟨g, 3, none⟩) hg _
theorem set4_size (w : World) (g : Nat) (a b c d : Value) : (set4 w g a b c d).heap.size = w.heap.size := by simp [set4, World.setCell]
theorem es_end {w w3 W : World} {g1 g2 : Nat} {x1 x2 x3 x4 : Value} {a b c d : Value} (h3 : Row w3 w.heap.size 33 #[a, b, c, d]) (hb : Below w.heap.size w w3) (hW : Below w3.heap.size (set4 w3 w.heap.size (.int .i64 0) (.slice (some ⟨g1, 0, none⟩) 3 3) (.bool false) (.slice (some ⟨g2, 0, none⟩) 8 8)) W)
    (h1 : w.heap.size ≤ g1) (h2 : w.heap.size ≤ g2) (hne : g1 ≠ g2) (hr1 : Row W g1 3 #[.int .i64 15, .int .i64 15, .int .i64 15]) (hr2 : Row W g2 3 (madeCells #[.int .i64 0] 8)) :
    bodyPost Try.prog Try.f62 (ESOut w) Exit.ret { tmps := #[.pointer (some ⟨w.heap.size, 0, none⟩), x1, x2, x3, x4], defers := [] } W := by
  have hr := (set4_row h3 (.int .i64 0) (.slice (some ⟨g1, 0, none⟩) 3 3) (.bool false) (.slice (some ⟨g2, 0, none⟩) 8 8)).below hW h3.lt
  have t0 := hr.cell 0
  have t1 := hr.cell 1
  have t2 := hr.cell 2
  have t3 := hr.cell 3
  simp at t0 t1 t2 t3
  refine bodyPost_ret (v := .agg #[.int .i64 0, .slice (some ⟨g1, 0, none⟩) 3 3, .bool false, .slice (some ⟨g2, 0, none⟩) 8 8]) (by simp [results, Try.results62, go_sem, t0, t1, t2, t3]) rfl ⟨g1, g2, rfl, ⟨h1, h2, hne⟩, hr1, hr2, ?_⟩
  exact (set4_below hb (Nat.le_refl _) _ _ _ _).trans (hW.mono hb.size)
set_option maxRecDepth 10000 in
theorem emptySetting_any (w : World) : Calls Try.prog 62 #[] w (ESOut w) := by
  have hmk : ∀ W, (Instr.makeSlice 31 (.int .i64 8) (.int .i64 8)).run Try.prog W = .ok (.slice (some ⟨W.heap.size, 0, none⟩) 8 8) (W.alloc (.cells (madeCells #[.int .i64 0] 8) 3)) := fun W => run_make_row' (P := Try.prog) 31 3 (.int .i64 0) 8 Try.underlying31 Try.info3 rfl .i64 .i64 8 (by omega) (by omega) W
  go_enter Try.func62, Try.ntmps62
  go_upto_region 1 with fail
  generalize hZ : madeCells #[Value.int .i64 0] 8 = Z at *
  have HZ := Lib.hid hZ
  clear hZ
  go_region_held3 (fun _ => True) (exact trivial)
    (first | (go_at_call 106; refine (repeat_any _ _ 15 _ ?_).mono ?_; (first | with_reducible exact row_n1 _ _ _ _ | with_reducible exact row_n2 _ _ _ _ _ | with_reducible exact row_n3 _ _ _ _ _); rintro e w3 ⟨rfl, hb3, hr3⟩; obtain ⟨⟨k0, k1, k2, k3⟩, ⟨f0, f1, f2, f3⟩, hz3, ho3⟩ := row_cells (by first | with_reducible exact row_o1 _ _ _ _ | with_reducible exact row_o2 _ _ _ _ _) hb3))
  all_goals clear hmk
  all_goals (go_wp2)
  · obtain ⟨w2, hw2⟩ : ∃ w2, ((w.alloc (.cells #[.int .i64 0, .slice none 0 0, .bool false, .slice none 0 0] 33)).alloc (.cells #[.int .i64 15] 3)).drew = w2 := ⟨_, rfl⟩
    have hz2 : w2.heap.size = w.heap.size + 1 + 1 := by rw [← hw2]; show ((w.alloc _).alloc _).heap.size = _; simp
    have hb2 : Below w.heap.size w w2 := by rw [← hw2]; exact (((Below.refl _ w).alloc (Nat.le_refl _) _).alloc (by simp) _).drew
    rw [hw2] at hb3 hr3
    have hz3' := hb3.size
    rw [hz2] at hr3
    have hlt3 := hr3.lt
    obtain ⟨W5, hW5⟩ : ∃ W5, W5 = (set4 w3 w.heap.size (.int .i64 0) (.slice (some ⟨w.heap.size + 1 + 1, 0, none⟩) 3 3) (.bool false) (.slice (some ⟨w3.heap.size, 0, none⟩) 8 8)).alloc (.cells Z 3) := ⟨_, rfl⟩
    have e5 : Below w3.heap.size (set4 w3 w.heap.size (.int .i64 0) (.slice (some ⟨w.heap.size + 1 + 1, 0, none⟩) 3 3) (.bool false) (.slice (some ⟨w3.heap.size, 0, none⟩) 8 8)) W5 := by rw [hW5]; exact (Below.refl _ _).alloc (by rw [set4_size]; exact Nat.le_refl _) _
    have r1 : Row W5 (w.heap.size + 1 + 1) 3 #[.int .i64 15, .int .i64 15, .int .i64 15] := by rw [hW5]; exact (Below.heap_alloc _ _ _ (by rw [set4_size]; exact hr3.lt)).trans ((set4_far _ _ _ _ _ (by omega)).trans hr3)
    have r2 : Row W5 (w3.heap.size) 3 (madeCells #[.int .i64 0] 8) := by
      rw [hW5, HZ.out]
      have h := row_new (set4 w3 w.heap.size (.int .i64 0) (.slice (some ⟨w.heap.size + 1 + 1, 0, none⟩) 3 3) (.bool false) (.slice (some ⟨w3.heap.size, 0, none⟩) 8 8)) 3 Z
      rw [set4_size] at h
      exact h
    change bodyPost _ _ _ _ _ ((set4 w3 w.heap.size (.int .i64 0) (.slice (some ⟨w.heap.size + 1 + 1, 0, none⟩) 3 3) (.bool false) (.slice (some ⟨w3.heap.size, 0, none⟩) 8 8)).alloc (.cells Z 3))
    rw [← hW5]
    exact es_end ho3 (hb2.trans (hb3.mono (by omega))) e5 (by omega) (by omega) (by omega) r1 r2
  · obtain ⟨w2, hw2⟩ : ∃ w2, (((w.alloc (.cells #[.int .i64 0, .slice none 0 0, .bool false, .slice none 0 0] 33)).alloc (.cells #[.int .i64 15] 3)).alloc (.cells Z 3)).drew = w2 := ⟨_, rfl⟩
    have hz2 : w2.heap.size = w.heap.size + 1 + 1 + 1 := by rw [← hw2]; show (((w.alloc _).alloc _).alloc _).heap.size = _; simp
    have hb2 : Below w.heap.size w w2 := by rw [← hw2]; exact ((((Below.refl _ w).alloc (Nat.le_refl _) _).alloc (by simp) _).alloc (by simp; omega) _).drew
    have hrZ : Row w2 (w.heap.size + 1 + 1) 3 Z := by
      rw [← hw2]
      have h := row_new ((w.alloc (.cells #[.int .i64 0, .slice none 0 0, .bool false, .slice none 0 0] 33)).alloc (.cells #[.int .i64 15] 3)) 3 Z
      rw [show ((w.alloc (.cells #[.int .i64 0, .slice none 0 0, .bool false, .slice none 0 0] 33)).alloc (.cells #[.int .i64 15] 3)).heap.size = w.heap.size + 1 + 1 by simp] at h
      exact h
    rw [hw2] at hb3 hr3
    have hz3' := hb3.size
    rw [hz2] at hr3
    have hlt3 := hr3.lt
    have hrZ3 := hrZ.below hb3 (by omega)
    obtain ⟨W5, hW5⟩ : ∃ W5, W5 = set4 w3 w.heap.size (.int .i64 0) (.slice (some ⟨w.heap.size + 1 + 1 + 1, 0, none⟩) 3 3) (.bool false) (.slice (some ⟨w.heap.size + 1 + 1, 0, none⟩) 8 8) := ⟨_, rfl⟩
    have e5 : Below w3.heap.size (set4 w3 w.heap.size (.int .i64 0) (.slice (some ⟨w.heap.size + 1 + 1 + 1, 0, none⟩) 3 3) (.bool false) (.slice (some ⟨w.heap.size + 1 + 1, 0, none⟩) 8 8)) W5 := by rw [hW5]; exact Below.refl _ _
    have r1 : Row W5 (w.heap.size + 1 + 1 + 1) 3 #[.int .i64 15, .int .i64 15, .int .i64 15] := by rw [hW5]; exact (set4_far _ _ _ _ _ (by omega)).trans hr3
    have r2 : Row W5 (w.heap.size + 1 + 1) 3 (madeCells #[.int .i64 0] 8) := by
      rw [hW5, HZ.out]
      exact (set4_far _ _ _ _ _ (by omega)).trans hrZ3
    change bodyPost _ _ _ _ _ (set4 w3 w.heap.size (.int .i64 0) (.slice (some ⟨w.heap.size + 1 + 1 + 1, 0, none⟩) 3 3) (.bool false) (.slice (some ⟨w.heap.size + 1 + 1, 0, none⟩) 8 8))
    rw [← hW5]
    exact es_end ho3 (hb2.trans (hb3.mono (by omega))) e5 (by omega) (by omega) (by omega) r1 r2
  · obtain ⟨w2, hw2⟩ : ∃ w2, (((w.alloc (.cells #[.int .i64 0, .slice none 0 0, .bool false, .slice none 0 0] 33)).alloc (.cells Z 3)).alloc (.cells #[.int .i64 15] 3)).drew = w2 := ⟨_, rfl⟩
    have hz2 : w2.heap.size = w.heap.size + 1 + 1 + 1 := by rw [← hw2]; show (((w.alloc _).alloc _).alloc _).heap.size = _; simp
    have hb2 : Below w.heap.size w w2 := by rw [← hw2]; exact ((((Below.refl _ w).alloc (Nat.le_refl _) _).alloc (by simp) _).alloc (by simp; omega) _).drew
    have hrZ : Row w2 (w.heap.size + 1) 3 Z := by
      rw [← hw2]
      exact row_n2 w _ _ 3 Z
    rw [hw2] at hb3 hr3
    have hz3' := hb3.size
    rw [hz2] at hr3
    have hlt3 := hr3.lt
    have hrZ3 := hrZ.below hb3 (by omega)
    obtain ⟨W5, hW5⟩ : ∃ W5, W5 = set4 w3 w.heap.size (.int .i64 0) (.slice (some ⟨w.heap.size + 1 + 1 + 1, 0, none⟩) 3 3) (.bool false) (.slice (some ⟨w.heap.size + 1, 0, none⟩) 8 8) := ⟨_, rfl⟩
    have e5 : Below w3.heap.size (set4 w3 w.heap.size (.int .i64 0) (.slice (some ⟨w.heap.size + 1 + 1 + 1, 0, none⟩) 3 3) (.bool false) (.slice (some ⟨w.heap.size + 1, 0, none⟩) 8 8)) W5 := by rw [hW5]; exact Below.refl _ _
    have r1 : Row W5 (w.heap.size + 1 + 1 + 1) 3 #[.int .i64 15, .int .i64 15, .int .i64 15] := by rw [hW5]; exact (set4_far _ _ _ _ _ (by omega)).trans hr3
    have r2 : Row W5 (w.heap.size + 1) 3 (madeCells #[.int .i64 0] 8) := by
      rw [hW5, HZ.out]
      exact (set4_far _ _ _ _ _ (by omega)).trans hrZ3
    change bodyPost _ _ _ _ _ (set4 w3 w.heap.size (.int .i64 0) (.slice (some ⟨w.heap.size + 1 + 1 + 1, 0, none⟩) 3 3) (.bool false) (.slice (some ⟨w.heap.size + 1, 0, none⟩) 8 8))
    rw [← hW5]
    exact es_end ho3 (hb2.trans (hb3.mono (by omega))) e5 (by omega) (by omega) (by omega) r1 r2
/-- The tile that EmptyConfig makes. -/
abbrev etl : Tl := (0, [15, 15, 15], false, [0, 0, 0, 0, 0, 0, 0, 0])
theorem leaf15 {w : World} {S : Nat → Prop} {g : Nat} (h : Row w g 3 #[.int .i64 15, .int .i64 15, .int .i64 15]) (hS : S g) : LeafZ w S (some ⟨g, 0, none⟩) [15, 15, 15] :=
  .inr ⟨g, _, rfl, hS, h, fun j hj => by
    match j, hj with
    | 0, _ => rfl
    | 1, _ => rfl
    | 2, _ => rfl
    | j + 3, hj => simp at hj; omega⟩
theorem leaf08 {w : World} {S : Nat → Prop} {g : Nat} (h : Row w g 3 (madeCells #[.int .i64 0] 8)) (hS : S g) : LeafZ w S (some ⟨g, 0, none⟩) [0, 0, 0, 0, 0, 0, 0, 0] := by
  rw [show madeCells #[Value.int .i64 0] 8 = #[.int .i64 0, .int .i64 0, .int .i64 0, .int .i64 0, .int .i64 0, .int .i64 0, .int .i64 0, .int .i64 0] from by kernel_rfl] at h
  exact .inr ⟨g, _, rfl, hS, h, fun j hj => by
    match j, hj with
    | 0, _ => rfl
    | 1, _ => rfl
    | 2, _ => rfl
    | 3, _ => rfl
    | 4, _ => rfl
    | 5, _ => rfl
    | 6, _ => rfl
    | 7, _ => rfl
    | j + 8, hj => simp at hj; omega⟩
/-- The blocks of all lists lie below N. -/
def HdsLt (hs : List Value) (N : Nat) : Prop := ∀ u, u ∈ hs → ∀ b, vblk u = some b → b < N
theorem HdsLt.mono {hs : List Value} {N M : Nat} (h : HdsLt hs N) (hm : N ≤ M) : HdsLt hs M := fun u hu b e => Nat.lt_of_lt_of_le (h u hu b e) hm
theorem vblk_sl (g n c : Nat) : ∀ b, vblk (.slice (some ⟨g, 0, none⟩) n c) = some b → b = g := fun b e => by
  cases n with
  | zero => simp [vblk] at e
  | succ n => simp [vblk] at e; exact e.symm
theorem dist_snoc_tl {xs : List Value} {N g1 m1 c1 g2 m2 c2 : Nat} {z : Int} {r : Bool} (h : DistH xs) (hl : HdsLt xs N) (h1 : N ≤ g1) (h2 : N ≤ g2) (hne : g1 ≠ g2) : DistH (xs ++ tlv z (some ⟨g1, 0, none⟩) m1 c1 r (some ⟨g2, 0, none⟩) m2 c2) := by
  refine DistH.append h ?_ ?_
  · intro j k hjk u w hu hw b hb hb'
    match j, k, hjk with
    | 0, _, _ => simp [tlv] at hu; subst hu; simp [vblk] at hb
    | 1, 2, _ => simp [tlv] at hw; subst hw; simp [vblk] at hb'
    | 1, 3, _ => simp [tlv] at hu hw; subst hu hw; exact hne ((vblk_sl _ _ _ _ hb).symm.trans (vblk_sl _ _ _ _ hb'))
    | 2, _, _ => simp [tlv] at hu; subst hu; simp [vblk] at hb
    | 3, k + 4, _ => simp [tlv] at hw
    | 1, k + 4, _ => simp [tlv] at hw
    | j + 4, _, _ => simp [tlv] at hu
  · intro u hu v hv x hx hx'
    have := hl u hu x hx
    simp [tlv] at hv
    rcases hv with rfl | rfl | rfl | rfl
    · simp [vblk] at hx'
    · have := vblk_sl _ _ _ _ hx'; omega
    · simp [vblk] at hx'
    · have := vblk_sl _ _ _ _ hx'; omega
theorem HdsLt.snoc {xs : List Value} {N M g1 m1 c1 g2 m2 c2 : Nat} {z : Int} {r : Bool} (hl : HdsLt xs N) (hm : N ≤ M) (h1 : g1 < M) (h2 : g2 < M) : HdsLt (xs ++ tlv z (some ⟨g1, 0, none⟩) m1 c1 r (some ⟨g2, 0, none⟩) m2 c2) M := fun u hu b e => by
  rcases List.mem_append.1 hu with hu | hu
  · exact hl.mono hm u hu b e
  · simp [tlv] at hu
    rcases hu with rfl | rfl | rfl | rfl
    · simp [vblk] at e
    · rw [vblk_sl _ _ _ _ e]; exact h1
    · simp [vblk] at e
    · rw [vblk_sl _ _ _ _ e]; exact h2
/-- The result cell and the configuration that is being built. -/
structure EBox (w wr : World) (TA : Option Addr) (n tc : Nat) (PA : Option Addr) (m pc : Nat) : Prop where
  r0 : Row wr w.heap.size 26 #[.slice none 0 0, .slice none 0 0]
  r1 : Row wr (w.heap.size + 1) 26 #[.slice TA n tc, .slice PA m pc]
theorem EBox.on {w wr wr' : World} {TA PA : Option Addr} {n tc m pc : Nat} (h : EBox w wr TA n tc PA m pc) (hk : ∀ b, b < w.heap.size + 2 → wr'.heap[b]? = wr.heap[b]?) : EBox w wr' TA n tc PA m pc := ⟨(hk _ (by omega)).trans h.r0, (hk _ (by omega)).trans h.r1⟩
theorem EBox.setT {w wr : World} {TA PA : Option Addr} {n tc m pc : Nat} (h : EBox w wr TA n tc PA m pc) (A : Option Addr) (n' c' : Nat) : EBox w (wr.setCell ⟨w.heap.size + 1, 0, none⟩ (.slice A n' c')) A n' c' PA m pc := ⟨(Below.heap_setCell _ _ _ _ (by simp)).trans h.r0, h.r1.set 0 _⟩
theorem EBox.setP {w wr : World} {TA PA : Option Addr} {n tc m pc : Nat} (h : EBox w wr TA n tc PA m pc) (A : Option Addr) (n' c' : Nat) : EBox w (wr.setCell ⟨w.heap.size + 1, 1, none⟩ (.slice A n' c')) TA n tc A n' c' := ⟨(Below.heap_setCell _ _ _ _ (by simp)).trans h.r0, h.r1.set 1 _⟩
/-- What EmptyConfig answers. -/
def EOut (w : World) (e : Ending) (w' : World) : Prop := ∃ (g tc gp pc : Nat) (hs : List Value), e = .returned (cfv (some ⟨g, 0, none⟩) 25 tc (some ⟨gp, 0, none⟩) 3 pc) ∧ CfAt w' w.heap.size (List.replicate 25 etl) (List.replicate 3 (15, false)) hs (some ⟨g, 0, none⟩) tc (some ⟨gp, 0, none⟩) pc ∧ HdsLt hs w'.heap.size ∧ Below w.heap.size w w'
theorem TlAt.set {w : World} {B cap : Nat} {ts : List Tl} {hs : List Value} {A : Option Addr} (h : TlAt w B ts hs A cap) (p : Addr) (hp : p.block < B) (u : Value) : TlAt (w.setCell p u) B ts hs A cap := h.keep (fun b h1 _ => Below.heap_setCell _ _ _ _ (by omega)) (by simp [World.setCell])
theorem PdAt.set {w : World} {B cap : Nat} {ps : List Pd} {A : Option Addr} (h : PdAt w B ps A cap) (p : Addr) (hp : p.block < B) (u : Value) : PdAt (w.setCell p u) B ps A cap := h.keep (fun b h1 _ => Below.heap_setCell _ _ _ _ (by omega))
set_option maxRecDepth 10000 in
set_option maxHeartbeats 1600000 in
theorem iempty_any (w : World) : Calls Try.prog 14 #[] w (EOut w) := by
  have hb0 : EBox w ((w.alloc (.cells #[.slice none 0 0, .slice none 0 0] 26)).alloc (.cells #[.slice none 0 0, .slice none 0 0] 26)) none 0 0 none 0 0 := ⟨row_o1 w _ _ _, row_n1 w _ _ _⟩
  have HB0 := Lib.hid hb0
  have HL0 := Lib.hid (((Below.refl _ w).alloc (Nat.le_refl _) (.cells #[.slice none 0 0, .slice none 0 0] 26)).alloc (by simp) (.cells #[.slice none 0 0, .slice none 0 0] 26))
  have hz0 : ((w.alloc (.cells #[.slice none 0 0, .slice none 0 0] 26)).alloc (.cells #[.slice none 0 0, .slice none 0 0] 26)).heap.size = w.heap.size + 2 := by simp
  clear hb0
  go_enter Try.func14, Try.ntmps14
  go_upto_region 2 with fail
  generalize (w.alloc (.cells #[.slice none 0 0, .slice none 0 0] 26)).alloc (.cells #[.slice none 0 0, .slice none 0 0] 26) = w0 at *
  have hz0' : w.heap.size + 2 ≤ w0.heap.size := by omega
  clear hz0
  go_wp2
  go_loopw [3] (fun iv wr => ∃ (k : Nat) (A : Option Addr) (tc : Nat) (hs : List Value), k ≤ 25 ∧ iv = .int .i64 k ∧ Hid (EBox w wr A k tc none 0 0) ∧ Hid (TlAt wr (w.heap.size + 2) (List.replicate k etl) hs A tc) ∧ Hid (DistH hs ∧ HdsLt hs wr.heap.size) ∧ w.heap.size + 2 ≤ wr.heap.size ∧ Hid (Below w.heap.size w wr)) (fun iv _ => 25 - (intOf iv).toNat)
  case atStart => exact ⟨0, none, 0, [], by omega, rfl, HB0, Lib.hid (TlAt.nil _ _), Lib.hid ⟨DistH.nil, fun u hu => by simp at hu⟩, hz0', HL0⟩
  case round =>
    clear HB0 HL0 hz0'
    obtain ⟨k, A, tc, hs, hk, rfl, HB, HT, HD, hzr, HL⟩ := hrel
    by_cases hlt : k < 25
    · have c0 := HB.out.r1.cell 0
      have f0 := HB.out.r1.frozen 0
      simp at c0
      have hHz : w.heap.size + 1 < wr.heap.size := by omega
      go_upto_region 4 with fail
      rw [lateLd_of 23 (.tmp 5)]
      go_region_held3 (fun _ => True) (exact trivial)
        (first
          | (go_at_call 62; refine (emptySetting_any _).mono ?_; rintro e w3 ⟨g1, g2, rfl, ⟨hg1, hg2, hne⟩, hr1, hr2, hb3⟩; obtain ⟨hc3, hf3⟩ := bcell hb3; have c3 := (hc3 (w.heap.size + 1) 0 hHz).trans c0; have f3 := (hf3 (w.heap.size + 1) 0 hHz).trans f0; have hz3 : wr.heap.size ≤ w3.heap.size := hb3.size; have hH3 : w.heap.size + 1 < w3.heap.size := Nat.lt_of_lt_of_le hHz hz3; have c3o := (fun o => (World.cell?_alloc_lt w3 o ⟨w.heap.size + 1, 0, none⟩ hH3).trans c3); have HT3 := Lib.hid (TlAt.on (w := wr.drew) HT.out hb3); have hnA : NotB A (w.heap.size + 1) := (fun e => absurd (HT3.out.ltA _ e).1 (by omega)); have HX1 := Lib.hid (leaf15 (S := OffA w3 (w.heap.size + 2) A) hr1 ⟨Nat.le_trans hzr hg1, hr1.lt, fun e => absurd (HT.out.ltA _ e).2 (Nat.not_lt.2 hg1)⟩); have HX2 := Lib.hid (leaf08 (S := OffA w3 (w.heap.size + 2) A) hr2 ⟨Nat.le_trans hzr hg2, hr2.lt, fun e => absurd (HT.out.ltA _ e).2 (Nat.not_lt.2 hg2)⟩))
          | (refine step_pushTl (by rfl) _ _ (by rfl) w3 (w.heap.size + 2) tc k A (List.replicate k etl) hs (by rfl) List.length_replicate HT3.out (by omega) (by omega) 0 (some ⟨g1, 0, none⟩) 3 3 [15, 15, 15] false (some ⟨g2, 0, none⟩) 8 8 [0, 0, 0, 0, 0, 0, 0, 0] (by rfl) rfl rfl HX1.out HX2.out (by omega) (by omega) ?_; intro g' cap' w5 hT5 hb5 hk5 hg5; have c5 := (World.cell?_of_block (a := ⟨w.heap.size + 1, 0, none⟩) (hk5 _ (by show w.heap.size + 1 < _; omega) hnA)).trans c3; have f5 := (World.frozen?_of_block (a := ⟨w.heap.size + 1, 0, none⟩) (hk5 _ (by show w.heap.size + 1 < _; omega) hnA)).trans f3))
      all_goals
        have HE5 : Hid (EBox w w5 A k tc none 0 0) := Lib.hid (HB.out.on (fun b hb => (hk5 b (by omega) (fun e => absurd (HT3.out.ltA _ e).1 (by omega))).trans (hb3.block b (by show b < wr.heap.size; omega))))
        have hz5 := hb5.size
        have hg1' := hr1.lt
        have hg2' := hr2.lt
        have HD5 : Hid (DistH (hs ++ tlv 0 (some ⟨g1, 0, none⟩) 3 3 false (some ⟨g2, 0, none⟩) 8 8) ∧ HdsLt (hs ++ tlv 0 (some ⟨g1, 0, none⟩) 3 3 false (some ⟨g2, 0, none⟩) 8 8) w5.heap.size) := Lib.hid ⟨dist_snoc_tl HD.out.1 HD.out.2 hg1 hg2 hne, (HD.out.2.mono hz3).snoc (by omega) (by omega) (by omega)⟩
        have HE6 := Lib.hid (HE5.out.setT (some ⟨g', 0, none⟩) (k + 1) cap')
        have HT6 := Lib.hid (hT5.set ⟨w.heap.size + 1, 0, none⟩ (by show w.heap.size + 1 < w.heap.size + 2; omega) (.slice (some ⟨g', 0, none⟩) (k + 1) cap'))
        have HL6 := Lib.hid ((HL.out.trans (((Below.refl wr.heap.size wr).drew.trans hb3).mono (by omega))).trans (hb5.mono (by omega)) |>.setCell (p := ⟨w.heap.size + 1, 0, none⟩) (by show w.heap.size ≤ w.heap.size + 1; omega) (.slice (some ⟨g', 0, none⟩) (k + 1) cap'))
        have hz6 : (w5.setCell ⟨w.heap.size + 1, 0, none⟩ (.slice (some ⟨g', 0, none⟩) (k + 1) cap')).heap.size = w5.heap.size := by simp [World.setCell]
        rw [← hz6] at HD5
        have hz7 : w.heap.size + 2 ≤ (w5.setCell ⟨w.heap.size + 1, 0, none⟩ (.slice (some ⟨g', 0, none⟩) (k + 1) cap')).heap.size := by rw [hz6]; omega
        have HRE : Hid (List.replicate k etl ++ [((0 : Int), ([15, 15, 15] : List Int), false, ([0, 0, 0, 0, 0, 0, 0, 0] : List Int))] = List.replicate (k + 1) etl) := Lib.hid (by rw [List.replicate_succ'])
        rw [HRE.out] at HT6
        clear HE5 hT5 hk5 hb5 hg5 c5 f5 hb3 hr1 hr2 HT3 HX1 HX2 c0 f0 c3 f3 c3o HT HB HD HL hc3 hf3 hz6 HRE
        go_wp2
        go_roundw
        case rel => exact ⟨k + 1, some ⟨g', 0, none⟩, cap', _, by omega, by go_num, HE6, HT6, HD5, hz7, HL6⟩
        case measure => simp [intOf]; omega
    · obtain rfl : k = 25 := by omega
      obtain ⟨g, rfl⟩ := HT.out.ptr (by simp)
      rw [show ((25 : Nat) : Int) = 25 from rfl]
      clear hlt hk
      obtain ⟨w8, h8⟩ : ∃ w8, w8 = wr := ⟨_, rfl⟩
      subst h8
      have HT8 := HT
      go_wp2
      go_loopw [12] (fun iv wx => ∃ (j : Nat) (PA : Option Addr) (pc : Nat), j ≤ 3 ∧ iv = .int .i64 j ∧ Hid (EBox w wx (some ⟨g, 0, none⟩) 25 tc PA j pc) ∧ Hid (∀ b, w.heap.size + 2 ≤ b → b < w8.heap.size → wx.heap[b]? = w8.heap[b]?) ∧ Hid (PdAt wx w8.heap.size (List.replicate j (15, false)) PA pc) ∧ w.heap.size + 2 ≤ w8.heap.size ∧ w8.heap.size ≤ wx.heap.size ∧ Hid (Below w.heap.size w wx)) (fun iv _ => 3 - (intOf iv).toNat)
      case atStart => exact ⟨0, none, 0, by omega, rfl, HB, Lib.hid (fun _ _ _ => rfl), Lib.hid (PdAt.nil _ _), hzr, Nat.le_refl _, HL⟩
      case round =>
        clear HB HT HL
        obtain ⟨j, PA, pc, hj, rfl, HB, HK, HP, hzr, hzx, HL⟩ := hrel
        by_cases hlt : j < 3
        · have c1 := HB.out.r1.cell 1
          have f1 := HB.out.r1.frozen 1
          simp at c1
          have hnP : NotB PA (w.heap.size + 1) := fun e => absurd (HP.out.ltA _ e).1 (by omega)
          have HNP := Lib.hid hnP
          clear hnP
          go_wp2_with (at_builtin; refine wpList_pushPd rfl _ _ rfl wr w8.heap.size pc j PA (List.replicate j (15, false)) rfl List.length_replicate HP.out (by omega) hzx 15 false rfl ?_)
          intro g' cap' w5 hP5 hb5 hk5 hg5
          have c5 := (World.cell?_of_block (a := ⟨w.heap.size + 1, 1, none⟩) (hk5 _ (by show w.heap.size + 1 < _; omega) HNP.out)).trans c1
          have f5 := (World.frozen?_of_block (a := ⟨w.heap.size + 1, 1, none⟩) (hk5 _ (by show w.heap.size + 1 < _; omega) HNP.out)).trans f1
          have HE5 : Hid (EBox w w5 (some ⟨g, 0, none⟩) 25 tc PA j pc) := Lib.hid (HB.out.on (fun b hb => hk5 b (by omega) (fun e => absurd (HP.out.ltA _ e).1 (by omega))))
          have HE6 := Lib.hid (HE5.out.setP (some ⟨g', 0, none⟩) (j + 1) cap')
          have HK6 : Hid (∀ b, w.heap.size + 2 ≤ b → b < w8.heap.size → (w5.setCell ⟨w.heap.size + 1, 1, none⟩ (.slice (some ⟨g', 0, none⟩) (j + 1) cap')).heap[b]? = w8.heap[b]?) := Lib.hid (fun b h1 h2 => (Below.heap_setCell _ _ _ _ (by show b ≠ w.heap.size + 1; omega)).trans ((hk5 b (by omega) (fun e => absurd (HP.out.ltA _ e).1 (by omega))).trans (HK.out b h1 h2)))
          have hz5 := hb5.size
          have HP6 := Lib.hid (hP5.set ⟨w.heap.size + 1, 1, none⟩ (by show w.heap.size + 1 < w8.heap.size; omega) (.slice (some ⟨g', 0, none⟩) (j + 1) cap'))
          have HL6 := Lib.hid ((HL.out.trans (hb5.mono (by omega))).setCell (p := ⟨w.heap.size + 1, 1, none⟩) (by show w.heap.size ≤ w.heap.size + 1; omega) (.slice (some ⟨g', 0, none⟩) (j + 1) cap'))
          have hz7 : w8.heap.size ≤ (w5.setCell ⟨w.heap.size + 1, 1, none⟩ (.slice (some ⟨g', 0, none⟩) (j + 1) cap')).heap.size := by simp [World.setCell]; omega
          have HRE : Hid (List.replicate j ((15 : Int), false) ++ [((15 : Int), false)] = List.replicate (j + 1) ((15 : Int), false)) := Lib.hid (by rw [List.replicate_succ'])
          rw [HRE.out] at HP6
          clear HE5 hP5 hk5 hb5 hg5 c1 f1 HK HB HP HL HRE
          go_wp2
          go_roundw
          case rel => exact ⟨j + 1, some ⟨g', 0, none⟩, cap', by omega, by go_num, HE6, HK6, HP6, hzr, hz7, HL6⟩
          case measure => simp [intOf]; omega
        · obtain rfl : j = 3 := by omega
          obtain ⟨gp, rfl⟩ := HP.out.ptr (by simp)
          have c0 := HB.out.r1.cell 0
          have c1 := HB.out.r1.cell 1
          have d0 := HB.out.r0.cell 0
          have d1 := HB.out.r0.cell 1
          have e0 := HB.out.r0.frozen 0
          have e1 := HB.out.r0.frozen 1
          simp at c0 c1 d0 d1
          have HT9 := HT8.out.keep (w' := wr) (fun b h1 h2 => HK.out b h1 h2) hzx
          have hR0 := (HB.out.r0.set 0 (.slice (some ⟨g, 0, none⟩) 25 tc)).set 1 (.slice (some ⟨gp, 0, none⟩) 3 pc)
          have HCF : Hid (CfAt ((wr.setCell ⟨w.heap.size, 0, none⟩ (.slice (some ⟨g, 0, none⟩) 25 tc)).setCell ⟨w.heap.size, 1, none⟩ (.slice (some ⟨gp, 0, none⟩) 3 pc)) w.heap.size (List.replicate 25 etl) (List.replicate 3 (15, false)) hs (some ⟨g, 0, none⟩) tc (some ⟨gp, 0, none⟩) pc) := Lib.hid ⟨((HT9.set ⟨w.heap.size, 0, none⟩ (by show w.heap.size < w.heap.size + 2; omega) _).set ⟨w.heap.size, 1, none⟩ (by show w.heap.size < w.heap.size + 2; omega) _).low (by omega), ((HP.out.set ⟨w.heap.size, 0, none⟩ (by show w.heap.size < w8.heap.size; omega) _).set ⟨w.heap.size, 1, none⟩ (by show w.heap.size < w8.heap.size; omega) _).low (by omega), HD.out.1⟩
          have HLf := Lib.hid ((HL.out.setCell (p := ⟨w.heap.size, 0, none⟩) (by show w.heap.size ≤ w.heap.size; omega) (.slice (some ⟨g, 0, none⟩) 25 tc)).setCell (p := ⟨w.heap.size, 1, none⟩) (by show w.heap.size ≤ w.heap.size; omega) (.slice (some ⟨gp, 0, none⟩) 3 pc))
          have t0 := hR0.cell 0
          have t1 := hR0.cell 1
          simp at t0 t1
          have HDD := HD
          clear HK HP HL HT9 hR0 HT8
          go_wp2
          refine bodyPost_ret (v := cfv (some ⟨g, 0, none⟩) 25 tc (some ⟨gp, 0, none⟩) 3 pc) (by simp [results, Try.results14, go_sem, t0, t1]) rfl ⟨g, tc, gp, pc, hs, rfl, HCF.out, HDD.out.2.mono (by simp [World.setCell]; omega), HLf.out⟩
end Go.Proofs.Ytkkkkalgfmddbaa
/- The contract of the model's EmptyConfig. -/
namespace Go.Proofs.Ytkkkkalgfmddbaa
open Go.RowKit Go.Deep

theorem leafZ_own {w : World} {B g cap : Nat} {xs : List Int} {T : Nat → Prop} (h : LzAt w B xs (some ⟨g, 0, none⟩) cap) (hg : T g) : LeafZ w T (some ⟨g, 0, none⟩) xs := own_leafZ h rfl hg
theorem LzAt.set {w : World} {B cap : Nat} {xs : List Int} {A : Option Addr} (h : LzAt w B xs A cap) (p : Addr) (hp : p.block < B) (u : Value) : LzAt (w.setCell p u) B xs A cap := h.keep (fun b h1 _ => Below.heap_setCell _ _ _ _ (by omega))
set_option maxRecDepth 10000 in
set_option maxHeartbeats 3200000 in
theorem sempty_any (w : World) : Calls Try.prog 17 #[] w (EOut w) := by
  have hmk : ∀ W, (Instr.makeSlice 31 (.int .i64 8) (.int .i64 8)).run Try.prog W = .ok (.slice (some ⟨W.heap.size, 0, none⟩) 8 8) (W.alloc (.cells (madeCells #[.int .i64 0] 8) 3)) := fun W => run_make_row' (P := Try.prog) 31 3 (.int .i64 0) 8 Try.underlying31 Try.info3 rfl .i64 .i64 8 (by omega) (by omega) W
  have hb0 : EBox w ((w.alloc (.cells #[.slice none 0 0, .slice none 0 0] 26)).alloc (.cells #[.slice none 0 0, .slice none 0 0] 26)) none 0 0 none 0 0 := ⟨row_o1 w _ _ _, row_n1 w _ _ _⟩
  have HB0 := Lib.hid hb0
  have HL0 := Lib.hid (((Below.refl _ w).alloc (Nat.le_refl _) (.cells #[.slice none 0 0, .slice none 0 0] 26)).alloc (by simp) (.cells #[.slice none 0 0, .slice none 0 0] 26))
  have hz0 : ((w.alloc (.cells #[.slice none 0 0, .slice none 0 0] 26)).alloc (.cells #[.slice none 0 0, .slice none 0 0] 26)).heap.size = w.heap.size + 2 := by simp
  clear hb0
  go_enter Try.func17, Try.ntmps17
  go_upto_region 2 with fail
  generalize (w.alloc (.cells #[.slice none 0 0, .slice none 0 0] 26)).alloc (.cells #[.slice none 0 0, .slice none 0 0] 26) = w0 at *
  have hz0' : w.heap.size + 2 ≤ w0.heap.size := by omega
  clear hz0
  generalize hZ : madeCells #[Value.int .i64 0] 8 = Z at *
  have HZ := Lib.hid hZ
  clear hZ
  go_wp2
  go_loopw [2] (fun iv wr => ∃ (k : Nat) (A : Option Addr) (tc : Nat) (hs : List Value), k ≤ 25 ∧ iv = .int .i64 k ∧ Hid (EBox w wr A k tc none 0 0) ∧ Hid (TlAt wr (w.heap.size + 2) (List.replicate k etl) hs A tc) ∧ Hid (DistH hs ∧ HdsLt hs wr.heap.size) ∧ w.heap.size + 2 ≤ wr.heap.size ∧ Hid (Below w.heap.size w wr)) (fun iv _ => 25 - (intOf iv).toNat)
  case atStart => exact ⟨0, none, 0, [], by omega, rfl, HB0, Lib.hid (TlAt.nil _ _), Lib.hid ⟨DistH.nil, fun u hu => by simp at hu⟩, hz0', HL0⟩
  case round =>
    clear HB0 HL0 hz0'
    obtain ⟨k, A, tc, hs, hk, rfl, HB, HT, HD, hzr, HL⟩ := hrel
    obtain ⟨w8, h8⟩ : ∃ w8, w8 = wr := ⟨_, rfl⟩
    subst h8
    by_cases hlt : k < 25
    · have HQ0 := Lib.hid (row_n1 w8 (.cells Z 3) 33 #[.int .i64 0, .slice none 0 0, .bool false, .slice (some ⟨w8.heap.size, 0, none⟩) 8 8])
      have HG0 := Lib.hid (row_o1 w8 (.cells #[.int .i64 0, .slice none 0 0, .bool false, .slice (some ⟨w8.heap.size, 0, none⟩) 8 8] 33) 3 Z)
      have HK0 : Hid (Below w8.heap.size w8 ((w8.alloc (.cells Z 3)).alloc (.cells #[.int .i64 0, .slice none 0 0, .bool false, .slice (some ⟨w8.heap.size, 0, none⟩) 8 8] 33))) := Lib.hid (((Below.refl _ _).alloc (Nat.le_refl _) _).alloc (by simp) _)
      have hzq : ((w8.alloc (.cells Z 3)).alloc (.cells #[.int .i64 0, .slice none 0 0, .bool false, .slice (some ⟨w8.heap.size, 0, none⟩) 8 8] 33)).heap.size = w8.heap.size + 2 := by simp
      go_upto_region 6 with fail
      rw [show decide ((k : Int) < 25) = true from by simp; omega]
      generalize (w8.alloc (.cells Z 3)).alloc (.cells #[.int .i64 0, .slice none 0 0, .bool false, .slice (some ⟨w8.heap.size, 0, none⟩) 8 8] 33) = w2 at *
      have hz2 : w8.heap.size + 2 ≤ w2.heap.size := by omega
      clear hzq hmk
      go_wp2
      go_loopw [4] (fun jv wx => ∃ (j : Nat) (SA : Option Addr) (sc : Nat), j ≤ 3 ∧ jv = .int .i64 j ∧ Hid (Row wx (w8.heap.size + 1) 33 #[.int .i64 0, .slice SA j sc, .bool false, .slice (some ⟨w8.heap.size, 0, none⟩) 8 8]) ∧ Hid (LzAt wx (w8.heap.size + 2) (List.replicate j 15) SA sc) ∧ Hid (Row wx w8.heap.size 3 Z) ∧ Hid (Below w8.heap.size w8 wx) ∧ w8.heap.size + 2 ≤ wx.heap.size) (fun jv _ => 3 - (intOf jv).toNat)
      case atStart => exact ⟨0, none, 0, by omega, rfl, HQ0, Lib.hid (LzAt.nil _ _), HG0, HK0, hz2⟩
      case round =>
        clear HQ0 HG0 HK0 hz2
        obtain ⟨j, SA, sc, hj, rfl, HQ, HS, HG, HK, hzx⟩ := hrel
        by_cases hlj : j < 3
        · have c1 := HQ.out.cell 1
          have f1 := HQ.out.frozen 1
          simp at c1
          have HNP : Hid (NotB SA (w8.heap.size + 1)) := Lib.hid (fun e => absurd (HS.out.ltA _ e).1 (by omega))
          have HNG : Hid (NotB SA w8.heap.size) := Lib.hid (fun e => absurd (HS.out.ltA _ e).1 (by omega))
          go_wp2_with (at_builtin; refine wpList_pushZ rfl _ _ rfl wr (w8.heap.size + 2) sc j SA (List.replicate j 15) rfl List.length_replicate HS.out (by omega) hzx 15 rfl ?_)
          intro g' cap' w5 hS5 hb5 hk5 hg5
          have hz5 := hb5.size
          have c5 := (World.cell?_of_block (a := ⟨w8.heap.size + 1, 1, none⟩) (hk5 _ (by show w8.heap.size + 1 < _; omega) HNP.out)).trans c1
          have f5 := (World.frozen?_of_block (a := ⟨w8.heap.size + 1, 1, none⟩) (hk5 _ (by show w8.heap.size + 1 < _; omega) HNP.out)).trans f1
          have HQ6 := Lib.hid (Row.set (show Row w5 _ _ _ from (hk5 _ (by omega) HNP.out).trans HQ.out) 1 (.slice (some ⟨g', 0, none⟩) (j + 1) cap'))
          have HG6 : Hid (Row (w5.setCell ⟨w8.heap.size + 1, 1, none⟩ (.slice (some ⟨g', 0, none⟩) (j + 1) cap')) w8.heap.size 3 Z) := Lib.hid ((Below.heap_setCell _ _ _ _ (by show w8.heap.size ≠ w8.heap.size + 1; omega)).trans ((hk5 _ (by omega) HNG.out).trans HG.out))
          have HS6 := Lib.hid (hS5.set ⟨w8.heap.size + 1, 1, none⟩ (by show w8.heap.size + 1 < w8.heap.size + 2; omega) (.slice (some ⟨g', 0, none⟩) (j + 1) cap'))
          have HK6 := Lib.hid ((HK.out.trans (hb5.mono (by omega))).setCell (p := ⟨w8.heap.size + 1, 1, none⟩) (by show w8.heap.size ≤ w8.heap.size + 1; omega) (.slice (some ⟨g', 0, none⟩) (j + 1) cap'))
          have hz7 : w8.heap.size + 2 ≤ (w5.setCell ⟨w8.heap.size + 1, 1, none⟩ (.slice (some ⟨g', 0, none⟩) (j + 1) cap')).heap.size := by simp [World.setCell]; omega
          have HRE : Hid (List.replicate j (15 : Int) ++ [15] = List.replicate (j + 1) 15) := Lib.hid (by rw [List.replicate_succ'])
          rw [HRE.out] at HS6
          clear hS5 hk5 hb5 hg5 c1 f1 HK HQ HS HG HNP HNG HRE
          go_wp2
          go_roundw
          case rel => exact ⟨j + 1, some ⟨g', 0, none⟩, cap', by omega, by go_num, HQ6, HS6, HG6, HK6, hz7⟩
          case measure => simp [intOf]; omega
        · obtain rfl : j = 3 := by omega
          obtain ⟨g1, rfl⟩ := HS.out.ptr (by simp)
          have c0 := HQ.out.cell 0
          have c1 := HQ.out.cell 1
          have c2 := HQ.out.cell 2
          have c3 := HQ.out.cell 3
          simp at c0 c1 c2 c3
          have HE3 : Hid (EBox w wr A k tc none 0 0) := Lib.hid (HB.out.on (fun b hb => HK.out.block b (by omega)))
          have b0 := HE3.out.r1.cell 0
          have fb := HE3.out.r1.frozen 0
          simp at b0
          have HT3 := Lib.hid (HT.out.on HK.out)
          have hg1 := (HS.out.ltA g1 rfl)
          have hle := HS.out.le
          simp at hle
          have HX1 := Lib.hid (leafZ_own (T := OffA wr (w.heap.size + 2) A) HS.out ⟨by omega, by omega, fun e => absurd (HT.out.ltA _ e).2 (by omega)⟩)
          have hG2 := HG.out
          rw [← HZ.out] at hG2
          have hg2 : w8.heap.size < wr.heap.size := hG2.lt
          have HX2 := Lib.hid (leaf08 (S := OffA wr (w.heap.size + 2) A) hG2 ⟨by omega, by omega, fun e => absurd (HT.out.ltA _ e).2 (by omega)⟩)
          have HNA : Hid (NotB A (w.heap.size + 1)) := Lib.hid (fun e => absurd (HT.out.ltA _ e).1 (by omega))
          clear hG2 HQ HS HG hj hlj
          go_wp2_with (at_builtin; refine wpList_pushTl rfl _ _ rfl wr (w.heap.size + 2) tc k A (List.replicate k etl) hs rfl List.length_replicate HT3.out (by omega) (by omega) 0 (some ⟨g1, 0, none⟩) 3 sc [15, 15, 15] false (some ⟨w8.heap.size, 0, none⟩) 8 8 [0, 0, 0, 0, 0, 0, 0, 0] rfl rfl rfl HX1.out HX2.out hle (by omega) ?_)
          intro g' cap' w5 hT5 hb5 hk5 hg5
          have hz5 := hb5.size
          have c5 := (World.cell?_of_block (a := ⟨w.heap.size + 1, 0, none⟩) (hk5 _ (by show w.heap.size + 1 < _; omega) HNA.out)).trans b0
          have f5 := (World.frozen?_of_block (a := ⟨w.heap.size + 1, 0, none⟩) (hk5 _ (by show w.heap.size + 1 < _; omega) HNA.out)).trans fb
          have HE5 : Hid (EBox w w5 A k tc none 0 0) := Lib.hid (HE3.out.on (fun b hb => hk5 b (by omega) (fun e => absurd (HT3.out.ltA _ e).1 (by omega))))
          have HD5 : Hid (DistH (hs ++ tlv 0 (some ⟨g1, 0, none⟩) 3 sc false (some ⟨w8.heap.size, 0, none⟩) 8 8) ∧ HdsLt (hs ++ tlv 0 (some ⟨g1, 0, none⟩) 3 sc false (some ⟨w8.heap.size, 0, none⟩) 8 8) w5.heap.size) := Lib.hid ⟨dist_snoc_tl HD.out.1 HD.out.2 (by omega) (Nat.le_refl _) (by omega), (HD.out.2.mono (by omega)).snoc (Nat.le_refl _) (by omega) (by omega)⟩
          have HE6 := Lib.hid (HE5.out.setT (some ⟨g', 0, none⟩) (k + 1) cap')
          have HT6 := Lib.hid (hT5.set ⟨w.heap.size + 1, 0, none⟩ (by show w.heap.size + 1 < w.heap.size + 2; omega) (.slice (some ⟨g', 0, none⟩) (k + 1) cap'))
          have HL6 := Lib.hid (((HL.out.trans (HK.out.mono (by omega))).trans (hb5.mono (by omega))).setCell (p := ⟨w.heap.size + 1, 0, none⟩) (by show w.heap.size ≤ w.heap.size + 1; omega) (.slice (some ⟨g', 0, none⟩) (k + 1) cap'))
          have hz6 : (w5.setCell ⟨w.heap.size + 1, 0, none⟩ (.slice (some ⟨g', 0, none⟩) (k + 1) cap')).heap.size = w5.heap.size := by simp [World.setCell]
          rw [← hz6] at HD5
          have hz7 : w.heap.size + 2 ≤ (w5.setCell ⟨w.heap.size + 1, 0, none⟩ (.slice (some ⟨g', 0, none⟩) (k + 1) cap')).heap.size := by omega
          have HRE : Hid (List.replicate k etl ++ [((0 : Int), ([15, 15, 15] : List Int), false, ([0, 0, 0, 0, 0, 0, 0, 0] : List Int))] = List.replicate (k + 1) etl) := Lib.hid (by rw [List.replicate_succ'])
          rw [HRE.out] at HT6
          clear HE5 hT5 hk5 hb5 hg5 b0 fb HE3 HT3 HX1 HX2 HT HB HD HL hz6 HRE HNA HK c0 c1 c2 c3
          go_wp2
          go_roundw
          case rel => exact ⟨k + 1, some ⟨g', 0, none⟩, cap', _, by omega, by go_num, HE6, HT6, HD5, hz7, HL6⟩
          case measure => simp [intOf]; omega
    · obtain rfl : k = 25 := by omega
      obtain ⟨g, rfl⟩ := HT.out.ptr (by simp)
      rw [show ((25 : Nat) : Int) = 25 from rfl]
      clear hlt hk hmk
      have HT8 := HT
      go_wp2
      go_loopw [5] (fun iv wx => ∃ (j : Nat) (PA : Option Addr) (pc : Nat), j ≤ 3 ∧ iv = .int .i64 j ∧ Hid (EBox w wx (some ⟨g, 0, none⟩) 25 tc PA j pc) ∧ Hid (∀ b, w.heap.size + 2 ≤ b → b < w8.heap.size → wx.heap[b]? = w8.heap[b]?) ∧ Hid (PdAt wx w8.heap.size (List.replicate j (15, false)) PA pc) ∧ w.heap.size + 2 ≤ w8.heap.size ∧ w8.heap.size ≤ wx.heap.size ∧ Hid (Below w.heap.size w wx)) (fun iv _ => 3 - (intOf iv).toNat)
      case atStart => exact ⟨0, none, 0, by omega, rfl, HB, Lib.hid (fun _ _ _ => rfl), Lib.hid (PdAt.nil _ _), hzr, Nat.le_refl _, HL⟩
      case round =>
        clear HB HT HL
        obtain ⟨j, PA, pc, hj, rfl, HB, HK, HP, hzr, hzx, HL⟩ := hrel
        by_cases hlt : j < 3
        · have c1 := HB.out.r1.cell 1
          have f1 := HB.out.r1.frozen 1
          simp at c1
          have hnP : NotB PA (w.heap.size + 1) := fun e => absurd (HP.out.ltA _ e).1 (by omega)
          have HNP := Lib.hid hnP
          clear hnP
          go_wp2_with (at_builtin; refine wpList_pushPd rfl _ _ rfl wr w8.heap.size pc j PA (List.replicate j (15, false)) rfl List.length_replicate HP.out (by omega) hzx 15 false rfl ?_)
          intro g' cap' w5 hP5 hb5 hk5 hg5
          have c5 := (World.cell?_of_block (a := ⟨w.heap.size + 1, 1, none⟩) (hk5 _ (by show w.heap.size + 1 < _; omega) HNP.out)).trans c1
          have f5 := (World.frozen?_of_block (a := ⟨w.heap.size + 1, 1, none⟩) (hk5 _ (by show w.heap.size + 1 < _; omega) HNP.out)).trans f1
          have HE5 : Hid (EBox w w5 (some ⟨g, 0, none⟩) 25 tc PA j pc) := Lib.hid (HB.out.on (fun b hb => hk5 b (by omega) (fun e => absurd (HP.out.ltA _ e).1 (by omega))))
          have HE6 := Lib.hid (HE5.out.setP (some ⟨g', 0, none⟩) (j + 1) cap')
          have HK6 : Hid (∀ b, w.heap.size + 2 ≤ b → b < w8.heap.size → (w5.setCell ⟨w.heap.size + 1, 1, none⟩ (.slice (some ⟨g', 0, none⟩) (j + 1) cap')).heap[b]? = w8.heap[b]?) := Lib.hid (fun b h1 h2 => (Below.heap_setCell _ _ _ _ (by show b ≠ w.heap.size + 1; omega)).trans ((hk5 b (by omega) (fun e => absurd (HP.out.ltA _ e).1 (by omega))).trans (HK.out b h1 h2)))
          have hz5 := hb5.size
          have HP6 := Lib.hid (hP5.set ⟨w.heap.size + 1, 1, none⟩ (by show w.heap.size + 1 < w8.heap.size; omega) (.slice (some ⟨g', 0, none⟩) (j + 1) cap'))
          have HL6 := Lib.hid ((HL.out.trans (hb5.mono (by omega))).setCell (p := ⟨w.heap.size + 1, 1, none⟩) (by show w.heap.size ≤ w.heap.size + 1; omega) (.slice (some ⟨g', 0, none⟩) (j + 1) cap'))
          have hz7 : w8.heap.size ≤ (w5.setCell ⟨w.heap.size + 1, 1, none⟩ (.slice (some ⟨g', 0, none⟩) (j + 1) cap')).heap.size := by simp [World.setCell]; omega
          have HRE : Hid (List.replicate j ((15 : Int), false) ++ [((15 : Int), false)] = List.replicate (j + 1) ((15 : Int), false)) := Lib.hid (by rw [List.replicate_succ'])
          rw [HRE.out] at HP6
          clear HE5 hP5 hk5 hb5 hg5 c1 f1 HK HB HP HL HRE
          go_wp2
          go_roundw
          case rel => exact ⟨j + 1, some ⟨g', 0, none⟩, cap', by omega, by go_num, HE6, HK6, HP6, hzr, hz7, HL6⟩
          case measure => simp [intOf]; omega
        · obtain rfl : j = 3 := by omega
          obtain ⟨gp, rfl⟩ := HP.out.ptr (by simp)
          have c0 := HB.out.r1.cell 0
          have c1 := HB.out.r1.cell 1
          have d0 := HB.out.r0.cell 0
          have d1 := HB.out.r0.cell 1
          have e0 := HB.out.r0.frozen 0
          have e1 := HB.out.r0.frozen 1
          simp at c0 c1 d0 d1
          have HT9 := HT8.out.keep (w' := wr) (fun b h1 h2 => HK.out b h1 h2) hzx
          have hR0 := (HB.out.r0.set 0 (.slice (some ⟨g, 0, none⟩) 25 tc)).set 1 (.slice (some ⟨gp, 0, none⟩) 3 pc)
          have HCF : Hid (CfAt ((wr.setCell ⟨w.heap.size, 0, none⟩ (.slice (some ⟨g, 0, none⟩) 25 tc)).setCell ⟨w.heap.size, 1, none⟩ (.slice (some ⟨gp, 0, none⟩) 3 pc)) w.heap.size (List.replicate 25 etl) (List.replicate 3 (15, false)) hs (some ⟨g, 0, none⟩) tc (some ⟨gp, 0, none⟩) pc) := Lib.hid ⟨((HT9.set ⟨w.heap.size, 0, none⟩ (by show w.heap.size < w.heap.size + 2; omega) _).set ⟨w.heap.size, 1, none⟩ (by show w.heap.size < w.heap.size + 2; omega) _).low (by omega), ((HP.out.set ⟨w.heap.size, 0, none⟩ (by show w.heap.size < w8.heap.size; omega) _).set ⟨w.heap.size, 1, none⟩ (by show w.heap.size < w8.heap.size; omega) _).low (by omega), HD.out.1⟩
          have HLf := Lib.hid ((HL.out.setCell (p := ⟨w.heap.size, 0, none⟩) (by show w.heap.size ≤ w.heap.size; omega) (.slice (some ⟨g, 0, none⟩) 25 tc)).setCell (p := ⟨w.heap.size, 1, none⟩) (by show w.heap.size ≤ w.heap.size; omega) (.slice (some ⟨gp, 0, none⟩) 3 pc))
          have t0 := hR0.cell 0
          have t1 := hR0.cell 1
          simp at t0 t1
          have HDD := HD
          clear HK HP HL HT9 hR0 HT8
          go_wp2
          refine bodyPost_ret (v := cfv (some ⟨g, 0, none⟩) 25 tc (some ⟨gp, 0, none⟩) 3 pc) (by simp [results, Try.results17, go_sem, t0, t1]) rfl ⟨g, tc, gp, pc, hs, rfl, HCF.out, HDD.out.2.mono (by simp [World.setCell]; omega), HLf.out⟩
end Go.Proofs.Ytkkkkalgfmddbaa
