/- Places in a list of lists that is laid end to end; no program. -/
import Derived.Test.YtliedgaefgomjaaGreatQD
import Derived.Test.YtliedgaefgomjaaGreatM1
import Derived.Test.YtliedgaefgomjaaGreatM6
import Derived.Test.YtliedgaefgomjaaGreatCD
import Derived.Deep.DeepCutAuto
import Derived.Deep.CutBlock
namespace Go.Proofs.YtliedgaefgomjaaGreat

/-- How many stand ahead of list r. -/
def sg {α : Type} : List (List α) → Nat → Nat
  | _, 0 => 0
  | [], _ + 1 => 0
  | a :: L, r + 1 => a.length + sg L r
theorem sg_step {α : Type} : ∀ (L : List (List α)) (r : Nat), r < L.length → sg L (r + 1) = sg L r + (L.getD r []).length
  | [], r, h => by simp at h
  | a :: L, 0, _ => by simp [sg]
  | a :: L, r + 1, h => by
    have := sg_step L r (by simpa using h)
    simp only [sg] at this ⊢
    rw [this]
    simp
    omega
theorem flat_get {α : Type} : ∀ (L : List (List α)) (r j : Nat), r < L.length → j < (L.getD r []).length → L.flatten[sg L r + j]? = (L.getD r [])[j]?
  | [], r, _, h, _ => by simp at h
  | a :: L, 0, j, _, hj => by
    simp at hj
    simp [sg, List.getElem?_append_left hj]
  | a :: L, r + 1, j, h, hj => by
    have := flat_get L r j (by simpa using h) (by simpa using hj)
    simp only [sg, List.flatten_cons]
    rw [List.getElem?_append_right (by omega), show a.length + sg L r + j - a.length = sg L r + j by omega, this]
    simp
theorem sg_le {α : Type} (L : List (List α)) (r : Nat) : ∀ d, r + d ≤ L.length → sg L r ≤ sg L (r + d)
  | 0, _ => Nat.le_refl _
  | d + 1, h => by
    have h1 := sg_step L (r + d) (by omega)
    have h2 := sg_le L r d (by omega)
    show _ ≤ sg L (r + d + 1)
    omega
theorem sg_lt {α : Type} (L : List (List α)) {r r' j j' : Nat} (h : r < r') (hr : r' < L.length) (hj : j < (L.getD r []).length) : sg L r + j < sg L r' + j' := by
  have h1 := sg_step L r (by omega)
  have h2 := sg_le L (r + 1) (r' - (r + 1)) (by omega)
  rw [show r + 1 + (r' - (r + 1)) = r' by omega] at h2
  omega
end Go.Proofs.YtliedgaefgomjaaGreat
/- The contract of mappingOf. -/
namespace Go.Proofs.YtliedgaefgomjaaGreat
open Go.RowKit Go.Deep Cut

theorem AllAt.capAt {w : World} {B g cap : Nat} {cs : List Cs} {HH : List (List Value)} (h : AllAt w B cs HH g cap) (v : Nat) (hv : v < cs.length) :
    ∃ (A' : Option Addr) (cap' : Nat), w.cell? ⟨g, v, none⟩ = some (.slice A' (cs.getD v []).length cap') ∧ (cs.getD v []).length ≤ cap' ∧ RowIn w (Off w B g) A' (HH.getD v []) (cs.getD v []) := by
  obtain ⟨hs, h1, h2⟩ := h
  obtain ⟨A', cap', e, hx⟩ := h2.2.2 v hv
  exact ⟨A', cap', by rw [h1.cellAt v (by have := h1.1; have := h2.1; omega)]; exact e.1, e.2, hx⟩
theorem row0 (w : World) (c0 c1 c2 : Array Value) (t0 t1 t2 : TypeId) : Row (((w.alloc (.cells c0 t0)).alloc (.cells c1 t1)).alloc (.cells c2 t2)).drew w.heap.size t0 c0 := (Below.heap_alloc _ _ _ (by simp; omega)).trans ((Below.heap_alloc _ _ _ (by simp)).trans (heap_alloc_new w _))
theorem row1 (w : World) (c0 c1 c2 : Array Value) (t0 t1 t2 : TypeId) : Row (((w.alloc (.cells c0 t0)).alloc (.cells c1 t1)).alloc (.cells c2 t2)).drew (w.heap.size + 1) t1 c1 := (Below.heap_alloc _ _ _ (by simp)).trans (by
  have h := heap_alloc_new (w.alloc (.cells c0 t0)) (.cells c1 t1)
  simpa using h)
theorem row2 (w : World) (c0 c1 c2 : Array Value) (t0 t1 t2 : TypeId) : Row (((w.alloc (.cells c0 t0)).alloc (.cells c1 t1)).alloc (.cells c2 t2)).drew (w.heap.size + 1 + 1) t2 c2 := by
  have h := heap_alloc_new ((w.alloc (.cells c0 t0)).alloc (.cells c1 t1)) (.cells c2 t2)
  rwa [show ((w.alloc (.cells c0 t0)).alloc (.cells c1 t1)).heap.size = w.heap.size + 1 + 1 by simp] at h
theorem rowB (w : World) (c0 c1 c2 : Array Value) (t0 t1 t2 : TypeId) : Below w.heap.size w (((w.alloc (.cells c0 t0)).alloc (.cells c1 t1)).alloc (.cells c2 t2)).drew := ((((Below.refl _ _).alloc (Nat.le_refl _) _).alloc (by simp) _).alloc (by simp; omega) _).drew

theorem late_cg {a b : List Nat} (h : ∀ v, a.getD v 0 = b.getD v 0) (x : List Nat) : late a x = late b x := late_congr (fun l _ => h l)
theorem better_cg {a b : List Nat} (h : ∀ v, a.getD v 0 = b.getD v 0) (x y : List Nat) : better a x y = better b x y := by simp only [better, late_cg h]
theorem pick_cg {a b : List Nat} (h : ∀ v, a.getD v 0 = b.getD v 0) (L : Cs) : ∀ m, pick a L m = pick b L m
  | 0 => rfl
  | m + 1 => by simp only [pick, better_cg h, pick_cg h L m]
theorem getD_over {α : Type} (l : List α) (d : α) {v : Nat} (h : l.length ≤ v) : l.getD v d = d := by rw [List.getD_eq_getElem?_getD, List.getElem?_eq_none h]; rfl
theorem setA {cs : Array Value} {nn j t : Nat} {M : List Nat} {z : Int} (hz : z = (t : Int)) (hj : j < nn) (hM : M.length = j) (h : cs.size = nn ∧ ∀ v, v < nn → cs[v]? = some (.int .i64 (M.getD v 0 : Nat))) :
    (cs.setIfInBounds j (.int .i64 z)).size = nn ∧ ∀ v, v < nn → (cs.setIfInBounds j (.int .i64 z))[v]? = some (.int .i64 ((M ++ [t]).getD v 0 : Nat)) := by
  subst hz
  refine ⟨by simpa using h.1, fun v hv => ?_⟩
  by_cases e : j = v
  · subst e
    rw [Array.getElem?_setIfInBounds_self_of_lt (by rw [h.1]; exact hj), Circ.getD_app_at _ _ _ _ hM.symm]
  · rw [Array.getElem?_setIfInBounds_ne e, h.2 v hv]
    by_cases e2 : v < M.length
    · rw [Circ.getD_app_lt _ _ _ _ e2]
    · rw [getD_over M 0 (by omega), getD_over (M ++ [t]) 0 (by rw [List.length_append, List.length_singleton]; omega)]
/-- A best cut's header: nil, or that of one of the cuts. -/
def HdrOf (HH : List (List Value)) (cs : List Cs) (v : Nat) (u : Value) (x : List Nat) : Prop := (x = [] ∧ ∃ n c, u = .slice none n c) ∨ ∃ j, (HH.getD v [])[j]? = some u ∧ j < (cs.getD v []).length ∧ (cs.getD v []).getD j [] = x
theorem setB {w : World} {s : Nat} {cs : Array Value} {HH : List (List Value)} {css : List Cs} {nn j m c : Nat} {A : Option Addr} {M : Cs} {x : List Nat} (hj : j < nn) (hM : M.length = j) (hm : x.length = m) (hx : IntsAt w s A (Opt.intL x)) (hp : HdrOf HH css j (.slice A m c) x) (h : cs.size = nn ∧ ∀ v, v < nn → ∃ (A' : Option Addr) (c' : Nat), cs[v]? = some (.slice A' (M.getD v []).length c') ∧ IntsAt w s A' (Opt.intL (M.getD v [])) ∧ HdrOf HH css v (.slice A' (M.getD v []).length c') (M.getD v [])) :
    (cs.setIfInBounds j (.slice A m c)).size = nn ∧ ∀ v, v < nn → ∃ (A' : Option Addr) (c' : Nat), (cs.setIfInBounds j (.slice A m c))[v]? = some (.slice A' ((M ++ [x]).getD v []).length c') ∧ IntsAt w s A' (Opt.intL ((M ++ [x]).getD v [])) ∧ HdrOf HH css v (.slice A' ((M ++ [x]).getD v []).length c') ((M ++ [x]).getD v []) := by
  subst hm
  refine ⟨by simpa using h.1, fun v hv => ?_⟩
  by_cases e : j = v
  · subst e
    rw [Array.getElem?_setIfInBounds_self_of_lt (by rw [h.1]; exact hj), Circ.getD_app_at _ _ _ _ hM.symm]
    exact ⟨A, c, rfl, hx, hp⟩
  · rw [Array.getElem?_setIfInBounds_ne e]
    obtain ⟨A', c', h1, h2, h3⟩ := h.2 v hv
    by_cases e2 : v < M.length
    · rw [Circ.getD_app_lt _ _ _ _ e2]; exact ⟨A', c', h1, h2, h3⟩
    · rw [getD_over M [] (by omega)] at h1 h2 h3
      rw [getD_over (M ++ [x]) [] (by rw [List.length_append, List.length_singleton]; omega)]
      exact ⟨A', c', h1, h2, h3⟩
theorem AllAt.leaf {w : World} {B g cap : Nat} {cs : List Cs} {HH : List (List Value)} (h : AllAt w B cs HH g cap) {v : Nat} (hv : v < cs.length) {A' : Option Addr} {n c : Nat} {x : List Nat} (hd : HdrOf HH cs v (.slice A' n c) x) : LeafIn w (Off w B g) A' x := by
  rcases hd with ⟨rfl, _⟩ | ⟨j, e1, hj, rfl⟩
  · exact .inl rfl
  · obtain ⟨hs, _, h2⟩ := h
    obtain ⟨A2, c2, _, hR⟩ := h2.2.2 v hv
    obtain ⟨A3, c3, e3, hL⟩ := hR.2.2 j hj
    rw [e1] at e3
    injection e3 with e3
    injection e3 with e3 _ _
    subst e3
    exact hL
theorem dist_of {HH : List (List Value)} {cs : List Cs} {xs : Cs} {cells : List Value} (hd : DistH HH.flatten) (hl : cells.length ≤ HH.length) (h : ∀ v, v < cells.length → ∃ u, cells[v]? = some u ∧ HdrOf HH cs v u (xs.getD v [])) : DistH cells := by
  intro j k hjk u v hu hv b hb hb'
  have hk := (List.getElem?_eq_some_iff.1 hv).1
  obtain ⟨u2, e1, p1⟩ := h j (by omega)
  obtain ⟨v2, e2, p2⟩ := h k hk
  rw [hu] at e1
  rw [hv] at e2
  injection e1 with e1
  injection e2 with e2
  subst e1 e2
  rcases p1 with ⟨_, n, c, rfl⟩ | ⟨i1, q1, _, _⟩
  · cases hb
  rcases p2 with ⟨_, n, c, rfl⟩ | ⟨i2, q2, _, _⟩
  · cases hb'
  have l1 := (List.getElem?_eq_some_iff.1 q1).1
  have l2 := (List.getElem?_eq_some_iff.1 q2).1
  exact hd (sg HH j + i1) (sg HH k + i2) (sg_lt HH hjk (by omega) l1) u v (by rw [flat_get HH j i1 (by omega) l1]; exact q1) (by rw [flat_get HH k i2 (by omega) l2]; exact q2) b hb hb'
/-- Slices of integers in blocks of their own from B on, their headers in a block of their own. -/
def OwnL (w : World) (B g : Nat) (xs : Cs) : Prop := ∃ cells, Row w g 23 cells ∧ B ≤ g ∧ cells.size = xs.length ∧ (∀ v, v < xs.length → ∃ (A' : Option Addr) (c' : Nat), cells[v]? = some (.slice A' (xs.getD v []).length c') ∧ LeafIn w (fun b => B ≤ b ∧ b < w.heap.size) A' (xs.getD v [])) ∧ DistH cells.toList
theorem OwnL.list {w : World} {B g : Nat} {xs : Cs} (h : OwnL w B g xs) : ListAt w w.heap.size (some ⟨g, 0, none⟩) xs := fun v hv => by
  obtain ⟨cells, hr, _, _, hk, _⟩ := h
  obtain ⟨A', c', e1, hx⟩ := hk v hv
  exact ⟨g, 0, rfl, hr.lt, A', c', by rw [Nat.zero_add]; exact (hr.cell v).trans e1, (hx.kept (fun _ _ => rfl) (T := fun b => b < w.heap.size) (fun b hb => hb.2)).ints⟩
theorem OwnL.below {w w' : World} {B g : Nat} {xs : Cs} (h : OwnL w B g xs) (hb : Below w.heap.size w w') : OwnL w' B g xs := by
  obtain ⟨cells, hr, h1, h2, hk, hd⟩ := h
  refine ⟨cells, hr.below hb hr.lt, h1, h2, fun v hv => ?_, hd⟩
  obtain ⟨A', c', e1, hx⟩ := hk v hv
  exact ⟨A', c', e1, hx.kept (fun b hb' => hb.block b hb'.2) (fun b hb' => ⟨hb'.1, Nat.lt_of_lt_of_le hb'.2 hb.size⟩)⟩
theorem LeafIn.far {w : World} {S : Nat → Prop} {A : Option Addr} {x : List Nat} (h : LeafIn w S A x) {g : Nat} (hS : ∀ b, S b → b ≠ g) (j : Nat) (u : Value) : LeafIn (w.setCell ⟨g, j, none⟩ u) S A x := by
  rcases h with h | ⟨b, cs, e, hs, hr, hc⟩
  · exact .inl h
  · exact .inr ⟨b, cs, e, hs, hr.far (p := ⟨g, j, none⟩) (hS b hs) u, hc⟩

set_option maxRecDepth 10000 in
set_option maxHeartbeats 2000000 in
theorem mappingOf_t (i : Int) (nA gA oA : Option Addr) (nc gc oc nn : Nat) (ns : List Int) (gs : List (Int × Int)) (os : List Int) (w : World) (hv : Circ.validB i ns gs os = true) (hnn : Opt.fst i ns + gs.length = nn) (hc : CircAt w w.heap.size nA gA oA ns gs os) :
    Calls Tryz.prog 81 #[.agg #[.int .i64 i, .slice nA ns.length nc, .slice gA gs.length gc, .slice oA os.length oc]] w fun e w' => ∃ (ab bb : Nat), e = .returned (.agg #[.slice (some ⟨ab, 0, none⟩) nn nn, .slice (some ⟨bb, 0, none⟩) nn nn]) ∧ IntsAt w' w'.heap.size (some ⟨ab, 0, none⟩) (Opt.intL (times (Opt.fst i ns) (Opt.natG gs))) ∧ OwnL w' w.heap.size bb (bests (Opt.fst i ns) (Opt.natG gs)) ∧ Below w.heap.size w w' := by
  obtain ⟨h0, h1, h2, h3, h4⟩ := Circ.valid_within hv
  have hfi : (Opt.fst i ns : Int) = 1 + i + (ns.length : Int) := by unfold Opt.fst; omega
  have hnn22 : nn ≤ 22 := by omega
  have HB0 := Lib.hid (Boxed.new w i nA gA oA ns.length nc gs.length gc os.length oc 26)
  have HW0 : Hid (Below w.heap.size w (w.alloc (.cells #[.int .i64 i, .slice nA ns.length nc, .slice gA gs.length gc, .slice oA os.length oc] 26))) := Lib.hid ((Below.refl _ _).alloc (Nat.le_refl _) _)
  have hsz0 : (w.alloc (.cells #[.int .i64 i, .slice nA ns.length nc, .slice gA gs.length gc, .slice oA os.length oc] 26)).heap.size = w.heap.size + 1 := by simp
  have HZ0 := Lib.hid hsz0
  have HC := Lib.hid hc
  have HV := Lib.hid hv
  have HNN := Lib.hid hnn
  have HFI := Lib.hid hfi
  clear hc hv hnn hsz0 hfi
  go_enter Tryz.func81, Tryz.ntmps81
  go_upto_region 1 with fail
  generalize w.alloc (.cells #[.int .i64 i, .slice nA ns.length nc, .slice gA gs.length gc, .slice oA os.length oc] 26) = w0 at *
  have HB1 := Lib.hid (HB0.out.below ((Below.refl w0.heap.size w0).alloc (Nat.le_refl _) (.cells #[.slice none 0 0, .slice none 0 0] 133)) (by rw [HZ0.out]; omega))
  have HL1 : Hid (Below w.heap.size w (w0.alloc (.cells #[.slice none 0 0, .slice none 0 0] 133))) := Lib.hid (HW0.out.alloc (by rw [HZ0.out]; omega) _)
  have HR1 : Hid (Row (w0.alloc (.cells #[.slice none 0 0, .slice none 0 0] 133)) (w.heap.size + 1) 133 #[.slice none 0 0, .slice none 0 0]) := Lib.hid (by
    have h := heap_alloc_new w0 (.cells #[.slice none 0 0, .slice none 0 0] 133)
    rwa [HZ0.out] at h)
  generalize w0.alloc (.cells #[.slice none 0 0, .slice none 0 0] 133) = w1 at *
  clear HW0 HB0 HZ0 w0
  obtain ⟨q0, q1, q2, q3⟩ := HB1.out
  go_wp2_with fail
  refine (icuts_t i nA gA oA nc gc oc ns gs os _ ((HC.out.below HL1.out).mono HL1.out.size) HV.out).mono ?_
  rintro e w2 ⟨gq, cq, HH, rfl, hx, hdd, hb2⟩
  have HDD := Lib.hid hdd
  have HHL : Hid (HH.length = nn) := Lib.hid (by obtain ⟨_, _, h2⟩ := hx; rw [h2.2.1, cuts_len, Opt.natG_len]; exact HNN.out)
  have hs1 : w.heap.size + 1 < w1.heap.size := HR1.out.lt
  clear hdd
  rw [show Opt.fst i ns + (Opt.natG gs).length = nn by rw [Opt.natG_len]; exact HNN.out]
  have HX2 := Lib.hid hx
  have hgq := hx.gb.2
  have HKK : Hid (∀ k, k < gs.length → GateK (Opt.fst i ns) k ((cuts (Opt.fst i ns) (Opt.natG gs)).getD (Opt.fst i ns + k) [])) := Lib.hid (fun k hk => by
    obtain ⟨o0, o1⟩ := Opt.natC_ok HV.out
    exact cuts_gateK o0 o1.ord k (by show k < (Opt.natG gs).length; rw [Opt.natG_len]; exact hk))
  have HCL : Hid ((cuts (Opt.fst i ns) (Opt.natG gs)).length = nn) := Lib.hid (by rw [cuts_len, Opt.natG_len]; exact HNN.out)
  have hRl := HR1.out.lt
  have HB2 := Lib.hid (HB1.out.below hb2 (by omega))
  have HR2 := Lib.hid (HR1.out.below hb2 hRl)
  have HL2 := Lib.hid (HL1.out.trans (hb2.mono HL1.out.size))
  have hs2 : w.heap.size + 1 < w2.heap.size := HR2.out.lt
  clear hx hb2 q0 q1 q2 q3 HB1 HR1 HL1 hRl
  have hmk1 := fun W => run_make_row' (P := Tryz.prog) 23 3 (.int .i64 0) 8 Tryz.underlying23 Tryz.info3 rfl .i64 .i64 nn (by omega) (by omega) W
  have hmk2 := fun W => run_make_row' (P := Tryz.prog) 125 23 (.slice none 0 0) 24 Tryz.underlying125 Tryz.info23 rfl .i64 .i64 nn (by omega) (by omega) W
  go_upto_region 2 with fail
  go_cut [4] (fun pv wx => ∃ (wz : World) (mb ab bb : Nat), wz = wx ∧ pv = .pointer (some ⟨mb, 0, none⟩) ∧ w2.heap.size ≤ mb ∧ w2.heap.size ≤ ab ∧ w2.heap.size ≤ bb ∧ mb ≠ ab ∧ mb ≠ bb ∧ ab ≠ bb ∧ Hid (Row wx mb 133 #[.slice (some ⟨ab, 0, none⟩) nn nn, .slice (some ⟨bb, 0, none⟩) nn nn]) ∧ Hid (Row wx ab 3 (madeCells #[.int .i64 0] nn)) ∧ Hid (Row wx bb 23 (madeCells #[.slice none 0 0] nn)) ∧ Hid (Below w2.heap.size w2 wx))
  case first =>
    go_region
    all_goals
      go_wp2_with fail
      go_meet
    all_goals first
      | (refine ⟨_, _, _, _, rfl, rfl, ?_, ?_, ?_, ?_, ?_, ?_, Lib.hid (row2 w2 _ _ _ _ _ _), Lib.hid (row0 w2 _ _ _ _ _ _), Lib.hid (row1 w2 _ _ _ _ _ _), Lib.hid (rowB w2 _ _ _ _ _ _)⟩ <;> omega)
      | (refine ⟨_, _, _, _, rfl, rfl, ?_, ?_, ?_, ?_, ?_, ?_, Lib.hid (row1 w2 _ _ _ _ _ _), Lib.hid (row0 w2 _ _ _ _ _ _), Lib.hid (row2 w2 _ _ _ _ _ _), Lib.hid (rowB w2 _ _ _ _ _ _)⟩ <;> omega)
      | (refine ⟨_, _, _, _, rfl, rfl, ?_, ?_, ?_, ?_, ?_, ?_, Lib.hid (row2 w2 _ _ _ _ _ _), Lib.hid (row1 w2 _ _ _ _ _ _), Lib.hid (row0 w2 _ _ _ _ _ _), Lib.hid (rowB w2 _ _ _ _ _ _)⟩ <;> omega)
      | (refine ⟨_, _, _, _, rfl, rfl, ?_, ?_, ?_, ?_, ?_, ?_, Lib.hid (row1 w2 _ _ _ _ _ _), Lib.hid (row2 w2 _ _ _ _ _ _), Lib.hid (row0 w2 _ _ _ _ _ _), Lib.hid (rowB w2 _ _ _ _ _ _)⟩ <;> omega)
      | (refine ⟨_, _, _, _, rfl, rfl, ?_, ?_, ?_, ?_, ?_, ?_, Lib.hid (row0 w2 _ _ _ _ _ _), Lib.hid (row1 w2 _ _ _ _ _ _), Lib.hid (row2 w2 _ _ _ _ _ _), Lib.hid (rowB w2 _ _ _ _ _ _)⟩ <;> omega)
      | (refine ⟨_, _, _, _, rfl, rfl, ?_, ?_, ?_, ?_, ?_, ?_, Lib.hid (row0 w2 _ _ _ _ _ _), Lib.hid (row2 w2 _ _ _ _ _ _), Lib.hid (row1 w2 _ _ _ _ _ _), Lib.hid (rowB w2 _ _ _ _ _ _)⟩ <;> omega)
  case rest =>
    clear hmk1 hmk2
    obtain ⟨wa, mb, ab, bb, hwa, rfl, hm1, ha1, hb1, n1, n2', n3, HM, HA, HBB, HB⟩ := hcut
    subst hwa
    have HB3 := Lib.hid (HB2.out.below HB.out (by omega))
    obtain ⟨q0, q1, q2, q3⟩ := HB3.out
    go_upto_region 4 with fail
    go_wp2_with fail
    refine (firstGate_any _ _ _ _ _ _ _ _ _ _ _ (by omega) (by omega) (by omega)).mono ?_
    rintro e w4 ⟨rfl, hb4⟩
    rw [← HFI.out]
    have hbs : w2.heap.size ≤ wa.heap.size := HB.out.size
    have HM4 := Lib.hid (HM.out.below hb4 HM.out.lt)
    have HA4 := Lib.hid (HA.out.below hb4 HA.out.lt)
    have HBB4 := Lib.hid (HBB.out.below hb4 HBB.out.lt)
    have HB4 := Lib.hid (HB.out.trans (hb4.mono hbs))
    clear hb4 q0 q1 q2 q3 HB3 HM HA HBB HB hbs
    generalize hf : Opt.fst i ns = f at *
    have HFE := Lib.hid hf
    clear hf
    generalize hcs : cuts f (Opt.natG gs) = cs at *
    have HCS := Lib.hid hcs
    clear hcs
    have HA0 : Hid ((madeCells #[.int .i64 0] nn).size = nn ∧ ∀ v, v < nn → (madeCells #[.int .i64 0] nn)[v]? = some (.int .i64 ((mapTo f cs 0).2.getD v 0 : Nat))) := Lib.hid ⟨size_madeCells _ _, fun v hv => by
      have e : (mapTo f cs 0).2.getD v 0 = 0 := Nat.le_zero.1 (arr_le f cs 0 v)
      rw [made_int nn v hv, e]; rfl⟩
    have HBB0 : Hid ((madeCells #[.slice none 0 0] nn).size = nn ∧ ∀ v, v < nn → ∃ (A' : Option Addr) (c' : Nat), (madeCells #[.slice none 0 0] nn)[v]? = some (.slice A' ((mapTo f cs 0).1.getD v []).length c') ∧ IntsAt w2 w2.heap.size A' (Opt.intL ((mapTo f cs 0).1.getD v [])) ∧ HdrOf HH cs v (.slice A' ((mapTo f cs 0).1.getD v []).length c') ((mapTo f cs 0).1.getD v [])) := Lib.hid ⟨size_madeCells _ _, fun v hv => by
      have e : (mapTo f cs 0).1.getD v [] = [] := by
        show (List.replicate f ([] : List Nat)).getD v [] = []
        rw [List.getD_eq_getElem?_getD, List.getElem?_replicate]; split <;> rfl
      rw [e]
      refine ⟨none, 0, ?_, fun j hj => absurd hj (by simp [Opt.intL]), .inl ⟨rfl, _, _, rfl⟩⟩
      have h := made_toList (.slice none 0 0) nn
      rw [← Array.getElem?_toList, h, List.getElem?_replicate, if_pos hv]; rfl⟩
    go_upto_region 5 with fail
    go_loopw [6] (fun kv wr => ∃ (k : Nat) (csA csB : Array Value), f + k ≤ nn ∧ kv = .int .i64 ((f + k : Nat) : Int) ∧ Hid (Row wr mb 133 #[.slice (some ⟨ab, 0, none⟩) nn nn, .slice (some ⟨bb, 0, none⟩) nn nn]) ∧ Hid (Row wr ab 3 csA) ∧ Hid (Row wr bb 23 csB) ∧ Hid (csA.size = nn ∧ ∀ v, v < nn → csA[v]? = some (.int .i64 ((mapTo f cs k).2.getD v 0 : Nat))) ∧ Hid (csB.size = nn ∧ ∀ v, v < nn → ∃ (A' : Option Addr) (c' : Nat), csB[v]? = some (.slice A' ((mapTo f cs k).1.getD v []).length c') ∧ IntsAt w2 w2.heap.size A' (Opt.intL ((mapTo f cs k).1.getD v [])) ∧ HdrOf HH cs v (.slice A' ((mapTo f cs k).1.getD v []).length c') ((mapTo f cs k).1.getD v [])) ∧ Hid (Below w2.heap.size w2 wr)) (fun kv _ => nn - (intOf kv).toNat)
    case atStart => exact ⟨0, _, _, by have := HNN.out; omega, rfl, HM4, HA4, HBB4, HA0, HBB0, HB4⟩
    case round =>
      clear HM4 HA4 HBB4 HA0 HBB0 HB4
      obtain ⟨k, csA, csB, hk, rfl, HM, HA, HBB, HAV, HBV, HB⟩ := hrel
      by_cases hlt : f + k < nn
      · have hkg : k < gs.length := by have := HNN.out; omega
        obtain ⟨B1, d1, hcA, hcap, hbA⟩ := HX2.out.capAt (f + k) (by rw [HCL.out]; exact hlt)
        have HRI := Lib.hid hbA
        have HLst : Hid (ListAt w2 w2.heap.size B1 (cs.getD (f + k) [])) := Lib.hid (hbA.lists.at (fun b hb => hb.2.1))
        have HGK := Lib.hid (HKK.out k hkg)
        rw [← HB.out.cell (p := ⟨gq, f + k, none⟩) hgq] at hcA
        clear hbA
        generalize hL : cs.getD (f + k) [] = L at *
        have HLE := Lib.hid hL
        clear hL
        obtain ⟨n2, HN2, hn2, hn22⟩ : ∃ n2, Hid (L.length = n2) ∧ n2 ≤ 9 ∧ 2 ≤ n2 := ⟨_, Lib.hid rfl, HGK.out.len, HGK.out.two⟩
        rw [HN2.out] at hcA hcap
        have i1 : (0 : Int) ≤ ((f + k : Nat) : Int) := by omega
        have i2 : ((f + k : Nat) : Int) < (nn : Int) := by omega
        have i3 : IntKind.i64.wrap ((n2 : Int) - 1) = (n2 : Int) - 1 := IntWalk.i64_in _ (by omega)
        go_upto_region 7 with fail
        go_quiet (fail)
        clear i3 hcA
        have HBq := Lib.hid (below_drewN HB.out nq)
        have HMq : Hid (Row (wr.drewN nq) mb 133 #[.slice (some ⟨ab, 0, none⟩) nn nn, .slice (some ⟨bb, 0, none⟩) nn nn]) := Lib.hid HM.out
        have HAq : Hid (Row (wr.drewN nq) ab 3 csA) := Lib.hid HA.out
        have HBBq : Hid (Row (wr.drewN nq) bb 23 csB) := Lib.hid HBB.out
        clear HB HM HA HBB
        generalize wr.drewN nq = wq at *
        clear wr
        obtain ⟨arrP, HPL, HPG⟩ : ∃ arrP : List Nat, Hid (arrP.length = nn) ∧ Hid (∀ v, arrP.getD v 0 = (mapTo f cs k).2.getD v 0) := by
          refine ⟨(mapTo f cs k).2 ++ List.replicate (nn - (f + k)) 0, Lib.hid (by rw [List.length_append, List.length_replicate, (mapTo_len f cs k).2]; omega), Lib.hid (fun v => ?_)⟩
          by_cases hv : v < (mapTo f cs k).2.length
          · exact Circ.getD_app_lt _ _ _ _ hv
          · rw [List.getD_eq_getElem?_getD, List.getElem?_append_right (by omega), List.getElem?_replicate, List.getD_eq_getElem?_getD, List.getElem?_eq_none (by omega)]
            split <;> rfl
        have HPI : Hid (IntsAt wq wq.heap.size (some ⟨ab, 0, none⟩) (Opt.intL arrP)) := Lib.hid (fun v hv => by
          rw [Opt.intL_len, HPL.out] at hv
          refine ⟨ab, 0, rfl, HAq.out.lt, ?_⟩
          rw [Nat.zero_add, Opt.intL_at, HPG.out]
          exact (HAq.out.cell v).trans (HAV.out.2 v hv))
        have HPB : Hid (∀ v, arrP.getD v 0 ≤ 1000) := Lib.hid (fun v => by rw [HPG.out]; exact Nat.le_trans (arr_le f cs k v) (by omega))
        have HLq := Lib.hid ((HLst.out.below HBq.out).mono HBq.out.size)
        have q0 := HMq.out.cell 0
        have q1 := HMq.out.cell 1
        simp at q0 q1
        have hmbl := HMq.out.lt
        have hbbl := HBBq.out.lt
        obtain ⟨Ao, co, eo, _⟩ := HBV.out.2 (f + k) (by omega)
        have g0 := (HBBq.out.cell (f + k)).trans eo
        have g1 := HBBq.out.frozen (f + k)
        have HG0 := Lib.hid g0
        have HG1 := Lib.hid g1
        clear g0 g1 eo
        have j1 : (0 : Int) ≤ (f : Int) + (k : Int) := by omega
        have j2 : (f : Int) + (k : Int) < (nn : Int) := by omega
        have j3 : ((f : Int) + (k : Int)).toNat = f + k := by omega
        have hbm : bb ≠ mb := fun h => n2' h.symm
        go_upto_region 8 with fail
        go_region_held3 (fun w' => w'.cell? ⟨mb, 0, none⟩ = some (.slice (some ⟨ab, 0, none⟩) nn nn) ∧ w'.cell? ⟨mb, 1, none⟩ = some (.slice (some ⟨bb, 0, none⟩) nn nn))
          (first | go_keep | (refine ⟨?_, ?_⟩ <;> (rw [hc3 _ _ (by simp; omega)]; simp [*])) | (refine ⟨?_, ?_⟩ <;> (rw [World.cell?_setCell_far _ _ _ _ hbm, hc3 _ _ (by simp; omega)]; simp [*])))
          (first | (go_at_call 101; refine (minFunc_any (some ⟨ab, 0, none⟩) B1 (some ⟨bb, 0, none⟩) mb nn nn (n2 - 1) nn d1 nn arrP L _ ?_ ?_ HPL.out ?_ ?_ ?_ ?_ ?_ HPB.out ?_ ?_ ?_).mono ?_; (exact HPI.out.below (Below.refl _ wq).drew); (exact HLq.out.below (Below.refl _ wq).drew); (rw [HN2.out]; omega); (omega); (omega); (intro j hj; have := HGK.out.fit j (by rw [HN2.out]; omega); omega); (intro j hj l hl; have := HGK.out.lt j (by rw [HN2.out]; omega) l hl; omega); (exact hmbl); (exact q0); (exact q1); rintro e w6 ⟨v, rfl, ⟨b4, off4, A4, c4, e4, rfl, hc4, hi4⟩, hb6⟩; obtain ⟨hc3, hf3⟩ := bcell hb6; have g0 := (hc3 bb (f + k) hbbl).trans HG0.out; have g1 := (hf3 bb (f + k) hbbl).trans HG1.out))
        rename_i _hheld8
        clear _hheld8
        have hpk := pick_le arrP L (n2 - 1 - 1)
        obtain ⟨⟨bL, csL, eL, hbL, hrL, hcR⟩, hhR⟩ := HRI.out
        obtain ⟨AL, cL, eH, hLf⟩ := hhR.2 (pick arrP L (n2 - 1 - 1)) (by rw [HN2.out]; omega)
        have hHP : HdrOf HH cs (f + k) (.slice AL (L.getD (pick arrP L (n2 - 1 - 1)) []).length cL) (L.getD (pick arrP L (n2 - 1 - 1)) []) := .inr ⟨_, eH, by rw [HLE.out, HN2.out]; omega, by rw [HLE.out]⟩
        rw [e4] at eL
        injection eL with eL
        injection eL with x1 x2
        subst x1 x2
        have hcL : w2.cell? ⟨b4, 0 + pick arrP L (n2 - 1 - 1), none⟩ = some (.slice AL (L.getD (pick arrP L (n2 - 1 - 1)) []).length cL) := by
          rw [Nat.zero_add, hrL.cell, hcR _ (by rw [hhR.1, HN2.out]; omega)]
          exact eH
        have hE := hcL.symm.trans ((HBq.out.cell (p := ⟨b4, 0 + pick arrP L (n2 - 1 - 1), none⟩) hbL.2.1).symm.trans hc4)
        injection hE with hE
        injection hE with x1 x2 x3
        subst x1 x3
        have hiL := hLf.ints
        have HPE : Hid (bestOf (mapTo f cs k).2 L = L.getD (pick arrP L (n2 - 1 - 1)) []) := Lib.hid (by
          unfold bestOf
          rw [HN2.out, pick_cg HPG.out, show n2 - 2 = n2 - 1 - 1 by omega])
        have hft := HGK.out.fit (pick arrP L (n2 - 1 - 1)) (by rw [HN2.out]; omega)
        have HLT := Lib.hid (HGK.out.lt (pick arrP L (n2 - 1 - 1)) (by rw [HN2.out]; omega))
        have HIX : Hid (IntsAt w2 w2.heap.size AL (Opt.intL (L.getD (pick arrP L (n2 - 1 - 1)) []))) := Lib.hid (IntsIn.at (B := w2.heap.size) hiL (fun _ h => h.2.1))
        have HHP := Lib.hid hHP
        rw [List.getD_eq_getElem?_getD] at hft HLT HIX HPE HHP
        clear hiL hcL hc4 hi4 g0 g1 x2 hc3 hf3 hHP hLf eH hcR hhR hrL hbL
        obtain ⟨x, HXE⟩ : ∃ x, Hid (L[pick arrP L (n2 - 1 - 1)]?.getD [] = x) := ⟨_, Lib.hid rfl⟩
        obtain ⟨m, HXM, hm3⟩ : ∃ m, Hid (x.length = m) ∧ m ≤ 3 := ⟨_, Lib.hid rfl, by rw [← HXE.out]; exact hft⟩
        rw [HXE.out] at HIX HPE HLT HHP ⊢
        rw [HXM.out] at HHP ⊢
        clear hft HXE hpk
        have hq6 : wq.heap.size ≤ w6.heap.size := hb6.size
        have HM6 := (Row.below (w := wq.drew) HMq.out hb6 hmbl)
        have HA6 := (Row.below (w := wq.drew) HAq.out hb6 HAq.out.lt)
        have HB6 := (Row.below (w := wq.drew) HBBq.out hb6 hbbl)
        have HL6 : Below w2.heap.size w2 w6 := HBq.out.drew.trans (hb6.mono HBq.out.size)
        have HM7 := Lib.hid (HM6.far (p := ⟨bb, f + k, none⟩) n2' (.slice AL m cL))
        have HA7 := Lib.hid (HA6.far (p := ⟨bb, f + k, none⟩) n3 (.slice AL m cL))
        have HB7 := Lib.hid (HB6.set (f + k) (.slice AL m cL))
        have HL7 := Lib.hid (HL6.setCell (p := ⟨bb, f + k, none⟩) hb1 (.slice AL m cL))
        clear HM6 HA6 HB6 HL6 hb6 q0 q1 HG0 HG1
        generalize w6.setCell ⟨bb, f + k, none⟩ (.slice AL m cL) = w7 at *
        have hal7 := HA7.out.lt
        have hbl7 := HB7.out.lt
        have hml7 := HM7.out.lt
        have HPI7 : Hid (IntsAt w7 w7.heap.size (some ⟨ab, 0, none⟩) (Opt.intL arrP)) := Lib.hid (fun v hv => by
          rw [Opt.intL_len, HPL.out] at hv
          refine ⟨ab, 0, rfl, hal7, ?_⟩
          rw [Nat.zero_add, Opt.intL_at, HPG.out]
          exact (HA7.out.cell v).trans (HAV.out.2 v hv))
        have HIX7 := Lib.hid ((HIX.out.below HL7.out).mono HL7.out.size)
        have q0 := HM7.out.cell 0
        have q1 := HM7.out.cell 1
        simp at q0 q1
        have q2 := HB7.out.cell (f + k)
        rw [Array.getElem?_setIfInBounds_self_of_lt (by rw [HBV.out.1]; exact hlt)] at q2
        have q3 := HA7.out.cell (f + k)
        rw [HAV.out.2 (f + k) hlt] at q3
        have f3 := HA7.out.frozen (f + k)
        have HQ3 := Lib.hid q3
        have HF3 := Lib.hid f3
        have hle := late_le (arr := arrP) (n := 1000) (x := x) (fun l _ => HPB.out l)
        have HLTE : Hid (late (mapTo f cs k).2 x = late arrP x) := Lib.hid (late_cg (fun v => (HPG.out v).symm) x)
        generalize hlv : late arrP x = t at *
        have HLV := Lib.hid hlv
        clear hlv q3 f3
        have n1' : ab ≠ mb := fun h => n1 h.symm
        go_upto_region 9 with fail
        go_region_held3 (fun w' => w'.cell? ⟨mb, 0, none⟩ = some (.slice (some ⟨ab, 0, none⟩) nn nn) ∧ w'.cell? ⟨mb, 1, none⟩ = some (.slice (some ⟨bb, 0, none⟩) nn nn) ∧ w'.cell? ⟨bb, f + k, none⟩ = some (.slice AL m cL))
          (first | go_keep | (refine ⟨?_, ?_, ?_⟩ <;> (rw [hc3 _ _ (by simp; omega)]; simp [*])) | (refine ⟨?_, ?_, ?_⟩ <;> (first | rw [World.cell?_setCell_far _ _ _ _ n1'] | rw [World.cell?_setCell_far _ _ _ _ n3]) <;> (rw [hc3 _ _ (by simp; omega)]; simp [*])))
          (first | (go_at_call 99; refine (latest_any (some ⟨ab, 0, none⟩) AL (some ⟨bb, 0, none⟩) nn m nn nn cL nn arrP x _ ?_ ?_ HPL.out HXM.out ?_ ?_ HPB.out).mono ?_; (exact HPI7.out.below (Below.refl _ w7).drew); (exact HIX7.out.below (Below.refl _ w7).drew); (omega); (intro l hl; have := HLT.out l hl; omega); rintro e w8 ⟨rfl, hb8⟩; rw [HLV.out]; obtain ⟨hc3, hf3⟩ := bcell hb8; have g0 := (hc3 ab (f + k) hal7).trans HQ3.out; have g1 := (hf3 ab (f + k) hal7).trans HF3.out))
        rename_i _hheld9
        clear _hheld9
        have hw1 : IntKind.i64.wrap (1 + (t : Int)) = 1 + (t : Int) := IntWalk.i64_in _ (by omega)
        rw [hw1]
        clear hw1 q0 q1 q2 g0 g1 hc3 hf3
        have HM8 := (Row.below (w := w7.drew) HM7.out hb8 hml7)
        have HA8 := (Row.below (w := w7.drew) HA7.out hb8 hal7)
        have HB8 := (Row.below (w := w7.drew) HB7.out hb8 hbl7)
        have HL8 : Below w2.heap.size w2 w8 := HL7.out.drew.trans (hb8.mono HL7.out.size)
        have HM9 := Lib.hid (HM8.far (p := ⟨ab, f + k, none⟩) n1 (.int .i64 (1 + (t : Int))))
        have HB9 := Lib.hid (HB8.far (p := ⟨ab, f + k, none⟩) (fun h => n3 h.symm) (.int .i64 (1 + (t : Int))))
        have HA9 := Lib.hid (HA8.set (f + k) (.int .i64 (1 + (t : Int))))
        have HL9 := Lib.hid (HL8.setCell (p := ⟨ab, f + k, none⟩) ha1 (.int .i64 (1 + (t : Int))))
        have HSA := Lib.hid (setA (z := 1 + (t : Int)) (t := 1 + t) (by omega) hlt (mapTo_len f cs k).2 HAV.out)
        have HSB := Lib.hid (setB (c := cL) hlt (mapTo_len f cs k).1 HXM.out HIX.out HHP.out HBV.out)
        have HST := Lib.hid (mapTo_step f cs k)
        rw [HLE.out, HPE.out, HLTE.out] at HST
        have HSA2 : Hid ((csA.setIfInBounds (f + k) (.int .i64 (1 + (t : Int)))).size = nn ∧ ∀ v, v < nn → (csA.setIfInBounds (f + k) (.int .i64 (1 + (t : Int))))[v]? = some (.int .i64 ((mapTo f cs (k + 1)).2.getD v 0 : Nat))) := Lib.hid (by rw [HST.out]; exact HSA.out)
        have HSB2 : Hid ((csB.setIfInBounds (f + k) (.slice AL m cL)).size = nn ∧ ∀ v, v < nn → ∃ (A' : Option Addr) (c' : Nat), (csB.setIfInBounds (f + k) (.slice AL m cL))[v]? = some (.slice A' ((mapTo f cs (k + 1)).1.getD v []).length c') ∧ IntsAt w2 w2.heap.size A' (Opt.intL ((mapTo f cs (k + 1)).1.getD v [])) ∧ HdrOf HH cs v (.slice A' ((mapTo f cs (k + 1)).1.getD v []).length c') ((mapTo f cs (k + 1)).1.getD v [])) := Lib.hid (by rw [HST.out]; exact HSB.out)
        clear HM8 HA8 HB8 HL8 hb8 HM7 HA7 HB7 HL7 HSA HSB HST
        generalize w8.setCell ⟨ab, f + k, none⟩ (.int .i64 (1 + (t : Int))) = w9 at *
        go_wp2
        go_roundw
        case rel => exact ⟨k + 1, _, _, by omega, by go_num, HM9, HA9, HB9, HSA2, HSB2, HL9⟩
        case measure => simp [intOf]; omega
      · have q0 := HM.out.cell 0
        have q1 := HM.out.cell 1
        simp at q0 q1
        have hkn : f + k = nn := by omega
        have HRr := Lib.hid (HR2.out.below HB.out hs2)
        have f0 := HRr.out.frozen 0
        have f1 := HRr.out.frozen 1
        have HLr := Lib.hid (HL2.out.trans (HB.out.mono HL2.out.size))
        have HTE : Hid (times f (Opt.natG gs) = (mapTo f cs k).2) := Lib.hid (by
          unfold times
          rw [HCS.out, Opt.natG_len, show gs.length = k by have := HNN.out; omega])
        have HBE : Hid (bests f (Opt.natG gs) = (mapTo f cs k).1) := Lib.hid (by
          unfold bests
          rw [HCS.out, Opt.natG_len, show gs.length = k by have := HNN.out; omega])
        have hal := HA.out.lt
        have hbl := HBB.out.lt
        have hw2s : w.heap.size ≤ w.heap.size + 1 := by omega
        have t0 := HRr.out.cell 0
        have t1 := HRr.out.cell 1
        simp at t0 t1
        have hab : ab ≠ w.heap.size + 1 := by omega
        have hbb : bb ≠ w.heap.size + 1 := by omega
        go_wp2
        have HA' := (HA.out.far (p := ⟨w.heap.size + 1, 0, none⟩) hab (.slice (some ⟨ab, 0, none⟩) nn nn)).far (p := ⟨w.heap.size + 1, 1, none⟩) hab (.slice (some ⟨bb, 0, none⟩) nn nn)
        have HBB' := (HBB.out.far (p := ⟨w.heap.size + 1, 0, none⟩) hbb (.slice (some ⟨ab, 0, none⟩) nn nn)).far (p := ⟨w.heap.size + 1, 1, none⟩) hbb (.slice (some ⟨bb, 0, none⟩) nn nn)
        have HLQ := (HLr.out.setCell (p := ⟨w.heap.size + 1, 0, none⟩) (by show w.heap.size ≤ w.heap.size + 1; omega) (.slice (some ⟨ab, 0, none⟩) nn nn)).setCell (p := ⟨w.heap.size + 1, 1, none⟩) (by show w.heap.size ≤ w.heap.size + 1; omega) (.slice (some ⟨bb, 0, none⟩) nn nn)
        have hl2 : (mapTo f cs k).2.length = nn := by rw [(mapTo_len f cs k).2, hkn]
        have hl1 : (mapTo f cs k).1.length = nn := by rw [(mapTo_len f cs k).1, hkn]
        refine bodyPost_ret (v := .agg #[.slice (some ⟨ab, 0, none⟩) nn nn, .slice (some ⟨bb, 0, none⟩) nn nn]) (by simp [results, Tryz.results81, go_sem, t0, t1]) rfl ⟨ab, bb, rfl, ?_, ?_, HLQ⟩
        · rw [HFE.out, HTE.out]
          intro v hv
          rw [Opt.intL_len, hl2] at hv
          refine ⟨ab, 0, rfl, HA'.lt, ?_⟩
          rw [Nat.zero_add, Opt.intL_at]
          exact (HA'.cell v).trans (HAV.out.2 v hv)
        · rw [HFE.out, HBE.out]
          have hz : wr.heap.size ≤ ((wr.setCell ⟨w.heap.size + 1, 0, none⟩ (.slice (some ⟨ab, 0, none⟩) nn nn)).setCell ⟨w.heap.size + 1, 1, none⟩ (.slice (some ⟨bb, 0, none⟩) nn nn)).heap.size := by simp
          refine ⟨csB, HBB', by omega, by rw [HBV.out.1, hl1], fun v hv => ?_, ?_⟩
          · rw [hl1] at hv
            obtain ⟨A', c', e1, _, hx⟩ := HBV.out.2 v hv
            have h0 := (HX2.out.leaf (by rw [HCL.out]; exact hv) hx).kept (T := Off w2 w1.heap.size gq) (fun b hb => HB.out.block b hb.2.1) (fun _ h => h)
            have hne : ∀ b, Off w2 w1.heap.size gq b → b ≠ w.heap.size + 1 := fun b hb => by have := hb.1; omega
            have h1 := (h0.far hne 0 (.slice (some ⟨ab, 0, none⟩) nn nn)).far hne 1 (.slice (some ⟨bb, 0, none⟩) nn nn)
            exact ⟨A', c', e1, h1.kept (fun _ _ => rfl) (fun b hb => ⟨by have := hb.1; omega, by have := hb.2.1; have := HB.out.size; omega⟩)⟩
          · refine dist_of (cs := cs) (xs := (mapTo f cs k).1) HDD.out (by rw [HHL.out, Array.length_toList, HBV.out.1]; omega) (fun v hv => ?_)
            rw [Array.length_toList, HBV.out.1] at hv
            obtain ⟨A', c', e1, _, hx⟩ := HBV.out.2 v hv
            exact ⟨_, by rw [Array.getElem?_toList]; exact e1, hx⟩
end Go.Proofs.YtliedgaefgomjaaGreat
