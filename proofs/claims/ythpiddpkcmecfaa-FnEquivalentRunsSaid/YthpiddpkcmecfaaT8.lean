/- The contract of the program's optimization. -/
import Derived.Test.YthpiddpkcmecfaaT7
namespace Go.Proofs.Ythpiddpkcmecfaa
open Go.RowKit Go.Deep Go.Maps Go.WideMaps
set_option maxRecDepth 100000

theorem Own.circ {w : World} {B g1 g3 : Nat} {vG : Value} {c : Opt.C} (h : Own w B g1 g3 vG c) (h1 : c.ns.length ≤ maxLen) (h2 : c.gs.length ≤ maxLen) (h3 : c.os.length ≤ maxLen) :
    ∃ A cap, vG = .slice A c.gs.length cap ∧ CircAt w w.heap.size (some ⟨g1, 0, none⟩) A (some ⟨g3, 0, none⟩) (Opt.intL c.ns) (Opt.intG c.gs) (Opt.intL c.os) := by
  have hg := h.gates
  rw [← Opt.intG_len c.gs] at hg
  obtain ⟨A, cap, e, hG, _⟩ := own_gatesAt hg
  exact ⟨A, cap, by rw [e, Opt.intG_len], ⟨h.next.ints, hG, h.outs.ints, by rw [Opt.intL_len]; exact h1, by rw [Opt.intG_len]; exact h2, by rw [Opt.intL_len]; exact h3⟩⟩
theorem Own.shape {w : World} {B g1 g3 : Nat} {vG : Value} {c : Opt.C} (h : Own w B g1 g3 vG c) : ∃ A cap, vG = .slice A c.gs.length cap := by
  have hg := h.gates
  rw [← Opt.intG_len c.gs] at hg
  obtain ⟨A, cap, e, _⟩ := own_gatesAt hg
  exact ⟨A, cap, by rw [e, Opt.intG_len]⟩
theorem Own.set {w : World} {B g1 g3 C : Nat} {vG : Value} {c : Opt.C} (h : Own w B g1 g3 vG c) (hC : C < B) (j : Nat) (u : Value) : Own (w.setCell ⟨C, j, none⟩ u) B g1 g3 vG c := by
  have h1 := h.b1
  have h3 := h.b3
  exact ⟨h.next.far _ u (by simp; omega), own_setC h.gates hC j u, h.outs.far _ u (by simp; omega), h1, h3⟩
theorem Own.mono {w : World} {B B' g1 g3 : Nat} {vG : Value} {c : Opt.C} (h : Own w B g1 g3 vG c) (hB : B' ≤ B) : Own w B' g1 g3 vG c :=
  ⟨h.next, own_mono h.gates hB, h.outs, Nat.le_trans hB h.b1, h.b3⟩
theorem natG_int {gs : List (Int × Int)} {f : Int} (h : Circ.gatesOk gs f = true) : Opt.intG (Opt.natG gs) = gs := by
  unfold Opt.intG Opt.natG
  rw [List.map_map]
  refine (List.map_congr_left (fun g hg => ?_)).trans (List.map_id gs)
  obtain ⟨k, hk, rfl⟩ := List.mem_iff_getElem.mp hg
  obtain ⟨a, b⟩ := Circ.gatesOk_get h hk
  have e : gs.getD k (0, 0) = gs[k] := by simp [List.getD_eq_getElem?_getD, hk]
  rw [e] at a b
  have a' := Circ.litOk_inv a
  have b' := Circ.litOk_inv b
  refine Prod.ext ?_ ?_
  · show ((gs[k].1.toNat : Nat) : Int) = gs[k].1; omega
  · show ((gs[k].2.toNat : Nat) : Int) = gs[k].2; omega
section
variable {i : Int} {ns : List Int} {gs : List (Int × Int)} {os : List Int}
theorem natC_ints (h : Circ.validB i ns gs os = true) : Opt.intL (Opt.natC ns gs os).ns = ns ∧ Opt.intG (Opt.natC ns gs os).gs = gs ∧ Opt.intL (Opt.natC ns gs os).os = os :=
  ⟨natL_int (Circ.valid_next h), natG_int (Circ.valid_gates h), natL_int (Circ.valid_outs h)⟩
theorem natC_fits (h : Circ.validB i ns gs os = true) : Fits i (Opt.fst i ns) ns.length gs.length os.length (Opt.natC ns gs os) := by
  have hw := Circ.valid_within h
  exact ⟨hw.1, hw.2.1, Opt.natL_len ns, Opt.natG_len gs, Opt.natL_len os, hw.2.2.1, hw.2.2.2.1, hw.2.2.2.2, by unfold Opt.fst; omega, (Opt.natC_ok h).2⟩
theorem bld_fits (h : Circ.validB i ns gs os = true) : Fits i (Opt.fst i ns) ns.length (Opt.bld true (Opt.fst i ns) (Opt.natC ns gs os)).gs.length os.length (Opt.bld true (Opt.fst i ns) (Opt.natC ns gs os)) := by
  obtain ⟨hf, hk⟩ := Opt.natC_ok h
  obtain ⟨a, b, c⟩ := Opt.bld_t_ok hf hk
  have F := natC_fits h
  have e : (Opt.natC ns gs os).gs.length = gs.length := Opt.natG_len gs
  refine ⟨F.i0, F.i4, ?_, rfl, ?_, F.n3, ?_, F.o3, F.hf, a⟩
  · show (List.map _ (Opt.natC ns gs os).ns).length = _
    rw [List.length_map]; exact F.ln
  · show (List.map _ (Opt.natC ns gs os).os).length = _
    rw [List.length_map]; exact F.lo
  · have := F.g14
    omega
end

set_option maxHeartbeats 1000000 in
theorem impl_opt_t (i : Int) (nA gA oA : Option Addr) (nc gc oc : Nat) (ns : List Int) (gs : List (Int × Int)) (os : List Int) (w : World) (hc : CircAt w w.heap.size nA gA oA ns gs os) (hv : Circ.validB i ns gs os = true) :
    Calls Try.prog 15 #[.agg #[.int .i64 i, .slice nA ns.length nc, .slice gA gs.length gc, .slice oA os.length oc]] w (RebOut w i ns.length os.length (Opt.optC i ns gs os)) := by
  have hO : Opt.optC i ns gs os = Opt.bld true (Opt.fst i ns) (Opt.bld true (Opt.fst i ns) (Opt.natC ns gs os)) := (Opt.opt_tt (Opt.natC_ok hv).1 (Opt.natC_ok hv).2).symm
  have hF1 := natC_fits hv
  have hF2 := bld_fits hv
  obtain ⟨e1, e2, e3⟩ := natC_ints hv
  have HO := Lib.hid hO
  have HF1 := Lib.hid hF1
  have HF2 := Lib.hid hF2
  have HC := Lib.hid hc
  have HC1 : Hid (CircAt w w.heap.size nA gA oA (Opt.intL (Opt.natC ns gs os).ns) (Opt.intG (Opt.natC ns gs os).gs) (Opt.intL (Opt.natC ns gs os).os)) := Lib.hid (by rw [e1, e2, e3]; exact hc)
  have HV := Lib.hid hv
  clear hO hF1 hF2 e1 e2 e3 hc hv
  generalize Opt.fst i ns = f at *
  generalize Opt.natC ns gs os = c at *
  have hw0 : Below w.heap.size w ((w.alloc (.cells #[.int .i64 i, .slice nA ns.length nc, .slice gA gs.length gc, .slice oA os.length oc] 26)).alloc (.cells #[.int .i64 0, .slice none 0 0, .slice none 0 0, .slice none 0 0] 26)) := ((Below.refl _ _).alloc (Nat.le_refl _) _).alloc (by simp) _
  have hb0 : Boxed ((w.alloc (.cells #[.int .i64 i, .slice nA ns.length nc, .slice gA gs.length gc, .slice oA os.length oc] 26)).alloc (.cells #[.int .i64 0, .slice none 0 0, .slice none 0 0, .slice none 0 0] 26)) w.heap.size i nA gA oA ns.length nc gs.length gc os.length oc := (Boxed.new w i nA gA oA ns.length nc gs.length gc os.length oc _).below ((Below.refl _ _).alloc (Nat.le_refl _) _) (by simp)
  have hq0 : Row ((w.alloc (.cells #[.int .i64 i, .slice nA ns.length nc, .slice gA gs.length gc, .slice oA os.length oc] 26)).alloc (.cells #[.int .i64 0, .slice none 0 0, .slice none 0 0, .slice none 0 0] 26)) (w.heap.size + 1) 26 #[.int .i64 0, .slice none 0 0, .slice none 0 0, .slice none 0 0] := by
    have := heap_alloc_new (w.alloc (.cells #[.int .i64 i, .slice nA ns.length nc, .slice gA gs.length gc, .slice oA os.length oc] 26)) (.cells #[.int .i64 0, .slice none 0 0, .slice none 0 0, .slice none 0 0] 26)
    simpa [Row] using this
  have hsz0 : ((w.alloc (.cells #[.int .i64 i, .slice nA ns.length nc, .slice gA gs.length gc, .slice oA os.length oc] 26)).alloc (.cells #[.int .i64 0, .slice none 0 0, .slice none 0 0, .slice none 0 0] 26)).heap.size = w.heap.size + 2 := by simp
  have HW0 := Lib.hid hw0
  have HB0 := Lib.hid hb0
  have HQ0 := Lib.hid hq0
  have HZ0 := Lib.hid hsz0
  clear hw0 hb0 hq0 hsz0
  go_enter Try.func15, Try.ntmps15
  go_wp2_with fail
  refine (valid_any i nA gA oA nc gc oc ns gs os _ ((HC.out.below HW0.out).mono HW0.out.size)).mono ?_
  rintro e w1 ⟨rfl, hb1⟩
  rw [HV.out]
  generalize (w.alloc (.cells #[.int .i64 i, .slice nA ns.length nc, .slice gA gs.length gc, .slice oA os.length oc] 26)).alloc (.cells #[.int .i64 0, .slice none 0 0, .slice none 0 0, .slice none 0 0] 26) = w0 at *
  rw [HZ0.out] at hb1
  have HL1 := Lib.hid hb1
  have hX := HB0.out.below hb1 (by omega)
  have q0 := hX.c0
  have q1 := hX.c1
  have q2 := hX.c2
  have q3 := hX.c3
  clear hb1 hX
  have hz1 : w.heap.size + 2 ≤ w1.heap.size := by have := HL1.out.size; rw [HZ0.out] at this; exact this
  go_wp2_with fail
  refine (rebuild_any i nA gA oA nc gc oc ns.length gs.length os.length f c _ (((HC1.out.below HW0.out).below (HL1.out.mono (by omega))).mono (by omega)) HF1.out).mono ?_
  rintro e w2 ⟨g1, g3, vG, rfl, hO2, hb2⟩
  clear q0 q1 q2 q3
  obtain ⟨A, cap, rfl, hC2⟩ := hO2.circ (by rw [HF2.out.ln]; have := HF2.out.n3; unfold maxLen; omega) (by have := HF2.out.g14; unfold maxLen; omega) (by rw [HF2.out.lo]; have := HF2.out.o3; unfold maxLen; omega)
  have HC2 := Lib.hid hC2
  have HL2 := Lib.hid (HL1.out.trans (hb2.mono hz1))
  clear hO2 hC2 hb2 HL1 hz1
  have hz2 : w.heap.size + 2 ≤ w2.heap.size := by have := HL2.out.size; rw [HZ0.out] at this; exact this
  go_wp2_with fail
  refine (rebuild_any i (some ⟨g1, 0, none⟩) A (some ⟨g3, 0, none⟩) _ _ _ ns.length _ os.length f (Opt.bld true f c) _ HC2.out HF2.out).mono ?_
  rintro e w3 ⟨k1, k3, vH', rfl, hO3, hb3⟩
  obtain ⟨HA, hcap, rfl⟩ := hO3.shape
  generalize (Opt.bld true f (Opt.bld true f c)).gs.length = hl at *
  have HL3 := Lib.hid (HL2.out.trans (hb3.mono hz2))
  have hq3 := HQ0.out.below HL3.out (by omega)
  have y0 := hq3.cell 0
  have y1 := hq3.cell 1
  have y2 := hq3.cell 2
  have y3 := hq3.cell 3
  have x0 := hq3.frozen 0
  have x1 := hq3.frozen 1
  have x2 := hq3.frozen 2
  have x3 := hq3.frozen 3
  simp at y0 y1 y2 y3
  have HQ3 := Lib.hid hq3
  have HO3 := Lib.hid hO3
  have hk1 := hO3.b1
  have hk3 := hO3.b3
  clear hq3 hO3 hb3
  go_wp2
  have hq := (((HQ3.out.set 0 (.int .i64 i)).set 1 (.slice (some ⟨k1, 0, none⟩) ns.length ns.length)).set 2 (.slice HA hl hcap)).set 3 (.slice (some ⟨k3, 0, none⟩) os.length os.length)
  simp at hq
  have HQ := Lib.hid hq
  have hC : w.heap.size + 1 < w2.heap.size := by omega
  have HA1 := Lib.hid ((((HO3.out.set hC 0 (.int .i64 i)).set hC 1 (.slice (some ⟨k1, 0, none⟩) ns.length ns.length)).set hC 2 (.slice HA hl hcap)).set hC 3 (.slice (some ⟨k3, 0, none⟩) os.length os.length))
  have HA4 := Lib.hid (((((HW0.out.trans (HL3.out.mono (show w.heap.size ≤ w.heap.size + 2 by omega))).setCell (p := ⟨w.heap.size + 1, 0, none⟩) (by simp) (.int .i64 i)).setCell (p := ⟨w.heap.size + 1, 1, none⟩) (by simp) (.slice (some ⟨k1, 0, none⟩) ns.length ns.length)).setCell (p := ⟨w.heap.size + 1, 2, none⟩) (by simp) (.slice HA hl hcap)).setCell (p := ⟨w.heap.size + 1, 3, none⟩) (by simp) (.slice (some ⟨k3, 0, none⟩) os.length os.length))
  clear x0 x1 x2 x3 y0 y1 y2 y3 hq
  generalize (((w3.setCell ⟨w.heap.size + 1, 0, none⟩ (.int .i64 i)).setCell ⟨w.heap.size + 1, 1, none⟩ (.slice (some ⟨k1, 0, none⟩) ns.length ns.length)).setCell ⟨w.heap.size + 1, 2, none⟩ (.slice HA hl hcap)).setCell ⟨w.heap.size + 1, 3, none⟩ (.slice (some ⟨k3, 0, none⟩) os.length os.length) = w10 at *
  have p0 := HQ.out.cell 0
  have p1 := HQ.out.cell 1
  have p2 := HQ.out.cell 2
  have p3 := HQ.out.cell 3
  simp at p0 p1 p2 p3
  refine bodyPost_ret (v := .agg #[.int .i64 i, .slice (some ⟨k1, 0, none⟩) ns.length ns.length, (.slice HA hl hcap), .slice (some ⟨k3, 0, none⟩) os.length os.length]) (by simp [results, Try.results15, go_sem, p0, p1, p2, p3]) rfl ⟨_, _, _, rfl, ?_, HA4.out⟩
  rw [HO.out]
  exact HA1.out.mono (by omega)

/-- What optimization answers for an invalid circuit. -/
def ZeroOut (w : World) (e : Ending) (w' : World) : Prop := e = .returned (.agg #[.int .i64 0, .slice none 0 0, .slice none 0 0, .slice none 0 0]) ∧ Below w.heap.size w w'
set_option maxHeartbeats 400000 in
theorem impl_opt_f (i : Int) (nA gA oA : Option Addr) (nc gc oc : Nat) (ns : List Int) (gs : List (Int × Int)) (os : List Int) (w : World) (hc : CircAt w w.heap.size nA gA oA ns gs os) (hv : Circ.validB i ns gs os = false) :
    Calls Try.prog 15 #[.agg #[.int .i64 i, .slice nA ns.length nc, .slice gA gs.length gc, .slice oA os.length oc]] w (ZeroOut w) := by
  have HC := Lib.hid hc
  have HV := Lib.hid hv
  clear hc hv
  have hw0 : Below w.heap.size w ((w.alloc (.cells #[.int .i64 i, .slice nA ns.length nc, .slice gA gs.length gc, .slice oA os.length oc] 26)).alloc (.cells #[.int .i64 0, .slice none 0 0, .slice none 0 0, .slice none 0 0] 26)) := ((Below.refl _ _).alloc (Nat.le_refl _) _).alloc (by simp) _
  have hq0 : Row ((w.alloc (.cells #[.int .i64 i, .slice nA ns.length nc, .slice gA gs.length gc, .slice oA os.length oc] 26)).alloc (.cells #[.int .i64 0, .slice none 0 0, .slice none 0 0, .slice none 0 0] 26)) (w.heap.size + 1) 26 #[.int .i64 0, .slice none 0 0, .slice none 0 0, .slice none 0 0] := by
    have := heap_alloc_new (w.alloc (.cells #[.int .i64 i, .slice nA ns.length nc, .slice gA gs.length gc, .slice oA os.length oc] 26)) (.cells #[.int .i64 0, .slice none 0 0, .slice none 0 0, .slice none 0 0] 26)
    simpa [Row] using this
  have hsz0 : ((w.alloc (.cells #[.int .i64 i, .slice nA ns.length nc, .slice gA gs.length gc, .slice oA os.length oc] 26)).alloc (.cells #[.int .i64 0, .slice none 0 0, .slice none 0 0, .slice none 0 0] 26)).heap.size = w.heap.size + 2 := by simp
  have HW0 := Lib.hid hw0
  have HQ0 := Lib.hid hq0
  have HZ0 := Lib.hid hsz0
  clear hw0 hq0 hsz0
  go_enter Try.func15, Try.ntmps15
  go_wp2_with fail
  refine (valid_any i nA gA oA nc gc oc ns gs os _ ((HC.out.below HW0.out).mono HW0.out.size)).mono ?_
  rintro e w1 ⟨rfl, hb1⟩
  rw [HV.out]
  generalize (w.alloc (.cells #[.int .i64 i, .slice nA ns.length nc, .slice gA gs.length gc, .slice oA os.length oc] 26)).alloc (.cells #[.int .i64 0, .slice none 0 0, .slice none 0 0, .slice none 0 0] 26) = w0 at *
  rw [HZ0.out] at hb1
  have HL1 := Lib.hid hb1
  have hq3 := HQ0.out.below hb1 (by omega)
  have y0 := hq3.cell 0
  have y1 := hq3.cell 1
  have y2 := hq3.cell 2
  have y3 := hq3.cell 3
  have x0 := hq3.frozen 0
  have x1 := hq3.frozen 1
  have x2 := hq3.frozen 2
  have x3 := hq3.frozen 3
  simp at y0 y1 y2 y3
  have HQ3 := Lib.hid hq3
  clear hq3 hb1
  go_wp2
  refine bodyPost_ret (v := .agg #[.int .i64 0, .slice none 0 0, .slice none 0 0, .slice none 0 0]) (by simp [results, Try.results15, go_sem, y0, y1, y2, y3]) rfl ⟨rfl, ?_⟩
  refine Below.setCell (Below.setCell (Below.setCell (Below.setCell (HW0.out.trans (HL1.out.mono (by omega))) ?_ _) ?_ _) ?_ _) ?_ _ <;> simp
end Go.Proofs.Ythpiddpkcmecfaa
