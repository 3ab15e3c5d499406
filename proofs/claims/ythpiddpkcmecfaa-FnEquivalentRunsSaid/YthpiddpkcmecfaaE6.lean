/- The contract of the model's optimization. -/
import Derived.Test.YthpiddpkcmecfaaU6
import Derived.Test.YthpiddpkcmecfaaT8
namespace Go.Proofs.Ythpiddpkcmecfaa
open Go.RowKit Go.Deep Go.Maps Go.WideMaps

set_option maxHeartbeats 1000000 in
theorem spec_opt_t (i : Int) (nA gA oA : Option Addr) (nc gc oc : Nat) (ns : List Int) (gs : List (Int × Int)) (os : List Int) (w : World) (hc : CircAt w w.heap.size nA gA oA ns gs os) (hv : Circ.validB i ns gs os = true) :
    Calls Try.prog 17 #[.agg #[.int .i64 i, .slice nA ns.length nc, .slice gA gs.length gc, .slice oA os.length oc]] w (SBOut w i ns.length os.length (Opt.optC i ns gs os)) := by
  have hO : Opt.optC i ns gs os = Opt.bld false (Opt.fst i ns) (Opt.bld true (Opt.fst i ns) (Opt.natC ns gs os)) := rfl
  have hF1 := natC_fits hv
  have hF2 := bld_fits hv
  obtain ⟨e1, e2, e3⟩ := natC_ints hv
  have HO := Lib.hid hO
  have HF1 := Lib.hid hF1
  have HF2 := Lib.hid hF2
  have HC := Lib.hid hc
  have HC1 : Hid (CircAt w w.heap.size nA gA oA (Opt.intL (Opt.natC ns gs os).ns) (Opt.intG (Opt.natC ns gs os).gs) (Opt.intL (Opt.natC ns gs os).os)) := Lib.hid (by rw [e1, e2, e3]; exact hc)
  have HV := Lib.hid hv
  clear hO hF1 hF2 e1 e2 e3 hc hv
  generalize Opt.fst i ns = f at *
  generalize Opt.natC ns gs os = c at *
  have hw0 : Below w.heap.size w ((w.alloc (.cells #[.int .i64 i, .slice nA ns.length nc, .slice gA gs.length gc, .slice oA os.length oc] 26)).alloc (.cells #[.int .i64 0, .slice none 0 0, .slice none 0 0, .slice none 0 0] 26)) := ((Below.refl _ _).alloc (Nat.le_refl _) _).alloc (by simp) _
  have hb0 : Boxed ((w.alloc (.cells #[.int .i64 i, .slice nA ns.length nc, .slice gA gs.length gc, .slice oA os.length oc] 26)).alloc (.cells #[.int .i64 0, .slice none 0 0, .slice none 0 0, .slice none 0 0] 26)) w.heap.size i nA gA oA ns.length nc gs.length gc os.length oc := (Boxed.new w i nA gA oA ns.length nc gs.length gc os.length oc _).below ((Below.refl _ _).alloc (Nat.le_refl _) _) (by simp)
  have hq0 : Row ((w.alloc (.cells #[.int .i64 i, .slice nA ns.length nc, .slice gA gs.length gc, .slice oA os.length oc] 26)).alloc (.cells #[.int .i64 0, .slice none 0 0, .slice none 0 0, .slice none 0 0] 26)) (w.heap.size + 1) 26 #[.int .i64 0, .slice none 0 0, .slice none 0 0, .slice none 0 0] := by
    have := heap_alloc_new (w.alloc (.cells #[.int .i64 i, .slice nA ns.length nc, .slice gA gs.length gc, .slice oA os.length oc] 26)) (.cells #[.int .i64 0, .slice none 0 0, .slice none 0 0, .slice none 0 0] 26)
    simpa [Row] using this
  have hsz0 : ((w.alloc (.cells #[.int .i64 i, .slice nA ns.length nc, .slice gA gs.length gc, .slice oA os.length oc] 26)).alloc (.cells #[.int .i64 0, .slice none 0 0, .slice none 0 0, .slice none 0 0] 26)).heap.size = w.heap.size + 2 := by simp
  have HW0 := Lib.hid hw0
  have HB0 := Lib.hid hb0
  have HQ0 := Lib.hid hq0
  have HZ0 := Lib.hid hsz0
  clear hw0 hb0 hq0 hsz0
  go_enter Try.func17, Try.ntmps17
  go_wp2_with fail
  refine (svalid_any i nA gA oA nc gc oc ns gs os _ ((HC.out.below HW0.out).mono HW0.out.size)).mono ?_
  rintro e w1 ⟨rfl, hb1⟩
  rw [HV.out]
  generalize (w.alloc (.cells #[.int .i64 i, .slice nA ns.length nc, .slice gA gs.length gc, .slice oA os.length oc] 26)).alloc (.cells #[.int .i64 0, .slice none 0 0, .slice none 0 0, .slice none 0 0] 26) = w0 at *
  rw [HZ0.out] at hb1
  have HL1 := Lib.hid hb1
  have hX := HB0.out.below hb1 (by omega)
  have q0 := hX.c0
  have q1 := hX.c1
  have q2 := hX.c2
  have q3 := hX.c3
  clear hb1 hX
  have hz1 : w.heap.size + 2 ≤ w1.heap.size := by have := HL1.out.size; rw [HZ0.out] at this; exact this
  go_wp2_with fail
  refine (sbuild_any true i nA gA oA nc gc oc ns.length gs.length os.length f c _ (((HC1.out.below HW0.out).below (HL1.out.mono (by omega))).mono (by omega)) HF1.out).mono ?_
  rintro e w2 ⟨nA2, gA2, oA2, nc2, gc2, oc2, rfl, hC2, _, _, _, hb2⟩
  clear q0 q1 q2 q3
  have HC2 := Lib.hid hC2
  have HL2 := Lib.hid (HL1.out.trans (hb2.mono hz1))
  clear hC2 hb2 HL1 hz1
  have hz2 : w.heap.size + 2 ≤ w2.heap.size := by have := HL2.out.size; rw [HZ0.out] at this; exact this
  go_wp2_with fail
  refine (sbuild_any false i nA2 gA2 oA2 nc2 gc2 oc2 ns.length _ os.length f (Opt.bld true f c) _ HC2.out HF2.out).mono ?_
  rintro e w3 ⟨nA3, gA3, oA3, nc3, gc3, oc3, rfl, hC3, hf1, hf2, hf3, hb3⟩
  have hgl3 : (Opt.bld false f (Opt.bld true f c)).gs.length = (Opt.optC i ns gs os).gs.length := by rw [HO.out]
  have HL3 := Lib.hid (HL2.out.trans (hb3.mono hz2))
  have hq3 := HQ0.out.below HL3.out (by omega)
  have y0 := hq3.cell 0
  have y1 := hq3.cell 1
  have y2 := hq3.cell 2
  have y3 := hq3.cell 3
  have x0 := hq3.frozen 0
  have x1 := hq3.frozen 1
  have x2 := hq3.frozen 2
  have x3 := hq3.frozen 3
  simp at y0 y1 y2 y3
  have HC3 := Lib.hid hC3
  have HF3 := Lib.hid (And.intro hf1 (And.intro hf2 hf3))
  have HQ3 := Lib.hid hq3
  have HGL := Lib.hid hgl3
  have hC : w.heap.size + 1 < w2.heap.size := by omega
  clear hC3 hf1 hf2 hf3 hq3 hb3 hgl3
  generalize (Opt.bld false f (Opt.bld true f c)).gs.length = hl at *
  go_wp2
  have hq := (((HQ3.out.set 0 (.int .i64 i)).set 1 (.slice nA3 ns.length nc3)).set 2 (.slice gA3 hl gc3)).set 3 (.slice oA3 os.length oc3)
  simp at hq
  have HQ := Lib.hid hq
  have HA1 := Lib.hid ((((HC3.out.farF 0 (.int .i64 i) hC HF3.out.1 HF3.out.2.1 HF3.out.2.2).farF 1 (.slice nA3 ns.length nc3) hC HF3.out.1 HF3.out.2.1 HF3.out.2.2).farF 2 (.slice gA3 hl gc3) hC HF3.out.1 HF3.out.2.1 HF3.out.2.2).farF 3 (.slice oA3 os.length oc3) hC HF3.out.1 HF3.out.2.1 HF3.out.2.2)
  have HA4 := Lib.hid (((((HW0.out.trans (HL3.out.mono (show w.heap.size ≤ w.heap.size + 2 by omega))).setCell (p := ⟨w.heap.size + 1, 0, none⟩) (by simp) (.int .i64 i)).setCell (p := ⟨w.heap.size + 1, 1, none⟩) (by simp) (.slice nA3 ns.length nc3)).setCell (p := ⟨w.heap.size + 1, 2, none⟩) (by simp) (.slice gA3 hl gc3)).setCell (p := ⟨w.heap.size + 1, 3, none⟩) (by simp) (.slice oA3 os.length oc3))
  clear x0 x1 x2 x3 y0 y1 y2 y3 hq
  generalize (((w3.setCell ⟨w.heap.size + 1, 0, none⟩ (.int .i64 i)).setCell ⟨w.heap.size + 1, 1, none⟩ (.slice nA3 ns.length nc3)).setCell ⟨w.heap.size + 1, 2, none⟩ (.slice gA3 hl gc3)).setCell ⟨w.heap.size + 1, 3, none⟩ (.slice oA3 os.length oc3) = w10 at *
  have p0 := HQ.out.cell 0
  have p1 := HQ.out.cell 1
  have p2 := HQ.out.cell 2
  have p3 := HQ.out.cell 3
  simp at p0 p1 p2 p3
  refine bodyPost_ret (v := .agg #[.int .i64 i, .slice nA3 ns.length nc3, .slice gA3 hl gc3, .slice oA3 os.length oc3]) (by simp [results, Try.results17, go_sem, p0, p1, p2, p3]) rfl ⟨nA3, gA3, oA3, nc3, gc3, oc3, by rw [HGL.out], ?_, ?_, ?_, ?_, HA4.out⟩
  · rw [HO.out]
    exact HA1.out
  · exact fun b off e => Nat.le_trans (by omega) (HF3.out.1 b off e)
  · exact fun b off e => Nat.le_trans (by omega) (HF3.out.2.1 b off e)
  · exact fun b off e => Nat.le_trans (by omega) (HF3.out.2.2 b off e)

set_option maxHeartbeats 400000 in
theorem spec_opt_f (i : Int) (nA gA oA : Option Addr) (nc gc oc : Nat) (ns : List Int) (gs : List (Int × Int)) (os : List Int) (w : World) (hc : CircAt w w.heap.size nA gA oA ns gs os) (hv : Circ.validB i ns gs os = false) :
    Calls Try.prog 17 #[.agg #[.int .i64 i, .slice nA ns.length nc, .slice gA gs.length gc, .slice oA os.length oc]] w (ZeroOut w) := by
  have HC := Lib.hid hc
  have HV := Lib.hid hv
  clear hc hv
  have hw0 : Below w.heap.size w ((w.alloc (.cells #[.int .i64 i, .slice nA ns.length nc, .slice gA gs.length gc, .slice oA os.length oc] 26)).alloc (.cells #[.int .i64 0, .slice none 0 0, .slice none 0 0, .slice none 0 0] 26)) := ((Below.refl _ _).alloc (Nat.le_refl _) _).alloc (by simp) _
  have hq0 : Row ((w.alloc (.cells #[.int .i64 i, .slice nA ns.length nc, .slice gA gs.length gc, .slice oA os.length oc] 26)).alloc (.cells #[.int .i64 0, .slice none 0 0, .slice none 0 0, .slice none 0 0] 26)) (w.heap.size + 1) 26 #[.int .i64 0, .slice none 0 0, .slice none 0 0, .slice none 0 0] := by
    have := heap_alloc_new (w.alloc (.cells #[.int .i64 i, .slice nA ns.length nc, .slice gA gs.length gc, .slice oA os.length oc] 26)) (.cells #[.int .i64 0, .slice none 0 0, .slice none 0 0, .slice none 0 0] 26)
    simpa [Row] using this
  have hsz0 : ((w.alloc (.cells #[.int .i64 i, .slice nA ns.length nc, .slice gA gs.length gc, .slice oA os.length oc] 26)).alloc (.cells #[.int .i64 0, .slice none 0 0, .slice none 0 0, .slice none 0 0] 26)).heap.size = w.heap.size + 2 := by simp
  have HW0 := Lib.hid hw0
  have HQ0 := Lib.hid hq0
  have HZ0 := Lib.hid hsz0
  clear hw0 hq0 hsz0
  go_enter Try.func17, Try.ntmps17
  go_wp2_with fail
  refine (svalid_any i nA gA oA nc gc oc ns gs os _ ((HC.out.below HW0.out).mono HW0.out.size)).mono ?_
  rintro e w1 ⟨rfl, hb1⟩
  rw [HV.out]
  generalize (w.alloc (.cells #[.int .i64 i, .slice nA ns.length nc, .slice gA gs.length gc, .slice oA os.length oc] 26)).alloc (.cells #[.int .i64 0, .slice none 0 0, .slice none 0 0, .slice none 0 0] 26) = w0 at *
  rw [HZ0.out] at hb1
  have HL1 := Lib.hid hb1
  have hq3 := HQ0.out.below hb1 (by omega)
  have y0 := hq3.cell 0
  have y1 := hq3.cell 1
  have y2 := hq3.cell 2
  have y3 := hq3.cell 3
  have x0 := hq3.frozen 0
  have x1 := hq3.frozen 1
  have x2 := hq3.frozen 2
  have x3 := hq3.frozen 3
  simp at y0 y1 y2 y3
  have HQ3 := Lib.hid hq3
  clear hq3 hb1
  go_wp2
  refine bodyPost_ret (v := .agg #[.int .i64 0, .slice none 0 0, .slice none 0 0, .slice none 0 0]) (by simp [results, Try.results17, go_sem, y0, y1, y2, y3]) rfl ⟨rfl, ?_⟩
  refine Below.setCell (Below.setCell (Below.setCell (Below.setCell (HW0.out.trans (HL1.out.mono (by omega))) ?_ _) ?_ _) ?_ _) ?_ _ <;> simp
end Go.Proofs.Ythpiddpkcmecfaa
