/- The contract of the model's rebuilding, without sharing. -/
import Derived.Test.YthpiddpkcmecfaaU5
import Derived.Test.YthpiddpkcmecfaaR5a
import Derived.Deep.RegionLaw
import Derived.Deep.DeepCutAuto
import Derived.Deep.LoopGhost
import Derived.Deep.CutBlock
import Derived.Test.YthpiddpkcmecfaaU6a
namespace Go.Proofs.Ythpiddpkcmecfaa
open Go.RowKit Go.Deep Go.Maps Go.WideMaps
set_option maxRecDepth 100000

/-- A load that is carried out where it comes up, not ahead of the calls beside it. -/
def lateLoad (t : TypeId) (o : Operand) : Op := Op.load t o
theorem lateLoad_of (t : TypeId) (o : Operand) : Op.load t o = lateLoad t o := rfl
@[go_sem] theorem lateLoad_run (t : TypeId) (o : Operand) : lateLoad t o = Op.load t o := rfl

set_option maxRecDepth 100000 in
set_option maxHeartbeats 8000000 in
theorem sbuild_f (share : Bool) (hsh : share = false) (i : Int) (nA gA oA : Option Addr) (nc gc oc nl gl ol f : Nat) (c : Opt.C) (w : World) (hc : CircAt w w.heap.size nA gA oA (Opt.intL c.ns) (Opt.intG c.gs) (Opt.intL c.os)) (hF : Fits i f nl gl ol c) :
    Calls Try.prog 50 #[.agg #[.int .i64 i, .slice nA nl nc, .slice gA gl gc, .slice oA ol oc], .bool share] w (SBOut w i nl ol (Opt.bld share f c)) := by
  have HSH := Lib.hid hsh
  clear hsh
  have h0 := hF.i0
  have h1 := hF.i4
  have h2 := hF.n3
  have h3 := hF.g14
  have h4 := hF.o3
  have hf1 : 1 ≤ f := by have := hF.hf; omega
  have hf8 : f ≤ 8 := by have := hF.hf; omega
  have HF := Lib.hid hF
  have HC := Lib.hid hc
  clear hc hF
  obtain ⟨i0, hi0, hz0, hz1, hz2⟩ := info_parts Try.info3
  have HI0 := Lib.hid hi0
  have HZ0 := Lib.hid hz0
  have HZ1 := Lib.hid hz1
  have HZ2 := Lib.hid hz2
  clear hi0 hz0 hz1 hz2
  obtain ⟨i1, hi0, hz0, hz1, hz2⟩ := info_parts Try.info31
  have HJ0 := Lib.hid hi0
  have HY0 := Lib.hid hz0
  have HY1 := Lib.hid hz1
  have HY2 := Lib.hid hz2
  clear hi0 hz0 hz1 hz2
  have hw0 : Below w.heap.size w ((w.alloc (.cells #[.int .i64 i, .slice nA nl nc, .slice gA gl gc, .slice oA ol oc] 26)).alloc (.cells #[.int .i64 0, .slice none 0 0, .slice none 0 0, .slice none 0 0] 26)) := ((Below.refl _ _).alloc (Nat.le_refl _) _).alloc (by simp) _
  have hb0 : Boxed ((w.alloc (.cells #[.int .i64 i, .slice nA nl nc, .slice gA gl gc, .slice oA ol oc] 26)).alloc (.cells #[.int .i64 0, .slice none 0 0, .slice none 0 0, .slice none 0 0] 26)) w.heap.size i nA gA oA nl nc gl gc ol oc := (Boxed.new w i nA gA oA nl nc gl gc ol oc _).below ((Below.refl _ _).alloc (Nat.le_refl _) _) (by simp)
  have hq0 : Row ((w.alloc (.cells #[.int .i64 i, .slice nA nl nc, .slice gA gl gc, .slice oA ol oc] 26)).alloc (.cells #[.int .i64 0, .slice none 0 0, .slice none 0 0, .slice none 0 0] 26)) (w.heap.size + 1) 26 #[.int .i64 0, .slice none 0 0, .slice none 0 0, .slice none 0 0] := by
    have := heap_alloc_new (w.alloc (.cells #[.int .i64 i, .slice nA nl nc, .slice gA gl gc, .slice oA ol oc] 26)) (.cells #[.int .i64 0, .slice none 0 0, .slice none 0 0, .slice none 0 0] 26)
    simpa [Row] using this
  have hsz0 : ((w.alloc (.cells #[.int .i64 i, .slice nA nl nc, .slice gA gl gc, .slice oA ol oc] 26)).alloc (.cells #[.int .i64 0, .slice none 0 0, .slice none 0 0, .slice none 0 0] 26)).heap.size = w.heap.size + 2 := by simp
  have HW0 := Lib.hid hw0
  have HB0 := Lib.hid hb0
  have HQ0 := Lib.hid hq0
  have HSZ := Lib.hid hsz0
  clear hw0 hb0 hq0 hsz0
  go_enter Try.func50, Try.ntmps50
  go_wp2_with fail
  refine (l3Used_any i nA gA oA nc gc oc nl gl ol f c _ ((HC.out.below HW0.out).mono HW0.out.size) HF.out).mono ?_
  rintro e w1 ⟨gU, rfl, hgU, hU1, hb1⟩
  generalize (w.alloc (.cells #[.int .i64 i, .slice nA nl nc, .slice gA gl gc, .slice oA ol oc] 26)).alloc (.cells #[.int .i64 0, .slice none 0 0, .slice none 0 0, .slice none 0 0] 26) = w0 at *
  rw [HSZ.out] at hb1 hgU
  have HL1 := Lib.hid hb1
  have HU1 := Lib.hid hU1
  have hX := HB0.out.below hb1 (by omega)
  have q0 := hX.c0
  have q1 := hX.c1
  have hz1 : w.heap.size + 2 ≤ w1.heap.size := by have := hb1.size; rw [HSZ.out] at this; exact this
  have hUl := hU1.lt
  clear hX hb1 hU1
  have hC1 : CircAt w1 w1.heap.size nA gA oA (Opt.intL c.ns) (Opt.intG c.gs) (Opt.intL c.os) := ((HC.out.below HW0.out).below (HL1.out.mono (by omega))).mono (by omega)
  have HN1 := Lib.hid hC1.next
  have HNL : Hid ((Opt.intL c.ns).length = nl) := Lib.hid (by rw [Opt.intL_len, HF.out.ln])
  clear hC1
  go_upto_region 2 with fail
  go_cut [6] (fun s6 wx => ∃ (X g1 cap1 : Nat), s6 = .pointer (some ⟨X, 0, none⟩) ∧ Hid (SI w0 wx (w.heap.size + 2) X gU g1 cap1 nl i (Opt.used f c.gs c.roots) c.ns))
  case first =>
    have HOA := Lib.hid (World.ownsRow_lit (base := w1.heap.size) (e := 3) (size := 1) w1 #[] 0 (Nat.le_refl _) (by simp [maxLen]) (by simp))
    have hoc := World.ownsRow_lit (base := w1.heap.size) (e := 3) (size := 1) (w1.alloc (.cells #[.int .i64 0, .slice none 0 0, .slice none 0 0, .slice none 0 0] 26)) #[] 0 (by simp) (by simp [maxLen]) (by simp)
    simp at hoc
    have HOC := Lib.hid hoc
    clear hoc
    have hxb : Row ((w1.alloc (.cells #[] 3)).alloc (.cells #[.int .i64 0, .slice none 0 0, .slice none 0 0, .slice none 0 0] 26)) (w1.heap.size + 1) 26 #[.int .i64 0, .slice none 0 0, .slice none 0 0, .slice none 0 0] := by
      have := heap_alloc_new (w1.alloc (.cells #[] 3)) (.cells #[.int .i64 0, .slice none 0 0, .slice none 0 0, .slice none 0 0] 26)
      simpa [Row] using this
    have HXB : Hid (Row ((w1.alloc (.cells #[] 3)).alloc (.cells #[.int .i64 0, .slice none 0 0, .slice none 0 0, .slice none 0 0] 26)).drew (w1.heap.size + 1) 26 #[.int .i64 0, .slice none 0 0, .slice none 0 0, .slice none 0 0]) := Lib.hid hxb
    clear hxb
    have ne1 : some w.heap.size ≠ some w1.heap.size := by intro h; injection h; omega
    have ne2 : some w.heap.size ≠ some (w1.heap.size + 1) := by intro h; injection h; omega
    have nw0 : w.heap.size ≠ w1.heap.size := by omega
    have nw1 : w.heap.size ≠ w1.heap.size + 1 := by omega
    go_region_held3 (fun w' => w'.cell? ⟨w.heap.size, 0, none⟩ = some (.int .i64 i) ∧ w'.cell? ⟨w.heap.size, 1, none⟩ = some (.slice nA nl nc))
      (first | (with_reducible exact hS2) | (with_reducible exact hS3) | go_keep)
      (first
        | (refine step_append_src _ (by rfl) (.tmp 19) (.tmp 21) 23 (by rfl) w1.heap.size 3 i0 _ 1 8 Try.underlying23 HI0.out HZ0.out HZ1.out HZ2.out rfl (by omega) w1.heap.size 0 0 [] (by rfl) (HOA.out.drew) nA nl nc (ivs (Opt.intL c.ns)) (by rfl) (by rw [ivs_len, HNL.out]; omega) ?_ (ivs_one _) (by simp [maxLen]; omega) (by omega) (by simp) (w1.heap.size + 1) (by simp) ?_; (exact ints_src (HN1.out.below ((Below.refl _ _).alloc (Nat.le_refl _) _).drew)); intro g1 cap1 w2 hown1 hgr1 hat1; simp only [Nat.zero_add, List.nil_append] at hown1; have hbl1 : Below w1.heap.size w1 w2 := Below.grown (((Below.refl w1.heap.size w1).alloc (Nat.le_refl _) _).drew) hgr1 (by simp) (fun k hk => by injection hk; omega); have hw2 : w1.heap.size ≤ w2.heap.size := hbl1.size; have hS2 := And.intro ((hbl1.cell (p := ⟨w.heap.size, 0, none⟩) (show w.heap.size < w1.heap.size by omega)).trans q0) ((hbl1.cell (p := ⟨w.heap.size, 1, none⟩) (show w.heap.size < w1.heap.size by omega)).trans q1); have hS3 := cells_alloc hbl1 (show w.heap.size < w1.heap.size by omega) hw2 q0 q1 (.cells #[.int .i64 i, .slice (some ⟨g1, 0, none⟩) nl cap1, .slice none 0 0, .slice none 0 0] 26); have HSI := Lib.hid (SI.ofAlloc (i := i) HL1.out HU1.out hz1 hbl1 hown1 hgU))
        | (refine step_append_src _ (by rfl) (.tmp 19) (.tmp 21) 23 (by rfl) w1.heap.size 3 i0 _ 1 8 Try.underlying23 HI0.out HZ0.out HZ1.out HZ2.out rfl (by omega) w1.heap.size 0 0 [] (by rfl) ((HOA.out.alloc _).drew) nA nl nc (ivs (Opt.intL c.ns)) (by rfl) (by rw [ivs_len, HNL.out]; omega) ?_ (ivs_one _) (by simp [maxLen]; omega) (by omega) (by simp <;> omega) (w1.heap.size + 1 + 1) (by simp) ?_; (exact ints_src (HN1.out.below (((Below.refl _ _).alloc (Nat.le_refl _) _).alloc (by simp) _).drew)); intro g1 cap1 w2 hown1 hgr1 hat1; simp only [Nat.zero_add, List.nil_append] at hown1; have hbl1 : Below w1.heap.size w1 w2 := Below.grown ((((Below.refl w1.heap.size w1).alloc (Nat.le_refl _) _).alloc (by simp) _).drew) hgr1 (by simp <;> omega) (fun k hk => by injection hk; omega); have hrx : Row w2 (w1.heap.size + 1) 26 #[.int .i64 0, .slice none 0 0, .slice none 0 0, .slice none 0 0] := Row.grown HXB.out hgr1 (by intro e; injection e; omega); have hS2 := And.intro ((hbl1.cell (p := ⟨w.heap.size, 0, none⟩) (show w.heap.size < w1.heap.size by omega)).trans q0) ((hbl1.cell (p := ⟨w.heap.size, 1, none⟩) (show w.heap.size < w1.heap.size by omega)).trans q1); have hS3 := cells_set (X := w1.heap.size + 1) (a := .int .i64 i) (b := .slice (some ⟨g1, 0, none⟩) nl cap1) (c := .slice none 0 0) (d := .slice none 0 0) hbl1 (show w.heap.size < w1.heap.size by omega) (by omega) q0 q1; have HSI := Lib.hid (SI.ofSet (i := i) HL1.out HU1.out hz1 hbl1 hown1 hgU hrx (by omega)); have y0 := hrx.cell 0; have y1 := hrx.cell 1; have y2 := hrx.cell 2; have y3 := hrx.cell 3; have x0 := hrx.frozen 0; have x1 := hrx.frozen 1; have x2 := hrx.frozen 2; have x3 := hrx.frozen 3; simp at y0 y1 y2 y3; clear hrx)
        | (refine step_append_src _ (by rfl) (.tmp 19) (.tmp 21) 23 (by rfl) w1.heap.size 3 i0 _ 1 8 Try.underlying23 HI0.out HZ0.out HZ1.out HZ2.out rfl (by omega) (w1.heap.size + 1) 0 0 [] (by rfl) (HOC.out.drew) nA nl nc (ivs (Opt.intL c.ns)) (by rfl) (by rw [ivs_len, HNL.out]; omega) ?_ (ivs_one _) (by simp [maxLen]; omega) (by omega) (by simp <;> omega) (w1.heap.size + 1 + 1) (by simp) ?_; (exact ints_src (HN1.out.below (((Below.refl _ _).alloc (Nat.le_refl _) _).alloc (by simp) _).drew)); intro g1 cap1 w2 hown1 hgr1 hat1; simp only [Nat.zero_add, List.nil_append] at hown1; have hbl1 : Below w1.heap.size w1 w2 := Below.grown ((((Below.refl w1.heap.size w1).alloc (Nat.le_refl _) _).alloc (by simp) _).drew) hgr1 (by simp <;> omega) (fun k hk => by injection hk; omega); have hrx : Row w2 w1.heap.size 26 #[.int .i64 0, .slice none 0 0, .slice none 0 0, .slice none 0 0] := Row.grown (w := ((w1.alloc (.cells #[.int .i64 0, .slice none 0 0, .slice none 0 0, .slice none 0 0] 26)).alloc (.cells #[] 3)).drew) (Row.alloc (heap_alloc_new w1 _) _) hgr1 (by intro e; injection e; omega); have hS2 := And.intro ((hbl1.cell (p := ⟨w.heap.size, 0, none⟩) (show w.heap.size < w1.heap.size by omega)).trans q0) ((hbl1.cell (p := ⟨w.heap.size, 1, none⟩) (show w.heap.size < w1.heap.size by omega)).trans q1); have hS3 := cells_set (X := w1.heap.size) (a := .int .i64 i) (b := .slice (some ⟨g1, 0, none⟩) nl cap1) (c := .slice none 0 0) (d := .slice none 0 0) hbl1 (show w.heap.size < w1.heap.size by omega) (by omega) q0 q1; have HSI := Lib.hid (SI.ofSet (i := i) HL1.out HU1.out hz1 hbl1 hown1 hgU hrx (by omega)); have y0 := hrx.cell 0; have y1 := hrx.cell 1; have y2 := hrx.cell 2; have y3 := hrx.cell 3; have x0 := hrx.frozen 0; have x1 := hrx.frozen 1; have x2 := hrx.frozen 2; have x3 := hrx.frozen 3; simp at y0 y1 y2 y3; clear hrx))
    all_goals
      go_wp2_with fail
      go_meet
      exact ⟨_, _, _, rfl, HSI⟩
  case rest =>
    obtain ⟨X, g1, cap1, rfl, HSI⟩ := hcut
    have HS0 := Lib.hid (HSI.out.start HF.out.ln)
    clear HSI q0 q1 HL1 HU1 HN1 HNL
    go_wp2
    generalize wc.alloc (.cells #[] 3) = w4 at *
    go_loopw [7, 8] (fun s7 s8 wr => ∃ (v gm cap : Nat), v ≤ f ∧ s7 = .slice (some ⟨gm, 0, none⟩) v cap ∧ s8 = .int .i64 v ∧ Hid (SB w0 wr (w.heap.size + 2) X gU i (.slice (some ⟨g1, 0, none⟩) nl cap1) (.slice none 0 0) (.slice none 0 0) (.slice (some ⟨gm, 0, none⟩) v cap) (Opt.used f c.gs c.roots) c.ns [] [] (Opt.evens v))) (fun _ s8 _ => f - (intOf s8).toNat)
    case atStart => exact ⟨0, _, _, Nat.zero_le _, rfl, rfl, Lib.hid HS0.out⟩
    case round =>
      clear HS0
      obtain ⟨v, gm, cap, hv, rfl, rfl, HS⟩ := hrel
      have hX := HB0.out.below HS.out.low (by omega)
      have q0 := hX.c0
      have q1 := hX.c1
      have q2 := hX.c2
      have q3 := hX.c3
      clear hX
      go_wp2_with fail
      refine (l1First_any _ _ _ _ _ _ _ _ _ _ _ (by omega) (by omega) (by omega)).mono ?_
      rintro e w5 ⟨rfl, hb5⟩
      rw [HF.out.hf]
      have HS5 := Lib.hid (HS.out.kept hb5)
      clear hb5 HS q0 q1 q2 q3
      by_cases hlt : v < f
      · have hEl := Opt.evens_len v
        have hbs := HS5.out.sz
        have HMP : Hid (w5.ownsRow (w.heap.size + 2) 3 1 (.slice (some ⟨gm, 0, none⟩) v cap) v (ivs (Opt.intL (Opt.evens v)))) := Lib.hid (by have := HS5.out.mp; rwa [hEl] at this)
        have HEL := Lib.hid hEl
        have e2 : ((2 * v : Nat) : Int) = 2 * (v : Int) := by omega
        have HE2 := Lib.hid e2
        clear hEl e2
        go_wp2_with (at_builtin; refine wpList_append_kept _ rfl (.tmp 31) (.tmp 34) 23 rfl (w.heap.size + 2) 3 i0 _ 1 8 Try.underlying23 HI0.out HZ0.out HZ1.out HZ2.out rfl (by omega) (.slice (some ⟨gm, 0, none⟩) v cap) v (ivs (Opt.intL (Opt.evens v))) rfl (HMP.out.alloc _) ⟨w5.heap.size, 0, none⟩ 1 1 [.int .i64 (2 * (v : Int))] rfl rfl (World.news_of_block (cs := #[.int .i64 (2 * (v : Int))]) (heap_alloc_new w5 _)) (by simp [Value.oneCell']) (by omega) (by simp [maxLen]; omega) (by omega) (by simp; omega) _ rfl ?_; intro g7 cap7 w7 hown7 hgr7 hat7 hlt7 hk7; have HS7 := Lib.hid ((HS5.out.alloc _).appM (z := 2 * v) (by rw [HEL.out, HE2.out]; exact hown7) hgr7 (hat7.imp id (fun h => Nat.le_of_eq h.symm))); clear hown7 hgr7 hat7 hlt7 hk7)
        go_roundw
        case rel => exact ⟨v + 1, g7, cap7, by omega, rfl, by go_num, Lib.hid (by have h := HS7.out; rw [HEL.out] at h; rw [Opt.evens_succ]; exact h)⟩
        case measure => simp [intOf]; omega
      · obtain rfl : f = v := by omega
        have q2 := (HB0.out.below HS5.out.low (by omega)).c2
        go_wp2
        clear q2
        have HS6 : Hid (SB w0 w5 (w.heap.size + 2) X gU i (.slice (some ⟨g1, 0, none⟩) nl cap1) (.slice none 0 0) (.slice none 0 0) (.slice (some ⟨gm, 0, none⟩) (f + 0) cap) (Opt.used f c.gs c.roots) c.ns (Opt.built share f ((zipU f c).take 0)).1 [] (Opt.built share f ((zipU f c).take 0)).2) := HS5
        clear HS5
        go_loopw [7, 9] (fun s7 s9 wr => ∃ (k gm cap : Nat) (vG : Value), k ≤ gl ∧ s7 = .slice (some ⟨gm, 0, none⟩) (f + k) cap ∧ s9 = .int .i64 k ∧ Hid (SB w0 wr (w.heap.size + 2) X gU i (.slice (some ⟨g1, 0, none⟩) nl cap1) vG (.slice none 0 0) (.slice (some ⟨gm, 0, none⟩) (f + k) cap) (Opt.used f c.gs c.roots) c.ns (Opt.built share f ((zipU f c).take k)).1 [] (Opt.built share f ((zipU f c).take k)).2)) (fun _ s9 _ => gl - (intOf s9).toNat)
        case atStart => exact ⟨0, gm, cap, _, Nat.zero_le _, rfl, rfl, HS6⟩
        case round =>
          clear HS6
          obtain ⟨k, gm, cap, vG, hk, rfl, rfl, HS⟩ := hrel
          obtain ⟨GA, gcap, rfl⟩ := own_shape HS.out.gates
          have q2 := (HB0.out.below HS.out.low (by omega)).c2
          by_cases hlt : k < gl
          · have hkl : k < c.gs.length := by rw [HF.out.lg]; exact hlt
            have hzl : k < (zipU f c).length := by rw [zipU_len]; exact hkl
            have HSN := Lib.hid (Opt.built_snoc share f (zipU f c) k hzl)
            rw [zipU_get f c hkl] at HSN
            have HBL := Lib.hid (built_len (f := f) (gs := zipU f c) share k (by omega))
            have cu := HS.out.us.cell (j := k) (by rw [Opt.used_len]; exact hkl)
            have hC : CircAt wr w.heap.size nA gA oA (Opt.intL c.ns) (Opt.intG c.gs) (Opt.intL c.os) := (HC.out.below HW0.out).below (HS.out.low.mono (by omega))
            obtain ⟨b, off, rfl, hbl, hcA, hcB⟩ := hC.gates k (by rw [Opt.intG_len]; exact hkl)
            rw [Opt.intG_at] at hcA hcB
            obtain ⟨oA1, oB1⟩ := HF.out.ok.ord k hkl
            clear hC hzl
            have k0 : (0 : Int) ≤ (k : Int) := by omega
            have k1 : (k : Int) < (gl : Int) := by omega
            cases hu : (Opt.used f c.gs c.roots).getD k false with
            | false =>
              rw [hu] at cu HSN
              clear hu
              have hSN : Opt.built share f ((zipU f c).take (k + 1)) = ((Opt.built share f ((zipU f c).take k)).1, (Opt.built share f ((zipU f c).take k)).2 ++ [0]) := by rw [HSN.out]; rfl
              have HSN2 := Lib.hid hSN
              have hbs := HS.out.sz
              have HMP : Hid (wr.ownsRow (w.heap.size + 2) 3 1 (.slice (some ⟨gm, 0, none⟩) (f + k) cap) (f + k) (ivs (Opt.intL (Opt.built share f ((zipU f c).take k)).2))) := Lib.hid (by have := HS.out.mp; rwa [HBL.out] at this)
              clear hSN HSN hcA hcB
              go_wp2_with (at_builtin; refine wpList_append_kept _ rfl (.tmp 107) (.tmp 109) 23 rfl (w.heap.size + 2) 3 i0 _ 1 8 Try.underlying23 HI0.out HZ0.out HZ1.out HZ2.out rfl (by omega) (.slice (some ⟨gm, 0, none⟩) (f + k) cap) (f + k) (ivs (Opt.intL (Opt.built share f ((zipU f c).take k)).2)) rfl (HMP.out.alloc _) ⟨wr.heap.size, 0, none⟩ 1 1 [.int .i64 0] rfl rfl (World.news_of_block (cs := #[.int .i64 0]) (heap_alloc_new wr _)) (by simp [Value.oneCell']) (by omega) (by simp [maxLen]; omega) (by omega) (by simp; omega) _ rfl ?_; intro g7 cap7 w7 hown7 hgr7 hat7 hlt7 hk7; have HS7 := Lib.hid ((HS.out.alloc _).appM (z := 0) (by rw [HBL.out]; exact hown7) hgr7 (hat7.imp id (fun h => Nat.le_of_eq h.symm))); clear hown7 hgr7 hat7 hlt7 hk7)
              go_roundw
              case rel => exact ⟨k + 1, g7, cap7, _, by omega, rfl, by go_num, Lib.hid (by have h := HS7.out; rw [HBL.out] at h; rw [HSN2.out]; exact h)⟩
              case measure => simp [intOf]; omega
            | true =>
              rw [hu] at cu HSN
              clear hu
              cases share with
              | true => exact absurd HSH.out (by decide)
              | false =>
                have hSN : Opt.built false f ((zipU f c).take (k + 1)) = ((Opt.built false f ((zipU f c).take k)).1 ++ [(Opt.mapL (Opt.built false f ((zipU f c).take k)).2 (Opt.at_ c.gs k).1, Opt.mapL (Opt.built false f ((zipU f c).take k)).2 (Opt.at_ c.gs k).2)], (Opt.built false f ((zipU f c).take k)).2 ++ [2 * (f + (Opt.built false f ((zipU f c).take k)).1.length)]) := by rw [HSN.out]; rfl
                have HSN2 := Lib.hid hSN
                obtain ⟨hbd, hle⟩ := built_f_bd (f := f) (gs := zipU f c) k (by rw [zipU_len]; omega)
                have hba := hbd ((Opt.at_ c.gs k).1 / 2)
                have hbb := hbd ((Opt.at_ c.gs k).2 / 2)
                have hma := Opt.mapL_var (Opt.built false f ((zipU f c).take k)).2 (Opt.at_ c.gs k).1
                have hmb := Opt.mapL_var (Opt.built false f ((zipU f c).take k)).2 (Opt.at_ c.gs k).2
                clear hSN HSN hbd hkl
                generalize (Opt.at_ c.gs k).1 = va at *
                generalize (Opt.at_ c.gs k).2 = vb at *
                generalize (Opt.built false f ((zipU f c).take k)).1 = s1 at *
                generalize (Opt.built false f ((zipU f c).take k)).2 = s2 at *
                generalize hxa' : Opt.mapL s2 va = xa at *
                generalize hxb' : Opt.mapL s2 vb = xb at *
                have HXA := Lib.hid hxa'
                have HXB := Lib.hid hxb'
                have hxa : xa < 1000 := by omega
                have hxb : xb < 1000 := by omega
                clear hxa' hxb' hma hmb
                have hzX := HS.out.cir.lt
                have hXB := HS.out.XB
                have hbs := HS.out.sz
                go_upto_region 17 with fail
                go_cut [] (fun wx => ∃ (g2 cap2 : Nat), Hid (SB w0 wx (w.heap.size + 2) X gU i (.slice (some ⟨g1, 0, none⟩) nl cap1) (.slice (some ⟨g2, 0, none⟩) (s1.length + 1) cap2) (.slice none 0 0) (.slice (some ⟨gm, 0, none⟩) (f + k) cap) (Opt.used f c.gs c.roots) c.ns (s1 ++ [(xa, xb)]) [] s2))
                case first =>
                  have c2 := HS.out.cir.cell 2
                  have f2 := HS.out.cir.frozen 2
                  have c2a := fun o => (HS.out.alloc o).cir.cell 2
                  simp at c2 c2a
                  have HM1 : Hid (IntsAt wr.drew (wr.heap.size + 1) (some ⟨gm, 0, none⟩) (Opt.intL s2)) := Lib.hid ((HS.out.drew.names rfl HBL.out).mono (by show wr.heap.size ≤ _; omega))
                  have hH1 : w.heap.size ≠ wr.heap.size := by omega
                  have hb1 : b ≠ wr.heap.size := by omega
                  have hX1 : X ≠ w.heap.size := by omega
                  have hX2 : X ≠ b := by omega
                  have hX3 : w.heap.size ≠ X := by omega
                  have hX4 : b ≠ X := by omega
                  rw [lateLoad_of 24 (.tmp 77)]
                  go_region_held3 (fun w' => w'.cell? ⟨w.heap.size, 2, none⟩ = some (.slice (some ⟨b, off, none⟩) gl gc) ∧ w'.cell? ⟨b, off + k * 2, none⟩ = some (.int .i64 va) ∧ w'.cell? ⟨b, off + k * 2 + 1, none⟩ = some (.int .i64 vb)) (first | (with_reducible exact hS9) | (with_reducible exact hS8) | go_keep)
                    (first
                      | (go_at_call 93; (with_reducible refine (l3Map_any (some ⟨gm, 0, none⟩) (f + k) cap va (wr.heap.size + 1) s2 _ HM1.out HBL.out (by omega) (by omega) (by omega)).mono ?_); rintro e w' ⟨rfl, rfl⟩; rw [HXA.out])
                      | (go_at_call 93; (with_reducible refine (l3Map_any (some ⟨gm, 0, none⟩) (f + k) cap vb (wr.heap.size + 1) s2 _ HM1.out HBL.out (by omega) (by omega) (by omega)).mono ?_); rintro e w' ⟨rfl, rfl⟩; rw [HXB.out]; have tokB : True := trivial)
                      | (have _t := tokB; refine step_append_kept _ (by rfl) (.tmp 78) (.tmp 96) 24 (by rfl) (w.heap.size + 2) 46 i1 _ 2 16 Try.underlying24 HJ0.out HY0.out HY1.out HY2.out rfl (by omega) (.slice GA s1.length gcap) s1.length (gvs (Opt.intG s1)) (by rfl) (HS.out.gates.alloc _).drew ⟨wr.heap.size, 0, none⟩ 1 1 [.int .i64 xa, .int .i64 xb] (by rfl) (by rfl) (World.news_of_block (cs := #[.int .i64 xa, .int .i64 xb]) (t := 46) (fr := (0, 0)) (heap_alloc_new wr _)) (by simp [Value.oneCell']) (by omega) (by simp [maxLen]; omega) (by omega) (by simp; omega) _ rfl ?_; intro g2 cap2 w7 hown7 hgr7 hat7 hlt7 hk7; have HS7 := Lib.hid ((HS.out.alloc _).drew.appG hown7 hgr7); have hr7 := (HS.out.alloc _).drew.growG hgr7; have d2 := hr7.1.cell 2; have e2 := hr7.1.frozen 2; simp at d2; have hl7 := hr7.2.2.2.2.2; have hS8 := And.intro ((HB0.out.below hl7 (by omega)).c2) (And.intro ((((hl7.cell (p := ⟨b, off + k * 2, none⟩) (show b < w.heap.size + 2 by omega)).trans ((HS.out.low.cell (p := ⟨b, off + k * 2, none⟩) (show b < w.heap.size + 2 by omega)).symm))).trans hcA) (((hl7.cell (p := ⟨b, off + k * 2 + 1, none⟩) (show b < w.heap.size + 2 by omega)).trans ((HS.out.low.cell (p := ⟨b, off + k * 2 + 1, none⟩) (show b < w.heap.size + 2 by omega)).symm)).trans hcB)); clear hown7 hgr7 hat7 hlt7 hk7 hr7 hl7))
                  all_goals
                    go_wp2_with fail
                    go_meet
                    exact ⟨_, _, HS7⟩
                case rest =>
                  obtain ⟨g2, cap2, HS3⟩ := hcut
                  clear HS q2 cu hcA hcB
                  generalize hn1 : s1.length + 1 = n1 at *
                  have HN1 := Lib.hid hn1
                  have hn1b : n1 ≤ 100 := by omega
                  clear hn1
                  have c0 := HS3.out.cir.cell 0
                  have c1 := HS3.out.cir.cell 1
                  have c2 := HS3.out.cir.cell 2
                  have c3 := HS3.out.cir.cell 3
                  simp at c0 c1 c2 c3
                  have hzX3 := HS3.out.cir.lt
                  have HS4 := Lib.hid HS3.out.drew
                  have t1 : IntKind.i64.wrap ((f : Int) + (n1 : Int)) = (f : Int) + (n1 : Int) := IntWalk.i64_in _ (by omega)
                  have t2 : IntKind.i64.wrap ((f : Int) + (n1 : Int) - 1) = (f : Int) + (n1 : Int) - 1 := IntWalk.i64_in _ (by omega)
                  have t3 : IntKind.i64.wrap (2 * ((f : Int) + (n1 : Int) - 1)) = 2 * ((f : Int) + (n1 : Int) - 1) := IntWalk.i64_in _ (by omega)
                  go_upto_region 18 with fail
                  go_cut [10] (fun s10 wx => s10 = .int .i64 (2 * ((f : Int) + (n1 : Int) - 1)) ∧ Hid (SB w0 wx (w.heap.size + 2) X gU i (.slice (some ⟨g1, 0, none⟩) nl cap1) (.slice (some ⟨g2, 0, none⟩) n1 cap2) (.slice none 0 0) (.slice (some ⟨gm, 0, none⟩) (f + k) cap) (Opt.used f c.gs c.roots) c.ns (s1 ++ [(xa, xb)]) [] s2))
                  case first =>
                    go_region_held3 (fun w' => w'.cell? ⟨X, 0, none⟩ = some (.int .i64 i) ∧ w'.cell? ⟨X, 1, none⟩ = some (.slice (some ⟨g1, 0, none⟩) nl cap1) ∧ w'.cell? ⟨X, 2, none⟩ = some (.slice (some ⟨g2, 0, none⟩) n1 cap2) ∧ w'.cell? ⟨X, 3, none⟩ = some (.slice none 0 0)) (first | (with_reducible exact hS7) | go_keep)
                      (first
                        | (go_at_call 59; refine (l1First_any _ _ _ _ _ _ _ _ _ _ _ (by omega) (by omega) (by omega)).mono ?_; rintro e w7 ⟨rfl, hb7⟩; rw [HF.out.hf]; have HS7 := Lib.hid (HS4.out.kept hb7); have hr7 := HS7.out.cir; have hS7 := And.intro (hr7.cell 0) (And.intro (hr7.cell 1) (And.intro (hr7.cell 2) (hr7.cell 3))); clear hb7 hr7))
                    all_goals
                      go_wp2_with fail
                      go_meet
                      exact ⟨rfl, HS7⟩
                  case rest =>
                    obtain ⟨rfl, HS5⟩ := hcut
                    clear c0 c1 c2 c3 t1 t2 t3 HS3 HS4
                    have hbs8 := HS5.out.sz
                    have HMP : Hid (wc.ownsRow (w.heap.size + 2) 3 1 (.slice (some ⟨gm, 0, none⟩) (f + k) cap) (f + k) (ivs (Opt.intL s2))) := Lib.hid (by have := HS5.out.mp; rwa [HBL.out] at this)
                    have e3 : 2 * ((f : Int) + (n1 : Int) - 1) = ((2 * (f + s1.length) : Nat) : Int) := by have := HN1.out; omega
                    rw [e3]
                    clear e3
                    generalize 2 * (f + s1.length) = rl at *
                    go_wp2_with (at_builtin; refine wpList_append_kept _ rfl (.tmp 107) (.tmp 109) 23 rfl (w.heap.size + 2) 3 i0 _ 1 8 Try.underlying23 HI0.out HZ0.out HZ1.out HZ2.out rfl (by omega) (.slice (some ⟨gm, 0, none⟩) (f + k) cap) (f + k) (ivs (Opt.intL s2)) rfl (HMP.out.alloc _) ⟨wc.heap.size, 0, none⟩ 1 1 [.int .i64 (rl : Int)] rfl rfl (World.news_of_block (cs := #[.int .i64 (rl : Int)]) (heap_alloc_new wc _)) (by simp [Value.oneCell']) (by omega) (by simp [maxLen]; omega) (by omega) (by simp; omega) _ rfl ?_; intro g7 cap7 w7 hown7 hgr7 hat7 hlt7 hk7; have HS7 := Lib.hid ((HS5.out.alloc _).appM (z := rl) (by rw [HBL.out]; exact hown7) hgr7 (hat7.imp id (fun h => Nat.le_of_eq h.symm))); clear hown7 hgr7 hat7 hlt7 hk7)
                    go_roundw
                    case rel => exact ⟨k + 1, g7, cap7, _, by omega, rfl, by go_num, Lib.hid (by have h := HS7.out; rw [HBL.out] at h; rw [HSN2.out]; exact h)⟩
                    case measure => simp [intOf]; omega
          · obtain rfl : gl = k := by omega
            have HBL := Lib.hid (built_len (f := f) (gs := zipU f c) share gl (by rw [zipU_len, HF.out.lg]; exact Nat.le_refl _))
            have hbd : ∀ v, (Opt.built share f ((zipU f c).take gl)).2.getD v 0 < 1000 := by
              cases share with
              | false =>
                have := (built_f_bd (f := f) (gs := zipU f c) gl (by rw [zipU_len, HF.out.lg]; exact Nat.le_refl _)).1
                exact fun v => by have := this v; omega
              | true => exact absurd HSH.out (by decide)
            have HBD := Lib.hid hbd
            clear hbd
            have hle1 : (Opt.built share f ((zipU f c).take gl)).1.length ≤ gl := by
              cases share with
              | false => exact (built_f_bd (f := f) (gs := zipU f c) gl (by rw [zipU_len, HF.out.lg]; exact Nat.le_refl _)).2
              | true => exact (Opt.built_good (by omega) (zipU f c) (Opt.ordered_gOk HF.out.ok.ord _ (Opt.used_len _ _ _)) gl (by rw [zipU_len, HF.out.lg]; exact Nat.le_refl _)).le
            have hbz : Opt.bld share f c = ⟨(Opt.built share f ((zipU f c).take gl)).1, c.os.map (Opt.mapL (Opt.built share f ((zipU f c).take gl)).2), c.ns.map (Opt.mapL (Opt.built share f ((zipU f c).take gl)).2)⟩ := by
              have e : (zipU f c).take gl = zipU f c := List.take_of_length_le (by rw [zipU_len, HF.out.lg]; exact Nat.le_refl _)
              rw [e]
              rfl
            have HBZ := Lib.hid hbz
            clear hbz
            generalize (Opt.built share f ((zipU f c).take gl)).1 = s1 at *
            generalize (Opt.built share f ((zipU f c).take gl)).2 = s2 at *
            have q1 := (HB0.out.below HS.out.low (by omega)).c1
            go_wp2
            clear q1 q2
            go_loopw [13] (fun s13 wx => ∃ (j : Nat), j ≤ nl ∧ s13 = .int .i64 j ∧ Hid (SB w0 wx (w.heap.size + 2) X gU i (.slice (some ⟨g1, 0, none⟩) nl cap1) (.slice GA s1.length gcap) (.slice none 0 0) (.slice (some ⟨gm, 0, none⟩) (f + gl) cap) (Opt.used f c.gs c.roots) (nsj s2 c.ns j) s1 [] s2)) (fun s13 _ => nl - (intOf s13).toNat)
            case atStart => exact ⟨0, Nat.zero_le _, rfl, Lib.hid (by have h := HS.out; exact h)⟩
            case round =>
              clear HS
              obtain ⟨j, hj, rfl, HS⟩ := hrel
              have q1 := (HB0.out.below HS.out.low (by omega)).c1
              by_cases hlj : j < nl
              · have hjl : j < c.ns.length := by rw [HF.out.ln]; exact hlj
                have hnl' : (nsj s2 c.ns j).length = nl := by rw [nsj_len _ _ _ (by omega), HF.out.ln]
                have hC : CircAt wr w.heap.size nA gA oA (Opt.intL c.ns) (Opt.intG c.gs) (Opt.intL c.os) := (HC.out.below HW0.out).below (HS.out.low.mono (by omega))
                obtain ⟨b, off, rfl, hbl, hcN⟩ := hC.next j (by rw [Opt.intL_len]; exact hjl)
                rw [Opt.intL_at] at hcN
                have hrt := HF.out.ok.root _ (List.mem_append_right _ (getD_mem hjl))
                rw [HF.out.lg] at hrt
                have HST := Lib.hid (nsj_step s2 c.ns j hjl)
                have HS7 := Lib.hid (HS.out.drew.setN' hnl' hlj (Opt.mapL s2 (c.ns.getD j 0)))
                have hb2 := HBD.out (c.ns.getD j 0 / 2)
                obtain ⟨cur, hcr⟩ := own_row HS.out.next
                obtain ⟨oldv, hco⟩ := HS.out.nextCell hnl' hlj
                have hfo := hcr.frozen j
                have c1 := HS.out.cir.cell 1
                simp at c1
                have n1 : X ≠ g1 := fun e => by
                  have := own_ne88 HS.out.cir HS.out.next
                  exact this (by rw [e]; rfl)
                have n2 : g1 ≠ X := fun e => n1 e.symm
                have hg1B := (HS.out.next.lt g1 rfl).1
                have n3 : w.heap.size ≠ g1 := by omega
                have n4 : b ≠ g1 := by omega
                have n5 : g1 ≠ w.heap.size := by omega
                have n6 : g1 ≠ b := by omega
                have HM1 : Hid (IntsAt wr.drew wr.heap.size (some ⟨gm, 0, none⟩) (Opt.intL s2)) := Lib.hid (HS.out.drew.names rfl HBL.out)
                clear hC hcr hjl hnl'
                generalize c.ns.getD j 0 = v at *
                have k0 : (0 : Int) ≤ (j : Int) := by omega
                have k1 : (j : Int) < (nl : Int) := by omega
                go_wp2
                go_region_held3 (fun w' => w'.cell? ⟨X, 1, none⟩ = some (.slice (some ⟨g1, 0, none⟩) nl cap1) ∧ w'.cell? ⟨w.heap.size, 1, none⟩ = some (.slice (some ⟨b, off, none⟩) nl nc) ∧ w'.cell? ⟨b, off + j, none⟩ = some (.int .i64 v)) (go_keep)
                  (first
                    | (go_at_call 93; (with_reducible refine (l3Map_any (some ⟨gm, 0, none⟩) (f + gl) cap v wr.heap.size s2 _ HM1.out HBL.out (by omega) (by omega) (by omega)).mono ?_); rintro e w' ⟨rfl, rfl⟩))
                all_goals
                  clear hco hfo c1
                  go_wp2
                  go_roundw
                  case rel => exact ⟨j + 1, by omega, by go_num, Lib.hid (by rw [HST.out]; exact HS7.out)⟩
                  case measure => simp [intOf]; omega
              · obtain rfl : nl = j := by omega
                have hns : nsj s2 c.ns nl = c.ns.map (Opt.mapL s2) := by
                  unfold nsj
                  rw [List.take_of_length_le (by rw [HF.out.ln]; exact Nat.le_refl _), List.drop_of_length_le (by rw [HF.out.ln]; exact Nat.le_refl _), List.append_nil]
                rw [hns] at HS
                clear hns
                have q3 := (HB0.out.below HS.out.low (by omega)).c3
                go_wp2
                clear q1 q3
                have HS0 : Hid (SB w0 wr (w.heap.size + 2) X gU i (.slice (some ⟨g1, 0, none⟩) nl cap1) (.slice GA s1.length gcap) (.slice none 0 0) (.slice (some ⟨gm, 0, none⟩) (f + gl) cap) (Opt.used f c.gs c.roots) (c.ns.map (Opt.mapL s2)) s1 ((c.os.take 0).map (Opt.mapL s2)) s2) := HS
                clear HS
                go_loopw [14] (fun s14 wx => ∃ (j : Nat) (OA : Option Addr) (ocap : Nat), j ≤ ol ∧ s14 = .int .i64 j ∧ Hid (SB w0 wx (w.heap.size + 2) X gU i (.slice (some ⟨g1, 0, none⟩) nl cap1) (.slice GA s1.length gcap) (.slice OA j ocap) (.slice (some ⟨gm, 0, none⟩) (f + gl) cap) (Opt.used f c.gs c.roots) (c.ns.map (Opt.mapL s2)) s1 ((c.os.take j).map (Opt.mapL s2)) s2)) (fun s14 _ => ol - (intOf s14).toNat)
                case atStart => exact ⟨0, none, 0, Nat.zero_le _, rfl, HS0⟩
                case round =>
                  clear HS0
                  obtain ⟨j, OA, ocap, hj, rfl, HS⟩ := hrel
                  have q3 := (HB0.out.below HS.out.low (by omega)).c3
                  by_cases hlj : j < ol
                  · have hjl : j < c.os.length := by rw [HF.out.lo]; exact hlj
                    have hoj : ((c.os.take j).map (Opt.mapL s2)).length = j := by rw [List.length_map, List.length_take]; omega
                    have hC : CircAt wr w.heap.size nA gA oA (Opt.intL c.ns) (Opt.intG c.gs) (Opt.intL c.os) := (HC.out.below HW0.out).below (HS.out.low.mono (by omega))
                    obtain ⟨b, off, rfl, hbl, hcN⟩ := hC.outs j (by rw [Opt.intL_len]; exact hjl)
                    rw [Opt.intL_at] at hcN
                    have hrt := HF.out.ok.root _ (List.mem_append_left _ (getD_mem hjl))
                    rw [HF.out.lg] at hrt
                    have HST : Hid ((c.os.take (j + 1)).map (Opt.mapL s2) = (c.os.take j).map (Opt.mapL s2) ++ [Opt.mapL s2 (c.os.getD j 0)]) := Lib.hid (by
                      rw [List.take_succ_eq_append_getElem hjl, List.map_append]
                      simp [List.getD_eq_getElem?_getD, hjl])
                    have hb2 := HBD.out (c.os.getD j 0 / 2)
                    have HOJ := Lib.hid hoj
                    clear hC hjl hoj
                    generalize c.os.getD j 0 = v at *
                    generalize (c.os.take j).map (Opt.mapL s2) = osj at *
                    have k0 : (0 : Int) ≤ (j : Int) := by omega
                    have k1 : (j : Int) < (ol : Int) := by omega
                    have hbs := HS.out.sz
                    have c3 := HS.out.cir.cell 3
                    have f3 := HS.out.cir.frozen 3
                    have c3a := fun o => (HS.out.alloc o).cir.cell 3
                    simp at c3 c3a
                    have hXl := HS.out.cir.lt
                    have hXB := HS.out.XB
                    have HM1 : Hid (IntsAt wr.drew wr.heap.size (some ⟨gm, 0, none⟩) (Opt.intL s2)) := Lib.hid (HS.out.drew.names rfl HBL.out)
                    have HOW : Hid (wr.ownsRow (w.heap.size + 2) 3 1 (.slice OA j ocap) j (ivs (Opt.intL osj))) := Lib.hid (by have := HS.out.outs; rwa [HOJ.out] at this)
                    have hH1 : w.heap.size ≠ wr.heap.size := by omega
                    have hb1 : b ≠ wr.heap.size := by omega
                    have hX1 : X ≠ w.heap.size := by omega
                    have hX2 : X ≠ b := by omega
                    have hX3 : w.heap.size ≠ X := by omega
                    have hX4 : b ≠ X := by omega
                    go_wp2
                    have tok0 : True := trivial
                    have HS1 := Lib.hid HS.out.drew
                    go_region_law (first
                      | (have _t := tokB; refine step_append_kept _ (by rfl) _ _ _ (by rfl) (w.heap.size + 2) 3 i0 _ 1 8 Try.underlying23 HI0.out HZ0.out HZ1.out HZ2.out rfl (by omega) (.slice OA j ocap) j (ivs (Opt.intL osj)) (by simp [Act.eval]) (HOW.out.alloc _).drew ⟨wr.heap.size, 0, none⟩ 1 1 [.int .i64 (Opt.mapL s2 v : Nat)] (by simp [Act.eval]) (by rfl) (World.news_of_block (cs := #[.int .i64 (Opt.mapL s2 v : Nat)]) (t := 3) (fr := (0, 0)) (heap_alloc_new wr _)) (by simp [Value.oneCell']) (by omega) (by simp [maxLen]; omega) (by omega) (by simp; omega) _ rfl ?_; intro g2 cap2 w7 hown7 hgr7 hat7 hlt7 hk7; have HS7 := Lib.hid ((HS.out.alloc _).drew.appO (z := Opt.mapL s2 v) (by rw [HOJ.out]; exact hown7) hgr7 (hat7.imp id (fun h => Nat.le_of_eq h.symm))); have hr7 := (HS.out.alloc _).drew.growO hgr7; have d2 := hr7.1.cell 3; have e2 := hr7.1.frozen 3; simp at d2; clear hown7 hgr7 hat7 hlt7 hk7 hr7)
                      | (have _t := tok0; go_simp; go_at_call 93; (with_reducible refine (l3Map_any (some ⟨gm, 0, none⟩) (f + gl) cap v wr.heap.size s2 _ HM1.out HBL.out (by omega) (by omega) (by omega)).mono ?_); rintro e w' ⟨rfl, rfl⟩; have tokB : True := trivial; clear tok0))
                    all_goals
                      clear d2 e2 c3 f3 c3a
                      go_wp2
                      go_roundw
                      case rel => exact ⟨j + 1, some ⟨g2, 0, none⟩, cap2, by omega, by go_num, Lib.hid (by have h := HS7.out; rw [HOJ.out] at h; rw [HST.out]; exact h)⟩
                      case measure => simp [intOf]; omega
                  · obtain rfl : ol = j := by omega
                    have hos : (c.os.take ol).map (Opt.mapL s2) = c.os.map (Opt.mapL s2) := by rw [List.take_of_length_le (by rw [HF.out.lo]; exact Nat.le_refl _)]
                    rw [hos] at HS
                    clear hos
                    have c0 := HS.out.cir.cell 0
                    have c1 := HS.out.cir.cell 1
                    have c2 := HS.out.cir.cell 2
                    have c3 := HS.out.cir.cell 3
                    simp at c0 c1 c2 c3
                    have hq3 := HQ0.out.below HS.out.low (by omega)
                    have y0 := hq3.cell 0
                    have y1 := hq3.cell 1
                    have y2 := hq3.cell 2
                    have y3 := hq3.cell 3
                    have x0 := hq3.frozen 0
                    have x1 := hq3.frozen 1
                    have x2 := hq3.frozen 2
                    have x3 := hq3.frozen 3
                    simp at y0 y1 y2 y3
                    have HQ3 := Lib.hid hq3
                    clear hq3
                    have hXB := HS.out.XB
                    have nX : X ≠ w.heap.size + 1 := by omega
                    go_wp2
                    have hq := (((HQ3.out.set 0 (.int .i64 i)).set 1 (.slice (some ⟨g1, 0, none⟩) nl cap1)).set 2 (.slice GA s1.length gcap)).set 3 (.slice OA ol ocap)
                    simp at hq
                    have HQ := Lib.hid hq
                    have hC : w.heap.size + 1 < w.heap.size + 2 := by omega
                    have HA1 := Lib.hid (own_setC (own_setC (own_setC (own_setC HS.out.next hC 0 (.int .i64 i)) hC 1 (.slice (some ⟨g1, 0, none⟩) nl cap1)) hC 2 (.slice GA s1.length gcap)) hC 3 (.slice OA ol ocap))
                    have HA2 := Lib.hid (own_setC (own_setC (own_setC (own_setC HS.out.gates hC 0 (.int .i64 i)) hC 1 (.slice (some ⟨g1, 0, none⟩) nl cap1)) hC 2 (.slice GA s1.length gcap)) hC 3 (.slice OA ol ocap))
                    have HA3 := Lib.hid (own_setC (own_setC (own_setC (own_setC HS.out.outs hC 0 (.int .i64 i)) hC 1 (.slice (some ⟨g1, 0, none⟩) nl cap1)) hC 2 (.slice GA s1.length gcap)) hC 3 (.slice OA ol ocap))
                    have HA4 := Lib.hid (((((HW0.out.trans (HS.out.low.mono (show w.heap.size ≤ w.heap.size + 2 by omega))).setCell (p := ⟨w.heap.size + 1, 0, none⟩) (by simp) (.int .i64 i)).setCell (p := ⟨w.heap.size + 1, 1, none⟩) (by simp) (.slice (some ⟨g1, 0, none⟩) nl cap1)).setCell (p := ⟨w.heap.size + 1, 2, none⟩) (by simp) (.slice GA s1.length gcap)).setCell (p := ⟨w.heap.size + 1, 3, none⟩) (by simp) (.slice OA ol ocap))
                    clear x0 x1 x2 x3 y0 y1 y2 y3 c0 c1 c2 c3 hq
                    generalize (((wr.setCell ⟨w.heap.size + 1, 0, none⟩ (.int .i64 i)).setCell ⟨w.heap.size + 1, 1, none⟩ (.slice (some ⟨g1, 0, none⟩) nl cap1)).setCell ⟨w.heap.size + 1, 2, none⟩ (.slice GA s1.length gcap)).setCell ⟨w.heap.size + 1, 3, none⟩ (.slice OA ol ocap) = w10 at *
                    have p0 := HQ.out.cell 0
                    have p1 := HQ.out.cell 1
                    have p2 := HQ.out.cell 2
                    have p3 := HQ.out.cell 3
                    simp at p0 p1 p2 p3
                    have hN := HA1.out
                    rw [← Opt.intL_len (c.ns.map (Opt.mapL s2))] at hN
                    obtain ⟨A1, k1, e1, i1', f1'⟩ := own_intsAt hN
                    have hG := HA2.out
                    rw [← Opt.intG_len s1] at hG
                    obtain ⟨A2, k2, e2, i2', f2', _⟩ := own_gatesAt hG
                    have hO := HA3.out
                    rw [← Opt.intL_len (c.os.map (Opt.mapL s2))] at hO
                    obtain ⟨A3, k3, e3, i3', f3'⟩ := own_intsAt hO
                    injection e1 with e1
                    injection e2 with e2
                    injection e3 with e3
                    subst e1 e2 e3
                    refine bodyPost_ret (v := .agg #[.int .i64 i, .slice (some ⟨g1, 0, none⟩) nl cap1, .slice GA s1.length gcap, .slice OA ol ocap]) (by simp [results, Try.results50, go_sem, p0, p1, p2, p3]) rfl ⟨some ⟨g1, 0, none⟩, GA, OA, cap1, gcap, ocap, by rw [HBZ.out], ?_, fun b off e => Nat.le_trans (by omega) (f1' b off e), fun b off e => Nat.le_trans (by omega) (f2' b off e), fun b off e => Nat.le_trans (by omega) (f3' b off e), HA4.out⟩
                    rw [HBZ.out]
                    exact ⟨i1', i2', i3', by rw [Opt.intL_len, List.length_map, HF.out.ln]; unfold maxLen; omega, by rw [Opt.intG_len]; show s1.length ≤ maxLen; unfold maxLen; omega, by rw [Opt.intL_len, List.length_map, HF.out.lo]; unfold maxLen; omega⟩
end Go.Proofs.Ythpiddpkcmecfaa
