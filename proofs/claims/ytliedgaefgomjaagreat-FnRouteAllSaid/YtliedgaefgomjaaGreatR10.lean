/- A placement, drawn. -/
import Derived.Test.YtliedgaefgomjaaGreatPM
import Derived.Test.YtliedgaefgomjaaGreatR8
import Derived.Test.YtliedgaefgomjaaGreatNP
import Derived.Deep.DeepCutAuto
namespace Go.Proofs.YtliedgaefgomjaaGreat
open Go.RowKit Go.Deep Cut

def PlaceDrawn (w : World) (R : Nat) (e : Ending) (w' : World) : Prop :=
  ∃ (A : Option Addr) (xs : List Int) (cap : Nat), e = .returned (.slice A xs.length cap) ∧ IntsAt w' w'.heap.size A xs ∧ xs.length ≤ 18 ∧ xs.length ≤ cap ∧ w.grownBy w' (some R) ∧ FreshA w.heap.size A

theorem TimesAt.mt (w : World) (B : Nat) (hB : B ≤ w.heap.size) : TimesAt (w.alloc (.cells #[] 3)) B [] w.heap.size 0 := World.ownsRow_lit (base := B) (e := 3) (size := 1) w #[] 0 hB (by simp [maxLen]) (by simp)
theorem TimesAt.cap {w : World} {s g cap : Nat} {xs : List Nat} (h : TimesAt w s xs g cap) : xs.length ≤ cap := by
  obtain ⟨cur, _, _, h3, _⟩ := own_partsE h
  exact h3
theorem gb_bel {w w' w'' : World} {R : Nat} (h : w.grownBy w' (some R)) (hb : Below w.heap.size w' w'') : w.grownBy w'' (some R) :=
  ⟨hb.os.trans h.os, hb.tape.trans h.tape, hb.output.trans h.output, Nat.le_trans h.size hb.size, fun b h1 h2 => (hb.block b h1).trans (h.block b h1 h2)⟩
theorem gb_two {w w' w'' : World} {R : Nat} (h : w.grownBy w' (some R)) (hb : w'.grownBy w'' (some R)) : w.grownBy w'' (some R) :=
  ⟨hb.os.trans h.os, hb.tape.trans h.tape, hb.output.trans h.output, Nat.le_trans h.size hb.size, fun b h1 h2 => (hb.block b (Nat.lt_of_lt_of_le h1 h.size) h2).trans (h.block b h1 h2)⟩
theorem TimesAt.gr {w w' : World} {s g cap R : Nat} {xs : List Nat} (h : TimesAt w s xs g cap) (hg : w.grownBy w' (some R)) (hR : R < s) : TimesAt w' s xs g cap :=
  h.keep (hg.block g h.gb.2 (by intro e; injection e with e; have := h.gb.1; omega))
theorem IntsAt.dropN {w : World} {B g cap : Nat} {xs : List Int} (h : IntsAt w B (some ⟨g, 0, none⟩) xs) (u : Nat) : IntsAt w B (some ⟨g, u, none⟩) (xs.drop u) := fun k hk => by
  have _c := cap
  rw [List.length_drop] at hk
  obtain ⟨b, off, e, hlt, hc⟩ := h (u + k) (by omega)
  injection e with e
  injection e with e1 e2
  subst e1 e2
  refine ⟨g, u, rfl, hlt, ?_⟩
  rw [Nat.zero_add] at hc
  rw [hc]
  congr 2
  simp [List.getD_eq_getElem?_getD, List.getElem?_drop]
theorem scellsL_v (i : Int) (nA gA oA : Option Addr) (nc gc oc : Nat) (ns : List Int) (gs : List (Int × Int)) (os : List Int) (w : World) (hc : CircAt w w.heap.size nA gA oA ns gs os) :
    Calls Tryz.prog 72 #[.agg #[.int .i64 i, .slice nA ns.length nc, .slice gA gs.length gc, .slice oA os.length oc]] w fun e w' => ∃ (A : Option Addr) (l cap : Nat), e = .returned (.slice A l cap) ∧ l ≤ 17 ∧ Below w.heap.size w w' := by
  cases hv : Circ.validB i ns gs os
  · refine (scells_f i nA gA oA nc gc oc ns gs os w hc hv).mono ?_
    rintro e w' ⟨⟨A, cap, rfl⟩, hb⟩
    exact ⟨A, 0, cap, rfl, by omega, hb⟩
  · refine (scells_t i nA gA oA nc gc oc ns gs os w hc hv).mono ?_
    rintro e w' ⟨g, cap, hs, rfl, _, hb⟩
    exact ⟨some ⟨g, 0, none⟩, _, cap, rfl, (cellsV_lim hv).1, hb⟩
/-- One list behind another. -/
theorem step_joinT {ops : Array Oper} {o : Oper} {a : Act} {Q : Exit → Act → World → Prop} {K : Act → World → Prop} {E : Prop} (hgd : o.guard = none) (s x : Operand) (ho : o.op = .call { callee := .builtin .append, args := #[s, x], argTypes := #[23, 23] })
    (wr : World) (B g cap n m c : Nat) (xs ys : List Nat) (A : Option Addr) (hev : a.eval s = .slice (some ⟨g, 0, none⟩) n cap) (hn : xs.length = n) (h : TimesAt wr B xs g cap) (hnb : n ≤ 1000) (hx : a.eval x = .slice A m c) (hm : ys.length = m) (hmb : m ≤ 1000) (hL : IntsAt wr wr.heap.size A (Opt.intL ys)) (N : Nat) (hN : n + m = N)
    (cont : ∀ g' cap' w5, TimesAt w5 B (xs ++ ys) g' cap' → Below B wr w5 → (∀ b, b < wr.heap.size → b ≠ g → w5.heap[b]? = wr.heap[b]?) → (g' = g ∨ g' = wr.heap.size) → K (a.put o.dst (.slice (some ⟨g', 0, none⟩) N cap')) w5) :
    if Region.wanted o (yielded ops a.tmps) = true then Oper.wp Tryz.prog o a wr K Q else E := by
  subst hn hm hN
  obtain ⟨i0, hi0, hz0, hz1, hz2⟩ := info_split Tryz.info3
  obtain ⟨hB, hgl⟩ := h.gb
  refine step_append_src _ hgd s x 23 ho B 3 i0 _ 1 8 Tryz.underlying23 hi0 hz0 hz1 hz2 rfl (by omega) g cap xs.length (ivs (Opt.intL xs)) hev h A ys.length c (ivs (Opt.intL ys)) hx (by rw [ivs_len, Opt.intL_len]; omega) (ints_srcM hL) (ivs_oneM _) (by simp [maxLen]; omega) (by omega) (by omega) _ rfl ?_
  intro g' cap' w5 hown hgr hat
  refine cont g' cap' w5 ?_ ⟨hgr.os, hgr.tape, hgr.output, hgr.size, fun b hb => hgr.block b (by omega) (by intro e; injection e with e; omega)⟩ (fun b hb hne => hgr.block b hb (by intro e; injection e with e; omega)) hat
  unfold TimesAt
  have e : ivs (Opt.intL (xs ++ ys)) = ivs (Opt.intL xs) ++ ivs (Opt.intL ys) := by unfold ivs Opt.intL; rw [List.map_append, List.map_append]
  rw [List.length_append, e]
  exact hown

theorem PlaceDrawn.of {w w' : World} {R B g cap l : Nat} {xs : List Nat} (hT : TimesAt w' B xs g cap) (hl : xs.length = l) (h18 : l ≤ 18) (hg : w.grownBy w' (some R)) (hB : w.heap.size ≤ B) : PlaceDrawn w R (.returned (.slice (some ⟨g, 0, none⟩) l cap)) w' := by
  refine ⟨some ⟨g, 0, none⟩, Opt.intL xs, cap, ret_slice (by rw [Opt.intL_len, hl]), hT.ints, by rw [Opt.intL_len, hl]; exact h18, by rw [Opt.intL_len]; exact hT.cap, hg, fun b off e => by injection e with e; injection e with e; subst e; exact Nat.le_trans hB hT.gb.1⟩
/-- A value stored into a list of naturals. -/
theorem PlaceDrawn.put {w w' : World} {R B g cap l : Nat} {xs : List Nat} (hT : TimesAt w' B xs g cap) (hl : xs.length = l) (h18 : l ≤ 18) (hg : w.grownBy w' (some R)) (hB : w.heap.size ≤ B) (j : Nat) (v : Int) : PlaceDrawn w R (.returned (.slice (some ⟨g, 0, none⟩) l cap)) (w'.setCell ⟨g, j, none⟩ (.int .i64 v)) := by
  refine ⟨some ⟨g, 0, none⟩, (Opt.intL xs).set j v, cap, ret_slice (by rw [List.length_set, Opt.intL_len, hl]), fun k hk => ?_, by rw [List.length_set, Opt.intL_len, hl]; exact h18, by rw [List.length_set, Opt.intL_len]; exact hT.cap, gb_bel hg ((Below.refl _ _).setCell (p := ⟨g, j, none⟩) (Nat.le_trans hB hT.gb.1) _), fun b off e => by injection e with e; injection e with e; subst e; exact Nat.le_trans hB hT.gb.1⟩
  rw [List.length_set] at hk
  obtain ⟨b, off, e, hlt, hc⟩ := hT.ints k hk
  injection e with e
  injection e with e1 e2
  subst e1 e2
  refine ⟨g, 0, rfl, by simpa using hlt, ?_⟩
  rw [Nat.zero_add] at hc ⊢
  by_cases h : k = j
  · subst h
    rw [World.cell?_setCell_same _ _ _ hc]
    simp [List.getD_eq_getElem?_getD, hk]
  · rw [World.cell?_setCell_other _ _ _ _ (by intro x; injection x with _ x _; omega), hc]
    simp only [List.getD_eq_getElem?_getD]
    rw [List.getElem?_set_ne (fun x => h x.symm)]

theorem PlaceDrawn.alloc {w w' : World} {R : Nat} {e : Ending} (h : PlaceDrawn w R e w') (o : Obj) : PlaceDrawn w R e (w'.alloc o) := by
  obtain ⟨A, xs, cap, h1, h2, h3, h4, h5, h6⟩ := h
  have hb : Below w'.heap.size w' (w'.alloc o) := (Below.refl _ _).alloc (Nat.le_refl _) o
  exact ⟨A, xs, cap, h1, (h2.below hb).mono hb.size, h3, h4, gb_alloc h5 o, h6⟩
theorem g1_on {w w' : World} {R g : Nat} {a : Value} (hg : w.grownBy w' (some R)) (hR : R ≠ g) (h : w.cell? ⟨g, 0, none⟩ = some a) : w'.cell? ⟨g, 0, none⟩ = some a :=
  hg.cell h (by intro x; injection x with x; simp at x; omega)
theorem gb_undrew {w w' : World} {row : Option Nat} (h : w.drew.grownBy w' row) : w.grownBy w' row := ⟨h.os, h.tape, h.output, h.size, h.block⟩
theorem gb_cell {w w' : World} {R : Nat} {a : Addr} {v : Value} (h : w.grownBy w' (some R)) (hR : R ≠ a.block) (hc : w.cell? a = some v) : w'.cell? a = some v := h.cell hc (by intro x; injection x with x; exact hR x.symm)
theorem new_cell (w : World) {cs : Array Value} {t : TypeId} {j : Nat} {v : Value} (hj : cs[j]? = some v) : (w.alloc (.cells cs t)).cell? ⟨w.heap.size, j, none⟩ = some v := by
  have h : Row (w.alloc (.cells cs t)) w.heap.size t cs := heap_alloc_new w _
  rw [h.cell j]
  exact hj
theorem gb_new {w w' : World} {R : Nat} {cs : Array Value} {t : TypeId} {j : Nat} {v : Value} (h : (w.alloc (.cells cs t)).drew.grownBy w' (some R)) (hR : R < w.heap.size) (hj : cs[j]? = some v) : w'.cell? ⟨w.heap.size, j, none⟩ = some v :=
  gb_cell (gb_undrew h) (by simp; omega) (new_cell w hj)
theorem three_at (x0 : Int) {u : Nat} (hu : u < 3) : ∃ x : Int, (#[Value.int .i64 (-1), .int .i64 25, .int .i64 x0] : Array Value)[u]? = some (.int .i64 x) := by
  rcases (show u = 0 ∨ u = 1 ∨ u = 2 by omega) with rfl | rfl | rfl
  · exact ⟨_, rfl⟩
  · exact ⟨_, rfl⟩
  · exact ⟨_, rfl⟩

set_option maxRecDepth 10000 in
set_option maxHeartbeats 2000000 in
theorem place_any (R : Nat) (bA : Option Addr) (bl bc : Nat) (p n : Int) (i : Int) (nA gA oA : Option Addr) (nc gc oc : Nat) (ns : List Int) (gs : List (Int × Int)) (os : List Int) (w : World) (hR : Row w R 119 #[.slice bA bl bc, .int .i64 p]) (hb : BytesAt w R bA bl) (hbl : bl ≤ 2000) (hp0 : 0 ≤ p) (hp1 : p ≤ 50000) (hn0 : 0 ≤ n) (hn1 : n ≤ 1000) (hc : CircAt w w.heap.size nA gA oA ns gs os) :
    Calls Tryz.prog 46 #[.pointer (some ⟨R, 0, none⟩), .agg #[.int .i64 i, .slice nA ns.length nc, .slice gA gs.length gc, .slice oA os.length oc], .int .i64 n] w (PlaceDrawn w R) := by
  have HB0 := Lib.hid (Boxed.new w i nA gA oA ns.length nc gs.length gc os.length oc 26)
  have hbw : Below w.heap.size w (w.alloc (.cells #[.int .i64 i, .slice nA ns.length nc, .slice gA gs.length gc, .slice oA os.length oc] 26)) := (Below.refl _ _).alloc (Nat.le_refl _) _
  have hlt0 : w.heap.size < (w.alloc (.cells #[.int .i64 i, .slice nA ns.length nc, .slice gA gs.length gc, .slice oA os.length oc] 26)).heap.size := by simp
  have HC := Lib.hid ((hc.below hbw).mono hbw.size)
  have HL0 := Lib.hid hbw
  have hRl := hR.lt
  have HR := Lib.hid hR
  have HBY := Lib.hid hb
  clear hc hbw hR hb
  go_enter Tryz.func46, Tryz.ntmps46
  go_upto_region 1 with fail
  generalize w.alloc (.cells #[.int .i64 i, .slice nA ns.length nc, .slice gA gs.length gc, .slice oA os.length oc] 26) = w0 at *
  go_upto_region 2 with fail
  have HO1 := Lib.hid (TimesAt.mt w0 w.heap.size (by omega))
  have hb1 : Below w0.heap.size w0 (w0.alloc (.cells #[] 3)) := (Below.refl _ _).alloc (Nat.le_refl _) _
  have hz1 : (w0.alloc (.cells #[] 3)).heap.size = w0.heap.size + 1 := by simp
  have HX1 := Lib.hid hb1
  clear hb1
  generalize w0.alloc (.cells #[] 3) = w1 at *
  go_upto_region 3 with fail
  have HF2 := Lib.hid (TimesAt.mt w1 w1.heap.size (Nat.le_refl _))
  have hb2 : Below w1.heap.size w1 (w1.alloc (.cells #[] 3)) := (Below.refl _ _).alloc (Nat.le_refl _) _
  have HX2 := Lib.hid hb2
  clear hb2
  generalize w1.alloc (.cells #[] 3) = w2 at *
  rw [hz1] at HF2 HX2
  generalize hg0 : w0.heap.size = g0 at *
  have HT0 : Hid (TimesAt w2 (g0 + 1) (List.range 0) (g0 + 1) 0) := HF2
  clear HF2
  go_upto_region 4 with fail
  go_loopw [8, 9] (fun fv tv wr => ∃ (t g cap : Nat), t ≤ 25 ∧ tv = .int .i64 t ∧ fv = .slice (some ⟨g, 0, none⟩) t cap ∧ Hid (TimesAt wr (g0 + 1) (List.range t) g cap) ∧ Hid (Below (g0 + 1) w1 wr)) (fun _ tv _ => 25 - (intOf tv).toNat)
  case atStart => exact ⟨0, _, _, Nat.zero_le _, rfl, rfl, HT0, HX2⟩
  case round =>
    clear HT0 HX2
    obtain ⟨t, g, cap, ht, rfl, rfl, HT, HX⟩ := hrel
    have hgb := HT.out.gb
    by_cases hlt : t < 25
    · go_wp2_with (at_builtin; refine wpList_pushT rfl (.tmp 18) (.tmp 20) rfl _ (g0 + 1) g cap t (List.range t) rfl List.length_range HT.out (by omega) t _ rfl rfl ?_)
      intro g' cap' w5 hT5 hb5 hk5 hg5
      have HT5 : Hid (TimesAt w5 (g0 + 1) (List.range (t + 1)) g' cap') := Lib.hid (by rw [List.range_succ]; exact hT5)
      have HX5 := Lib.hid (HX.out.trans hb5)
      clear hT5 hb5 hk5 hg5
      go_wp2
      go_roundw
      case rel => exact ⟨t + 1, g', cap', by omega, by go_num, rfl, HT5, HX5⟩
      case measure => simp [intOf]; omega
    · obtain rfl : t = 25 := by omega
      rw [show ((25 : Nat) : Int) = 25 from rfl]
      have hwg : w.heap.size < g0 := by omega
      have HXr := Lib.hid (HX1.out.trans (HX.out.mono (by omega)))
      have HBr := Lib.hid (HB0.out.below HXr.out hwg)
      have hzr : g0 + 1 ≤ wr.heap.size := by omega
      have q0 := HBr.out.c0
      have q1 := HBr.out.c1
      have q2 := HBr.out.c2
      have q3 := HBr.out.c3
      go_upto_region 7 with fail
      go_wp2_with fail
      refine (scellsL_v i nA gA oA nc gc oc ns gs os wr ((HC.out.below HXr.out).mono (by omega))).mono ?_
      rintro e w3 ⟨A3, l3, c3, rfl, hl3, hb3⟩
      have hzw : w.heap.size ≤ g0 := by omega
      have hch : Below w.heap.size w w3 := ((HL0.out.trans (HX1.out.mono hzw)).trans (HX.out.mono (by omega))).trans (hb3.mono (by omega))
      have HG3 := Lib.hid (gb_bel (World.grownBy.refl w (some R)) hch)
      have HR3 : Hid (Row w3 R 119 #[.slice bA bl bc, .int .i64 (p + ((0 : Nat) : Int))]) := Lib.hid (by
        rw [show p + ((0 : Nat) : Int) = p by omega]
        exact (hch.block R hRl).trans HR.out)
      have HF3 : Hid (TimesAt w3 w.heap.size (List.range 25) g cap) := Lib.hid ((HT.out.keep (hb3.block g hgb.2)).lower (by omega))
      have HO3 : Hid (TimesAt w3 w.heap.size [] g0 0) := Lib.hid ((HO1.out.keep (HX.out.block g0 (by omega))).keep (hb3.block g0 (by omega)))
      have hgg : g0 ≠ g := by omega
      clear hch hb3 HT HX HXr HBr HX1 HO1 HL0 HB0 HC HR q0 q1 q2 q3
      generalize hfs : List.range 25 = fs0 at *
      have HFL : Hid (fs0.length = 25) := Lib.hid (by rw [← hfs, List.length_range])
      clear hfs
      go_upto_region 8 with fail
      go_loopw [7, 8, 10] (fun ov fv kv wr => ∃ (k lo lf go co gf cf : Nat) (xs fs : List Nat), lo + k = l3 ∧ lf + lo = 25 ∧ kv = .int .i64 k ∧ ov = .slice (some ⟨go, 0, none⟩) lo co ∧ fv = .slice (some ⟨gf, 0, none⟩) lf cf ∧ go ≠ gf ∧ Hid (xs.length = lo) ∧ Hid (fs.length = lf) ∧ Hid (TimesAt wr w.heap.size xs go co) ∧ Hid (TimesAt wr w.heap.size fs gf cf) ∧ Hid (Row wr R 119 #[.slice bA bl bc, .int .i64 (p + (lo : Int))]) ∧ Hid (w.grownBy wr (some R))) (fun _ _ kv _ => (intOf kv).toNat)
      case atStart => exact ⟨l3, 0, 25, g0, 0, g, cap, [], fs0, by omega, by omega, rfl, rfl, rfl, hgg, Lib.hid rfl, HFL, HO3, HF3, HR3, HG3⟩
      case round =>
        clear HFL HO3 HF3 HR3 HG3
        obtain ⟨k, lo, lf, go, co, gf, cf, xs, fs, hk1, hk2, rfl, rfl, rfl, hne, HXL, HFL, HO, HF, HRr, HG⟩ := hrel
        by_cases hlt : 0 < k
        · go_wp2_with fail
          refine (pick_any R bA bl bc (p + (lo : Int)) (lf : Int) wr HRr.out (HBY.out.grown HG.out) hbl (by omega) (by omega) (by omega) (by omega)).mono ?_
          rintro e w4 ⟨v, rfl, hv0, hv1, hr4, hg4⟩
          obtain ⟨u, rfl⟩ := Int.eq_ofNat_of_zero_le hv0
          have hu : u < lf := by omega
          have hO4 := HO.out.gr hg4 hRl
          have hF4 := HF.out.gr hg4 hRl
          have HO4 := Lib.hid hO4
          have HF4 := Lib.hid hF4
          have HR4 : Hid (Row w4 R 119 #[.slice bA bl bc, .int .i64 (p + ((lo + 1 : Nat) : Int))]) := Lib.hid (by
            rw [show p + ((lo + 1 : Nat) : Int) = p + (lo : Int) + 1 by omega]
            exact hr4)
          have HG4 := Lib.hid (gb_two HG.out hg4)
          obtain ⟨cu, _⟩ := hF4.row (k := u) (by rw [HFL.out]; exact hu)
          have hgo := hO4.gb
          have hgf := hF4.gb
          have hu0 : (0 : Int) ≤ (u : Int) := Int.natCast_nonneg _
          have hu1 : (u : Int) < (lf : Int) := by omega
          generalize hy : fs.getD u 0 = y at *
          clear hv0 hv1 hr4 hg4 hO4 hF4 HO HF HRr HG hy
          go_wp2_with (at_builtin; refine wpList_pushT rfl (.tmp 33) (.tmp 38) rfl _ w.heap.size go co lo xs rfl HXL.out HO4.out (by omega) y _ rfl rfl ?_)
          intro go' co' w5 hT5 hb5 hk5 hg5
          have HXL5 : Hid ((xs ++ [y]).length = lo + 1) := Lib.hid (by rw [List.length_append, HXL.out]; rfl)
          have HO5 := Lib.hid hT5
          have HF5 := Lib.hid (HF4.out.keep (hk5 gf (by omega) (by omega)))
          have HR5 : Hid (Row w5 R 119 #[.slice bA bl bc, .int .i64 (p + ((lo + 1 : Nat) : Int))]) := Lib.hid ((hk5 R (by omega) (by omega)).trans HR4.out)
          have HG5 := Lib.hid (gb_bel HG4.out hb5)
          have hgf5 : gf < w5.heap.size := by have := hb5.size; omega
          have hne5 : go' ≠ gf := by omega
          have hgo5 := hT5.gb
          generalize xs ++ [y] = xs5 at *
          clear hT5 hb5 hk5 hg5 HO4 HF4 HR4 HG4 cu HXL
          go_upto_region 12 with fail
          have hcf := HF5.out.cap
          rw [HFL.out] at hcf
          have hal : Below w5.heap.size w5 (w5.alloc (.cells #[] 3)).drew := ((Below.refl _ _).alloc (Nat.le_refl _) _).drew
          have HM6 : Hid (TimesAt (w5.alloc (.cells #[] 3)).drew w.heap.size [] w5.heap.size 0) := Lib.hid ((TimesAt.mt w5 w.heap.size (by omega)).keep rfl)
          have HI6 : Hid (IntsAt (w5.alloc (.cells #[] 3)).drew (w5.alloc (.cells #[] 3)).drew.heap.size (some ⟨gf, 0, none⟩) (Opt.intL (fs.take u))) := Lib.hid (by
            have h := (HF5.out.ints.below hal).mono hal.size
            have h2 := h.takeN (k := u) (by rw [Opt.intL_len, HFL.out]; omega)
            have e : (Opt.intL fs).take u = Opt.intL (fs.take u) := by unfold Opt.intL; rw [List.map_take]
            rw [e] at h2
            exact h2)
          have hcu : u ≤ cf := by omega
          have hb1 : (0 : Int) ≤ (u : Int) + 1 := by omega
          have hb2 : (u : Int) + 1 ≤ (lf : Int) := by omega
          have hb3 : ((u : Int) + 1).toNat = u + 1 := by omega
          have hb4 : IntKind.i64.wrap ((u : Int) + 1) = (u : Int) + 1 := IntWalk.i64_in _ (by omega)
          have HNIL : Hid (∀ (W : World) (A : Option Addr), cf = u + 1 → IntsAt W W.heap.size A (Opt.intL (fs.drop (u + 1)))) := Lib.hid (fun W A h k hk => by
            rw [Opt.intL_len, List.length_drop, HFL.out] at hk
            omega)
          have HDL : Hid ((fs.drop (u + 1)).length = lf - (u + 1)) := Lib.hid (by rw [List.length_drop, HFL.out])
          have HTL : Hid (([] ++ fs.take u : List Nat).length = u) := Lib.hid (by rw [List.nil_append, List.length_take, HFL.out]; omega)
          have hz7 : (w5.alloc (.cells #[] 3)).drew.heap.size = w5.heap.size + 1 := by
            show (w5.alloc (.cells #[] 3)).heap.size = _
            simp
          have HXK : Hid (∀ (k' : Nat), k' + 1 = k → lo + 1 + k' = l3 ∧ lf - 1 + (lo + 1) = 25) := Lib.hid (fun k' h => ⟨by omega, by omega⟩)
          have HNL : Hid (([] ++ fs.take u ++ fs.drop (u + 1) : List Nat).length = lf - 1) := Lib.hid (by rw [List.length_append, HTL.out, HDL.out]; omega)
          have hcuI : (u : Int) ≤ (u : Int) + 1 := by omega
          by_cases hcu1 : cf = u + 1
          all_goals
            try subst hcu1
            have tok0 : True := trivial
            go_region_law (first
              | (clear tok0; refine step_joinT (by rfl) (.tmp 40) (.tmp 43) (by rfl) _ w.heap.size w5.heap.size 0 0 _ _ [] (fs.take u) _ (by rfl) rfl HM6.out (by omega) (by rfl) (by rw [List.length_take, HFL.out]; omega) (by omega) HI6.out u (by omega) ?_; intro g6 c6 w6 hT6 hb6 hk6 hg6; have tokA : True := trivial; have hF6 := HF5.out.keep (w' := w6) ((hk6 gf (by rw [hz7]; omega) (by omega)).trans (hal.block gf hgf5)); have HJ6 := Lib.hid (show IntsAt w6 w6.heap.size (some ⟨gf, u + 1, none⟩) (Opt.intL (fs.drop (u + 1))) from (by have h := hF6.ints.dropN (cap := 0) (u + 1); unfold Opt.intL at h ⊢; rw [List.map_drop]; exact h)); have hz6 := hb6.size)
              | (clear tokA; refine step_joinT (by rfl) (.tmp 44) (.tmp 48) (by rfl) _ w.heap.size g6 c6 u _ _ ([] ++ fs.take u) (fs.drop (u + 1)) _ (by rfl) HTL.out hT6 (by omega) (by rfl) (by rw [HDL.out] <;> omega) (by omega) (by first | exact HJ6.out | exact HNIL.out _ _ (by omega)) (lf - 1) (by omega) ?_; intro g7 c7 w7 hT7 hb7 hk7 hg7))
            have HO7 := Lib.hid ((((HO5.out.keep (w' := w6) ((hk6 go' (by rw [hz7]; omega) (by omega)).trans (hal.block go' (by omega)))).keep (w' := w7) (hk7 go' (by omega) (by omega)))))
            have HF7 := Lib.hid hT7
            have HR7 : Hid (Row w7 R 119 #[.slice bA bl bc, .int .i64 (p + ((lo + 1 : Nat) : Int))]) := Lib.hid (((hk7 R (by omega) (by omega)).trans ((hk6 R (by rw [hz7]; omega) (by omega)).trans (hal.block R (by omega)))).trans HR5.out)
            have HG7 := Lib.hid (gb_bel HG5.out (((hal.mono (by omega)).trans hb6).trans hb7))
            have hgo7 : go' ≠ g7 := by omega
            have hk8 : ((k - 1 : Nat) : Int) = (k : Int) - 1 := by omega
            clear hT7 hb7 hk7 hg7 hT6 hb6 hk6 hg6 hF6 HJ6 HO5 HF5 HR5 HG5 HM6 HI6 hal
            go_wp2
            go_roundw
            case rel => exact ⟨k - 1, lo + 1, lf - 1, go', co', g7, c7, _, _, (HXK.out (k - 1) (by omega)).1, (HXK.out (k - 1) (by omega)).2, by go_num, rfl, rfl, hgo7, HXL5, HNL, HO7, HF7, HR7, HG7⟩
            case measure => simp [intOf]; omega
        · obtain rfl : k = 0 := by omega
          obtain rfl : lo = l3 := by omega
          rw [show ((0 : Nat) : Int) = 0 from rfl]
          go_upto_region 13 with fail
          go_wp2_with fail
          refine (odd_any R bA bl bc (p + (lo : Int)) n wr HRr.out (HBY.out.grown HG.out) hbl (by omega) (by omega) (by omega) (by omega)).mono ?_
          rintro e w4 ⟨b, p', rfl, hp2, hp3, hr4, hg4⟩
          have HO4 := Lib.hid (HO.out.gr hg4 hRl)
          have HR4 := Lib.hid hr4
          have HG4 := Lib.hid (gb_two HG.out hg4)
          clear HO HF HRr HG hr4 hg4 HFL
          cases b
          · go_wp2
            go_ret
            exact PlaceDrawn.of HO4.out HXL.out (by omega) HG4.out (Nat.le_refl _)
          · by_cases hlz : lo = 0
            · subst hlz
              go_wp2_with fail
              refine (pick_any R bA bl bc p' 3 w4 HR4.out (HBY.out.grown HG4.out) hbl (by omega) (by omega) (by omega) (by omega)).mono ?_
              rintro e w5 ⟨v, rfl, hv0, hv1, hr5, hg5⟩
              obtain ⟨u, rfl⟩ := Int.eq_ofNat_of_zero_le hv0
              have HO5 := Lib.hid (HO4.out.gr hg5 hRl)
              have HG5 := Lib.hid (gb_two HG4.out hg5)
              have hgo := HO5.out.gb
              clear hr5 hg5 hv0 hv1 HO4 HR4 HG4
              go_wp2_with (at_builtin; refine wpList_pushT rfl (.tmp 61) (.tmp 64) rfl _ w.heap.size go co 0 xs rfl HXL.out HO5.out (by omega) u _ rfl rfl ?_)
              intro go' co' w6 hT6 hb6 hk6 hg6
              go_wp2
              go_ret
              exact PlaceDrawn.of hT6 (by rw [List.length_append, HXL.out]; rfl) (by omega) (gb_bel HG5.out hb6) (Nat.le_refl _)
            · have hl0 : ((lo : Int) == 0) = false := by rw [beq_eq_false_iff_ne]; omega
              go_upto_region 14 with fail
              go_wp2_with fail
              refine (pick_any R bA bl bc p' 2 w4 HR4.out (HBY.out.grown HG4.out) hbl (by omega) (by omega) (by omega) (by omega)).mono ?_
              rintro e w5 ⟨v, rfl, hv0, hv1, hr5, hg5⟩
              have HO5 := Lib.hid (HO4.out.gr hg5 hRl)
              have HR5 := Lib.hid hr5
              have HG5 := Lib.hid (gb_two HG4.out hg5)
              clear hr5 hg5 HO4 HR4 HG4 hl0
              by_cases hv : v = 0
              · subst hv
                go_wp2_with fail
                refine (pick_any R bA bl bc (p' + 1) 3 w5 HR5.out (HBY.out.grown HG5.out) hbl (by omega) (by omega) (by omega) (by omega)).mono ?_
                rintro e w6 ⟨v, rfl, hv0', hv1', hr6, hg6⟩
                obtain ⟨u, rfl⟩ := Int.eq_ofNat_of_zero_le hv0'
                have HO6 := Lib.hid (HO5.out.gr hg6 hRl)
                have HG6 := Lib.hid (gb_two HG5.out hg6)
                have hgo := HO6.out.gb
                clear hr6 hg6 hv0' hv1' HO5 HR5 HG5
                go_wp2_with (at_builtin; refine wpList_pushT rfl (.tmp 61) (.tmp 64) rfl _ w.heap.size go co lo xs rfl HXL.out HO6.out (by omega) u _ rfl rfl ?_)
                intro go' co' w7 hT7 hb7 hk7 hg7
                go_wp2
                go_ret
                exact PlaceDrawn.of hT7 (by rw [List.length_append, HXL.out]; rfl) (by omega) (gb_bel HG6.out hb7) (Nat.le_refl _)
              · have hvb : (v == 0) = false := by rw [beq_eq_false_iff_ne]; exact hv
                go_upto_region 16 with fail
                have hgo := HO5.out.gb
                obtain ⟨c0, _⟩ := HO5.out.row (k := 0) (by rw [HXL.out]; omega)
                generalize hx0 : xs.getD 0 0 = x0 at *
                clear hx0 hvb hv0 hv1
                have hlp : (0 : Int) < (lo : Int) := by omega
                have hlq : 0 < lo := by omega
                have hRg : R ≠ go := by omega
                have hRl5 : R < w5.heap.size := by omega
                have tok0 : True := trivial
                rw [lateLd_of 3 (.tmp 72), lateLd_of 3 (.tmp 77)]
                go_region_held3 (fun _ => True) (exact trivial)
                  (first
                    | (clear tok0; go_at_call 70; refine (pick_any R bA bl bc (p' + 1) (lo : Int) w5.drew (HR5.out) (HBY.out.grown (gb_drew HG5.out)) hbl (by omega) (by omega) (by omega) (by omega)).mono ?_; rintro e w6 ⟨v1, rfl, hv0, hv1, hr6, hg6⟩; have tokA : True := trivial; obtain ⟨u1, rfl⟩ := Int.eq_ofNat_of_zero_le hv0; have hu1 : u1 < lo := (by omega); have HR6 := Lib.hid hr6; have HG6 := Lib.hid (gb_two (gb_drew HG5.out) hg6); have ck := g1_on hg6 hRg c0; have HO6 := Lib.hid (HO5.out.gr (w' := w6) (gb_undrew hg6) hRl))
                    | (clear tok0; go_at_call 70; refine (pick_any R bA bl bc (p' + 1) (lo : Int) (w5.alloc (.cells #[.int .i64 (-1), .int .i64 25, .int .i64 (x0 : Nat)] 3)).drew (HR5.out.alloc (.cells #[.int .i64 (-1), .int .i64 25, .int .i64 (x0 : Nat)] 3)) (HBY.out.grown (gb_drew (gb_alloc HG5.out (.cells #[.int .i64 (-1), .int .i64 25, .int .i64 (x0 : Nat)] 3)))) hbl (by omega) (by omega) (by omega) (by omega)).mono ?_; rintro e w6 ⟨v1, rfl, hv0, hv1, hr6, hg6⟩; have tokB : True := trivial; obtain ⟨u1, rfl⟩ := Int.eq_ofNat_of_zero_le hv0; have hu1 : u1 < lo := (by omega); have HR6 := Lib.hid hr6; have HG6 := Lib.hid (gb_two (gb_drew (gb_alloc HG5.out (.cells #[.int .i64 (-1), .int .i64 25, .int .i64 (x0 : Nat)] 3))) hg6); have HO6 := Lib.hid ((HO5.out.keep (w' := w5.alloc (.cells #[.int .i64 (-1), .int .i64 25, .int .i64 (x0 : Nat)] 3)) (Below.heap_alloc w5 _ go (by omega))).gr (gb_undrew hg6) hRl); have HQ6 := Lib.hid (fun (j : Nat) (v : Value) (hj : (#[.int .i64 (-1), .int .i64 25, .int .i64 (x0 : Nat)] : Array Value)[j]? = some v) => gb_new hg6 hRl5 hj))
                    | (clear tokB; go_at_call 70; refine (pick_any R bA bl bc (p' + 1 + 1) 3 w6 (HR6.out) (HBY.out.grown HG6.out) hbl (by omega) (by omega) (by omega) (by omega)).mono ?_; rintro e w7 ⟨v2, rfl, hv20, hv21, hr7, hg7⟩; obtain ⟨u2, rfl⟩ := Int.eq_ofNat_of_zero_le hv20; have hu2 : u2 < 3 := (by omega); have hu3 : (u2 : Int) < 3 := (by omega); have hu4 : (u1 : Int) < (lo : Int) := (by omega); obtain ⟨xu, hxu⟩ := three_at (x0 : Int) hu2; have HO7 := Lib.hid (HO6.out.gr hg7 hRl); obtain ⟨c7, f7⟩ := HO7.out.row (k := u1) (by rw [HXL.out]; exact hu1); have c8 := fun o => (World.cell?_alloc_lt w7 o ⟨go, u1, none⟩ HO7.out.gb.2).trans c7; have f8 := fun o => (World.frozen?_of_block (a := ⟨go, u1, none⟩) (Below.heap_alloc w7 o go HO7.out.gb.2)).trans f7; have hgo7 := HO7.out.gb; have cq := gb_cell hg7 (by simp; omega) (HQ6.out u2 _ hxu); have HG7 := Lib.hid (gb_two (HG6.out) hg7))
                    | (clear tokA; go_at_call 70; refine (pick_any R bA bl bc (p' + 1 + 1) 3 w6 (HR6.out) (HBY.out.grown HG6.out) hbl (by omega) (by omega) (by omega) (by omega)).mono ?_; rintro e w7 ⟨v2, rfl, hv20, hv21, hr7, hg7⟩; obtain ⟨u2, rfl⟩ := Int.eq_ofNat_of_zero_le hv20; have hu2 : u2 < 3 := (by omega); have hu3 : (u2 : Int) < 3 := (by omega); have hu4 : (u1 : Int) < (lo : Int) := (by omega); obtain ⟨xu, hxu⟩ := three_at (x0 : Int) hu2; have HO7 := Lib.hid (HO6.out.gr hg7 hRl); obtain ⟨c7, f7⟩ := HO7.out.row (k := u1) (by rw [HXL.out]; exact hu1); have c8 := fun o => (World.cell?_alloc_lt w7 o ⟨go, u1, none⟩ HO7.out.gb.2).trans c7; have f8 := fun o => (World.frozen?_of_block (a := ⟨go, u1, none⟩) (Below.heap_alloc w7 o go HO7.out.gb.2)).trans f7; have hgo7 := HO7.out.gb; have cq := new_cell (t := 3) w7 hxu; have cm := g1_on hg7 hRg ck; have HG7 := Lib.hid (gb_two (HG6.out) hg7))
                    | (clear tokA; go_at_call 70; refine (pick_any R bA bl bc (p' + 1 + 1) 3 (w6.alloc (.cells #[.int .i64 (-1), .int .i64 25, .int .i64 (x0 : Nat)] 3)) (HR6.out.alloc (.cells #[.int .i64 (-1), .int .i64 25, .int .i64 (x0 : Nat)] 3)) (HBY.out.grown (gb_alloc HG6.out (.cells #[.int .i64 (-1), .int .i64 25, .int .i64 (x0 : Nat)] 3))) hbl (by omega) (by omega) (by omega) (by omega)).mono ?_; rintro e w7 ⟨v2, rfl, hv20, hv21, hr7, hg7⟩; obtain ⟨u2, rfl⟩ := Int.eq_ofNat_of_zero_le hv20; have hu2 : u2 < 3 := (by omega); have hu3 : (u2 : Int) < 3 := (by omega); have hu4 : (u1 : Int) < (lo : Int) := (by omega); obtain ⟨xu, hxu⟩ := three_at (x0 : Int) hu2; have HO7 := Lib.hid ((HO6.out.keep (w' := w6.alloc (.cells #[.int .i64 (-1), .int .i64 25, .int .i64 (x0 : Nat)] 3)) (Below.heap_alloc w6 _ go HO6.out.gb.2)).gr hg7 hRl); obtain ⟨c7, f7⟩ := HO7.out.row (k := u1) (by rw [HXL.out]; exact hu1); have c8 := fun o => (World.cell?_alloc_lt w7 o ⟨go, u1, none⟩ HO7.out.gb.2).trans c7; have f8 := fun o => (World.frozen?_of_block (a := ⟨go, u1, none⟩) (Below.heap_alloc w7 o go HO7.out.gb.2)).trans f7; have hgo7 := HO7.out.gb; have cq := gb_cell hg7 (by have := HO6.out.gb; simp; omega) (new_cell (t := 3) w6 hxu); have HG7 := Lib.hid (gb_two ((gb_alloc HG6.out (.cells #[.int .i64 (-1), .int .i64 25, .int .i64 (x0 : Nat)] 3))) hg7)))
                all_goals
                  have HPD := Lib.hid (PlaceDrawn.put HO7.out HXL.out (show lo ≤ 18 by omega) HG7.out (Nat.le_refl _) u1 xu)
                  clear c7 c8 f7 f8 cq
                  go_wp2
                  go_ret
                  first | exact HPD.out | exact HPD.out.alloc _

/-- A circuit and a placement, drawn. -/
def DrawPl (w : World) (e : Ending) (w' : World) : Prop :=
  ∃ (i : Int) (nA gA oA pA : Option Addr) (nc gc oc pc : Nat) (ns : List Int) (gs : List (Int × Int)) (os xs : List Int),
    e = .returned (.tuple #[.agg #[.int .i64 i, .slice nA ns.length nc, .slice gA gs.length gc, .slice oA os.length oc], .slice pA xs.length pc]) ∧ CircAt w' w'.heap.size nA gA oA ns gs os ∧ IntsAt w' w'.heap.size pA xs ∧ ns.length ≤ 10 ∧ gs.length ≤ 20 ∧ os.length ≤ 10 ∧ gs.length ≤ gc ∧ xs.length ≤ 18 ∧ xs.length ≤ pc ∧ Below w.heap.size w w'
end Go.Proofs.YtliedgaefgomjaaGreat
/- A circuit and a placement, drawn. -/
namespace Go.Proofs.YtliedgaefgomjaaGreat
open Go.RowKit Go.Deep Cut

theorem g4_on {w w' : World} {R cc : Nat} {a0 a1 a2 a3 : Value} (hg : w.grownBy w' (some R)) (hR : R ≠ cc) (h : w.cell? ⟨cc, 0, none⟩ = some a0 ∧ w.cell? ⟨cc, 1, none⟩ = some a1 ∧ w.cell? ⟨cc, 2, none⟩ = some a2 ∧ w.cell? ⟨cc, 3, none⟩ = some a3) : w'.cell? ⟨cc, 0, none⟩ = some a0 ∧ w'.cell? ⟨cc, 1, none⟩ = some a1 ∧ w'.cell? ⟨cc, 2, none⟩ = some a2 ∧ w'.cell? ⟨cc, 3, none⟩ = some a3 :=
  ⟨gb_cell hg hR h.1, gb_cell hg hR h.2.1, gb_cell hg hR h.2.2.1, gb_cell hg hR h.2.2.2⟩
theorem s4_on {w : World} {D cc j : Nat} {u a0 a1 a2 a3 : Value} (hD : D ≠ cc) (h : w.cell? ⟨cc, 0, none⟩ = some a0 ∧ w.cell? ⟨cc, 1, none⟩ = some a1 ∧ w.cell? ⟨cc, 2, none⟩ = some a2 ∧ w.cell? ⟨cc, 3, none⟩ = some a3) : (w.setCell ⟨D, j, none⟩ u).cell? ⟨cc, 0, none⟩ = some a0 ∧ (w.setCell ⟨D, j, none⟩ u).cell? ⟨cc, 1, none⟩ = some a1 ∧ (w.setCell ⟨D, j, none⟩ u).cell? ⟨cc, 2, none⟩ = some a2 ∧ (w.setCell ⟨D, j, none⟩ u).cell? ⟨cc, 3, none⟩ = some a3 := by
  have k : ∀ o, (w.setCell ⟨D, j, none⟩ u).cell? ⟨cc, o, none⟩ = w.cell? ⟨cc, o, none⟩ := fun o => World.cell?_of_block (a := ⟨cc, o, none⟩) (Below.heap_setCell w ⟨D, j, none⟩ u cc (fun e => hD e.symm))
  simp only [k]
  exact h
theorem IntsAt.farN {w : World} {D j B : Nat} {A : Option Addr} {xs : List Int} (h : IntsAt w w.heap.size A xs) (u : Value) (hD : D < B) (hf : FreshA B A) : IntsAt (w.setCell ⟨D, j, none⟩ u) (w.setCell ⟨D, j, none⟩ u).heap.size A xs := fun k hk => by
  obtain ⟨b, off, e, hlt, hc⟩ := h k hk
  have hb := hf b off e
  exact ⟨b, off, e, by simpa using hlt, (World.cell?_of_block (a := ⟨b, off + k, none⟩) (Below.heap_setCell w ⟨D, j, none⟩ u b (by simp; omega))).trans hc⟩

/-- The same, and all of it lies in memory made by the draw. -/
def DrawPlF (w : World) (e : Ending) (w' : World) : Prop :=
  ∃ (i : Int) (nA gA oA pA : Option Addr) (nc gc oc pc : Nat) (ns : List Int) (gs : List (Int × Int)) (os xs : List Int),
    e = .returned (.tuple #[.agg #[.int .i64 i, .slice nA ns.length nc, .slice gA gs.length gc, .slice oA os.length oc], .slice pA xs.length pc]) ∧ CircAt w' w'.heap.size nA gA oA ns gs os ∧ IntsAt w' w'.heap.size pA xs ∧ ns.length ≤ 10 ∧ gs.length ≤ 20 ∧ os.length ≤ 10 ∧ gs.length ≤ gc ∧ xs.length ≤ 18 ∧ xs.length ≤ pc ∧ Below w.heap.size w w' ∧ (FreshA w.heap.size nA ∧ FreshA w.heap.size gA ∧ FreshA w.heap.size oA ∧ FreshA w.heap.size pA)
theorem FreshA.low {B B' : Nat} {A : Option Addr} (h : FreshA B A) (hb : B' ≤ B) : FreshA B' A := fun b off e => Nat.le_trans hb (h b off e)
set_option maxHeartbeats 800000 in
theorem drawWireF_any (A : Option Addr) (bl bc : Nat) (w : World) (hb : CodeAt w A bl) (hbl : bl ≤ bc) (hbc : bc ≤ maxLen) : Calls Tryz.prog 24 #[.slice A bl bc] w (DrawPlF w) := by
  have hc0 : CodeAt (w.alloc (.cells #[.int .i64 0, .slice none 0 0, .slice none 0 0, .slice none 0 0] 26)) A bl := fun k hk => by
    obtain ⟨b, off, z, e, hlt, hc, h0, h1⟩ := hb k hk
    exact ⟨b, off, z, e, by simp; omega, (World.cell?_alloc_lt w _ ⟨b, off + k, none⟩ hlt).trans hc, h0, h1⟩
  have HC0 := Lib.hid hc0
  have HL0 := Lib.hid (show Below w.heap.size w (w.alloc (.cells #[.int .i64 0, .slice none 0 0, .slice none 0 0, .slice none 0 0] 26)) from (Below.refl _ _).alloc (Nat.le_refl _) _)
  have HD0 := Lib.hid (show Row (w.alloc (.cells #[.int .i64 0, .slice none 0 0, .slice none 0 0, .slice none 0 0] 26)) w.heap.size 26 #[.int .i64 0, .slice none 0 0, .slice none 0 0, .slice none 0 0] from heap_alloc_new w _)
  have HBC := Lib.hid hbc
  clear hb hc0 hbc
  go_enter Tryz.func24, Tryz.ntmps24
  go_wp2_with fail
  refine (open_any A bl bc _ HC0.out hbl HBC.out).mono ?_
  rintro e w1 ⟨R, bA, bl', bc', rfl, hbl', hR, hrow, hby, hbel⟩
  have hR' : w.heap.size < R := by simp at hR; omega
  have HD1 := Lib.hid (HD0.out.below hbel HD0.out.lt)
  have HL1 := Lib.hid (HL0.out.trans (hbel.mono HL0.out.size))
  have HRW := Lib.hid hrow
  have HBY := Lib.hid hby
  clear hrow hby hbel HD0 HL0 HC0 hR
  go_wp2_with fail
  refine (circuit_any R bA bl' bc' 0 16 _ HRW.out HBY.out hbl' (by omega) (by omega) (by omega) (by omega)).mono ?_
  rintro e w2 ⟨i, nA, gA, oA, nc, gc, oc, ns, gs, os, p', rfl, hC, hn, hg, ho, hi0, hi1, hp0, hp1, hr2, hgr, f1, f2, f3, hcap⟩
  have hbB : Below w2.heap.size w2 (w2.alloc (.cells #[.int .i64 i, .slice nA ns.length nc, .slice gA gs.length gc, .slice oA os.length oc] 26)) := (Below.refl _ _).alloc (Nat.le_refl _) _
  have hDl : w.heap.size < w1.heap.size := HD1.out.lt
  have hRl1 : R < w1.heap.size := HRW.out.lt
  have hz12 := hgr.size
  have HD2 := Lib.hid ((HD1.out.grown hgr (by intro x; injection x; omega)).below hbB (by omega))
  have HL2 := Lib.hid ((below_grown HL1.out hgr (Nat.le_of_lt hR')).trans (hbB.mono (by omega)))
  have HC2 := Lib.hid ((hC.below hbB).mono hbB.size)
  have HF := Lib.hid (And.intro f1 (And.intro f2 f3))
  have HRW2 := Lib.hid (hr2.below hbB hr2.lt)
  have HBY2 := Lib.hid (HBY.out.grown (gb_alloc hgr (.cells #[.int .i64 i, .slice nA ns.length nc, .slice gA gs.length gc, .slice oA os.length oc] 26)))
  have HX2 := Lib.hid (Boxed.new w2 i nA gA oA ns.length nc gs.length gc os.length oc 26)
  have hRl : R < w2.heap.size := hr2.lt
  have hc2 : w2.heap.size < (w2.alloc (.cells #[.int .i64 i, .slice nA ns.length nc, .slice gA gs.length gc, .slice oA os.length oc] 26)).heap.size := by simp
  clear hC hgr f1 f2 f3 HD1 HL1 HRW HBY hr2 hbB
  go_upto_region 3 with fail
  generalize w2.alloc (.cells #[.int .i64 i, .slice nA ns.length nc, .slice gA gs.length gc, .slice oA os.length oc] 26) = w3 at *
  generalize hcb : w2.heap.size = cb at *
  have t0 := HD2.out.cell 0
  have t1 := HD2.out.cell 1
  have t2 := HD2.out.cell 2
  have t3 := HD2.out.cell 3
  have f0 := HD2.out.frozen 0
  have f1 := HD2.out.frozen 1
  have f2 := HD2.out.frozen 2
  have f3 := HD2.out.frozen 3
  simp at t0 t1 t2 t3
  have q0 := HX2.out.c0
  have q1 := HX2.out.c1
  have q2 := HX2.out.c2
  have q3 := HX2.out.c3
  clear t0 t1 t2 t3 f0 f1 f2 f3
  have hRc : R ≠ cb := by omega
  have hDc : w.heap.size ≠ cb := by omega
  obtain ⟨g1, g2, g3⟩ := HF.out
  have HUN := Lib.hid (fun (w4 : World) (hg4 : w3.drew.grownBy w4 (some R)) => HD2.out.grown (gb_undrew hg4) (by intro x; injection x; omega))
  go_region_held3 (fun w' => w'.cell? ⟨cb, 0, none⟩ = some (.int .i64 i) ∧ w'.cell? ⟨cb, 1, none⟩ = some (.slice nA ns.length nc) ∧ w'.cell? ⟨cb, 2, none⟩ = some (.slice gA gs.length gc) ∧ w'.cell? ⟨cb, 3, none⟩ = some (.slice oA os.length oc))
    (first | go_keep | (with_reducible exact g4_on hg4 hRc (by assumption)) | (with_reducible exact s4_on hDc (s4_on hDc (s4_on hDc (s4_on hDc (by assumption))))))
    (first
      | (go_at_call 46; refine (place_any R bA bl' bc' p' 9 i nA gA oA nc gc oc ns gs os w3.drew HRW2.out (HBY2.out.grown (gb_drew (World.grownBy.refl w3 (some R)))) hbl' (by omega) (by omega) (by omega) (by omega) (HC2.out.below (Below.refl _ w3).drew)).mono ?_; rintro e w4 ⟨pA, xs, pc, rfl, hpi, hpl, hpc, hg4, hpf⟩; have HD4 := Lib.hid (HUN.out w4 hg4); have t0 := HD4.out.cell 0; have t1 := HD4.out.cell 1; have t2 := HD4.out.cell 2; have t3 := HD4.out.cell 3; have f0 := HD4.out.frozen 0; have f1 := HD4.out.frozen 1; have f2 := HD4.out.frozen 2; have f3 := HD4.out.frozen 3; simp at t0 t1 t2 t3))
  have HC4 := Lib.hid (HC2.out.grownF (gb_undrew hg4) hRl1 g1 g2 g3)
  have HL4 := Lib.hid (below_grown HL2.out (gb_undrew hg4) (Nat.le_of_lt hR'))
  have HP4 := Lib.hid hpi
  have hDz : w.heap.size < w3.drew.heap.size := by
    show w.heap.size < w3.heap.size
    omega
  go_wp2
  refine bodyPost_ret (v := .tuple #[.agg #[.int .i64 i, .slice nA ns.length nc, .slice gA gs.length gc, .slice oA os.length oc], .slice pA xs.length pc]) (by simp [results, Tryz.results24, go_sem, t0, t1, t2, t3]) rfl ⟨i, nA, gA, oA, pA, nc, gc, oc, pc, ns, gs, os, xs, rfl, ?_, ?_, hn, hg, ho, hcap, hpl, hpc, ?_, g1.low (Nat.le_of_lt hDl), g2.low (Nat.le_of_lt hDl), g3.low (Nat.le_of_lt hDl), hpf.low (Nat.le_of_lt hDz)⟩
  · exact (((HC4.out.farF 0 _ hDl g1 g2 g3).farF 1 _ hDl g1 g2 g3).farF 2 _ hDl g1 g2 g3).farF 3 _ hDl g1 g2 g3
  · exact (((HP4.out.farN _ hDz hpf).farN _ hDz hpf).farN _ hDz hpf).farN _ hDz hpf
  · exact (((HL4.out.setCell (p := ⟨w.heap.size, 0, none⟩) (Nat.le_refl _) _).setCell (p := ⟨w.heap.size, 1, none⟩) (Nat.le_refl _) _).setCell (p := ⟨w.heap.size, 2, none⟩) (Nat.le_refl _) _).setCell (p := ⟨w.heap.size, 3, none⟩) (Nat.le_refl _) _
end Go.Proofs.YtliedgaefgomjaaGreat
/- A circuit and a placement, drawn for the laws of Route. -/
namespace Go.Proofs.YtliedgaefgomjaaGreat
open Go.RowKit Go.Deep Cut

set_option maxHeartbeats 800000 in
theorem drawRoute_any (A : Option Addr) (bl bc : Nat) (w : World) (hb : CodeAt w A bl) (hbl : bl ≤ bc) (hbc : bc ≤ maxLen) : Calls Tryz.prog 6 #[.slice A bl bc] w (DrawPl w) := by
  have hc0 : CodeAt (w.alloc (.cells #[.int .i64 0, .slice none 0 0, .slice none 0 0, .slice none 0 0] 26)) A bl := fun k hk => by
    obtain ⟨b, off, z, e, hlt, hc, h0, h1⟩ := hb k hk
    exact ⟨b, off, z, e, by simp; omega, (World.cell?_alloc_lt w _ ⟨b, off + k, none⟩ hlt).trans hc, h0, h1⟩
  have HC0 := Lib.hid hc0
  have HL0 := Lib.hid (show Below w.heap.size w (w.alloc (.cells #[.int .i64 0, .slice none 0 0, .slice none 0 0, .slice none 0 0] 26)) from (Below.refl _ _).alloc (Nat.le_refl _) _)
  have HD0 := Lib.hid (show Row (w.alloc (.cells #[.int .i64 0, .slice none 0 0, .slice none 0 0, .slice none 0 0] 26)) w.heap.size 26 #[.int .i64 0, .slice none 0 0, .slice none 0 0, .slice none 0 0] from heap_alloc_new w _)
  have hR0 : w.heap.size < (w.alloc (.cells #[.int .i64 0, .slice none 0 0, .slice none 0 0, .slice none 0 0] 26)).heap.size := by simp
  have HBC := Lib.hid hbc
  clear hb hc0 hbc
  go_enter Tryz.func6, Tryz.ntmps6
  go_wp2_with fail
  generalize w.alloc (.cells #[.int .i64 0, .slice none 0 0, .slice none 0 0, .slice none 0 0] 26) = w0 at *
  refine (drawWireF_any A bl bc _ HC0.out hbl HBC.out).mono ?_
  rintro e w1 ⟨i, nA, gA, oA, pA, nc, gc, oc, pc, ns, gs, os, xs, rfl, hC1, hP1, hn, hg, ho, hcap, hxl, hxc, hb1, g1, g2, g3, g4⟩
  have HD1 := Lib.hid (HD0.out.below hb1 hR0)
  have HL1 := Lib.hid (HL0.out.trans (hb1.mono HL0.out.size))
  have HC1 := Lib.hid hC1
  have HP1 := Lib.hid hP1
  have t0 := HD1.out.cell 0
  have t1 := HD1.out.cell 1
  have t2 := HD1.out.cell 2
  have t3 := HD1.out.cell 3
  have f0 := HD1.out.frozen 0
  have f1 := HD1.out.frozen 1
  have f2 := HD1.out.frozen 2
  have f3 := HD1.out.frozen 3
  simp at t0 t1 t2 t3
  clear hC1 hP1 hb1
  go_wp2
  refine bodyPost_ret (v := .tuple #[.agg #[.int .i64 i, .slice nA ns.length nc, .slice gA gs.length gc, .slice oA os.length oc], .slice pA xs.length pc]) (by simp [results, Tryz.results6, go_sem, t0, t1, t2, t3]) rfl ⟨i, nA, gA, oA, pA, nc, gc, oc, pc, ns, gs, os, xs, rfl, ?_, ?_, hn, hg, ho, hcap, hxl, hxc, ?_⟩
  · exact (((HC1.out.farF 0 _ hR0 g1 g2 g3).farF 1 _ hR0 g1 g2 g3).farF 2 _ hR0 g1 g2 g3).farF 3 _ hR0 g1 g2 g3
  · exact (((HP1.out.farN _ hR0 g4).farN _ hR0 g4).farN _ hR0 g4).farN _ hR0 g4
  · exact (((HL1.out.setCell (p := ⟨w.heap.size, 0, none⟩) (Nat.le_refl _) _).setCell (p := ⟨w.heap.size, 1, none⟩) (Nat.le_refl _) _).setCell (p := ⟨w.heap.size, 2, none⟩) (Nat.le_refl _) _).setCell (p := ⟨w.heap.size, 3, none⟩) (Nat.le_refl _) _
end Go.Proofs.YtliedgaefgomjaaGreat
