/- The contracts of the draw of rows of given length, and of a valid circuit with rows of inputs. -/
import Derived.Test.YthpiddpkcmecfaaB20
import Derived.Test.YthpiddpkcmecfaaR6
import Derived.Deep.RegionHeld3
namespace Go.Proofs.Ythpiddpkcmecfaa
open Go.RowKit Go.Deep
set_option maxRecDepth 100000

def RowsLen (w : World) (R : Nat) (rb : Value) (p : Int) (m : Nat) (e : Ending) (w' : World) : Prop :=
  ∃ (g cap : Nat) (vs : List Value) (rs : List (List Bool)) (p' : Int), e = .returned (.slice (some ⟨g, 0, none⟩) rs.length cap) ∧ RDraw w' w.heap.size g cap vs rs ∧ rs.length ≤ 12 ∧ Row w' R 90 #[rb, .int .i64 p'] ∧ p ≤ p' ∧ p' ≤ p + 200 ∧ w.grownBy w' (some R) ∧ (∀ k, k < rs.length → (rs.getD k []).length = m)

set_option maxHeartbeats 1000000 in
theorem rows_len (R : Nat) (bA : Option Addr) (bl bc : Nat) (p : Int) (z : Int) (m : Nat) (w : World) (hm : z.toNat = m) (hz : z ≤ 10) (hR : Row w R 90 #[.slice bA bl bc, .int .i64 p]) (hb : BytesAt w R bA bl) (hbl : bl ≤ 2000) (hp0 : 0 ≤ p) (hp1 : p ≤ 80000) :
    Calls Try.prog 47 #[.pointer (some ⟨R, 0, none⟩), .int .i64 z] w (RowsLen w R (.slice bA bl bc) p m) := by
  have HM := Lib.hid hm
  clear hm
  have HB := Lib.hid hb
  have HCD := Lib.hid hb.ub
  have hRw : R < w.heap.size := hR.lt
  obtain ⟨i0, hi0, hz0, hz1, hz2⟩ := info_parts Try.infoBS
  have HI0 := Lib.hid hi0
  have HZ0 := Lib.hid hz0
  have HZ1 := Lib.hid hz1
  have HZ2 := Lib.hid hz2
  clear hi0 hz0 hz1 hz2
  have HO0 : Hid (RDraw (w.alloc (.cells #[] 33)) w.heap.size w.heap.size 0 [] []) := Lib.hid ⟨by
    have h := World.ownsRow_lit (base := w.heap.size) (e := 33) (size := 1) w #[] 0 (Nat.le_refl _) (by simp [maxLen]) (by simp)
    simpa using h, fun j hj => absurd hj (by simp)⟩
  have HG0 : Hid (w.grownBy (w.alloc (.cells #[] 33)) (some R)) := Lib.hid (gb_alloc (World.grownBy.refl w _) _)
  have HR0 := Lib.hid (hR.alloc (.cells #[] 33))
  have HBA : Hid (BytesAt (w.alloc (.cells #[] 33)) R bA bl) := Lib.hid (hb.grown HG0.out)
  clear hR hb
  go_enter Try.func47, Try.ntmps47
  go_wp2_with fail
  refine (pick_any R bA bl bc p 12 _ HR0.out HBA.out hbl hp0 (by omega) (by omega) (by omega)).mono ?_
  rintro e w1 ⟨v, rfl, hv0, hv1, hr1, hg1⟩
  have HO1 := Lib.hid (HO0.out.pick hg1 hRw)
  have HG1 := Lib.hid (HG0.out.trans hg1)
  have HR1 := Lib.hid hr1
  obtain ⟨m0, rfl⟩ := Int.eq_ofNat_of_zero_le hv0
  have hm : m0 ≤ 11 := by omega
  clear hr1 hg1 HO0 HG0 HR0 HBA hv0 hv1
  go_wp2
  go_loopw [5, 6] (fun ov kv wr => ∃ (k g cap : Nat) (vs : List Value) (rs : List (List Bool)) (q : Int), k + rs.length ≤ 11 ∧ kv = .int .i64 k ∧ ov = .slice (some ⟨g, 0, none⟩) rs.length cap ∧ Hid (RDraw wr w.heap.size g cap vs rs) ∧ Hid (Row wr R 90 #[.slice bA bl bc, .int .i64 q]) ∧ p ≤ q ∧ q ≤ p + 1 + 10 * (rs.length : Int) ∧ Hid (w.grownBy wr (some R)) ∧ Hid (∀ j, j < rs.length → (rs.getD j []).length = m)) (fun _ kv _ => (intOf kv).toNat)
  case atStart => exact ⟨m0, _, _, [], [], p + 1, by simpa using hm, rfl, rfl, HO1, HR1, by omega, by simp, HG1, Lib.hid (fun j hj => absurd hj (by simp))⟩
  case round =>
    clear HO1 HG1 HR1
    obtain ⟨k, g, cap, vs, rs, q, hk, rfl, rfl, HO, HR, hq0, hq1, HG, HLE⟩ := hrel
    by_cases hlt : 0 < k
    · have hgb : w.heap.size ≤ g := (HO.out.own.lt g rfl).1
      have hgl : g < wr.heap.size := (HO.out.own.lt g rfl).2
      go_wp2_with fail
      refine (bools_int R bA bl bc q z wr (by omega) HR.out (HB.out.grown HG.out) hbl (by omega) (by omega)).mono ?_
      rintro e w1 ⟨g1, c1, xs, rfl, hxl, hown1, hrow1, hgr1⟩
      have HO1 := Lib.hid (HO.out.pick hgr1 hRw)
      have HX1 := Lib.hid (own_bools hown1 hxl)
      have hg1b : wr.heap.size ≤ g1 := (hown1.lt g1 rfl).1
      have HXL := Lib.hid hxl
      have HR1 := Lib.hid hrow1
      have HG1 := Lib.hid (HG.out.trans hgr1)
      have hws : wr.heap.size ≤ w1.heap.size := hgr1.size
      have hn10 : z.toNat ≤ 10 := by omega
      generalize z.toNat = zn at *
      clear hown1 hrow1 hgr1 hxl HO HR HG
      go_wp2_with (at_builtin; refine wpList_append_kept _ rfl (.tmp 14) (.tmp 18) 27 rfl w.heap.size 33 i0 _ 1 24 Try.underlying27 HI0.out HZ0.out HZ1.out HZ2.out rfl (by omega) (.slice (some ⟨g, 0, none⟩) rs.length cap) rs.length vs rfl (HO1.out.own.alloc _) ⟨w1.heap.size, 0, none⟩ 1 1 [.slice (some ⟨g1, 0, none⟩) zn c1] rfl rfl (World.news_of_block (cs := #[.slice (some ⟨g1, 0, none⟩) zn c1]) (t := 33) (fr := (0, 0)) (heap_alloc_new w1 _)) (by simp [Value.oneCell']) (by omega) (by simp [maxLen]; omega) (by omega) (by simp; omega) _ rfl ?_)
      intro g' cap' w5 hown5 hgr5 hat5 hlt5 hkept5
      have hgs5 : (w1.alloc (.cells #[.slice (some ⟨g1, 0, none⟩) zn c1] 33)).grownBy w5 (some g) := hgr5
      have HO5 := Lib.hid (RDraw.app (z := g1) (c := c1) (r := xs) (HO1.out.alloc _) HXL.out hown5 hgs5 (by rcases hat5 with h | h; (left; simp [Value.ownBlock] at h; exact h.symm); (right; simpa using h)) (by omega) (fun _ => by omega) (HX1.out.grownR (gb_alloc (World.grownBy.refl w1 none) _) (fun b off e _ e2 => by cases e2)))
      have HR5 := Lib.hid ((HR1.out.alloc _).grown hgs5 (by intro x; injection x; omega))
      have HG5 := Lib.hid (gb_own (gb_alloc HG1.out (.cells #[.slice (some ⟨g1, 0, none⟩) zn c1] 33)) hgs5 (fun j hj => by injection hj; omega))
      have HLE5 : Hid (∀ j, j < (rs ++ [xs]).length → ((rs ++ [xs]).getD j []).length = m) := Lib.hid (fun j hj => by
        rw [List.length_append, List.length_singleton] at hj
        by_cases e : j = rs.length
        · subst e; rw [getD_rows_eq, HXL.out]; exact HM.out
        · rw [getD_rows_lt (by omega)]; exact HLE.out j (by omega))
      have HLN : Hid ((rs ++ [xs]).length = rs.length + 1) := Lib.hid (by simp)
      clear hown5 hgr5 hgs5 hat5 hlt5 hkept5 HO1 HR1 HG1 HX1
      go_wp2
      go_roundw
      case rel => exact ⟨k - 1, g', cap', _, rs ++ [xs], q + zn, by rw [HLN.out]; omega, by go_num, by rw [HLN.out], HO5, HR5, by omega, by rw [HLN.out]; omega, HG5, HLE5⟩
      case measure => simp [intOf]; omega
    · go_wp2
      go_ret
      exact ⟨g, cap, vs, rs, q, rfl, HO.out, by omega, HR.out, hq0, by omega, HG.out, HLE.out⟩

def DrawRunOut (w : World) (e : Ending) (w' : World) : Prop :=
  ∃ (i : Int) (nA gA oA rA : Option Addr) (nc gc oc rc : Nat) (ns : List Int) (gs : List (Int × Int)) (os : List Int) (rs : List (List Bool)),
    e = .returned (.tuple #[.agg #[.int .i64 i, .slice nA ns.length nc, .slice gA gs.length gc, .slice oA os.length oc], .slice rA rs.length rc]) ∧ CircAt w' w'.heap.size nA gA oA ns gs os ∧ RowsAt w' w'.heap.size rA rs ∧ Circ.validB i ns gs os = true ∧ rs.length ≤ 12 ∧ (∀ k, k < rs.length → (rs.getD k []).length = i.toNat) ∧ Below w.heap.size w w'

set_option maxHeartbeats 4000000 in
theorem drawRun_any (A : Option Addr) (bl bc : Nat) (w : World) (hb : CodeAt w A bl) (hbl : bl ≤ bc) (hbc : bc ≤ maxLen) : Calls Try.prog 14 #[.slice A bl bc] w (DrawRunOut w) := by
  have hc0 : CodeAt (w.alloc (.cells #[.int .i64 0, .slice none 0 0, .slice none 0 0, .slice none 0 0] 26)) A bl := fun k hk => by
    obtain ⟨b, off, z, e, hlt, hc, h0, h1⟩ := hb k hk
    exact ⟨b, off, z, e, by simp; omega, (World.cell?_alloc_lt w _ ⟨b, off + k, none⟩ hlt).trans hc, h0, h1⟩
  have HC0 := Lib.hid hc0
  have HL0 := Lib.hid (show Below w.heap.size w (w.alloc (.cells #[.int .i64 0, .slice none 0 0, .slice none 0 0, .slice none 0 0] 26)) from (Below.refl _ _).alloc (Nat.le_refl _) _)
  have HD0 := Lib.hid (show Row (w.alloc (.cells #[.int .i64 0, .slice none 0 0, .slice none 0 0, .slice none 0 0] 26)) w.heap.size 26 #[.int .i64 0, .slice none 0 0, .slice none 0 0, .slice none 0 0] from heap_alloc_new w _)
  have HBC := Lib.hid hbc
  clear hb hc0 hbc
  go_enter Try.func14, Try.ntmps14
  go_wp2_with fail
  refine (open_any A bl bc _ HC0.out hbl HBC.out).mono ?_
  rintro e w1 ⟨R, bA, bl', bc', rfl, hbl', hR, hrow, hby, hbel⟩
  have hR' : w.heap.size < R := by simp at hR; omega
  have HD1 := Lib.hid (HD0.out.below hbel HD0.out.lt)
  have HL1 := Lib.hid (HL0.out.trans (hbel.mono HL0.out.size))
  have HRW := Lib.hid hrow
  have HBY := Lib.hid hby
  have hRl : R < w1.heap.size := hrow.lt
  clear hrow hby hbel HD0 HL0 HC0 hR
  go_wp2_with fail
  refine (circuit_valid R bA bl' bc' 0 _ HRW.out HBY.out hbl' (by omega) (by omega)).mono ?_
  rintro e w2 ⟨i, nA, gA, oA, nc, gc, oc, ns, gs, os, p', rfl, hC, hval, hp0, hp1, hrow2, hgr, f1, f2, f3, hcap⟩
  have HVAL := Lib.hid hval
  obtain ⟨hi0, hi1, _, _, _⟩ := Circ.valid_within hval
  have hgs : w1.heap.size ≤ w2.heap.size := hgr.size
  have HN : Hid (Drn w (w2.alloc (.cells #[.int .i64 i, .slice nA ns.length nc, .slice gA gs.length gc, .slice oA os.length oc] 26)) R w.heap.size w2.heap.size w1.heap.size w2.heap.size (.slice bA bl' bc') p' i nA gA oA nc gc oc ns gs os) := Lib.hid
    ⟨hrow2.alloc _, (HD1.out.grown hgr (by intro x; injection x; omega)).alloc _, heap_alloc_new w2 _, (CircIn.of hC f1 f2 f3).grown (gb_alloc (World.grownBy.refl w2 none) _) (fun k hk => by cases hk), (below_gr HL1.out hgr (Nat.le_of_lt hR')).alloc (below_gr HL1.out hgr (Nat.le_of_lt hR')).size _, Nat.le_refl _, hR', hRl, hgs, Nat.le_refl _⟩
  have HBY2 : Hid (BytesAt (w2.alloc (.cells #[.int .i64 i, .slice nA ns.length nc, .slice gA gs.length gc, .slice oA os.length oc] 26)) R bA bl') := Lib.hid ((HBY.out.grown hgr).grown (gb_alloc (World.grownBy.refl w2 _) _))
  clear hC f1 f2 f3 hgr hrow2 HD1 HL1 HRW HBY hcap hval
  go_upto_region 3 with fail
  have hCl := HN.out.cir.lt
  generalize w2.alloc (.cells #[.int .i64 i, .slice nA ns.length nc, .slice gA gs.length gc, .slice oA os.length oc] 26) = w3 at *
  generalize w2.heap.size = C at *
  generalize w1.heap.size = lo at *
  have hlo := HN.out.hDR
  have hlo2 := HN.out.hRl
  have hlo3 := HN.out.hlh
  have hne : w.heap.size ≠ C := by omega
  have HNd := Lib.hid (HN.out.pick (w' := w3.drew) HN.out.row (gb_drew (World.grownBy.refl w3 (some R))))
  have HBYd := Lib.hid (HBY2.out.grown (gb_drew (World.grownBy.refl w3 (some R))))
  have q0 := HN.out.cir.cell 0
  have q1 := HN.out.cir.cell 1
  have q2 := HN.out.cir.cell 2
  have q3 := HN.out.cir.cell 3
  simp at q0 q1 q2 q3
  clear HN HBY2
  go_region_held3 (fun w' => w'.cell? ⟨C, 0, none⟩ = some (.int .i64 i) ∧ w'.cell? ⟨C, 1, none⟩ = some (.slice nA ns.length nc) ∧ w'.cell? ⟨C, 2, none⟩ = some (.slice gA gs.length gc) ∧ w'.cell? ⟨C, 3, none⟩ = some (.slice oA os.length oc))
    (first | (with_reducible exact hS4) | go_keep)
    (first
      | (go_at_call 47; refine (rows_len R bA bl' bc' p' i i.toNat _ rfl (by omega) HNd.out.row HBYd.out hbl' (by omega) (by omega)).mono ?_; rintro e w4 ⟨g1, c1, vs, rs, p4, rfl, hd4, hl4, hrow4, hp40, hp41, hgr4, hle4⟩; have HN4 := Lib.hid (HNd.out.pick hrow4 hgr4); have HD4 := Lib.hid hd4; have HLE4 := Lib.hid hle4; clear hd4 hle4 hrow4 hgr4; have hw4 : C < w4.heap.size := HN4.out.cir.lt; have t0 := HN4.out.res.cell 0; have t1 := HN4.out.res.cell 1; have t2 := HN4.out.res.cell 2; have t3 := HN4.out.res.cell 3; have f0 := HN4.out.res.frozen 0; have f1 := HN4.out.res.frozen 1; have f2 := HN4.out.res.frozen 2; have f3 := HN4.out.res.frozen 3; have y0 := HN4.out.cir.cell 0; have y1 := HN4.out.cir.cell 1; have y2 := HN4.out.cir.cell 2; have y3 := HN4.out.cir.cell 3; simp at t0 t1 t2 t3 y0 y1 y2 y3; have hS4 := And.intro y0 (And.intro y1 (And.intro y2 y3))))
  go_wp2
  refine bodyPost_ret (v := .tuple #[.agg #[.int .i64 i, .slice nA ns.length nc, .slice gA gs.length gc, .slice oA os.length oc], .slice (some ⟨g1, 0, none⟩) rs.length c1]) (by simp [results, Try.results14, go_sem, t0, t1, t2, t3]) rfl ⟨i, nA, gA, oA, some ⟨g1, 0, none⟩, nc, gc, oc, c1, ns, gs, os, rs, rfl, ?_, ?_, HVAL.out, hl4, HLE4.out, ?_⟩
  · exact ((((HN4.out.circ.farD (j := 0) (by omega) _).farD (j := 1) (by omega) _).farD (j := 2) (by omega) _).farD (j := 3) (by omega) _).at'
  · exact ((((HD4.out.setD (show w.heap.size < w3.heap.size by omega) 0 _).setD (show w.heap.size < w3.heap.size by omega) 1 _).setD (show w.heap.size < w3.heap.size by omega) 2 _).setD (show w.heap.size < w3.heap.size by omega) 3 _).rows
  · exact (((HN4.out.bel.setCell (p := ⟨w.heap.size, 0, none⟩) (Nat.le_refl _) _).setCell (p := ⟨w.heap.size, 1, none⟩) (Nat.le_refl _) _).setCell (p := ⟨w.heap.size, 2, none⟩) (Nat.le_refl _) _).setCell (p := ⟨w.heap.size, 3, none⟩) (Nat.le_refl _) _
end Go.Proofs.Ythpiddpkcmecfaa
