/- The contract of the draw of a circuit with rows of inputs. -/
import Derived.Test.YtbhkpjcflghgbaaB20
namespace Go.Proofs.Ytbhkpjcflghgbaa
open Go.RowKit Go.Deep

def DrawSimOut (w : World) (e : Ending) (w' : World) : Prop :=
  ∃ (i : Int) (nA gA oA rA : Option Addr) (nc gc oc rc : Nat) (ns : List Int) (gs : List (Int × Int)) (os : List Int) (rs : List (List Bool)),
    e = .returned (.tuple #[.agg #[.int .i64 i, .slice nA ns.length nc, .slice gA gs.length gc, .slice oA os.length oc], .slice rA rs.length rc]) ∧ CircAt w' w'.heap.size nA gA oA ns gs os ∧ RowsAt w' w'.heap.size rA rs ∧ ns.length ≤ 10 ∧ gs.length ≤ 20 ∧ os.length ≤ 10 ∧ -5 ≤ i ∧ i ≤ 5 ∧ rs.length ≤ 50 ∧ rs.length ≤ rc ∧ (∀ k, k < rs.length → (rs.getD k []).length ≤ 10) ∧ Below w.heap.size w w'

theorem tmod4 (i : Int) (h0 : -5 ≤ i) (h1 : i ≤ 5) : -3 ≤ i.tmod 4 ∧ i.tmod 4 ≤ 3 := by
  have h : i = -5 ∨ i = -4 ∨ i = -3 ∨ i = -2 ∨ i = -1 ∨ i = 0 ∨ i = 1 ∨ i = 2 ∨ i = 3 ∨ i = 4 ∨ i = 5 := by omega
  rcases h with rfl | rfl | rfl | rfl | rfl | rfl | rfl | rfl | rfl | rfl | rfl <;> decide
theorem RDraw.cap {w : World} {base g cap : Nat} {vs : List Value} {rs : List (List Bool)} (h : RDraw w base g cap vs rs) : rs.length ≤ cap := by
  rcases h.own.2 with ⟨h, _⟩ | ⟨g', cap', cur, h, _, _, hnc, _⟩
  · cases h
  · injection h with _ _ h3
    omega

def sliceLen : Value → Nat
  | .slice _ n _ => n
  | _ => 0
theorem bools_ten (R : Nat) (bA : Option Addr) (bl bc : Nat) (p : Int) (z : Int) (w : World) (hz : z ≤ 10) (hR : Row w R 83 #[.slice bA bl bc, .int .i64 p]) (hb : BytesAt w R bA bl) (hbl : bl ≤ 2000) (hp0 : 0 ≤ p) (hp1 : p ≤ 90000) :
    Calls Try.prog 41 #[.pointer (some ⟨R, 0, none⟩), .int .i64 z] w fun e w' => ∃ n, n ≤ 10 ∧ BoolsDrawn w R (.slice bA bl bc) p n e w' :=
  (bools_int R bA bl bc p z w (by omega) hR hb hbl hp0 hp1).mono fun _ _ h => ⟨z.toNat, by omega, h⟩

set_option maxRecDepth 4000 in
set_option maxHeartbeats 4000000 in
theorem drawSim_any (A : Option Addr) (bl bc : Nat) (w : World) (hb : CodeAt w A bl) (hbl : bl ≤ bc) (hbc : bc ≤ maxLen) : Calls Try.prog 19 #[.slice A bl bc] w (DrawSimOut w) := by
  have hc0 : CodeAt (w.alloc (.cells #[.int .i64 0, .slice none 0 0, .slice none 0 0, .slice none 0 0] 26)) A bl := fun k hk => by
    obtain ⟨b, off, z, e, hlt, hc, h0, h1⟩ := hb k hk
    exact ⟨b, off, z, e, by simp; omega, (World.cell?_alloc_lt w _ ⟨b, off + k, none⟩ hlt).trans hc, h0, h1⟩
  have HC0 := Lib.hid hc0
  have HL0 := Lib.hid (show Below w.heap.size w (w.alloc (.cells #[.int .i64 0, .slice none 0 0, .slice none 0 0, .slice none 0 0] 26)) from (Below.refl _ _).alloc (Nat.le_refl _) _)
  have HD0 := Lib.hid (show Row (w.alloc (.cells #[.int .i64 0, .slice none 0 0, .slice none 0 0, .slice none 0 0] 26)) w.heap.size 26 #[.int .i64 0, .slice none 0 0, .slice none 0 0, .slice none 0 0] from heap_alloc_new w _)
  have HBC := Lib.hid hbc
  clear hb hc0 hbc
  obtain ⟨i0, hi0, hz0, hz1, hz2⟩ := info_parts Try.infoBS
  have HI0 := Lib.hid hi0
  have HZ0 := Lib.hid hz0
  have HZ1 := Lib.hid hz1
  have HZ2 := Lib.hid hz2
  clear hi0 hz0 hz1 hz2
  go_enter Try.func19, Try.ntmps19
  go_wp2_with fail
  refine (open_any A bl bc _ HC0.out hbl HBC.out).mono ?_
  rintro e w1 ⟨R, bA, bl', bc', rfl, hbl', hR, hrow, hby, hbel⟩
  have hR' : w.heap.size < R := by simp at hR; omega
  have HD1 := Lib.hid (HD0.out.below hbel HD0.out.lt)
  have HL1 := Lib.hid (HL0.out.trans (hbel.mono HL0.out.size))
  have HRW := Lib.hid hrow
  have HBY := Lib.hid hby
  have HCD := Lib.hid hby.ub
  have hRl : R < w1.heap.size := hrow.lt
  clear hrow hby hbel HD0 HL0 HC0 hR
  go_wp2_with fail
  refine (circuit_any R bA bl' bc' 0 12 _ HRW.out HBY.out hbl' (by omega) (by omega) (by omega) (by omega)).mono ?_
  rintro e w2 ⟨i, nA, gA, oA, nc, gc, oc, ns, gs, os, p', rfl, hC, hn, hg, ho, hi0, hi1, hp0, hp1, hrow2, hgr, f1, f2, f3, hcap⟩
  have hgs : w1.heap.size ≤ w2.heap.size := hgr.size
  have HN : Hid (Drn w (w2.alloc (.cells #[.int .i64 i, .slice nA ns.length nc, .slice gA gs.length gc, .slice oA os.length oc] 26)) R w.heap.size w2.heap.size w1.heap.size w2.heap.size (.slice bA bl' bc') p' i nA gA oA nc gc oc ns gs os) := Lib.hid
    ⟨hrow2.alloc _, (HD1.out.grown hgr (by intro x; injection x; omega)).alloc _, heap_alloc_new w2 _, (CircIn.of hC f1 f2 f3).grown (gb_alloc (World.grownBy.refl w2 none) _) (fun k hk => by cases hk), (below_gr HL1.out hgr (Nat.le_of_lt hR')).alloc (below_gr HL1.out hgr (Nat.le_of_lt hR')).size _, Nat.le_refl _, hR', hRl, hgs, Nat.le_refl _⟩
  have HBY2 : Hid (BytesAt (w2.alloc (.cells #[.int .i64 i, .slice nA ns.length nc, .slice gA gs.length gc, .slice oA os.length oc] 26)) R bA bl') := Lib.hid ((HBY.out.grown hgr).grown (gb_alloc (World.grownBy.refl w2 _) _))
  clear hC f1 f2 f3 hgr hrow2 HD1 HL1 HRW HBY hcap
  have q0 := HN.out.cir.cell 0
  simp at q0
  go_wp2_with fail
  all_goals
    have hCl := HN.out.cir.lt
    generalize w2.alloc (.cells #[.int .i64 i, .slice nA ns.length nc, .slice gA gs.length gc, .slice oA os.length oc] 26) = w3 at *
    generalize w2.heap.size = C at *
    generalize w1.heap.size = lo at *
    refine (rows_any R bA bl' bc' p' _ _ (by omega) HN.out.row HBY2.out hbl' (by omega) (by omega)).mono ?_
    rintro e w4 ⟨g1, c1, vs, rs, p4, rfl, hd4, hl4, hrow4, hp40, hp41, hgr4, hle4⟩
    have HN4 := Lib.hid (HN.out.pick hrow4 hgr4)
    have HBY4 := Lib.hid (HBY2.out.grown hgr4)
    have HD4 := Lib.hid hd4
    have HLE4 := Lib.hid hle4
    have hg1 : C < g1 := by have := (hd4.own.lt g1 rfl).1; omega
    have hb1s : w3.heap.size ≤ w4.heap.size := hgr4.size
    clear hrow4 hgr4 hd4 hle4 HN HBY2 q0
    generalize w3.heap.size = b1 at *
    go_wp2_with fail
    refine (odd_any R bA bl' bc' _ 9 w4 HN4.out.row HBY4.out hbl' (by omega) (by omega) (by omega) (by omega)).mono ?_
    rintro e w5 ⟨bb5, p5, rfl, hpa5, hpb5, hrow5, hgr5⟩
    have HN5 := Lib.hid (HN4.out.pick hrow5 hgr5)
    have HBY5 := Lib.hid (HBY4.out.grown hgr5)
    have HD5 := Lib.hid (HD4.out.pick hgr5 (by omega))
    have hb1s5 : b1 ≤ w5.heap.size := Nat.le_trans hb1s hgr5.size
    clear hrow5 hgr5 HN4 HBY4 HD4 hb1s
    cases bb5
    · skip
      go_wp2_with fail
      refine (odd_any R bA bl' bc' _ 20 w5 HN5.out.row HBY5.out hbl' (by omega) (by omega) (by omega) (by omega)).mono ?_
      rintro e w18 ⟨bb18, p18, rfl, hpa18, hpb18, hrow18, hgr18⟩
      have HN18 := Lib.hid (HN5.out.pick hrow18 hgr18)
      have HBY18 := Lib.hid (HBY5.out.grown hgr18)
      have HD18 := Lib.hid (HD5.out.pick hgr18 (by omega))
      have hbs18 : b1 ≤ w18.heap.size := Nat.le_trans hb1s5 hgr18.size
      clear hrow18 hgr18 HN5 HBY5 HD5
      cases bb18
      · skip
        have q0 := HN18.out.cir.cell 0
        have t0 := HN18.out.res.cell 0
        have f0 := HN18.out.res.frozen 0
        have q1 := HN18.out.cir.cell 1
        have t1 := HN18.out.res.cell 1
        have f1 := HN18.out.res.frozen 1
        have q2 := HN18.out.cir.cell 2
        have t2 := HN18.out.res.cell 2
        have f2 := HN18.out.res.frozen 2
        have q3 := HN18.out.cir.cell 3
        have t3 := HN18.out.res.cell 3
        have f3 := HN18.out.res.frozen 3
        simp at q0 q1 q2 q3 t0 t1 t2 t3
        have hlo := HN18.out.hDR
        have hne : w.heap.size ≠ C := by omega
        go_wp2
        refine bodyPost_ret (v := .tuple #[.agg #[.int .i64 i, .slice nA ns.length nc, .slice gA gs.length gc, .slice oA os.length oc], .slice (some ⟨g1, 0, none⟩) rs.length c1]) (by simp [results, Try.results19, go_sem, t0, t1, t2, t3]) rfl ⟨i, nA, gA, oA, some ⟨g1, 0, none⟩, nc, gc, oc, c1, ns, gs, os, rs, rfl, ?_, ?_, hn, hg, ho, hi0, hi1, by omega, HD18.out.cap, HLE4.out, ?_⟩
        · exact ((((HN18.out.circ.farD (j := 0) (by omega) _).farD (j := 1) (by omega) _).farD (j := 2) (by omega) _).farD (j := 3) (by omega) _).at'
        · exact ((((HD18.out.setD (by omega) 0 _).setD (by omega) 1 _).setD (by omega) 2 _).setD (by omega) 3 _).rows
        · exact (((HN18.out.bel.setCell (p := ⟨w.heap.size, 0, none⟩) (Nat.le_refl _) _).setCell (p := ⟨w.heap.size, 1, none⟩) (Nat.le_refl _) _).setCell (p := ⟨w.heap.size, 2, none⟩) (Nat.le_refl _) _).setCell (p := ⟨w.heap.size, 3, none⟩) (Nat.le_refl _) _
      · go_wp2
        go_loopw [6] (fun ov wr => ∃ (g cap : Nat) (vs : List Value) (rs : List (List Bool)) (q : Int), rs.length ≤ 41 ∧ ov = .slice (some ⟨g, 0, none⟩) rs.length cap ∧ C < g ∧ Hid (RDraw wr b1 g cap vs rs) ∧ Hid (Drn w wr R w.heap.size C lo C (.slice bA bl' bc') q i nA gA oA nc gc oc ns gs os) ∧ Hid (BytesAt wr R bA bl') ∧ 0 ≤ q ∧ q ≤ 1000 + 10 * (rs.length : Int) ∧ b1 ≤ wr.heap.size ∧ Hid (∀ j, j < rs.length → (rs.getD j []).length ≤ 10)) (fun ov _ => 41 - sliceLen ov)
        case atStart => exact ⟨g1, c1, _, rs, p18, by omega, rfl, by omega, HD18, HN18, HBY18, by omega, by omega, hbs18, HLE4⟩
        case round =>
          clear HD18 HN18 HBY18 HLE4
          obtain ⟨gr, capr, vsr, rsr, q, hl, rfl, hgC, HDx, HNx, HBYx, hq0, hq1, hbs, HLEr⟩ := hrel
          have HD20 := HDx
          have HN20 := HNx
          have HBY20 := HBYx
          clear HDx HNx HBYx
          obtain ⟨w20, hw20⟩ : ∃ w20, w20 = wr := ⟨_, rfl⟩
          subst hw20
          by_cases hlt : rsr.length ≤ 40
          · have q0 := HN20.out.cir.cell 0
            simp at q0
            go_wp2_with fail
            all_goals
              clear q0
              have hgrl : gr < w20.heap.size := (HD20.out.own.lt gr rfl).2
              refine (bools_ten R bA bl' bc' q _ w20 (by omega) HN20.out.row HBY20.out hbl' (by omega) (by omega)).mono ?_
              rintro e w21 ⟨zn21, hzn21, g21, c21, xs21, rfl, hxl21, hown21, hrow21, hgr21⟩
              have HN21 := Lib.hid (HN20.out.pick hrow21 hgr21)
              have HBY21 := Lib.hid (HBY20.out.grown hgr21)
              have HD21 := Lib.hid (HD20.out.pick hgr21 (by omega))
              have HX21 := Lib.hid (own_bools hown21 hxl21)
              have HXL21 := Lib.hid hxl21
              have hgw21 : w20.heap.size ≤ g21 := (hown21.lt g21 rfl).1
              have hws21 : w20.heap.size ≤ w21.heap.size := hgr21.size
              clear hrow21 hgr21 hown21 hxl21 HN20 HBY20 HD20
              go_wp2_with (at_builtin; refine wpList_append_kept _ rfl (.tmp 33) (.tmp 40) 41 rfl b1 27 i0 _ 1 24 Try.underlying41 HI0.out HZ0.out HZ1.out HZ2.out rfl (by omega) (.slice (some ⟨gr, 0, none⟩) rsr.length capr) rsr.length vsr rfl (HD21.out.own.alloc _) ⟨w21.heap.size, 0, none⟩ 1 1 [.slice (some ⟨g21, 0, none⟩) zn21 c21] rfl rfl (World.news_of_block (cs := #[.slice (some ⟨g21, 0, none⟩) zn21 c21]) (t := 27) (fr := (0, 0)) (heap_alloc_new w21 _)) (by simp [Value.oneCell']) (by omega) (by simp [maxLen]; omega) (by omega) (by simp; omega) _ rfl ?_)
              intro g22 c22 w22 hown22 hgr22 hat22 hlt22 hkept22
              have hgs22 : (w21.alloc (.cells #[.slice (some ⟨g21, 0, none⟩) zn21 c21] 27)).grownBy w22 (some gr) := hgr22
              have HD22 := Lib.hid (RDraw.app (z := g21) (c := c21) (r := xs21) (HD21.out.alloc (.cells #[.slice (some ⟨g21, 0, none⟩) zn21 c21] 27)) HXL21.out hown22 hgs22 (by rcases hat22 with h | h; (left; simp [Value.ownBlock] at h; exact h.symm); (right; simpa using h)) (by omega) (fun _ => by omega) (HX21.out.grownR (gb_alloc (World.grownBy.refl w21 none) _) (fun b off e _ e2 => by cases e2)))
              have HN22 := Lib.hid ((HN21.out.alloc (.cells #[.slice (some ⟨g21, 0, none⟩) zn21 c21] 27)).own hgs22 (by omega))
              have HBY22 := Lib.hid ((HBY21.out.grown (gb_alloc (World.grownBy.refl w21 _) (.cells #[.slice (some ⟨g21, 0, none⟩) zn21 c21] 27))).own hgs22 (fun b off e hl => by have := HCD.out b off e hl; omega))
              have hbs22 : b1 ≤ w22.heap.size := by have := hgs22.size; simp at this; omega
              have hgC22 : C < g22 := by have := (HD22.out.own.lt g22 rfl).1; omega
              have HLE22 : Hid (∀ j, j < (rsr ++ [xs21]).length → ((rsr ++ [xs21]).getD j []).length ≤ 10) := Lib.hid (fun j hj => by
                rw [List.length_append, List.length_singleton] at hj
                by_cases e : j = rsr.length
                · subst e; rw [getD_rows_eq, HXL21.out]; omega
                · rw [getD_rows_lt (by omega)]; exact HLEr.out j (by omega))
              have HLN22 : Hid ((rsr ++ [xs21]).length = rsr.length + 1) := Lib.hid (by simp)
              clear hown22 hgr22 hat22 hlt22 hkept22 HD21 HN21 HBY21 HX21
              go_wp2
              go_roundw
              case rel => exact ⟨g22, c22, _, rsr ++ [xs21], q + zn21, by rw [HLN22.out]; omega, by rw [HLN22.out], hgC22, HD22, HN22, HBY22, by omega, by rw [HLN22.out]; omega, hbs22, HLE22⟩
              case measure => simp [sliceLen]; omega
          · skip
            have q0 := HN20.out.cir.cell 0
            have t0 := HN20.out.res.cell 0
            have f0 := HN20.out.res.frozen 0
            have q1 := HN20.out.cir.cell 1
            have t1 := HN20.out.res.cell 1
            have f1 := HN20.out.res.frozen 1
            have q2 := HN20.out.cir.cell 2
            have t2 := HN20.out.res.cell 2
            have f2 := HN20.out.res.frozen 2
            have q3 := HN20.out.cir.cell 3
            have t3 := HN20.out.res.cell 3
            have f3 := HN20.out.res.frozen 3
            simp at q0 q1 q2 q3 t0 t1 t2 t3
            have hlo := HN20.out.hDR
            have hne : w.heap.size ≠ C := by omega
            go_wp2
            refine bodyPost_ret (v := .tuple #[.agg #[.int .i64 i, .slice nA ns.length nc, .slice gA gs.length gc, .slice oA os.length oc], .slice (some ⟨gr, 0, none⟩) rsr.length capr]) (by simp [results, Try.results19, go_sem, t0, t1, t2, t3]) rfl ⟨i, nA, gA, oA, some ⟨gr, 0, none⟩, nc, gc, oc, capr, ns, gs, os, rsr, rfl, ?_, ?_, hn, hg, ho, hi0, hi1, by omega, HD20.out.cap, HLEr.out, ?_⟩
            · exact ((((HN20.out.circ.farD (j := 0) (by omega) _).farD (j := 1) (by omega) _).farD (j := 2) (by omega) _).farD (j := 3) (by omega) _).at'
            · exact ((((HD20.out.setD (by omega) 0 _).setD (by omega) 1 _).setD (by omega) 2 _).setD (by omega) 3 _).rows
            · exact (((HN20.out.bel.setCell (p := ⟨w.heap.size, 0, none⟩) (Nat.le_refl _) _).setCell (p := ⟨w.heap.size, 1, none⟩) (Nat.le_refl _) _).setCell (p := ⟨w.heap.size, 2, none⟩) (Nat.le_refl _) _).setCell (p := ⟨w.heap.size, 3, none⟩) (Nat.le_refl _) _
    · have q0 := HN5.out.cir.cell 0
      simp at q0
      obtain ⟨t0, t1⟩ := tmod4 i hi0 hi1
      have s1 : IntKind.i64.wrap (i.tmod 4) = i.tmod 4 := IntWalk.i64_in _ (by omega)
      go_wp2_with fail
      have hgrl : g1 < w5.heap.size := (HD5.out.own.lt g1 rfl).2
      refine (bools_ten R bA bl' bc' p5 _ w5 (by omega) HN5.out.row HBY5.out hbl' (by omega) (by omega)).mono ?_
      rintro e w6 ⟨zn6, hzn6, g6, c6, xs6, rfl, hxl6, hown6, hrow6, hgr6⟩
      have HN6 := Lib.hid (HN5.out.pick hrow6 hgr6)
      have HBY6 := Lib.hid (HBY5.out.grown hgr6)
      have HD6 := Lib.hid (HD5.out.pick hgr6 (by omega))
      have HX6 := Lib.hid (own_bools hown6 hxl6)
      have HXL6 := Lib.hid hxl6
      have hgw6 : w5.heap.size ≤ g6 := (hown6.lt g6 rfl).1
      have hws6 : w5.heap.size ≤ w6.heap.size := hgr6.size
      clear hrow6 hgr6 hown6 hxl6 HN5 HBY5 HD5 q0 t0 t1 s1
      go_wp2_with (at_builtin; refine wpList_append_kept _ rfl (.tmp 19) (.tmp 26) 41 rfl b1 27 i0 _ 1 24 Try.underlying41 HI0.out HZ0.out HZ1.out HZ2.out rfl (by omega) (.slice (some ⟨g1, 0, none⟩) rs.length c1) rs.length vs rfl (HD6.out.own.alloc _) ⟨w6.heap.size, 0, none⟩ 1 1 [.slice (some ⟨g6, 0, none⟩) zn6 c6] rfl rfl (World.news_of_block (cs := #[.slice (some ⟨g6, 0, none⟩) zn6 c6]) (t := 27) (fr := (0, 0)) (heap_alloc_new w6 _)) (by simp [Value.oneCell']) (by omega) (by simp [maxLen]; omega) (by omega) (by simp; omega) _ rfl ?_)
      intro g7 c7 w7 hown7 hgr7 hat7 hlt7 hkept7
      have hgs7 : (w6.alloc (.cells #[.slice (some ⟨g6, 0, none⟩) zn6 c6] 27)).grownBy w7 (some g1) := hgr7
      have HD7 := Lib.hid (RDraw.app (z := g6) (c := c6) (r := xs6) (HD6.out.alloc (.cells #[.slice (some ⟨g6, 0, none⟩) zn6 c6] 27)) HXL6.out hown7 hgs7 (by rcases hat7 with h | h; (left; simp [Value.ownBlock] at h; exact h.symm); (right; simpa using h)) (by omega) (fun _ => by omega) (HX6.out.grownR (gb_alloc (World.grownBy.refl w6 none) _) (fun b off e _ e2 => by cases e2)))
      have HN7 := Lib.hid ((HN6.out.alloc (.cells #[.slice (some ⟨g6, 0, none⟩) zn6 c6] 27)).own hgs7 (by omega))
      have HBY7 := Lib.hid ((HBY6.out.grown (gb_alloc (World.grownBy.refl w6 _) (.cells #[.slice (some ⟨g6, 0, none⟩) zn6 c6] 27))).own hgs7 (fun b off e hl => by have := HCD.out b off e hl; omega))
      have hbs7 : b1 ≤ w7.heap.size := by have := hgs7.size; simp at this; omega
      have hgC7 : C < g7 := by have := (HD7.out.own.lt g7 rfl).1; omega
      have HLE7 : Hid (∀ j, j < (rs ++ [xs6]).length → ((rs ++ [xs6]).getD j []).length ≤ 10) := Lib.hid (fun j hj => by
        rw [List.length_append, List.length_singleton] at hj
        by_cases e : j = rs.length
        · subst e; rw [getD_rows_eq, HXL6.out]; omega
        · rw [getD_rows_lt (by omega)]; exact HLE4.out j (by omega))
      have HLN7 : Hid ((rs ++ [xs6]).length = rs.length + 1) := Lib.hid (by simp)
      clear hown7 hgr7 hat7 hlt7 hkept7 HD6 HN6 HBY6 HX6
      have hlr7 : (rs ++ [xs6]).length ≤ 13 := by rw [HLN7.out]; omega
      have HLQ7 : Hid (rs.length + 1 = (rs ++ [xs6]).length) := Lib.hid HLN7.out.symm
      rw [HLQ7.out]
      clear HLQ7 HLN7 HLE4
      generalize rs ++ [xs6] = rs7 at *
      generalize vs ++ [Value.slice (some ⟨g6, 0, none⟩) zn6 c6] = vs7 at *
      go_wp2_with fail
      refine (odd_any R bA bl' bc' _ 20 w7 HN7.out.row HBY7.out hbl' (by omega) (by omega) (by omega) (by omega)).mono ?_
      rintro e w18 ⟨bb18, p18, rfl, hpa18, hpb18, hrow18, hgr18⟩
      have HN18 := Lib.hid (HN7.out.pick hrow18 hgr18)
      have HBY18 := Lib.hid (HBY7.out.grown hgr18)
      have HD18 := Lib.hid (HD7.out.pick hgr18 (by omega))
      have hbs18 : b1 ≤ w18.heap.size := Nat.le_trans hbs7 hgr18.size
      clear hrow18 hgr18 HN7 HBY7 HD7
      cases bb18
      · skip
        have q0 := HN18.out.cir.cell 0
        have t0 := HN18.out.res.cell 0
        have f0 := HN18.out.res.frozen 0
        have q1 := HN18.out.cir.cell 1
        have t1 := HN18.out.res.cell 1
        have f1 := HN18.out.res.frozen 1
        have q2 := HN18.out.cir.cell 2
        have t2 := HN18.out.res.cell 2
        have f2 := HN18.out.res.frozen 2
        have q3 := HN18.out.cir.cell 3
        have t3 := HN18.out.res.cell 3
        have f3 := HN18.out.res.frozen 3
        simp at q0 q1 q2 q3 t0 t1 t2 t3
        have hlo := HN18.out.hDR
        have hne : w.heap.size ≠ C := by omega
        go_wp2
        refine bodyPost_ret (v := .tuple #[.agg #[.int .i64 i, .slice nA ns.length nc, .slice gA gs.length gc, .slice oA os.length oc], .slice (some ⟨g7, 0, none⟩) rs7.length c7]) (by simp [results, Try.results19, go_sem, t0, t1, t2, t3]) rfl ⟨i, nA, gA, oA, some ⟨g7, 0, none⟩, nc, gc, oc, c7, ns, gs, os, rs7, rfl, ?_, ?_, hn, hg, ho, hi0, hi1, by omega, HD18.out.cap, HLE7.out, ?_⟩
        · exact ((((HN18.out.circ.farD (j := 0) (by omega) _).farD (j := 1) (by omega) _).farD (j := 2) (by omega) _).farD (j := 3) (by omega) _).at'
        · exact ((((HD18.out.setD (by omega) 0 _).setD (by omega) 1 _).setD (by omega) 2 _).setD (by omega) 3 _).rows
        · exact (((HN18.out.bel.setCell (p := ⟨w.heap.size, 0, none⟩) (Nat.le_refl _) _).setCell (p := ⟨w.heap.size, 1, none⟩) (Nat.le_refl _) _).setCell (p := ⟨w.heap.size, 2, none⟩) (Nat.le_refl _) _).setCell (p := ⟨w.heap.size, 3, none⟩) (Nat.le_refl _) _
      · go_wp2
        go_loopw [6] (fun ov wr => ∃ (g cap : Nat) (vs : List Value) (rs : List (List Bool)) (q : Int), rs.length ≤ 41 ∧ ov = .slice (some ⟨g, 0, none⟩) rs.length cap ∧ C < g ∧ Hid (RDraw wr b1 g cap vs rs) ∧ Hid (Drn w wr R w.heap.size C lo C (.slice bA bl' bc') q i nA gA oA nc gc oc ns gs os) ∧ Hid (BytesAt wr R bA bl') ∧ 0 ≤ q ∧ q ≤ 1000 + 10 * (rs.length : Int) ∧ b1 ≤ wr.heap.size ∧ Hid (∀ j, j < rs.length → (rs.getD j []).length ≤ 10)) (fun ov _ => 41 - sliceLen ov)
        case atStart => exact ⟨g7, c7, _, rs7, p18, by omega, rfl, by omega, HD18, HN18, HBY18, by omega, by omega, hbs18, HLE7⟩
        case round =>
          clear HD18 HN18 HBY18 HLE7
          obtain ⟨gr, capr, vsr, rsr, q, hl, rfl, hgC, HDx, HNx, HBYx, hq0, hq1, hbs, HLEr⟩ := hrel
          have HD20 := HDx
          have HN20 := HNx
          have HBY20 := HBYx
          clear HDx HNx HBYx
          obtain ⟨w20, hw20⟩ : ∃ w20, w20 = wr := ⟨_, rfl⟩
          subst hw20
          by_cases hlt : rsr.length ≤ 40
          · have q0 := HN20.out.cir.cell 0
            simp at q0
            go_wp2_with fail
            all_goals
              clear q0
              have hgrl : gr < w20.heap.size := (HD20.out.own.lt gr rfl).2
              refine (bools_ten R bA bl' bc' q _ w20 (by omega) HN20.out.row HBY20.out hbl' (by omega) (by omega)).mono ?_
              rintro e w21 ⟨zn21, hzn21, g21, c21, xs21, rfl, hxl21, hown21, hrow21, hgr21⟩
              have HN21 := Lib.hid (HN20.out.pick hrow21 hgr21)
              have HBY21 := Lib.hid (HBY20.out.grown hgr21)
              have HD21 := Lib.hid (HD20.out.pick hgr21 (by omega))
              have HX21 := Lib.hid (own_bools hown21 hxl21)
              have HXL21 := Lib.hid hxl21
              have hgw21 : w20.heap.size ≤ g21 := (hown21.lt g21 rfl).1
              have hws21 : w20.heap.size ≤ w21.heap.size := hgr21.size
              clear hrow21 hgr21 hown21 hxl21 HN20 HBY20 HD20
              go_wp2_with (at_builtin; refine wpList_append_kept _ rfl (.tmp 33) (.tmp 40) 41 rfl b1 27 i0 _ 1 24 Try.underlying41 HI0.out HZ0.out HZ1.out HZ2.out rfl (by omega) (.slice (some ⟨gr, 0, none⟩) rsr.length capr) rsr.length vsr rfl (HD21.out.own.alloc _) ⟨w21.heap.size, 0, none⟩ 1 1 [.slice (some ⟨g21, 0, none⟩) zn21 c21] rfl rfl (World.news_of_block (cs := #[.slice (some ⟨g21, 0, none⟩) zn21 c21]) (t := 27) (fr := (0, 0)) (heap_alloc_new w21 _)) (by simp [Value.oneCell']) (by omega) (by simp [maxLen]; omega) (by omega) (by simp; omega) _ rfl ?_)
              intro g22 c22 w22 hown22 hgr22 hat22 hlt22 hkept22
              have hgs22 : (w21.alloc (.cells #[.slice (some ⟨g21, 0, none⟩) zn21 c21] 27)).grownBy w22 (some gr) := hgr22
              have HD22 := Lib.hid (RDraw.app (z := g21) (c := c21) (r := xs21) (HD21.out.alloc (.cells #[.slice (some ⟨g21, 0, none⟩) zn21 c21] 27)) HXL21.out hown22 hgs22 (by rcases hat22 with h | h; (left; simp [Value.ownBlock] at h; exact h.symm); (right; simpa using h)) (by omega) (fun _ => by omega) (HX21.out.grownR (gb_alloc (World.grownBy.refl w21 none) _) (fun b off e _ e2 => by cases e2)))
              have HN22 := Lib.hid ((HN21.out.alloc (.cells #[.slice (some ⟨g21, 0, none⟩) zn21 c21] 27)).own hgs22 (by omega))
              have HBY22 := Lib.hid ((HBY21.out.grown (gb_alloc (World.grownBy.refl w21 _) (.cells #[.slice (some ⟨g21, 0, none⟩) zn21 c21] 27))).own hgs22 (fun b off e hl => by have := HCD.out b off e hl; omega))
              have hbs22 : b1 ≤ w22.heap.size := by have := hgs22.size; simp at this; omega
              have hgC22 : C < g22 := by have := (HD22.out.own.lt g22 rfl).1; omega
              have HLE22 : Hid (∀ j, j < (rsr ++ [xs21]).length → ((rsr ++ [xs21]).getD j []).length ≤ 10) := Lib.hid (fun j hj => by
                rw [List.length_append, List.length_singleton] at hj
                by_cases e : j = rsr.length
                · subst e; rw [getD_rows_eq, HXL21.out]; omega
                · rw [getD_rows_lt (by omega)]; exact HLEr.out j (by omega))
              have HLN22 : Hid ((rsr ++ [xs21]).length = rsr.length + 1) := Lib.hid (by simp)
              clear hown22 hgr22 hat22 hlt22 hkept22 HD21 HN21 HBY21 HX21
              go_wp2
              go_roundw
              case rel => exact ⟨g22, c22, _, rsr ++ [xs21], q + zn21, by rw [HLN22.out]; omega, by rw [HLN22.out], hgC22, HD22, HN22, HBY22, by omega, by rw [HLN22.out]; omega, hbs22, HLE22⟩
              case measure => simp [sliceLen]; omega
          · skip
            have q0 := HN20.out.cir.cell 0
            have t0 := HN20.out.res.cell 0
            have f0 := HN20.out.res.frozen 0
            have q1 := HN20.out.cir.cell 1
            have t1 := HN20.out.res.cell 1
            have f1 := HN20.out.res.frozen 1
            have q2 := HN20.out.cir.cell 2
            have t2 := HN20.out.res.cell 2
            have f2 := HN20.out.res.frozen 2
            have q3 := HN20.out.cir.cell 3
            have t3 := HN20.out.res.cell 3
            have f3 := HN20.out.res.frozen 3
            simp at q0 q1 q2 q3 t0 t1 t2 t3
            have hlo := HN20.out.hDR
            have hne : w.heap.size ≠ C := by omega
            go_wp2
            refine bodyPost_ret (v := .tuple #[.agg #[.int .i64 i, .slice nA ns.length nc, .slice gA gs.length gc, .slice oA os.length oc], .slice (some ⟨gr, 0, none⟩) rsr.length capr]) (by simp [results, Try.results19, go_sem, t0, t1, t2, t3]) rfl ⟨i, nA, gA, oA, some ⟨gr, 0, none⟩, nc, gc, oc, capr, ns, gs, os, rsr, rfl, ?_, ?_, hn, hg, ho, hi0, hi1, by omega, HD20.out.cap, HLEr.out, ?_⟩
            · exact ((((HN20.out.circ.farD (j := 0) (by omega) _).farD (j := 1) (by omega) _).farD (j := 2) (by omega) _).farD (j := 3) (by omega) _).at'
            · exact ((((HD20.out.setD (by omega) 0 _).setD (by omega) 1 _).setD (by omega) 2 _).setD (by omega) 3 _).rows
            · exact (((HN20.out.bel.setCell (p := ⟨w.heap.size, 0, none⟩) (Nat.le_refl _) _).setCell (p := ⟨w.heap.size, 1, none⟩) (Nat.le_refl _) _).setCell (p := ⟨w.heap.size, 2, none⟩) (Nat.le_refl _) _).setCell (p := ⟨w.heap.size, 3, none⟩) (Nat.le_refl _) _
end Go.Proofs.Ytbhkpjcflghgbaa
