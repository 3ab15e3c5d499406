/- The walk of the law FnRoute. -/
import Derived.Test.YtliedgaefgomjaaGreatR10
import Derived.Test.YtliedgaefgomjaaGreatRR
import Derived.Test.YtliedgaefgomjaaGreatQX
import Derived.Test.YtliedgaefgomjaaGreatST
import Derived.Test.YtliedgaefgomjaaGreatZ
import Derived.BigQuiet
namespace Go.Proofs.YtliedgaefgomjaaGreat
open Go.RowKit Go.Deep Cut Plc Rt
set_option maxRecDepth 100000

theorem lawHas_v (A : Option Addr) (n cap B : Nat) (xs : List Nat) (y : Nat) (b : Bool) (hb : xs.contains y = b) (w : World) (hx : IntsAt w B A (Opt.intL xs)) (hn : xs.length = n) (hnb : n ≤ 1000) : Calls Tryz.prog 11 #[.slice A n cap, .int .i64 y] w fun e w' => e = .returned (.bool b) ∧ w' = w := by
  subst hb
  exact (lawHas_any A n cap B xs y w hx hn hnb).mono fun e w' ⟨h1, h2⟩ => ⟨h1, h2.symm⟩
theorem mul_self_nn (a : Int) : 0 ≤ a * a := by
  rcases Int.le_total 0 a with h | h
  · exact Int.mul_nonneg h h
  · exact Int.mul_nonneg_of_nonpos_of_nonpos h h
set_option maxHeartbeats 8000000 in
theorem froute_walk (A : Option Addr) (bl bc : Nat) (w : World) (hb : CodeAt w A bl) (hbl : bl ≤ bc) (hbc : bc ≤ maxLen) :
    Calls Tryz.prog 3 #[.slice A bl bc] w fun e w' => e = .returned (.bool true) ∧ Below w.heap.size w w' := by
  have HB := Lib.hid hb
  have HBC := Lib.hid hbc
  unfold maxLen at hbc
  clear hb
  by_cases hsz : 1048576 < bl
  · go_enter Tryz.func3, Tryz.ntmps3
    go_wp2
    go_ret
    exact ⟨rfl, Below.refl _ _⟩
  · go_enter Tryz.func3, Tryz.ntmps3
    go_wp2_with fail
    refine (drawRoute_any A bl bc _ HB.out hbl HBC.out).mono ?_
    rintro e w1 ⟨i, nA, gA, oA, pA, nc, gc, oc, pc, ns, gs, os, xs, rfl, hC1, hP1, hn, hg, ho, hcap, hxl, hxc, hb1⟩
    have hbB : Below w1.heap.size w1 (w1.alloc (.cells #[.int .i64 i, .slice nA ns.length nc, .slice gA gs.length gc, .slice oA os.length oc] 26)) := (Below.refl _ _).alloc (Nat.le_refl _) _
    have HC2 := Lib.hid ((hC1.below hbB).mono hbB.size)
    have HP2 := Lib.hid ((hP1.below hbB).mono hbB.size)
    have HL2 := Lib.hid (hb1.trans (hbB.mono hb1.size))
    have HR2 := Lib.hid (Boxed.new w1 i nA gA oA ns.length nc gs.length gc os.length oc 26)
    have hlt2 : w1.heap.size < (w1.alloc (.cells #[.int .i64 i, .slice nA ns.length nc, .slice gA gs.length gc, .slice oA os.length oc] 26)).heap.size := by simp
    clear hC1 hP1 hb1 hbB HB HBC hbc
    go_upto_region 4 with fail
    generalize w1.alloc (.cells #[.int .i64 i, .slice nA ns.length nc, .slice gA gs.length gc, .slice oA os.length oc] 26) = w2 at *
    generalize w1.heap.size = ca at *
    obtain ⟨l, hl⟩ : ∃ l, xs.length = l := ⟨_, rfl⟩
    rw [hl] at hxl hxc ⊢
    have HXL := Lib.hid hl
    clear hl
    have q0 := HR2.out.c0
    have q1 := HR2.out.c1
    have q2 := HR2.out.c2
    have q3 := HR2.out.c3
    go_wp2_with fail
    refine (iroute_any i nA gA oA pA nc gc oc l pc ns gs os xs _ HC2.out hcap HP2.out HXL.out (by unfold maxLen; omega)).mono ?_
    rintro e w3 ⟨hx3, hb3⟩
    have HC3 := Lib.hid ((HC2.out.below hb3).mono hb3.size)
    have HP3 := Lib.hid ((HP2.out.below hb3).mono hb3.size)
    have HL3 := Lib.hid (HL2.out.trans (hb3.mono HL2.out.size))
    have HR3 := Lib.hid (HR2.out.below hb3 hlt2)
    have hlt3 : ca < w3.heap.size := by have := hb3.size; omega
    clear hb3 HC2 HP2 HL2 HR2 q0 q1 q2 q3 hlt2
    have q0 := HR3.out.c0
    have q1 := HR3.out.c1
    have q2 := HR3.out.c2
    have q3 := HR3.out.c3
    cases he : routesZ i ns gs os xs with
    | none =>
      rw [he] at hx3
      obtain rfl : e = .returned (.tuple #[.slice none 0 0, .bool false]) := hx3
      have HE := Lib.hid he
      clear he
      go_upto_region 5 with fail
      go_wp2_with fail
      refine (sroute_any i nA gA oA pA nc gc oc l pc ns gs os xs _ HC3.out HP3.out HXL.out (by unfold maxLen; omega) hxc).mono ?_
      rintro e w4 ⟨hx4, hb4⟩
      rw [HE.out] at hx4
      obtain ⟨wA, wc, rfl⟩ := hx4
      have HL4 := Lib.hid (HL3.out.trans (hb4.mono HL3.out.size))
      clear hb4 HC3 HP3 HL3 HR3 q0 q1 q2 q3
      go_wp2_with fail
      refine (sameRo_any _ _ 0 _ _ [] _ (fun k hk => absurd hk (by simp)) (fun k hk => absurd hk (by simp)) rfl (by omega) (fun k hk => absurd hk (by omega))).mono ?_
      rintro e w5 ⟨rfl, hb5⟩
      have HL5 := Lib.hid (HL4.out.trans (hb5.mono HL4.out.size))
      clear hb5 HL4
      go_wp2_with (first
        | (go_at_call 10; refine (alive_any _).mono ?_; rintro e w8 ⟨rfl, hb8⟩))
      go_ret
      exact ⟨rfl, HL5.out.trans (hb8.mono HL5.out.size)⟩
    | some es =>
      rw [he] at hx3
      obtain ⟨gg, cg, HH, rfl, hG3, _⟩ := hx3
      have HG3 := Lib.hid hG3
      obtain ⟨hln, hcb⟩ := routesZ_bd he
      obtain ⟨_, BB, hok⟩ := routesZ_ok he
      have HUO := Lib.hid (rok_uok hok)
      have HE := Lib.hid he
      obtain ⟨n, hn2⟩ : ∃ n, es.length = n := ⟨_, rfl⟩
      rw [hn2] at hcb hln ⊢
      have HN := Lib.hid hn2
      have HCB : Hid (RoBd es n) := Lib.hid (fun k hk => by have := hcb k hk; omega)
      have HCB2 := Lib.hid hcb
      clear he hG3 hok hn2 hcb
      go_upto_region 5 with fail
      go_wp2_with fail
      refine (sroute_any i nA gA oA pA nc gc oc l pc ns gs os xs _ HC3.out HP3.out HXL.out (by unfold maxLen; omega) hxc).mono ?_
      rintro e w4 ⟨hx4, hb4⟩
      rw [HE.out] at hx4
      obtain ⟨gw, cw, WW, rfl, hx4⟩ := hx4
      rw [HN.out]
      have HW4 := Lib.hid hx4.read
      have HG4 := Lib.hid (HG3.out.on hb4)
      have HL4 := Lib.hid (HL3.out.trans (hb4.mono HL3.out.size))
      clear hb4 hx4 HC3 HP3 HL3 HR3 q0 q1 q2 q3 HG3
      go_wp2_with fail
      refine (sameRo_any _ _ n _ _ es _ HG4.out.read HW4.out HN.out (by omega) HCB.out).mono ?_
      rintro e w5 ⟨rfl, hb5⟩
      have HI5 := Lib.hid (HG4.out.on hb5).read
      have HL5 := Lib.hid (HL4.out.trans (hb5.mono HL4.out.size))
      clear hb5 HL4 HG4 HW4
      go_upto_region 10 with fail
      have HT0 := Lib.hid (TimesAt.made0 w5 w5.heap.size (Nat.le_refl _))
      have HX0 : Hid (Below w5.heap.size w5 (w5.alloc (.cells #[] 3))) := Lib.hid ((Below.refl _ _).alloc (Nat.le_refl _) _)
      have HU0 : Hid ((usedTo es 0 0).length = 0) := Lib.hid rfl
      have HT0' : Hid (TimesAt (w5.alloc (.cells #[] 3)) w5.heap.size (usedTo es 0 0) w5.heap.size 0) := HT0
      clear HT0
      go_upto_region 12 with fail
      generalize w5.alloc (.cells #[] 3) = w6 at *
      go_loopw [9, 10] (fun uv kv wr => ∃ (k g cap ul : Nat), k ≤ n ∧ kv = .int .i64 k ∧ uv = .slice (some ⟨g, 0, none⟩) ul cap ∧ Hid ((usedTo es k 0).length = ul) ∧ Hid (TimesAt wr w5.heap.size (usedTo es k 0) g cap) ∧ Hid (Below w5.heap.size w5 wr)) (fun _ kv _ => n - (intOf kv).toNat)
      case atStart => exact ⟨0, _, _, 0, Nat.zero_le _, rfl, rfl, HU0, HT0', HX0⟩
      case round =>
        clear HU0 HT0' HX0
        obtain ⟨k, g, cap, ul, hk, rfl, rfl, HU, HT, HX⟩ := hrel
        by_cases hlt : k < n
        · have hkl : k < es.length := by rw [HN.out]; exact hlt
          obtain ⟨b, off, hbo, hbl2, B1, c1, p0, p1, p2, hbA⟩ := HI5.out k hkl
          injection hbo with hbo
          injection hbo with y1 y2
          subst y1 y2
          rw [Nat.zero_add] at p0 p1 p2
          obtain ⟨u1, u2, u3⟩ := HCB2.out k hlt
          obtain ⟨ht8, busy, pp, hT⟩ := HUO.out.tr _ (memDRo hkl)
          have HHOP := Lib.hid (fun j hj => hT.hop (j := j) hj)
          have HSN := Lib.hid (fun j hj => usedTo_snoc (rs := es) (k := k) (j := j) hj)
          have HNX := Lib.hid (usedTo_next hkl)
          have HNE := Lib.hid (fun j hj => HUO.out.new (j := j) hkl hj)
          have HLE := Lib.hid (fun j => HUO.out.len (j := j) hkl)
          have HBA := Lib.hid hbA
          have hz := HX.out.size
          have hgb := HT.out.gb
          have hg2 := HI5.out
          have HP := Lib.hid (And.intro p1 p2)
          clear hbA p0 p1 p2 hT hg2
          generalize (es.getD k (0, 0, [])).2.2 = hs at *
          generalize (es.getD k (0, 0, [])).2.1 = t at *
          obtain ⟨m, hm⟩ : ∃ m, hs.length = m := ⟨_, rfl⟩
          rw [hm] at HP u3 HSN HNX HNE HHOP
          have HM := Lib.hid hm
          clear hm
          have hba : Below wr.heap.size wr (wr.alloc (.cells #[] 3)) := (Below.refl _ _).alloc (Nat.le_refl _) _
          have HT1 := Lib.hid (TimesAt.keep HT.out (hba.block g hgb.2))
          have HX1 := Lib.hid (HX.out.trans (hba.mono hz))
          have HS0 : Hid (TimesAt (wr.alloc (.cells #[] 3)) w5.heap.size ((tiles hs).take 0) wr.heap.size 0) := Lib.hid (TimesAt.made0 wr w5.heap.size hz)
          have hne0 : g ≠ wr.heap.size := by omega
          have hzr : wr.heap.size < (wr.alloc (.cells #[] 3)).heap.size := by simp
          clear hba HT HX
          go_upto_region 16 with fail
          generalize wr.alloc (.cells #[] 3) = w7 at *
          generalize wr.heap.size = h0 at *
          go_loopw [9, 11, 12] (fun uv tv jv wz => ∃ (j g cap h cp ul : Nat), j ≤ m ∧ jv = .int .i64 j ∧ uv = .slice (some ⟨g, 0, none⟩) ul cap ∧ tv = .slice (some ⟨h, 0, none⟩) j cp ∧ g ≠ h ∧ Hid ((usedTo es k j).length = ul) ∧ Hid (TimesAt wz w5.heap.size (usedTo es k j) g cap) ∧ Hid (TimesAt wz w5.heap.size ((tiles hs).take j) h cp) ∧ Hid (Below w5.heap.size w5 wz)) (fun _ _ jv _ => m - (intOf jv).toNat)
          case atStart => exact ⟨0, g, cap, _, _, ul, Nat.zero_le _, rfl, rfl, rfl, hne0, HU, HT1, HS0, HX1⟩
          case round =>
            clear HU HT1 HS0 HX1 hne0 hgb
            obtain ⟨j, g, cap, h, cp, ul, hj, rfl, rfl, rfl, hne, HU, HT, HS, HX⟩ := hrel
            have g1 := (HX.out.cell (p := ⟨gg, k * 3 + 1, none⟩) hbl2).trans HP.out.1
            have g2 := (HX.out.cell (p := ⟨gg, k * 3 + 2, none⟩) hbl2).trans HP.out.2
            by_cases hlt2 : j < m
            · obtain ⟨hv25, hnt, hcase⟩ := HHOP.out j hlt2
              obtain ⟨d, of1, rfl, hd, c0, c1'⟩ := HBA.out j (by rw [hpI_len, HM.out]; exact hlt2)
              rw [← HX.out.cell (by exact hd), hpI_at] at c0 c1'
              have hnu := HNE.out j hlt2
              have HSJ := Lib.hid (HSN.out j hlt2)
              have HTS := Lib.hid (Rt.tiles_snoc (hs := hs) (j := j) (by rw [HM.out]; exact hlt2))
              have hul : ul ≤ 200 := by have := HLE.out j; rw [HU.out] at this; exact this
              have HTL : Hid (((tiles hs).take j).length = j) := Lib.hid (by rw [List.length_take]; unfold tiles; rw [List.length_map, HM.out]; omega)
              generalize usedTo es k j = us at *
              generalize (tiles hs).take j = ts at *
              generalize (hs.getD j (0, 0)).1 = v at *
              generalize (hs.getD j (0, 0)).2 = x at *
              have HNU := Lib.hid hnu
              have HNT := Lib.hid hnt
              have hz := HX.out.size
              have hgb := HT.out.gb
              have hsb := HS.out.gb
              have hba : Below wr.heap.size wr (wr.alloc (.cells #[.int .i64 (v : Int), .int .i64 x] 38)) := (Below.refl _ _).alloc (Nat.le_refl _) _
              have HR8 : Hid (Row (wr.alloc (.cells #[.int .i64 (v : Int), .int .i64 x] 38)) wr.heap.size 38 #[.int .i64 (v : Int), .int .i64 x]) := Lib.hid (heap_alloc_new wr _)
              have HT8 := Lib.hid (TimesAt.keep HT.out (hba.block g hgb.2))
              have HS8 := Lib.hid (TimesAt.keep HS.out (hba.block h hsb.2))
              have HX8 := Lib.hid (HX.out.trans (hba.mono hz))
              clear hba hnu hnt
              go_upto_region 19 with fail
              generalize wr.alloc (.cells #[.int .i64 (v : Int), .int .i64 x] 38) = w8 at *
              generalize wr.heap.size = bx at *
              have b0 := HR8.out.cell 0
              have b1 := HR8.out.cell 1
              simp at b0 b1
              have g1 := (HX8.out.cell (p := ⟨gg, k * 3 + 1, none⟩) hbl2).trans HP.out.1
              have hb8 := HR8.out.lt
              have hvt : (v : Int) * 8 + (t : Int) = ((v * 8 + t : Nat) : Int) := by omega
              have HVT := Lib.hid hvt
              clear HT HS HX g2 c0 c1' hvt
              rcases hcase with ⟨hj0, rfl⟩ | ⟨hj0, u, rfl, hu25, hcu, hnb⟩
              · subst hj0
                have HA1 := Lib.hid (fun q => lawHas_v (some ⟨h, 0, none⟩) 0 cp w8.heap.size ts v false HNT.out (w8.drewN q) (TimesAt.ints (w := w8.drewN q) (HS8.out.keep rfl)) HTL.out (by omega))
                have HA2 : Hid (∀ q, Calls Tryz.prog 11 #[.slice (some ⟨g, 0, none⟩) ul cap, .int .i64 ((v : Int) * 8 + (t : Int))] (w8.drewN q) fun e w' => e = .returned (.bool false) ∧ w' = w8.drewN q) := Lib.hid (fun q => by rw [HVT.out]; exact lawHas_v (some ⟨g, 0, none⟩) ul cap w8.heap.size us (v * 8 + t) false HNU.out (w8.drewN q) (TimesAt.ints (w := w8.drewN q) (HT8.out.keep rfl)) HU.out (by omega))
                go_quiet (first
                  | (go_at_call 11; with_reducible exact Calls.quiet_of_same (HA1.out _))
                  | (go_at_call 11; with_reducible exact Calls.quiet_of_same (HA2.out _)))
                have HT9 : Hid (TimesAt (w8.drewN nq) w5.heap.size us g cap) := Lib.hid (HT8.out.keep rfl)
                have HS9 : Hid (TimesAt (w8.drewN nq) w5.heap.size ts h cp) := Lib.hid (HS8.out.keep rfl)
                have HX9 : Hid (Below w5.heap.size w5 (w8.drewN nq)) := Lib.hid (HX8.out.trans ((below_drewN _ _).mono HX8.out.size))
                have HR9 : Hid (Row (w8.drewN nq) bx 38 #[.int .i64 (v : Int), .int .i64 (-1)]) := Lib.hid HR8.out
                have hz9 : w8.heap.size ≤ (w8.drewN nq).heap.size := Nat.le_refl _
                clear HT8 HS8 HX8 HR8 b0 b1 g1 HA1 HA2
                generalize w8.drewN nq = w9 at *
                have b0 := HR9.out.cell 0
                have b1 := HR9.out.cell 1
                simp at b0 b1
                go_upto_region 26 with fail
                go_wp2_with (at_builtin; refine wpList_pushT rfl (.tmp 135) (.tmp 138) rfl _ w5.heap.size h cp 0 ts rfl HTL.out HS9.out (by omega) v _ rfl rfl ?_)
                intro h' cp' w10 hS10 hb10 hk10 hh10
                have hgx := HR9.out.lt
                have hgb9 := HT9.out.gb
                have hsb9 := HS9.out.gb
                have hz59 := HX9.out.size
                have HS10 := Lib.hid hS10
                have HT10 := Lib.hid (TimesAt.keep HT9.out (hk10 g hgb9.2 hne))
                have HX10 := Lib.hid (HX9.out.trans hb10)
                have HR10 : Hid (Row w10 bx 38 _) := Lib.hid ((hk10 bx hgx (by omega)).trans HR9.out)
                have hne10 : g ≠ h' := by omega
                have hbx10 : bx < w10.heap.size := by have := hb10.size; omega
                have hgx10 : bx ≠ g := by omega
                clear hS10 hb10 hk10 hh10 HS9 HT9 HX9 HR9 b0 b1 hgb9 hsb9
                have b0 := HR10.out.cell 0
                simp at b0
                have g1 := (HX10.out.cell (p := ⟨gg, k * 3 + 1, none⟩) hbl2).trans HP.out.1
                go_upto_region 27 with fail
                have hvt2 : IntKind.i64.wrap ((v : Int) * 8) = (v : Int) * 8 := IntWalk.i64_in _ (by omega)
                have hvt3 : IntKind.i64.wrap ((v : Int) * 8 + (t : Int)) = (v : Int) * 8 + (t : Int) := IntWalk.i64_in _ (by omega)
                have hgg10 : gg < w10.heap.size := by have := HX10.out.size; omega
                have hgg11 : gg ≠ g := by have := HT10.out.gb; omega
                go_region_held3 (fun w' => w'.cell? ⟨bx, 0, none⟩ = some (.int .i64 (v : Int)) ∧ w'.cell? ⟨gg, k * 3 + 1, none⟩ = some (.int .i64 (t : Int)))
                  (first | (with_reducible assumption) | go_keep)
                  ((refine step_pushT (by rfl) (.tmp 140) (.tmp 150) (by rfl) _ w5.heap.size g cap ul us (by rfl) HU.out (TimesAt.keep (w' := w10.drew) HT10.out rfl) (by omega) (v * 8 + t) _ HVT.out (by rfl) ?_; intro g' cap' w11 hT11 hb11 hk11 hh11; have hS11 : w11.cell? ⟨bx, 0, none⟩ = some (.int .i64 (v : Int)) ∧ w11.cell? ⟨gg, k * 3 + 1, none⟩ = some (.int .i64 (t : Int)) := ⟨(World.cell?_of_block (a := ⟨bx, 0, none⟩) (hk11 bx hbx10 hgx10)).trans b0, (World.cell?_of_block (a := ⟨gg, k * 3 + 1, none⟩) (hk11 gg hgg10 hgg11)).trans g1⟩))
                rename_i _hheld
                clear _hheld
                have hsb10 := HS10.out.gb
                have HT12 : Hid (TimesAt w11 w5.heap.size (usedTo es k (0 + 1)) g' cap') := Lib.hid (by rw [HSJ.out]; exact hT11)
                have HS12 : Hid (TimesAt w11 w5.heap.size ((tiles hs).take (0 + 1)) h' cp') := Lib.hid (by rw [HTS.out]; exact TimesAt.keep HS10.out (hk11 h' hsb10.2 (by omega)))
                have HU12 : Hid ((usedTo es k (0 + 1)).length = ul + 1) := Lib.hid (by rw [HSJ.out, List.length_append, HU.out]; rfl)
                have HX12 := Lib.hid (HX10.out.drew.trans hb11)
                have hne12 : g' ≠ h' := by
                  have : w10.drew.heap.size = w10.heap.size := rfl
                  omega
                clear hT11 hb11 hk11 HS10 HT10 HX10 HR10 b0 g1
                go_wp2
                go_roundw
                case rel => exact ⟨0 + 1, g', cap', h', cp', ul + 1, by omega, by go_num, rfl, rfl, hne12, HU12, HT12, HS12, HX12⟩
                case measure => simp [intOf]; omega
              · have z1 : ((j : Int) == 0) = false := by simp; omega
                have z2 : (j == 0) = false := by simp; omega
                have z3 : decide ((j : Int) = 0) = false := by simp; omega
                have z4 : decide (j = 0) = false := by simp; omega
                have z5 : ((u : Int) == -1) = false := by simp
                have z6 : decide ((u : Int) = -1) = false := by simp
                have HA1 := Lib.hid (fun q => lawHas_v (some ⟨h, 0, none⟩) j cp w8.heap.size ts v false HNT.out (w8.drewN q) (TimesAt.ints (w := w8.drewN q) (HS8.out.keep rfl)) HTL.out (by omega))
                have HA2 : Hid (∀ q, Calls Tryz.prog 11 #[.slice (some ⟨g, 0, none⟩) ul cap, .int .i64 ((v : Int) * 8 + (t : Int))] (w8.drewN q) fun e w' => e = .returned (.bool false) ∧ w' = w8.drewN q) := Lib.hid (fun q => by rw [HVT.out]; exact lawHas_v (some ⟨g, 0, none⟩) ul cap w8.heap.size us (v * 8 + t) false HNU.out (w8.drewN q) (TimesAt.ints (w := w8.drewN q) (HT8.out.keep rfl)) HU.out (by omega))
                go_quiet (first
                  | (go_at_call 11; with_reducible exact Calls.quiet_of_same (HA1.out _))
                  | (go_at_call 11; with_reducible exact Calls.quiet_of_same (HA2.out _)))
                have HT9 : Hid (TimesAt (w8.drewN nq) w5.heap.size us g cap) := Lib.hid (HT8.out.keep rfl)
                have HS9 : Hid (TimesAt (w8.drewN nq) w5.heap.size ts h cp) := Lib.hid (HS8.out.keep rfl)
                have HX9 : Hid (Below w5.heap.size w5 (w8.drewN nq)) := Lib.hid (HX8.out.trans ((below_drewN _ _).mono HX8.out.size))
                have HR9 : Hid (Row (w8.drewN nq) bx 38 #[.int .i64 (v : Int), .int .i64 (u : Int)]) := Lib.hid HR8.out
                have hz9 : w8.heap.size ≤ (w8.drewN nq).heap.size := Nat.le_refl _
                clear HT8 HS8 HX8 HR8 b0 b1 g1 HA1 HA2
                generalize w8.drewN nq = w9 at *
                have b0 := HR9.out.cell 0
                have b1 := HR9.out.cell 1
                simp at b0 b1
                have N1 := nbrs_one hnb
                obtain ⟨vr, hvr⟩ : ∃ r, v / 5 = r := ⟨_, rfl⟩
                obtain ⟨vc, hvc⟩ : ∃ r, v % 5 = r := ⟨_, rfl⟩
                obtain ⟨ur, hur⟩ : ∃ r, u / 5 = r := ⟨_, rfl⟩
                obtain ⟨uc, huc⟩ : ∃ r, u % 5 = r := ⟨_, rfl⟩
                rw [hvr, hvc, hur, huc] at N1
                have y1 : (v : Int) / 5 = (vr : Int) := by omega
                have y2 : (v : Int).tdiv 5 = (vr : Int) := by rw [Int.tdiv_eq_ediv_of_nonneg (by omega)]; omega
                have y3 : (v : Int) % 5 = (vc : Int) := by omega
                have y4 : (v : Int).tmod 5 = (vc : Int) := by rw [Int.tmod_eq_emod_of_nonneg (by omega)]; omega
                have y5 : (u : Int) / 5 = (ur : Int) := by omega
                have y6 : (u : Int).tdiv 5 = (ur : Int) := by rw [Int.tdiv_eq_ediv_of_nonneg (by omega)]; omega
                have y7 : (u : Int) % 5 = (uc : Int) := by omega
                have y8 : (u : Int).tmod 5 = (uc : Int) := by rw [Int.tmod_eq_emod_of_nonneg (by omega)]; omega
                have n1 : vr ≤ 4 := by omega
                have n2 : vc ≤ 4 := by omega
                have n3 : ur ≤ 4 := by omega
                have n4 : uc ≤ 4 := by omega
                clear hvr hvc hur huc
                obtain ⟨dr, hdr⟩ : ∃ d : Int, (vr : Int) - (ur : Int) = d := ⟨_, rfl⟩
                obtain ⟨dc, hdc⟩ : ∃ d : Int, (vc : Int) - (uc : Int) = d := ⟨_, rfl⟩
                have n5 : -4 ≤ dr ∧ dr ≤ 4 := by omega
                have n6 : -4 ≤ dc ∧ dc ≤ 4 := by omega
                rw [hdr, hdc] at N1
                obtain ⟨pr, hpr⟩ : ∃ d : Int, dr * dr = d := ⟨_, rfl⟩
                obtain ⟨pq, hpq⟩ : ∃ d : Int, dc * dc = d := ⟨_, rfl⟩
                have n7 : 0 ≤ pr := by rw [← hpr]; exact mul_self_nn dr
                have n8 : 0 ≤ pq := by rw [← hpq]; exact mul_self_nn dc
                rw [hpr, hpq] at N1
                have HCU := Lib.hid hcu
                have hjp : (0 : Int) < (j : Int) := by omega
                clear hcu hnb hj0 z1 z2 z3 z4 z5 z6
                go_upto_region 26 with (go_at_call 11; refine (lawHas_any (some ⟨h, 0, none⟩) j cp _ ts u _ (TimesAt.ints HS9.out) HTL.out (by omega)).mono ?_; rintro e wv ⟨rfl, hwv⟩; obtain rfl := hwv; rw [HCU.out])
                clear y1 y2 y3 y4 y5 y6 y7 y8 N1 hdr hdc hpr hpq n1 n2 n3 n4 n5 n6 n7 n8
                go_wp2_with (at_builtin; refine wpList_pushT rfl (.tmp 135) (.tmp 138) rfl _ w5.heap.size h cp j ts rfl HTL.out HS9.out (by omega) v _ rfl rfl ?_)
                intro h' cp' w10 hS10 hb10 hk10 hh10
                have hgx := HR9.out.lt
                have hgb9 := HT9.out.gb
                have hsb9 := HS9.out.gb
                have hz59 := HX9.out.size
                have HS10 := Lib.hid hS10
                have HT10 := Lib.hid (TimesAt.keep HT9.out (hk10 g hgb9.2 hne))
                have HX10 := Lib.hid (HX9.out.trans hb10)
                have HR10 : Hid (Row w10 bx 38 _) := Lib.hid ((hk10 bx hgx (by omega)).trans HR9.out)
                have hne10 : g ≠ h' := by omega
                have hbx10 : bx < w10.heap.size := by have := hb10.size; omega
                have hgx10 : bx ≠ g := by omega
                clear hS10 hb10 hk10 hh10 HS9 HT9 HX9 HR9 b0 b1 hgb9 hsb9
                have b0 := HR10.out.cell 0
                simp at b0
                have g1 := (HX10.out.cell (p := ⟨gg, k * 3 + 1, none⟩) hbl2).trans HP.out.1
                go_upto_region 27 with fail
                have hvt2 : IntKind.i64.wrap ((v : Int) * 8) = (v : Int) * 8 := IntWalk.i64_in _ (by omega)
                have hvt3 : IntKind.i64.wrap ((v : Int) * 8 + (t : Int)) = (v : Int) * 8 + (t : Int) := IntWalk.i64_in _ (by omega)
                have hgg10 : gg < w10.heap.size := by have := HX10.out.size; omega
                have hgg11 : gg ≠ g := by have := HT10.out.gb; omega
                go_region_held3 (fun w' => w'.cell? ⟨bx, 0, none⟩ = some (.int .i64 (v : Int)) ∧ w'.cell? ⟨gg, k * 3 + 1, none⟩ = some (.int .i64 (t : Int)))
                  (first | (with_reducible assumption) | go_keep)
                  ((refine step_pushT (by rfl) (.tmp 140) (.tmp 150) (by rfl) _ w5.heap.size g cap ul us (by rfl) HU.out (TimesAt.keep (w' := w10.drew) HT10.out rfl) (by omega) (v * 8 + t) _ HVT.out (by rfl) ?_; intro g' cap' w11 hT11 hb11 hk11 hh11; have hS11 : w11.cell? ⟨bx, 0, none⟩ = some (.int .i64 (v : Int)) ∧ w11.cell? ⟨gg, k * 3 + 1, none⟩ = some (.int .i64 (t : Int)) := ⟨(World.cell?_of_block (a := ⟨bx, 0, none⟩) (hk11 bx hbx10 hgx10)).trans b0, (World.cell?_of_block (a := ⟨gg, k * 3 + 1, none⟩) (hk11 gg hgg10 hgg11)).trans g1⟩))
                rename_i _hheld
                clear _hheld
                have hsb10 := HS10.out.gb
                have HT12 : Hid (TimesAt w11 w5.heap.size (usedTo es k (j + 1)) g' cap') := Lib.hid (by rw [HSJ.out]; exact hT11)
                have HS12 : Hid (TimesAt w11 w5.heap.size ((tiles hs).take (j + 1)) h' cp') := Lib.hid (by rw [HTS.out]; exact TimesAt.keep HS10.out (hk11 h' hsb10.2 (by omega)))
                have HU12 : Hid ((usedTo es k (j + 1)).length = ul + 1) := Lib.hid (by rw [HSJ.out, List.length_append, HU.out]; rfl)
                have HX12 := Lib.hid (HX10.out.drew.trans hb11)
                have hne12 : g' ≠ h' := by
                  have : w10.drew.heap.size = w10.heap.size := rfl
                  omega
                clear hT11 hb11 hk11 HS10 HT10 HX10 HR10 b0 g1
                go_wp2
                go_roundw
                case rel => exact ⟨j + 1, g', cap', h', cp', ul + 1, by omega, by go_num, rfl, rfl, hne12, HU12, HT12, HS12, HX12⟩
                case measure => simp [intOf]; omega
            · obtain rfl : j = m := by omega
              rw [HNX.out] at HU HT
              go_wp2
              go_roundw
              case rel => exact ⟨k + 1, g, cap, ul, by omega, by go_num, rfl, HU, HT, HX⟩
              case measure => simp [intOf]; omega
        · obtain rfl : k = n := by omega
          go_wp2
          go_ret
          exact ⟨rfl, HL5.out.trans (HX.out.mono HL5.out.size)⟩
end Go.Proofs.YtliedgaefgomjaaGreat
