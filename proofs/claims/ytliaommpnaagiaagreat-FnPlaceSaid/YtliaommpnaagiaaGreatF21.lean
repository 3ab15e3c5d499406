/- The draw and the walk of the law FnPlace. -/
import Derived.Test.YtliaommpnaagiaaGreatPU
namespace Go.Proofs.YtliaommpnaagiaaGreat
open Go.RowKit Go.Deep Cut Plc
set_option maxRecDepth 100000

set_option maxHeartbeats 400000 in
theorem drawPlace_any (A : Option Addr) (bl bc : Nat) (w : World) (hb : CodeAt w A bl) (hbl : bl ≤ bc) (hbc : bc ≤ maxLen) : Calls Tryz.prog 13 #[.slice A bl bc] w (DrawOut w) := by
  have hc0 : CodeAt (w.alloc (.cells #[.int .i64 0, .slice none 0 0, .slice none 0 0, .slice none 0 0] 26)) A bl := fun k hk => by
    obtain ⟨b, off, z, e, hlt, hc, h0, h1⟩ := hb k hk
    exact ⟨b, off, z, e, by simp; omega, (World.cell?_alloc_lt w _ ⟨b, off + k, none⟩ hlt).trans hc, h0, h1⟩
  have HC0 := Lib.hid hc0
  have HL0 := Lib.hid (show Below w.heap.size w (w.alloc (.cells #[.int .i64 0, .slice none 0 0, .slice none 0 0, .slice none 0 0] 26)) from (Below.refl _ _).alloc (Nat.le_refl _) _)
  have HD0 := Lib.hid (show Row (w.alloc (.cells #[.int .i64 0, .slice none 0 0, .slice none 0 0, .slice none 0 0] 26)) w.heap.size 26 #[.int .i64 0, .slice none 0 0, .slice none 0 0, .slice none 0 0] from heap_alloc_new w _)
  have HBC := Lib.hid hbc
  clear hb hc0 hbc
  go_enter Tryz.func13, Tryz.ntmps13
  go_wp2_with fail
  refine (open_any A bl bc _ HC0.out hbl HBC.out).mono ?_
  rintro e w1 ⟨R, bA, bl', bc', rfl, hbl', hR, hrow, hby, hbel⟩
  have hR' : w.heap.size < R := by simp at hR; omega
  have HD1 := Lib.hid (HD0.out.below hbel HD0.out.lt)
  have HL1 := Lib.hid (HL0.out.trans (hbel.mono HL0.out.size))
  have HRW := Lib.hid hrow
  have HBY := Lib.hid hby
  clear hrow hby hbel HD0 HL0 HC0 hR
  go_wp2_with fail
  refine (circuit_any R bA bl' bc' 0 9 _ HRW.out HBY.out hbl' (by omega) (by omega) (by omega) (by omega)).mono ?_
  rintro e w2 ⟨i, nA, gA, oA, nc, gc, oc, ns, gs, os, p', rfl, hC, hn, hg, ho, hi0, hi1, _, _, _, hgr, f1, f2, f3, hcap⟩
  have HD2 := Lib.hid (HD1.out.grown hgr (by intro x; injection x; omega))
  have HL2 := Lib.hid (below_grown HL1.out hgr (Nat.le_of_lt hR'))
  have hDl : w.heap.size < w1.heap.size := HD1.out.lt
  have HC2 := Lib.hid hC
  have HF := Lib.hid (And.intro f1 (And.intro f2 f3))
  clear hC hgr f1 f2 f3 HD1 HL1 HRW HBY
  have t0 := HD2.out.cell 0
  have t1 := HD2.out.cell 1
  have t2 := HD2.out.cell 2
  have t3 := HD2.out.cell 3
  have f0 := HD2.out.frozen 0
  have f1 := HD2.out.frozen 1
  have f2 := HD2.out.frozen 2
  have f3 := HD2.out.frozen 3
  simp at t0 t1 t2 t3
  go_wp2
  obtain ⟨g1, g2, g3⟩ := HF.out
  refine bodyPost_ret (v := .agg #[.int .i64 i, .slice nA ns.length nc, .slice gA gs.length gc, .slice oA os.length oc]) (by simp [results, Tryz.results13, go_sem, t0, t1, t2, t3]) rfl ⟨i, nA, gA, oA, nc, gc, oc, ns, gs, os, rfl, ?_, hn, hg, ho, hcap, ?_⟩
  · exact (((HC2.out.farF 0 _ hDl g1 g2 g3).farF 1 _ hDl g1 g2 g3).farF 2 _ hDl g1 g2 g3).farF 3 _ hDl g1 g2 g3
  · exact (((HL2.out.setCell (p := ⟨w.heap.size, 0, none⟩) (Nat.le_refl _) _).setCell (p := ⟨w.heap.size, 1, none⟩) (Nat.le_refl _) _).setCell (p := ⟨w.heap.size, 2, none⟩) (Nat.le_refl _) _).setCell (p := ⟨w.heap.size, 3, none⟩) (Nat.le_refl _) _

theorem iplace_v (i : Int) (nA gA oA : Option Addr) (nc gc oc : Nat) (ns : List Int) (gs : List (Int × Int)) (os : List Int) (w : World) (hc : CircAt w w.heap.size nA gA oA ns gs os) (hgc : gs.length ≤ gc) :
    Calls Tryz.prog 14 #[.agg #[.int .i64 i, .slice nA ns.length nc, .slice gA gs.length gc, .slice oA os.length oc]] w fun e w' => ∃ (A : Option Addr) (cap : Nat), e = .returned (.slice A (placeV i ns gs os).length cap) ∧ IntsAt w' w'.heap.size A (Opt.intL (placeV i ns gs os)) ∧ Below w.heap.size w w' := by
  cases hv : Circ.validB i ns gs os
  · refine (iplace_f i nA gA oA nc gc oc ns gs os w hv hc).mono ?_
    rintro e w' ⟨⟨A, cap, rfl⟩, hb⟩
    have e : placeV i ns gs os = [] := by unfold placeV; rw [if_neg (by rw [hv]; simp)]
    rw [e]
    exact ⟨A, cap, rfl, fun k hk => absurd hk (by simp [Opt.intL]), hb⟩
  · refine (iplace_t i nA gA oA nc gc oc ns gs os w hv hc hgc).mono ?_
    rintro e w' ⟨g, cap, rfl, hu, hb⟩
    exact ⟨some ⟨g, 0, none⟩, cap, rfl, hu.ints, hb⟩
theorem splace_v (i : Int) (nA gA oA : Option Addr) (nc gc oc : Nat) (ns : List Int) (gs : List (Int × Int)) (os : List Int) (w : World) (hc : CircAt w w.heap.size nA gA oA ns gs os) :
    Calls Tryz.prog 16 #[.agg #[.int .i64 i, .slice nA ns.length nc, .slice gA gs.length gc, .slice oA os.length oc]] w fun e w' => ∃ (A : Option Addr) (cap : Nat), e = .returned (.slice A (placeV i ns gs os).length cap) ∧ IntsAt w' w'.heap.size A (Opt.intL (placeV i ns gs os)) ∧ Below w.heap.size w w' := by
  cases hv : Circ.validB i ns gs os
  · refine (splace_f i nA gA oA nc gc oc ns gs os w hv hc).mono ?_
    rintro e w' ⟨⟨A, cap, rfl⟩, hb⟩
    have e : placeV i ns gs os = [] := by unfold placeV; rw [if_neg (by rw [hv]; simp)]
    rw [e]
    exact ⟨A, cap, rfl, fun k hk => absurd hk (by simp [Opt.intL]), hb⟩
  · refine (splace_t i nA gA oA nc gc oc ns gs os w hv hc).mono ?_
    rintro e w' ⟨g, cap, rfl, hu, hb⟩
    exact ⟨some ⟨g, 0, none⟩, cap, rfl, hu.ints, hb⟩
theorem natL_intL (p : List Nat) : Opt.natL (Opt.intL p) = p := by
  unfold Opt.natL Opt.intL
  rw [List.map_map]
  exact (List.map_congr_left (fun x _ => Int.toNat_natCast x)).trans (List.map_id p)
theorem placeB_pl {i : Int} {ns : List Int} {gs : List (Int × Int)} {os : List Int} (hv : Circ.validB i ns gs os = true) {p : List Nat} (hp : Pl (cellsV i ns gs os).length p) : placeB i ns gs os (Opt.intL p) = true := by
  unfold placeB
  rw [hv, hp.ok]
  rfl
theorem wireZ_pl {i : Int} {ns : List Int} {gs : List (Int × Int)} {os : List Int} (hv : Circ.validB i ns gs os = true) {p : List Nat} (hp : Pl (cellsV i ns gs os).length p) : wireZ i ns gs os (Opt.intL p) = (costV i ns gs os p : Int) := by
  unfold wireZ
  rw [if_pos (placeB_pl hv hp), natL_intL]

theorem c4_on {w w' : World} {cc : Nat} {a0 a1 a2 a3 : Value} (hb : Below w.heap.size w w') (h : w.cell? ⟨cc, 0, none⟩ = some a0 ∧ w.cell? ⟨cc, 1, none⟩ = some a1 ∧ w.cell? ⟨cc, 2, none⟩ = some a2 ∧ w.cell? ⟨cc, 3, none⟩ = some a3) : w'.cell? ⟨cc, 0, none⟩ = some a0 ∧ w'.cell? ⟨cc, 1, none⟩ = some a1 ∧ w'.cell? ⟨cc, 2, none⟩ = some a2 ∧ w'.cell? ⟨cc, 3, none⟩ = some a3 := by
  have k : ∀ (a : Addr) (u : Value), w.cell? a = some u → w'.cell? a = some u := fun a u h => (hb.cell (World.block_lt_of_cell? w a h)).trans h
  exact ⟨k _ _ h.1, k _ _ h.2.1, k _ _ h.2.2.1, k _ _ h.2.2.2⟩
theorem ivalidP_val (i : Int) (nA gA oA A : Option Addr) (nc gc oc pl pc : Nat) (ns : List Int) (gs : List (Int × Int)) (os p : List Int) (v : Bool) (w : World) (hv : placeB i ns gs os p = v) (hc : CircAt w w.heap.size nA gA oA ns gs os) (hgc : gs.length ≤ gc) (hp : IntsAt w w.heap.size A p) (hpl : p.length = pl) (hpm : pl ≤ 1000) :
    Calls Tryz.prog 18 #[.agg #[.int .i64 i, .slice nA ns.length nc, .slice gA gs.length gc, .slice oA os.length oc], .slice A pl pc] w fun e w' => e = .returned (.bool v) ∧ Below w.heap.size w w' := by
  subst hv
  exact ivalidP_any i nA gA oA A nc gc oc pl pc ns gs os p w hc hgc hp hpl (by unfold maxLen; omega)
theorem iwire_val (i : Int) (nA gA oA A : Option Addr) (nc gc oc pl pc : Nat) (ns : List Int) (gs : List (Int × Int)) (os p : List Int) (v : Int) (w : World) (hv : wireZ i ns gs os p = v) (hc : CircAt w w.heap.size nA gA oA ns gs os) (hgc : gs.length ≤ gc) (hp : IntsAt w w.heap.size A p) (hpl : p.length = pl) (hpm : pl ≤ 1000) :
    Calls Tryz.prog 8 #[.agg #[.int .i64 i, .slice nA ns.length nc, .slice gA gs.length gc, .slice oA os.length oc], .slice A pl pc] w fun e w' => e = .returned (.int .i64 v) ∧ Below w.heap.size w w' := by
  subst hv
  exact iwire_any i nA gA oA A nc gc oc pl pc ns gs os p w hc hgc hp hpl (by unfold maxLen; omega)

set_option maxHeartbeats 4000000 in
theorem fplace_walk (A : Option Addr) (bl bc : Nat) (w : World) (hb : CodeAt w A bl) (hbl : bl ≤ bc) (hbc : bc ≤ maxLen) :
    Calls Tryz.prog 4 #[.slice A bl bc] w fun e w' => e = .returned (.bool true) ∧ Below w.heap.size w w' := by
  have HB := Lib.hid hb
  have HBC := Lib.hid hbc
  unfold maxLen at hbc
  clear hb
  by_cases hsz : 1048576 < bl
  · go_enter Tryz.func4, Tryz.ntmps4
    go_wp2
    go_ret
    exact ⟨rfl, Below.refl _ _⟩
  · go_enter Tryz.func4, Tryz.ntmps4
    go_wp2_with fail
    refine (drawPlace_any A bl bc _ HB.out hbl HBC.out).mono ?_
    rintro e w1 ⟨i, nA, gA, oA, nc, gc, oc, ns, gs, os, rfl, hC1, hn, hg, ho, hcap, hb1⟩
    have hbB : Below w1.heap.size w1 (w1.alloc (.cells #[.int .i64 i, .slice nA ns.length nc, .slice gA gs.length gc, .slice oA os.length oc] 26)) := (Below.refl _ _).alloc (Nat.le_refl _) _
    have HC2 := Lib.hid ((hC1.below hbB).mono hbB.size)
    have HL2 := Lib.hid (hb1.trans (hbB.mono hb1.size))
    have HR2 := Lib.hid (Boxed.new w1 i nA gA oA ns.length nc gs.length gc os.length oc 26)
    have hlt2 : w1.heap.size < (w1.alloc (.cells #[.int .i64 i, .slice nA ns.length nc, .slice gA gs.length gc, .slice oA os.length oc] 26)).heap.size := by simp
    clear hC1 hb1 hbB HB HBC hbc
    go_upto_region 4 with fail
    generalize w1.alloc (.cells #[.int .i64 i, .slice nA ns.length nc, .slice gA gs.length gc, .slice oA os.length oc] 26) = w2 at *
    generalize w1.heap.size = ca at *
    have q0 := HR2.out.c0
    have q1 := HR2.out.c1
    have q2 := HR2.out.c2
    have q3 := HR2.out.c3
    go_wp2_with fail
    refine (iplace_v i nA gA oA nc gc oc ns gs os _ HC2.out hcap).mono ?_
    rintro e w3 ⟨A1, c1, rfl, hx3, hb3⟩
    have hfin : Circ.validB i ns gs os = true → Pl (cellsV i ns gs os).length (placeV i ns gs os) ∧ costV i ns gs os (placeV i ns gs os) ≤ costV i ns gs os (List.range (cellsV i ns gs os).length) := fun h => placeV_ok h
    have hnil : Circ.validB i ns gs os = false → placeV i ns gs os = [] := fun h => by unfold placeV; rw [if_neg (by rw [h]; simp)]
    obtain ⟨pv, hpv⟩ : ∃ pv, placeV i ns gs os = pv := ⟨_, rfl⟩
    rw [hpv] at hx3 hfin hnil ⊢
    obtain ⟨l, hl'⟩ : ∃ l, pv.length = l := ⟨_, rfl⟩
    rw [hl']
    have hl25 : l ≤ 17 := by
      cases hv : Circ.validB i ns gs os
      · rw [← hl', hnil hv]; simp
      · rw [← hl', (hfin hv).1.len]
        exact (netOk_of hv).n17
    have HPV := Lib.hid hpv
    have HSL := Lib.hid hl'
    have HFIN := Lib.hid hfin
    have HNIL := Lib.hid hnil
    have HX3 := Lib.hid hx3
    have HC3 := Lib.hid ((HC2.out.below hb3).mono hb3.size)
    have HL3 := Lib.hid (HL2.out.trans (hb3.mono HL2.out.size))
    have HR3 := Lib.hid (HR2.out.below hb3 hlt2)
    have hlt3 : ca < w3.heap.size := by have := hb3.size; omega
    clear hx3 hl' hpv hfin hnil hb3 HC2 HL2 HR2 q0 q1 q2 q3 hlt2
    have q0 := HR3.out.c0
    have q1 := HR3.out.c1
    have q2 := HR3.out.c2
    have q3 := HR3.out.c3
    go_upto_region 5 with fail
    go_wp2_with fail
    refine (splace_v i nA gA oA nc gc oc ns gs os _ HC3.out).mono ?_
    rintro e w4 ⟨A2, c2, rfl, hy4, hb4⟩
    rw [HPV.out] at hy4
    rw [HPV.out, HSL.out]
    have HY4 := Lib.hid hy4
    have HX4 := Lib.hid ((HX3.out.below hb4).mono hb4.size)
    have HC4 := Lib.hid ((HC3.out.below hb4).mono hb4.size)
    have HL4 := Lib.hid (HL3.out.trans (hb4.mono HL3.out.size))
    have HR4 := Lib.hid (HR3.out.below hb4 hlt3)
    have hlt4 : ca < w4.heap.size := by have := hb4.size; omega
    clear hy4 hb4 HX3 HC3 HL3 HR3 q0 q1 q2 q3 hlt3
    go_wp2_with fail
    refine (sameI_ln A1 A2 l l c1 c2 (Opt.intL pv) _ (by rw [Opt.intL_len]; exact HSL.out) (by rw [Opt.intL_len]; exact HSL.out) HX4.out HY4.out (by omega)).mono ?_
    rintro e w5 ⟨rfl, hb5⟩
    have HX5 := Lib.hid ((HX4.out.below hb5).mono hb5.size)
    have HC5 := Lib.hid ((HC4.out.below hb5).mono hb5.size)
    have HL5 := Lib.hid (HL4.out.trans (hb5.mono HL4.out.size))
    have HR5 := Lib.hid (HR4.out.below hb5 hlt4)
    have hlt5 : ca < w5.heap.size := by have := hb5.size; omega
    clear hb5 HX4 HC4 HL4 HR4 HY4 hlt4
    have q0 := HR5.out.c0
    have q1 := HR5.out.c1
    have q2 := HR5.out.c2
    have q3 := HR5.out.c3
    go_upto_region 7 with fail
    go_wp2_with fail
    refine (svalid_any i nA gA oA nc gc oc ns gs os _ HC5.out).mono ?_
    rintro e w6 ⟨rfl, hb6⟩
    have HX6 := Lib.hid ((HX5.out.below hb6).mono hb6.size)
    have HC6 := Lib.hid ((HC5.out.below hb6).mono hb6.size)
    have HL6 := Lib.hid (HL5.out.trans (hb6.mono HL5.out.size))
    have HR6 := Lib.hid (HR5.out.below hb6 hlt5)
    have hlt6 : ca < w6.heap.size := by have := hb6.size; omega
    clear hb6 HX5 HC5 HL5 HR5 q0 q1 q2 q3 hlt5
    cases hv : Circ.validB i ns gs os
    · obtain rfl : l = 0 := by rw [← HSL.out, HNIL.out hv]; rfl
      clear hv
      go_wp2_with (first
        | (go_at_call 11; refine (alive_any _).mono ?_; rintro e w8 ⟨rfl, hb8⟩))
      go_ret
      exact ⟨rfl, HL6.out.trans (hb8.mono HL6.out.size)⟩
    · obtain ⟨hpl, hco⟩ := HFIN.out hv
      have hst := start_ok (show (cellsV i ns gs os).length ≤ 25 by have := (netOk_of hv).n17; omega)
      have hcl : (cellsV i ns gs os).length = l := by rw [← HSL.out, hpl.len]
      have HPB := Lib.hid (placeB_pl hv hpl)
      have HWA := Lib.hid (wireZ_pl hv hpl)
      have HWB := Lib.hid (wireZ_pl hv hst)
      rw [hcl] at HWB hco
      generalize costV i ns gs os pv = ka at *
      generalize costV i ns gs os (List.range l) = kb at *
      have HAB := Lib.hid hco
      clear hv hpl hst hcl HFIN HNIL hco
      go_upto_region 10 with fail
      have hba : Below w6.heap.size w6 (w6.alloc (.cells #[] 3)) := (Below.refl _ _).alloc (Nat.le_refl _) _
      have HT0 : Hid (TimesAt (w6.alloc (.cells #[] 3)) w6.heap.size (List.range 0) w6.heap.size 0) := Lib.hid (World.ownsRow_lit (base := w6.heap.size) (e := 3) (size := 1) w6 #[] 0 (Nat.le_refl _) (by simp [maxLen]) (by simp))
      have HX7 := Lib.hid hba
      generalize w6.alloc (.cells #[] 3) = w7 at *
      generalize hB6 : w6.heap.size = B at *
      clear hba
      go_upto_region 11 with fail
      go_loopw [5, 6] (fun sv iv wr => ∃ (k g cap : Nat), k ≤ l ∧ iv = .int .i64 k ∧ sv = .slice (some ⟨g, 0, none⟩) k cap ∧ Hid (TimesAt wr B (List.range k) g cap) ∧ Hid (Below B w6 wr)) (fun _ iv _ => l - (intOf iv).toNat)
      case atStart => exact ⟨0, _, _, Nat.zero_le _, rfl, rfl, HT0, HX7⟩
      case round =>
        clear HT0 HX7
        obtain ⟨k, g, cap, hkn, rfl, rfl, HT, HX⟩ := hrel
        have hgb := HT.out.gb
        by_cases hlt : k < l
        · go_wp2_with (at_builtin; refine wpList_pushT rfl (.tmp 35) (.tmp 37) rfl _ B g cap k (List.range k) rfl List.length_range HT.out (by omega) k _ rfl rfl ?_)
          intro g' cap' w8 hT8 hb8 hk8 hg8
          have HT8 : Hid (TimesAt w8 B (List.range (k + 1)) g' cap') := Lib.hid (by rw [List.range_succ]; exact hT8)
          have HX8 := Lib.hid (HX.out.trans hb8)
          clear hT8 hb8 hk8 hg8
          go_wp2
          go_roundw
          case rel => exact ⟨k + 1, g', cap', by omega, by go_num, rfl, HT8, HX8⟩
          case measure => simp [intOf]; omega
        · obtain rfl : k = l := by omega
          have hzB : B ≤ wr.heap.size := by have := HX.out.size; omega
          have hwB : w.heap.size ≤ B := by have := HL6.out.size; omega
          have HCr := Lib.hid ((HC6.out.below HX.out).mono hzB)
          have HXr := Lib.hid ((HX6.out.below HX.out).mono hzB)
          have HIr := Lib.hid HT.out.ints
          have HLr := Lib.hid (HL6.out.trans (HX.out.mono hwB))
          have HRr := Lib.hid (HR6.out.below HX.out (by omega))
          have hltr : ca < wr.heap.size := by omega
          have q0 := HRr.out.c0
          have q1 := HRr.out.c1
          have q2 := HRr.out.c2
          have q3 := HRr.out.c3
          clear HT HX HC6 HX6 HL6 HR6
          go_upto_region 14 with fail
          have HI1 := Lib.hid (show (Opt.intL pv).length = k by rw [Opt.intL_len]; exact HSL.out)
          have HI2 := Lib.hid (show (Opt.intL (List.range k)).length = k by rw [Opt.intL_len, List.length_range])
          generalize Opt.intL pv = P1 at *
          generalize Opt.intL (List.range k) = P2 at *
          have tok0 : True := trivial
          go_region_held3 (fun w' => w'.cell? ⟨ca, 0, none⟩ = some (.int .i64 i) ∧ w'.cell? ⟨ca, 1, none⟩ = some (.slice nA ns.length nc) ∧ w'.cell? ⟨ca, 2, none⟩ = some (.slice gA gs.length gc) ∧ w'.cell? ⟨ca, 3, none⟩ = some (.slice oA os.length oc))
            (first | go_keep | (with_reducible exact c4_on hb9 (by assumption)) | (with_reducible exact c4_on hba (by assumption)) | (with_reducible exact c4_on hbb (by assumption)))
            (first
              | (clear tok0; go_at_call 18; refine (ivalidP_val i nA gA oA A1 nc gc oc k c1 ns gs os P1 true _ HPB.out ?_ hcap ?_ HI1.out (by omega)).mono ?_; (exact HCr.out.below (Below.refl _ wr).drew); (exact HXr.out.below (Below.refl _ wr).drew); rintro e w9 ⟨rfl, hb9⟩; have HX9 := Lib.hid ((Below.refl _ wr).drew.trans hb9); have hz9 := HX9.out.size; have tokA : True := trivial)
              | (clear tokA; go_at_call 8; refine (iwire_val i nA gA oA A1 nc gc oc k c1 ns gs os P1 ka _ HWA.out ((HCr.out.below HX9.out).mono hz9) hcap ((HXr.out.below HX9.out).mono hz9) HI1.out (by omega)).mono ?_; rintro e wa ⟨rfl, hba⟩; have HXa := Lib.hid (HX9.out.trans (hba.mono hz9)); have hza := HXa.out.size; have tokB : True := trivial)
              | (clear tokB; go_at_call 8; refine (iwire_val i nA gA oA (some ⟨g, 0, none⟩) nc gc oc k cap ns gs os P2 kb _ HWB.out ((HCr.out.below HXa.out).mono hza) hcap ((HIr.out.below HXa.out).mono hza) HI2.out (by omega)).mono ?_; rintro e wb ⟨rfl, hbb⟩; have HXb := Lib.hid (HXa.out.trans (hbb.mono hza))))
          go_wp2
          go_ret
          exact ⟨ret_bool (by simpa using HAB.out), HLr.out.trans (HXb.out.mono HLr.out.size)⟩
end Go.Proofs.YtliaommpnaagiaaGreat
