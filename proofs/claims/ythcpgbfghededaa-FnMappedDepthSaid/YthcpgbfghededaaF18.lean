/- The walk of the law FnMappedDepth. -/
import Derived.Test.YthcpgbfghededaaFA
import Derived.Test.YthcpgbfghededaaMD
import Derived.Test.YthcpgbfghededaaR7
import Derived.Test.YthcpgbfghededaaZ
import Derived.Test.YthcpgbfghededaaQE
import Derived.Deep.DeepCutAuto
namespace Go.Proofs.Ythcpgbfghededaa
open Go.RowKit Go.Deep Cut
set_option maxRecDepth 100000

/-- An array of levels. -/
def LevAt (w : World) (g n : Nat) (L : List Nat) : Prop := ∃ cs : Array Value, Row w g 3 cs ∧ cs.size = n ∧ ∀ v, v < n → cs[v]? = some (.int .i64 (L.getD v 0 : Nat))
theorem LevAt.lt {w : World} {g n : Nat} {L : List Nat} (h : LevAt w g n L) : g < w.heap.size := by obtain ⟨cs, hr, _⟩ := h; exact hr.lt
theorem LevAt.below {w w' : World} {B g n : Nat} {L : List Nat} (h : LevAt w g n L) (hb : Below B w w') (hg : g < B) : LevAt w' g n L := by
  obtain ⟨cs, hr, h1, h2⟩ := h
  exact ⟨cs, hr.below hb hg, h1, h2⟩
theorem LevAt.cell {w : World} {g n : Nat} {L : List Nat} (h : LevAt w g n L) {v : Nat} (hv : v < n) : w.cell? ⟨g, v, none⟩ = some (.int .i64 (L.getD v 0 : Nat)) ∧ w.frozen? ⟨g, v, none⟩ = false := by
  obtain ⟨cs, hr, h1, h2⟩ := h
  exact ⟨(hr.cell v).trans (h2 v hv), hr.frozen v⟩
theorem LevAt.set {w : World} {g n : Nat} {L : List Nat} (h : LevAt w g n L) {v : Nat} (hv : v < n) (hL : L.length = n) (t : Nat) {z : Int} (hz : z = (t : Int)) : LevAt (w.setCell ⟨g, v, none⟩ (.int .i64 z)) g n (L.set v t) := by
  subst hz
  obtain ⟨cs, hr, h1, h2⟩ := h
  refine ⟨_, hr.set v _, by simpa using h1, fun u hu => ?_⟩
  rw [set_getD (by omega)]
  by_cases e : v = u
  · subst e
    rw [Array.getElem?_setIfInBounds_self_of_lt (by omega), if_pos rfl]
  · rw [Array.getElem?_setIfInBounds_ne e, h2 u hu, if_neg (fun h => e h.symm)]
/-- The mapped depth is at most the depth. -/
theorem mdepth_le {i : Int} {ns : List Int} {gs : List (Int × Int)} {os : List Int} (hv : Circ.validB i ns gs os = true) : mdepthZ i ns gs os ≤ Circ.depthZ i ns gs os := by
  obtain ⟨h0, h1, h2, h3, h4⟩ := Circ.valid_within hv
  obtain ⟨k0, k1⟩ := Opt.natC_ok hv
  have hff : (Opt.fst i ns : Int) = 1 + i + (ns.length : Int) := by unfold Opt.fst; omega
  have hl : Opt.Lev (Opt.fst i ns) (Opt.natG gs) (fun v => ((Circ.levels gs (Opt.fst i ns)).getD v 0).toNat) := Opt.lev_levels (fun k hk => by
    have := Circ.gatesOk_get (Circ.valid_gates hv) hk
    rw [← hff] at this
    exact_mod_cast this)
  have key : ∀ xs, Circ.litsOk xs (1 + i + ns.length + gs.length) = true → Circ.hi (Opt.intL (times (Opt.fst i ns) (Opt.natG gs))) xs ≤ Circ.hi (Circ.levels gs (Opt.fst i ns)) xs := fun xs hx => by
    refine hiFrom_mono _ _ xs 0 0 (Int.le_refl _) (fun x hm => ?_)
    have hb := Opt.litsOk_mem hx hm
    rw [Opt.intL_at]
    have ht := times_le k0 k1.ord hl (x / 2).toNat (by rw [show (Opt.natC ns gs os).gs = Opt.natG gs from rfl, Opt.natG_len]; omega)
    have hb2 := Circ.levels_bd gs (Opt.fst i ns) (x / 2).toNat
    have ht' : (times (Opt.fst i ns) (Opt.natG gs)).getD (x / 2).toNat 0 ≤ ((Circ.levels gs (Opt.fst i ns)).getD (x / 2).toNat 0).toNat := ht
    omega
  have e1 := key ns (Circ.valid_next hv)
  have e2 := key os (Circ.valid_outs hv)
  rw [Circ.depth_t hv, show (1 + i + (ns.length : Int)).toNat = Opt.fst i ns from rfl]
  unfold mdepthZ
  rw [if_pos hv, Circ.hi_append]
  omega

theorem svalid_w (i : Int) (nA gA oA : Option Addr) (nc gc oc : Nat) (ns : List Int) (gs : List (Int × Int)) (os : List Int) (v : Bool) (w : World) (hv : Circ.validB i ns gs os = v) (hc : CircAt w w.heap.size nA gA oA ns gs os) :
    Calls Try.prog 15 #[.agg #[.int .i64 i, .slice nA ns.length nc, .slice gA gs.length gc, .slice oA os.length oc]] w fun e w' => e = .returned (.bool v) ∧ Below w.heap.size w w' := by
  subst hv
  exact svalid_any i nA gA oA nc gc oc ns gs os w hc

set_option maxHeartbeats 4000000 in
theorem fdepth_walk (A : Option Addr) (bl bc : Nat) (w : World) (hb : CodeAt w A bl) (hbl : bl ≤ bc) (hbc : bc ≤ maxLen) :
    Calls Try.prog 4 #[.slice A bl bc] w fun e w' => e = .returned (.bool true) ∧ Below w.heap.size w w' := by
  have HB := Lib.hid hb
  have HBC := Lib.hid hbc
  unfold maxLen at hbc
  clear hb
  by_cases hsz : 1048576 < bl
  · go_enter Try.func4, Try.ntmps4
    go_wp2
    go_ret
    exact ⟨rfl, Below.refl _ _⟩
  · go_enter Try.func4, Try.ntmps4
    go_wp2_with fail
    refine (drawMapped_any A bl bc _ HB.out hbl HBC.out).mono ?_
    rintro e w1 ⟨i, nA, gA, oA, nc, gc, oc, ns, gs, os, rfl, hC1, hn, hg, ho, hcap, hb1⟩
    have hbB : Below w1.heap.size w1 (w1.alloc (.cells #[.int .i64 i, .slice nA ns.length nc, .slice gA gs.length gc, .slice oA os.length oc] 26)) := (Below.refl _ _).alloc (Nat.le_refl _) _
    have HC2 := Lib.hid ((hC1.below hbB).mono hbB.size)
    have HL2 := Lib.hid (hb1.trans (hbB.mono hb1.size))
    have HR2 := Lib.hid (Boxed.new w1 i nA gA oA ns.length nc gs.length gc os.length oc 26)
    have hlt2 : w1.heap.size < (w1.alloc (.cells #[.int .i64 i, .slice nA ns.length nc, .slice gA gs.length gc, .slice oA os.length oc] 26)).heap.size := by simp
    clear hC1 hb1 hbB HB HBC hbc
    obtain ⟨i0, hi0, hz0, hz1, hz2⟩ := info_parts Try.info3
    have HI0 := Lib.hid hi0
    have HI1 := Lib.hid hz0
    have HI2 := Lib.hid hz1
    have HI3 := Lib.hid hz2
    clear hi0 hz0 hz1 hz2
    go_upto_region 4 with fail
    generalize w1.alloc (.cells #[.int .i64 i, .slice nA ns.length nc, .slice gA gs.length gc, .slice oA os.length oc] 26) = w2 at *
    generalize w1.heap.size = ca at *
    have q0 := HR2.out.c0
    have q1 := HR2.out.c1
    have q2 := HR2.out.c2
    have q3 := HR2.out.c3
    go_wp2_with fail
    refine (mapped_any i nA gA oA nc gc oc ns gs os _ HC2.out).mono ?_
    rintro e w3 ⟨rfl, hb3⟩
    obtain ⟨d, hd⟩ : ∃ d, mdepthZ i ns gs os = d := ⟨_, rfl⟩
    rw [hd]
    have HD := Lib.hid hd
    have HC3 := Lib.hid ((HC2.out.below hb3).mono hb3.size)
    have HL3 := Lib.hid (HL2.out.trans (hb3.mono HL2.out.size))
    have HR3 := Lib.hid (HR2.out.below hb3 hlt2)
    have hlt3 : ca < w3.heap.size := by have := hb3.size; omega
    clear hd hb3 HC2 HL2 HR2 q0 q1 q2 q3 hlt2
    have q0 := HR3.out.c0
    have q1 := HR3.out.c1
    have q2 := HR3.out.c2
    have q3 := HR3.out.c3
    go_upto_region 5 with fail
    go_wp2_with fail
    refine (smapped_any i nA gA oA nc gc oc ns gs os _ HC3.out).mono ?_
    rintro e w4 ⟨rfl, hb4⟩
    rw [HD.out]
    have HC4 := Lib.hid ((HC3.out.below hb4).mono hb4.size)
    have HL4 := Lib.hid (HL3.out.trans (hb4.mono HL3.out.size))
    have HR4 := Lib.hid (HR3.out.below hb4 hlt3)
    have hlt4 : ca < w4.heap.size := by have := hb4.size; omega
    clear hb4 HC3 HL3 HR3 q0 q1 q2 q3 hlt3
    have q0 := HR4.out.c0
    have q1 := HR4.out.c1
    have q2 := HR4.out.c2
    have q3 := HR4.out.c3
    cases hv : Circ.validB i ns gs os
    · have HV := Lib.hid hv
      have hdm : d = -1 := by rw [← HD.out]; unfold mdepthZ; rw [if_neg (by rw [hv]; decide)]
      subst hdm
      clear hv
      go_upto_region 7 with fail
      go_wp2_with (first
        | (go_at_call 15; refine (svalid_w i nA gA oA nc gc oc ns gs os false _ HV.out HC4.out).mono ?_; rintro e w5 ⟨rfl, hb5⟩)
        | (go_at_call 16; refine (alive_any _).mono ?_; rintro e w6 ⟨rfl, hb6⟩))
      go_ret
      exact ⟨rfl, (HL4.out.trans (hb5.mono HL4.out.size)).trans (hb6.mono (Nat.le_trans HL4.out.size hb5.size))⟩
    · have HV := Lib.hid hv
      obtain ⟨h0, h1, h2, h3, h4⟩ := Circ.valid_within hv
      clear hv
      obtain ⟨mi, rfl⟩ := Int.eq_ofNat_of_zero_le h0
      go_upto_region 7 with fail
      go_wp2_with fail
      refine (svalid_w mi nA gA oA nc gc oc ns gs os true _ HV.out HC4.out).mono ?_
      rintro e w5 ⟨rfl, hb5⟩
      have HC5 := Lib.hid ((HC4.out.below hb5).mono hb5.size)
      have HL5 := Lib.hid (HL4.out.trans (hb5.mono HL4.out.size))
      have HR5 := Lib.hid (HR4.out.below hb5 hlt4)
      have hlt5 : ca < w5.heap.size := by have := hb5.size; omega
      clear hb5 HC4 HL4 HR4 q0 q1 q2 q3 hlt4
      have q0 := HR5.out.c0
      have q1 := HR5.out.c1
      have q2 := HR5.out.c2
      have q3 := HR5.out.c3
      obtain ⟨Z, HZ, hZ1, hZ0⟩ : ∃ Z : Nat, Hid (Circ.varCountZ mi ns gs os = (Z : Int) ∧ Z = Opt.fst mi ns + gs.length) ∧ Z ≤ 22 ∧ 1 ≤ Z := by
        refine ⟨Opt.fst mi ns + gs.length, Lib.hid ⟨?_, rfl⟩, by unfold Opt.fst; omega, by unfold Opt.fst; omega⟩
        unfold Circ.varCountZ
        rw [if_pos HV.out]
        unfold Opt.fst
        omega
      go_upto_region 9 with fail
      go_wp2_with fail
      refine (varCount_any mi nA gA oA nc gc oc ns gs os _ HC5.out).mono ?_
      rintro e w6 ⟨rfl, hb6⟩
      rw [HZ.out.1]
      have HC6 := Lib.hid ((HC5.out.below hb6).mono hb6.size)
      have HL6 := Lib.hid (HL5.out.trans (hb6.mono HL5.out.size))
      have HR6 := Lib.hid (HR5.out.below hb6 hlt5)
      have hlt6 : ca < w6.heap.size := by have := hb6.size; omega
      clear hb6 HC5 HL5 HR5 q0 q1 q2 q3 hlt5
      have hmk := fun W => run_make_row' (P := Try.prog) 23 3 (.int .i64 0) 8 Try.underlying23 Try.info3 rfl .i64 .i64 Z (by omega) (by omega) W
      go_upto_region 10 with fail
      clear hmk
      have HV7 : Hid (LevAt (w6.alloc (.cells (madeCells #[.int .i64 0] Z) 3)) w6.heap.size Z (List.replicate Z 0)) := Lib.hid ⟨_, heap_alloc_new w6 _, size_madeCells _ _, fun v hv => by
        rw [← Array.getElem?_toList, made_toList, List.getElem?_replicate, if_pos hv]
        simp [List.getElem?_replicate, hv]⟩
      have hba : Below w6.heap.size w6 (w6.alloc (.cells (madeCells #[.int .i64 0] Z) 3)) := (Below.refl _ _).alloc (Nat.le_refl _) _
      have hsz7 : (w6.alloc (.cells (madeCells #[.int .i64 0] Z) 3)).heap.size = w6.heap.size + 1 := by simp
      have HX7 := Lib.hid hba
      have HR7 := Lib.hid (HR6.out.below hba hlt6)
      have HC7 := Lib.hid ((HC6.out.below hba).mono hba.size)
      generalize w6.alloc (.cells (madeCells #[.int .i64 0] Z) 3) = w7 at *
      obtain ⟨gl, hgl⟩ : ∃ gl, w6.heap.size = gl := ⟨_, rfl⟩
      rw [hgl] at HV7 HX7 hsz7 hlt6 ⊢
      have HC6' : Hid (CircAt w6 gl nA gA oA ns gs os) := Lib.hid (by rw [← hgl]; exact HC6.out)
      have hLg : w.heap.size ≤ gl := by rw [← hgl]; exact HL6.out.size
      have hg7 : gl < w7.heap.size := by omega
      clear hba hsz7 HC6 hgl
      have q0 := HR7.out.c0
      have q1 := HR7.out.c1
      have q2 := HR7.out.c2
      have q3 := HR7.out.c3
      go_wp2_with fail
      refine (imap_t mi nA gA oA nc gc oc ns gs os _ HV.out HC7.out hcap).mono ?_
      rintro e w8 ⟨A1, c1, hs, rfl, hu8, _, hb8⟩
      obtain ⟨es, hes⟩ : ∃ es, lutsV (Opt.fst mi ns) (Opt.natG gs) (Opt.natL ns) (Opt.natL os) = es := ⟨_, rfl⟩
      rw [hes] at hu8 ⊢
      obtain ⟨n, hn'⟩ : ∃ n, es.length = n := ⟨_, rfl⟩
      rw [hn']
      have HEN := Lib.hid hn'
      have hme : mapV mi ns gs os = es := by unfold mapV; rw [if_pos HV.out, hes]
      have hbd := mapV_bd mi ns gs os
      have hK := mapV_k HV.out
      rw [hme] at hbd hK
      obtain ⟨k0, k1⟩ := Opt.natC_ok HV.out
      have hT : LutT (Opt.fst mi ns) (Opt.natG gs) es := by rw [← hes]; exact lutsV_t k0 k1.ord _ _
      have hZg : Opt.fst mi ns + (Opt.natG gs).length = Z := by rw [Opt.natG_len]; exact HZ.out.2.symm
      have hlb : ∀ k, k ≤ n → ∀ v, (levT Z es k).getD v 0 ≤ 14 := fun k hk v => by
        have h := levT_le hK hT hZg k (by omega) v
        rw [Opt.natG_len] at h
        omega
      have hrt : ∀ x, x ∈ os ++ ns → 0 ≤ x → (levT Z es n).getD (x / 2).toNat 0 = (times (Opt.fst mi ns) (Opt.natG gs)).getD (x / 2).toNat 0 := fun x hx h0 => by
        have h := levT_root (r := x.toNat) hK hT hZg (by
          rw [show Opt.natL os ++ Opt.natL ns = Opt.natL (os ++ ns) by unfold Opt.natL; rw [List.map_append]]
          exact List.mem_map_of_mem hx)
        rw [hn', show x.toNat / 2 = (x / 2).toNat by omega] at h
        exact h
      have HCB := Lib.hid (show ∀ k, k < n → (es.getD k (0, [], 0)).1 < Z ∧ (es.getD k (0, [], 0)).2.1.length ≤ 3 ∧ ∀ l, l ∈ (es.getD k (0, [], 0)).2.1 → l < Z from fun k hk => by
        have b1 := hK.bd k (by omega)
        exact ⟨by omega, b1.2.1, fun l hl => by have := hK.lt k (by omega) l hl; omega⟩)
      have hn14 : n ≤ 14 := by have := hbd.1; omega
      have HLB := Lib.hid hlb
      have HRT0 := Lib.hid hrt
      have HU := Lib.hid hu8
      have hz8 : w7.heap.size ≤ w8.heap.size := hb8.size
      have HV8 := Lib.hid (HV7.out.below hb8 hg7)
      have HX8 := Lib.hid (HX7.out.trans (hb8.mono (by omega)))
      have HDE := Lib.hid (mdepth_le HV.out)
      have HMD : Hid (d = Circ.hi (Opt.intL (times (Opt.fst mi ns) (Opt.natG gs))) (os ++ ns)) := Lib.hid (by rw [← HD.out]; unfold mdepthZ; rw [if_pos HV.out])
      clear hes hn' hme hbd hK k0 k1 hT hZg hlb hrt hu8 hb8 HV7 HX7 HC7 HR7 q0 q1 q2 q3
      generalize hP : w7.heap.size = P at *
      have hgP : gl < P := hg7
      clear hP hg7
      go_upto_region 11 with fail
      go_wp2
      go_loopw [7] (fun iv wr => ∃ (k : Nat), k ≤ n ∧ iv = .int .i64 k ∧ Hid (LevAt wr gl Z (levT Z es k)) ∧ Hid (LuAt wr P es hs A1 c1) ∧ Hid (Below gl w6 wr)) (fun iv _ => n - (intOf iv).toNat)
      case atStart => exact ⟨0, Nat.zero_le _, rfl, HV8, HU, HX8⟩
      case round =>
        clear HV8 HU HX8
        obtain ⟨k, hk, rfl, HVr, HUr, HXr⟩ := hrel
        by_cases hlt : k < n
        · obtain ⟨b, off, hbo, hbl, B1, d1, p0, p1, p2, hbA⟩ := HUr.out.read k (by rw [HEN.out]; exact hlt)
          injection hbo with hbo
          injection hbo with y1 y2
          subst y1 y2
          rw [Nat.zero_add] at p0 p1 p2
          obtain ⟨t1, t2, t3⟩ := HCB.out k hlt
          have HLT := Lib.hid t3
          have HBA := Lib.hid hbA
          have HSTEP : Hid (levT Z es (k + 1) = (levT Z es k).set (es.getD k (0, [], 0)).1 (1 + late (levT Z es k) (es.getD k (0, [], 0)).2.1)) := Lib.hid rfl
          have HLL : Hid ((levT Z es k).length = Z) := Lib.hid (levT_len Z es k)
          have HLBk := Lib.hid (HLB.out k hk)
          generalize levT Z es k = L at *
          generalize (es.getD k (0, [], 0)).2.1 = y at *
          generalize (es.getD k (0, [], 0)).1 = v at *
          obtain ⟨m, hm⟩ : ∃ m, y.length = m := ⟨_, rfl⟩
          rw [hm] at t2 p1
          have HM := Lib.hid hm
          have P0 := Lib.hid p0
          have hk0 : (0 : Int) ≤ (k : Int) := Int.natCast_nonneg _
          have hk1 : (k : Int) < (n : Int) := by omega
          have H00 : Hid (late L (y.take 0) = 0) := Lib.hid rfl
          clear hm hbA p0 p2 t3
          go_upto_region 15 with fail
          go_wp2
          go_loop [8, 9] (fun tv jv => ∃ (j t : Nat), j ≤ m ∧ jv = .int .i64 j ∧ tv = .int .i64 t ∧ Hid (late L (y.take j) = t) ∧ t ≤ 14) (fun _ jv => m - (intOf jv).toNat)
          case atStart => exact ⟨0, 0, Nat.zero_le _, rfl, rfl, H00, by omega⟩
          case round =>
            clear H00
            obtain ⟨j, t, hj, rfl, rfl, HT, ht14⟩ := hrel
            by_cases hltj : j < m
            · obtain ⟨b2, off2, rfl, hbl2, hc2⟩ := HBA.out j (by rw [Opt.intL_len, HM.out]; exact hltj)
              rw [Opt.intL_at] at hc2
              have hyl : j < y.length := by rw [HM.out]; exact hltj
              have hlu : y.getD j 0 < Z := HLT.out _ (memD0 hyl)
              have HTS := Lib.hid (late_take L y j hyl)
              clear hyl
              generalize y.getD j 0 = u at *
              have hcL := (HVr.out.cell hlu).1
              have huZ : (u : Int) < (Z : Int) := by omega
              have hlb := HLBk.out u
              generalize L.getD u 0 = lu at *
              have HMX : Hid (max t lu ≤ 14) := Lib.hid (by omega)
              go_wp2
              go_round
              case rel => exact ⟨j + 1, max t lu, by omega, by go_num, by go_num, Lib.hid (by rw [HTS.out, HT.out]), HMX.out⟩
              case measure => simp [intOf]; omega
            · obtain rfl : j = m := by omega
              have HTE : Hid (late L y = t) := Lib.hid (by have h := HT.out; rwa [List.take_of_length_le (by rw [HM.out]; exact Nat.le_refl _)] at h)
              have g0 := P0.out
              obtain ⟨cv, fv⟩ := HVr.out.cell t1
              have hvZ : (v : Int) < (Z : Int) := by omega
              have HV2 := Lib.hid (HVr.out.set t1 HLL.out (1 + late L y) (z := (t : Int) + 1) (by rw [HTE.out]; omega))
              have HU2 := Lib.hid (HUr.out.keep (w' := wr.setCell ⟨gl, v, none⟩ (.int .i64 ((t : Int) + 1))) (fun b hb _ => Below.heap_setCell _ _ _ _ (by show b ≠ gl; omega)) (by simp [World.setCell]))
              have HX2 := Lib.hid (HXr.out.setCell (p := ⟨gl, v, none⟩) (Nat.le_refl gl) (.int .i64 ((t : Int) + 1)))
              clear HTE HT
              go_wp2
              generalize wr.setCell ⟨gl, v, none⟩ (.int .i64 ((t : Int) + 1)) = w9 at *
              go_roundw
              case rel => exact ⟨k + 1, by omega, by go_num, by rw [HSTEP.out]; exact HV2, HU2, HX2⟩
              case measure => simp [intOf]; omega
        · obtain rfl : k = n := by omega
          have hglr : gl < wr.heap.size := HVr.out.lt
          have hg6w : gl ≤ wr.heap.size := Nat.le_of_lt hglr
          have HRn : Hid (Boxed wr ca mi nA gA oA ns.length nc gs.length gc os.length oc) := Lib.hid (HR6.out.below HXr.out hlt6)
          have HCn := Lib.hid ((HC6'.out.below HXr.out).mono hg6w)
          have HLn := Lib.hid (HL6.out.trans (HXr.out.mono hLg))
          have hlr : ca < wr.heap.size := by omega
          have q1 := HRn.out.c1
          have q3 := HRn.out.c3
          have HW0 := Lib.hid (World.ownsRow_lit (base := wr.heap.size) (e := 3) (size := 1) wr #[] 0 (Nat.le_refl _) (by simp [maxLen]) (by simp))
          have ne1 : some ca ≠ some wr.heap.size := by intro h; injection h; omega
          go_upto_region 21 with fail
          go_region_held3 (fun w' => w'.cell? ⟨ca, 1, none⟩ = some (.slice nA ns.length nc) ∧ w'.cell? ⟨ca, 3, none⟩ = some (.slice oA os.length oc))
            (first | go_keep | (exact ⟨hgr1.cell (by simp [*]) ne1, hgr1.cell (by simp [*]) ne1⟩) | (exact ⟨hgr2.cell (by simp [*]) ne2, hgr2.cell (by simp [*]) ne2⟩))
            (first
              | (refine step_append_src _ (by rfl) (.tmp 75) (.tmp 77) 23 (by rfl) wr.heap.size 3 i0 _ 1 8 Try.underlying23 HI0.out HI1.out HI2.out HI3.out rfl (by omega) wr.heap.size 0 0 [] (by rfl) (HW0.out.drew) oA os.length oc (ivs os) (by rfl) (by simp [ivs]) ?_ (ivs_oneM os) (by simp [maxLen]; omega) (by omega) (by simp) (wr.heap.size + 1) (by simp) ?_; (exact ints_srcM ((HCn.out.outs.below ((Below.refl _ _).alloc (Nat.le_refl _) _).drew))); intro g1 cap1 w6 hown1 hgr1 hat1; have ne2 : some ca ≠ some g1 := (by (intro h; injection h; omega)); have hbl1 : Below wr.heap.size wr w6 := Below.grown (((Below.refl wr.heap.size wr).alloc (Nat.le_refl _) _).drew) hgr1 (by simp) (fun k hk => by injection hk; omega))
              | (refine step_append_src _ (by rfl) (.tmp 78) (.tmp 80) 23 (by rfl) wr.heap.size 3 i0 _ 1 8 Try.underlying23 HI0.out HI1.out HI2.out HI3.out rfl (by omega) g1 cap1 (0 + os.length) ([] ++ ivs os) (by rfl) hown1 nA ns.length nc (ivs ns) (by rfl) (by simp [ivs]) ?_ (ivs_oneM ns) (by simp [maxLen]; omega) (by omega) hbl1.size w6.heap.size rfl ?_; (exact ints_srcM (HCn.out.next.below hbl1)); intro g2 cap2 w7 hown2 hgr2 hat2))
          rename_i _hheld21
          clear _hheld21
          simp only [Nat.zero_add]
          have hbl2 : Below wr.heap.size wr w7 := hbl1.grown hgr2 hbl1.size (fun k hk => by injection hk; omega)
          have HRT : Hid (IntsAt w7 w7.heap.size (some ⟨g2, 0, none⟩) (os ++ ns)) := Lib.hid (own_ints (n := os.length + ns.length) (base := wr.heap.size) (cap := cap2) (by simpa [ivs] using hown2) (by simp))
          have HC7 := Lib.hid ((HCn.out.below hbl2).mono hbl2.size)
          have HL7 := Lib.hid (HLn.out.trans (hbl2.mono HLn.out.size))
          have HR7 := Lib.hid (HRn.out.below hbl2 hlr)
          have HV7 := Lib.hid (HVr.out.below hbl2 hglr)
          have hlt7 : ca < w7.heap.size := by have := hbl2.size; omega
          have HOKr : Hid (∀ t, t < (os ++ ns).length → 0 ≤ (os ++ ns).getD t 0 ∧ (os ++ ns).getD t 0 < 2 * (Z : Int) ∧ (levT Z es k).getD ((os ++ ns).getD t 0 / 2).toNat 0 = (times (Opt.fst mi ns) (Opt.natG gs)).getD ((os ++ ns).getD t 0 / 2).toNat 0) := Lib.hid (fun t ht => by
            have hnx := Circ.valid_next HV.out
            have hou := Circ.valid_outs HV.out
            have hm : (os ++ ns).getD t 0 ∈ os ++ ns := memD0 ht
            have hff : (Opt.fst mi ns : Int) = 1 + (mi : Int) + ns.length := by unfold Opt.fst; omega
            have hz := HZ.out.2
            have hb : 0 ≤ (os ++ ns).getD t 0 ∧ (os ++ ns).getD t 0 < 2 * (1 + (mi : Int) + ns.length + gs.length) := by
              rcases List.mem_append.1 hm with h | h
              · exact Opt.litsOk_mem hou h
              · exact Opt.litsOk_mem hnx h
            exact ⟨hb.1, by omega, HRT0.out _ hm hb.1⟩)
          have HLNr := Lib.hid (show (os ++ ns).length = os.length + ns.length by simp)
          clear hbl1 hbl2 hown1 hown2 hgr1 hgr2 hat1 hat2 ne1 ne2 HW0 q1 q3 HCn HLn HRn HVr HUr HXr HRT0
          obtain ⟨T, HTQ⟩ : ∃ T, Hid (times (Opt.fst mi ns) (Opt.natG gs) = T) := ⟨_, Lib.hid rfl⟩
          rw [HTQ.out] at HOKr HMD
          have HTB : Hid (∀ v, T.getD v 0 ≤ 14) := Lib.hid (fun v => by
            rw [← HTQ.out]
            have h := arr_le (Opt.fst mi ns) (cuts (Opt.fst mi ns) (Opt.natG gs)) (Opt.natG gs).length v
            rw [Opt.natG_len] at h
            have e : (times (Opt.fst mi ns) (Opt.natG gs)).getD v 0 ≤ gs.length := by unfold times; rw [Opt.natG_len]; exact h
            omega)
          generalize levT Z es k = L at *
          generalize hxs : os ++ ns = xs at *
          clear hxs
          generalize hnr : os.length + ns.length = nr at *
          have hnr6 : nr ≤ 6 := by omega
          have H00 : Hid (Circ.hi (Opt.intL T) (xs.take 0) = 0) := Lib.hid (by simp [Circ.hi, Circ.hiFrom])
          clear hnr
          go_upto_region 22 with fail
          go_wp2
          go_loop [10, 12] (fun hv tv => ∃ (t h : Nat), t ≤ nr ∧ tv = .int .i64 t ∧ hv = .int .i64 h ∧ h ≤ 14 ∧ Hid (Circ.hi (Opt.intL T) (xs.take t) = (h : Int))) (fun _ tv => nr - (intOf tv).toNat)
          case atStart => exact ⟨0, 0, Nat.zero_le _, rfl, rfl, by omega, H00⟩
          case round =>
            clear H00
            obtain ⟨t, h, ht, rfl, rfl, hh, HH⟩ := hrel
            by_cases hltt : t < nr
            · obtain ⟨b, off, hbo, hbl, hcell⟩ := HRT.out t (by rw [HLNr.out]; exact hltt)
              injection hbo with hbo
              injection hbo with hb1 hb2
              subst hb1 hb2
              rw [Nat.zero_add] at hcell
              have HS := Lib.hid (Circ.hi_step (Opt.intL T) xs t (by rw [HLNr.out]; exact hltt))
              obtain ⟨o1, o2, o3⟩ := HOKr.out t (by rw [HLNr.out]; exact hltt)
              generalize xs.getD t 0 = x at *
              obtain ⟨q, hq⟩ : ∃ q : Nat, x / 2 = q := ⟨(x / 2).toNat, by omega⟩
              have hqm : q < Z := by omega
              have hqi : (q : Int) < (Z : Int) := by omega
              have HQ2 := Lib.hid (show (x / 2).toNat = q by omega)
              rw [HQ2.out] at o3
              have hcq := (HV7.out.cell hqm).1
              rw [o3] at hcq
              have hb14 := HTB.out q
              have HTQ2 := Lib.hid (Opt.intL_at T q)
              generalize T.getD q 0 = lq at *
              have ht0 : (0 : Int) ≤ (t : Int) := by omega
              have ht1 : (t : Int) < (nr : Int) := by omega
              clear o3
              go_wp2
              go_round
              case rel => exact ⟨t + 1, max h lq, by omega, by go_num, by go_num, by omega, Lib.hid (by rw [HS.out, HH.out, HQ2.out, HTQ2.out]; omega)⟩
              case measure => simp [intOf]; omega
            · obtain rfl : t = nr := by omega
              have hhd : (h : Int) = d := by
                have h2 := HH.out
                rw [List.take_of_length_le (by rw [HLNr.out]; exact Nat.le_refl _)] at h2
                rw [HMD.out, h2]
              have q0 := HR7.out.c0
              have q1 := HR7.out.c1
              have q2 := HR7.out.c2
              have q3 := HR7.out.c3
              have hle := HDE.out
              rw [HD.out] at hle
              subst hhd
              obtain ⟨D, HDD⟩ : ∃ D, Hid (Circ.depthZ mi ns gs os = D) := ⟨_, Lib.hid rfl⟩
              rw [HDD.out] at hle
              go_wp2_with (go_at_call 24; refine (depth_any mi nA gA oA nc gc oc ns gs os _ HC7.out).mono ?_; rintro e w9 ⟨rfl, hb9⟩; rw [HDD.out])
              go_ret
              exact ⟨rfl, HL7.out.trans (hb9.mono HL7.out.size)⟩
end Go.Proofs.Ythcpgbfghededaa
