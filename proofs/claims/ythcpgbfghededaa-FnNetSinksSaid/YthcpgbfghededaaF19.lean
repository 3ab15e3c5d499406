/- The walk of the law FnNetSinks. -/
import Derived.Test.YthcpgbfghededaaNS
import Derived.Test.YthcpgbfghededaaR8
import Derived.Test.YthcpgbfghededaaZ
import Derived.Test.YthcpgbfghededaaYs
import Derived.Deep.DeepCutAuto
namespace Go.Proofs.Ythcpgbfghededaa
open Go.RowKit Go.Deep Cut
set_option maxRecDepth 100000

theorem inets_v (i : Int) (nA gA oA : Option Addr) (nc gc oc : Nat) (ns : List Int) (gs : List (Int × Int)) (os : List Int) (net : Int) (w : World) (hc : CircAt w w.heap.size nA gA oA ns gs os) (hgc : gs.length ≤ gc) :
    Calls Try.prog 31 #[.agg #[.int .i64 i, .slice nA ns.length nc, .slice gA gs.length gc, .slice oA os.length oc], .int .i64 net] w fun e w' => ∃ (A : Option Addr) (cap : Nat), e = .returned (.slice A (sinksV net i ns gs os).length cap) ∧ IntsAt w' w'.heap.size A (Opt.intL (sinksV net i ns gs os)) ∧ Below w.heap.size w w' := by
  cases hv : Circ.validB i ns gs os
  · refine (inets_f i nA gA oA nc gc oc ns gs os net w hv hc).mono ?_
    rintro e w' ⟨⟨A, cap, rfl⟩, hb⟩
    have e : sinksV net i ns gs os = [] := by unfold sinksV; rw [cellsV_f hv]; rfl
    rw [e]
    exact ⟨A, cap, rfl, fun k hk => absurd hk (by simp [Opt.intL]), hb⟩
  · refine (inets_t i nA gA oA nc gc oc ns gs os net w hv hc hgc).mono ?_
    rintro e w' ⟨g, cap, rfl, hu, hb⟩
    exact ⟨some ⟨g, 0, none⟩, cap, rfl, hu.ints, hb⟩
theorem snets_v (i : Int) (nA gA oA : Option Addr) (nc gc oc : Nat) (ns : List Int) (gs : List (Int × Int)) (os : List Int) (net : Int) (w : World) (hc : CircAt w w.heap.size nA gA oA ns gs os) :
    Calls Try.prog 32 #[.agg #[.int .i64 i, .slice nA ns.length nc, .slice gA gs.length gc, .slice oA os.length oc], .int .i64 net] w fun e w' => ∃ (A : Option Addr) (cap : Nat), e = .returned (.slice A (sinksV net i ns gs os).length cap) ∧ IntsAt w' w'.heap.size A (Opt.intL (sinksV net i ns gs os)) ∧ Below w.heap.size w w' := by
  cases hv : Circ.validB i ns gs os
  · refine (snets_f i nA gA oA nc gc oc ns gs os net w hc hv).mono ?_
    rintro e w' ⟨⟨A, cap, rfl⟩, hb⟩
    have e : sinksV net i ns gs os = [] := by unfold sinksV; rw [cellsV_f hv]; rfl
    rw [e]
    exact ⟨A, cap, rfl, fun k hk => absurd hk (by simp [Opt.intL]), hb⟩
  · refine (snets_t i nA gA oA nc gc oc ns gs os net w hc hv).mono ?_
    rintro e w' ⟨g, cap, rfl, hu, hb⟩
    exact ⟨some ⟨g, 0, none⟩, cap, rfl, hu.ints, hb⟩
theorem icells_v (i : Int) (nA gA oA : Option Addr) (nc gc oc : Nat) (ns : List Int) (gs : List (Int × Int)) (os : List Int) (w : World) (hc : CircAt w w.heap.size nA gA oA ns gs os) (hgc : gs.length ≤ gc) :
    Calls Try.prog 26 #[.agg #[.int .i64 i, .slice nA ns.length nc, .slice gA gs.length gc, .slice oA os.length oc]] w fun e w' => ∃ (A : Option Addr) (cap : Nat), e = .returned (.slice A (cellsV i ns gs os).length cap) ∧ CeIn w' w'.heap.size A (cellsV i ns gs os) ∧ Below w.heap.size w w' := by
  cases hv : Circ.validB i ns gs os
  · refine (icells_f i nA gA oA nc gc oc ns gs os w hv hc).mono ?_
    rintro e w' ⟨⟨A, cap, rfl⟩, hb⟩
    rw [cellsV_f hv]
    exact ⟨A, cap, rfl, fun k hk => absurd hk (by simp), hb⟩
  · refine (icells_t i nA gA oA nc gc oc ns gs os w hv hc hgc).mono ?_
    rintro e w' ⟨g, cap, hs, rfl, hu, _, hb⟩
    exact ⟨some ⟨g, 0, none⟩, cap, rfl, hu.read, hb⟩
/-- A net with a sink is a variable other than constant false. -/
theorem sinks_net {net i : Int} {ns : List Int} {gs : List (Int × Int)} {os : List Int} (h : (sinksV net i ns gs os).length ≠ 0) : 0 < net ∧ net < Circ.varCountZ i ns gs os := by
  cases hv : Circ.validB i ns gs os
  · exact absurd (by unfold sinksV; rw [cellsV_f hv]; rfl) h
  · obtain ⟨j, hj⟩ : ∃ j, j ∈ sinksV net i ns gs os := by
      cases hs : sinksV net i ns gs os with
      | nil => rw [hs] at h; exact absurd rfl h
      | cons a r => exact ⟨a, by simp⟩
    obtain ⟨h1, h2⟩ := (sinks_mem net _ _ j).1 hj
    unfold usesB at h2
    rw [List.contains_iff_mem] at h2
    unfold Opt.intL at h2
    obtain ⟨l, hl, e⟩ := List.mem_map.1 h2
    obtain ⟨p1, p2⟩ := (cellsV_in hv j h1).2 l hl
    obtain ⟨h0, _⟩ := Circ.valid_within hv
    rw [Circ.varCount_t hv]
    unfold Opt.fst at p2
    omega
theorem cellsV_lv (i : Int) (ns : List Int) (gs : List (Int × Int)) (os : List Int) : (cellsV i ns gs os).length ≤ 17 ∧ ∀ k, k < (cellsV i ns gs os).length → ((cellsV i ns gs os).getD k (0, [], 0, false)).2.1.length ≤ 1000 := by
  cases hv : Circ.validB i ns gs os
  · rw [cellsV_f hv]; exact ⟨by simp, fun k hk => absurd hk (by simp)⟩
  · exact cellsV_lim hv

set_option maxHeartbeats 400000 in
theorem lawHasZ_any (A : Option Addr) (n cap B : Nat) (xs : List Nat) (y : Int) (w : World) (hx : IntsAt w B A (Opt.intL xs)) (hn : xs.length = n) (hnb : n ≤ 1000) :
    Calls Try.prog 17 #[.slice A n cap, .int .i64 y] w fun e w' => e = .returned (.bool ((Opt.intL xs).contains y)) ∧ w = w' := by
  have HX := Lib.hid hx
  have HN := Lib.hid hn
  clear hx hn
  go_enter Try.func17, Try.ntmps17
  go_wp2
  go_loop [5] (fun iv => ∃ (k : Nat), k ≤ n ∧ iv = .int .i64 k ∧ Hid (∀ j, j < k → ((xs.getD j 0 : Nat) : Int) ≠ y)) (fun iv => n - (intOf iv).toNat)
  case atStart => exact ⟨0, Nat.zero_le _, rfl, Lib.hid (fun j hj => by omega)⟩
  case round =>
    obtain ⟨k, hk, rfl, HNO⟩ := hrel
    by_cases hlt : k < n
    · obtain ⟨b, off, rfl, hbl, hcell⟩ := HX.out k (by rw [Opt.intL_len, HN.out]; exact hlt)
      rw [Opt.intL_at] at hcell
      by_cases he : ((xs.getD k 0 : Nat) : Int) = y
      · have HE : Hid ((Opt.intL xs).contains y = true) := Lib.hid (by
          rw [List.contains_iff_mem, ← he]
          unfold Opt.intL
          exact List.mem_map_of_mem (memD0 (by rw [HN.out]; exact hlt)))
        rw [he] at hcell
        clear he
        go_wp2
        go_ret
        exact ⟨ret_bool (by rw [← List.contains_eq_mem]; exact HE.out.symm), rfl⟩
      · have HN2 : Hid (∀ j, j < k + 1 → ((xs.getD j 0 : Nat) : Int) ≠ y) := Lib.hid (fun j hj => by
          by_cases e : j = k
          · subst e; exact he
          · exact HNO.out j (by omega))
        have hbe : (((xs.getD k 0 : Nat) : Int) == y) = false := by simpa using he
        clear he
        generalize xs.getD k 0 = u at *
        go_wp2
        go_round
        case rel => exact ⟨k + 1, by omega, by go_num, HN2⟩
        case measure => simp [intOf]; omega
    · have HE : Hid ((Opt.intL xs).contains y = false) := Lib.hid (by
        rw [Bool.eq_false_iff]
        intro hc
        rw [List.contains_iff_mem] at hc
        unfold Opt.intL at hc
        obtain ⟨z, hz, e⟩ := List.mem_map.1 hc
        obtain ⟨h1, h2⟩ := idx_get hz
        exact HNO.out (xs.idxOf z) (by rw [HN.out] at h1; omega) (by rw [h2]; exact e))
      go_wp2
      go_ret
      exact ⟨ret_bool (by rw [← List.contains_eq_mem]; exact HE.out.symm), rfl⟩

set_option maxHeartbeats 4000000 in
theorem fnets_walk (A : Option Addr) (bl bc : Nat) (w : World) (hb : CodeAt w A bl) (hbl : bl ≤ bc) (hbc : bc ≤ maxLen) :
    Calls Try.prog 6 #[.slice A bl bc] w fun e w' => e = .returned (.bool true) ∧ Below w.heap.size w w' := by
  have HB := Lib.hid hb
  have HBC := Lib.hid hbc
  unfold maxLen at hbc
  clear hb
  by_cases hsz : 1048576 < bl
  · go_enter Try.func6, Try.ntmps6
    go_wp2
    go_ret
    exact ⟨rfl, Below.refl _ _⟩
  · go_enter Try.func6, Try.ntmps6
    go_wp2_with fail
    refine (drawNets_any A bl bc _ HB.out hbl HBC.out).mono ?_
    rintro e w1 ⟨i, nA, gA, oA, nc, gc, oc, ns, gs, os, net, rfl, hC1, hn, hg, ho, hcap, hnet0, hnet1, hb1⟩
    have hbB : Below w1.heap.size w1 (w1.alloc (.cells #[.int .i64 i, .slice nA ns.length nc, .slice gA gs.length gc, .slice oA os.length oc] 26)) := (Below.refl _ _).alloc (Nat.le_refl _) _
    have HC2 := Lib.hid ((hC1.below hbB).mono hbB.size)
    have HL2 := Lib.hid (hb1.trans (hbB.mono hb1.size))
    have HR2 := Lib.hid (Boxed.new w1 i nA gA oA ns.length nc gs.length gc os.length oc 26)
    have hlt2 : w1.heap.size < (w1.alloc (.cells #[.int .i64 i, .slice nA ns.length nc, .slice gA gs.length gc, .slice oA os.length oc] 26)).heap.size := by simp
    clear hC1 hb1 hbB HB HBC hbc
    go_upto_region 4 with fail
    generalize w1.alloc (.cells #[.int .i64 i, .slice nA ns.length nc, .slice gA gs.length gc, .slice oA os.length oc] 26) = w2 at *
    generalize w1.heap.size = ca at *
    have q0 := HR2.out.c0
    have q1 := HR2.out.c1
    have q2 := HR2.out.c2
    have q3 := HR2.out.c3
    go_wp2_with fail
    refine (inets_v i nA gA oA nc gc oc ns gs os net _ HC2.out hcap).mono ?_
    rintro e w3 ⟨A1, c1, rfl, hx3, hb3⟩
    have hsn := fun h => sinks_net (net := net) (i := i) (ns := ns) (gs := gs) (os := os) h
    have hup := sinks_up net (cellsV i ns gs os) (cellsV i ns gs os).length
    have hmm := sinks_mem net (cellsV i ns gs os) (cellsV i ns gs os).length
    have hll := sinks_len net (cellsV i ns gs os) (cellsV i ns gs os).length
    have hcl := cellsV_lv i ns gs os
    have hup' : (sinksV net i ns gs os).Pairwise (· < ·) := hup
    have hmm' : ∀ j, j ∈ sinksV net i ns gs os ↔ j < (cellsV i ns gs os).length ∧ usesB net ((cellsV i ns gs os).getD j (0, [], 0, false)) = true := hmm
    have hll' : (sinksV net i ns gs os).length ≤ (cellsV i ns gs os).length := hll
    clear hup hmm hll
    obtain ⟨ss, hss⟩ : ∃ ss, sinksV net i ns gs os = ss := ⟨_, rfl⟩
    obtain ⟨ce, hce⟩ : ∃ ce, cellsV i ns gs os = ce := ⟨_, rfl⟩
    rw [hss] at hx3 hsn hup' hmm' hll' ⊢
    rw [hce] at hmm' hll' hcl
    obtain ⟨n, hn'⟩ : ∃ n, ce.length = n := ⟨_, rfl⟩
    obtain ⟨l, hl'⟩ : ∃ l, ss.length = l := ⟨_, rfl⟩
    rw [hn'] at hmm' hll' hcl
    rw [hl'] at hll' hsn ⊢
    obtain ⟨hn17, hbl'⟩ := hcl
    have HSS := Lib.hid hss
    have HCE := Lib.hid hce
    have HN := Lib.hid hn'
    have HSL := Lib.hid hl'
    have HUP := Lib.hid hup'
    have HMM := Lib.hid hmm'
    have HSN := Lib.hid hsn
    have HBL := Lib.hid hbl'
    have HX3 := Lib.hid hx3
    have HC3 := Lib.hid ((HC2.out.below hb3).mono hb3.size)
    have HL3 := Lib.hid (HL2.out.trans (hb3.mono HL2.out.size))
    have HR3 := Lib.hid (HR2.out.below hb3 hlt2)
    have hlt3 : ca < w3.heap.size := by have := hb3.size; omega
    clear hx3 hn' hl' hss hce hup' hmm' hsn hbl' hb3 HC2 HL2 HR2 q0 q1 q2 q3 hlt2
    have q0 := HR3.out.c0
    have q1 := HR3.out.c1
    have q2 := HR3.out.c2
    have q3 := HR3.out.c3
    go_upto_region 5 with fail
    go_wp2_with fail
    refine (snets_v i nA gA oA nc gc oc ns gs os net _ HC3.out).mono ?_
    rintro e w4 ⟨A2, c2, rfl, hy4, hb4⟩
    rw [HSS.out] at hy4
    rw [HSS.out, HSL.out]
    have HY4 := Lib.hid hy4
    have HX4 := Lib.hid ((HX3.out.below hb4).mono hb4.size)
    have HC4 := Lib.hid ((HC3.out.below hb4).mono hb4.size)
    have HL4 := Lib.hid (HL3.out.trans (hb4.mono HL3.out.size))
    have HR4 := Lib.hid (HR3.out.below hb4 hlt3)
    have hlt4 : ca < w4.heap.size := by have := hb4.size; omega
    clear hy4 hb4 HX3 HC3 HL3 HR3 q0 q1 q2 q3 hlt3
    go_wp2_with fail
    refine (sameI_ln A1 A2 l l c1 c2 (Opt.intL ss) _ (by rw [Opt.intL_len]; exact HSL.out) (by rw [Opt.intL_len]; exact HSL.out) HX4.out HY4.out (by omega)).mono ?_
    rintro e w5 ⟨rfl, hb5⟩
    have HX5 := Lib.hid ((HX4.out.below hb5).mono hb5.size)
    have HC5 := Lib.hid ((HC4.out.below hb5).mono hb5.size)
    have HL5 := Lib.hid (HL4.out.trans (hb5.mono HL4.out.size))
    have HR5 := Lib.hid (HR4.out.below hb5 hlt4)
    have hlt5 : ca < w5.heap.size := by have := hb5.size; omega
    clear hb5 HX4 HC4 HL4 HR4 HY4 hlt4
    have q0 := HR5.out.c0
    have q1 := HR5.out.c1
    have q2 := HR5.out.c2
    have q3 := HR5.out.c3
    go_upto_region 7 with fail
    go_wp2_with fail
    refine (icells_v i nA gA oA nc gc oc ns gs os _ HC5.out hcap).mono ?_
    rintro e w6 ⟨A3, c3, rfl, hu6, hb6⟩
    rw [HCE.out] at hu6
    rw [HCE.out, HN.out]
    have HU6 := Lib.hid hu6
    have HX6 := Lib.hid ((HX5.out.below hb6).mono hb6.size)
    have HC6 := Lib.hid ((HC5.out.below hb6).mono hb6.size)
    have HL6 := Lib.hid (HL5.out.trans (hb6.mono HL5.out.size))
    have HR6 := Lib.hid (HR5.out.below hb6 hlt5)
    have hlt6 : ca < w6.heap.size := by have := hb6.size; omega
    clear hu6 hb6 HX5 HC5 HL5 HR5 q0 q1 q2 q3 hlt5
    go_upto_region 8 with fail
    go_wp2
    go_loop [7] (fun kv => ∃ (k : Nat), k ≤ n ∧ kv = .int .i64 k) (fun kv => n - (intOf kv).toNat)
    case atStart => exact ⟨0, Nat.zero_le _, rfl⟩
    case round =>
      obtain ⟨k, hk, rfl⟩ := hrel
      by_cases hlt : k < n
      · obtain ⟨b, off, rfl, hbl, B1, d1, p0, p1, p2, hbA⟩ := HU6.out k (by rw [HN.out]; exact hlt)
        have hyb := HBL.out k hlt
        have HEQ : Hid ((Opt.intL (ce.getD k (0, [], 0, false)).2.1).contains net = (Opt.intL ss).contains (k : Int)) := Lib.hid (by
          have h := HMM.out k
          have e : (Opt.intL ss).contains (k : Int) = decide (k ∈ ss) := by
            rw [Bool.eq_iff_iff, List.contains_iff_mem, decide_eq_true_iff]
            unfold Opt.intL
            rw [List.mem_map]
            exact ⟨fun ⟨z, hz, e⟩ => by obtain rfl : z = k := by omega
                                        exact hz, fun hz => ⟨k, hz, rfl⟩⟩
          rw [e, Bool.eq_iff_iff, decide_eq_true_iff, h]
          exact ⟨fun h => ⟨hlt, h⟩, fun h => h.2⟩)
        have HBA := Lib.hid hbA
        generalize (ce.getD k (0, [], 0, false)).2.1 = y at *
        obtain ⟨m, hm⟩ : ∃ m, y.length = m := ⟨_, rfl⟩
        rw [hm] at p1 hyb
        have HM := Lib.hid hm
        have hk0 : (0 : Int) ≤ (k : Int) := Int.natCast_nonneg _
        have hk1 : (k : Int) < (n : Int) := by omega
        clear hm hbA p0 p2
        go_upto_region 11 with fail
        go_wp2_with fail
        refine (lawHasZ_any B1 m d1 _ y net _ HBA.out HM.out hyb).mono ?_
        rintro e w7 ⟨rfl, hw7⟩
        obtain rfl := hw7
        rw [HEQ.out]
        generalize hbb : (Opt.intL ss).contains (k : Int) = bb at *
        have HBB := Lib.hid hbb
        clear hbb
        go_wp2_with fail
        refine (lawHasZ_any A1 l c1 _ ss (k : Int) _ HX6.out HSL.out (by omega)).mono ?_
        rintro e w8 ⟨rfl, hw8⟩
        obtain rfl := hw8
        rw [HBB.out]
        cases bb
        all_goals
          go_wp2
          go_round
          case rel => exact ⟨k + 1, by omega, by go_num⟩
          case measure => simp [intOf]; omega
      · obtain rfl : k = n := by omega
        go_upto_region 14 with fail
        have HUPJ : Hid (∀ j, 0 < j → j < l → ss.getD (j - 1) 0 < ss.getD j 0) := Lib.hid (fun j h0 hj => by
          have h1 : j - 1 < ss.length := by rw [HSL.out]; omega
          have h2 : j < ss.length := by rw [HSL.out]; exact hj
          have h := List.pairwise_iff_getElem.1 HUP.out (j - 1) j h1 h2 (by omega)
          simpa [List.getD_eq_getElem?_getD, h1, h2] using h)
        go_loopw [8] (fun jv wr => ∃ (j : Nat), 1 ≤ j ∧ j ≤ l + 1 ∧ jv = .int .i64 j ∧ Hid (Below w6.heap.size w6 wr)) (fun jv _ => l - (intOf jv).toNat)
        case atStart => exact ⟨1, Nat.le_refl _, by omega, rfl, Lib.hid (Below.refl _ _)⟩
        case round =>
          obtain ⟨j, hj1, hjl, rfl, HBr⟩ := hrel
          by_cases hltj : j < l
          · obtain ⟨b, off, rfl, hb0, hc0⟩ := HX6.out (j - 1) (by rw [Opt.intL_len, HSL.out]; omega)
            obtain ⟨b', off', hbo, hb1, hc1⟩ := HX6.out j (by rw [Opt.intL_len, HSL.out]; exact hltj)
            injection hbo with hbo
            injection hbo with y1 y2
            subst y1 y2
            rw [Opt.intL_at] at hc0 hc1
            have g0 := (HBr.out.cell (p := ⟨b, off + (j - 1), none⟩) hb0).trans hc0
            have g1 := (HBr.out.cell (p := ⟨b, off + j, none⟩) hb1).trans hc1
            have hup := HUPJ.out j hj1 hltj
            generalize ss.getD (j - 1) 0 = y0 at *
            generalize ss.getD j 0 = y1 at *
            have i1 : (0 : Int) ≤ (j : Int) - 1 := by omega
            have i2 : (j : Int) - 1 < (l : Int) := by omega
            have i3 : ((j : Int) - 1).toNat = j - 1 := by omega
            have i4 : IntKind.i64.wrap ((j : Int) - 1) = (j : Int) - 1 := IntWalk.i64_in _ (by omega)
            have hd : decide ((y1 : Int) ≤ (y0 : Int)) = false := by simp; omega
            clear hc0 hc1
            go_wp2
            go_quiet (fail)
            clear i1 i2 i3 i4
            go_wp2
            clear hd
            go_roundw
            case rel => exact ⟨j + 1, by omega, by omega, by go_num, Lib.hid (below_drewN HBr.out _)⟩
            case measure => simp [intOf]; omega
          · have HCr := Lib.hid ((HC6.out.below HBr.out).mono HBr.out.size)
            have HLr := Lib.hid (HL6.out.trans (HBr.out.mono HL6.out.size))
            have HRr := Lib.hid (HR6.out.below HBr.out hlt6)
            have q0 := HRr.out.c0
            have q1 := HRr.out.c1
            have q2 := HRr.out.c2
            have q3 := HRr.out.c3
            obtain ⟨V, HVV⟩ : ∃ V, Hid (Circ.varCountZ i ns gs os = V) := ⟨_, Lib.hid rfl⟩
            by_cases hl0 : l = 0
            · subst hl0
              by_cases hn0 : 0 < net
              · by_cases hn1 : net < V
                · go_wp2_with (first
                  | (go_at_call 23; refine (varCount_any i nA gA oA nc gc oc ns gs os _ HCr.out).mono ?_; rintro e w7 ⟨rfl, hb7⟩; rw [HVV.out])
                  | (go_at_call 16; refine (alive_any _).mono ?_; rintro e w8 ⟨rfl, hb8⟩))
                  go_ret
                  exact ⟨rfl, (HLr.out.trans (hb7.mono HLr.out.size)).trans (hb8.mono (Nat.le_trans HLr.out.size hb7.size))⟩
                · go_wp2_with (first
                  | (go_at_call 23; refine (varCount_any i nA gA oA nc gc oc ns gs os _ HCr.out).mono ?_; rintro e w7 ⟨rfl, hb7⟩; rw [HVV.out])
                  | (go_at_call 16; refine (alive_any _).mono ?_; rintro e w8 ⟨rfl, hb8⟩))
                  go_ret
                  exact ⟨rfl, (HLr.out.trans (hb7.mono HLr.out.size)).trans (hb8.mono (Nat.le_trans HLr.out.size hb7.size))⟩
              · go_wp2_with (first
                  | (go_at_call 23; refine (varCount_any i nA gA oA nc gc oc ns gs os _ HCr.out).mono ?_; rintro e w7 ⟨rfl, hb7⟩; rw [HVV.out])
                  | (go_at_call 16; refine (alive_any _).mono ?_; rintro e w8 ⟨rfl, hb8⟩))
                go_ret
                exact ⟨rfl, HLr.out.trans (hb8.mono HLr.out.size)⟩
            · obtain ⟨s1, s2⟩ := HSN.out hl0
              rw [HVV.out] at s2
              go_wp2_with (first
                | (go_at_call 23; refine (varCount_any i nA gA oA nc gc oc ns gs os _ HCr.out).mono ?_; rintro e w7 ⟨rfl, hb7⟩; rw [HVV.out])
                | (go_at_call 16; refine (alive_any _).mono ?_; rintro e w8 ⟨rfl, hb8⟩))
              go_ret
              exact ⟨rfl, (HLr.out.trans (hb7.mono HLr.out.size)).trans (hb8.mono (Nat.le_trans HLr.out.size hb7.size))⟩
end Go.Proofs.Ythcpgbfghededaa
