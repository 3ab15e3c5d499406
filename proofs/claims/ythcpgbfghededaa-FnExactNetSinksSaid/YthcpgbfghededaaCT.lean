/- The contract of the program's Cells: the walk. -/
import Derived.Test.YthcpgbfghededaaCS
namespace Go.Proofs.Ythcpgbfghededaa
open Go.RowKit Go.Deep Cut

set_option maxRecDepth 10000 in
set_option maxHeartbeats 1000000 in
theorem icells_t (i : Int) (nA gA oA : Option Addr) (nc gc oc : Nat) (ns : List Int) (gs : List (Int × Int)) (os : List Int) (w : World) (hv : Circ.validB i ns gs os = true) (hc : CircAt w w.heap.size nA gA oA ns gs os) (hgc : gs.length ≤ gc) :
    Calls Try.prog 26 #[.agg #[.int .i64 i, .slice nA ns.length nc, .slice gA gs.length gc, .slice oA os.length oc]] w fun e w' => ∃ (g cap : Nat) (hs : List Value), e = .returned (.slice (some ⟨g, 0, none⟩) (cellsV i ns gs os).length cap) ∧ CeAt w' w.heap.size (cellsV i ns gs os) hs g cap ∧ DistH hs ∧ Below w.heap.size w w' := by
  obtain ⟨h0, h1, h2, h3, h4⟩ := Circ.valid_within hv
  obtain ⟨m, rfl⟩ := Int.eq_ofNat_of_zero_le h0
  have hnx := Circ.valid_next hv
  have HN := Lib.hid (show ∀ k, k < ns.length → (Opt.natL ns).getD k 0 ≤ 1000 from fun k hk => by
    have := Circ.litsOk_get hnx hk
    have e := natL_get ns k hk (by omega)
    omega)
  have hce : cellsV m ns gs os = regsTo (1 + m) (Opt.natL ns) ns.length ++ lutsC (lutsV (Opt.fst m ns) (Opt.natG gs) (Opt.natL ns) (Opt.natL os)) := by unfold cellsV; rw [if_pos hv]; rfl
  obtain ⟨es, hes⟩ : ∃ es, lutsV (Opt.fst m ns) (Opt.natG gs) (Opt.natL ns) (Opt.natL os) = es := ⟨_, rfl⟩
  have hln : es.length ≤ 14 := by
    have := lutsTo_len (Opt.fst m ns) (Opt.natG gs) (bests (Opt.fst m ns) (Opt.natG gs)) (needV (Opt.fst m ns) (Opt.natG gs) (Opt.natL ns) (Opt.natL os)) (Opt.natG gs).length
    have hgl : (Opt.natG gs).length = gs.length := Opt.natG_len gs
    rw [← hes]
    show (lutsTo _ _ _ _ _).length ≤ 14
    omega
  rw [hes] at hce
  have HES := Lib.hid hes
  have HV := Lib.hid hv
  obtain ⟨n, hn⟩ : ∃ n, es.length = n := ⟨_, rfl⟩
  rw [hn] at hln
  have HEN := Lib.hid hn
  obtain ⟨ls, hls⟩ : ∃ ls, Opt.natL ns = ls := ⟨_, rfl⟩
  rw [hls] at HN hce
  have HLS := Lib.hid hls
  obtain ⟨ce, hcc⟩ : ∃ ce, cellsV m ns gs os = ce := ⟨_, rfl⟩
  rw [hcc] at hce ⊢
  obtain ⟨M, hM⟩ : ∃ M, ns.length + n = M := ⟨_, rfl⟩
  have HCL : Hid (ce.length = M) := Lib.hid (by rw [hce, List.length_append, regsTo_len, lutsC_len, hn, hM])
  have HC1 : Hid (∀ k, k < ns.length → ce.getD k (0, [], 0, false) = (1 + m + k, nextY (ls.getD k 0), nextT (ls.getD k 0), true)) := Lib.hid (fun k hk => by
    rw [hce, Circ.getD_app_lt _ _ _ _ (by rw [regsTo_len]; exact hk)]
    exact regsTo_at _ _ _ _ hk)
  have HC2 : Hid (∀ j, j < n → ce.getD (ns.length + j) (0, [], 0, false) = ((es.getD j (0, [], 0)).1, (es.getD j (0, [], 0)).2.1, (es.getD j (0, [], 0)).2.2, false)) := Lib.hid (fun j hj => by
    have h := lutsC_at es j (by rw [hn]; exact hj)
    rw [← h, hce]
    simp only [List.getD_eq_getElem?_getD]
    rw [List.getElem?_append_right (by rw [regsTo_len]; omega), regsTo_len, Nat.add_sub_cancel_left])
  rw [HCL.out]
  have HM := Lib.hid hM
  have hM17 : M ≤ 17 := by omega
  have HB0 := Lib.hid (Boxed.new w (m : Int) nA gA oA ns.length nc gs.length gc os.length oc 26)
  have hbw : Below w.heap.size w (w.alloc (.cells #[.int .i64 m, .slice nA ns.length nc, .slice gA gs.length gc, .slice oA os.length oc] 26)) := (Below.refl _ _).alloc (Nat.le_refl _) _
  have hlt0 : w.heap.size < (w.alloc (.cells #[.int .i64 m, .slice nA ns.length nc, .slice gA gs.length gc, .slice oA os.length oc] 26)).heap.size := by simp
  have HC := Lib.hid ((hc.below hbw).mono hbw.size)
  have HL0 := Lib.hid hbw
  have hv0 := hv
  clear hv hc hnx hes hn hbw hls hce hcc
  go_enter Try.func26, Try.ntmps26
  go_upto_region 1 with fail
  generalize w.alloc (.cells #[.int .i64 m, .slice nA ns.length nc, .slice gA gs.length gc, .slice oA os.length oc] 26) = w0 at *
  have q0 := HB0.out.c0
  have q1 := HB0.out.c1
  have q2 := HB0.out.c2
  have q3 := HB0.out.c3
  clear hv0
  go_wp2_with fail
  refine (valid_any (m : Int) nA gA oA nc gc oc ns gs os _ HC.out).mono ?_
  rintro e w1 ⟨rfl, hb1⟩
  rw [HV.out]
  have HB1 := Lib.hid (HB0.out.below hb1 hlt0)
  have HCa := Lib.hid ((HC.out.below hb1).mono hb1.size)
  have HL1 := Lib.hid (HL0.out.trans (hb1.mono HL0.out.size))
  have hlt1 : w.heap.size < w1.heap.size := by have := hb1.size; omega
  clear hb1 q0 q1 q2 q3 HB0 HC HL0
  go_upto_region 4 with fail
  have hba : Below w1.heap.size w1 (w1.alloc (.cells #[] 45)) := (Below.refl _ _).alloc (Nat.le_refl _) _
  have HU0 := Lib.hid (CeAt.made w1 w1.heap.size (Nat.le_refl _))
  have HB2 := Lib.hid (HB1.out.below hba hlt1)
  have HC2a := Lib.hid ((HCa.out.below hba).mono hba.size)
  have HX2 := Lib.hid hba
  have hz2 : (w1.alloc (.cells #[] 45)).heap.size = w1.heap.size + 1 := by simp
  have HZ2 := Lib.hid hz2
  generalize w1.alloc (.cells #[] 45) = w2 at *
  have hNP : w1.heap.size < w2.heap.size := by omega
  generalize w1.heap.size = N at *
  clear hba hz2
  have q0 := HB2.out.c0
  have q1 := HB2.out.c1
  have q2 := HB2.out.c2
  have q3 := HB2.out.c3
  go_wp2_with fail
  refine (parts_any m nA gA oA nc gc oc ns gs os _ HV.out HC2a.out hgc).mono ?_
  rintro e w3 ⟨gp, cp, gl, cl, hs, rfl, hp3, hu3, hd3, hb3⟩
  rw [HES.out, HEN.out, HLS.out] at hp3
  rw [HES.out] at hu3
  rw [HES.out, HEN.out, HM.out]
  rw [HM.out] at hp3
  have HP := Lib.hid hp3
  have HU := Lib.hid hu3
  have HD := Lib.hid hd3
  have hPQ : w2.heap.size ≤ w3.heap.size := hb3.size
  have HX3 := Lib.hid (HX2.out.trans (hb3.mono (by omega)))
  have HUc := Lib.hid (CeAt.on HU0.out hb3)
  generalize hP : w2.heap.size = P at *
  clear hP hp3 hu3 hd3 hb3 HU0 q0 q1 q2 q3 HB2 HC2a HX2
  go_upto_region 5 with fail
  go_loopw [3, 13] (fun pv iv wr => ∃ (k g cap : Nat) (hR : List Value), k ≤ M ∧ iv = .int .i64 k ∧ pv = .slice (some ⟨g, 0, none⟩) k cap ∧ Hid (CeAt wr N (ce.take k) (hR ++ lutHd hs (k - ns.length)) g cap) ∧ Hid (DistH hR) ∧ Hid (∀ u, u ∈ hR → ∀ b, vblk u = some b → w3.heap.size ≤ b ∧ b < wr.heap.size) ∧ Hid (∀ b, P ≤ b → b < w3.heap.size → wr.heap[b]? = w3.heap[b]?) ∧ (g < P ∨ w3.heap.size ≤ g) ∧ w3.heap.size ≤ wr.heap.size ∧ Hid (Below N w1 wr)) (fun _ iv _ => M - (intOf iv).toNat)
  case atStart => exact ⟨0, _, _, [], Nat.zero_le _, rfl, rfl, by rw [Nat.zero_sub]; exact HUc, Lib.hid DistH.nil, Lib.hid (fun u hu => by cases hu), Lib.hid (fun _ _ _ => rfl), by omega, Nat.le_refl _, HX3⟩
  case round =>
    clear HUc HX3
    obtain ⟨k, g, cap, hR, hk, rfl, rfl, HUc, HDR, HBR, HK, hgo, hQr, HX⟩ := hrel
    by_cases hlt : k < M
    · by_cases hkr : k < ns.length
      · have hpc : wr.cell? ⟨gp, k, none⟩ = some (regP (1 + m + k) (ls.getD k 0)) := by
          have hgb := HP.out.gb
          have h := HP.out.cell hlt (p := regP (1 + m + k) (ls.getD k 0)) (by rw [List.getElem?_append_left (by rw [regPs_len]; exact hkr)]; exact regPs_at _ _ _ _ hkr)
          rw [← h]
          exact World.cell?_of_block (a := ⟨gp, k, none⟩) (HK.out gp hgb.1 hgb.2)
        have hce := HC1.out k hkr
        have hl := HN.out k hkr
        have hk0 : k - ns.length = 0 := by omega
        have HTK : Hid (ce.take (k + 1) = ce.take k ++ [(1 + m + k, nextY (ls.getD k 0), nextT (ls.getD k 0), true)]) := Lib.hid (by
          rw [take_succ_getD ce k (0, [], 0, false) (by rw [HCL.out]; exact hlt), hce])
        rw [hk0] at HUc
        have hk1 : k + 1 - ns.length = 0 := by omega
        have HK1 := Lib.hid hk1
        generalize ls.getD k 0 = l at *
        have HTL : Hid ((ce.take k).length = k) := Lib.hid (by rw [List.length_take, HCL.out]; omega)
        generalize ce.take k = cs at *
        clear hce hk0 hk1
        unfold regP at hpc
        go_wp2_with fail
        rw [Try.meth_reg]
        go_wp2_with fail
        have ev : (1 : Int) + (m : Int) + (k : Int) = ((1 + m + k : Nat) : Int) := by omega
        rw [ev]
        refine (regCell_any (1 + m + k) l (by omega) _).mono ?_
        rintro e w4 ⟨gx, rfl, hx1, hx2, hlf, hb4⟩
        have hgb := HUc.out.gb
        have hz4 := hb4.size
        have HU4 := Lib.hid (CeAt.on HUc.out hb4)
        have HX4 := Lib.hid (HX.out.trans (hb4.mono (by omega)))
        have HK4 : Hid (∀ b, P ≤ b → b < w3.heap.size → w4.heap[b]? = w3.heap[b]?) := Lib.hid (fun b h1 h2 => by rw [hb4.block b (by omega), HK.out b h1 h2])
        have HLF : Hid (LeafIn w4 (Off w4 N g) (some ⟨gx, 0, none⟩) (nextY l)) := Lib.hid (hlf.kept (fun _ _ => rfl) (fun b hb => by subst hb; exact ⟨by omega, hx2, by omega⟩))
        have HD4 : Hid (DistH (hR ++ [.int .i64 (1 + m + k : Nat), .slice (some ⟨gx, 0, none⟩) (nextY l).length (nextY l).length, .int .i64 (nextT l : Nat), .bool true])) := Lib.hid (dist_snoc4 (N := wr.heap.size) HDR.out (fun u hu b hb => (HBR.out u hu b hb).2) hx1)
        have HB4 : Hid (∀ u, u ∈ hR ++ [.int .i64 (1 + m + k : Nat), .slice (some ⟨gx, 0, none⟩) (nextY l).length (nextY l).length, .int .i64 (nextT l : Nat), .bool true] → ∀ b, vblk u = some b → w3.heap.size ≤ b ∧ b < w4.heap.size) := Lib.hid (fun u hu b hb => by
          rcases List.mem_append.1 hu with h | h
          · have := HBR.out u h b hb; omega
          · simp at h
            rcases h with h | h | h | h
            · subst h; cases hb
            · subst h; have := vblk_slice hb; omega
            · subst h; cases hb
            · subst h; cases hb)
        have hgw4 : g < w4.heap.size := by omega
        clear hb4 hlf HUc HX HK HDR HBR hpc ev
        generalize hyl : (nextY l).length = yl at *
        have HYL := Lib.hid hyl
        clear hyl
        go_wp2_with (at_builtin; refine wpList_pushCe rfl (.tmp 17) (.tmp 20) rfl _ N g cap k cs _ rfl HTL.out HU4.out (by omega) (1 + m + k) (some ⟨gx, 0, none⟩) yl yl (nextY l) (nextT l) true rfl HYL.out HLF.out ?_)
        intro g' cap' w5 hu5 hb5 hk5 hg5
        have hz5 : w4.heap.size ≤ w5.heap.size := hb5.size
        have HU5 : Hid (CeAt w5 N (cs ++ [(1 + m + k, nextY l, nextT l, true)]) ((hR ++ [.int .i64 (1 + m + k : Nat), .slice (some ⟨gx, 0, none⟩) yl yl, .int .i64 (nextT l : Nat), .bool true]) ++ lutHd hs 0) g' cap') := Lib.hid (by
          simp only [lutHd, List.append_nil] at hu5 ⊢
          exact hu5)
        have HX5 := Lib.hid (HX4.out.trans hb5)
        have HB5 : Hid (∀ u, u ∈ hR ++ [.int .i64 (1 + m + k : Nat), .slice (some ⟨gx, 0, none⟩) yl yl, .int .i64 (nextT l : Nat), .bool true] → ∀ b, vblk u = some b → w3.heap.size ≤ b ∧ b < w5.heap.size) := Lib.hid (fun u hu b hb => by have := HB4.out u hu b hb; omega)
        have HK5 : Hid (∀ b, P ≤ b → b < w3.heap.size → w5.heap[b]? = w3.heap[b]?) := Lib.hid (fun b h1 h2 => by rw [hk5 b (by omega) (by omega), HK4.out b h1 h2])
        have hgo5 : g' < P ∨ w3.heap.size ≤ g' := by omega
        have hQ5 : w3.heap.size ≤ w5.heap.size := by omega
        clear hu5 hb5 hk5 HU4 HX4 HB4 HK4
        go_wp2
        go_roundw
        case rel => exact ⟨k + 1, g', cap', _, by omega, by go_num, rfl, by rw [HTK.out, HK1.out]; exact HU5, HD4, HB5, HK5, hgo5, hQ5, HX5⟩
        case measure => simp [intOf]; omega
      · obtain ⟨j, rfl⟩ : ∃ j, k = ns.length + j := ⟨k - ns.length, by omega⟩
        have hM2 := HM.out
        have hj : j < n := by omega
        have hke : ns.length + j - ns.length = j := by omega
        have hke1 : ns.length + j + 1 - ns.length = j + 1 := by omega
        rw [hke] at HUc
        obtain ⟨A', c', e0, e1, e2, hlx⟩ := HU.out.2.2 j (by rw [HEN.out]; exact hj)
        have hpc : wr.cell? ⟨gp, ns.length + j, none⟩ = some (lutP (.int .i64 ((es.getD j (0, [], 0)).1 : Nat)) (.slice A' (es.getD j (0, [], 0)).2.1.length c') (.int .i64 ((es.getD j (0, [], 0)).2.2 : Nat))) := by
          have hgb := HP.out.gb
          have hl := regPs_len (1 + m) ls ns.length
          have h := HP.out.cell hlt (p := lutP (.int .i64 ((es.getD j (0, [], 0)).1 : Nat)) (.slice A' (es.getD j (0, [], 0)).2.1.length c') (.int .i64 ((es.getD j (0, [], 0)).2.2 : Nat))) (by
            rw [List.getElem?_append_right (by omega), hl, Nat.add_sub_cancel_left, lutPs_at hs n j hj]
            simp only [List.getD_eq_getElem?_getD, e0, e1, e2, Option.getD_some])
          rw [← h]
          exact World.cell?_of_block (a := ⟨gp, ns.length + j, none⟩) (HK.out gp hgb.1 hgb.2)
        have hce := HC2.out j hj
        have HTK : Hid (ce.take (ns.length + j + 1) = ce.take (ns.length + j) ++ [((es.getD j (0, [], 0)).1, (es.getD j (0, [], 0)).2.1, (es.getD j (0, [], 0)).2.2, false)]) := Lib.hid (by
          rw [take_succ_getD ce (ns.length + j) (0, [], 0, false) (by rw [HCL.out]; exact hlt), hce])
        have HLH : Hid (lutHd hs (j + 1) = lutHd hs j ++ [.int .i64 ((es.getD j (0, [], 0)).1 : Nat), .slice A' (es.getD j (0, [], 0)).2.1.length c', .int .i64 ((es.getD j (0, [], 0)).2.2 : Nat), .bool false]) := Lib.hid (by
          show lutHd hs j ++ [hs.getD (j * 3) (.bool false), hs.getD (j * 3 + 1) (.bool false), hs.getD (j * 3 + 2) (.bool false), .bool false] = _
          simp only [List.getD_eq_getElem?_getD, e0, e1, e2, Option.getD_some])
        have HLX := Lib.hid hlx
        have HTL : Hid ((ce.take (ns.length + j)).length = ns.length + j) := Lib.hid (by rw [List.length_take, HCL.out]; omega)
        generalize (es.getD j (0, [], 0)).2.2 = t at *
        generalize (es.getD j (0, [], 0)).2.1 = y at *
        generalize (es.getD j (0, [], 0)).1 = v at *
        generalize ce.take (ns.length + j) = cs at *
        have HK1 := Lib.hid hke1
        have hQl := HUc.out.gb
        clear hce hke hke1 hM2 e0 e1 e2 hlx
        obtain ⟨yl, hyl⟩ : ∃ yl, y.length = yl := ⟨_, rfl⟩
        rw [hyl] at hpc HLH
        have HYL := Lib.hid hyl
        clear hyl
        unfold lutP at hpc
        generalize hKK : ns.length + j = K at *
        have HKK := Lib.hid hKK
        clear hKK
        go_wp2_with fail
        rw [Try.meth_lut]
        go_wp2_with fail
        refine (lutCell_any A' v yl c' t _).mono ?_
        rintro e w4 ⟨rfl, hb4⟩
        have hgb := HUc.out.gb
        have hz4 := hb4.size
        have HU4 := Lib.hid (CeAt.on HUc.out hb4)
        have HX4 := Lib.hid (HX.out.trans (hb4.mono (by omega)))
        have HK4 : Hid (∀ b, P ≤ b → b < w3.heap.size → w4.heap[b]? = w3.heap[b]?) := Lib.hid (fun b h1 h2 => by rw [hb4.block b (by omega), HK.out b h1 h2])
        have HLF : Hid (LeafIn w4 (Off w4 N g) A' y) := Lib.hid (HLX.out.kept (fun b hb => HK4.out b hb.1 hb.2.1) (fun b hb => by have h1 := hb.1; have h2 := hb.2.1; exact ⟨by omega, by omega, by omega⟩))
        have HB4 : Hid (∀ u, u ∈ hR → ∀ b, vblk u = some b → w3.heap.size ≤ b ∧ b < w4.heap.size) := Lib.hid (fun u hu b hb => by have := HBR.out u hu b hb; omega)
        have hgw4 : g < w4.heap.size := by omega
        clear hb4 HUc HX HK HBR hpc
        go_wp2_with (at_builtin; refine wpList_pushCe rfl (.tmp 17) (.tmp 20) rfl _ N g cap K cs _ rfl HTL.out HU4.out (by omega) v A' yl c' y t false rfl HYL.out HLF.out ?_)
        intro g' cap' w5 hu5 hb5 hk5 hg5
        have hz5 : w4.heap.size ≤ w5.heap.size := hb5.size
        have HU5 : Hid (CeAt w5 N (cs ++ [(v, y, t, false)]) (hR ++ lutHd hs (j + 1)) g' cap') := Lib.hid (by
          rw [HLH.out]
          exact hu5)
        have HX5 := Lib.hid (HX4.out.trans hb5)
        have HB5 : Hid (∀ u, u ∈ hR → ∀ b, vblk u = some b → w3.heap.size ≤ b ∧ b < w5.heap.size) := Lib.hid (fun u hu b hb => by have := HB4.out u hu b hb; omega)
        have HK5 : Hid (∀ b, P ≤ b → b < w3.heap.size → w5.heap[b]? = w3.heap[b]?) := Lib.hid (fun b h1 h2 => by rw [hk5 b (by omega) (by omega), HK4.out b h1 h2])
        have hgo5 : g' < P ∨ w3.heap.size ≤ g' := by omega
        have hQ5 : w3.heap.size ≤ w5.heap.size := by omega
        clear hu5 hb5 hk5 HU4 HX4 HB4 HK4
        go_wp2
        go_roundw
        case rel => exact ⟨K + 1, g', cap', hR, by omega, by go_num, rfl, by rw [HTK.out, HK1.out]; exact HU5, HDR, HB5, HK5, hgo5, hQ5, HX5⟩
        case measure => simp [intOf]; omega
    · obtain rfl : k = M := by omega
      have HDD : Hid (DistH (hR ++ lutHd hs (k - ns.length))) := Lib.hid (dist_app (Q := w3.heap.size) HDR.out (lutHd_dist HD.out _) (fun u hu b hb => (HBR.out u hu b hb).1) (fun u hu b hb => (lutHd_blk HU.out.2 _ u hu b hb).2.1))
      have HUe : Hid (CeAt wr N ce (hR ++ lutHd hs (k - ns.length)) g cap) := Lib.hid (by have h := HUc.out; rwa [List.take_of_length_le (by rw [HCL.out]; exact Nat.le_refl _)] at h)
      go_wp2
      go_ret
      exact ⟨g, cap, _, rfl, ⟨own_low2 HUe.out.1 (by omega), HUe.out.2.kept (fun _ _ => rfl) (fun b hb => ⟨by have := hb.1; omega, hb.2⟩)⟩, HDD.out, HL1.out.trans (HX.out.mono (by omega))⟩

set_option maxHeartbeats 800000 in
theorem icells_f (i : Int) (nA gA oA : Option Addr) (nc gc oc : Nat) (ns : List Int) (gs : List (Int × Int)) (os : List Int) (w : World) (hv : Circ.validB i ns gs os = false) (hc : CircAt w w.heap.size nA gA oA ns gs os) :
    Calls Try.prog 26 #[.agg #[.int .i64 i, .slice nA ns.length nc, .slice gA gs.length gc, .slice oA os.length oc]] w fun e w' => (∃ (A : Option Addr) (cap : Nat), e = .returned (.slice A 0 cap)) ∧ Below w.heap.size w w' := by
  have hbw : Below w.heap.size w (w.alloc (.cells #[.int .i64 i, .slice nA ns.length nc, .slice gA gs.length gc, .slice oA os.length oc] 26)) := (Below.refl _ _).alloc (Nat.le_refl _) _
  have HC := Lib.hid ((hc.below hbw).mono hbw.size)
  have HL0 := Lib.hid hbw
  clear hc hbw
  go_enter Try.func26, Try.ntmps26
  go_wp2_with fail
  refine (valid_any i nA gA oA nc gc oc ns gs os _ HC.out).mono ?_
  rintro e w1 ⟨rfl, hb1⟩
  rw [hv]
  have HL1 := Lib.hid (HL0.out.trans (hb1.mono HL0.out.size))
  clear hb1 HL0 HC
  go_wp2
  go_ret
  exact ⟨⟨_, _, rfl⟩, HL1.out⟩
end Go.Proofs.Ythcpgbfghededaa
