/- The contract of the model's cells. -/
import Derived.Test.YtkkkkalgfmddbaaCT
namespace Go.Proofs.Ytkkkkalgfmddbaa
open Go.RowKit Go.Deep Cut

theorem three_on {w w' : World} {b : Nat} {o1 o2 o3 : Nat} {x y z : Value} (h : Below w.heap.size w w') (hb : b < w.heap.size) (s : w.cell? ⟨b, o1, none⟩ = some x ∧ w.cell? ⟨b, o2, none⟩ = some y ∧ w.cell? ⟨b, o3, none⟩ = some z) : w'.cell? ⟨b, o1, none⟩ = some x ∧ w'.cell? ⟨b, o2, none⟩ = some y ∧ w'.cell? ⟨b, o3, none⟩ = some z :=
  ⟨(h.cell (by exact hb)).trans s.1, (h.cell (by exact hb)).trans s.2.1, (h.cell (by exact hb)).trans s.2.2⟩
theorem three_of {w w' : World} {b : Nat} {o1 o2 o3 : Nat} {x y z : Value} (h : w'.heap[b]? = w.heap[b]?) (s : w.cell? ⟨b, o1, none⟩ = some x ∧ w.cell? ⟨b, o2, none⟩ = some y ∧ w.cell? ⟨b, o3, none⟩ = some z) : w'.cell? ⟨b, o1, none⟩ = some x ∧ w'.cell? ⟨b, o2, none⟩ = some y ∧ w'.cell? ⟨b, o3, none⟩ = some z :=
  ⟨(World.cell?_of_block (a := ⟨b, o1, none⟩) h).trans s.1, (World.cell?_of_block (a := ⟨b, o2, none⟩) h).trans s.2.1, (World.cell?_of_block (a := ⟨b, o3, none⟩) h).trans s.2.2⟩

set_option maxRecDepth 10000 in
set_option maxHeartbeats 2000000 in
theorem sl6_any (i : Int) (nA gA oA : Option Addr) (nc gc oc : Nat) (ns : List Int) (gs : List (Int × Int)) (os : List Int) (w : World) (hv : Circ.validB i ns gs os = true) (hc : CircAt w w.heap.size nA gA oA ns gs os) :
    Calls Try.prog 137 #[.agg #[.int .i64 i, .slice nA ns.length nc, .slice gA gs.length gc, .slice oA os.length oc]] w fun e w' => ∃ (g cap : Nat) (hs : List Value), e = .returned (.slice (some ⟨g, 0, none⟩) (cellsV i ns gs os).length cap) ∧ CeAt w' w.heap.size (cellsV i ns gs os) hs g cap ∧ Below w.heap.size w w' := by
  obtain ⟨h0, h1, h2, h3, h4⟩ := Circ.valid_within hv
  obtain ⟨m, rfl⟩ := Int.eq_ofNat_of_zero_le h0
  have hnx := Circ.valid_next hv
  have HN := Lib.hid (show ∀ k, k < ns.length → ∃ l : Nat, ns.getD k 0 = (l : Int) ∧ (Opt.natL ns).getD k 0 = l ∧ l ≤ 1000 from fun k hk => by
    have := Circ.litsOk_get hnx hk
    have e := natL_get ns k hk (by omega)
    exact ⟨_, e, rfl, by omega⟩)
  have hce : cellsV m ns gs os = regsTo (1 + m) (Opt.natL ns) ns.length ++ lutsC (lutsV (Opt.fst m ns) (Opt.natG gs) (Opt.natL ns) (Opt.natL os)) := by unfold cellsV; rw [if_pos hv]; rfl
  obtain ⟨es, hes⟩ : ∃ es, lutsV (Opt.fst m ns) (Opt.natG gs) (Opt.natL ns) (Opt.natL os) = es := ⟨_, rfl⟩
  have hln : es.length ≤ 14 := by
    have := lutsTo_len (Opt.fst m ns) (Opt.natG gs) (bests (Opt.fst m ns) (Opt.natG gs)) (needV (Opt.fst m ns) (Opt.natG gs) (Opt.natL ns) (Opt.natL os)) (Opt.natG gs).length
    have hgl : (Opt.natG gs).length = gs.length := Opt.natG_len gs
    rw [← hes]
    show (lutsTo _ _ _ _ _).length ≤ 14
    omega
  have hme : mapV m ns gs os = es := by unfold mapV; rw [if_pos hv, hes]
  have HBD : Hid (∀ k, k < es.length → (es.getD k (0, [], 0)).1 ≤ 22 ∧ (es.getD k (0, [], 0)).2.1.length ≤ 3 ∧ (es.getD k (0, [], 0)).2.2 < 256) := Lib.hid (by have h := (mapV_bd m ns gs os).2; rwa [hme] at h)
  clear hme
  rw [hes] at hce
  have HES := Lib.hid hes
  have HV := Lib.hid hv
  obtain ⟨n, hn⟩ : ∃ n, es.length = n := ⟨_, rfl⟩
  rw [hn] at hln HBD
  have HEN := Lib.hid hn
  obtain ⟨ls, hls⟩ : ∃ ls, Opt.natL ns = ls := ⟨_, rfl⟩
  rw [hls] at HN hce
  obtain ⟨ce, hcc⟩ : ∃ ce, cellsV m ns gs os = ce := ⟨_, rfl⟩
  rw [hcc] at hce ⊢
  have HCE := Lib.hid hce
  have HCL : Hid (ce.length = ns.length + n) := Lib.hid (by rw [hce, List.length_append, regsTo_len, lutsC_len, hn])
  rw [HCL.out]
  have HB0 := Lib.hid (Boxed.new w (m : Int) nA gA oA ns.length nc gs.length gc os.length oc 108)
  have hbw : Below w.heap.size w (w.alloc (.cells #[.int .i64 m, .slice nA ns.length nc, .slice gA gs.length gc, .slice oA os.length oc] 108)) := (Below.refl _ _).alloc (Nat.le_refl _) _
  have hsz0 : (w.alloc (.cells #[.int .i64 m, .slice nA ns.length nc, .slice gA gs.length gc, .slice oA os.length oc] 108)).heap.size = w.heap.size + 1 := by simp
  have HC1 := Lib.hid ((hc.below hbw).mono hbw.size)
  have HZ0 := Lib.hid hsz0
  have HL0 := Lib.hid hbw
  clear hv hc hnx hes hn hbw hsz0 hls hce hcc
  go_enter Try.func137, Try.ntmps137
  go_upto_region 1 with fail
  generalize w.alloc (.cells #[.int .i64 m, .slice nA ns.length nc, .slice gA gs.length gc, .slice oA os.length oc] 108) = w1 at *
  have hww1 : w.heap.size < w1.heap.size := by have := HZ0.out; omega
  have HU0 := Lib.hid (CeAt.made w1 w1.heap.size (Nat.le_refl _))
  have HX0 := Lib.hid (show Below w1.heap.size w1 (w1.alloc (.cells #[] 189)) from (Below.refl _ _).alloc (Nat.le_refl _) _)
  go_upto_region 3 with fail
  generalize w1.alloc (.cells #[] 189) = w2 at *
  generalize w1.heap.size = N at *
  have hNw : w.heap.size < N := hww1
  clear hww1
  go_loopw [3, 4] (fun pv iv wr => ∃ (k g cap : Nat) (hs : List Value), k ≤ ns.length ∧ iv = .int .i64 k ∧ pv = .slice (some ⟨g, 0, none⟩) k cap ∧ Hid (CeAt wr N (regsTo (1 + m) ls k) hs g cap) ∧ Hid (Below N w1 wr)) (fun _ iv _ => ns.length - (intOf iv).toNat)
  case atStart => exact ⟨0, _, _, [], Nat.zero_le _, rfl, rfl, HU0, HX0⟩
  case round =>
    clear HU0 HX0
    obtain ⟨k, g, cap, hs, hk, rfl, rfl, HU, HX⟩ := hrel
    have HBx := Lib.hid (HB0.out.below HX.out hNw)
    have q0 := HBx.out.c0
    have q1 := HBx.out.c1
    by_cases hlt : k < ns.length
    · obtain ⟨b, off, rfl, hbl, hcell⟩ := HC1.out.next k hlt
      obtain ⟨l, e1, e2, hl⟩ := HN.out k hlt
      rw [e1] at hcell
      have hcr := (HX.out.cell (p := ⟨b, off + k, none⟩) hbl).trans hcell
      have HRP : Hid (regsTo (1 + m) ls (k + 1) = regsTo (1 + m) ls k ++ [(1 + m + k, nextY l, nextT l, true)]) := Lib.hid (by rw [← e2]; rfl)
      have HRL : Hid ((regsTo (1 + m) ls k).length = k) := Lib.hid (regsTo_len _ _ _)
      have hgb := HU.out.gb
      clear hcell e1 e2
      generalize regsTo (1 + m) ls k = es' at *
      obtain ⟨v, hv⟩ : ∃ v : Nat, 1 + m + k = v := ⟨_, rfl⟩
      have ev : (m : Int) + 1 + (k : Int) = (v : Int) := by omega
      have ev2 : (1 : Int) + (m : Int) + (k : Int) = (v : Int) := by omega
      have ev3 : (m : Int) + (1 + (k : Int)) = (v : Int) := by omega
      rw [hv] at HRP
      clear hv
      go_upto_region 7 with fail
      clear ev ev2 ev3
      have hrx : Row (wr.alloc (.cells #[.int .i64 v, .slice none 0 0, .int .i64 0, .bool true] 189)) wr.heap.size 189 #[.int .i64 v, .slice none 0 0, .int .i64 0, .bool true] := heap_alloc_new wr _
      have hbx : Below wr.heap.size wr (wr.alloc (.cells #[.int .i64 v, .slice none 0 0, .int .i64 0, .bool true] 189)) := (Below.refl _ _).alloc (Nat.le_refl _) _
      have hzx : (wr.alloc (.cells #[.int .i64 v, .slice none 0 0, .int .i64 0, .bool true] 189)).heap.size = wr.heap.size + 1 := by simp
      generalize wr.alloc (.cells #[.int .i64 v, .slice none 0 0, .int .i64 0, .bool true] 189) = wx at *
      generalize hqq : wr.heap.size = q at *
      have HRX := Lib.hid hrx
      have p0 := hrx.cell 0
      have p1 := hrx.cell 1
      have p2 := hrx.cell 2
      have p3 := hrx.cell 3
      have f1 := hrx.frozen 1
      have f2 := hrx.frozen 2
      simp at p0 p1 p2 p3
      clear hrx
      by_cases hl2 : l / 2 = 0
      · have hd : (l : Int) / 2 = 0 := by omega
        have HY : Hid (nextY l = []) := Lib.hid (by unfold nextY; rw [if_pos hl2])
        have HT : Hid (nextT l = l % 2) := Lib.hid (by unfold nextT; rw [if_pos hl2])
        have hm : (l : Int) % 2 = ((l % 2 : Nat) : Int) := by omega
        generalize l % 2 = r at *
        go_upto_region 11 with fail
        rw [HY.out, HT.out] at HRP
        have hb5 : Below q wr (wx.setCell ⟨q, 2, none⟩ (.int .i64 r)) := hbx.setCell (p := ⟨q, 2, none⟩) (Nat.le_refl q) _
        have hr5 := HRX.out.set 2 (.int .i64 (r : Int))
        have hz5 : (wx.setCell ⟨q, 2, none⟩ (.int .i64 r)).heap.size = q + 1 := by simp [World.setCell]; exact hzx
        have HLF : Hid (LeafIn (wx.setCell ⟨q, 2, none⟩ (.int .i64 r)) (Off (wx.setCell ⟨q, 2, none⟩ (.int .i64 r)) N g) none []) := Lib.hid (.inl rfl)
        have HR5 := Lib.hid hr5
        have HU5 := Lib.hid (CeAt.on HU.out (by rw [hqq]; exact hb5))
        have HX5 := Lib.hid (HX.out.trans (hb5.mono (by omega)))
        generalize wx.setCell ⟨q, 2, none⟩ (.int .i64 r) = w5 at *
        have p0 := HR5.out.cell 0
        have p1 := HR5.out.cell 1
        have p2 := HR5.out.cell 2
        have p3 := HR5.out.cell 3
        simp at p0 p1 p2 p3
        have hgw5 : g < w5.heap.size := by omega
        clear hb5 hr5 HU HX HRX hz5
        go_wp2_with (at_builtin; refine wpList_pushCe rfl (.tmp 42) (.tmp 44) rfl _ N g cap k es' _ rfl HRL.out HU5.out (by omega) v none 0 0 [] r true rfl rfl HLF.out ?_)
        intro g' cap' w6 hu6 hb6 _ _
        have HX6 := Lib.hid (HX5.out.trans hb6)
        have HU6 := Lib.hid hu6
        clear hu6 hb6 p0 p1 p2 p3
        go_wp2
        go_roundw
        case rel => exact ⟨k + 1, g', cap', _, by omega, by go_num, rfl, by rw [HRP.out]; exact HU6, HX6⟩
        case measure => simp [intOf]; omega
      · obtain ⟨d, hd, hd0⟩ : ∃ d : Nat, (l : Int) / 2 = (d : Int) ∧ 0 < d := ⟨l / 2, by omega, by omega⟩
        have HY : Hid (nextY l = [d]) := Lib.hid (by unfold nextY; rw [if_neg hl2]; congr 1; omega)
        have HT : Hid (nextT l = 2 - l % 2) := Lib.hid (by unfold nextT; rw [if_neg hl2])
        obtain ⟨r, hm, hr⟩ : ∃ r : Nat, (2 : Int) - (l : Int) % 2 = (r : Int) ∧ 2 - l % 2 = r := ⟨2 - l % 2, by omega, rfl⟩
        rw [hr] at HT
        have hd0' : (0 : Int) < (d : Int) := by omega
        clear hr
        go_upto_region 11 with fail
        rw [HY.out, HT.out] at HRP
        have hzs : ((wx.setCell ⟨q, 1, none⟩ (.slice (some ⟨q + 1, 0, none⟩) 1 1)).setCell ⟨q, 2, none⟩ (.int .i64 r)).heap.size = q + 1 := by simp [World.setCell]; exact hzx
        have hb5 : Below q wr (((wx.setCell ⟨q, 1, none⟩ (.slice (some ⟨q + 1, 0, none⟩) 1 1)).setCell ⟨q, 2, none⟩ (.int .i64 r)).alloc (.cells #[.int .i64 d] 3)) := ((hbx.setCell (p := ⟨q, 1, none⟩) (Nat.le_refl q) _).setCell (p := ⟨q, 2, none⟩) (Nat.le_refl q) _).alloc (by omega) _
        have hr5 := ((HRX.out.set 1 (.slice (some ⟨q + 1, 0, none⟩) 1 1)).set 2 (.int .i64 (r : Int))).below ((Below.refl (q + 1) ((wx.setCell ⟨q, 1, none⟩ (.slice (some ⟨q + 1, 0, none⟩) 1 1)).setCell ⟨q, 2, none⟩ (.int .i64 r))).alloc (by omega) (.cells #[.int .i64 d] 3)) (Nat.lt_succ_self q)
        have hz5 : (((wx.setCell ⟨q, 1, none⟩ (.slice (some ⟨q + 1, 0, none⟩) 1 1)).setCell ⟨q, 2, none⟩ (.int .i64 r)).alloc (.cells #[.int .i64 d] 3)).heap.size = q + 2 := by simp only [World.size_alloc, hzs]
        have hn5 := heap_alloc_new ((wx.setCell ⟨q, 1, none⟩ (.slice (some ⟨q + 1, 0, none⟩) 1 1)).setCell ⟨q, 2, none⟩ (.int .i64 r)) (.cells #[.int .i64 d] 3)
        rw [hzs] at hn5
        have HLF : Hid (LeafIn (((wx.setCell ⟨q, 1, none⟩ (.slice (some ⟨q + 1, 0, none⟩) 1 1)).setCell ⟨q, 2, none⟩ (.int .i64 r)).alloc (.cells #[.int .i64 d] 3)) (Off (((wx.setCell ⟨q, 1, none⟩ (.slice (some ⟨q + 1, 0, none⟩) 1 1)).setCell ⟨q, 2, none⟩ (.int .i64 r)).alloc (.cells #[.int .i64 d] 3)) N g) (some ⟨q + 1, 0, none⟩) [d]) := Lib.hid (.inr ⟨q + 1, _, rfl, ⟨by omega, by omega, by omega⟩, hn5, fun j hj => by simp at hj; subst hj; rfl⟩)
        clear hn5 hzs
        have HR5 := Lib.hid hr5
        have HU5 := Lib.hid (CeAt.on HU.out (by rw [hqq]; exact hb5))
        have HX5 := Lib.hid (HX.out.trans (hb5.mono (by omega)))
        generalize ((wx.setCell ⟨q, 1, none⟩ (.slice (some ⟨q + 1, 0, none⟩) 1 1)).setCell ⟨q, 2, none⟩ (.int .i64 r)).alloc (.cells #[.int .i64 d] 3) = w5 at *
        have p0 := HR5.out.cell 0
        have p1 := HR5.out.cell 1
        have p2 := HR5.out.cell 2
        have p3 := HR5.out.cell 3
        simp at p0 p1 p2 p3
        have hgw5 : g < w5.heap.size := by omega
        clear hb5 hr5 HU HX HRX hz5
        go_wp2_with (at_builtin; refine wpList_pushCe rfl (.tmp 42) (.tmp 44) rfl _ N g cap k es' _ rfl HRL.out HU5.out (by omega) v (some ⟨q + 1, 0, none⟩) 1 1 [d] r true rfl rfl HLF.out ?_)
        intro g' cap' w6 hu6 hb6 _ _
        have HX6 := Lib.hid (HX5.out.trans hb6)
        have HU6 := Lib.hid hu6
        clear hu6 hb6 p0 p1 p2 p3
        go_wp2
        go_roundw
        case rel => exact ⟨k + 1, g', cap', _, by omega, by go_num, rfl, by rw [HRP.out]; exact HU6, HX6⟩
        case measure => simp [intOf]; omega
    · obtain rfl : k = ns.length := by omega
      have HCr := Lib.hid ((HC1.out.below ((HX.out).mono (Nat.le_refl N))))
      have q2 := HBx.out.c2
      have q3 := HBx.out.c3
      have hgb := HU.out.gb
      have hNr : N ≤ wr.heap.size := by omega
      have HCq := Lib.hid (HCr.out.mono hNr)
      go_wp2_with fail
      refine (smap_any (m : Int) nA gA oA nc gc oc ns gs os _ HV.out HCq.out).mono ?_
      rintro e w4 ⟨gl, cl, hl, rfl, hx4, hb4⟩
      rw [HES.out, HEN.out]
      rw [HES.out] at hx4
      have HU4 := Lib.hid (CeAt.on HU.out hb4)
      have HX4 := Lib.hid (HX.out.trans (hb4.mono hNr))
      have HL4 := Lib.hid hx4
      have hz4 := hb4.size
      have HUz : Hid (CeAt w4 N (regsTo (1 + m) ls ns.length ++ lutsC (es.take 0)) hs g cap) := Lib.hid (by
        have e : lutsC (es.take 0) = [] := rfl
        rw [e, List.append_nil]; exact HU4.out)
      obtain ⟨R, hR⟩ : ∃ R, wr.heap.size = R := ⟨_, rfl⟩
      rw [hR] at HL4 hz4
      have hgo : g < R ∨ w4.heap.size ≤ g := .inl (by omega)
      have hN4 : N ≤ R := by omega
      clear hx4 hb4 HU HU4 HX q0 q1 q2 q3 HBx hgb hNr hR
      obtain ⟨i0, hi0, hz0, hz1, hz2⟩ := info_parts Try.info3
      have HI0 := Lib.hid hi0
      have HI1 := Lib.hid hz0
      have HI2 := Lib.hid hz1
      have HI3 := Lib.hid hz2
      clear hi0 hz0 hz1 hz2
      go_upto_region 14 with fail
      go_loopw [3, 8] (fun pv iv wr => ∃ (j g cap : Nat) (hs : List Value), j ≤ n ∧ iv = .int .i64 j ∧ pv = .slice (some ⟨g, 0, none⟩) (ns.length + j : Nat) cap ∧ Hid (CeAt wr N (regsTo (1 + m) ls ns.length ++ lutsC (es.take j)) hs g cap) ∧ Hid (∀ b, R ≤ b → b < w4.heap.size → wr.heap[b]? = w4.heap[b]?) ∧ (g < R ∨ w4.heap.size ≤ g) ∧ w4.heap.size ≤ wr.heap.size ∧ Hid (Below N w1 wr)) (fun _ iv _ => n - (intOf iv).toNat)
      case atStart => exact ⟨0, g, cap, hs, Nat.zero_le _, rfl, rfl, HUz, Lib.hid (fun _ _ _ => rfl), hgo, Nat.le_refl _, HX4⟩
      case round =>
        clear HUz hgo HX4
        obtain ⟨j, g, cap, hs, hj, rfl, rfl, HU, HK, hgo, hzr, HX⟩ := hrel
        have HLr := Lib.hid (LuAt.keep HL4.out HK.out hzr)
        by_cases hlt2 : j < n
        · obtain ⟨b, off, hbo, hbl, A', c', l0, l1, l2, hlf⟩ := HLr.out.read j (by rw [HEN.out]; exact hlt2)
          injection hbo with hbo
          injection hbo with y1 y2
          subst y1 y2
          rw [Nat.zero_add] at l0 l1 l2
          have HLS : Hid (regsTo (1 + m) ls ns.length ++ lutsC (es.take (j + 1)) = (regsTo (1 + m) ls ns.length ++ lutsC (es.take j)) ++ [((es.getD j (0, [], 0)).1, (es.getD j (0, [], 0)).2.1, (es.getD j (0, [], 0)).2.2, false)]) := Lib.hid (by rw [lutsC_snoc es j (by rw [HEN.out]; exact hlt2), List.append_assoc])
          have HLL : Hid ((regsTo (1 + m) ls ns.length ++ lutsC (es.take j)).length = ns.length + j) := Lib.hid (by rw [List.length_append, regsTo_len, lutsC_len, List.length_take, HEN.out]; omega)
          generalize regsTo (1 + m) ls ns.length ++ lutsC (es.take j) = cs at *
          have HIr := Lib.hid hlf
          have hyb := (HBD.out j hlt2).2.1
          generalize (es.getD j (0, [], 0)).2.2 = t at *
          generalize (es.getD j (0, [], 0)).2.1 = y at *
          generalize (es.getD j (0, [], 0)).1 = v at *
          obtain ⟨yl, hyl⟩ : ∃ yl, y.length = yl := ⟨_, rfl⟩
          rw [hyl] at l1 hyb
          have HYL := Lib.hid hyl
          clear hyl hlf
          have hgb := HU.out.gb
          have hglb := HL4.out.gb
          have hHS := Lib.hid (And.intro l0 (And.intro l1 l2))
          have HWl := Lib.hid (World.ownsRow_lit (base := wr.heap.size) (e := 3) (size := 1) wr #[] 0 (Nat.le_refl _) (by simp [maxLen]) (by simp))
          generalize hKK : ns.length + j = K at *
          have HKK := Lib.hid hKK
          have hK17 : K ≤ 17 := by omega
          clear hKK
          go_upto_region 16 with fail
          have tokX : True := trivial
          go_region_held3 (fun w' => w'.cell? ⟨gl, j * 3, none⟩ = some (.int .i64 v) ∧ w'.cell? ⟨gl, j * 3 + 1, none⟩ = some (.slice A' yl c') ∧ w'.cell? ⟨gl, j * 3 + 2, none⟩ = some (.int .i64 t))
            (first | (with_reducible assumption) | go_keep)
            (first
              | (revert tokX; intro tokX; refine step_append_src _ (by rfl) (.tmp 60) (.tmp 65) 31 (by rfl) wr.heap.size 3 i0 _ 1 8 Try.underlying31 HI0.out HI1.out HI2.out HI3.out rfl (by omega) wr.heap.size 0 0 [] (by rfl) (HWl.out.drew) A' yl c' (ivs (Opt.intL y)) (by rfl) (by rw [ivs_len, Opt.intL_len, HYL.out]; omega) ?_ (ivs_oneM _) (by simp [maxLen]; omega) (by omega) (by simp) (wr.heap.size + 1) (by simp) ?_; (exact ints_srcM (HIr.out.below ((Below.refl _ _).alloc (Nat.le_refl _) _).drew)); intro g5 cap5 w5 hown5 hgr5 hat5; have hb5 : Below wr.heap.size wr w5 := Below.grown (((Below.refl wr.heap.size wr).alloc (Nat.le_refl _) _).drew) hgr5 (by simp) (fun k hk => by injection hk; omega); have hS5 := three_on hb5 hbl hHS.out; have hz5 : wr.heap.size ≤ w5.heap.size := hb5.size; have hg5 : wr.heap.size ≤ g5 ∧ g5 < w5.heap.size := hown5.lt g5 rfl; have hlf5 : LeafIn w5 (Off w5 N g) (some ⟨g5, 0, none⟩) y := (own_leaf (T := fun b => b = g5) (by rw [← HYL.out] at hown5; simpa using hown5) rfl).kept (fun _ _ => rfl) (fun b hb => by subst hb; exact ⟨by omega, hg5.2, by omega⟩); clear tokX)
              | (refine step_pushCe (by rfl) (.tmp 54) (.tmp 73) (by rfl) w5 N g cap K cs hs (by rfl) HLL.out (CeAt.on HU.out hb5) (by omega) v (some ⟨g5, 0, none⟩) yl cap5 y t false (by rfl) HYL.out hlf5 ?_; intro g' cap' w6 hu6 hb6 hk6 hg6; have hS6 := three_of (hk6 gl (by omega) (by omega)) hS5))
          rename_i _hheld16
          clear _hheld16 hS5 hS6
          have HK6 : Hid (∀ b, R ≤ b → b < w4.heap.size → w6.heap[b]? = w4.heap[b]?) := Lib.hid (fun b h1 h2 => by rw [hk6 b (by omega) (by omega), hb5.block b (by omega), HK.out b h1 h2])
          have HX6 := Lib.hid ((HX.out.trans (hb5.mono (by omega))).trans hb6)
          have hgo6 : g' < R ∨ w4.heap.size ≤ g' := by omega
          have hz6 : w4.heap.size ≤ w6.heap.size := by have := hb6.size; omega
          have HU6 : Hid (CeAt w6 N (regsTo (1 + m) ls ns.length ++ lutsC (es.take (j + 1))) _ g' cap') := Lib.hid (by rw [HLS.out]; exact hu6)
          clear hu6 hb6 hk6 hb5 hlf5 hown5 hgr5 hat5 l0 l1 l2 hHS
          go_wp2
          go_roundw
          case rel => exact ⟨j + 1, g', cap', _, by omega, by go_num, by rw [show ns.length + (j + 1) = K + 1 by have := HKK.out; omega], HU6, HK6, hgo6, hz6, HX6⟩
          case measure => simp [intOf]; omega
        · obtain rfl : j = n := by omega
          have HUe : Hid (CeAt wr N ce hs g cap) := Lib.hid (by
            have h := HU.out
            rw [List.take_of_length_le (by rw [HEN.out]; exact Nat.le_refl _)] at h
            rwa [HCE.out])
          go_wp2
          go_ret
          exact ⟨g, cap, hs, rfl, ⟨own_low2 HUe.out.1 (by omega), HUe.out.2.kept (fun _ _ => rfl) (fun b hb => ⟨by have := hb.1; omega, hb.2⟩)⟩, HL0.out.trans (HX.out.mono (by omega))⟩

end Go.Proofs.Ytkkkkalgfmddbaa
