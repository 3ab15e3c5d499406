/- The program's placer: measureNetsOf, exchange, Move, Undo. -/
import Derived.Test.YtliaommpnaagiaaGreatPR
import Derived.BigRegion
import Derived.Deep.DeepCutAuto
namespace Plc
theorem take_snoc (ys : List Nat) {k : Nat} (hk : k < ys.length) : ys.take (k + 1) = ys.take k ++ [ys.getD k 0] := by
  rw [List.take_succ_eq_append_getElem hk, List.getD_eq_getElem?_getD, List.getElem?_eq_getElem hk]
  rfl
end Plc
namespace Go.Proofs.YtliaommpnaagiaaGreat
open Go.RowKit Go.Deep Cut Plc

set_option maxRecDepth 10000 in
set_option maxHeartbeats 1000000 in
theorem measNets_any (BS P gp gl g n N cc v : Nat) (AC : Option Addr) (ce : List Cl) (ps : List (List Pn)) (pl : List Nat) (on : List Int) (L : List Nat) (x y : Int) (Ay : Option Addr) (yl yc t : Nat) (r : Bool) (ys : List Nat) (w : World) (hS : PSt w BS P gp gl g n N AC ce ps) (hA : PAt w BS P gp gl g n N cc AC pl on L x y) (hp : Pl n pl) (hv : v < N) (hn : n ≤ 17) (hN : N ≤ 25) (hok : ∀ u k, k < (ps.getD u []).length → okPin n ((ps.getD u []).getD k (0, 0))) (h8 : ∀ u, lenP pl (ps.getD u []) ≤ 8) (hyl : ys.length = yl) (hyb : yl ≤ 1000) (hyi : IntsAt w BS Ay (Opt.intL ys)) (hys : ∀ j, j < yl → ys.getD j 0 < N) :
    Calls Tryz.prog 87 #[.pointer (some ⟨P, 0, none⟩), .agg #[.int .i64 (v : Int), .slice Ay yl yc, .int .i64 (t : Int), .bool r]] w fun e w' => e = .returned (.tuple #[]) ∧ PAt w' BS P gp gl g n N cc AC pl on (measAll pl ps L (v :: ys)) x y ∧ Kp BS P gp gl w w' := by
  have hzB := hS.zB
  have hbw : Below w.heap.size w (w.alloc (.cells #[.int .i64 (v : Int), .slice Ay yl yc, .int .i64 (t : Int), .bool r] 87)) := (Below.refl _ _).alloc (Nat.le_refl _) _
  have hr0 : Row (w.alloc (.cells #[.int .i64 (v : Int), .slice Ay yl yc, .int .i64 (t : Int), .bool r] 87)) w.heap.size 87 #[.int .i64 (v : Int), .slice Ay yl yc, .int .i64 (t : Int), .bool r] := heap_alloc_new w _
  have HS := Lib.hid hS
  have HA0 := Lib.hid (hA.on hbw)
  have HK0 : Hid (Kp BS P gp gl w (w.alloc (.cells #[.int .i64 (v : Int), .slice Ay yl yc, .int .i64 (t : Int), .bool r] 87))) := Lib.hid (Kp.of hbw hzB)
  have HP := Lib.hid hp
  have HOK := Lib.hid hok
  have H8 := Lib.hid h8
  have HYL := Lib.hid hyl
  have HYI := Lib.hid hyi
  have HYS := Lib.hid hys
  have hPz := hA.row.lt
  have hpz := hA.pos.gb
  have hlz := hA.len.gb
  have HT0 : Hid (measAll pl ps L (v :: ys.take 0) = L.set v (lenP pl (ps.getD v []))) := Lib.hid rfl
  have HTS : Hid (∀ k, k < yl → measAll pl ps L (v :: ys.take (k + 1)) = (measAll pl ps L (v :: ys.take k)).set (ys.getD k 0) (lenP pl (ps.getD (ys.getD k 0) []))) := Lib.hid (fun k hk => by
    rw [take_snoc ys (by rw [hyl]; exact hk)]
    exact measAll_snoc pl ps (v :: ys.take k) L _)
  have HTF : Hid (measAll pl ps L (v :: ys.take yl) = measAll pl ps L (v :: ys)) := Lib.hid (by rw [List.take_of_length_le (by omega)])
  clear hS hA hp hok h8 hyl hyi hys hbw
  go_enter Tryz.func87, Tryz.ntmps87
  go_upto_region 1 with fail
  generalize w.alloc (.cells #[.int .i64 (v : Int), .slice Ay yl yc, .int .i64 (t : Int), .bool r] 87) = w0 at *
  have c0 := hr0.cell 0
  simp at c0
  go_wp2_with fail
  refine (measure_any BS P gp gl g n N cc v AC ce ps pl on L x y w0 (HS.out.keep HK0.out) HA0.out HP.out hv hn hN (HOK.out v) (H8.out v)).mono ?_
  rintro e w1 ⟨rfl, ha1, hb1, hk1⟩
  rw [← HT0.out] at ha1
  have HA1 := Lib.hid ha1
  have HK1 : Hid (Kp BS P gp gl w w1) := Lib.hid (HK0.out.trans ⟨hb1, fun b h1 h2 _ h4 => hk1 b h1 h2 h4⟩)
  have c1 := (World.cell?_of_block (a := ⟨w.heap.size, 1, none⟩) (hk1 w.heap.size hr0.lt (by omega) (by omega))).trans (hr0.cell 1)
  simp at c1
  clear ha1 hb1 hk1 c0 hr0 HA0 HK0
  go_upto_region 3 with fail
  clear c1
  go_loopw [13] (fun iv wr => ∃ (k : Nat), k ≤ yl ∧ iv = .int .i64 k ∧ Hid (PAt wr BS P gp gl g n N cc AC pl on (measAll pl ps L (v :: ys.take k)) x y) ∧ Hid (Kp BS P gp gl w wr)) (fun iv _ => yl - (intOf iv).toNat)
  case atStart => exact ⟨0, Nat.zero_le _, rfl, HA1, HK1⟩
  case round =>
    clear HA1 HK1
    obtain ⟨k, hk, rfl, HA, HK⟩ := hrel
    by_cases hlt : k < yl
    · obtain ⟨b, off, rfl, hbl, hcy⟩ := HYI.out k (by rw [Opt.intL_len, HYL.out]; exact hlt)
      rw [Opt.intL_at] at hcy
      have hcy := (HK.out.bel.cell (p := ⟨b, off + k, none⟩) hbl).trans hcy
      have huN := HYS.out k hlt
      have HST := Lib.hid (HTS.out k hlt)
      generalize ys.getD k 0 = u at *
      generalize measAll pl ps L (v :: ys.take k) = Lk at *
      go_upto_region 5 with fail
      clear hcy
      go_wp2_with fail
      refine (measure_any BS P gp gl g n N cc u AC ce ps pl on Lk x y wr (HS.out.keep HK.out) HA.out HP.out huN hn hN (HOK.out u) (H8.out u)).mono ?_
      rintro e w3 ⟨rfl, ha3, hb3, hk3⟩
      rw [← HST.out] at ha3
      have HA3 := Lib.hid ha3
      have HK3 : Hid (Kp BS P gp gl w w3) := Lib.hid (HK.out.trans ⟨hb3, fun b h1 h2 _ h4 => hk3 b h1 h2 h4⟩)
      clear ha3 hb3 hk3 HA HK HST
      go_wp2
      go_roundw
      case rel => exact ⟨k + 1, by omega, by go_num, HA3, HK3⟩
      case measure => simp [intOf]; omega
    · obtain rfl : k = yl := by omega
      rw [HTF.out] at HA
      go_wp2_with fail
      go_end0
      exact ⟨rfl, HA.out, HK.out⟩
end Go.Proofs.YtliaommpnaagiaaGreat
/- The program's placer: exchange. -/
namespace Go.Proofs.YtliaommpnaagiaaGreat
open Go.RowKit Go.Deep Cut Plc

theorem PAt.setOn {w : World} {BS P gp gl g n N cc : Nat} {AC : Option Addr} {pl : List Nat} {on : List Int} {L : List Nat} {x y : Int} (h : PAt w BS P gp gl g n N cc AC pl on L x y) {t : Nat} (ht : t < 25) (v : Int) :
    PAt (w.setCell ⟨P, 3 + t, none⟩ (.int .i64 v)) BS P gp gl g n N cc AC pl (on.set t v) L x y := by
  refine ⟨?_, h.pos.far (p := ⟨P, 3 + t, none⟩) h.d1.symm _, h.len.far (p := ⟨P, 3 + t, none⟩) h.d2.symm _, h.pn, h.ln, by rw [List.length_set]; exact h.on25, h.l8, h.hP, h.d1, h.d2, h.d3⟩
  have h1 := h.row.set (3 + t) (.int .i64 v)
  rw [plRow_set_on h.on25 ht] at h1
  exact h1
theorem PAt.setPos {w : World} {BS P gp gl g n N cc : Nat} {AC : Option Addr} {pl : List Nat} {on : List Int} {L : List Nat} {x y : Int} (h : PAt w BS P gp gl g n N cc AC pl on L x y) (j t : Nat) :
    PAt (w.setCell ⟨gp, j, none⟩ (.int .i64 (t : Int))) BS P gp gl g n N cc AC (pl.set j t) on L x y :=
  ⟨h.row.far (p := ⟨gp, j, none⟩) h.d1 _, h.pos.put j t, h.len.far (p := ⟨gp, j, none⟩) h.d3.symm _, by rw [List.length_set]; exact h.pn, h.ln, h.on25, h.l8, h.hP, h.d1, h.d2, h.d3⟩

theorem below_drewN (B : Nat) (w : World) (n : Nat) : Below B w (w.drewN n) := ⟨rfl, rfl, rfl, Nat.le_refl _, fun _ _ => rfl⟩
theorem Kp.drew {BS P gp gl : Nat} {w w' : World} (h : Kp BS P gp gl w w') : Kp BS P gp gl w w'.drew := ⟨h.bel.drew, h.off⟩
theorem updP_neg (pl : List Nat) (t : Nat) : updP pl (-1) t = pl := if_pos rfl
theorem updP_nat (pl : List Nat) (j t : Nat) : updP pl (j : Int) t = pl.set j t := by
  unfold updP
  rw [if_neg (by omega), Int.toNat_natCast]
theorem netsOf_neg (ce : List Cl) : netsOf ce (-1) = [] := if_pos rfl
theorem netsOf_nat (ce : List Cl) (j : Nat) : netsOf ce (j : Int) = (ce.getD j (0, [], 0, false)).1 :: (ce.getD j (0, [], 0, false)).2.1 := by
  unfold netsOf
  rw [if_neg (by omega), Int.toNat_natCast]

set_option maxRecDepth 10000 in
set_option maxHeartbeats 2000000 in
theorem exch_any (BS P gp gl g m n N cc a b : Nat) (AC : Option Addr) (ce : List Cl) (ou : List Nat) (ps : List (List Pn)) (pl : List Nat) (on : List Int) (L : List Nat) (x y : Int) (w : World) (hS : PSt w BS P gp gl g n N AC ce ps) (hA : PAt w BS P gp gl g n N cc AC pl on L x y) (hp : Pl n pl) (ho : OnOk n pl on) (ha : a < 25) (hb : b < 25) (hk : NetOk m n N ce ou) (hps : Pins ps (pinR m ce ou)) (hL : Lok pl ps N L) :
    Calls Tryz.prog 79 #[.pointer (some ⟨P, 0, none⟩), .agg #[.int .i64 (a : Int), .int .i64 (b : Int)]] w fun e w' => e = .returned (.tuple #[]) ∧ (∃ L', PAt w' BS P gp gl g n N cc AC (exP pl a b) (swapL on a b) L' x y ∧ Lok (exP pl a b) ps N L') ∧ Kp BS P gp gl w w' := by
  have hzB := hS.zB
  have hn17 := hk.n17
  have hN25 := hk.N25
  have hbw : Below w.heap.size w (w.alloc (.cells #[.int .i64 (a : Int), .int .i64 (b : Int)] 65)) := (Below.refl _ _).alloc (Nat.le_refl _) _
  have hr0 : Row (w.alloc (.cells #[.int .i64 (a : Int), .int .i64 (b : Int)] 65)) w.heap.size 65 #[.int .i64 (a : Int), .int .i64 (b : Int)] := heap_alloc_new w _
  have HS0 := Lib.hid (hS.keep (Kp.of hbw hzB))
  have HA0 := Lib.hid (hA.on hbw)
  have HKw : Hid (Kp BS P gp gl w (w.alloc (.cells #[.int .i64 (a : Int), .int .i64 (b : Int)] 65))) := Lib.hid (Kp.of hbw hzB)
  have HR0 := Lib.hid hr0
  have hPz := hA.row.lt
  have hpz := hA.pos.gb
  have hlz := hA.len.gb
  have HPB := Lib.hid hA.hP
  have HK := Lib.hid hk
  have HPL' := Lib.hid (exP_ok hp (show a ≤ 24 by omega) (show b ≤ 24 by omega))
  have HOKP : Hid (∀ u k, k < (ps.getD u []).length → okPin n ((ps.getD u []).getD k (0, 0))) := Lib.hid (fun u k hk2 => pinR_ok hk ((hps u _).1 (memD0 hk2)))
  have H8 : Hid (∀ u, lenP (exP pl a b) (ps.getD u []) ≤ 8) := Lib.hid (fun u => len8 hk hps (exP_ok hp (show a ≤ 24 by omega) (show b ≤ 24 by omega)) u)
  obtain ⟨cb, hcb⟩ : ∃ cb, on.getD b 0 = cb := ⟨_, rfl⟩
  obtain ⟨ca, hca⟩ : ∃ ca, on.getD a 0 = ca := ⟨_, rfl⟩
  have hrb := ho.range hb
  have hra := ho.range ha
  rw [hcb] at hrb
  rw [hca] at hra
  have HLF := Lib.hid (lens_ex hk hps hp ho ha hb hL)
  have HUP := Lib.hid (updP_ex ho hp ha hb)
  have HSA : Hid ((swapL on a b).getD a 0 = cb) := Lib.hid (by
    rw [swapL_at ho.len ha hb]
    by_cases e : a = b
    · rw [if_pos e, ← hcb, e]
    · rw [if_neg e, if_pos rfl, hcb])
  have HSB : Hid ((swapL on a b).getD b 0 = ca) := Lib.hid (by rw [swapL_at ho.len ha hb, if_pos rfl, hca])
  rw [hcb, hca] at HLF HUP
  have HPN : Hid (pl.length = n) := Lib.hid hp.len
  have HSW : Hid ((on.set a cb).set b ca = swapL on a b) := Lib.hid (by unfold swapL; rw [hcb, hca])
  have HCB := Lib.hid hcb
  have HCA := Lib.hid hca
  obtain ⟨pm, hpm⟩ : ∃ pm, updP pl cb a = pm := ⟨_, rfl⟩
  rw [hpm] at HUP
  have HPM := Lib.hid hpm
  have HPML : Hid (pm.length = n) := Lib.hid (by rw [← hpm, updP_len]; exact HPN.out)
  obtain ⟨pe, hpe⟩ : ∃ pe, exP pl a b = pe := ⟨_, rfl⟩
  rw [hpe] at HUP HPL' H8 HLF ⊢
  obtain ⟨L1, hL1⟩ : ∃ L1, measAll pe ps L (netsOf ce cb) = L1 := ⟨_, rfl⟩
  have HL1 := Lib.hid hL1
  rw [hL1] at HLF
  obtain ⟨L2, hL2⟩ : ∃ L2, measAll pe ps L1 (netsOf ce ca) = L2 := ⟨_, rfl⟩
  have HL2 := Lib.hid hL2
  rw [hL2] at HLF
  clear hpm hpe hL1 hL2
  clear hS hA hp ho hk hps hL hbw hr0 hcb hca
  have x0 : ∀ w, (Instr.index 65 (.agg #[.int .i64 (a : Int), .int .i64 (b : Int)]) (.int .i64 0)).run Tryz.prog w = .ok (.int .i64 (a : Int)) w := fun _ => by kernel_rfl
  have x1 : ∀ w, (Instr.index 65 (.agg #[.int .i64 (a : Int), .int .i64 (b : Int)]) (.int .i64 1)).run Tryz.prog w = .ok (.int .i64 (b : Int)) w := fun _ => by kernel_rfl
  go_enter Tryz.func79, Tryz.ntmps79
  go_upto_region 1 with fail
  generalize w.alloc (.cells #[.int .i64 (a : Int), .int .i64 (b : Int)] 65) = w0 at *
  have q0 := HR0.out.cell 0
  have q1 := HR0.out.cell 1
  simp at q0 q1
  have hq0 := HR0.out.lt
  go_quiet (fail)
  go_upto_region 2 with fail
  generalize hwq : w0.drewN _ = wq
  have HAq : Hid (PAt wq BS P gp gl g n N cc AC pl on L x y) := Lib.hid (by rw [← hwq]; exact HA0.out.keep (fun _ _ => rfl))
  have HKq : Hid (Kp BS P gp gl w0 wq) := Lib.hid (by rw [← hwq]; exact ⟨below_drewN _ _ _, fun _ _ _ _ _ => rfl⟩)
  clear hwq q0 q1
  have ia := (HAq.out.row.cell (3 + a)).trans (plRow_on HAq.out.on25 ha)
  have ib := (HAq.out.row.cell (3 + b)).trans (plRow_on HAq.out.on25 hb)
  rw [HCA.out] at ia
  rw [HCB.out] at ib
  have fa := HAq.out.row.frozen (3 + a)
  have fb := HAq.out.row.frozen (3 + b)
  have nab : ∀ v, (wq.setCell ⟨P, 3 + a, none⟩ v).cell? ⟨P, 3 + b, none⟩ = some (if a = b then v else .int .i64 cb) := fun v => by
    by_cases e : a = b
    · subst e
      rw [if_pos rfl]
      exact World.cell?_setCell_same _ _ _ ia
    · rw [if_neg e, World.cell?_setCell_other _ _ _ _ (by intro h; injection h with _ h _; omega)]
      exact ib
  have nfb : ∀ v, (wq.setCell ⟨P, 3 + a, none⟩ v).frozen? ⟨P, 3 + b, none⟩ = false := fun v => by
    rw [World.frozen?_setCell]
    exact fb
  have ha0 : (0 : Int) ≤ (a : Int) := Int.natCast_nonneg _
  have hb0 : (0 : Int) ≤ (b : Int) := Int.natCast_nonneg _
  have ha1 : (a : Int) < 25 := by omega
  have hb1 : (b : Int) < 25 := by omega
  go_region
  have HA2 : Hid (PAt ((wq.setCell ⟨P, 3 + a, none⟩ (.int .i64 cb)).setCell ⟨P, 3 + b, none⟩ (.int .i64 ca)).drew BS P gp gl g n N cc AC pl (swapL on a b) L x y) := Lib.hid (by
    rw [← HSW.out]
    exact ((HAq.out.setOn ha cb).setOn hb ca).keep (fun _ _ => rfl))
  have HK2 : Hid (Kp BS P gp gl w0 ((wq.setCell ⟨P, 3 + a, none⟩ (.int .i64 cb)).setCell ⟨P, 3 + b, none⟩ (.int .i64 ca)).drew) := Lib.hid (((HKq.out.set (p := ⟨P, 3 + a, none⟩) (.inl rfl) HPB.out _).set (p := ⟨P, 3 + b, none⟩) (.inl rfl) HPB.out _).drew)
  clear ia ib fa fb nab nfb HAq HKq
  generalize ((wq.setCell ⟨P, 3 + a, none⟩ (.int .i64 cb)).setCell ⟨P, 3 + b, none⟩ (.int .i64 ca)).drew = w2 at *
  have q0 := (World.cell?_of_block (a := ⟨w.heap.size, 0, none⟩) (HK2.out.off w.heap.size hq0 (by omega) (by omega) (by omega))).trans (HR0.out.cell 0)
  have q1 := (World.cell?_of_block (a := ⟨w.heap.size, 1, none⟩) (HK2.out.off w.heap.size hq0 (by omega) (by omega) (by omega))).trans (HR0.out.cell 1)
  simp at q0 q1
  go_upto_region 4 with fail
  clear q0 q1
  go_loopw [39] (fun iv wr => (iv = .int .i64 0 ∧ Hid (PAt wr BS P gp gl g n N cc AC pl (swapL on a b) L x y) ∧ Hid (Kp BS P gp gl w0 wr)) ∨ (iv = .int .i64 1 ∧ Hid (PAt wr BS P gp gl g n N cc AC pm (swapL on a b) L x y) ∧ Hid (Kp BS P gp gl w0 wr)) ∨ (iv = .int .i64 2 ∧ Hid (PAt wr BS P gp gl g n N cc AC pe (swapL on a b) L x y) ∧ Hid (Kp BS P gp gl w0 wr))) (fun iv _ => 2 - (intOf iv).toNat)
  case atStart => exact .inl ⟨rfl, HA2, HK2⟩
  case round =>
    clear HA2 HK2
    rcases hrel with ⟨rfl, HA, HK1⟩ | ⟨rfl, HA, HK1⟩ | ⟨rfl, HA, HK1⟩
    · have c3 := (HA.out.row.cell (3 + a)).trans (plRow_on HA.out.on25 ha)
      rw [HSA.out] at c3
      rcases hrb with hr1 | ⟨hr1, hr2⟩
      · subst hr1
        have HA3 : Hid (PAt wr BS P gp gl g n N cc AC pm (swapL on a b) L x y) := Lib.hid (by
          have h := HPM.out
          rw [updP_neg] at h
          rw [← h]
          exact HA.out)
        clear HA
        go_wp2
        go_roundw
        case rel => exact .inr (.inl ⟨rfl, HA3, HK1⟩)
        case measure => simp [intOf]
      · obtain ⟨j, rfl⟩ := Int.eq_ofNat_of_zero_le hr1
        have hjn : j < n := by omega
        have c2 := (HA.out.row.cell 2).trans plRow_2
        obtain ⟨d1, d2⟩ := HA.out.pos.row (k := j) (by rw [HA.out.pn]; exact hjn)
        have hne : ((j : Int) != -1) = true := by rw [bne_iff_ne]; omega
        have hgp := HA.out.pos.gb.1
        have HA3 : Hid (PAt (wr.setCell ⟨gp, j, none⟩ (.int .i64 (a : Int))) BS P gp gl g n N cc AC pm (swapL on a b) L x y) := Lib.hid (by
          have h := HPM.out
          rw [updP_nat] at h
          rw [← h]
          exact HA.out.setPos j a)
        have HK3 : Hid (Kp BS P gp gl w0 (wr.setCell ⟨gp, j, none⟩ (.int .i64 (a : Int)))) := Lib.hid (HK1.out.set (p := ⟨gp, j, none⟩) (.inr (.inl rfl)) hgp _)
        generalize pl.getD j 0 = old at *
        clear HA HK1
        go_wp2
        go_roundw
        case rel => exact .inr (.inl ⟨rfl, HA3, HK3⟩)
        case measure => simp [intOf]
    · have c3 := (HA.out.row.cell (3 + b)).trans (plRow_on HA.out.on25 hb)
      rw [HSB.out] at c3
      rcases hra with hr1 | ⟨hr1, hr2⟩
      · subst hr1
        have HA3 : Hid (PAt wr BS P gp gl g n N cc AC pe (swapL on a b) L x y) := Lib.hid (by
          have h := HUP.out
          rw [updP_neg] at h
          rw [← h]
          exact HA.out)
        clear HA
        go_wp2
        go_roundw
        case rel => exact .inr (.inr ⟨rfl, HA3, HK1⟩)
        case measure => simp [intOf]
      · obtain ⟨j, rfl⟩ := Int.eq_ofNat_of_zero_le hr1
        have hjn : j < n := by omega
        have c2 := (HA.out.row.cell 2).trans plRow_2
        obtain ⟨d1, d2⟩ := HA.out.pos.row (k := j) (by rw [HA.out.pn]; exact hjn)
        have hne : ((j : Int) != -1) = true := by rw [bne_iff_ne]; omega
        have hgp := HA.out.pos.gb.1
        have HA3 : Hid (PAt (wr.setCell ⟨gp, j, none⟩ (.int .i64 (b : Int))) BS P gp gl g n N cc AC pe (swapL on a b) L x y) := Lib.hid (by
          have h := HUP.out
          rw [updP_nat] at h
          rw [← h]
          exact HA.out.setPos j b)
        have HK3 : Hid (Kp BS P gp gl w0 (wr.setCell ⟨gp, j, none⟩ (.int .i64 (b : Int)))) := Lib.hid (HK1.out.set (p := ⟨gp, j, none⟩) (.inr (.inl rfl)) hgp _)
        generalize pm.getD j 0 = old at *
        clear HA HK1
        go_wp2
        go_roundw
        case rel => exact .inr (.inr ⟨rfl, HA3, HK3⟩)
        case measure => simp [intOf]
    · have q0 := (World.cell?_of_block (a := ⟨w.heap.size, 0, none⟩) (HK1.out.off w.heap.size hq0 (by omega) (by omega) (by omega))).trans (HR0.out.cell 0)
      have q1 := (World.cell?_of_block (a := ⟨w.heap.size, 1, none⟩) (HK1.out.off w.heap.size hq0 (by omega) (by omega) (by omega))).trans (HR0.out.cell 1)
      simp at q0 q1
      go_upto_region 11 with fail
      clear q0 q1
      go_loopw [59] (fun iv wr => (iv = .int .i64 0 ∧ Hid (PAt wr BS P gp gl g n N cc AC pe (swapL on a b) L x y) ∧ Hid (Kp BS P gp gl w0 wr)) ∨ (iv = .int .i64 1 ∧ Hid (PAt wr BS P gp gl g n N cc AC pe (swapL on a b) L1 x y) ∧ Hid (Kp BS P gp gl w0 wr)) ∨ (iv = .int .i64 2 ∧ Hid (PAt wr BS P gp gl g n N cc AC pe (swapL on a b) L2 x y) ∧ Hid (Kp BS P gp gl w0 wr))) (fun iv _ => 2 - (intOf iv).toNat)
      case atStart => exact .inl ⟨rfl, HA, HK1⟩
      case round =>
        clear HA HK1
        rcases hrel with ⟨rfl, HA, HK1⟩ | ⟨rfl, HA, HK1⟩ | ⟨rfl, HA, HK1⟩
        · have c3 := (HA.out.row.cell (3 + a)).trans (plRow_on HA.out.on25 ha)
          rw [HSA.out] at c3
          rcases hrb with hr1 | ⟨hr1, hr2⟩
          · subst hr1
            have HA3 : Hid (PAt wr BS P gp gl g n N cc AC pe (swapL on a b) L1 x y) := Lib.hid (by
              have h := HL1.out
              rw [netsOf_neg] at h
              rw [← h]
              exact HA.out)
            clear HA
            go_wp2
            go_roundw
            case rel => exact .inr (.inl ⟨rfl, HA3, HK1⟩)
            case measure => simp [intOf]
          · obtain ⟨j, rfl⟩ := Int.eq_ofNat_of_zero_le hr1
            have hjn : j < n := by omega
            have c0 := (HA.out.row.cell 0).trans plRow_0
            have hne : ((j : Int) != -1) = true := by rw [bne_iff_ne]; omega
            have hj1 : (j : Int) < (n : Int) := by omega
            have HS := Lib.hid (HS0.out.keep HK1.out)
            obtain ⟨bb, off, rfl, hbl, A', c', l0, l1, ⟨l2, l3⟩, hlf⟩ := HS.out.cells j (by rw [HK.out.len]; exact hjn)
            have hvN := (HK.out.net j hjn).2
            have HYS : Hid (∀ k, k < (ce.getD j (0, [], 0, false)).2.1.length → (ce.getD j (0, [], 0, false)).2.1.getD k 0 < N) := Lib.hid (fun k hk => (HK.out.inp j hjn _ (memD0 hk)).2)
            have hyb := HK.out.il j hjn
            have HYI := Lib.hid hlf
            have HNO : Hid (measAll pe ps L ((ce.getD j (0, [], 0, false)).1 :: (ce.getD j (0, [], 0, false)).2.1) = L1) := Lib.hid (by
              rw [← netsOf_nat]
              exact HL1.out)
            clear hlf
            generalize (ce.getD j (0, [], 0, false)).2.2.1 = ct at *
            generalize (ce.getD j (0, [], 0, false)).2.2.2 = cr at *
            generalize (ce.getD j (0, [], 0, false)).2.1 = ys at *
            generalize (ce.getD j (0, [], 0, false)).1 = v at *
            obtain ⟨yl, hyl⟩ : ∃ yl, ys.length = yl := ⟨_, rfl⟩
            rw [hyl] at l1 hyb HYS
            have HYL := Lib.hid hyl
            clear hyl
            go_wp2_with fail
            refine (measNets_any BS P gp gl g n N cc v _ ce ps pe (swapL on a b) L x y A' yl c' ct cr ys wr HS.out HA.out HPL'.out hvN hn17 hN25 HOKP.out H8.out HYL.out (by omega) HYI.out HYS.out).mono ?_
            rintro e w3 ⟨rfl, ha3, hk3⟩
            rw [HNO.out] at ha3
            have HA3 := Lib.hid ha3
            have HK3 := Lib.hid (HK1.out.trans hk3)
            clear ha3 hk3 HA HK1 HS l0 l1 l2 l3
            go_wp2
            go_roundw
            case rel => exact .inr (.inl ⟨rfl, HA3, HK3⟩)
            case measure => simp [intOf]
        · have c3 := (HA.out.row.cell (3 + b)).trans (plRow_on HA.out.on25 hb)
          rw [HSB.out] at c3
          rcases hra with hr1 | ⟨hr1, hr2⟩
          · subst hr1
            have HA3 : Hid (PAt wr BS P gp gl g n N cc AC pe (swapL on a b) L2 x y) := Lib.hid (by
              have h := HL2.out
              rw [netsOf_neg] at h
              rw [← h]
              exact HA.out)
            clear HA
            go_wp2
            go_roundw
            case rel => exact .inr (.inr ⟨rfl, HA3, HK1⟩)
            case measure => simp [intOf]
          · obtain ⟨j, rfl⟩ := Int.eq_ofNat_of_zero_le hr1
            have hjn : j < n := by omega
            have c0 := (HA.out.row.cell 0).trans plRow_0
            have hne : ((j : Int) != -1) = true := by rw [bne_iff_ne]; omega
            have hj1 : (j : Int) < (n : Int) := by omega
            have HS := Lib.hid (HS0.out.keep HK1.out)
            obtain ⟨bb, off, rfl, hbl, A', c', l0, l1, ⟨l2, l3⟩, hlf⟩ := HS.out.cells j (by rw [HK.out.len]; exact hjn)
            have hvN := (HK.out.net j hjn).2
            have HYS : Hid (∀ k, k < (ce.getD j (0, [], 0, false)).2.1.length → (ce.getD j (0, [], 0, false)).2.1.getD k 0 < N) := Lib.hid (fun k hk => (HK.out.inp j hjn _ (memD0 hk)).2)
            have hyb := HK.out.il j hjn
            have HYI := Lib.hid hlf
            have HNO : Hid (measAll pe ps L1 ((ce.getD j (0, [], 0, false)).1 :: (ce.getD j (0, [], 0, false)).2.1) = L2) := Lib.hid (by
              rw [← netsOf_nat]
              exact HL2.out)
            clear hlf
            generalize (ce.getD j (0, [], 0, false)).2.2.1 = ct at *
            generalize (ce.getD j (0, [], 0, false)).2.2.2 = cr at *
            generalize (ce.getD j (0, [], 0, false)).2.1 = ys at *
            generalize (ce.getD j (0, [], 0, false)).1 = v at *
            obtain ⟨yl, hyl⟩ : ∃ yl, ys.length = yl := ⟨_, rfl⟩
            rw [hyl] at l1 hyb HYS
            have HYL := Lib.hid hyl
            clear hyl
            go_wp2_with fail
            refine (measNets_any BS P gp gl g n N cc v _ ce ps pe (swapL on a b) L1 x y A' yl c' ct cr ys wr HS.out HA.out HPL'.out hvN hn17 hN25 HOKP.out H8.out HYL.out (by omega) HYI.out HYS.out).mono ?_
            rintro e w3 ⟨rfl, ha3, hk3⟩
            rw [HNO.out] at ha3
            have HA3 := Lib.hid ha3
            have HK3 := Lib.hid (HK1.out.trans hk3)
            clear ha3 hk3 HA HK1 HS l0 l1 l2 l3
            go_wp2
            go_roundw
            case rel => exact .inr (.inr ⟨rfl, HA3, HK3⟩)
            case measure => simp [intOf]
        · go_wp2_with fail
          go_end0
          exact ⟨rfl, ⟨L2, HA.out, HLF.out⟩, HKw.out.trans HK1.out⟩
end Go.Proofs.YtliaommpnaagiaaGreat
/- The program's placer: Move, Undo, sweep. -/
namespace Go.Proofs.YtliaommpnaagiaaGreat
open Go.RowKit Go.Deep Cut Plc

theorem PAt.setLast {w : World} {BS P gp gl g n N cc : Nat} {AC : Option Addr} {pl : List Nat} {on : List Int} {L : List Nat} {x y : Int} (h : PAt w BS P gp gl g n N cc AC pl on L x y) (x' y' : Int) :
    PAt ((w.setCell ⟨P, 30, none⟩ (.int .i64 x')).setCell ⟨P, 31, none⟩ (.int .i64 y')) BS P gp gl g n N cc AC pl on L x' y' := by
  refine ⟨?_, (h.pos.far (p := ⟨P, 30, none⟩) h.d1.symm _).far (p := ⟨P, 31, none⟩) h.d1.symm _, (h.len.far (p := ⟨P, 30, none⟩) h.d2.symm _).far (p := ⟨P, 31, none⟩) h.d2.symm _, h.pn, h.ln, h.on25, h.l8, h.hP, h.d1, h.d2, h.d3⟩
  have h1 := h.row.set 30 (.int .i64 x')
  rw [plRow_set_30 h.on25] at h1
  have h2 := h1.set 31 (.int .i64 y')
  rw [plRow_set_31 h.on25] at h2
  exact h2

set_option maxRecDepth 10000 in
set_option maxHeartbeats 1000000 in
theorem move_any (BS P gp gl g m n N cc i t : Nat) (AC : Option Addr) (ce : List Cl) (ou : List Nat) (ps : List (List Pn)) (pl : List Nat) (on : List Int) (L : List Nat) (x y : Int) (w : World) (hS : PSt w BS P gp gl g n N AC ce ps) (hA : PAt w BS P gp gl g n N cc AC pl on L x y) (hp : Pl n pl) (ho : OnOk n pl on) (hi : i < n) (ht : t < 25) (hk : NetOk m n N ce ou) (hps : Pins ps (pinR m ce ou)) (hL : Lok pl ps N L) (a : Nat) (hae : pl.getD i 0 = a) :
    Calls Tryz.prog 68 #[.pointer (some ⟨P, 0, none⟩), .int .i64 (i : Int), .int .i64 (t : Int)] w fun e w' => e = .returned (.tuple #[]) ∧ (∃ L', PAt w' BS P gp gl g n N cc AC (exP pl a t) (swapL on a t) L' (a : Int) (t : Int) ∧ Lok (exP pl a t) ps N L') ∧ Kp BS P gp gl w w' := by
  have ha := hp.le i hi
  rw [hae] at ha
  have hn17 := hk.n17
  have c2 := (hA.row.cell 2).trans plRow_2
  obtain ⟨d1, d2⟩ := hA.pos.row (k := i) (by rw [hA.pn]; exact hi)
  rw [hae] at d1
  have k30 := (hA.row.cell 30).trans (plRow_30 hA.on25)
  have k31 := (hA.row.cell 31).trans (plRow_31 hA.on25)
  have f30 := hA.row.frozen 30
  have f31 := hA.row.frozen 31
  have HA1 := Lib.hid (hA.setLast (a : Int) (t : Int))
  have HK1 : Hid (Kp BS P gp gl w ((w.setCell ⟨P, 30, none⟩ (.int .i64 (a : Int))).setCell ⟨P, 31, none⟩ (.int .i64 (t : Int)))) := Lib.hid (((Kp.of (Below.refl _ _) hS.zB).set (p := ⟨P, 30, none⟩) (.inl rfl) hA.hP _).set (p := ⟨P, 31, none⟩) (.inl rfl) hA.hP _)
  have HS := Lib.hid hS
  have HP := Lib.hid hp
  have HO := Lib.hid ho
  have HK := Lib.hid hk
  have HPS := Lib.hid hps
  have HL := Lib.hid hL
  have hin : (i : Int) < (n : Int) := by omega
  clear hS hA hp ho hk hps hL hae
  go_enter Tryz.func68, Tryz.ntmps68
  go_upto_region 1 with fail
  generalize (w.setCell ⟨P, 30, none⟩ (.int .i64 (a : Int))).setCell ⟨P, 31, none⟩ (.int .i64 (t : Int)) = w1 at *
  clear c2 d1 d2 k30 k31 f30 f31
  have k30 := (HA1.out.row.cell 30).trans (plRow_30 HA1.out.on25)
  have k31 := (HA1.out.row.cell 31).trans (plRow_31 HA1.out.on25)
  go_wp2_with fail
  refine (exch_any BS P gp gl g m n N cc a t AC ce ou ps pl on L a t w1 (HS.out.keep HK1.out) HA1.out HP.out HO.out (by omega) ht HK.out HPS.out HL.out).mono ?_
  rintro e w2 ⟨rfl, h2, hk2⟩
  have HA2 := Lib.hid h2
  have HK2 := Lib.hid (HK1.out.trans hk2)
  clear h2 hk2 k30 k31
  go_wp2_with fail
  go_end0
  exact ⟨rfl, HA2.out, HK2.out⟩

set_option maxRecDepth 10000 in
set_option maxHeartbeats 1000000 in
theorem undo_any (BS P gp gl g m n N cc a t : Nat) (AC : Option Addr) (ce : List Cl) (ou : List Nat) (ps : List (List Pn)) (pl : List Nat) (on : List Int) (L : List Nat) (w : World) (hS : PSt w BS P gp gl g n N AC ce ps) (hA : PAt w BS P gp gl g n N cc AC pl on L (a : Int) (t : Int)) (hp : Pl n pl) (ho : OnOk n pl on) (ha : a < 25) (ht : t < 25) (hk : NetOk m n N ce ou) (hps : Pins ps (pinR m ce ou)) (hL : Lok pl ps N L) :
    Calls Tryz.prog 69 #[.pointer (some ⟨P, 0, none⟩)] w fun e w' => e = .returned (.tuple #[]) ∧ (∃ L', PAt w' BS P gp gl g n N cc AC (exP pl a t) (swapL on a t) L' 0 0 ∧ Lok (exP pl a t) ps N L') ∧ Kp BS P gp gl w w' := by
  have k30 := (hA.row.cell 30).trans (plRow_30 hA.on25)
  have k31 := (hA.row.cell 31).trans (plRow_31 hA.on25)
  have HS := Lib.hid hS
  have HA := Lib.hid hA
  have HP := Lib.hid hp
  have HO := Lib.hid ho
  have HK := Lib.hid hk
  have HPS := Lib.hid hps
  have HL := Lib.hid hL
  clear hS hA hp ho hk hps hL
  go_enter Tryz.func69, Tryz.ntmps69
  go_wp2_with fail
  refine (exch_any BS P gp gl g m n N cc a t AC ce ou ps pl on L a t w HS.out HA.out HP.out HO.out ha ht HK.out HPS.out HL.out).mono ?_
  rintro e w1 ⟨rfl, ⟨L', ha1, hl1⟩, hk1⟩
  have HA1 := Lib.hid ha1
  have HL1 := Lib.hid hl1
  have HK1 := Lib.hid hk1
  have k30 := (ha1.row.cell 30).trans (plRow_30 ha1.on25)
  have k31 := (ha1.row.cell 31).trans (plRow_31 ha1.on25)
  have f30 := ha1.row.frozen 30
  have f31 := ha1.row.frozen 31
  have HA2 := Lib.hid (ha1.setLast 0 0)
  have HK2 : Hid (Kp BS P gp gl w ((w1.setCell ⟨P, 30, none⟩ (.int .i64 0)).setCell ⟨P, 31, none⟩ (.int .i64 0))) := Lib.hid ((hk1.set (p := ⟨P, 30, none⟩) (.inl rfl) ha1.hP _).set (p := ⟨P, 31, none⟩) (.inl rfl) ha1.hP _)
  clear ha1 hl1 hk1
  go_wp2_with fail
  go_end0
  exact ⟨rfl, ⟨L', HA2.out, HL1.out⟩, HK2.out⟩

/-- A placer that stands at p. -/
def PRun (w : World) (BS P gp gl g n N cc : Nat) (AC : Option Addr) (ps : List (List Pn)) (p : List Nat) : Prop := ∃ (on : List Int) (L : List Nat) (x y : Int), PAt w BS P gp gl g n N cc AC p on L x y ∧ OnOk n p on ∧ Lok p ps N L

set_option maxRecDepth 10000 in
set_option maxHeartbeats 2000000 in
theorem sweep_any (BS P gp gl g m n N cc : Nat) (AC : Option Addr) (ce : List Cl) (ou : List Nat) (ps : List (List Pn)) (p0 : List Nat) (w : World) (hS : PSt w BS P gp gl g n N AC ce ps) (hR : PRun w BS P gp gl g n N cc AC ps p0) (hp : Pl n p0) (hk : NetOk m n N ce ou) (hps : Pins ps (pinR m ce ou)) :
    Calls Tryz.prog 40 #[.pointer (some ⟨P, 0, none⟩)] w fun e w' => e = .returned (.tuple #[]) ∧ PRun w' BS P gp gl g n N cc AC ps (rowsP (costP m (N - 1) ou ce) p0 n) ∧ Kp BS P gp gl w w' := by
  obtain ⟨C, hC⟩ : ∃ C : List Nat → Nat, costP m (N - 1) ou ce = C := ⟨_, rfl⟩
  have HC : Hid (∀ p L, Pl n p → Lok p ps N L → L.sum = C p) := Lib.hid (fun p L h1 h2 => by rw [← hC]; exact h2.cost hk hps h1)
  have HC8 : Hid (∀ p, Pl n p → C p ≤ 200) := Lib.hid (fun p hp => by
    rw [← hC]
    have h1 := costP_le (z := N - 1) (by rw [hk.len]; exact hp) hk.m4 hk.ol
    have h2 := hk.N25
    omega)
  have hn17 := hk.n17
  have HS := Lib.hid hS
  have HR0 := Lib.hid hR
  have HP := Lib.hid hp
  have HK := Lib.hid hk
  have HPS := Lib.hid hps
  have HK0 : Hid (Kp BS P gp gl w w) := Lib.hid (Kp.of (Below.refl _ _) hS.zB)
  rw [hC]
  have c2 : w.cell? ⟨P, 2, none⟩ = some (.slice (some ⟨gp, 0, none⟩) n n) := by
    obtain ⟨on, L, x, y, h, _⟩ := hR
    exact (h.row.cell 2).trans plRow_2
  clear hS hR hp hk hps hC
  go_enter Tryz.func40, Tryz.ntmps40
  go_upto_region 1 with fail
  clear c2
  go_loopw [10] (fun iv wr => ∃ (i : Nat) (p : List Nat), i ≤ n ∧ iv = .int .i64 i ∧ Hid (rowsP C p0 i = p) ∧ Hid (Pl n p) ∧ Hid (PRun wr BS P gp gl g n N cc AC ps p) ∧ Hid (Kp BS P gp gl w wr)) (fun iv _ => n - (intOf iv).toNat)
  case atStart => exact ⟨0, p0, Nat.zero_le _, rfl, Lib.hid rfl, HP, HR0, HK0⟩
  case round =>
    clear HR0 HK0
    obtain ⟨i, p, hi, rfl, HRW, HPL, HR, HKw⟩ := hrel
    by_cases hlt : i < n
    · go_upto_region 4 with fail
      go_loopw [13] (fun iv wr => ∃ (t : Nat) (q : List Nat), t ≤ 25 ∧ iv = .int .i64 t ∧ Hid (tilesP C p i t = q) ∧ Hid (Pl n q) ∧ Hid (PRun wr BS P gp gl g n N cc AC ps q) ∧ Hid (Kp BS P gp gl w wr)) (fun iv _ => 25 - (intOf iv).toNat)
      case atStart => exact ⟨0, p, Nat.zero_le _, rfl, Lib.hid rfl, HPL, HR, HKw⟩
      case round =>
        clear HR HKw
        obtain ⟨t, q, ht, rfl, HTL, HQL, HR, HKw⟩ := hrel
        by_cases hltt : t < 25
        · obtain ⟨on, L, x, y, hA, hO, hL⟩ := HR.out
          obtain ⟨a, hae⟩ : ∃ a, q.getD i 0 = a := ⟨_, rfl⟩
          have ha := HQL.out.le i hlt
          rw [hae] at ha
          have HAE := Lib.hid hae
          have c29 := (hA.row.cell 29).trans (plRow_29 hA.on25)
          rw [HC.out q L HQL.out hL] at c29
          have hc8 := HC8.out q HQL.out
          have HA := Lib.hid hA
          have HO := Lib.hid hO
          have HL := Lib.hid hL
          have HQ2 := Lib.hid (exP_ok HQL.out ha (show t ≤ 24 by omega))
          have HET := Lib.hid (exP_try (t := t) HQL.out hlt)
          rw [hae] at HET
          have HST : Hid (tilesP C p i (t + 1) = if C (exP q a t) < C q then exP q a t else q) := Lib.hid (by
            show stepP C (tilesP C p i t) i t = _
            rw [HTL.out, HET.out]
            rfl)
          have hc9 := HC8.out _ HQ2.out
          clear hA hO hL hae HR HTL HET
          go_upto_region 7 with fail
          clear c29
          go_wp2_with fail
          refine (move_any BS P gp gl g m n N cc i t AC ce ou ps q on L x y wr (HS.out.keep HKw.out) HA.out HQL.out HO.out hlt hltt HK.out HPS.out HL.out a HAE.out).mono ?_
          rintro e w3 ⟨rfl, ⟨L3, ha3, hl3⟩, hk3⟩
          have HO3 := Lib.hid (HO.out.swap HQL.out (show a < 25 by omega) hltt)
          have c29 := (ha3.row.cell 29).trans (plRow_29 ha3.on25)
          rw [HC.out _ L3 HQ2.out hl3] at c29
          have HA3 := Lib.hid ha3
          have HL3 := Lib.hid hl3
          have HK3 := Lib.hid (HKw.out.trans hk3)
          clear ha3 hl3 hk3 HA HL HKw HAE
          generalize hq2 : exP q a t = q2 at *
          have HQE := Lib.hid hq2
          clear hq2
          generalize hd1 : C q = d1 at *
          generalize hd2 : C q2 = d2 at *
          clear hd1 hd2
          by_cases hd : d2 < d1
          · rw [if_pos hd] at HST
            have HR3 : Hid (PRun w3 BS P gp gl g n N cc AC ps q2) := Lib.hid ⟨_, _, _, _, HA3.out, HO3.out, HL3.out⟩
            clear HA3 HL3 HO3 HO
            go_wp2
            go_roundw
            case rel => exact ⟨t + 1, q2, by omega, by go_num, HST, HQ2, HR3, HK3⟩
            case measure => simp [intOf]; omega
          · rw [if_neg hd] at HST
            go_wp2_with fail
            refine (undo_any BS P gp gl g m n N cc a t AC ce ou ps q2 _ L3 w3 (HS.out.keep HK3.out) HA3.out HQ2.out HO3.out (by omega) hltt HK.out HPS.out HL3.out).mono ?_
            rintro e w5 ⟨rfl, ⟨L5, ha5, hl5⟩, hk5⟩
            have HO5 := Lib.hid (HO3.out.swap HQ2.out (show a < 25 by omega) hltt)
            have eq5 : exP q2 a t = q := by rw [← HQE.out, exP_twice]
            rw [eq5] at ha5 hl5 HO5
            have HR5 : Hid (PRun w5 BS P gp gl g n N cc AC ps q) := Lib.hid ⟨_, _, _, _, ha5, HO5.out, hl5⟩
            have HK5 := Lib.hid (HK3.out.trans hk5)
            clear ha5 hl5 hk5 HA3 HL3 HO3 HO5 HO HK3 eq5 HQE
            go_wp2
            go_roundw
            case rel => exact ⟨t + 1, q, by omega, by go_num, HST, HQL, HR5, HK5⟩
            case measure => simp [intOf]; omega
        · obtain rfl : t = 25 := by omega
          have HRW2 : Hid (rowsP C p0 (i + 1) = q) := Lib.hid (by
            show tilesP C (rowsP C p0 i) i 25 = q
            rw [HRW.out]
            exact HTL.out)
          clear HTL HRW
          go_wp2
          go_roundw
          case rel => exact ⟨i + 1, q, by omega, by go_num, HRW2, HQL, HR, HKw⟩
          case measure => simp [intOf]; omega
    · obtain rfl : i = n := by omega
      rw [← HRW.out] at HR
      go_wp2_with fail
      go_end0
      exact ⟨rfl, HR.out, HKw.out⟩
end Go.Proofs.YtliaommpnaagiaaGreat
/- The program's placer: newPlacer, Place. -/
namespace Plc
theorem rmap_set {α : Type} (f : Nat → α) (m k : Nat) (v : α) : ((List.range m).map f).set k v = (List.range m).map (fun j => if j = k then v else f j) := by
  refine List.ext_getElem (by simp) (fun j h1 h2 => ?_)
  rw [List.getElem_set]
  simp only [List.getElem_map, List.getElem_range]
  by_cases e : k = j
  · rw [if_pos e, if_pos e.symm]
  · rw [if_neg e, if_neg (fun x => e x.symm)]
theorem rmap_at {α : Type} (f : Nat → α) (d : α) {m j : Nat} (h : j < m) : ((List.range m).map f).getD j d = f j := by
  rw [List.getD_eq_getElem?_getD, List.getElem?_eq_getElem (by simpa using h)]
  simp
/-- What stands on the tiles while they are laid: -1 below k, 0 from k on. -/
def onA (k : Nat) : List Int := (List.range 25).map (fun j => if j < k then -1 else 0)
/-- Cell j on tile j below k, none from k on. -/
def onB (k : Nat) : List Int := (List.range 25).map (fun j => if j < k then (j : Int) else -1)
/-- The places while they are laid. -/
def plB (n k : Nat) : List Nat := (List.range n).map (fun j => if j < k then j else 0)
theorem onA_len (k : Nat) : (onA k).length = 25 := by simp [onA]
theorem onB_len (k : Nat) : (onB k).length = 25 := by simp [onB]
theorem plB_len (n k : Nat) : (plB n k).length = n := by simp [plB]
theorem onA_set (k : Nat) : (onA k).set k (-1) = onA (k + 1) := by
  unfold onA
  rw [rmap_set]
  congr 1
  funext j
  by_cases e : j = k
  · rw [if_pos e, if_pos (by omega)]
  · rw [if_neg e]
    by_cases h : j < k
    · rw [if_pos h, if_pos (by omega)]
    · rw [if_neg h, if_neg (by omega)]
theorem onB_set (k : Nat) : (onB k).set k (k : Int) = onB (k + 1) := by
  unfold onB
  rw [rmap_set]
  congr 1
  funext j
  by_cases e : j = k
  · rw [if_pos e, if_pos (by omega), e]
  · rw [if_neg e]
    by_cases h : j < k
    · rw [if_pos h, if_pos (by omega)]
    · rw [if_neg h, if_neg (by omega)]
theorem plB_set (n k : Nat) : (plB n k).set k k = plB n (k + 1) := by
  unfold plB
  rw [rmap_set]
  congr 1
  funext j
  by_cases e : j = k
  · rw [if_pos e, if_pos (by omega), e]
  · rw [if_neg e]
    by_cases h : j < k
    · rw [if_pos h, if_pos (by omega)]
    · rw [if_neg h, if_neg (by omega)]
theorem onA_zero : onA 0 = List.replicate 25 0 := by decide
theorem onA_B : onA 25 = onB 0 := by decide
theorem plB_zero (n : Nat) : plB n 0 = List.replicate n 0 := by
  refine List.ext_getElem (by simp [plB]) (fun j h1 h2 => ?_)
  simp [plB]
theorem plB_all (n : Nat) : plB n n = List.range n := by
  refine List.ext_getElem (by simp [plB]) (fun j h1 h2 => ?_)
  have : j < n := by simpa [plB] using h1
  simp [plB, this]
theorem onB_ok (n : Nat) : OnOk n (List.range n) (onB n) := by
  refine ⟨onB_len n, fun t ht => ?_⟩
  have hr : ∀ j, j < n → (List.range n).getD j 0 = j := fun j hj => by simp [List.getD_eq_getElem?_getD, hj]
  unfold onB
  rw [rmap_at _ _ ht]
  by_cases e : t < n
  · rw [if_pos e]
    exact .inl ⟨t, e, rfl, hr t e⟩
  · rw [if_neg e]
    exact .inr ⟨rfl, fun j hj => by rw [hr j hj]; omega⟩
theorem lok_all (pl : List Nat) (ps : List (List Pn)) (N : Nat) : Lok pl ps N (measAll pl ps (List.replicate N 0) (List.range N)) := by
  refine ⟨by rw [measAll_len, List.length_replicate], fun u hu => ?_⟩
  rw [measAll_at _ _ _ _ (by simpa using hu), if_pos (by simpa using hu)]
end Plc
namespace Go.Proofs.YtliaommpnaagiaaGreat
open Go.RowKit Go.Deep Cut Plc

theorem NetsAt.read3 {w : World} {B g N b : Nat} {ps : List (List Pn)} {hs : Array Value} (h : NetsAt w B g N b ps hs) {v : Nat} (hv : v < N) : ∃ (A : Option Addr) (cap : Nat), w.cell? ⟨g, v, none⟩ = some (.slice A (ps.getD v []).length cap) ∧ (ps.getD v []).length ≤ cap ∧ cap ≤ maxLen ∧ (ps.getD v []).length ≤ b ∧ GatesAt w w.heap.size A (ps.getD v []) ∧ ∀ x off, A = some ⟨x, off, none⟩ → B ≤ x ∧ x < w.heap.size := by
  obtain ⟨A, cap, h1, h2, h3, h4⟩ := h.read2 hv
  obtain ⟨x, h5, h6⟩ := h.own v hv
  rw [h1] at h5
  injection h5 with h5
  subst h5
  refine ⟨A, cap, (h.row.cell v).trans h1, h2, h3, h.bd v, h4, fun x off e => ?_⟩
  subst e
  exact h6.lt x rfl

/-- A placer that has just been made, apart from its places and lengths. -/
structure PNew (w : World) (BS P gp g n N cc : Nat) (AC : Option Addr) (ps : List (List Pn)) (pl : List Nat) (on : List Int) : Prop where
  row : Row w P 67 (plRow (.slice AC n cc) (.slice (some ⟨g, 0, none⟩) N N) (.slice (some ⟨gp, 0, none⟩) n n) on (.slice none 0 0) 0 0 0)
  pos : TimesAt w BS pl gp n
  pn : pl.length = n
  on25 : on.length = 25
  nets : ∀ v, v < N → ∃ (A : Option Addr) (cap : Nat), w.cell? ⟨g, v, none⟩ = some (.slice A (ps.getD v []).length cap) ∧ (ps.getD v []).length ≤ cap ∧ cap ≤ maxLen ∧ (ps.getD v []).length ≤ 20000 ∧ GatesAt w w.heap.size A (ps.getD v []) ∧ ∀ b off, A = some ⟨b, off, none⟩ → b ≠ P ∧ b ≠ gp ∧ b < w.heap.size
  gB : g < w.heap.size
  g1 : g ≠ P
  g2 : g ≠ gp
  d1 : P ≠ gp
  hP : BS ≤ P
theorem PNew.keep {w w' : World} {BS P gp g n N cc : Nat} {AC : Option Addr} {ps : List (List Pn)} {pl : List Nat} {on : List Int} (h : PNew w BS P gp g n N cc AC ps pl on) (hz : w.heap.size ≤ w'.heap.size) (hk : ∀ b, b < w.heap.size → w'.heap[b]? = w.heap[b]?) : PNew w' BS P gp g n N cc AC ps pl on :=
  { h with
    row := (hk P h.row.lt).trans h.row
    pos := h.pos.keep (hk gp h.pos.gb.2)
    nets := fun v hv => by
      obtain ⟨A, cap, h1, h2, h3, h4, h5, h6⟩ := h.nets v hv
      exact ⟨A, cap, (World.cell?_of_block (a := ⟨g, v, none⟩) (hk g h.gB)).trans h1, h2, h3, h4, h5.kept hz (fun b off _ hlt => hk b hlt), fun b off e => ⟨(h6 b off e).1, (h6 b off e).2.1, Nat.lt_of_lt_of_le (h6 b off e).2.2 hz⟩⟩
    gB := Nat.lt_of_lt_of_le h.gB hz }
theorem PNew.netsFar {w : World} {BS P gp g n N cc : Nat} {AC : Option Addr} {ps : List (List Pn)} {pl : List Nat} {on : List Int} (h : PNew w BS P gp g n N cc AC ps pl on) (p : Addr) (u : Value) (hp : p.block = P ∨ p.block = gp) : ∀ v, v < N → ∃ (A : Option Addr) (cap : Nat), (w.setCell p u).cell? ⟨g, v, none⟩ = some (.slice A (ps.getD v []).length cap) ∧ (ps.getD v []).length ≤ cap ∧ cap ≤ maxLen ∧ (ps.getD v []).length ≤ 20000 ∧ GatesAt (w.setCell p u) (w.setCell p u).heap.size A (ps.getD v []) ∧ ∀ b off, A = some ⟨b, off, none⟩ → b ≠ P ∧ b ≠ gp ∧ b < (w.setCell p u).heap.size := fun v hv => by
  obtain ⟨A, cap, h1, h2, h3, h4, h5, h6⟩ := h.nets v hv
  have hg : g ≠ p.block := by
    rcases hp with e | e
    · rw [e]; exact h.g1
    · rw [e]; exact h.g2
  refine ⟨A, cap, (World.cell?_of_block (a := ⟨g, v, none⟩) (Below.heap_setCell w p u g hg)).trans h1, h2, h3, h4, h5.farS p u (fun b off e => ?_), fun b off e => by simpa using h6 b off e⟩
  have h7 := h6 b off e
  rcases hp with e | e
  · rw [e]; exact h7.1
  · rw [e]; exact h7.2.1
theorem PNew.setOn {w : World} {BS P gp g n N cc : Nat} {AC : Option Addr} {ps : List (List Pn)} {pl : List Nat} {on : List Int} (h : PNew w BS P gp g n N cc AC ps pl on) {t : Nat} (ht : t < 25) (v : Int) : PNew (w.setCell ⟨P, 3 + t, none⟩ (.int .i64 v)) BS P gp g n N cc AC ps pl (on.set t v) := by
  refine ⟨?_, h.pos.far (p := ⟨P, 3 + t, none⟩) h.d1.symm _, h.pn, by rw [List.length_set]; exact h.on25, h.netsFar _ _ (.inl rfl), by simpa using h.gB, h.g1, h.g2, h.d1, h.hP⟩
  have h1 := h.row.set (3 + t) (.int .i64 v)
  rw [plRow_set_on h.on25 ht] at h1
  exact h1
theorem PNew.setPos {w : World} {BS P gp g n N cc : Nat} {AC : Option Addr} {ps : List (List Pn)} {pl : List Nat} {on : List Int} (h : PNew w BS P gp g n N cc AC ps pl on) (j t : Nat) : PNew (w.setCell ⟨gp, j, none⟩ (.int .i64 (t : Int))) BS P gp g n N cc AC ps (pl.set j t) on :=
  ⟨h.row.far (p := ⟨gp, j, none⟩) h.d1 _, h.pos.put j t, by rw [List.length_set]; exact h.pn, h.on25, h.netsFar _ _ (.inr rfl), by simpa using h.gB, h.g1, h.g2, h.d1, h.hP⟩

theorem plRow_new (A1 A2 A3 : Value) : plRow A1 A2 A3 (onA 0) (.slice none 0 0) 0 0 0 = #[A1, A2, A3, .int .i64 0, .int .i64 0, .int .i64 0, .int .i64 0, .int .i64 0, .int .i64 0, .int .i64 0, .int .i64 0, .int .i64 0, .int .i64 0, .int .i64 0, .int .i64 0, .int .i64 0, .int .i64 0, .int .i64 0, .int .i64 0, .int .i64 0, .int .i64 0, .int .i64 0, .int .i64 0, .int .i64 0, .int .i64 0, .int .i64 0, .int .i64 0, .int .i64 0, .slice none 0 0, .int .i64 0, .int .i64 0, .int .i64 0] := by
  rw [onA_zero]
  rfl
theorem new_C (w5 : World) (BS gp g n N cc : Nat) (AC : Option Addr) (ps : List (List Pn)) (hT : TimesAt w5 BS (List.replicate n 0) gp n) (hnets : ∀ v, v < N → ∃ (A : Option Addr) (cap : Nat), w5.cell? ⟨g, v, none⟩ = some (.slice A (ps.getD v []).length cap) ∧ (ps.getD v []).length ≤ cap ∧ cap ≤ maxLen ∧ (ps.getD v []).length ≤ 20000 ∧ GatesAt w5 w5.heap.size A (ps.getD v []) ∧ ∀ b off, A = some ⟨b, off, none⟩ → b ≠ gp ∧ b < w5.heap.size) (hg : g < w5.heap.size) (hg2 : g ≠ gp) (hBS : BS ≤ w5.heap.size) :
    PNew (w5.alloc (.cells #[.slice AC n cc, .slice (some ⟨g, 0, none⟩) N N, .slice (some ⟨gp, 0, none⟩) n n, .int .i64 0, .int .i64 0, .int .i64 0, .int .i64 0, .int .i64 0, .int .i64 0, .int .i64 0, .int .i64 0, .int .i64 0, .int .i64 0, .int .i64 0, .int .i64 0, .int .i64 0, .int .i64 0, .int .i64 0, .int .i64 0, .int .i64 0, .int .i64 0, .int .i64 0, .int .i64 0, .int .i64 0, .int .i64 0, .int .i64 0, .int .i64 0, .int .i64 0, .slice none 0 0, .int .i64 0, .int .i64 0, .int .i64 0] 67)) BS w5.heap.size gp g n N cc AC ps (plB n 0) (onA 0) := by
  have hgp := hT.gb
  refine ⟨?_, ?_, plB_len n 0, onA_len 0, fun v hv => ?_, by simp; omega, by omega, hg2, by omega, hBS⟩
  · rw [plRow_new]
    exact heap_alloc_new w5 _
  · rw [plB_zero]
    exact hT.keep (Below.heap_alloc w5 _ gp hgp.2)
  · obtain ⟨A, cap, h1, h2, h3, h4, h5, h6⟩ := hnets v hv
    refine ⟨A, cap, (World.cell?_alloc_lt w5 _ ⟨g, v, none⟩ hg).trans h1, h2, h3, h4, h5.kept (by simp) (fun b off _ hlt => Below.heap_alloc w5 _ b hlt), fun b off e => ?_⟩
    have h7 := h6 b off e
    refine ⟨by omega, h7.1, by simp; omega⟩
theorem new_A (w4 : World) (B g n N cc : Nat) (AC : Option Addr) (ps : List (List Pn)) (hs : Array Value) (BS : Nat) (h : NetsAt w4 B g N 20000 ps hs) (hBS : BS ≤ w4.heap.size) (hn : n ≤ 1000) :
    PNew ((w4.alloc (.cells (madeCells #[.int .i64 0] n) 3)).alloc (.cells #[.slice AC n cc, .slice (some ⟨g, 0, none⟩) N N, .slice (some ⟨w4.heap.size, 0, none⟩) n n, .int .i64 0, .int .i64 0, .int .i64 0, .int .i64 0, .int .i64 0, .int .i64 0, .int .i64 0, .int .i64 0, .int .i64 0, .int .i64 0, .int .i64 0, .int .i64 0, .int .i64 0, .int .i64 0, .int .i64 0, .int .i64 0, .int .i64 0, .int .i64 0, .int .i64 0, .int .i64 0, .int .i64 0, .int .i64 0, .int .i64 0, .int .i64 0, .int .i64 0, .slice none 0 0, .int .i64 0, .int .i64 0, .int .i64 0] 67)) BS (w4.heap.size + 1) w4.heap.size g n N cc AC ps (plB n 0) (onA 0) := by
  have hz : (w4.alloc (.cells (madeCells #[.int .i64 0] n) 3)).heap.size = w4.heap.size + 1 := by simp
  have hgl := h.row.lt
  rw [← hz]
  refine new_C _ BS w4.heap.size g n N cc AC ps (TimesAt.made w4 BS n hBS hn) (fun v hv => ?_) (by omega) (by omega) (by omega)
  obtain ⟨A, cap, h1, h2, h3, h4, h5, h6⟩ := h.read3 hv
  refine ⟨A, cap, (World.cell?_alloc_lt w4 _ ⟨g, v, none⟩ hgl).trans h1, h2, h3, h4, h5.kept (by simp) (fun b off _ hlt => Below.heap_alloc w4 _ b hlt), fun b off e => ?_⟩
  have h7 := h6 b off e
  exact ⟨by omega, by omega⟩
theorem new_B (w4 : World) (B gp g n N cc : Nat) (AC : Option Addr) (ps : List (List Pn)) (hs : Array Value) (BS : Nat) (h : NetsAt w4 B g N 20000 ps hs) (hT : TimesAt w4 BS (List.replicate n 0) gp n) (hB : gp < B) :
    PNew (w4.alloc (.cells #[.slice AC n cc, .slice (some ⟨g, 0, none⟩) N N, .slice (some ⟨gp, 0, none⟩) n n, .int .i64 0, .int .i64 0, .int .i64 0, .int .i64 0, .int .i64 0, .int .i64 0, .int .i64 0, .int .i64 0, .int .i64 0, .int .i64 0, .int .i64 0, .int .i64 0, .int .i64 0, .int .i64 0, .int .i64 0, .int .i64 0, .int .i64 0, .int .i64 0, .int .i64 0, .int .i64 0, .int .i64 0, .int .i64 0, .int .i64 0, .int .i64 0, .int .i64 0, .slice none 0 0, .int .i64 0, .int .i64 0, .int .i64 0] 67)) BS w4.heap.size gp g n N cc AC ps (plB n 0) (onA 0) := by
  have hgp := hT.gb
  have hgB := h.hB
  refine new_C _ BS gp g n N cc AC ps hT (fun v hv => ?_) h.row.lt (by omega) (by omega)
  obtain ⟨A, cap, h1, h2, h3, h4, h5, h6⟩ := h.read3 hv
  refine ⟨A, cap, h1, h2, h3, h4, h5, fun b off e => ?_⟩
  have h7 := h6 b off e
  exact ⟨by omega, by omega⟩
theorem PNew.fin {w : World} {BS P gp g n N cc : Nat} {AC : Option Addr} {ps : List (List Pn)} {pl : List Nat} {on : List Int} (h : PNew w BS P gp g n N cc AC ps pl on) (hN : N ≤ 1000) (ce : List Cl) (hce : CeIn w BS AC ce) :
    PAt ((w.alloc (.cells (madeCells #[.int .i64 0] N) 3)).setCell ⟨P, 28, none⟩ (.slice (some ⟨w.heap.size, 0, none⟩) N N)) BS P gp w.heap.size g n N cc AC pl on (List.replicate N 0) 0 0 ∧ PSt ((w.alloc (.cells (madeCells #[.int .i64 0] N) 3)).setCell ⟨P, 28, none⟩ (.slice (some ⟨w.heap.size, 0, none⟩) N N)) BS P gp w.heap.size g n N AC ce ps := by
  have hP := h.hP
  have hPl := h.row.lt
  have hgp := h.pos.gb
  have hz : (w.alloc (.cells (madeCells #[.int .i64 0] N) 3)).heap.size = w.heap.size + 1 := by simp
  have h1 := h.keep (w' := w.alloc (.cells (madeCells #[.int .i64 0] N) 3)) (by omega) (fun b hb => Below.heap_alloc w _ b hb)
  have hT := TimesAt.made w BS N (by omega) hN
  have hce1 := hce.below (((Below.refl BS w).alloc (by omega) (.cells (madeCells #[.int .i64 0] N) 3)).setCell (p := ⟨P, 28, none⟩) hP (.slice (some ⟨w.heap.size, 0, none⟩) N N))
  have hne : w.heap.size ≠ P := by omega
  refine ⟨⟨?_, h1.pos.far (p := ⟨P, 28, none⟩) h.d1.symm _, hT.far (p := ⟨P, 28, none⟩) hne _, h.pn, List.length_replicate, h.on25, fun u hu => ?_, hP, h.d1, by omega, by omega⟩, ⟨hce1, fun v hv => ?_, ?_, h.g1, h.g2, ?_, ?_⟩⟩
  · have h2 := h1.row.set 28 (.slice (some ⟨w.heap.size, 0, none⟩) N N)
    rw [plRow_set_28 h.on25] at h2
    rw [show (List.replicate N 0).sum = 0 by simp]
    exact h2
  · have := List.eq_of_mem_replicate hu
    omega
  · obtain ⟨A, cap, k1, k2, k3, k4, k5, k6⟩ := h1.netsFar ⟨P, 28, none⟩ (.slice (some ⟨w.heap.size, 0, none⟩) N N) (.inl rfl) v hv
    obtain ⟨A', cap', m1, _, _, _, _, m6⟩ := h.nets v hv
    refine ⟨A, cap, k1, k2, k3, k4, k5, fun b off e => ⟨(k6 b off e).1, (k6 b off e).2.1, ?_⟩⟩
    have k1' : w.cell? ⟨g, v, none⟩ = some (.slice A (ps.getD v []).length cap) := by
      rw [← k1, World.cell?_of_block (a := ⟨g, v, none⟩) (Below.heap_setCell _ ⟨P, 28, none⟩ _ g h.g1), World.cell?_alloc_lt w _ ⟨g, v, none⟩ h.gB]
    rw [m1] at k1'
    injection k1' with k1'
    injection k1' with e1 _ _
    have := (m6 b off (e1.trans e)).2.2
    omega
  · have := h.gB
    simp
    omega
  · have := h.gB
    omega
  · simp
    omega

set_option maxRecDepth 10000 in
set_option maxHeartbeats 2000000 in
theorem newPl_any (i : Int) (nA gA oA : Option Addr) (nc gc oc : Nat) (ns : List Int) (gs : List (Int × Int)) (os : List Int) (m n N : Nat) (w : World) (hv : Circ.validB i ns gs os = true) (hc : CircAt w w.heap.size nA gA oA ns gs os) (hgc : gs.length ≤ gc) (hm : i = (m : Int)) (hn : (cellsV i ns gs os).length = n) (hN : Opt.fst i ns + gs.length = N) (hk : NetOk m n N (cellsV i ns gs os) (Opt.natL os)) :
    Calls Tryz.prog 39 #[.agg #[.int .i64 i, .slice nA ns.length nc, .slice gA gs.length gc, .slice oA os.length oc]] w fun e w' => ∃ (BS P gp gl g cc : Nat) (AC : Option Addr) (ps : List (List Pn)), e = .returned (.pointer (some ⟨P, 0, none⟩)) ∧ PSt w' BS P gp gl g n N AC (cellsV i ns gs os) ps ∧ Pins ps (pinR m (cellsV i ns gs os) (Opt.natL os)) ∧ PRun w' BS P gp gl g n N cc AC ps (List.range n) ∧ w.heap.size ≤ BS ∧ Below w.heap.size w w' := by
  subst hm
  have HB0 := Lib.hid (Boxed.new w (m : Int) nA gA oA ns.length nc gs.length gc os.length oc 26)
  have hbw : Below w.heap.size w (w.alloc (.cells #[.int .i64 (m : Int), .slice nA ns.length nc, .slice gA gs.length gc, .slice oA os.length oc] 26)) := (Below.refl _ _).alloc (Nat.le_refl _) _
  have hlt0 : w.heap.size < (w.alloc (.cells #[.int .i64 (m : Int), .slice nA ns.length nc, .slice gA gs.length gc, .slice oA os.length oc] 26)).heap.size := by simp
  have HC := Lib.hid ((hc.below hbw).mono hbw.size)
  have HL0 := Lib.hid hbw
  have HV := Lib.hid hv
  have HNN := Lib.hid hn
  have HNE := Lib.hid hN
  have HK := Lib.hid hk
  obtain ⟨h0, h1, h2, h3, h4⟩ := Circ.valid_within hv
  have hm4 := hk.m4
  have hn17 := hk.n17
  have hN25 := hk.N25
  have HFF : Hid (Opt.fst (m : Int) ns = 1 + m + ns.length) := Lib.hid (by unfold Opt.fst; omega)
  have HOV : Hid (∀ k, k < os.length → os.getD k 0 = (((Opt.natL os).getD k 0 : Nat) : Int) ∧ (Opt.natL os).getD k 0 / 2 < Opt.fst (m : Int) ns + gs.length) := Lib.hid (fun k hk2 => ⟨natL_get os k hk2 (Circ.litsOk_get (Circ.valid_outs hv) hk2).1, by rw [hN]; exact hk.ov k (by rw [Opt.natL_len]; exact hk2)⟩)
  have hmkn := fun W => run_make_row' (P := Tryz.prog) 23 3 (.int .i64 0) 8 Tryz.underlying23 Tryz.info3 rfl .i64 .i64 n (by omega) (by omega) W
  have hmkN := fun W => run_make_row' (P := Tryz.prog) 23 3 (.int .i64 0) 8 Tryz.underlying23 Tryz.info3 rfl .i64 .i64 N (by omega) (by omega) W
  clear hc hbw hv hn hN hk h0
  go_enter Tryz.func39, Tryz.ntmps39
  go_upto_region 1 with fail
  generalize w.alloc (.cells #[.int .i64 (m : Int), .slice nA ns.length nc, .slice gA gs.length gc, .slice oA os.length oc] 26) = w0 at *
  have q0 := HB0.out.c0
  have q1 := HB0.out.c1
  have q2 := HB0.out.c2
  have q3 := HB0.out.c3
  go_wp2_with fail
  refine (icells_t (m : Int) nA gA oA nc gc oc ns gs os w0 HV.out HC.out hgc).mono ?_
  rintro e w3 ⟨g3, cc3, hs3, rfl, hu3, _, hb3⟩
  rw [HNN.out]
  have HU3 := Lib.hid hu3.read
  have HX3 := Lib.hid (HL0.out.trans (hb3.mono HL0.out.size))
  have HB3 := Lib.hid (HB0.out.below hb3 hlt0)
  have HC3 := Lib.hid ((HC.out.below hb3).mono hb3.size)
  have hz3 : w.heap.size < w3.heap.size := Nat.lt_of_lt_of_le hlt0 hb3.size
  clear hu3 hb3 q0 q1 q2 q3 HB0 HC HL0
  have q0 := HB3.out.c0
  have q1 := HB3.out.c1
  have q2 := HB3.out.c2
  have q3 := HB3.out.c3
  go_upto_region 2 with fail
  obtain ⟨BS, hBS⟩ : ∃ BS, w3.heap.size = BS := ⟨_, rfl⟩
  go_cut [4] (fun pv wx => ∃ (wz : World) (P gp g : Nat) (ps : List (List Pn)), wz = wx ∧ pv = .pointer (some ⟨P, 0, none⟩) ∧ Hid (PNew wx BS P gp g n N cc3 (some ⟨g3, 0, none⟩) ps (plB n 0) (onA 0)) ∧ Hid (Pins ps (pinR m (cellsV (m : Int) ns gs os) (Opt.natL os))) ∧ Hid (Below w3.heap.size w3 wx))
  case first =>
    have hal3 : ∀ k, Below w3.heap.size w3 (w3.alloc (.cells (madeCells #[.int .i64 0] k) 3)).drew := fun k => ((Below.refl _ _).alloc (Nat.le_refl _) _).drew
    go_region_held3 (fun w' => w'.cell? ⟨w.heap.size, 0, none⟩ = some (.int .i64 (m : Int)) ∧ w'.cell? ⟨w.heap.size, 1, none⟩ = some (.slice nA ns.length nc) ∧ w'.cell? ⟨w.heap.size, 2, none⟩ = some (.slice gA gs.length gc) ∧ w'.cell? ⟨w.heap.size, 3, none⟩ = some (.slice oA os.length oc)) (first | go_keep | (refine ⟨?_, ?_, ?_, ?_⟩ <;> (rw [hc4 _ _ (by first | omega | (simp; omega))]; simp [*])))
        (first
          | (go_at_call 30; refine (netPins_any m (Opt.fst (m : Int) ns) (Opt.fst (m : Int) ns + gs.length) n cc3 ns.length nc gc oc nA gA oA (some ⟨g3, 0, none⟩) ns gs os (Opt.natL os) (cellsV (m : Int) ns gs os) w3.drew (HC3.out.below (Below.refl _ w3).drew) HU3.out rfl HFF.out rfl hm4 h2 h3 (by omega) HNN.out hn17 (fun k hk => by rw [HNE.out]; exact (HK.out.net k hk).2) (fun k hk j hj => by rw [HNE.out]; exact (HK.out.inp k hk _ (memD0 hj)).2) (fun k hk => by have := HK.out.il k hk; omega) (Opt.natL_len os) HOV.out).mono ?_; rintro e w4 ⟨g4, ps, hs4, rfl, hn4, hp4, hb4⟩; obtain ⟨hc4, hf4⟩ := bcell hb4; rw [HNE.out] at hn4; rw [HNE.out])
          | (go_at_call 30; refine (netPins_any m (Opt.fst (m : Int) ns) (Opt.fst (m : Int) ns + gs.length) n cc3 ns.length nc gc oc nA gA oA (some ⟨g3, 0, none⟩) ns gs os (Opt.natL os) (cellsV (m : Int) ns gs os) (w3.alloc (.cells (madeCells #[.int .i64 0] n) 3)).drew ((HC3.out.below (hal3 n)).mono (hal3 n).size) ((HU3.out.below (hal3 n)).mono (hal3 n).size) rfl HFF.out rfl hm4 h2 h3 (by omega) HNN.out hn17 (fun k hk => by rw [HNE.out]; exact (HK.out.net k hk).2) (fun k hk j hj => by rw [HNE.out]; exact (HK.out.inp k hk _ (memD0 hj)).2) (fun k hk => by have := HK.out.il k hk; omega) (Opt.natL_len os) HOV.out).mono ?_; rintro e w4 ⟨g4, ps, hs4, rfl, hn4, hp4, hb4⟩; have hb4' := (hal3 n).trans (hb4.mono (hal3 n).size); obtain ⟨hc4, hf4⟩ := bcell hb4'; rw [HNE.out] at hn4; rw [HNE.out]))
    · go_wp2_with fail
      go_meet
      have hb5 := (Below.refl w3.heap.size w3).drew.trans hb4
      have hz5 := hb5.size
      exact ⟨_, _, _, _, _, rfl, rfl, Lib.hid (new_A w4 _ g4 n N cc3 _ ps hs4 BS hn4 (by omega) (by omega)), Lib.hid hp4, Lib.hid ((hb5.alloc hz5 _).alloc (by simp; omega) _)⟩
    · go_wp2_with fail
      go_meet
      have hT := TimesAt.made w3 BS n (by omega) (by omega)
      have hz5 := hb4.size
      have hz6 : (w3.alloc (.cells (madeCells #[.int .i64 0] n) 3)).drew.heap.size = w3.heap.size + 1 := by
        show (w3.alloc (.cells (madeCells #[.int .i64 0] n) 3)).heap.size = _
        simp
      have hT4 : TimesAt w4 BS (List.replicate n 0) BS n := by
        have hT5 := hT.keep (w' := w4) (hb4.block w3.heap.size (by rw [hz6]; omega))
        rw [hBS] at hT5
        exact hT5
      exact ⟨_, _, _, _, _, rfl, rfl, Lib.hid (new_B w4 _ BS g4 n N cc3 _ ps hs4 BS hn4 hT4 (by rw [hz6]; omega)), Lib.hid hp4, Lib.hid ((((hal3 n).trans (hb4.mono (hal3 n).size))).alloc (by rw [hz6] at hz5; omega) _)⟩
  case rest =>
    obtain ⟨wa, P, gp, g, ps, hwa, rfl, HN, HP, HB⟩ := hcut
    subst hwa
    have HCE : Hid (CeIn w3 BS (some ⟨g3, 0, none⟩) (cellsV (m : Int) ns gs os)) := Lib.hid (by rw [← hBS]; exact HU3.out)
    have HBB : Hid (Below BS w3 wa) := Lib.hid (by rw [← hBS]; exact HB.out)
    have HXB : Hid (w.heap.size ≤ BS) := Lib.hid (by omega)
    clear HU3 HC3 HB3 HB hBS hmkn q0 q1 q2 q3
    generalize (some ⟨g3, 0, none⟩ : Option Addr) = AC at *
    go_upto_region 4 with fail
    go_loopw [19] (fun iv wr => ∃ (k : Nat), k ≤ 25 ∧ iv = .int .i64 k ∧ Hid (PNew wr BS P gp g n N cc3 AC ps (plB n 0) (onA k)) ∧ Hid (Below BS w3 wr)) (fun iv _ => 25 - (intOf iv).toNat)
    case atStart => exact ⟨0, Nat.zero_le _, rfl, HN, HBB⟩
    case round =>
      clear HN HBB
      obtain ⟨k, hk, rfl, HN, HBB⟩ := hrel
      by_cases hlt : k < 25
      · have ck := (HN.out.row.cell (3 + k)).trans (plRow_on HN.out.on25 hlt)
        have fk := HN.out.row.frozen (3 + k)
        have HN2 := Lib.hid (HN.out.setOn hlt (-1))
        rw [onA_set] at HN2
        have HB2 := Lib.hid (HBB.out.setCell (p := ⟨P, 3 + k, none⟩) HN.out.hP (.int .i64 (-1)))
        generalize (onA k).getD k 0 = old at *
        have hk0 : (0 : Int) ≤ (k : Int) := Int.natCast_nonneg _
        have hk1 : (k : Int) < 25 := by omega
        clear HN HBB
        go_wp2
        go_roundw
        case rel => exact ⟨k + 1, by omega, by go_num, HN2, HB2⟩
        case measure => simp [intOf]; omega
      · obtain rfl : k = 25 := by omega
        rw [show ((25 : Nat) : Int) = 25 from rfl]
        rw [onA_B] at HN
        have c2 := (HN.out.row.cell 2).trans plRow_2
        go_upto_region 9 with fail
        clear c2
        go_loopw [33] (fun iv wr => ∃ (k : Nat), k ≤ n ∧ iv = .int .i64 k ∧ Hid (PNew wr BS P gp g n N cc3 AC ps (plB n k) (onB k)) ∧ Hid (Below BS w3 wr)) (fun iv _ => n - (intOf iv).toNat)
        case atStart => exact ⟨0, Nat.zero_le _, rfl, HN, HBB⟩
        case round =>
          clear HN HBB hk hlt
          obtain ⟨k, hk, rfl, HN, HBB⟩ := hrel
          by_cases hlt : k < n
          · have c2 := (HN.out.row.cell 2).trans plRow_2
            have ck := (HN.out.row.cell (3 + k)).trans (plRow_on HN.out.on25 (by omega))
            have fk := HN.out.row.frozen (3 + k)
            obtain ⟨d1, d2⟩ := HN.out.pos.row (k := k) (by rw [HN.out.pn]; exact hlt)
            generalize (onB k).getD k 0 = old at *
            generalize (plB n k).getD k 0 = oldp at *
            have ck2 : ∀ v, (wr.setCell ⟨gp, k, none⟩ v).cell? ⟨P, 3 + k, none⟩ = some (.int .i64 old) := fun v => (World.cell?_of_block (a := ⟨P, 3 + k, none⟩) (Below.heap_setCell wr ⟨gp, k, none⟩ v P HN.out.d1)).trans ck
            have fk2 : ∀ v, (wr.setCell ⟨gp, k, none⟩ v).frozen? ⟨P, 3 + k, none⟩ = false := fun v => (World.frozen?_of_block (a := ⟨P, 3 + k, none⟩) (Below.heap_setCell wr ⟨gp, k, none⟩ v P HN.out.d1)).trans fk
            have HN2 := Lib.hid ((HN.out.setPos k k).setOn (t := k) (by omega) (k : Int))
            rw [onB_set, plB_set] at HN2
            have HB2 := Lib.hid ((HBB.out.setCell (p := ⟨gp, k, none⟩) HN.out.pos.gb.1 (.int .i64 (k : Int))).setCell (p := ⟨P, 3 + k, none⟩) HN.out.hP (.int .i64 (k : Int)))
            have hk0 : (0 : Int) ≤ (k : Int) := Int.natCast_nonneg _
            have hk1 : (k : Int) < (n : Int) := by omega
            have hk2 : (k : Int) < 25 := by omega
            clear HN HBB
            go_wp2_with fail
            go_region
            have HN3 : Hid (PNew ((wr.setCell ⟨gp, k, none⟩ (.int .i64 (k : Int))).setCell ⟨P, 3 + k, none⟩ (.int .i64 (k : Int))).drew BS P gp g n N cc3 AC ps (plB n (k + 1)) (onB (k + 1))) := Lib.hid (HN2.out.keep (Nat.le_refl _) (fun _ _ => rfl))
            have HB3 := Lib.hid HB2.out.drew
            clear HN2 HB2 c2 ck fk d1 d2 ck2 fk2
            generalize ((wr.setCell ⟨gp, k, none⟩ (.int .i64 (k : Int))).setCell ⟨P, 3 + k, none⟩ (.int .i64 (k : Int))).drew = w7 at *
            go_wp2
            go_roundw
            case rel => exact ⟨k + 1, by omega, by go_num, HN3, HB3⟩
            case measure => simp [intOf]; omega
          · obtain rfl : k = n := by omega
            rw [plB_all] at HN
            have c1 := (HN.out.row.cell 1).trans plRow_1
            have hPl := HN.out.row.lt
            have cA := fun o : Obj => (World.cell?_alloc_lt wr o ⟨P, 28, none⟩ hPl).trans ((HN.out.row.cell 28).trans (plRow_28 HN.out.on25))
            have fA := fun o : Obj => (World.frozen?_of_block (a := ⟨P, 28, none⟩) (Below.heap_alloc wr o P hPl)).trans (HN.out.row.frozen 28)
            obtain ⟨hA, hS⟩ := HN.out.fin (by omega) (cellsV (m : Int) ns gs os) (HCE.out.below HBB.out)
            have HA := Lib.hid hA
            have HS := Lib.hid hS
            have HBC := Lib.hid ((HBB.out.alloc (by have := HN.out.hP; omega) (.cells (madeCells #[.int .i64 0] N) 3)).setCell (p := ⟨P, 28, none⟩) HN.out.hP (.slice (some ⟨wr.heap.size, 0, none⟩) N N))
            have hsw := World.setCell_alloc_past (w := wr) (.cells (madeCells #[.int .i64 0] N) 3) P 28 (.slice (some ⟨wr.heap.size, 0, none⟩) N N) hPl
            rw [hsw] at HA HS HBC
            clear hA hS HN HBB hsw
            go_upto_region 14 with fail
            clear c1 cA fA hmkN
            generalize (wr.setCell ⟨P, 28, none⟩ (.slice (some ⟨wr.heap.size, 0, none⟩) N N)).alloc (.cells (madeCells #[.int .i64 0] N) 3) = w8 at *
            generalize wr.heap.size = gl at *
            have HOKP : Hid (∀ u j, j < (ps.getD u []).length → okPin k ((ps.getD u []).getD j (0, 0))) := Lib.hid (fun u j hj => pinR_ok HK.out ((HP.out u _).1 (memD0 hj)))
            have HPL := Lib.hid (start_ok (show k ≤ 25 by omega))
            have H8 : Hid (∀ u, lenP (List.range k) (ps.getD u []) ≤ 8) := Lib.hid (fun u => len8 HK.out HP.out HPL.out u)
            have HTS : Hid (∀ j, j < N → measAll (List.range k) ps (List.replicate N 0) (List.range (j + 1)) = (measAll (List.range k) ps (List.replicate N 0) (List.range j)).set j (lenP (List.range k) (ps.getD j []))) := Lib.hid (fun j _ => by
              rw [List.range_succ]
              exact measAll_snoc _ _ _ _ _)
            have HLF := Lib.hid (lok_all (List.range k) ps N)
            have HON := Lib.hid (onB_ok k)
            have HA0 : Hid (PAt w8 BS P gp gl g k N cc3 AC (List.range k) (onB k) (measAll (List.range k) ps (List.replicate N 0) (List.range 0)) 0 0) := HA
            have c1 := (HA.out.row.cell 1).trans plRow_1
            have HKP : Hid (Kp BS P gp gl w8 w8) := Lib.hid (Kp.of (Below.refl _ _) HS.out.zB)
            go_upto_region 15 with fail
            clear c1 HA
            generalize hL0 : List.replicate N 0 = L0 at *
            generalize hpl : List.range k = pl at *
            go_loopw [64] (fun iv wr => ∃ (j : Nat), j ≤ N ∧ iv = .int .i64 j ∧ Hid (PAt wr BS P gp gl g k N cc3 AC pl (onB k) (measAll pl ps L0 (List.range j)) 0 0) ∧ Hid (Kp BS P gp gl w8 wr)) (fun iv _ => N - (intOf iv).toNat)
            case atStart => exact ⟨0, Nat.zero_le _, rfl, HA0, HKP⟩
            case round =>
              clear HA0 HKP hk hlt
              obtain ⟨j, hj, rfl, HA, HKP⟩ := hrel
              by_cases hlt : j < N
              · have HST := Lib.hid (HTS.out j hlt)
                generalize measAll pl ps L0 (List.range j) = Lj at *
                go_wp2_with fail
                refine (measure_any BS P gp gl g k N cc3 j AC (cellsV (m : Int) ns gs os) ps pl (onB k) Lj 0 0 wr (HS.out.keep HKP.out) HA.out HPL.out hlt hn17 hN25 (HOKP.out j) (H8.out j)).mono ?_
                rintro e w9 ⟨rfl, ha9, hb9, hk9⟩
                rw [← HST.out] at ha9
                have HA9 := Lib.hid ha9
                have HK9 : Hid (Kp BS P gp gl w8 w9) := Lib.hid (HKP.out.trans ⟨hb9, fun b h1 h2 _ h4 => hk9 b h1 h2 h4⟩)
                clear ha9 hb9 hk9 HA HKP HST
                go_wp2
                go_roundw
                case rel => exact ⟨j + 1, by omega, by go_num, HA9, HK9⟩
                case measure => simp [intOf]; omega
              · obtain rfl : j = N := by omega
                go_wp2
                go_ret
                exact ⟨BS, P, gp, gl, g, cc3, AC, ps, rfl, HS.out.keep HKP.out, HP.out, (by rw [hpl]; exact ⟨_, _, _, _, HA.out, HON.out, HLF.out⟩), HXB.out, HX3.out.trans ((HBC.out.trans HKP.out.bel).mono HXB.out)⟩

set_option maxHeartbeats 800000 in
theorem iplace_f (i : Int) (nA gA oA : Option Addr) (nc gc oc : Nat) (ns : List Int) (gs : List (Int × Int)) (os : List Int) (w : World) (hv : Circ.validB i ns gs os = false) (hc : CircAt w w.heap.size nA gA oA ns gs os) :
    Calls Tryz.prog 14 #[.agg #[.int .i64 i, .slice nA ns.length nc, .slice gA gs.length gc, .slice oA os.length oc]] w fun e w' => (∃ (A : Option Addr) (cap : Nat), e = .returned (.slice A 0 cap)) ∧ Below w.heap.size w w' := by
  have hbw : Below w.heap.size w (w.alloc (.cells #[.int .i64 i, .slice nA ns.length nc, .slice gA gs.length gc, .slice oA os.length oc] 26)) := (Below.refl _ _).alloc (Nat.le_refl _) _
  have HC := Lib.hid ((hc.below hbw).mono hbw.size)
  have HL0 := Lib.hid hbw
  clear hc hbw
  go_enter Tryz.func14, Tryz.ntmps14
  go_wp2_with fail
  refine (valid_any i nA gA oA nc gc oc ns gs os _ HC.out).mono ?_
  rintro e w1 ⟨rfl, hb1⟩
  rw [hv]
  have HL1 := Lib.hid (HL0.out.trans (hb1.mono HL0.out.size))
  clear hb1 HL0 HC
  go_wp2
  go_ret
  exact ⟨⟨_, _, rfl⟩, HL1.out⟩

set_option maxRecDepth 10000 in
set_option maxHeartbeats 800000 in
theorem iplace_t (i : Int) (nA gA oA : Option Addr) (nc gc oc : Nat) (ns : List Int) (gs : List (Int × Int)) (os : List Int) (w : World) (hv : Circ.validB i ns gs os = true) (hc : CircAt w w.heap.size nA gA oA ns gs os) (hgc : gs.length ≤ gc) :
    Calls Tryz.prog 14 #[.agg #[.int .i64 i, .slice nA ns.length nc, .slice gA gs.length gc, .slice oA os.length oc]] w fun e w' => ∃ g cap : Nat, e = .returned (.slice (some ⟨g, 0, none⟩) (placeV i ns gs os).length cap) ∧ TimesAt w' w.heap.size (placeV i ns gs os) g cap ∧ Below w.heap.size w w' := by
  have HB0 := Lib.hid (Boxed.new w i nA gA oA ns.length nc gs.length gc os.length oc 26)
  have hbw : Below w.heap.size w (w.alloc (.cells #[.int .i64 i, .slice nA ns.length nc, .slice gA gs.length gc, .slice oA os.length oc] 26)) := (Below.refl _ _).alloc (Nat.le_refl _) _
  have hlt0 : w.heap.size < (w.alloc (.cells #[.int .i64 i, .slice nA ns.length nc, .slice gA gs.length gc, .slice oA os.length oc] 26)).heap.size := by simp
  have HC := Lib.hid hc
  have HL0 := Lib.hid hbw
  have HV := Lib.hid hv
  have HPV : Hid (placeV i ns gs os = placeN i.toNat (cellsV i ns gs os).length (Opt.fst i ns + gs.length) (Opt.natL os) (cellsV i ns gs os)) := Lib.hid (by unfold placeV; rw [if_pos hv])
  have HLE := Lib.hid (placeV_ok hv).1.len
  obtain ⟨h0, _⟩ := Circ.valid_within hv
  obtain ⟨m, rfl⟩ := Int.eq_ofNat_of_zero_le h0
  obtain ⟨n, hn⟩ : ∃ n, (cellsV (m : Int) ns gs os).length = n := ⟨_, rfl⟩
  obtain ⟨N, hN⟩ : ∃ N, Opt.fst (m : Int) ns + gs.length = N := ⟨_, rfl⟩
  have hok := netOk_of hv
  rw [hn, hN] at hok HPV
  rw [hn] at HLE
  rw [Int.toNat_natCast] at hok HPV
  have HOK := Lib.hid hok
  have HNN := Lib.hid hn
  have HNE := Lib.hid hN
  have hn17 := hok.n17
  obtain ⟨C, hC⟩ : ∃ C : List Nat → Nat, costP m (N - 1) (Opt.natL os) (cellsV (m : Int) ns gs os) = C := ⟨_, rfl⟩
  have HCE := Lib.hid hC
  have HPF : Hid (sweepsP C n (List.range n) 3 = placeV (m : Int) ns gs os) := Lib.hid (by rw [HPV.out, ← hC]; rfl)
  clear hc hbw hv h0 hok hn hN hC
  go_enter Tryz.func14, Tryz.ntmps14
  go_upto_region 1 with fail
  generalize w.alloc (.cells #[.int .i64 (m : Int), .slice nA ns.length nc, .slice gA gs.length gc, .slice oA os.length oc] 26) = w0 at *
  have q0 := HB0.out.c0
  have q1 := HB0.out.c1
  have q2 := HB0.out.c2
  have q3 := HB0.out.c3
  go_wp2_with fail
  refine (valid_any (m : Int) nA gA oA nc gc oc ns gs os _ ((HC.out.below HL0.out).mono HL0.out.size)).mono ?_
  rintro e w1 ⟨rfl, hb1⟩
  rw [HV.out]
  have HB1 := Lib.hid (HB0.out.below hb1 hlt0)
  have HL1 := Lib.hid (HL0.out.trans (hb1.mono HL0.out.size))
  clear hb1 HB0 HL0 q0 q1 q2 q3
  have q0 := HB1.out.c0
  have q1 := HB1.out.c1
  have q2 := HB1.out.c2
  have q3 := HB1.out.c3
  go_wp2_with fail
  refine (newPl_any (m : Int) nA gA oA nc gc oc ns gs os m n N w1 HV.out ((HC.out.below HL1.out).mono HL1.out.size) hgc rfl HNN.out HNE.out HOK.out).mono ?_
  rintro e w2 ⟨BS, P, gp, gl, g, cc, AC, ps, rfl, hs2, hp2, hr2, hbs, hb2⟩
  have HS := Lib.hid hs2
  have HPS := Lib.hid hp2
  have HR := Lib.hid hr2
  have HL2 := Lib.hid (HL1.out.trans (hb2.mono HL1.out.size))
  have HBS : Hid (w.heap.size ≤ BS) := Lib.hid (Nat.le_trans HL1.out.size hbs)
  have HKP : Hid (Kp BS P gp gl w2 w2) := Lib.hid (Kp.of (Below.refl _ _) hs2.zB)
  have HP0 := Lib.hid (start_ok (show n ≤ 25 by omega))
  clear hs2 hp2 hr2 hb2 hbs HL1 HB1 q0 q1 q2 q3
  go_upto_region 5 with fail
  generalize hpl : List.range n = p0 at *
  clear hpl
  go_loopw [9] (fun iv wr => ∃ (s : Nat), s ≤ 3 ∧ iv = .int .i64 s ∧ Hid (PRun wr BS P gp gl g n N cc AC ps (sweepsP C n p0 s)) ∧ Hid (Kp BS P gp gl w2 wr)) (fun iv _ => 3 - (intOf iv).toNat)
  case atStart => exact ⟨0, Nat.zero_le _, rfl, HR, HKP⟩
  case round =>
    clear HR HKP
    obtain ⟨s, hs3, rfl, HR, HKP⟩ := hrel
    by_cases hlt : s < 3
    · have HPLs := Lib.hid (sweepsP_ok (C := C) HP0.out s).1
      go_wp2_with fail
      refine (sweep_any BS P gp gl g m n N cc AC (cellsV (m : Int) ns gs os) (Opt.natL os) ps (sweepsP C n p0 s) wr (HS.out.keep HKP.out) HR.out HPLs.out HOK.out HPS.out).mono ?_
      rintro e w3 ⟨rfl, hr3, hk3⟩
      rw [HCE.out] at hr3
      have HR3 : Hid (PRun w3 BS P gp gl g n N cc AC ps (sweepsP C n p0 (s + 1))) := Lib.hid hr3
      have HK3 := Lib.hid (HKP.out.trans hk3)
      clear hr3 hk3 HR HKP
      go_wp2
      go_roundw
      case rel => exact ⟨s + 1, by omega, by go_num, HR3, HK3⟩
      case measure => simp [intOf]; omega
    · obtain rfl : s = 3 := by omega
      rw [HPF.out] at HR
      obtain ⟨on, L, x, y, ha, _⟩ := HR.out
      have c2 := (ha.row.cell 2).trans plRow_2
      have HT := Lib.hid (ha.pos.lower HBS.out)
      clear ha
      go_wp2
      go_ret
      exact ⟨gp, n, ret_slice HLE.out.symm, HT.out, HL2.out.trans (HKP.out.bel.mono HBS.out)⟩
end Go.Proofs.YtliaommpnaagiaaGreat
