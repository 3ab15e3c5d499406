/- The walks of routing: the model's search and its trees. -/
import Derived.Test.YtliedgaefgomjaaGreatRO
import Derived.Test.YtliedgaefgomjaaGreatWL
import Derived.Deep.LoopGhost
import Derived.Test.YtliedgaefgomjaaGreatRR
import Derived.Test.YtliedgaefgomjaaGreatSC
namespace Go.Proofs.YtliedgaefgomjaaGreat
open Go.RowKit Go.Deep Cut Plc Rt

set_option maxHeartbeats 1000000 in
theorem l8On_any (A : Option Addr) (l c t : Nat) (hs : List Hp) (b : Bool) (w : World) (hA : GatesAt w w.heap.size A (hpI hs)) (hl : hs.length = l) (hlb : l ≤ 1000) (hb : decide (t ∈ tiles hs) = b) :
    Calls Tryz.prog 105 #[.slice A l c, .int .i64 (t : Int)] w fun e w' => e = .returned (.bool b) ∧ w = w' := by
  have HA := Lib.hid hA
  have HL := Lib.hid hl
  have HB := Lib.hid hb
  have HN0 : Hid (∀ j, j < 0 → (hs.getD j (0, 0)).1 ≠ t) := Lib.hid (fun j hj => by omega)
  clear hA hl hb
  go_enter Tryz.func105, Tryz.ntmps105
  go_upto_region 2 with fail
  go_loop [5] (fun iv => ∃ k : Nat, k ≤ l ∧ iv = .int .i64 k ∧ Hid (∀ j, j < k → (hs.getD j (0, 0)).1 ≠ t)) (fun iv => l - (intOf iv).toNat)
  case atStart => exact ⟨0, Nat.zero_le _, rfl, HN0⟩
  case round =>
    clear HN0
    obtain ⟨k, hk, rfl, HNo⟩ := hrel
    by_cases hlt : k < l
    · obtain ⟨b', off, rfl, hbl, hc0, hc1⟩ := HA.out k (by rw [hpI_len, HL.out]; exact hlt)
      rw [hpI_at] at hc0
      simp only at hc0
      have hk0 : (0 : Int) ≤ (k : Int) := Int.natCast_nonneg _
      have hk1 : (k : Int) < (l : Int) := by omega
      clear hc1
      have HKL : Hid (k < hs.length) := Lib.hid (by rw [HL.out]; exact hlt)
      obtain ⟨v, hv⟩ : ∃ v, (hs.getD k (0, 0)).1 = v := ⟨_, rfl⟩
      rw [hv] at hc0
      have HV := Lib.hid hv
      clear hv
      by_cases he : v = t
      · subst he
        have HT : Hid (b = true) := Lib.hid (by
          rw [← HB.out]
          simp only [decide_eq_true_eq]
          unfold tiles
          rw [List.mem_map]
          exact ⟨hs.getD k (0, 0), by rw [List.getD_eq_getElem?_getD, List.getElem?_eq_getElem HKL.out]; exact List.getElem_mem HKL.out, HV.out⟩)
        go_wp2
        go_ret
        exact ⟨ret_bool (by rw [HT.out]), rfl⟩
      · have hbi : ((v : Int) == (t : Int)) = false := by rw [beq_eq_false_iff_ne]; omega
        have hbn : (v == t) = false := by rw [beq_eq_false_iff_ne]; exact he
        have HN2 : Hid (∀ j, j < k + 1 → (hs.getD j (0, 0)).1 ≠ t) := Lib.hid (fun j hj => by
          by_cases e : j = k
          · rw [e, HV.out]; exact he
          · exact HNo.out j (by omega))
        clear he
        go_wp2
        clear hbi hbn
        go_round
        case rel => exact ⟨k + 1, by omega, by go_num, HN2⟩
        case measure => simp [intOf]; omega
    · obtain rfl : k = l := by omega
      have HT : Hid (b = false) := Lib.hid (by
        rw [← HB.out]
        simp only [decide_eq_false_iff_not]
        unfold tiles
        rw [List.mem_map]
        rintro ⟨x, hx, e⟩
        obtain ⟨j, hj, rfl⟩ := List.getElem_of_mem hx
        have := HNo.out j (by rw [← HL.out]; exact hj)
        rw [List.getD_eq_getElem?_getD, List.getElem?_eq_getElem hj] at this
        exact this e)
      go_wp2
      go_ret
      exact ⟨ret_bool (by rw [HT.out]), rfl⟩

/-- A row of integers. -/
def FAt (w : World) (F : Nat) (fr : List Int) : Prop := Row w F 3 (ivs fr).toArray
theorem FAt.cell {w : World} {F : Nat} {fr : List Int} (h : FAt w F fr) {k : Nat} (hk : k < fr.length) : w.cell? ⟨F, k, none⟩ = some (.int .i64 (fr.getD k 0)) ∧ w.frozen? ⟨F, k, none⟩ = false := by
  refine ⟨?_, Row.frozen h k⟩
  rw [Row.cell h, List.getElem?_toArray]
  exact ivs_get hk
theorem FAt.put {w : World} {F : Nat} {fr : List Int} (h : FAt w F fr) (k : Nat) (x : Int) : FAt (w.setCell ⟨F, k, none⟩ (.int .i64 x)) F (fr.set k x) := by
  have h1 := Row.set h k (.int .i64 x)
  unfold FAt
  rw [List.setIfInBounds_toArray] at h1
  have e : ivs (fr.set k x) = (ivs fr).set k (.int .i64 x) := by unfold ivs; rw [List.map_set]
  rw [e]
  exact h1
theorem FAt.made (w : World) (n : Nat) : FAt (w.alloc (.cells (madeCells #[.int .i64 0] n) 3)) w.heap.size (List.replicate n 0) := by
  have e : (ivs (List.replicate n 0)).toArray = madeCells #[.int .i64 0] n := by
    rw [← Array.toList_inj, toList_madeCells_one]
    simp [ivs]
  unfold FAt
  rw [e]
  exact heap_alloc_new w _
theorem fill_set (k : Nat) (h : k < 25) : (List.replicate k (-2 : Int) ++ List.replicate (25 - k) 0).set k (-2) = List.replicate (k + 1) (-2 : Int) ++ List.replicate (25 - (k + 1)) 0 := by
  rw [List.set_append_right _ _ (by rw [List.length_replicate]; exact Nat.le_refl _), List.length_replicate, Nat.sub_self, show 25 - k = 25 - (k + 1) + 1 by omega, List.replicate_succ]
  show List.replicate k (-2 : Int) ++ (-2 :: List.replicate (25 - (k + 1)) 0) = _
  rw [List.replicate_succ', List.append_assoc]
  rfl

theorem TimesAt.farQ {w : World} {s g cap : Nat} {xs : List Nat} (h : TimesAt w s xs g cap) {p : Addr} (hp : g ≠ p.block) (u : Value) : TimesAt (w.setCell p u) s xs g cap := h.keep (Below.heap_setCell w p u g hp)
/-- What l8Path answers. -/
def SPath (B : Nat) (o : Option (List Hp)) (e : Ending) (w' : World) : Prop := match o with
  | none => ∃ v, e = .returned (.tuple #[v, .bool false])
  | some hs => ∃ g cap : Nat, e = .returned (.tuple #[.slice (some ⟨g, 0, none⟩) hs.length cap, .bool true]) ∧ HAt w' B hs g cap

set_option maxRecDepth 10000 in
set_option maxHeartbeats 4000000 in
theorem l8Path_any (B g0 c0 l sink p cb : Nat) (AB : Option Addr) (busy : List Bool) (hs : List Hp) (w : World) (hH : HAt w B hs g0 c0) (hl : hs.length = l) (_hBw : B ≤ w.heap.size) (hT : Tree busy p hs) (hb : BoolsAt w w.heap.size AB busy) (hbl : busy.length = 25) (hs25 : sink < 25) :
    Calls Tryz.prog 91 #[.slice (some ⟨g0, 0, none⟩) l c0, .int .i64 (sink : Int), .slice AB 25 cb] w fun e w' => SPath B (extend busy hs sink) e w' ∧ Below w.heap.size w w' := by
  have HH := Lib.hid hH
  have HL := Lib.hid hl
  have HT := Lib.hid hT
  have HBO := Lib.hid hb
  have HBL := Lib.hid hbl
  have hl25 := hT.len
  rw [hl] at hl25
  have hg0 := hH.gb
  clear hH hl hT hb hbl
  cases hon : decide (sink ∈ tiles hs)
  · have HON := Lib.hid hon
    have HEX : Hid (extend busy hs sink = if (search busy sink 26 0 (Rt.start (tiles hs))).1.getD sink 0 = -2 then none else some (hs ++ pathTo (search busy sink 26 0 (Rt.start (tiles hs))).1 26 sink)) := Lib.hid (by unfold extend; rw [if_neg (by simpa using hon)])
    clear hon
    have hmk : ∀ W, (Instr.makeSlice 23 (.int .i64 25) (.int .i64 25)).run Tryz.prog W = .ok (.slice (some ⟨W.heap.size, 0, none⟩) 25 25) (W.alloc (.cells (madeCells #[.int .i64 0] 25) 3)) := fun W => run_make_row' (P := Tryz.prog) 23 3 (.int .i64 0) 8 Tryz.underlying23 Tryz.info3 rfl .i64 .i64 25 (by omega) (by omega) W
    go_enter Tryz.func91, Tryz.ntmps91
    go_wp2_with fail
    refine (l8On_any (some ⟨g0, 0, none⟩) l c0 sink hs false w HH.out.read HL.out (by omega) HON.out).mono ?_
    rintro e w' ⟨rfl, rfl⟩
    go_upto_region 5 with fail
    clear hmk
    have hb1 : Below w.heap.size w (w.alloc (.cells (madeCells #[.int .i64 0] 25) 3)) := (Below.refl _ _).alloc (Nat.le_refl _) _
    have HF0 : Hid (FAt (w.alloc (.cells (madeCells #[.int .i64 0] 25) 3)) w.heap.size (List.replicate 0 (-2) ++ List.replicate (25 - 0) 0)) := Lib.hid (FAt.made w 25)
    have HX1 := Lib.hid hb1
    generalize w.alloc (.cells (madeCells #[.int .i64 0] 25) 3) = w1 at *
    clear hb1
    go_loopw [9] (fun iv wr => ∃ (k : Nat), k ≤ 25 ∧ iv = .int .i64 k ∧ Hid (FAt wr w.heap.size (List.replicate k (-2) ++ List.replicate (25 - k) 0)) ∧ Hid (Below w.heap.size w wr)) (fun iv _ => 25 - (intOf iv).toNat)
    case atStart => exact ⟨0, by omega, rfl, HF0, HX1⟩
    case round =>
      clear HF0 HX1
      obtain ⟨k, hk, rfl, HF, HX⟩ := hrel
      by_cases hlt : k < 25
      · obtain ⟨d1, d2⟩ := HF.out.cell (k := k) (by rw [List.length_append, List.length_replicate, List.length_replicate]; omega)
        have HF2 := Lib.hid (HF.out.put k (-2))
        rw [fill_set k hlt] at HF2
        have HX2 := Lib.hid (HX.out.setCell (p := ⟨w.heap.size, k, none⟩) (Nat.le_refl w.heap.size) (.int .i64 (-2)))
        generalize (List.replicate k (-2 : Int) ++ List.replicate (25 - k) 0).getD k 0 = old at *
        have hk0 : (0 : Int) ≤ (k : Int) := Int.natCast_nonneg _
        have hk1 : (k : Int) < 25 := by omega
        clear HF HX
        go_wp2
        go_roundw
        case rel => exact ⟨k + 1, by omega, by go_num, HF2, HX2⟩
        case measure => simp [intOf]; omega
      · obtain rfl : k = 25 := by omega
        have HF25 : Hid (FAt wr w.heap.size (List.replicate 25 (-2))) := Lib.hid (by
          have h := HF.out
          rw [Nat.sub_self, List.replicate_zero, List.append_nil] at h
          exact h)
        clear HF
        rw [show ((25 : Nat) : Int) = 25 from rfl]
        go_upto_region 10 with fail
        have hb2 : Below wr.heap.size wr (wr.alloc (.cells #[] 3)) := (Below.refl _ _).alloc (Nat.le_refl _) _
        have hFw : w.heap.size < wr.heap.size := Row.lt HF25.out
        have HF0 : Hid (FAt (wr.alloc (.cells #[] 3)) w.heap.size (Rt.start ((tiles hs).take 0)).1) := Lib.hid (Row.below HF25.out hb2 hFw)
        have HQ0 : Hid (TimesAt (wr.alloc (.cells #[] 3)) wr.heap.size ((tiles hs).take 0) wr.heap.size 0) := Lib.hid (TimesAt.made0 wr wr.heap.size (Nat.le_refl _))
        have HX0 := Lib.hid (HX.out.trans (hb2.mono HX.out.size))
        have hsz0 : (wr.alloc (.cells #[] 3)).heap.size = wr.heap.size + 1 := by simp
        generalize wr.alloc (.cells #[] 3) = w2 at *
        obtain ⟨Q0, hQ0⟩ : ∃ Q0, wr.heap.size = Q0 := ⟨_, rfl⟩
        rw [hQ0] at HQ0 hFw
        rw [hQ0]
        have HTL : Hid ((tiles hs).length = l) := Lib.hid (by unfold tiles; rw [List.length_map, HL.out])
        have HTK : Hid (∀ k, k < l → (tiles hs).take (k + 1) = (tiles hs).take k ++ [(hs.getD k (0, 0)).1] ∧ (hs.getD k (0, 0)).1 < 25) := Lib.hid (fun k hk => by
          have hk2 : k < hs.length := by rw [HL.out]; exact hk
          have hk3 : k < (tiles hs).length := by rw [HTL.out]; exact hk
          have e : (tiles hs)[k] = (hs.getD k (0, 0)).1 := by simp [tiles, List.getD_eq_getElem?_getD, hk2]
          refine ⟨by rw [List.take_succ_eq_append_getElem hk3, e], ?_⟩
          rw [← e]
          exact (HT.out.nodup.2 _ (List.getElem_mem hk3)).1)
        have HI0 := Lib.hid HT.out.inv
        clear hb2 HF25 HX hQ0
        generalize hts : tiles hs = ts at *
        have HTS := Lib.hid hts
        clear hts hsz0
        have HT0 : Hid ((ts.take 0).length = 0) := Lib.hid rfl
        go_loopw [10, 11] (fun qv iv wr => ∃ (k gq cq : Nat), k ≤ l ∧ iv = .int .i64 k ∧ qv = .slice (some ⟨gq, 0, none⟩) k cq ∧ Hid ((ts.take k).length = k) ∧ Hid (FAt wr w.heap.size (Rt.start (ts.take k)).1) ∧ Hid (TimesAt wr Q0 (ts.take k) gq cq) ∧ Hid (Below w.heap.size w wr)) (fun _ iv _ => l - (intOf iv).toNat)
        case atStart => exact ⟨0, Q0, 0, Nat.zero_le _, rfl, rfl, HT0, HF0, HQ0, HX0⟩
        case round =>
          clear HF0 HQ0 HX0 HT0
          obtain ⟨k, gq, cq, hk, rfl, rfl, HTk, HF, HQ, HX⟩ := hrel
          have hgq := HQ.out.gb
          by_cases hlt : k < l
          · obtain ⟨b, off, e, hbl, hc0, hc1⟩ := HH.out.read k (by rw [hpI_len, HL.out]; exact hlt)
            injection e with e
            injection e with e1 e2
            subst e1 e2
            rw [hpI_at, Nat.zero_add] at hc0
            have hc0 := (HX.out.cell (p := ⟨g0, k * 2, none⟩) hg0.2).trans hc0
            simp only at hc0
            obtain ⟨e1, e2⟩ := HTK.out k hlt
            have HE1 := Lib.hid e1
            generalize (hs.getD k (0, 0)).1 = t at *
            obtain ⟨d1, d2⟩ := HF.out.cell (k := t) (by rw [start_len]; exact e2)
            have HF2 : Hid (FAt (wr.setCell ⟨w.heap.size, t, none⟩ (.int .i64 (-1))) w.heap.size (Rt.start (ts.take (k + 1))).1) := Lib.hid (by
              rw [HE1.out, start_snoc]
              exact HF.out.put t (-1))
            have HX2 := Lib.hid (HX.out.setCell (p := ⟨w.heap.size, t, none⟩) (Nat.le_refl w.heap.size) (.int .i64 (-1)))
            have HQ2 := Lib.hid (HQ.out.farQ (p := ⟨w.heap.size, t, none⟩) (show gq ≠ w.heap.size by omega) (.int .i64 (-1)))
            have hc2 := (World.cell?_of_block (a := ⟨g0, k * 2, none⟩) (Below.heap_setCell wr ⟨w.heap.size, t, none⟩ (.int .i64 (-1)) g0 (show g0 ≠ w.heap.size by omega))).trans hc0
            generalize (Rt.start (ts.take k)).1.getD t 0 = old at *
            have hk0 : (0 : Int) ≤ (k : Int) := Int.natCast_nonneg _
            have hk1 : (k : Int) < (l : Int) := by omega
            have ht0 : (0 : Int) ≤ (t : Int) := Int.natCast_nonneg _
            have ht1 : (t : Int) < 25 := by omega
            clear e1 hc1 hbl HF HX HQ
            go_upto_region 13 with fail
            clear hc0 d1 d2
            generalize wr.setCell ⟨w.heap.size, t, none⟩ (.int .i64 (-1)) = w3 at *
            go_wp2_with (at_builtin; refine wpList_pushT rfl (.tmp 45) (.tmp 51) rfl w3 Q0 gq cq k (ts.take k) rfl HTk.out HQ2.out (by omega) t _ rfl rfl ?_)
            intro g' cap' w5 hT5 hb5 hk5 _
            have HQ5 : Hid (TimesAt w5 Q0 (ts.take (k + 1)) g' cap') := Lib.hid (by rw [HE1.out]; exact hT5)
            have HX5 := Lib.hid (HX2.out.trans (hb5.mono (show w.heap.size ≤ Q0 by omega)))
            have HF5 : Hid (FAt w5 w.heap.size (Rt.start (ts.take (k + 1))).1) := Lib.hid (Row.below HF2.out hb5 hFw)
            have HTk5 : Hid ((ts.take (k + 1)).length = k + 1) := Lib.hid (by rw [HE1.out, List.length_append, HTk.out]; rfl)
            clear hT5 hb5 hk5 HF2 HX2 HQ2 hc2
            go_wp2
            go_roundw
            case rel => exact ⟨k + 1, g', cap', by omega, by go_num, rfl, HTk5, HF5, HQ5, HX5⟩
            case measure => simp [intOf]; omega
          · obtain rfl : k = l := by omega
            obtain ⟨SF, hSF⟩ : ∃ SF, search busy sink 26 0 (Rt.start ts) = SF := ⟨_, rfl⟩
            have HSF : Hid (search busy sink (26 - 0) 0 (Rt.start ts) = SF) := Lib.hid hSF
            have HEX : Hid (extend busy hs sink = if SF.1.getD sink 0 = -2 then none else some (hs ++ pathTo SF.1 26 sink)) := Lib.hid (by rw [← hSF]; exact HEX.out)
            have HI1 : Hid (Inv busy ts (Rt.start ts)) := HI0
            have HIF : Hid (Inv busy ts SF) := Lib.hid (by rw [← hSF]; exact (search_ok 26 0 _ HI0.out).1)
            have HFs : Hid (FAt wr w.heap.size (Rt.start ts).1) := Lib.hid (by
              have h := HF.out
              rw [List.take_of_length_le (by rw [HTL.out]; exact Nat.le_refl _)] at h
              exact h)
            have HQs : Hid (TimesAt wr Q0 (Rt.start ts).2 gq cq) := Lib.hid (by
              have h := HQ.out
              rw [List.take_of_length_le (by rw [HTL.out]; exact Nat.le_refl _)] at h
              exact h)
            have HLs : Hid ((Rt.start ts).2.length = k) := Lib.hid HTL.out
            clear hSF HF HQ HTk HTK HI0
            go_upto_region 15 with fail
            go_loopw [10, 12] (fun qv iv wr => ∃ (j n gq cq : Nat) (s : St), j ≤ n ∧ iv = .int .i64 j ∧ qv = .slice (some ⟨gq, 0, none⟩) n cq ∧ Hid (s.2.length = n) ∧ Hid (Inv busy ts s) ∧ Hid (search busy sink (26 - j) j s = SF) ∧ Hid (FAt wr w.heap.size s.1) ∧ Hid (TimesAt wr Q0 s.2 gq cq) ∧ Hid (Below w.heap.size w wr)) (fun _ iv _ => 26 - (intOf iv).toNat)
            case atStart => exact ⟨0, k, gq, cq, Rt.start ts, Nat.zero_le _, rfl, rfl, HLs, HI1, HSF, HFs, HQs, HX⟩
            case round =>
              clear HLs HI1 HSF HFs HQs HX hgq
              obtain ⟨j, n, gq, cq, s, hjn, rfl, rfl, HLs, HI, HSE, HF, HQ, HX⟩ := hrel
              have hn25 := HI.out.q25
              rw [HLs.out] at hn25
              have hgq := HQ.out.gb
              obtain ⟨d1, d2⟩ := HF.out.cell (k := sink) (by rw [HI.out.len]; exact hs25)
              have hs0 : (0 : Int) ≤ (sink : Int) := Int.natCast_nonneg _
              have hs1 : (sink : Int) < 25 := by omega
              have hj0 : (0 : Int) ≤ (j : Int) := Int.natCast_nonneg _
              clear d2
              by_cases hgo : j < n ∧ s.1.getD sink 0 = -2
              · obtain ⟨hke, hgf⟩ := hgo
                have hkl : j < s.2.length := by rw [HLs.out]; exact hke
                obtain ⟨u, hu⟩ : ∃ u, s.2.getD j 0 = u := ⟨_, rfl⟩
                have hu25 : u < 25 := by rw [← hu]; exact HI.out.lt _ (Rt.memD hkl)
                have HGO : Hid (search busy sink (26 - (j + 1)) (j + 1) (expand busy u (nbrs u) s) = SF) := Lib.hid (by
                  have h := HSE.out
                  rw [show 26 - j = 26 - (j + 1) + 1 by omega, search_go ⟨hkl, hgf⟩, hu] at h
                  exact h)
                have HEXP : Hid (∀ vs, (∀ v, v ∈ vs → v ∈ nbrs u) → Inv busy ts (expand busy u vs s) ∧ Grows s (expand busy u vs s)) := Lib.hid (fun vs hvs => by
                  have h := expand_ok HI.out hkl vs (by rw [hu]; exact hvs)
                  rw [hu] at h
                  exact h)
                obtain ⟨qc, _⟩ := HQ.out.row (k := j) hkl
                rw [hu] at qc
                have hj1 : (j : Int) < (n : Int) := by omega
                have HKL := Lib.hid hkl
                have HU := Lib.hid hu
                rw [hgf] at d1
                clear hkl hu hgf HSE
                go_upto_region 17 with fail
                clear d1
                go_wp2_with fail
                refine (l8Next_any u wr hu25).mono ?_
                rintro e w6 ⟨gN, capN, rfl, ht6, hb6⟩
                have hgN := ht6.gb
                have HF6 : Hid (FAt w6 w.heap.size s.1) := Lib.hid (Row.below HF.out hb6 (Row.lt HF.out))
                have HQ6 := Lib.hid (HQ.out.keep (w' := w6) (hb6.block gq hgq.2))
                have HX6 := Lib.hid (HX.out.trans (hb6.mono HX.out.size))
                have HT6 := Lib.hid (ht6.lower (s' := w.heap.size) HX.out.size)
                have hqN : gq ≠ gN := by omega
                have hFN : w.heap.size ≠ gN := by have := Row.lt HF.out; omega
                clear ht6 hb6 HF HQ HX qc
                have HNL : Hid (∀ v, v ∈ nbrs u → v < 25) := Lib.hid (fun v hv => nbrs_lt hu25 hv)
                have HEX0 : Hid (expand busy u ((nbrs u).take 0) s = s) := Lib.hid rfl
                have hnl4 := nbrs_len u
                generalize hns : nbrs u = ns at *
                clear hns
                obtain ⟨nl, hnl⟩ : ∃ nl, ns.length = nl := ⟨_, rfl⟩
                have HNN := Lib.hid hnl
                rw [hnl] at hnl4 ⊢
                clear hnl
                go_upto_region 19 with fail
                go_loopw [10, 14] (fun qv iv wr => ∃ (i n gq cq : Nat) (s' : St), i ≤ nl ∧ iv = .int .i64 i ∧ qv = .slice (some ⟨gq, 0, none⟩) n cq ∧ gq ≠ gN ∧ gN < wr.heap.size ∧ Hid (s'.2.length = n) ∧ Hid (expand busy u (ns.take i) s = s') ∧ Hid (FAt wr w.heap.size s'.1) ∧ Hid (TimesAt wr Q0 s'.2 gq cq) ∧ Hid (TimesAt wr w.heap.size ns gN capN) ∧ Hid (Below w.heap.size w wr)) (fun _ iv _ => nl - (intOf iv).toNat)
                case atStart => exact ⟨0, n, gq, cq, s, Nat.zero_le _, rfl, rfl, hqN, hgN.2, HLs, HEX0, HF6, HQ6, HT6, HX6⟩
                case round =>
                  clear HF6 HQ6 HT6 HX6 HEX0 hqN hgN
                  have HLS0 := HLs
                  clear HLs
                  obtain ⟨i, n', gq, cq, s', hi, rfl, rfl, hqN, hgw, HLs, HE, HF, HQ, HT, HX⟩ := hrel
                  have HEI := Lib.hid (HEXP.out (ns.take i) (fun v hv => List.mem_of_mem_take hv))
                  rw [HE.out] at HEI
                  have hn25' := HEI.out.1.q25
                  rw [HLs.out] at hn25'
                  have hgq := HQ.out.gb
                  obtain ⟨hat, hjl⟩ := HEI.out.2.at HKL.out
                  rw [HU.out] at hat
                  rw [HLs.out] at hjl
                  by_cases hlt : i < nl
                  · have hil : i < ns.length := by rw [HNN.out]; exact hlt
                    obtain ⟨hcv, _⟩ := HT.out.row (k := i) hil
                    have hvm : ns.getD i 0 ∈ ns := by simp [List.getD_eq_getElem?_getD, hil]
                    have hv25 := HNL.out _ hvm
                    have HEV : Hid (expand busy u (ns.take (i + 1)) s = Rt.visit busy u s' (ns.getD i 0)) := Lib.hid (by
                      rw [List.take_succ_eq_append_getElem hil, expand_snoc, HE.out]
                      simp [List.getD_eq_getElem?_getD, hil])
                    obtain ⟨v, hv⟩ : ∃ v, ns.getD i 0 = v := ⟨_, rfl⟩
                    rw [hv] at hcv hvm hv25 HEV
                    have HVE := Lib.hid hv
                    clear hv
                    obtain ⟨d1, d2⟩ := HF.out.cell (k := v) (by rw [HEI.out.1.len]; exact hv25)
                    obtain ⟨bb, bo, rfl, hbb, hbc⟩ := HBO.out v (by rw [HBL.out]; exact hv25)
                    have hbc := (HX.out.cell (p := ⟨bb, bo + v, none⟩) hbb).trans hbc
                    have hv0 : (0 : Int) ≤ (v : Int) := Int.natCast_nonneg _
                    have hv1 : (v : Int) < 25 := by omega
                    have hi0 : (0 : Int) ≤ (i : Int) := Int.natCast_nonneg _
                    have hi1 : (i : Int) < (nl : Int) := by omega
                    clear hvm
                    by_cases hf : s'.1.getD v 0 = -2
                    · rw [hf] at d1
                      by_cases hbv : busy.getD v false = true
                      · rw [hbv] at hbc
                        have HE2 : Hid (expand busy u (ns.take (i + 1)) s = s') := Lib.hid (by rw [HEV.out]; unfold Rt.visit; rw [if_neg (fun x => by rw [hbv] at x; exact absurd x.2 (by simp))])
                        clear hf hbv HEV d2 hat
                        go_wp2
                        clear d1 hbc hcv
                        go_roundw
                        case rel => exact ⟨i + 1, n', gq, cq, s', by omega, by go_num, rfl, hqN, hgw, HLs, HE2, HF, HQ, HT, HX⟩
                        case measure => simp [intOf]; omega
                      · have hbv : busy.getD v false = false := by simpa using hbv
                        rw [hbv] at hbc
                        have HE2 : Hid (expand busy u (ns.take (i + 1)) s = (s'.1.set v (u : Int), s'.2 ++ [v])) := Lib.hid (by rw [HEV.out]; unfold Rt.visit; rw [if_pos ⟨hf, hbv⟩])
                        obtain ⟨qc, _⟩ := HQ.out.row (k := j) (by rw [HLs.out]; exact hjl)
                        rw [hat] at qc
                        have hj1 : (j : Int) < (n' : Int) := by omega
                        have HF2 := Lib.hid (HF.out.put v (u : Int))
                        have HX2 := Lib.hid (HX.out.setCell (p := ⟨w.heap.size, v, none⟩) (Nat.le_refl w.heap.size) (.int .i64 (u : Int)))
                        have HQ2 := Lib.hid (HQ.out.farQ (p := ⟨w.heap.size, v, none⟩) (show gq ≠ w.heap.size by omega) (.int .i64 (u : Int)))
                        have HT2 := Lib.hid (HT.out.farQ (p := ⟨w.heap.size, v, none⟩) (Ne.symm hFN) (.int .i64 (u : Int)))
                        clear hf hbv HEV hat HF HX HQ HT
                        go_upto_region 22 with fail
                        clear hbc
                        go_region
                        have HF3 : Hid (FAt (wr.setCell ⟨w.heap.size, v, none⟩ (.int .i64 (u : Int))).drew w.heap.size (s'.1.set v (u : Int))) := HF2
                        have HX3 := Lib.hid HX2.out.drew
                        have HQ3 : Hid (TimesAt (wr.setCell ⟨w.heap.size, v, none⟩ (.int .i64 (u : Int))).drew Q0 s'.2 gq cq) := HQ2
                        have HT3 : Hid (TimesAt (wr.setCell ⟨w.heap.size, v, none⟩ (.int .i64 (u : Int))).drew w.heap.size ns gN capN) := HT2
                        have hz3 : wr.heap.size ≤ (wr.setCell ⟨w.heap.size, v, none⟩ (.int .i64 (u : Int))).drew.heap.size := by simp
                        clear HF2 HX2 HQ2 HT2 d1 d2 qc hcv
                        generalize (wr.setCell ⟨w.heap.size, v, none⟩ (.int .i64 (u : Int))).drew = w3 at *
                        obtain ⟨hcv, _⟩ := HT3.out.row (k := i) hil
                        rw [HVE.out] at hcv
                        have HLS3 : Hid (s'.2.length = n') := HLs
                        go_wp2_with (at_builtin; refine wpList_pushT rfl (.tmp 105) (.tmp 110) rfl w3 Q0 gq cq n' s'.2 rfl HLS3.out HQ3.out (by omega) v _ rfl rfl ?_)
                        intro g' cap' w5 hT5 hb5 hk5 hg5
                        have HQ5 : Hid (TimesAt w5 Q0 (s'.2 ++ [v]) g' cap') := Lib.hid hT5
                        have HX5 := Lib.hid (HX3.out.trans (hb5.mono (show w.heap.size ≤ Q0 by omega)))
                        have HF5 : Hid (FAt w5 w.heap.size (s'.1.set v (u : Int))) := Lib.hid (Row.below HF3.out hb5 hFw)
                        have HT5 := Lib.hid (HT3.out.keep (w' := w5) (hk5 gN (by omega) (Ne.symm hqN)))
                        have hg5n : g' ≠ gN := by omega
                        have hgw5 := HT5.out.gb.2
                        have HL5 : Hid ((s'.2 ++ [v]).length = n' + 1) := Lib.hid (by rw [List.length_append, HLS3.out]; rfl)
                        clear hT5 hb5 hk5 hg5 HF3 HX3 HQ3 HT3 hcv
                        go_wp2
                        go_roundw
                        case rel => exact ⟨i + 1, n' + 1, g', cap', _, by omega, by go_num, rfl, hg5n, hgw5, HL5, HE2, HF5, HQ5, HT5, HX5⟩
                        case measure => simp [intOf]; omega
                    · have HE2 : Hid (expand busy u (ns.take (i + 1)) s = s') := Lib.hid (by rw [HEV.out]; unfold Rt.visit; rw [if_neg (fun x => hf x.1)])
                      have hne : (s'.1.getD v 0 == -2) = false := by rw [beq_eq_false_iff_ne]; exact hf
                      generalize s'.1.getD v 0 = fv at *
                      clear hf HEV hbc d2 hat
                      go_wp2
                      clear d1 hcv hne
                      go_roundw
                      case rel => exact ⟨i + 1, n', gq, cq, s', by omega, by go_num, rfl, hqN, hgw, HLs, HE2, HF, HQ, HT, HX⟩
                      case measure => simp [intOf]; omega
                  · obtain rfl : i = nl := by omega
                    have HEE : Hid (expand busy u ns s = s') := Lib.hid (by
                      have h := HE.out
                      rw [List.take_of_length_le (by rw [HNN.out]; exact Nat.le_refl _)] at h
                      exact h)
                    have HGO2 : Hid (search busy sink (26 - (j + 1)) (j + 1) s' = SF) := Lib.hid (by rw [← HEE.out]; exact HGO.out)
                    have HI2 := Lib.hid HEI.out.1
                    clear HE HEI HEE HGO HEXP hat
                    go_wp2
                    go_roundw
                    case rel => exact ⟨j + 1, n', gq, cq, s', by omega, by go_num, rfl, HLs, HI2, HGO2, HF, HQ, HX⟩
                    case measure => simp [intOf]; omega
              · have HSS : Hid (s = SF) := Lib.hid (by
                  have h := HSE.out
                  rw [search_stop (by rw [HLs.out]; exact hgo)] at h
                  exact h)
                rw [HSS.out] at HF d1
                have hway : j = n ∨ (j < n ∧ SF.1.getD sink 0 ≠ -2) := by
                  by_cases hjn2 : j < n
                  · exact .inr ⟨hjn2, fun e => hgo ⟨hjn2, by rw [HSS.out]; exact e⟩⟩
                  · exact .inl (by omega)
                obtain ⟨fv, hfv⟩ : ∃ fv, SF.1.getD sink 0 = fv := ⟨_, rfl⟩
                rw [hfv] at d1 hway HEX
                have HFV := Lib.hid hfv
                clear hgo HSE HI HSS HQ hfv
                rcases hway with rfl | ⟨hjn2, hne⟩
                · go_upto_region 24 with fail
                  by_cases hf : fv = -2
                  · have HSN : Hid (extend busy hs sink = none) := Lib.hid (by rw [HEX.out, if_pos hf])
                    subst hf
                    go_wp2
                    go_ret2
                    exact ⟨by rw [HSN.out]; exact ⟨_, rfl⟩, HX.out⟩
                  · have HSO : Hid (extend busy hs sink = some (hs ++ pathTo SF.1 26 sink)) := Lib.hid (by rw [HEX.out, if_neg hf])
                    have hfb : (fv == -2) = false := by rw [beq_eq_false_iff_ne]; exact hf
                    have HFN : Hid (SF.1.getD sink 0 ≠ -2) := Lib.hid (by rw [HFV.out]; exact hf)
                    clear hf
                    go_upto_region 28 with fail
                    clear hfb d1
                    have hbm : Below wr.heap.size wr (wr.alloc (.cells #[] 38)) := (Below.refl _ _).alloc (Nat.le_refl _) _
                    have hzm : (wr.alloc (.cells #[] 38)).heap.size = wr.heap.size + 1 := by simp
                    have hFl := Row.lt HF.out
                    obtain ⟨P0, hP0⟩ : ∃ P0, wr.heap.size = P0 := ⟨_, rfl⟩
                    have HA0 : Hid (HAt (wr.alloc (.cells #[] 38)) P0 [] P0 0) := Lib.hid (by rw [← hP0]; exact HAt.made wr wr.heap.size (Nat.le_refl _))
                    have HFm : Hid (FAt (wr.alloc (.cells #[] 38)) w.heap.size SF.1) := Lib.hid (Row.below HF.out hbm hFl)
                    have HXm := Lib.hid (HX.out.trans (hbm.mono HX.out.size))
                    generalize wr.alloc (.cells #[] 38) = wm at *
                    have hPz : P0 ≤ wm.heap.size := by omega
                    rw [hP0] at hFl
                    rw [hP0]
                    have hwP : w.heap.size ≤ P0 := by omega
                    clear hbm hzm hP0 HF HX
                    obtain ⟨jg, hjg, hgq⟩ := search_end HIF.out hs25 HFN.out
                    have HJG := Lib.hid hjg
                    have HGQ := Lib.hid hgq
                    have hj25 : jg ≤ 24 := by have := HIF.out.q25; omega
                    obtain ⟨P, hP⟩ : ∃ P, pathTo SF.1 26 sink = P := ⟨_, rfl⟩
                    have HPE : Hid (pathTo SF.1 26 sink = P) := Lib.hid hP
                    have HSO2 : Hid (extend busy hs sink = some (hs ++ P)) := Lib.hid (by rw [HSO.out, hP])
                    have HM0 : Hid (([] : List Hp).length = 0) := Lib.hid rfl
                    clear hjg hgq hP HSO
                    go_loopw [15, 16] (fun pv tv wr => ∃ (jj t m gp cp : Nat) (acc : List Hp), tv = .int .i64 t ∧ pv = .slice (some ⟨gp, 0, none⟩) m cp ∧ m + jj ≤ 24 ∧ Hid (acc.length = m) ∧ Hid (jj < SF.2.length) ∧ Hid (SF.2.getD jj 0 = t) ∧ Hid (HAt wr P0 acc gp cp) ∧ Hid (pathTo SF.1 26 t ++ acc = P) ∧ Hid (FAt wr w.heap.size SF.1) ∧ Hid (Below w.heap.size w wr)) (fun pv _ _ => 26 - lenS pv)
                    case atStart => exact ⟨jg, sink, 0, P0, 0, [], rfl, rfl, by omega, HM0, HJG, HGQ, HA0, Lib.hid (by rw [List.append_nil]; exact HPE.out), HFm, HXm⟩
                    case round =>
                      clear HA0 HFm HXm hPz HJG HGQ HM0 hj25
                      obtain ⟨jj, t, m, gp, cp, acc, rfl, rfl, hmj, HM, HJ, HG, HA, HP, HF, HX⟩ := hrel
                      have ht25 : t < 25 := by have h := HIF.out.lt (SF.2.getD jj 0) (Rt.memD HJ.out); rw [HG.out] at h; exact h
                      have hf2 : SF.1.getD t 0 ≠ -2 := (HIF.out.mem t ht25).1 (by have h : SF.2.getD jj 0 ∈ SF.2 := Rt.memD HJ.out; rw [HG.out] at h; exact h)
                      obtain ⟨d1, d2⟩ := HF.out.cell (k := t) (by rw [HIF.out.len]; exact ht25)
                      have ht0 : (0 : Int) ≤ (t : Int) := Int.natCast_nonneg _
                      have ht1 : (t : Int) < 25 := by omega
                      have hgp := HA.out.gb
                      clear d2
                      by_cases hne : SF.1.getD t 0 = -1
                      · have HE := Lib.hid (path_end (f := 26) hne)
                        have HPA : Hid (acc = P) := Lib.hid (by have h := HP.out; rw [HE.out, List.nil_append] at h; exact h)
                        rw [hne] at d1
                        clear hne hf2
                        go_upto_region 31 with fail
                        clear d1
                        have HZ0 : Hid (HAt (wr.alloc (.cells #[] 38)) wr.heap.size [] wr.heap.size 0) := Lib.hid (HAt.made wr wr.heap.size (Nat.le_refl _))
                        have hbz : Below wr.heap.size wr (wr.alloc (.cells #[] 38)) := (Below.refl _ _).alloc (Nat.le_refl _) _
                        have HXz := Lib.hid (HX.out.trans (hbz.mono HX.out.size))
                        have HHz := Lib.hid ((HH.out.read.below HXz.out).mono HXz.out.size)
                        have HAz := Lib.hid (HA.out.on hbz)
                        have HE0 : Hid (([] : List Hp).length = 0) := Lib.hid rfl
                        have HBZ := Lib.hid hbz
                        clear hbz
                        go_wp2_with (at_builtin; refine wpList_appendH rfl (.tmp 138) (.tmp 139) rfl _ wr.heap.size wr.heap.size 0 0 [] rfl HE0.out HZ0.out (by omega) (some ⟨g0, 0, none⟩) k c0 hs rfl HL.out (by omega) HHz.out ?_)
                        intro g1 c1 w5 ha5 hb5 _ _
                        replace ha5 : HAt w5 wr.heap.size hs g1 c1 := ha5
                        have hgz := HAz.out.gb
                        have HA5 := Lib.hid ha5
                        have HBK : Hid (∀ b, b < wr.heap.size → w5.heap[b]? = wr.heap[b]?) := Lib.hid (fun b hb => (hb5.block b hb).trans (HBZ.out.block b hb))
                        have HP5 := Lib.hid ((HA.out.keep (w' := w5) (HBK.out gp hgp.2)).read)
                        have HX5 := Lib.hid (HXz.out.trans (hb5.mono (by have := HX.out.size; omega)))
                        clear ha5 hb5 HZ0 HXz HHz HAz
                        go_wp2_with (at_builtin; refine wpList_appendH rfl (.tmp 140) (.tmp 141) rfl w5 wr.heap.size g1 c1 k hs rfl HL.out HA5.out (by omega) (some ⟨gp, 0, none⟩) m cp acc rfl HM.out (by omega) HP5.out ?_)
                        intro g2 c2 w7 ha7 hb7 _ _
                        rw [HPA.out] at ha7
                        have HA7 := Lib.hid (ha7.lower (B' := B) (by have := HX.out.size; omega))
                        have HX7 := Lib.hid (HX5.out.trans (hb7.mono (by have := HX.out.size; omega)))
                        have HLF : Hid ((hs ++ P).length = k + m) := Lib.hid (by rw [List.length_append, ← HPA.out, HM.out, HL.out])
                        clear ha7 hb7 HA5 HP5 HX5
                        go_wp2
                        go_ret2
                        exact ⟨by rw [HSO2.out]; exact ⟨g2, c2, ret_tuple_slice HLF.out.symm, HA7.out⟩, HX7.out⟩
                      · obtain ⟨u, j', e1, hu, hj', hq', hpath⟩ := back_step HIF.out HJ.out HG.out hne
                        rw [e1] at d1
                        have HQ' := Lib.hid hq'
                        have HPA := Lib.hid hpath
                        have hu0 : (0 : Int) ≤ (u : Int) := Int.natCast_nonneg _
                        have hjl : Hid (j' < SF.2.length) := Lib.hid (by have := HJ.out; omega)
                        clear hne hf2 e1 hq' hpath
                        have HO1 : Hid (HAt (wr.alloc (.cells #[.int .i64 (t : Int), .int .i64 (u : Int)] 38)) P0 [(t, (u : Int))] wr.heap.size 1) := Lib.hid (HAt.one wr P0 t u (by omega))
                        have hbo : Below wr.heap.size wr (wr.alloc (.cells #[.int .i64 (t : Int), .int .i64 (u : Int)] 38)) := (Below.refl _ _).alloc (Nat.le_refl _) _
                        have HXo := Lib.hid (HX.out.trans (hbo.mono HX.out.size))
                        have HAo := Lib.hid ((HA.out.on hbo).read)
                        have HFo : Hid (FAt (wr.alloc (.cells #[.int .i64 (t : Int), .int .i64 (u : Int)] 38)) w.heap.size SF.1) := Lib.hid (Row.below HF.out hbo (Row.lt HF.out))
                        have HE1 : Hid (([(t, (u : Int))] : List Hp).length = 1) := Lib.hid rfl
                        clear hbo
                        go_wp2_with (at_builtin; refine wpList_appendH rfl (.tmp 135) (.tmp 136) rfl _ P0 wr.heap.size 1 1 [(t, (u : Int))] rfl HE1.out HO1.out (by omega) (some ⟨gp, 0, none⟩) m cp acc rfl HM.out (by omega) HAo.out ?_)
                        intro g' cap' w5 ha5 hb5 _ _
                        have HA5 := Lib.hid ha5
                        have HF5 : Hid (FAt w5 w.heap.size SF.1) := Lib.hid (Row.below HFo.out hb5 (by omega))
                        have HX5 := Lib.hid (HXo.out.trans (hb5.mono hwP))
                        obtain ⟨d1', _⟩ := HF5.out.cell (k := t) (by rw [HIF.out.len]; exact ht25)
                        have d1'' : w5.cell? ⟨w.heap.size, t, none⟩ = some (.int .i64 (u : Int)) := by
                          have h0 := (HF.out.cell (k := t) (by rw [HIF.out.len]; exact ht25)).1
                          rw [d1] at h0
                          rw [d1', ← h0]
                        have HM5 : Hid (([(t, (u : Int))] ++ acc).length = 1 + m) := Lib.hid (by rw [List.length_append, HM.out]; rfl)
                        have HP5 : Hid (pathTo SF.1 26 u ++ ([(t, (u : Int))] ++ acc) = P) := Lib.hid (by
                          have h := HP.out
                          rw [HPA.out, List.append_assoc] at h
                          exact h)
                        clear ha5 hb5 d1' d1 HA HP HPA HO1 HXo HAo HFo HF HX
                        go_wp2
                        go_roundw
                        case rel => exact ⟨j', u, 1 + m, g', cap', _, rfl, rfl, by omega, HM5, hjl, HQ', HA5, HP5, HF5, HX5⟩
                        case measure => simp [lenS]; omega
                · have hj1 : (j : Int) < (n : Int) := by omega
                  have hneb : (fv == -2) = false := by rw [beq_eq_false_iff_ne]; exact hne
                  go_upto_region 24 with fail
                  clear hneb
                  by_cases hf : fv = -2
                  · have HSN : Hid (extend busy hs sink = none) := Lib.hid (by rw [HEX.out, if_pos hf])
                    subst hf
                    go_wp2
                    go_ret2
                    exact ⟨by rw [HSN.out]; exact ⟨_, rfl⟩, HX.out⟩
                  · have HSO : Hid (extend busy hs sink = some (hs ++ pathTo SF.1 26 sink)) := Lib.hid (by rw [HEX.out, if_neg hf])
                    have hfb : (fv == -2) = false := by rw [beq_eq_false_iff_ne]; exact hf
                    have HFN : Hid (SF.1.getD sink 0 ≠ -2) := Lib.hid (by rw [HFV.out]; exact hf)
                    clear hf
                    go_upto_region 28 with fail
                    clear hfb d1
                    have hbm : Below wr.heap.size wr (wr.alloc (.cells #[] 38)) := (Below.refl _ _).alloc (Nat.le_refl _) _
                    have hzm : (wr.alloc (.cells #[] 38)).heap.size = wr.heap.size + 1 := by simp
                    have hFl := Row.lt HF.out
                    obtain ⟨P0, hP0⟩ : ∃ P0, wr.heap.size = P0 := ⟨_, rfl⟩
                    have HA0 : Hid (HAt (wr.alloc (.cells #[] 38)) P0 [] P0 0) := Lib.hid (by rw [← hP0]; exact HAt.made wr wr.heap.size (Nat.le_refl _))
                    have HFm : Hid (FAt (wr.alloc (.cells #[] 38)) w.heap.size SF.1) := Lib.hid (Row.below HF.out hbm hFl)
                    have HXm := Lib.hid (HX.out.trans (hbm.mono HX.out.size))
                    generalize wr.alloc (.cells #[] 38) = wm at *
                    have hPz : P0 ≤ wm.heap.size := by omega
                    rw [hP0] at hFl
                    rw [hP0]
                    have hwP : w.heap.size ≤ P0 := by omega
                    clear hbm hzm hP0 HF HX
                    obtain ⟨jg, hjg, hgq⟩ := search_end HIF.out hs25 HFN.out
                    have HJG := Lib.hid hjg
                    have HGQ := Lib.hid hgq
                    have hj25 : jg ≤ 24 := by have := HIF.out.q25; omega
                    obtain ⟨P, hP⟩ : ∃ P, pathTo SF.1 26 sink = P := ⟨_, rfl⟩
                    have HPE : Hid (pathTo SF.1 26 sink = P) := Lib.hid hP
                    have HSO2 : Hid (extend busy hs sink = some (hs ++ P)) := Lib.hid (by rw [HSO.out, hP])
                    have HM0 : Hid (([] : List Hp).length = 0) := Lib.hid rfl
                    clear hjg hgq hP HSO
                    go_loopw [15, 16] (fun pv tv wr => ∃ (jj t m gp cp : Nat) (acc : List Hp), tv = .int .i64 t ∧ pv = .slice (some ⟨gp, 0, none⟩) m cp ∧ m + jj ≤ 24 ∧ Hid (acc.length = m) ∧ Hid (jj < SF.2.length) ∧ Hid (SF.2.getD jj 0 = t) ∧ Hid (HAt wr P0 acc gp cp) ∧ Hid (pathTo SF.1 26 t ++ acc = P) ∧ Hid (FAt wr w.heap.size SF.1) ∧ Hid (Below w.heap.size w wr)) (fun pv _ _ => 26 - lenS pv)
                    case atStart => exact ⟨jg, sink, 0, P0, 0, [], rfl, rfl, by omega, HM0, HJG, HGQ, HA0, Lib.hid (by rw [List.append_nil]; exact HPE.out), HFm, HXm⟩
                    case round =>
                      clear HA0 HFm HXm hPz HJG HGQ HM0 hj25
                      obtain ⟨jj, t, m, gp, cp, acc, rfl, rfl, hmj, HM, HJ, HG, HA, HP, HF, HX⟩ := hrel
                      have ht25 : t < 25 := by have h := HIF.out.lt (SF.2.getD jj 0) (Rt.memD HJ.out); rw [HG.out] at h; exact h
                      have hf2 : SF.1.getD t 0 ≠ -2 := (HIF.out.mem t ht25).1 (by have h : SF.2.getD jj 0 ∈ SF.2 := Rt.memD HJ.out; rw [HG.out] at h; exact h)
                      obtain ⟨d1, d2⟩ := HF.out.cell (k := t) (by rw [HIF.out.len]; exact ht25)
                      have ht0 : (0 : Int) ≤ (t : Int) := Int.natCast_nonneg _
                      have ht1 : (t : Int) < 25 := by omega
                      have hgp := HA.out.gb
                      clear d2
                      by_cases hne : SF.1.getD t 0 = -1
                      · have HE := Lib.hid (path_end (f := 26) hne)
                        have HPA : Hid (acc = P) := Lib.hid (by have h := HP.out; rw [HE.out, List.nil_append] at h; exact h)
                        rw [hne] at d1
                        clear hne hf2
                        go_upto_region 31 with fail
                        clear d1
                        have HZ0 : Hid (HAt (wr.alloc (.cells #[] 38)) wr.heap.size [] wr.heap.size 0) := Lib.hid (HAt.made wr wr.heap.size (Nat.le_refl _))
                        have hbz : Below wr.heap.size wr (wr.alloc (.cells #[] 38)) := (Below.refl _ _).alloc (Nat.le_refl _) _
                        have HXz := Lib.hid (HX.out.trans (hbz.mono HX.out.size))
                        have HHz := Lib.hid ((HH.out.read.below HXz.out).mono HXz.out.size)
                        have HAz := Lib.hid (HA.out.on hbz)
                        have HE0 : Hid (([] : List Hp).length = 0) := Lib.hid rfl
                        have HBZ := Lib.hid hbz
                        clear hbz
                        go_wp2_with (at_builtin; refine wpList_appendH rfl (.tmp 138) (.tmp 139) rfl _ wr.heap.size wr.heap.size 0 0 [] rfl HE0.out HZ0.out (by omega) (some ⟨g0, 0, none⟩) k c0 hs rfl HL.out (by omega) HHz.out ?_)
                        intro g1 c1 w5 ha5 hb5 _ _
                        replace ha5 : HAt w5 wr.heap.size hs g1 c1 := ha5
                        have hgz := HAz.out.gb
                        have HA5 := Lib.hid ha5
                        have HBK : Hid (∀ b, b < wr.heap.size → w5.heap[b]? = wr.heap[b]?) := Lib.hid (fun b hb => (hb5.block b hb).trans (HBZ.out.block b hb))
                        have HP5 := Lib.hid ((HA.out.keep (w' := w5) (HBK.out gp hgp.2)).read)
                        have HX5 := Lib.hid (HXz.out.trans (hb5.mono (by have := HX.out.size; omega)))
                        clear ha5 hb5 HZ0 HXz HHz HAz
                        go_wp2_with (at_builtin; refine wpList_appendH rfl (.tmp 140) (.tmp 141) rfl w5 wr.heap.size g1 c1 k hs rfl HL.out HA5.out (by omega) (some ⟨gp, 0, none⟩) m cp acc rfl HM.out (by omega) HP5.out ?_)
                        intro g2 c2 w7 ha7 hb7 _ _
                        rw [HPA.out] at ha7
                        have HA7 := Lib.hid (ha7.lower (B' := B) (by have := HX.out.size; omega))
                        have HX7 := Lib.hid (HX5.out.trans (hb7.mono (by have := HX.out.size; omega)))
                        have HLF : Hid ((hs ++ P).length = k + m) := Lib.hid (by rw [List.length_append, ← HPA.out, HM.out, HL.out])
                        clear ha7 hb7 HA5 HP5 HX5
                        go_wp2
                        go_ret2
                        exact ⟨by rw [HSO2.out]; exact ⟨g2, c2, ret_tuple_slice HLF.out.symm, HA7.out⟩, HX7.out⟩
                      · obtain ⟨u, j', e1, hu, hj', hq', hpath⟩ := back_step HIF.out HJ.out HG.out hne
                        rw [e1] at d1
                        have HQ' := Lib.hid hq'
                        have HPA := Lib.hid hpath
                        have hu0 : (0 : Int) ≤ (u : Int) := Int.natCast_nonneg _
                        have hjl : Hid (j' < SF.2.length) := Lib.hid (by have := HJ.out; omega)
                        clear hne hf2 e1 hq' hpath
                        have HO1 : Hid (HAt (wr.alloc (.cells #[.int .i64 (t : Int), .int .i64 (u : Int)] 38)) P0 [(t, (u : Int))] wr.heap.size 1) := Lib.hid (HAt.one wr P0 t u (by omega))
                        have hbo : Below wr.heap.size wr (wr.alloc (.cells #[.int .i64 (t : Int), .int .i64 (u : Int)] 38)) := (Below.refl _ _).alloc (Nat.le_refl _) _
                        have HXo := Lib.hid (HX.out.trans (hbo.mono HX.out.size))
                        have HAo := Lib.hid ((HA.out.on hbo).read)
                        have HFo : Hid (FAt (wr.alloc (.cells #[.int .i64 (t : Int), .int .i64 (u : Int)] 38)) w.heap.size SF.1) := Lib.hid (Row.below HF.out hbo (Row.lt HF.out))
                        have HE1 : Hid (([(t, (u : Int))] : List Hp).length = 1) := Lib.hid rfl
                        clear hbo
                        go_wp2_with (at_builtin; refine wpList_appendH rfl (.tmp 135) (.tmp 136) rfl _ P0 wr.heap.size 1 1 [(t, (u : Int))] rfl HE1.out HO1.out (by omega) (some ⟨gp, 0, none⟩) m cp acc rfl HM.out (by omega) HAo.out ?_)
                        intro g' cap' w5 ha5 hb5 _ _
                        have HA5 := Lib.hid ha5
                        have HF5 : Hid (FAt w5 w.heap.size SF.1) := Lib.hid (Row.below HFo.out hb5 (by omega))
                        have HX5 := Lib.hid (HXo.out.trans (hb5.mono hwP))
                        obtain ⟨d1', _⟩ := HF5.out.cell (k := t) (by rw [HIF.out.len]; exact ht25)
                        have d1'' : w5.cell? ⟨w.heap.size, t, none⟩ = some (.int .i64 (u : Int)) := by
                          have h0 := (HF.out.cell (k := t) (by rw [HIF.out.len]; exact ht25)).1
                          rw [d1] at h0
                          rw [d1', ← h0]
                        have HM5 : Hid (([(t, (u : Int))] ++ acc).length = 1 + m) := Lib.hid (by rw [List.length_append, HM.out]; rfl)
                        have HP5 : Hid (pathTo SF.1 26 u ++ ([(t, (u : Int))] ++ acc) = P) := Lib.hid (by
                          have h := HP.out
                          rw [HPA.out, List.append_assoc] at h
                          exact h)
                        clear ha5 hb5 d1' d1 HA HP HPA HO1 HXo HAo HFo HF HX
                        go_wp2
                        go_roundw
                        case rel => exact ⟨j', u, 1 + m, g', cap', _, rfl, rfl, by omega, HM5, hjl, HQ', HA5, HP5, HF5, HX5⟩
                        case measure => simp [lenS]; omega
  · have HON := Lib.hid hon
    have HEX : Hid (extend busy hs sink = some hs) := Lib.hid (by unfold extend; rw [if_pos (by simpa using hon)])
    clear hon
    go_enter Tryz.func91, Tryz.ntmps91
    go_wp2_with (go_at_call 105; refine (l8On_any (some ⟨g0, 0, none⟩) l c0 sink hs true w HH.out.read HL.out (by omega) HON.out).mono ?_; rintro e w' ⟨rfl, rfl⟩)
    go_ret2
    exact ⟨by rw [HEX.out]; exact ⟨g0, c0, ret_tuple_slice HL.out.symm, HH.out⟩, Below.refl _ _⟩
end Go.Proofs.YtliedgaefgomjaaGreat
/- The walks of routing: the model's trees and tracks. -/
namespace Go.Proofs.YtliedgaefgomjaaGreat
open Go.RowKit Go.Deep Cut Plc Rt

/-- What l8Tree answers. -/
def STree (BS : Nat) (o : Option (List Hp)) (e : Ending) (w' : World) : Prop := match o with
  | none => ∃ (A : Option Addr) (cap : Nat), e = .returned (.tuple #[.slice A 0 cap, .bool false])
  | some P => ∃ g cap : Nat, e = .returned (.tuple #[.slice (some ⟨g, 0, none⟩) P.length cap, .bool true]) ∧ HAt w' BS P g cap

set_option maxRecDepth 10000 in
set_option maxHeartbeats 4000000 in
theorem l8Tree_any (n c cb : Nat) (A AB : Option Addr) (busy : List Bool) (ps : List Nat) (w : World) (hA : IntsAt w w.heap.size A (Opt.intL ps)) (hn : ps.length = n) (hn1 : 1 ≤ n) (hnb : n ≤ 1000) (hb : BoolsAt w w.heap.size AB busy) (hbl : busy.length = 25) (hp : ∀ x, x ∈ ps → x < 25) :
    Calls Tryz.prog 76 #[.slice A n c, .slice AB 25 cb] w fun e w' => STree w.heap.size (tree busy ps) e w' ∧ Below w.heap.size w w' := by
  obtain ⟨src, tl, rfl⟩ : ∃ src tl, ps = src :: tl := by
    cases ps with
    | nil => simp at hn; omega
    | cons a r => exact ⟨a, r, rfl⟩
  obtain ⟨n', rfl⟩ : ∃ n', n = n' + 1 := ⟨n - 1, by omega⟩
  have htl : tl.length = n' := by simpa using hn
  have hs25 : src < 25 := hp src (by simp)
  have HP := Lib.hid (fun x (hx : x ∈ tl) => hp x (by simp [hx]))
  have HN := Lib.hid htl
  have HBO := Lib.hid hb
  have HBL := Lib.hid hbl
  obtain ⟨b, off, rfl, hbl2, hc0⟩ := hA 0 (by rw [Opt.intL_len]; simp)
  rw [Opt.intL_at] at hc0
  have e0 : (src :: tl).getD 0 0 = src := rfl
  rw [e0, Nat.add_zero] at hc0
  have HC : Hid (∀ k, k < n' → w.cell? ⟨b, off + (k + 1), none⟩ = some (.int .i64 (tl.getD k 0 : Nat))) := Lib.hid (fun k hk => by
    obtain ⟨b', off', e, _, h⟩ := hA (k + 1) (by rw [Opt.intL_len]; simp; omega)
    injection e with e
    injection e with e1 e2
    subst e1 e2
    rw [Opt.intL_at] at h
    exact h)
  obtain ⟨bb, bo, rfl, hbb, hbc⟩ := hb src (by rw [hbl]; exact hs25)
  have hs0 : (0 : Int) ≤ (src : Int) := Int.natCast_nonneg _
  have hs1 : (src : Int) < 25 := by omega
  have hn0 : (0 : Int) < ((n' + 1 : Nat) : Int) := by omega
  clear hA hn hp e0 htl hb hbl
  cases hbs : busy.getD src false
  · have HT0 : Hid (tree busy (src :: tl) = treeK busy (some [(src, -1)]) tl) := Lib.hid (tree_some hbs)
    have HTR : Hid (Tree busy src [(src, -1)]) := Lib.hid (Tree.one hs25 hbs)
    rw [hbs] at hbc
    clear hbs
    rw [HT0.out]
    have HA0 := Lib.hid (HAt.one w w.heap.size src (-1) (Nat.le_refl _))
    have HX0 : Hid (Below w.heap.size w (w.alloc (.cells #[.int .i64 (src : Int), .int .i64 (-1)] 38))) := Lib.hid ((Below.refl _ _).alloc (Nat.le_refl _) _)
    have HK0 : Hid (treeK busy (some [(src, -1)]) (tl.take 0) = some [(src, -1)]) := Lib.hid rfl
    have HL0 : Hid (([(src, -1)] : List Hp).length = 1) := Lib.hid rfl
    go_enter Tryz.func76, Tryz.ntmps76
    go_upto_region 5 with fail
    generalize w.alloc (.cells #[.int .i64 (src : Int), .int .i64 (-1)] 38) = w1 at *
    clear hc0 hbc
    go_loopw [6, 7] (fun hv iv wr => ∃ (k g cap m : Nat) (hs : List Hp), k ≤ n' ∧ iv = .int .i64 ((k + 1 : Nat) : Int) ∧ hv = .slice (some ⟨g, 0, none⟩) m cap ∧ Hid (hs.length = m) ∧ Hid (treeK busy (some [(src, -1)]) (tl.take k) = some hs) ∧ Hid (HAt wr w.heap.size hs g cap) ∧ Hid (Below w.heap.size w wr)) (fun _ iv _ => n' + 1 - (intOf iv).toNat)
    case atStart => exact ⟨0, _, _, 1, _, Nat.zero_le _, rfl, rfl, HL0, HK0, HA0, HX0⟩
    case round =>
      clear HA0 HX0 HK0 HL0
      obtain ⟨k, g, cap, m, hs, hk, rfl, rfl, HL, HK, HA, HX⟩ := hrel
      have HTR2 := Lib.hid (treeK_ok (tl.take k) _ hs HTR.out (fun x hx => HP.out x (List.mem_of_mem_take hx)) HK.out).1
      by_cases hlt : k < n'
      · have hcT := (HX.out.cell (p := ⟨b, off + (k + 1), none⟩) hbl2).trans (HC.out k hlt)
        have hkl : k < tl.length := by rw [HN.out]; exact hlt
        have htm : tl.getD k 0 ∈ tl := by simp [List.getD_eq_getElem?_getD, hkl]
        have h25 := HP.out _ htm
        have HKS : Hid (treeK busy (some [(src, -1)]) (tl.take (k + 1)) = extend busy hs (tl.getD k 0)) := Lib.hid (by
          rw [List.take_succ_eq_append_getElem hkl, treeK_snoc, HK.out]
          simp [List.getD_eq_getElem?_getD, hkl])
        have HFA : Hid (treeK busy (some [(src, -1)]) (tl.take (k + 1)) = none → treeK busy (some [(src, -1)]) tl = none) := Lib.hid treeK_fail
        generalize tl.getD k 0 = tile at *
        obtain ⟨k1, hk1⟩ : ∃ k1, k + 1 = k1 := ⟨_, rfl⟩
        rw [hk1] at hcT ⊢
        have HK1 := Lib.hid hk1
        have hk0 : (0 : Int) ≤ (k1 : Int) := Int.natCast_nonneg _
        have hk2 : (k1 : Int) < ((n' + 1 : Nat) : Int) := by omega
        have hk3 : k1 < n' + 1 := by omega
        clear hkl htm hk1
        go_upto_region 7 with fail
        go_wp2_with fail
        refine (l8Path_any w.heap.size g cap m tile src cb (some ⟨bb, bo, none⟩) busy hs wr HA.out HL.out HX.out.size HTR2.out ((HBO.out.below HX.out).mono HX.out.size) HBL.out h25).mono ?_
        rintro e w5 ⟨hp5, hb5⟩
        have HX5 := Lib.hid (HX.out.trans (hb5.mono HX.out.size))
        cases hpp : extend busy hs tile with
        | none =>
          rw [hpp] at hp5
          obtain ⟨v, rfl⟩ := hp5
          have HNO : Hid (treeK busy (some [(src, -1)]) tl = none) := Lib.hid (HFA.out (by rw [HKS.out, hpp]))
          have HX6 := Lib.hid (HX5.out.alloc HX5.out.size (.cells #[] 38))
          clear hpp hb5 hcT
          go_wp2
          go_ret2
          exact ⟨by rw [HNO.out]; exact ⟨_, _, rfl⟩, HX6.out⟩
        | some hs2 =>
          rw [hpp] at hp5
          obtain ⟨g9, c9, rfl, ha9⟩ := hp5
          have HSO : Hid (treeK busy (some [(src, -1)]) (tl.take k1) = some hs2) := Lib.hid (by rw [← HK1.out, HKS.out, hpp])
          obtain ⟨m2, hm2⟩ : ∃ m2, hs2.length = m2 := ⟨_, rfl⟩
          have HL2 := Lib.hid hm2
          have HA9 := Lib.hid ha9
          rw [hm2]
          clear hpp hb5 hcT ha9 hm2 HA HX
          go_wp2
          go_roundw
          case rel => exact ⟨k1, g9, c9, m2, hs2, by omega, by go_num, rfl, HL2, HSO, HA9, HX5⟩
          case measure => have := HK1.out; simp [intOf]; omega
      · obtain rfl : k = n' := by omega
        have HF : Hid (treeK busy (some [(src, -1)]) tl = some hs) := Lib.hid (by
          have h := HK.out
          rw [List.take_of_length_le (by rw [HN.out]; exact Nat.le_refl _)] at h
          exact h)
        go_wp2
        go_ret2
        exact ⟨by rw [HF.out]; exact ⟨g, cap, ret_tuple_slice HL.out.symm, HA.out⟩, HX.out⟩
  · have HT0 : Hid (tree busy (src :: tl) = none) := Lib.hid (tree_none hbs)
    rw [hbs] at hbc
    clear hbs
    have HX0 : Hid (Below w.heap.size w (w.alloc (.cells #[] 38))) := Lib.hid ((Below.refl _ _).alloc (Nat.le_refl _) _)
    go_enter Tryz.func76, Tryz.ntmps76
    go_wp2
    go_ret2
    exact ⟨by rw [HT0.out]; exact ⟨_, _, rfl⟩, HX0.out⟩

/-- The rows of wires, to be read. -/
def BuIn (w : World) (gB : Nat) (Bz : List (List Bool)) : Prop := gB < w.heap.size ∧ ∀ t, t < 8 → ∃ r : Nat, w.cell? ⟨gB, t, none⟩ = some (.slice (some ⟨r, 0, none⟩) 25 25) ∧ BoolsAt w w.heap.size (some ⟨r, 0, none⟩) (Bz.getD t [])
theorem BuIn.on {w w' : World} {gB : Nat} {Bz : List (List Bool)} (h : BuIn w gB Bz) (hb : Below w.heap.size w w') : BuIn w' gB Bz := ⟨Nat.lt_of_lt_of_le h.1 hb.size, fun t ht => by
  obtain ⟨r, h1, h2⟩ := h.2 t ht
  exact ⟨r, (hb.cell (p := ⟨gB, t, none⟩) h.1).trans h1, (h2.below hb).mono hb.size⟩⟩

set_option maxRecDepth 10000 in
set_option maxHeartbeats 2000000 in
theorem l8Net_any (gB cB net n c : Nat) (A : Option Addr) (B : List (List Bool)) (ps : List Nat) (w : World) (hW : BuIn w gB B) (hB : Bok B) (hA : IntsAt w w.heap.size A (Opt.intL ps)) (hn : ps.length = n) (hn1 : 1 ≤ n) (hnb : n ≤ 1000) (hp : ∀ x, x ∈ ps → x < 25) :
    Calls Tryz.prog 61 #[.int .i64 (net : Int), .slice A n c, .slice (some ⟨gB, 0, none⟩) 8 cB] w fun e w' => RouteOut w.heap.size net (onTrack B ps 8 0) e w' ∧ Below w.heap.size w w' := by
  have HW := Lib.hid hW
  have HB := Lib.hid hB
  have HA := Lib.hid hA
  have HN := Lib.hid hn
  have HP := Lib.hid hp
  obtain ⟨o, ho⟩ : ∃ o, onTrack B ps 8 0 = o := ⟨_, rfl⟩
  have HO0 : Hid (onTrack B ps (8 - 0) 0 = o) := Lib.hid ho
  rw [ho]
  have hr0 : Row (w.alloc (.cells #[.int .i64 0, .int .i64 0, .slice none 0 0] 36)) w.heap.size 36 #[.int .i64 0, .int .i64 0, .slice none 0 0] := heap_alloc_new w _
  have hb0 : Below w.heap.size w (w.alloc (.cells #[.int .i64 0, .int .i64 0, .slice none 0 0] 36)) := (Below.refl _ _).alloc (Nat.le_refl _) _
  clear hW hB hA hn hp ho
  go_enter Tryz.func61, Tryz.ntmps61
  go_upto_region 2 with fail
  generalize w.alloc (.cells #[.int .i64 0, .int .i64 0, .slice none 0 0] 36) = w1 at *
  have HR0 := Lib.hid hr0
  have HX0 := Lib.hid hb0
  clear hr0 hb0
  go_loopw [8] (fun iv wr => ∃ (t : Nat), t ≤ 8 ∧ iv = .int .i64 t ∧ Hid (onTrack B ps (8 - t) t = o) ∧ Hid (Row wr w.heap.size 36 #[.int .i64 0, .int .i64 0, .slice none 0 0]) ∧ Hid (Below w.heap.size w wr)) (fun iv _ => 8 - (intOf iv).toNat)
  case atStart => exact ⟨0, by omega, rfl, HO0, HR0, HX0⟩
  case round =>
    clear HR0 HX0 HO0
    obtain ⟨t, ht, rfl, HO, HR, HX⟩ := hrel
    have q0 := HR.out.cell 0
    have q1 := HR.out.cell 1
    have q2 := HR.out.cell 2
    have f0 := HR.out.frozen 0
    have f1 := HR.out.frozen 1
    have f2 := HR.out.frozen 2
    simp at q0 q1 q2
    have hz := HX.out.size
    by_cases hlt : t < 8
    · obtain ⟨r, hcr, hbr⟩ := (HW.out.on HX.out).2 t hlt
      have HBR := Lib.hid hbr
      have ht0 : (0 : Int) ≤ (t : Int) := Int.natCast_nonneg _
      have ht1 : (t : Int) < 8 := by omega
      clear q0 q1 q2 f0 f1 f2 hbr
      go_wp2_with fail
      refine (l8Tree_any n c 25 A (some ⟨r, 0, none⟩) (B.getD t []) ps wr ((HA.out.below HX.out).mono hz) HN.out hn1 hnb HBR.out (HB.out.2 t hlt) HP.out).mono ?_
      rintro e w3 ⟨hp3, hb3⟩
      have HX3 := Lib.hid (HX.out.trans (hb3.mono hz))
      have HR3 := Lib.hid (HR.out.below hb3 HR.out.lt)
      clear hcr HBR
      cases htr : tree (B.getD t []) ps with
      | none =>
        rw [htr] at hp3
        obtain ⟨A3, c3, rfl⟩ := hp3
        have HO3 : Hid (onTrack B ps (8 - (t + 1)) (t + 1) = o) := Lib.hid (by
          have h := HO.out
          rw [show 8 - t = 8 - (t + 1) + 1 by omega, onTrack_go htr] at h
          exact h)
        clear htr hb3
        go_wp2
        go_roundw
        case rel => exact ⟨t + 1, by omega, by go_num, HO3, HR3, HX3⟩
        case measure => simp [intOf]; omega
      | some hs =>
        rw [htr] at hp3
        obtain ⟨g9, c9, rfl, ha9⟩ := hp3
        have HOS : Hid (o = some (t, hs)) := Lib.hid (by
          have h := HO.out
          rw [show 8 - t = 8 - (t + 1) + 1 by omega, onTrack_on htr] at h
          exact h.symm)
        have q0 := HR3.out.cell 0
        have q1 := HR3.out.cell 1
        have q2 := HR3.out.cell 2
        have f0 := HR3.out.frozen 0
        have f1 := HR3.out.frozen 1
        have f2 := HR3.out.frozen 2
        simp at q0 q1 q2
        have HA9 := Lib.hid ha9
        have hg9 := ha9.gb
        have hRl := HR.out.lt
        clear htr hb3 ha9
        go_wp2
        have hr4 := ((HR3.out.set 0 (.int .i64 (net : Int))).set 1 (.int .i64 (t : Int))).set 2 (.slice (some ⟨g9, 0, none⟩) hs.length c9)
        simp at hr4
        have HA4 := Lib.hid (HA9.out.keep (w' := ((w3.setCell ⟨w.heap.size, 0, none⟩ (.int .i64 (net : Int))).setCell ⟨w.heap.size, 1, none⟩ (.int .i64 (t : Int))).setCell ⟨w.heap.size, 2, none⟩ (.slice (some ⟨g9, 0, none⟩) hs.length c9)) ((Below.heap_setCell _ ⟨w.heap.size, 2, none⟩ _ g9 (by show g9 ≠ w.heap.size; omega)).trans ((Below.heap_setCell _ ⟨w.heap.size, 1, none⟩ _ g9 (by show g9 ≠ w.heap.size; omega)).trans (Below.heap_setCell _ ⟨w.heap.size, 0, none⟩ _ g9 (by show g9 ≠ w.heap.size; omega)))))
        have HX4 := Lib.hid (((HX3.out.setCell (p := ⟨w.heap.size, 0, none⟩) (Nat.le_refl w.heap.size) (.int .i64 (net : Int))).setCell (p := ⟨w.heap.size, 1, none⟩) (Nat.le_refl w.heap.size) (.int .i64 (t : Int))).setCell (p := ⟨w.heap.size, 2, none⟩) (Nat.le_refl w.heap.size) (.slice (some ⟨g9, 0, none⟩) hs.length c9))
        generalize ((w3.setCell ⟨w.heap.size, 0, none⟩ (.int .i64 (net : Int))).setCell ⟨w.heap.size, 1, none⟩ (.int .i64 (t : Int))).setCell ⟨w.heap.size, 2, none⟩ (.slice (some ⟨g9, 0, none⟩) hs.length c9) = w4 at *
        clear q0 q1 q2 f0 f1 f2
        have q0 := hr4.cell 0
        have q1 := hr4.cell 1
        have q2 := hr4.cell 2
        simp at q0 q1 q2
        refine bodyPost_ret (v := .tuple #[.agg #[.int .i64 (net : Int), .int .i64 (t : Int), .slice (some ⟨g9, 0, none⟩) hs.length c9], .bool true]) (by simp [results, Tryz.results61, go_sem, q0, q1, q2]) rfl ⟨?_, HX4.out⟩
        rw [HOS.out]
        exact ⟨g9, c9, rfl, HA4.out.lower (by omega)⟩
    · obtain rfl : t = 8 := by omega
      have HON : Hid (o = none) := Lib.hid HO.out.symm
      go_wp2
      have hr4 := ((HR.out.set 0 (.int .i64 0)).set 1 (.int .i64 0)).set 2 (.slice none 0 0)
      simp at hr4
      have HX4 := Lib.hid (((HX.out.setCell (p := ⟨w.heap.size, 0, none⟩) (Nat.le_refl w.heap.size) (.int .i64 0)).setCell (p := ⟨w.heap.size, 1, none⟩) (Nat.le_refl w.heap.size) (.int .i64 0)).setCell (p := ⟨w.heap.size, 2, none⟩) (Nat.le_refl w.heap.size) (.slice none 0 0))
      generalize ((wr.setCell ⟨w.heap.size, 0, none⟩ (.int .i64 0)).setCell ⟨w.heap.size, 1, none⟩ (.int .i64 0)).setCell ⟨w.heap.size, 2, none⟩ (.slice none 0 0) = w4 at *
      clear q0 q1 q2 f0 f1 f2
      have q0 := hr4.cell 0
      have q1 := hr4.cell 1
      have q2 := hr4.cell 2
      simp at q0 q1 q2
      refine bodyPost_ret (v := .tuple #[.agg #[.int .i64 0, .int .i64 0, .slice none 0 0], .bool false]) (by simp [results, Tryz.results61, go_sem, q0, q1, q2]) rfl ⟨?_, HX4.out⟩
      rw [HON.out]
      rfl
end Go.Proofs.YtliedgaefgomjaaGreat
/- The walks of routing: Route of the model. -/
namespace Go.Proofs.YtliedgaefgomjaaGreat
open Go.RowKit Go.Deep Cut Plc Rt

theorem Tryz.infoBs8 : (Tryz.prog.info? 102).map (fun i => (i.zero, i.size, i.bytes)) = some (some (.slice none 0 0), 1, 24) := by kernel_rfl
def bva (bs : List Bool) : Array Value := (bs.map Value.bool).toArray
theorem bva_at {bs : List Bool} {k : Nat} (h : k < bs.length) : (bva bs)[k]? = some (.bool (bs.getD k false)) := by
  unfold bva
  rw [List.getElem?_toArray, List.getElem?_map, List.getD_eq_getElem?_getD, List.getElem?_eq_getElem h]
  rfl
theorem bva_set (bs : List Bool) (k : Nat) (b : Bool) : (bva bs).setIfInBounds k (.bool b) = bva (bs.set k b) := by
  unfold bva
  rw [List.setIfInBounds_toArray, List.map_set]
theorem bva_made : madeCells #[Value.bool false] 25 = bva (List.replicate 25 false) := by
  rw [← Array.toList_inj, toList_madeCells_one]
  simp [bva]
def hdv (rs : List Nat) : List Value := rs.map fun r => .slice (some ⟨r, 0, none⟩) 25 25
/-- Rows of wires while they are laid. -/
structure BuL (w : World) (B g cap : Nat) (rs : List Nat) : Prop where
  own : w.ownsRow B 102 1 (.slice (some ⟨g, 0, none⟩) rs.length cap) rs.length (hdv rs)
  row : ∀ t, t < rs.length → Row w (rs.getD t 0) 4 (bva (List.replicate 25 false))
  ne : ∀ t, t < rs.length → rs.getD t 0 ≠ g
  inj : ∀ t u, t < rs.length → u < rs.length → rs.getD t 0 = rs.getD u 0 → t = u
  lo : ∀ t, t < rs.length → B ≤ rs.getD t 0
theorem BuL.gb {w : World} {B g cap : Nat} {rs : List Nat} (h : BuL w B g cap rs) : B ≤ g ∧ g < w.heap.size := World.ownsRow.lt h.own g rfl
theorem BuL.made (w : World) (B : Nat) (hB : B ≤ w.heap.size) : BuL (w.alloc (.cells #[] 102)) B w.heap.size 0 [] :=
  ⟨World.ownsRow_lit (base := B) (e := 102) (size := 1) w #[] 0 hB (by simp [maxLen]) (by simp), fun t ht => by simp at ht, fun t ht => by simp at ht, fun t u ht => by simp at ht, fun t ht => by simp at ht⟩
section
variable {ops : Array Oper} {rest : List Oper} {o : Oper} {a : Act} {Q : Exit → Act → World → Prop}
theorem wpList_pushBu (hgd : o.guard = none) (s x : Operand) (ho : o.op = .call { callee := .builtin .append, args := #[s, x], argTypes := #[101, 101] })
    (w : World) (B g cap n : Nat) (rs : List Nat) (hev : a.eval s = .slice (some ⟨g, 0, none⟩) n cap) (hn : rs.length = n) (h : BuL w B g cap rs) (hnb : n ≤ 1000) (hx0 : a.eval x = .slice (some ⟨w.heap.size + 1, 0, none⟩) 1 1)
    (cont : ∀ g' cap' w5, BuL w5 B g' cap' (rs ++ [w.heap.size]) → Below B w w5 → wpList Tryz.prog ops Q rest (a.put o.dst (.slice (some ⟨g', 0, none⟩) (n + 1) cap')) w5) :
    wpList Tryz.prog ops Q (o :: rest) a ((w.alloc (.cells (madeCells #[.bool false] 25) 4)).alloc (.cells #[.slice (some ⟨w.heap.size, 0, none⟩) 25 25] 102)) := by
  subst hn
  obtain ⟨i0, hi0, hz0, hz1, hz2⟩ := info_split Tryz.infoBs8
  obtain ⟨hB, hgl⟩ := h.gb
  have hr0 : Row (w.alloc (.cells (madeCells #[.bool false] 25) 4)) w.heap.size 4 (bva (List.replicate 25 false)) := by rw [← bva_made]; exact heap_alloc_new w _
  have hb0 : Below w.heap.size w (w.alloc (.cells (madeCells #[.bool false] 25) 4)) := (Below.refl _ _).alloc (Nat.le_refl _) _
  have hz : (w.alloc (.cells (madeCells #[.bool false] 25) 4)).heap.size = w.heap.size + 1 := by simp
  have hx : a.eval x = .slice (some ⟨(w.alloc (.cells (madeCells #[.bool false] 25) 4)).heap.size, 0, none⟩) 1 1 := by rw [hz]; exact hx0
  clear hx0
  have ho1 := World.ownsRow.alloc h.own (.cells (madeCells #[.bool false] 25) 4)
  generalize w.alloc (.cells (madeCells #[.bool false] 25) 4) = w1 at *
  refine wpList_append_kept _ hgd s x 101 ho B 102 i0 _ 1 24 Tryz.underlying101 hi0 hz0 hz1 hz2 rfl (by omega) (.slice (some ⟨g, 0, none⟩) rs.length cap) rs.length (hdv rs) hev (World.ownsRow.alloc ho1 _) ⟨w1.heap.size, 0, none⟩ 1 1 [.slice (some ⟨w.heap.size, 0, none⟩) 25 25] hx rfl (World.news_of_block (cs := #[.slice (some ⟨w.heap.size, 0, none⟩) 25 25]) (t := 102) (fr := (0, 0)) (heap_alloc_new w1 _)) (by simp [Value.oneCell']) (by omega) (by simp [maxLen]; omega) (by omega) (by simp; omega) _ rfl ?_
  intro g' cap' w5 hown5 hgr5 hat5 hlt5 hkept5
  have hk : ∀ b, b < w1.heap.size → b ≠ g → w5.heap[b]? = w1.heap[b]? := off_grown hgr5
  have hg' : g' = g ∨ w1.heap.size < g' := by
    rcases hat5 with h1 | h1
    · left; simp [Value.ownBlock] at h1; omega
    · right; simp at h1; omega
  have hgt : ∀ t, t < (rs ++ [w.heap.size]).length → (t < rs.length ∧ (rs ++ [w.heap.size]).getD t 0 = rs.getD t 0 ∧ rs.getD t 0 < w.heap.size) ∨ (t = rs.length ∧ (rs ++ [w.heap.size]).getD t 0 = w.heap.size) := fun t ht => by
    rw [List.length_append, List.length_singleton] at ht
    by_cases e : t < rs.length
    · exact .inl ⟨e, Circ.getD_app_lt _ _ _ _ e, (h.row t e).lt⟩
    · have e2 : t = rs.length := by omega
      subst e2
      exact .inr ⟨rfl, Circ.getD_app_at _ _ _ _ rfl⟩
  refine cont g' cap' w5 ⟨?_, fun t ht => ?_, fun t ht => ?_, fun t u ht hu e => ?_, fun t ht => ?_⟩ ((hb0.mono (by omega)).trans (below_alloc_grown hgr5 (by omega) hB))
  · have e : hdv (rs ++ [w.heap.size]) = hdv rs ++ [.slice (some ⟨w.heap.size, 0, none⟩) 25 25] := by simp [hdv]
    rw [e, List.length_append, List.length_singleton]
    exact hown5
  · rcases hgt t ht with ⟨e, e2, e3⟩ | ⟨e, e2⟩
    · rw [e2]
      exact (hk _ (by omega) (h.ne t e)).trans ((h.row t e).below hb0 e3)
    · rw [e2]
      exact (hk _ (by omega) (by omega)).trans hr0
  · rcases hgt t ht with ⟨e, e2, e3⟩ | ⟨e, e2⟩
    · rw [e2]
      have := h.ne t e
      omega
    · rw [e2]
      omega
  · rcases hgt t ht with ⟨a1, a2, a3⟩ | ⟨a1, a2⟩
    · rcases hgt u hu with ⟨b1, b2, b3⟩ | ⟨b1, b2⟩
      · rw [a2, b2] at e
        exact h.inj t u a1 b1 e
      · rw [a2, b2] at e
        omega
    · rcases hgt u hu with ⟨b1, b2, b3⟩ | ⟨b1, b2⟩
      · rw [a2, b2] at e
        omega
      · omega
  · rcases hgt t ht with ⟨e, e2, e3⟩ | ⟨e, e2⟩
    · rw [e2]
      exact h.lo t e
    · rw [e2]
      omega
end
/-- Rows of wires. -/
structure BuAt (w : World) (B Z g : Nat) (rs : List Nat) (Bz : List (List Bool)) : Prop where
  hdr : ∃ cur, Row w g 102 cur ∧ ∀ t, t < 8 → cur[t]? = some (.slice (some ⟨rs.getD t 0, 0, none⟩) 25 25)
  row : ∀ t, t < 8 → Row w (rs.getD t 0) 4 (bva (Bz.getD t []))
  ne : ∀ t, t < 8 → rs.getD t 0 ≠ g
  inj : ∀ t u, t < 8 → u < 8 → rs.getD t 0 = rs.getD u 0 → t = u
  lo : ∀ t, t < 8 → B ≤ rs.getD t 0 ∧ rs.getD t 0 < Z
  gz : B ≤ g ∧ g < Z
theorem BuL.at {w : World} {B g cap : Nat} {rs : List Nat} (h : BuL w B g cap rs) (hl : rs.length = 8) : BuAt w B w.heap.size g rs (List.replicate 8 (List.replicate 25 false)) := by
  obtain ⟨cur, hrow, _, _, _, _, hget⟩ := own_partsE h.own
  refine ⟨⟨cur, hrow, fun t ht => ?_⟩, fun t ht => ?_, fun t ht => h.ne t (by omega), fun t u ht hu => h.inj t u (by omega) (by omega), fun t ht => ⟨h.lo t (by omega), (h.row t (by omega)).lt⟩, h.gb⟩
  · rw [hget t (by omega)]
    unfold hdv
    rw [List.getElem?_map, List.getD_eq_getElem?_getD, List.getElem?_eq_getElem (by omega)]
    rfl
  · have e : (List.replicate 8 (List.replicate 25 false)).getD t [] = List.replicate 25 false := by
      rw [List.getD_eq_getElem?_getD, List.getElem?_replicate, if_pos ht]
      rfl
    rw [e]
    exact h.row t (by omega)
theorem BuAt.keep {w w' : World} {B Z g : Nat} {rs : List Nat} {Bz : List (List Bool)} (h : BuAt w B Z g rs Bz) (hk : ∀ b, b < Z → w'.heap[b]? = w.heap[b]?) : BuAt w' B Z g rs Bz := by
  obtain ⟨cur, h1, h2⟩ := h.hdr
  exact { h with hdr := ⟨cur, (hk g h.gz.2).trans h1, h2⟩, row := fun t ht => (hk _ (h.lo t ht).2).trans (h.row t ht) }
theorem BuAt.on {w w' : World} {B Z g : Nat} {rs : List Nat} {Bz : List (List Bool)} (h : BuAt w B Z g rs Bz) (hz : Z ≤ w.heap.size) (hb : Below w.heap.size w w') : BuAt w' B Z g rs Bz := h.keep (fun b hb' => hb.block b (by omega))
theorem BuAt.read {w : World} {B Z g : Nat} {rs : List Nat} {Bz : List (List Bool)} (h : BuAt w B Z g rs Bz) (_hB : Bok Bz) : BuIn w g Bz := by
  obtain ⟨cur, h1, h2⟩ := h.hdr
  refine ⟨h1.lt, fun t ht => ⟨rs.getD t 0, (h1.cell t).trans (h2 t ht), fun k hk => ⟨rs.getD t 0, 0, rfl, (h.row t ht).lt, ?_⟩⟩⟩
  rw [Nat.zero_add, (h.row t ht).cell]
  exact bva_at hk
theorem BuAt.put {w : World} {B Z g : Nat} {rs : List Nat} {Bz : List (List Bool)} (h : BuAt w B Z g rs Bz) (hB : Bok Bz) {t : Nat} (ht : t < 8) (v : Nat) : BuAt (w.setCell ⟨rs.getD t 0, v, none⟩ (.bool true)) B Z g rs (Bz.set t ((Bz.getD t []).set v true)) := by
  obtain ⟨cur, h1, h2⟩ := h.hdr
  refine { h with hdr := ⟨cur, h1.far (p := ⟨rs.getD t 0, v, none⟩) (Ne.symm (h.ne t ht)) _, h2⟩, row := fun u hu => ?_ }
  rw [set_at _ _ _ _ _ (by rw [hB.1]; exact ht)]
  by_cases e : u = t
  · subst e
    rw [if_pos rfl, ← bva_set]
    exact (h.row u hu).set v (.bool true)
  · rw [if_neg e]
    exact (h.row u hu).far (p := ⟨rs.getD t 0, v, none⟩) (fun x => e (h.inj u t hu ht x)) _

/-- What the model's Route answers. -/
def SRoutes (BS : Nat) (o : Option (List Ro)) (e : Ending) (w' : World) : Prop := match o with
  | none => ∃ (A : Option Addr) (cap : Nat), e = .returned (.tuple #[.slice A 0 cap, .bool false])
  | some rs => ∃ (g cap : Nat) (vs : List Value), e = .returned (.tuple #[.slice (some ⟨g, 0, none⟩) rs.length cap, .bool true]) ∧ RoAt w' BS rs vs g cap

set_option maxRecDepth 100000 in
set_option maxHeartbeats 4000000 in
theorem l8Route_any (m n N cc pc nl nc gc oc f : Nat) (nA gA oA AC AP : Option Addr) (gl : Nat) (os : List Int) (ou : List Nat) (ce : List Cl) (p : List Nat) (w : World) (ho : IntsAt w w.heap.size oA os) (hU : CeIn w w.heap.size AC ce) (hp : IntsAt w w.heap.size AP (Opt.intL p)) (hk : NetOk m n N ce ou) (hpl : Pl n p) (hf : f = 1 + m + nl) (hN : N = f + gl) (hou : ou.length = os.length) (hov : ∀ k, k < os.length → os.getD k 0 = ((ou.getD k 0 : Nat) : Int)) :
    Calls Tryz.prog 31 #[.agg #[.int .i64 (m : Int), .slice nA nl nc, .slice gA gl gc, .slice oA os.length oc], .slice AC n cc, .slice AP n pc] w fun e w' => SRoutes w.heap.size ((routeK (pinsP m ou ce p) (N - 1)).map (·.2)) e w' ∧ Below w.heap.size w w' := by
  have HB0 := Lib.hid (Boxed.new w (m : Int) nA gA oA nl nc gl gc os.length oc 26)
  have hbw : Below w.heap.size w (w.alloc (.cells #[.int .i64 (m : Int), .slice nA nl nc, .slice gA gl gc, .slice oA os.length oc] 26)) := (Below.refl _ _).alloc (Nat.le_refl _) _
  have hlt0 : w.heap.size < (w.alloc (.cells #[.int .i64 (m : Int), .slice nA nl nc, .slice gA gl gc, .slice oA os.length oc] 26)).heap.size := by simp
  have HO := Lib.hid ((ho.below hbw).mono hbw.size)
  have HU := Lib.hid ((hU.below hbw).mono hbw.size)
  have HP := Lib.hid ((hp.below hbw).mono hbw.size)
  have HL0 := Lib.hid hbw
  have HK := Lib.hid hk
  have HPL := Lib.hid hpl
  have hN25 := hk.N25
  have hmN := hk.mN
  have hm4 := hk.m4
  have hn17 := hk.n17
  have hol := hk.ol
  have HOU := Lib.hid hou
  have HOV : Hid (∀ k, k < os.length → os.getD k 0 = ((ou.getD k 0 : Nat) : Int) ∧ ou.getD k 0 ≤ 1000) := Lib.hid (fun k hk' => ⟨hov k hk', by have := hk.ov k (by omega); omega⟩)
  have hos : os.length ≤ 3 := by omega
  obtain ⟨z, hz⟩ : ∃ z, N = z + 1 := ⟨N - 1, by omega⟩
  obtain ⟨F, hF⟩ : ∃ F : Nat → List Nat, pinsP m ou ce p = F := ⟨_, rfl⟩
  have HF := Lib.hid hF
  have HF25 : Hid (∀ v x, x ∈ F v → x < 25) := Lib.hid (fun v x hx => by
    rw [← hF] at hx
    have := pinsP_le (by rw [hk.len]; exact hpl) hk.m4 hk.ol v x hx
    omega)
  have HFL : Hid (∀ v, (F v).length ≤ 1000) := Lib.hid (fun v => by
    rw [← hF]
    have h1 := pinsP_len m ou ce p v
    have h2 := hk.len
    omega)
  have HE : Hid (routeK (pinsP m ou ce p) (N - 1) = routeK F z) := Lib.hid (by rw [hF, hz]; rfl)
  have s1 : IntKind.i64.wrap (1 + (m : Int) + (nl : Int) + (gl : Int)) = (N : Int) := by rw [show 1 + (m : Int) + (nl : Int) + (gl : Int) = (N : Int) by omega]; exact IntWalk.i64_in _ (by omega)
  have hnl : nl ≤ 25 := by omega
  have hmk : ∀ W, (Instr.makeSlice 102 (.int .i64 25) (.int .i64 25)).run Tryz.prog W = .ok (.slice (some ⟨W.heap.size, 0, none⟩) 25 25) (W.alloc (.cells (madeCells #[.bool false] 25) 4)) := fun W => run_make_row' (P := Tryz.prog) 102 4 (.bool false) 1 Tryz.underlying102 Tryz.infoB rfl .i64 .i64 25 (by omega) (by omega) W
  clear ho hU hp hbw hk hpl hou hov hF hol hN hf
  rw [HE.out]
  go_enter Tryz.func31, Tryz.ntmps31
  go_upto_region 1 with fail
  generalize w.alloc (.cells #[.int .i64 (m : Int), .slice nA nl nc, .slice gA gl gc, .slice oA os.length oc] 26) = w0 at *
  go_upto_region 3 with fail
  have HM0 := Lib.hid (BuL.made w0 w0.heap.size (Nat.le_refl _))
  have HX1 : Hid (Below w0.heap.size w0 (w0.alloc (.cells #[] 102))) := Lib.hid ((Below.refl _ _).alloc (Nat.le_refl _) _)
  have HR0 : Hid (([] : List Nat).length = 0) := Lib.hid rfl
  generalize w0.alloc (.cells #[] 102) = w1 at *
  go_loopw [8, 9] (fun bv iv wr => ∃ (k g cap : Nat) (rs : List Nat), k ≤ 8 ∧ iv = .int .i64 k ∧ bv = .slice (some ⟨g, 0, none⟩) k cap ∧ Hid (rs.length = k) ∧ Hid (BuL wr w0.heap.size g cap rs) ∧ Hid (Below w0.heap.size w0 wr)) (fun _ iv _ => 8 - (intOf iv).toNat)
  case atStart => exact ⟨0, _, 0, [], by omega, rfl, rfl, HR0, HM0, HX1⟩
  case round =>
    clear HR0 HM0 HX1
    obtain ⟨k, g, cap, rs, hk, rfl, rfl, HRL, HBu, HX⟩ := hrel
    by_cases hlt : k < 8
    · go_wp2_with (at_builtin; refine wpList_pushBu rfl (.tmp 21) (.tmp 23) rfl wr w0.heap.size g cap k rs rfl HRL.out HBu.out (by omega) rfl ?_)
      intro g' cap' w5 hb5 hx5
      have HB5 := Lib.hid hb5
      have HX5 := Lib.hid (HX.out.trans hx5)
      have HL5 : Hid ((rs ++ [wr.heap.size]).length = k + 1) := Lib.hid (by rw [List.length_append, HRL.out]; rfl)
      clear hb5 hx5
      go_wp2
      go_roundw
      case rel => exact ⟨k + 1, g', cap', _, by omega, by go_num, rfl, HL5, HB5, HX5⟩
      case measure => simp [intOf]; omega
    · obtain rfl : k = 8 := by omega
      clear hmk
      rw [show ((8 : Nat) : Int) = 8 from rfl]
      have HBa := Lib.hid (HBu.out.at HRL.out)
      clear HBu
      go_upto_region 8 with fail
      obtain ⟨Z, hZ⟩ : ∃ Z, wr.heap.size = Z := ⟨_, rfl⟩
      have hbz : Below wr.heap.size wr (wr.alloc (.cells #[] 36)) := (Below.refl _ _).alloc (Nat.le_refl _) _
      have HR1 : Hid (RoAt (wr.alloc (.cells #[] 36)) Z [] [] Z 0) := Lib.hid (by rw [← hZ]; exact RoAt.made wr wr.heap.size (Nat.le_refl _))
      have HB1 : Hid (BuAt (wr.alloc (.cells #[] 36)) w0.heap.size Z g rs (List.replicate 8 (List.replicate 25 false))) := Lib.hid (by rw [← hZ]; exact HBa.out.on (Nat.le_refl _) hbz)
      have HX1 := Lib.hid (HX.out.trans (hbz.mono HX.out.size))
      have hZ0 : w0.heap.size ≤ Z := by have := HX.out.size; omega
      rw [hZ]
      generalize wr.alloc (.cells #[] 36) = w2 at *
      have HK0 : Hid (routeK F 0 = some (List.replicate 8 (List.replicate 25 false), [])) := Lib.hid rfl
      have HLn0 : Hid (([] : List Ro).length = 0) := Lib.hid rfl
      have HGZ := Lib.hid HBa.out.gz
      clear hbz hZ HBa HX
      go_loopw [10, 11] (fun rv iv wr => ∃ (k g1 cap n : Nat) (s : Rs) (vs : List Value), k ≤ z ∧ iv = .int .i64 ((k + 1 : Nat) : Int) ∧ rv = .slice (some ⟨g1, 0, none⟩) n cap ∧ n ≤ k ∧ Hid (s.2.length = n) ∧ Hid (routeK F k = some s) ∧ Hid (BuAt wr w0.heap.size Z g rs s.1) ∧ Hid (RoAt wr Z s.2 vs g1 cap) ∧ Hid (Below w0.heap.size w0 wr)) (fun _ iv _ => N - (intOf iv).toNat)
      case atStart => exact ⟨0, Z, 0, 0, _, [], Nat.zero_le _, rfl, rfl, Nat.le_refl _, HLn0, HK0, HB1, HR1, HX1⟩
      case round =>
        clear HLn0 HK0 HB1 HR1 HX1
        obtain ⟨k, g1, cap1, n1, s, vs, hkz, rfl, rfl, hnk, HLn, HKk, HBu, HRo, HX⟩ := hrel
        have HBk := Lib.hid (routeK_ok HF25.out _ s HKk.out).bok
        have HQ1 := Lib.hid (HB0.out.below HX.out hlt0)
        have q0 := HQ1.out.c0
        have q1 := HQ1.out.c1
        have q2 := HQ1.out.c2
        have q3 := HQ1.out.c3
        have hwz := HX.out.size
        have hZr : Z ≤ wr.heap.size := by have := HRo.out.gb; omega
        go_upto_region 8 with fail
        go_region_held3 (fun w' => w'.cell? ⟨w.heap.size, 0, none⟩ = some (.int .i64 (m : Int)) ∧ w'.cell? ⟨w.heap.size, 1, none⟩ = some (.slice nA nl nc) ∧ w'.cell? ⟨w.heap.size, 2, none⟩ = some (.slice gA gl gc) ∧ w'.cell? ⟨w.heap.size, 3, none⟩ = some (.slice oA os.length oc)) (first | go_keep | (refine ⟨?_, ?_, ?_, ?_⟩ <;> (rw [hc3 _ _ (by simp; omega)]; simp [*])))
            (first | (go_at_call 59; refine (l1First_any _ _ _ _ _ _ _ _ _ _ _ ?_ ?_ ?_).mono ?_; (omega); (omega); (omega); rintro e w3 ⟨rfl, hb3⟩; obtain ⟨hc3, hf3⟩ := bcell hb3))
        rename_i _hheld
        clear _hheld
        have hb3' : Below wr.heap.size wr w3 := (Below.refl _ wr).drew.trans hb3
        have HX3 := Lib.hid (HX.out.trans (hb3'.mono HX.out.size))
        have HBu3 := Lib.hid (HBu.out.on hZr hb3')
        have HRo3 := Lib.hid (HRo.out.on hb3')
        have hZ3 : Z ≤ w3.heap.size := by have := hb3'.size; omega
        clear hc3 hf3 hb3 hb3' q0 q1 q2 q3 HQ1 HX HBu HRo
        have HQ3 := Lib.hid (HB0.out.below HX3.out hlt0)
        have q0 := HQ3.out.c0
        have q1 := HQ3.out.c1
        have q2 := HQ3.out.c2
        have q3 := HQ3.out.c3
        by_cases hlt : k < z
        · have hlt1 : (k : Int) + 1 < (N : Int) := by omega
          have hlN : k + 1 < N := by omega
          obtain ⟨k1, hk1e⟩ : ∃ k1, k + 1 = k1 := ⟨_, rfl⟩
          have hk1 : ((k : Int) + 1) = (k1 : Int) := by omega
          have HK1 := Lib.hid hk1
          have HKE := Lib.hid hk1e
          have HST : Hid (routeK F k1 = Rt.step (F k1) k1 s) := Lib.hid (by rw [← hk1e]; exact routeK_go HKk.out)
          clear hk1 hk1e
          go_wp2_with fail
          rw [HK1.out]
          refine (l7Pins_any m n cc pc nl nc gl gc oc k1 nA gA oA AC AP os ou ce p _ ((HO.out.below HX3.out).mono HX3.out.size) ((HU.out.below HX3.out).mono HX3.out.size) ((HP.out.below HX3.out).mono HX3.out.size) HK.out.len HPL.out.len hn17 (fun k hk => by have := HK.out.il k hk; omega) HK.out.once HOU.out HOV.out (by omega) hm4 (by have := HKE.out; omega) (by have := HKE.out; omega)).mono ?_
          rintro e w4 ⟨g4, c4, rfl, ht4, hb4⟩
          rw [HF.out] at ht4 ⊢
          have HT4 := Lib.hid ht4.ints
          have HX4 := Lib.hid (HX3.out.trans (hb4.mono HX3.out.size))
          have HBu4 := Lib.hid (HBu3.out.on hZ3 hb4)
          have HRo4 := Lib.hid (HRo3.out.on hb4)
          have hZ4 : Z ≤ w4.heap.size := by have := hb4.size; omega
          clear ht4 hb4 HX3 HBu3 HRo3 q0 q1 q2 q3 HQ3
          obtain ⟨fl, hfl⟩ : ∃ fl, (F k1).length = fl := ⟨_, rfl⟩
          have HFLk := Lib.hid hfl
          have hfl1000 := HFL.out k1
          rw [hfl] at hfl1000 ⊢
          have HLm := Lib.hid hlt1
          clear hfl hlt1
          by_cases hf0 : fl = 0
          · subst hf0
            have HFN : Hid (F k1 = []) := Lib.hid (List.eq_nil_of_length_eq_zero HFLk.out)
            have HK2 : Hid (routeK F k1 = some s) := Lib.hid (by rw [HST.out, step_unused HFN.out])
            rw [← HK1.out]
            go_wp2
            go_roundw
            case rel => exact ⟨k1, g1, cap1, n1, s, vs, by have := HKE.out; omega, by have h1 := HK1.out; go_num, rfl, by have := HKE.out; omega, HLn, HK2, HBu4, HRo4, HX4⟩
            case measure => have := HKE.out; simp [intOf]; omega
          · have HFN : Hid (F k1 ≠ []) := Lib.hid (fun e => hf0 (by rw [← HFLk.out, e]; rfl))
            have hfi : ((fl : Int) == 0) = false := by rw [beq_eq_false_iff_ne]; omega
            have hfn : (fl == 0) = false := by rw [beq_eq_false_iff_ne]; exact hf0
            have hf1 : 1 ≤ fl := by omega
            clear hf0
            go_upto_region 12 with fail
            clear hfi hfn
            go_wp2_with fail
            refine (l8Net_any g cap k1 fl c4 (some ⟨g4, 0, none⟩) s.1 (F k1) w4 (HBu4.out.read HBk.out) HBk.out HT4.out HFLk.out hf1 hfl1000 (HF25.out k1)).mono ?_
            rintro e w5 ⟨hr5, hb5⟩
            have HX5 := Lib.hid (HX4.out.trans (hb5.mono HX4.out.size))
            have HBu5 := Lib.hid (HBu4.out.on hZ4 hb5)
            have HRo5 := Lib.hid (HRo4.out.on hb5)
            have hz45 := hb5.size
            have hg1w := HRo4.out.gb
            clear hb5 HX4 HBu4 HRo4 HT4
            cases ho : onTrack s.1 (F k1) 8 0 with
            | none =>
              rw [ho] at hr5
              obtain rfl : e = .returned (.tuple #[.agg #[.int .i64 0, .int .i64 0, .slice none 0 0], .bool false]) := hr5
              have HNO : Hid (Option.map (·.2) (routeK F z) = none) := Lib.hid (by
                have h := HST.out
                rw [step_none HFN.out ho] at h
                have h2 := routeK_none h (z - k1)
                have h3 := HKE.out
                rw [show k1 + (z - k1) = z by omega] at h2
                rw [h2]
                rfl)
              have hb6 : Below w0.heap.size w0 (w5.alloc (.cells #[.int .i64 0, .int .i64 0, .slice none 0 0] 36)) := HX5.out.alloc HX5.out.size _
              have HX7 := Lib.hid (HL0.out.trans ((hb6.alloc hb6.size (.cells #[] 36)).mono HL0.out.size))
              clear ho hb6
              go_wp2
              go_ret2
              exact ⟨by rw [HNO.out]; exact ⟨_, _, rfl⟩, HX7.out⟩
            | some th =>
              obtain ⟨t, hs⟩ := th
              rw [ho] at hr5
              obtain ⟨g9, c9, rfl, ha9⟩ := hr5
              have ht8 : t < 8 := by have := (onTrack_ok 8 0 ho).2.1; omega
              have HTR := Lib.hid (tree_ok (HF25.out k1) HFN.out (onTrack_ok 8 0 ho).2.2).1
              have HKS : Hid (routeK F k1 = some (takeK s.1 t (tiles hs), s.2 ++ [(k1, t, hs)])) := Lib.hid (by rw [HST.out, step_some HFN.out ho])
              have hlh := HTR.out.len
              have hg9 := ha9.gb
              have HA9 := Lib.hid ha9
              obtain ⟨hl, hhl⟩ : ∃ hl, hs.length = hl := ⟨_, rfl⟩
              have HHL := Lib.hid hhl
              rw [hhl] at hlh ⊢
              have HTL : Hid ((tiles hs).length = hl) := Lib.hid (by unfold tiles; rw [List.length_map, hhl])
              have HTK : Hid (∀ k, k < hl → (tiles hs).take (k + 1) = (tiles hs).take k ++ [(hs.getD k (0, 0)).1] ∧ (hs.getD k (0, 0)).1 < 25) := Lib.hid (fun k hk => by
                have hk2 : k < hs.length := by rw [hhl]; exact hk
                have hk3 : k < (tiles hs).length := by rw [HTL.out]; exact hk
                have e : (tiles hs)[k] = (hs.getD k (0, 0)).1 := by simp [tiles, List.getD_eq_getElem?_getD, hk2]
                refine ⟨by rw [List.take_succ_eq_append_getElem hk3, e], ?_⟩
                rw [← e]
                exact (HTR.out.nodup.2 _ (List.getElem_mem hk3)).1)
              clear ho hhl ha9 HST
              go_upto_region 16 with fail
              have hb8 : Below w5.heap.size w5 (w5.alloc (.cells #[.int .i64 k1, .int .i64 t, .slice (some ⟨g9, 0, none⟩) hl c9] 36)) := (Below.refl _ _).alloc (Nat.le_refl _) _
              have hr8 : Row (w5.alloc (.cells #[.int .i64 k1, .int .i64 t, .slice (some ⟨g9, 0, none⟩) hl c9] 36)) w5.heap.size 36 #[.int .i64 k1, .int .i64 t, .slice (some ⟨g9, 0, none⟩) hl c9] := heap_alloc_new w5 _
              have hZ5 : Z ≤ w5.heap.size := by omega
              have HBu8 : Hid (BuAt (w5.alloc (.cells #[.int .i64 k1, .int .i64 t, .slice (some ⟨g9, 0, none⟩) hl c9] 36)) w0.heap.size Z g rs (takeK s.1 t ((tiles hs).take 0))) := Lib.hid (by
                rw [show (tiles hs).take 0 = [] from rfl, takeK_nil HBk.out ht8]
                exact HBu5.out.on hZ5 hb8)
              have HX8 := Lib.hid (HX5.out.trans (hb8.mono HX5.out.size))
              have HRo8 := Lib.hid (HRo5.out.on hb8)
              have HA8 := Lib.hid (HA9.out.on hb8)
              obtain ⟨q5, hq5⟩ : ∃ q5, w5.heap.size = q5 := ⟨_, rfl⟩
              rw [hq5] at hr8 hg9 hZ5 hz45 ⊢
              have hz8 : q5 < (w5.alloc (.cells #[.int .i64 k1, .int .i64 t, .slice (some ⟨g9, 0, none⟩) hl c9] 36)).heap.size := hr8.lt
              generalize w5.alloc (.cells #[.int .i64 k1, .int .i64 t, .slice (some ⟨g9, 0, none⟩) hl c9] 36) = w8 at *
              have HR8 := Lib.hid hr8
              have HFr8 : Hid (∀ b, Z ≤ b → b < w8.heap.size → w8.heap[b]? = w8.heap[b]?) := Lib.hid (fun _ _ _ => rfl)
              have hzz : w8.heap.size ≤ w8.heap.size := Nat.le_refl _
              clear hb8 hr8 hq5 HX5 HBu5 HRo5 HA9
              go_loopw [15] (fun iv wr => ∃ (i : Nat), i ≤ hl ∧ iv = .int .i64 i ∧ w8.heap.size ≤ wr.heap.size ∧ Hid (BuAt wr w0.heap.size Z g rs (takeK s.1 t ((tiles hs).take i))) ∧ Hid (∀ b, Z ≤ b → b < w8.heap.size → wr.heap[b]? = w8.heap[b]?) ∧ Hid (Below w0.heap.size w0 wr)) (fun iv _ => hl - (intOf iv).toNat)
              case atStart => exact ⟨0, Nat.zero_le _, rfl, Nat.le_refl _, HBu8, Lib.hid (fun _ _ _ => rfl), HX8⟩
              case round =>
                clear HBu8 HX8 hzz
                obtain ⟨i, hi, rfl, hzr, HBu, HFr, HX⟩ := hrel
                have HRr : Hid (Row wr q5 36 #[.int .i64 k1, .int .i64 t, .slice (some ⟨g9, 0, none⟩) hl c9]) := Lib.hid ((HFr.out q5 (by omega) hz8).trans HR8.out)
                have HAr := Lib.hid (HA8.out.keep (w' := wr) (HFr.out g9 (by omega) (by omega)))
                have z0 := HRr.out.cell 0
                have z1 := HRr.out.cell 1
                have z2 := HRr.out.cell 2
                simp at z0 z1 z2
                by_cases hlt2 : i < hl
                · obtain ⟨a1, _, _, _⟩ := HAr.out.cells (k := i) (by rw [HHL.out]; exact hlt2)
                  obtain ⟨e1, e2⟩ := HTK.out i hlt2
                  have HE1 := Lib.hid e1
                  obtain ⟨cur, hh1, hh2⟩ := HBu.out.hdr
                  have hhc := (hh1.cell t).trans (hh2 t ht8)
                  have hrow := HBu.out.row t ht8
                  have HBO := Lib.hid (takeK_ok HBk.out ht8 ((tiles hs).take i))
                  generalize (hs.getD i (0, 0)).1 = v at *
                  have hrc := (hrow.cell v).trans (bva_at (by rw [HBO.out.2 t ht8]; exact e2))
                  have hrf := hrow.frozen v
                  have HS := Lib.hid (takeK_snoc HBk.out ht8 ((tiles hs).take i) v)
                  have HB2 : Hid (BuAt (wr.setCell ⟨rs.getD t 0, v, none⟩ (.bool true)) w0.heap.size Z g rs (takeK s.1 t ((tiles hs).take (i + 1)))) := Lib.hid (by
                    rw [HE1.out, HS.out]
                    exact HBu.out.put HBO.out ht8 v)
                  obtain ⟨hlo1, hlo2⟩ := HBu.out.lo t ht8
                  have HX2 := Lib.hid (HX.out.setCell (p := ⟨rs.getD t 0, v, none⟩) hlo1 (.bool true))
                  have HFr2 : Hid (∀ b, Z ≤ b → b < w8.heap.size → (wr.setCell ⟨rs.getD t 0, v, none⟩ (.bool true)).heap[b]? = w8.heap[b]?) := Lib.hid (fun b h1 h2 => (Below.heap_setCell wr ⟨rs.getD t 0, v, none⟩ _ b (by show b ≠ rs.getD t 0; omega)).trans (HFr.out b h1 h2))
                  have hzr2 : w8.heap.size ≤ (wr.setCell ⟨rs.getD t 0, v, none⟩ (.bool true)).heap.size := by simpa using hzr
                  generalize ((takeK s.1 t ((tiles hs).take i)).getD t []).getD v false = old at *
                  generalize rs.getD t 0 = rt at *
                  have hv0 : (0 : Int) ≤ (v : Int) := Int.natCast_nonneg _
                  have hv1 : (v : Int) < 25 := by omega
                  have ht0 : (0 : Int) ≤ (t : Int) := Int.natCast_nonneg _
                  have ht1 : (t : Int) < 8 := by omega
                  have hi0 : (0 : Int) ≤ (i : Int) := Int.natCast_nonneg _
                  have hi1 : (i : Int) < (hl : Int) := by omega
                  clear e1 hh1 hh2 hrow HBu HFr HX HRr HAr
                  go_upto_region 18 with fail
                  clear z0
                  go_region
                  have HB3 : Hid (BuAt (wr.setCell ⟨rt, v, none⟩ (.bool true)).drew w0.heap.size Z g rs (takeK s.1 t ((tiles hs).take (i + 1)))) := Lib.hid (HB2.out.keep (fun _ _ => rfl))
                  have HX3 := Lib.hid HX2.out.drew
                  have HFr3 : Hid (∀ b, Z ≤ b → b < w8.heap.size → (wr.setCell ⟨rt, v, none⟩ (.bool true)).drew.heap[b]? = w8.heap[b]?) := HFr2
                  have hzr3 : w8.heap.size ≤ (wr.setCell ⟨rt, v, none⟩ (.bool true)).drew.heap.size := hzr2
                  clear HB2 HX2 HFr2 hzr2 z1 z2 a1 hhc hrc hrf
                  generalize (wr.setCell ⟨rt, v, none⟩ (.bool true)).drew = w9 at *
                  go_wp2
                  go_roundw
                  case rel => exact ⟨i + 1, by omega, by go_num, hzr3, HB3, HFr3, HX3⟩
                  case measure => simp [intOf]; omega
                · obtain rfl : i = hl := by omega
                  have HB2 : Hid (BuAt wr w0.heap.size Z g rs (takeK s.1 t (tiles hs))) := Lib.hid (by
                    have h := HBu.out
                    rw [List.take_of_length_le (by rw [HTL.out]; exact Nat.le_refl _)] at h
                    exact h)
                  have HRo := Lib.hid (HRo8.out.keep (w' := wr) (fun b h1 h2 => HFr.out b h1 h2) hzr)
                  have hgb1 := HRo8.out.gb
                  have HLF : Hid (HLeaf wr (Off wr Z g1) (some ⟨g9, 0, none⟩) hs) := Lib.hid (HAr.out.leaf ⟨by omega, by omega, by omega⟩)
                  clear HBu HRr HAr
                  go_wp2_with (at_builtin; refine wpList_pushRo rfl (.tmp 73) (.tmp 75) rfl wr Z g1 cap1 n1 s.2 vs rfl HLn.out HRo.out (by omega) k1 t (some ⟨g9, 0, none⟩) i c9 hs rfl HHL.out HLF.out ?_)
                  intro g' cap' w11 hr11 hb11 hk11 hg11
                  have HR11 := Lib.hid hr11
                  have HX11 := Lib.hid (HX.out.trans (hb11.mono hZ0))
                  have HB11 : Hid (BuAt w11 w0.heap.size Z g rs (takeK s.1 t (tiles hs))) := Lib.hid (HB2.out.keep (fun b hb => hb11.block b hb))
                  have HL11 : Hid ((s.2 ++ [(k1, t, hs)]).length = n1 + 1) := Lib.hid (by rw [List.length_append, HLn.out]; rfl)
                  clear hr11 hb11 hk11 hg11 HX HB2 HRo HLF z0 z1 z2
                  rw [← HK1.out]
                  go_wp2
                  go_roundw
                  case rel => exact ⟨k1, g', cap', n1 + 1, _, _, by have := HKE.out; omega, by have h1 := HK1.out; go_num, rfl, by have := HKE.out; omega, HL11, HKS, HB11, HR11, HX11⟩
                  case measure => have := HKE.out; simp [intOf]; omega
        · obtain rfl : k = z := by omega
          have hge : ¬ (k : Int) + 1 < (N : Int) := by omega
          have hgN : ¬ k + 1 < N := by omega
          have HRR : Hid (Option.map (·.2) (routeK F k) = some s.2) := Lib.hid (by rw [HKk.out]; rfl)
          have HRF : Hid (RoAt w3 w.heap.size s.2 vs g1 cap1) := Lib.hid (by
            have h := HRo3.out
            have hz2 := HL0.out.size
            refine ⟨⟨h.1.1, h.1.2.imp id fun ⟨g, cap, cur, e1, e2, e3⟩ => ⟨g, cap, cur, e1, by omega, e3⟩⟩, h.2.kept (fun _ _ => rfl) (fun b hb => ⟨by have := hb.1; omega, hb.2⟩)⟩)
          go_wp2
          go_ret2
          exact ⟨by rw [HRR.out]; exact ⟨g1, cap1, vs, ret_tuple_slice HLn.out.symm, HRF.out⟩, HL0.out.trans (HX3.out.mono HL0.out.size)⟩
end Go.Proofs.YtliedgaefgomjaaGreat
namespace Go.Proofs.YtliedgaefgomjaaGreat
open Go.RowKit Go.Deep Cut Plc Rt

theorem SRoutes.low {B B' : Nat} {o : Option (List Ro)} {e : Ending} {w' : World} (h : SRoutes B o e w') (hb : B' ≤ B) : SRoutes B' o e w' := by
  cases o with
  | none => exact h
  | some rs =>
    obtain ⟨g, cap, vs, e1, h2⟩ := h
    exact ⟨g, cap, vs, e1, ⟨⟨h2.1.1, h2.1.2.imp id fun ⟨g, cap, cur, e1, e2, e3⟩ => ⟨g, cap, cur, e1, by omega, e3⟩⟩, h2.2.kept (fun _ _ => rfl) (fun b hb => ⟨by have := hb.1; omega, hb.2⟩)⟩⟩

set_option maxRecDepth 100000 in
set_option maxHeartbeats 2000000 in
theorem sroute_any (i : Int) (nA gA oA A : Option Addr) (nc gc oc pl pc : Nat) (ns : List Int) (gs : List (Int × Int)) (os p : List Int) (w : World) (hc : CircAt w w.heap.size nA gA oA ns gs os) (hp : IntsAt w w.heap.size A p) (hpl : p.length = pl) (hpm : pl ≤ maxLen) (hpc : pl ≤ pc) :
    Calls Tryz.prog 8 #[.agg #[.int .i64 i, .slice nA ns.length nc, .slice gA gs.length gc, .slice oA os.length oc], .slice A pl pc] w fun e w' => SRoutes w.heap.size (routesZ i ns gs os p) e w' ∧ Below w.heap.size w w' := by
  have HB0 := Lib.hid (Boxed.new w i nA gA oA ns.length nc gs.length gc os.length oc 26)
  have hbw : Below w.heap.size w (w.alloc (.cells #[.int .i64 i, .slice nA ns.length nc, .slice gA gs.length gc, .slice oA os.length oc] 26)) := (Below.refl _ _).alloc (Nat.le_refl _) _
  have hlt0 : w.heap.size < (w.alloc (.cells #[.int .i64 i, .slice nA ns.length nc, .slice gA gs.length gc, .slice oA os.length oc] 26)).heap.size := by simp
  have HC := Lib.hid hc
  have HP := Lib.hid hp
  have HPL := Lib.hid hpl
  have HL0 := Lib.hid hbw
  clear hc hp hpl hbw
  go_enter Tryz.func8, Tryz.ntmps8
  go_upto_region 1 with fail
  generalize w.alloc (.cells #[.int .i64 i, .slice nA ns.length nc, .slice gA gs.length gc, .slice oA os.length oc] 26) = w0 at *
  have q0 := HB0.out.c0
  have q1 := HB0.out.c1
  have q2 := HB0.out.c2
  have q3 := HB0.out.c3
  go_wp2_with fail
  refine (svalidP_any i nA gA oA A nc gc oc pl pc ns gs os p _ ((HC.out.below HL0.out).mono HL0.out.size) ((HP.out.below HL0.out).mono HL0.out.size) HPL.out hpm hpc).mono ?_
  rintro e w1 ⟨rfl, hb1⟩
  have HB1 := Lib.hid (HB0.out.below hb1 hlt0)
  have HL1 := Lib.hid (HL0.out.trans (hb1.mono HL0.out.size))
  have hlt1 : w.heap.size < w1.heap.size := by have := hb1.size; omega
  clear hb1 q0 q1 q2 q3 HB0 HL0
  have q0 := HB1.out.c0
  have q1 := HB1.out.c1
  have q2 := HB1.out.c2
  have q3 := HB1.out.c3
  cases hv : placeB i ns gs os p
  · have HE : Hid (routesZ i ns gs os p = none) := Lib.hid (by unfold routesZ; rw [hv, if_neg (by simp)])
    have HX2 := Lib.hid (HL1.out.alloc HL1.out.size (.cells #[] 36))
    clear hv
    go_wp2
    go_ret2
    exact ⟨by rw [HE.out]; exact ⟨_, _, rfl⟩, HX2.out⟩
  · obtain ⟨hvv, hpp, hpe⟩ := placeB_inv hv
    have HE : Hid (routesZ i ns gs os p = (routeK (pinsP i.toNat (Opt.natL os) (cellsV i ns gs os) (Opt.natL p)) (Opt.fst i ns + gs.length - 1)).map (·.2)) := Lib.hid (by unfold routesZ; rw [hv, if_pos rfl])
    have HPP := Lib.hid hpp
    have HPE := Lib.hid hpe
    have HV := Lib.hid hvv
    obtain ⟨h0, h1, h2, h3, h4⟩ := Circ.valid_within hvv
    obtain ⟨m, rfl⟩ := Int.eq_ofNat_of_zero_le h0
    have hff : Opt.fst (m : Int) ns = 1 + m + ns.length := by unfold Opt.fst; omega
    have HFF := Lib.hid hff
    have hnn : (cellsV (m : Int) ns gs os).length = pl := by rw [← HPP.out.len, Opt.natL_len, HPL.out]
    have HNN := Lib.hid hnn
    have HE2 : Hid (routesZ (m : Int) ns gs os p = (routeK (pinsP m (Opt.natL os) (cellsV (m : Int) ns gs os) (Opt.natL p)) (Opt.fst (m : Int) ns + gs.length - 1)).map (·.2)) := Lib.hid (by rw [HE.out, Int.toNat_natCast])
    clear hv hpe hpp hvv h0 hff hnn HE
    obtain ⟨o, ho⟩ : ∃ o, (routeK (pinsP m (Opt.natL os) (cellsV (m : Int) ns gs os) (Opt.natL p)) (Opt.fst (m : Int) ns + gs.length - 1)).map (·.2) = o := ⟨_, rfl⟩
    have HOE := Lib.hid ho
    clear ho
    go_upto_region 3 with fail
    cases o with
    | none =>
      go_region_held3 (fun w' => w'.cell? ⟨w.heap.size, 0, none⟩ = some (.int .i64 (m : Int)) ∧ w'.cell? ⟨w.heap.size, 1, none⟩ = some (.slice nA ns.length nc) ∧ w'.cell? ⟨w.heap.size, 2, none⟩ = some (.slice gA gs.length gc) ∧ w'.cell? ⟨w.heap.size, 3, none⟩ = some (.slice oA os.length oc)) (first | go_keep | (refine ⟨?_, ?_, ?_, ?_⟩ <;> (rw [hc3 _ _ (by simp; omega)]; simp [*])) | (refine ⟨?_, ?_, ?_, ?_⟩ <;> (rw [hc4 _ _ (by omega), hc3 _ _ (by simp; omega)]; simp [*])))
          (first
            | (go_at_call 32; refine (sl6_any (m : Int) nA gA oA nc gc oc ns gs os _ HV.out ((HC.out.below HL1.out.drew).mono HL1.out.drew.size)).mono ?_; rintro e w3 ⟨g3, cc3, hs3, rfl, hu3, hb3⟩; obtain ⟨hc3, hf3⟩ := bcell hb3; have hz3 : w1.heap.size ≤ w3.heap.size := hb3.size; have HU3 := Lib.hid hu3.read; have HL3 := Lib.hid (HL1.out.drew.trans (hb3.mono HL1.out.drew.size)))
            | (go_at_call 31; rw [HNN.out]; refine (l8Route_any m pl (Opt.fst (m : Int) ns + gs.length) cc3 pc ns.length nc gc oc (Opt.fst (m : Int) ns) nA gA oA (some ⟨g3, 0, none⟩) A gs.length os (Opt.natL os) (cellsV (m : Int) ns gs os) (Opt.natL p) _ ((HC.out.outs.below HL3.out).mono HL3.out.size) HU3.out (by rw [← HPE.out]; exact (HP.out.below HL3.out).mono HL3.out.size) (by have h := netOk_of HV.out; rw [HNN.out] at h; exact h) (by have h := HPP.out; rw [HNN.out] at h; exact h) HFF.out rfl (Opt.natL_len os) (fun k hk => natL_get os k hk (Circ.litsOk_get (Circ.valid_outs HV.out) hk).1)).mono ?_; rintro e w4 ⟨hr4, hb4⟩; rw [HOE.out] at hr4; obtain ⟨A4, c4, rfl⟩ := hr4; obtain ⟨hc4, hf4⟩ := bcell hb4))
      rename_i _hheld
      clear _hheld hc3 hf3 hc4 hf4 q0 q1 q2 q3
      go_wp2
      go_ret2
      exact ⟨by rw [HE2.out, HOE.out]; exact ⟨_, _, rfl⟩, HL3.out.trans (hb4.mono HL3.out.size)⟩
    | some rs =>
      go_region_held3 (fun w' => w'.cell? ⟨w.heap.size, 0, none⟩ = some (.int .i64 (m : Int)) ∧ w'.cell? ⟨w.heap.size, 1, none⟩ = some (.slice nA ns.length nc) ∧ w'.cell? ⟨w.heap.size, 2, none⟩ = some (.slice gA gs.length gc) ∧ w'.cell? ⟨w.heap.size, 3, none⟩ = some (.slice oA os.length oc)) (first | go_keep | (refine ⟨?_, ?_, ?_, ?_⟩ <;> (rw [hc3 _ _ (by simp; omega)]; simp [*])) | (refine ⟨?_, ?_, ?_, ?_⟩ <;> (rw [hc4 _ _ (by omega), hc3 _ _ (by simp; omega)]; simp [*])))
          (first
            | (go_at_call 32; refine (sl6_any (m : Int) nA gA oA nc gc oc ns gs os _ HV.out ((HC.out.below HL1.out.drew).mono HL1.out.drew.size)).mono ?_; rintro e w3 ⟨g3, cc3, hs3, rfl, hu3, hb3⟩; obtain ⟨hc3, hf3⟩ := bcell hb3; have hz3 : w1.heap.size ≤ w3.heap.size := hb3.size; have HU3 := Lib.hid hu3.read; have HL3 := Lib.hid (HL1.out.drew.trans (hb3.mono HL1.out.drew.size)))
            | (go_at_call 31; rw [HNN.out]; refine (l8Route_any m pl (Opt.fst (m : Int) ns + gs.length) cc3 pc ns.length nc gc oc (Opt.fst (m : Int) ns) nA gA oA (some ⟨g3, 0, none⟩) A gs.length os (Opt.natL os) (cellsV (m : Int) ns gs os) (Opt.natL p) _ ((HC.out.outs.below HL3.out).mono HL3.out.size) HU3.out (by rw [← HPE.out]; exact (HP.out.below HL3.out).mono HL3.out.size) (by have h := netOk_of HV.out; rw [HNN.out] at h; exact h) (by have h := HPP.out; rw [HNN.out] at h; exact h) HFF.out rfl (Opt.natL_len os) (fun k hk => natL_get os k hk (Circ.litsOk_get (Circ.valid_outs HV.out) hk).1)).mono ?_; rintro e w4 ⟨hr4, hb4⟩; rw [HOE.out] at hr4; obtain ⟨g4, c4, vs4, rfl, hr4⟩ := hr4; obtain ⟨hc4, hf4⟩ := bcell hb4))
      rename_i _hheld
      clear _hheld hc3 hf3 hc4 hf4 q0 q1 q2 q3
      go_wp2
      go_ret2
      exact ⟨by rw [HE2.out, HOE.out]; exact SRoutes.low (o := some rs) ⟨g4, c4, vs4, rfl, hr4⟩ HL3.out.size, HL3.out.trans (hb4.mono HL3.out.size)⟩
end Go.Proofs.YtliedgaefgomjaaGreat
