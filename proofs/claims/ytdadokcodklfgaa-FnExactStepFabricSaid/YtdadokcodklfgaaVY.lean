/- The program's step of the fabric, walked. -/
import Derived.Test.YtdadokcodklfgaaVM
import Derived.Test.YtdadokcodklfgaaVG
import Derived.Deep.RegionHeld3
namespace Go.Proofs.Ytdadokcodklfgaa
open Go.RowKit Go.Deep Cut Fz

/-- The first k truth values of n. -/
def fillTo (f : Nat → Bool) (n : Nat) : Nat → List Bool
  | 0 => List.replicate n false
  | k + 1 => (fillTo f n k).set k (f k)
theorem fillTo_len (f : Nat → Bool) (n : Nat) : ∀ k, (fillTo f n k).length = n
  | 0 => List.length_replicate
  | k + 1 => (List.length_set ..).trans (fillTo_len f n k)
theorem fillTo_at (f : Nat → Bool) (n : Nat) {j : Nat} (hj : j < n) : ∀ k, (fillTo f n k).getD j false = if j < k then f j else false
  | 0 => by
    show (List.replicate n false).getD j false = _
    rw [List.getD_eq_getElem?_getD, List.getElem?_replicate, if_pos hj, if_neg (by omega)]; rfl
  | k + 1 => by
    show (List.set _ _ _).getD j false = _
    rw [getD_setT]
    by_cases e : k = j
    · subst e; rw [if_pos ⟨rfl, by rw [fillTo_len]; exact hj⟩, if_pos (by omega)]
    · rw [if_neg (fun c => e c.1), fillTo_at f n hj k]
      by_cases h : j < k
      · rw [if_pos h, if_pos (by omega)]
      · rw [if_neg h, if_neg (by omega)]
theorem fillTo_all (f : Nat → Bool) (n : Nat) : fillTo f n n = (List.range n).map f := by
  apply List.ext_getElem?
  intro j
  by_cases hj : j < n
  · have h := fillTo_at f n hj n
    rw [if_pos hj, List.getD_eq_getElem?_getD, List.getElem?_eq_getElem (by rw [fillTo_len]; exact hj)] at h
    rw [List.getElem?_eq_getElem (by rw [fillTo_len]; exact hj), List.getElem?_map, List.getElem?_range hj]
    simp at h
    simp [h]
  · rw [List.getElem?_eq_none (by rw [fillTo_len]; omega), List.getElem?_eq_none (by simp; omega)]
theorem BRow.put {w : World} {g : Nat} {xs : List Bool} (h : BRow w g xs) (k : Nat) (v : Bool) : BRow (w.setCell ⟨g, k, none⟩ (.bool v)) g (xs.set k v) := by
  obtain ⟨cs, hr, hs, hf⟩ := h
  refine ⟨_, hr.set k (.bool v), by simp [hs], fun j hj => ?_⟩
  rw [List.length_set] at hj
  have hj2 := hf j hj
  rw [Array.getElem?_setIfInBounds, getD_setT]
  by_cases e : k = j
  · subst e; rw [if_pos rfl, if_pos (by omega), if_pos ⟨rfl, hj⟩]
  · rw [if_neg e, if_neg (fun c => e c.1)]; exact hj2
theorem BRow.kept {w w' : World} {g : Nat} {xs : List Bool} (h : BRow w g xs) (hk : w'.heap[g]? = w.heap[g]?) : BRow w' g xs := by
  obtain ⟨cs, hr, hf⟩ := h
  exact ⟨cs, hk.trans hr, hf⟩
/-- What the program's step answers. -/
def IStOut (o r : List Bool) (w : World) (e : Ending) (w' : World) : Prop := ∃ g1 g2 : Nat, e = .returned (.agg #[.slice (some ⟨g1, 0, none⟩) 3 3, .slice (some ⟨g2, 0, none⟩) 25 25]) ∧ (w.heap.size ≤ g1 ∧ w.heap.size ≤ g2 ∧ g1 ≠ g2) ∧ BRow w' g1 o ∧ BRow w' g2 r ∧ Below w.heap.size w w'
/-- The state of the program's step. -/
structure PSt (w wr : World) (S a1 a2 cb ab : Nat) (K : CkP) (ts : List Tl) (rs ins : List Bool) (V : Wr → Bool) (bt go gr : Nat) (o r : List Bool) (M : List Nat) : Prop where
  env : EnvV wr S a1 a2 cb ab K ts rs ins
  mst : MSt wr a1 a2 M
  kn : Known V M
  bk : Row wr w.heap.size 115 #[.slice K.TA 25 K.tc, .slice K.PA 3 K.pc, .slice K.RA 25 K.rc, .slice K.IA K.ni K.ic]
  br : Row wr (w.heap.size + 1) 52 #[.slice none 0 0, .slice none 0 0]
  tb : Row wr bt 52 #[.slice (some ⟨go, 0, none⟩) 3 3, .slice (some ⟨gr, 0, none⟩) 25 25]
  ou : BRow wr go o
  re : BRow wr gr r
  bl : Below w.heap.size w wr
  nm : S = w.heap.size + 2 ∧ ab < bt ∧ ab < go ∧ ab < gr ∧ bt ≠ go ∧ bt ≠ gr ∧ go ≠ gr
theorem PSt.kp {w wr wr' : World} {S a1 a2 cb ab : Nat} {K : CkP} {ts : List Tl} {rs ins : List Bool} {V : Wr → Bool} {bt go gr : Nat} {o r : List Bool} {M M' : List Nat} (h : PSt w wr S a1 a2 cb ab K ts rs ins V bt go gr o r M) (hk : KpM a1 a2 S wr wr') (hm : MSt wr' a1 a2 M') (hn : Known V M') : PSt w wr' S a1 a2 cb ab K ts rs ins V bt go gr o r M' := by
  obtain ⟨o2, o3, o4, o5⟩ := h.env.ord
  obtain ⟨m1, m2, m3, m4, _⟩ := h.nm
  exact ⟨h.env.kp hk, hm, hn, (hk.keep _ h.bk.lt (by omega) (by omega)).trans h.bk, (hk.keep _ h.br.lt (by omega) (by omega)).trans h.br, (hk.keep _ h.tb.lt (by omega) (by omega)).trans h.tb, h.ou.kept (hk.keep _ h.ou.lt (by omega) (by omega)), h.re.kept (hk.keep _ h.re.lt (by omega) (by omega)), h.bl.trans (hk.below.mono (by omega)), h.nm⟩
theorem PSt.on {w wr wr' : World} {S a1 a2 cb ab : Nat} {K : CkP} {ts : List Tl} {rs ins : List Bool} {V : Wr → Bool} {bt go gr : Nat} {o r : List Bool} {M : List Nat} (h : PSt w wr S a1 a2 cb ab K ts rs ins V bt go gr o r M) (hb : Below wr.heap.size wr wr') : PSt w wr' S a1 a2 cb ab K ts rs ins V bt go gr o r M := by
  obtain ⟨o2, _⟩ := h.env.ord
  exact h.kp (KpM.more hb (by have := h.env.rcb.lt; omega)) (h.mst.on hb) h.kn
theorem EnvV.far {w : World} {S a1 a2 cb ab : Nat} {K : CkP} {ts : List Tl} {rs ins : List Bool} (h : EnvV w S a1 a2 cb ab K ts rs ins) {g : Nat} (hg : ab < g) (j : Nat) (u : Value) : EnvV (w.setCell ⟨g, j, none⟩ u) S a1 a2 cb ab K ts rs ins := by
  obtain ⟨o2, o3, o4, o5⟩ := h.ord
  exact ⟨(setCell_far w j u (by omega)).trans h.rcb, (setCell_far w j u (by omega)).trans h.rab, h.ck.below ((Below.refl _ _).setCell (p := ⟨g, j, none⟩) (by show S ≤ g; omega) u), h.ord⟩
theorem MSt.far {w : World} {a1 a2 : Nat} {M : List Nat} (h : MSt w a1 a2 M) {g : Nat} (h1 : g ≠ a1) (h2 : g ≠ a2) (j : Nat) (u : Value) : MSt (w.setCell ⟨g, j, none⟩ u) a1 a2 M := ⟨h.len, h.asked.keep (setCell_far w j u (by omega)), h.ans.keep (setCell_far w j u (by omega))⟩
theorem PSt.setO {w wr : World} {S a1 a2 cb ab : Nat} {K : CkP} {ts : List Tl} {rs ins : List Bool} {V : Wr → Bool} {bt go gr : Nat} {o r : List Bool} {M : List Nat} (h : PSt w wr S a1 a2 cb ab K ts rs ins V bt go gr o r M) (k : Nat) (v : Bool) : PSt w (wr.setCell ⟨go, k, none⟩ (.bool v)) S a1 a2 cb ab K ts rs ins V bt go gr (o.set k v) r M := by
  obtain ⟨o2, o3, o4, o5⟩ := h.env.ord
  obtain ⟨m1, m2, m3, m4, m5, m6, m7⟩ := h.nm
  exact ⟨h.env.far m3 _ _, h.mst.far (by omega) (by omega) _ _, h.kn, (setCell_far wr _ _ (by omega)).trans h.bk, (setCell_far wr _ _ (by omega)).trans h.br, (setCell_far wr _ _ (by omega)).trans h.tb, h.ou.put k v, h.re.kept (setCell_far wr _ _ (by omega)), h.bl.setCell (p := ⟨go, k, none⟩) (by show w.heap.size ≤ go; omega) _, h.nm⟩
theorem PSt.setR {w wr : World} {S a1 a2 cb ab : Nat} {K : CkP} {ts : List Tl} {rs ins : List Bool} {V : Wr → Bool} {bt go gr : Nat} {o r : List Bool} {M : List Nat} (h : PSt w wr S a1 a2 cb ab K ts rs ins V bt go gr o r M) (k : Nat) (v : Bool) : PSt w (wr.setCell ⟨gr, k, none⟩ (.bool v)) S a1 a2 cb ab K ts rs ins V bt go gr o (r.set k v) M := by
  obtain ⟨o2, o3, o4, o5⟩ := h.env.ord
  obtain ⟨m1, m2, m3, m4, m5, m6, m7⟩ := h.nm
  exact ⟨h.env.far m4 _ _, h.mst.far (by omega) (by omega) _ _, h.kn, (setCell_far wr _ _ (by omega)).trans h.bk, (setCell_far wr _ _ (by omega)).trans h.br, (setCell_far wr _ _ (by omega)).trans h.tb, h.ou.kept (setCell_far wr _ _ (by omega)), h.re.put k v, h.bl.setCell (p := ⟨gr, k, none⟩) (by show w.heap.size ≤ gr; omega) _, h.nm⟩
theorem BRow.at {w : World} {g : Nat} {xs : List Bool} (h : BRow w g xs) {k : Nat} (hk : k < xs.length) : w.cell? ⟨g, k, none⟩ = some (.bool (xs.getD k false)) ∧ w.frozen? ⟨g, k, none⟩ = false := by
  obtain ⟨cs, hr, _, hf⟩ := h
  exact ⟨(hr.cell k).trans (hf k hk), hr.frozen k⟩
theorem outPin_any (k : Nat) (w : World) (hk : k < 3) : Calls Try.prog 119 #[.int .i64 (k : Int)] w fun e w' => e = .returned (.agg #[.int .i64 (-1), .int .i64 ((k * 5 + 4 : Nat) : Int)]) ∧ Below w.heap.size w w' := by
  obtain ⟨w1, hw1⟩ : ∃ w1, w1 = w.alloc (.cells #[.int .i64 0, .int .i64 0] 159) := ⟨_, rfl⟩
  have hb1 : Below w.heap.size w w1 := by rw [hw1]; exact (Below.refl _ _).alloc (Nat.le_refl _) _
  have hX1 : Row w1 w.heap.size 159 #[.int .i64 0, .int .i64 0] := by rw [hw1]; exact row_new w _ _
  have x0 := hX1.cell 0
  have x1 := hX1.cell 1
  have f0 := hX1.frozen 0
  have f1 := hX1.frozen 1
  simp at x0 x1
  have hX2 := (hX1.set 0 (.int .i64 (-1))).set 1 (.int .i64 ((k : Int) * 5 + 5 - 1))
  have y0 := hX2.cell 0
  have y1 := hX2.cell 1
  simp at y0 y1
  have hk2 : (k : Int) < 3 := by omega
  have HB2 := Lib.hid ((hb1.setCell (p := ⟨w.heap.size, 0, none⟩) (Nat.le_refl _) (.int .i64 (-1))).setCell (p := ⟨w.heap.size, 1, none⟩) (Nat.le_refl _) (.int .i64 ((k : Int) * 5 + 5 - 1)))
  clear hb1 hX1 hX2
  go_enter Try.func119, Try.ntmps119
  go_upto_region 1 with fail
  change Code.wp _ _ _ _ (w.alloc (.cells #[.int .i64 0, .int .i64 0] 159))
  rw [← hw1]
  clear hw1
  go_wp2
  exact bodyPost_ret (v := .agg #[.int .i64 (-1), .int .i64 ((k : Int) * 5 + 5 - 1)]) (by simp [results, Try.results119, go_sem, y0, y1]) rfl ⟨by rw [show ((k * 5 + 4 : Nat) : Int) = (k : Int) * 5 + 5 - 1 by omega], HB2.out⟩
set_option maxRecDepth 10000 in
set_option maxHeartbeats 3200000 in
theorem istep_any (K : CkP) (ts : List Tl) (ps : List Pd) (rs ins : List Bool) (V : Wr → Bool) (w : World) (hS : Sound ts rs ins V) (hC : CkIn w w.heap.size K ts rs ins) (hP : PdIn w w.heap.size K.PA ps) (hpl : ps.length = 3) (hpo : PsOk ps) :
    Calls Try.prog 77 #[ckv K] w (IStOut (outsF V ps) (regsF V ts) w) := by
  have hmk := fun W => run_make_row' (P := Try.prog) 45 4 (.bool false) 1 Try.underlying45 Try.infoB rfl .i64 .i64 3 (by omega) (by omega) W
  simp only [show ((3 : Nat) : Int) = 3 from rfl] at hmk
  obtain ⟨w1, hw1⟩ : ∃ w1, w1 = (w.alloc (.cells #[.slice K.TA 25 K.tc, .slice K.PA 3 K.pc, .slice K.RA 25 K.rc, .slice K.IA K.ni K.ic] 115)).alloc (.cells #[.slice none 0 0, .slice none 0 0] 52) := ⟨_, rfl⟩
  have hb1 : Below w.heap.size w w1 := by rw [hw1]; exact ((Below.refl _ _).alloc (Nat.le_refl _) _).alloc (by simp) _
  have hK1 : Row w1 w.heap.size 115 #[.slice K.TA 25 K.tc, .slice K.PA 3 K.pc, .slice K.RA 25 K.rc, .slice K.IA K.ni K.ic] := by rw [hw1]; exact row_o1' w _ _ _
  have hR1 : Row w1 (w.heap.size + 1) 52 #[.slice none 0 0, .slice none 0 0] := by rw [hw1]; exact row_n1 w _ _ _
  have hz1 : w1.heap.size = w.heap.size + 2 := by rw [hw1]; simp
  have HM := Lib.hid (memov_any w1.heap.size K ts rs ins w1 ((hC.below hb1).mono hb1.size) (Nat.le_refl _))
  have HB1 := Lib.hid hb1
  have HK1 := Lib.hid hK1
  have HR1 := Lib.hid hR1
  have HC := Lib.hid hC
  have HP := Lib.hid hP
  have HPL := Lib.hid hpl
  have HPO := Lib.hid hpo
  have HS := Lib.hid hS
  have k0 := hK1.cell 0
  have k1 := hK1.cell 1
  have k2 := hK1.cell 2
  have k3 := hK1.cell 3
  simp at k0 k1 k2 k3
  clear hC hP hpl hpo hS hb1 hK1 hR1
  go_enter Try.func77, Try.ntmps77
  go_upto_region 1 with fail
  change Code.wp _ _ _ _ ((w.alloc (.cells #[.slice K.TA 25 K.tc, .slice K.PA 3 K.pc, .slice K.RA 25 K.rc, .slice K.IA K.ni K.ic] 115)).alloc (.cells #[.slice none 0 0, .slice none 0 0] 52))
  rw [← hw1]
  clear hw1
  go_wp2_with fail
  refine HM.out.mono ?_
  rintro e w2 ⟨a1, a2, cb, ab, rfl, hE2, hM2, hb2⟩
  clear k0 k1 k2 k3 HM
  have HE2 := Lib.hid hE2
  have HM2 := Lib.hid hM2
  have HK2 := Lib.hid (HK1.out.below hb2 (by omega))
  have HR2 := Lib.hid (HR1.out.below hb2 (by omega))
  have HB2 := Lib.hid (HB1.out.trans (hb2.mono (by omega)))
  have hz2 : w1.heap.size ≤ w2.heap.size := hb2.size
  clear hE2 hM2 hb2 HK1 HR1 HB1
  go_upto_region 2 with fail
  go_cut [4] (fun pv wx => ∃ (wz : World) (bt go gr : Nat), wz = wx ∧ pv = .pointer (some ⟨bt, 0, none⟩) ∧ w2.heap.size ≤ bt ∧ w2.heap.size ≤ go ∧ w2.heap.size ≤ gr ∧ bt ≠ go ∧ bt ≠ gr ∧ go ≠ gr ∧ Hid (Row wx bt 52 #[.slice (some ⟨go, 0, none⟩) 3 3, .slice (some ⟨gr, 0, none⟩) 25 25]) ∧ Hid (BRow wx go (List.replicate 3 false)) ∧ Hid (BRow wx gr (List.replicate 25 false)) ∧ Hid (Below w2.heap.size w2 wx))
  case first =>
    have hB0 : Below w2.heap.size w2 w2.drew := (Below.refl _ _).drew
    refine wp_region_held_drew (S := fun _ => True) (by kernel_rfl) trivial (fun hHeld => ?_)
    clear hHeld
    generalize w2.drew = v0 at *
    have hz0 := hB0.size
    refine wpAnyH_ready (rs := [0, 1, 3]) (by kernel_rfl) (by simp) ?_
    refine AllReadyH.cons rfl (fun K hK => ?_) (AllReadyH.cons rfl (fun K hK => ?_) (AllReadyH.cons rfl (fun K hK => ?_) AllReadyH.nil))
    · go_simp
      refine hK.out _ _ trivial (fun hHeld => ?_)
      clear hK K hHeld
      obtain ⟨v1, hW1⟩ : ∃ v1, v1 = World.alloc v0 (.cells (madeCells #[.bool false] 3) 4) := ⟨_, rfl⟩
      have hb1 : Below (World.heap v0).size v0 v1 := by rw [hW1]; exact (Below.refl _ _).alloc (Nat.le_refl _) _
      have go1 : BRow v1 (World.heap v0).size (List.replicate 3 false) := by rw [hW1]; exact BRow.zeros v0 3
      rw [← hW1]
      clear hW1
      have hB1 := hB0.trans (hb1.mono hB0.size)
      have hz1 := hb1.size
      refine wpAnyH_ready (rs := [1, 3]) (by kernel_rfl) (by simp) ?_
      refine AllReadyH.cons rfl (fun K hK => ?_) (AllReadyH.cons rfl (fun K hK => ?_) AllReadyH.nil)
      · go_simp
        go_wp2_with (go_at_call 86; refine (ireset_any v1).mono ?_; rintro e v2 ⟨gr2, rfl, hg2, hr2, hb2⟩)
        refine hK.out _ _ trivial (fun hHeld => ?_)
        clear hK K hHeld
        have go2c := go1.below hb2 (by exact go1.lt)
        have hB2 := hB1.trans (hb2.mono hB1.size)
        have hz2 := hb2.size
        have ltgo2 := go1.lt
        refine wpAnyH_take (i := 2) (v := ?_) rfl (by kernel_rfl) (by kernel_rfl) (by kernel_rfl) (fun _ _ _ h => h) (Or.inl ⟨by rfl, ?_⟩) (by trivial) ?_
        rotate_left
        · (intro w hSw; (try dsimp only at hSw); go_simp; try with_reducible rfl)
        simp only [Act.put, List.setIfInBounds_toArray]
        refine wpAnyH_ready (rs := [3]) (by kernel_rfl) (by simp) ?_
        refine AllReadyH.cons rfl (fun K hK => ?_) AllReadyH.nil
        · go_simp
          refine hK.out _ _ trivial (fun hHeld => ?_)
          clear hK K hHeld
          obtain ⟨v3, hW3⟩ : ∃ v3, v3 = World.alloc v2 (.cells #[.slice none 0 0, .slice none 0 0] 52) := ⟨_, rfl⟩
          have hb3 : Below (World.heap v2).size v2 v3 := by rw [hW3]; exact (Below.refl _ _).alloc (Nat.le_refl _) _
          have bt3 : Row v3 (World.heap v2).size 52 #[.slice none 0 0, .slice none 0 0] := by rw [hW3]; exact row_new v2 _ _
          rw [← hW3]
          clear hW3
          have go3c := go2c.below hb3 (by exact go2c.lt)
          have gr3c := hr2.below hb3 (by exact hr2.lt)
          have hB3 := hB2.trans (hb3.mono hB2.size)
          have hz3 := hb3.size
          have ltgo3 := go2c.lt
          have ltgr3 := hr2.lt
          refine wpAnyH_ready (rs := [4]) (by kernel_rfl) (by simp) ?_
          refine AllReadyH.cons rfl (fun K hK => ?_) AllReadyH.nil
          · have c0 := bt3.cell 0
            have c1 := bt3.cell 1
            have f0 := bt3.frozen 0
            have f1 := bt3.frozen 1
            simp at c0 c1
            go_simp
            refine hK.out _ _ trivial (fun hHeld => ?_)
            clear hK K hHeld
            refine wpAnyH_done (by kernel_rfl) ?_ _
            go_wp2_with fail
            go_meet
            have hrs := (bt3.set 0 (.slice (some ⟨(World.heap v0).size, 0, none⟩) 3 3)).set 1 (.slice (some ⟨gr2, 0, none⟩) 25 25)
            have hlo : w2.heap.size ≤ (World.heap v2).size ∧ w2.heap.size ≤ (World.heap v0).size ∧ w2.heap.size ≤ gr2 ∧ (World.heap v2).size ≠ (World.heap v0).size ∧ (World.heap v2).size ≠ gr2 ∧ (World.heap v0).size ≠ gr2 := by
              omega
            obtain ⟨l1, l2, l3, d1, d2, d3⟩ := hlo
            exact ⟨_, (World.heap v2).size, (World.heap v0).size, gr2, rfl, rfl, l1, l2, l3, d1, d2, d3, Lib.hid hrs, Lib.hid ((go3c.far _ _ (by exact fun e => d1 e.symm)).far _ _ (by exact fun e => d1 e.symm)), Lib.hid ((gr3c.far _ _ (by exact fun e => d2 e.symm)).far _ _ (by exact fun e => d2 e.symm)), Lib.hid ((hB3.setCell (p := ⟨(World.heap v2).size, 0, none⟩) l1 _).setCell (p := ⟨(World.heap v2).size, 1, none⟩) l1 _)⟩
      · go_simp
        refine hK.out _ _ trivial (fun hHeld => ?_)
        clear hK K hHeld
        obtain ⟨v5, hW5⟩ : ∃ v5, v5 = World.alloc v1 (.cells #[.slice none 0 0, .slice none 0 0] 52) := ⟨_, rfl⟩
        have hb5 : Below (World.heap v1).size v1 v5 := by rw [hW5]; exact (Below.refl _ _).alloc (Nat.le_refl _) _
        have bt5 : Row v5 (World.heap v1).size 52 #[.slice none 0 0, .slice none 0 0] := by rw [hW5]; exact row_new v1 _ _
        rw [← hW5]
        clear hW5
        have go5c := go1.below hb5 (by exact go1.lt)
        have hB5 := hB1.trans (hb5.mono hB1.size)
        have hz5 := hb5.size
        have ltgo5 := go1.lt
        refine wpAnyH_ready (rs := [1]) (by kernel_rfl) (by simp) ?_
        refine AllReadyH.cons rfl (fun K hK => ?_) AllReadyH.nil
        · go_simp
          go_wp2_with (go_at_call 86; refine (ireset_any v5).mono ?_; rintro e v6 ⟨gr6, rfl, hg6, hr6, hb6⟩)
          refine hK.out _ _ trivial (fun hHeld => ?_)
          clear hK K hHeld
          have go6c := go5c.below hb6 (by exact go5c.lt)
          have bt6c := bt5.below hb6 (by exact bt5.lt)
          have hB6 := hB5.trans (hb6.mono hB5.size)
          have hz6 := hb6.size
          have ltgo6 := go5c.lt
          have ltbt6 := bt5.lt
          refine wpAnyH_take (i := 2) (v := ?_) rfl (by kernel_rfl) (by kernel_rfl) (by kernel_rfl) (fun _ _ _ h => h) (Or.inl ⟨by rfl, ?_⟩) (by trivial) ?_
          rotate_left
          · (intro w hSw; (try dsimp only at hSw); go_simp; try with_reducible rfl)
          simp only [Act.put, List.setIfInBounds_toArray]
          refine wpAnyH_ready (rs := [4]) (by kernel_rfl) (by simp) ?_
          refine AllReadyH.cons rfl (fun K hK => ?_) AllReadyH.nil
          · have c0 := bt6c.cell 0
            have c1 := bt6c.cell 1
            have f0 := bt6c.frozen 0
            have f1 := bt6c.frozen 1
            simp at c0 c1
            go_simp
            refine hK.out _ _ trivial (fun hHeld => ?_)
            clear hK K hHeld
            refine wpAnyH_done (by kernel_rfl) ?_ _
            go_wp2_with fail
            go_meet
            have hrs := (bt6c.set 0 (.slice (some ⟨(World.heap v0).size, 0, none⟩) 3 3)).set 1 (.slice (some ⟨gr6, 0, none⟩) 25 25)
            have hlo : w2.heap.size ≤ (World.heap v1).size ∧ w2.heap.size ≤ (World.heap v0).size ∧ w2.heap.size ≤ gr6 ∧ (World.heap v1).size ≠ (World.heap v0).size ∧ (World.heap v1).size ≠ gr6 ∧ (World.heap v0).size ≠ gr6 := by
              omega
            obtain ⟨l1, l2, l3, d1, d2, d3⟩ := hlo
            exact ⟨_, (World.heap v1).size, (World.heap v0).size, gr6, rfl, rfl, l1, l2, l3, d1, d2, d3, Lib.hid hrs, Lib.hid ((go6c.far _ _ (by exact fun e => d1 e.symm)).far _ _ (by exact fun e => d1 e.symm)), Lib.hid ((hr6.far _ _ (by exact fun e => d2 e.symm)).far _ _ (by exact fun e => d2 e.symm)), Lib.hid ((hB6.setCell (p := ⟨(World.heap v1).size, 0, none⟩) l1 _).setCell (p := ⟨(World.heap v1).size, 1, none⟩) l1 _)⟩
    · go_simp
      go_wp2_with (go_at_call 86; refine (ireset_any v0).mono ?_; rintro e v8 ⟨gr8, rfl, hg8, hr8, hb8⟩)
      refine hK.out _ _ trivial (fun hHeld => ?_)
      clear hK K hHeld
      have hB8 := hB0.trans (hb8.mono hB0.size)
      have hz8 := hb8.size
      refine wpAnyH_ready (rs := [0, 3]) (by kernel_rfl) (by simp) ?_
      refine AllReadyH.cons rfl (fun K hK => ?_) (AllReadyH.cons rfl (fun K hK => ?_) AllReadyH.nil)
      · go_simp
        refine hK.out _ _ trivial (fun hHeld => ?_)
        clear hK K hHeld
        obtain ⟨v9, hW9⟩ : ∃ v9, v9 = World.alloc v8 (.cells (madeCells #[.bool false] 3) 4) := ⟨_, rfl⟩
        have hb9 : Below (World.heap v8).size v8 v9 := by rw [hW9]; exact (Below.refl _ _).alloc (Nat.le_refl _) _
        have go9 : BRow v9 (World.heap v8).size (List.replicate 3 false) := by rw [hW9]; exact BRow.zeros v8 3
        rw [← hW9]
        clear hW9
        have gr9c := hr8.below hb9 (by exact hr8.lt)
        have hB9 := hB8.trans (hb9.mono hB8.size)
        have hz9 := hb9.size
        have ltgr9 := hr8.lt
        refine wpAnyH_take (i := 2) (v := ?_) rfl (by kernel_rfl) (by kernel_rfl) (by kernel_rfl) (fun _ _ _ h => h) (Or.inl ⟨by rfl, ?_⟩) (by trivial) ?_
        rotate_left
        · (intro w hSw; (try dsimp only at hSw); go_simp; try with_reducible rfl)
        simp only [Act.put, List.setIfInBounds_toArray]
        refine wpAnyH_ready (rs := [3]) (by kernel_rfl) (by simp) ?_
        refine AllReadyH.cons rfl (fun K hK => ?_) AllReadyH.nil
        · go_simp
          refine hK.out _ _ trivial (fun hHeld => ?_)
          clear hK K hHeld
          obtain ⟨v10, hW10⟩ : ∃ v10, v10 = World.alloc v9 (.cells #[.slice none 0 0, .slice none 0 0] 52) := ⟨_, rfl⟩
          have hb10 : Below (World.heap v9).size v9 v10 := by rw [hW10]; exact (Below.refl _ _).alloc (Nat.le_refl _) _
          have bt10 : Row v10 (World.heap v9).size 52 #[.slice none 0 0, .slice none 0 0] := by rw [hW10]; exact row_new v9 _ _
          rw [← hW10]
          clear hW10
          have go10c := go9.below hb10 (by exact go9.lt)
          have gr10c := gr9c.below hb10 (by exact gr9c.lt)
          have hB10 := hB9.trans (hb10.mono hB9.size)
          have hz10 := hb10.size
          have ltgo10 := go9.lt
          have ltgr10 := gr9c.lt
          refine wpAnyH_ready (rs := [4]) (by kernel_rfl) (by simp) ?_
          refine AllReadyH.cons rfl (fun K hK => ?_) AllReadyH.nil
          · have c0 := bt10.cell 0
            have c1 := bt10.cell 1
            have f0 := bt10.frozen 0
            have f1 := bt10.frozen 1
            simp at c0 c1
            go_simp
            refine hK.out _ _ trivial (fun hHeld => ?_)
            clear hK K hHeld
            refine wpAnyH_done (by kernel_rfl) ?_ _
            go_wp2_with fail
            go_meet
            have hrs := (bt10.set 0 (.slice (some ⟨(World.heap v8).size, 0, none⟩) 3 3)).set 1 (.slice (some ⟨gr8, 0, none⟩) 25 25)
            have hlo : w2.heap.size ≤ (World.heap v9).size ∧ w2.heap.size ≤ (World.heap v8).size ∧ w2.heap.size ≤ gr8 ∧ (World.heap v9).size ≠ (World.heap v8).size ∧ (World.heap v9).size ≠ gr8 ∧ (World.heap v8).size ≠ gr8 := by
              omega
            obtain ⟨l1, l2, l3, d1, d2, d3⟩ := hlo
            exact ⟨_, (World.heap v9).size, (World.heap v8).size, gr8, rfl, rfl, l1, l2, l3, d1, d2, d3, Lib.hid hrs, Lib.hid ((go10c.far _ _ (by exact fun e => d1 e.symm)).far _ _ (by exact fun e => d1 e.symm)), Lib.hid ((gr10c.far _ _ (by exact fun e => d2 e.symm)).far _ _ (by exact fun e => d2 e.symm)), Lib.hid ((hB10.setCell (p := ⟨(World.heap v9).size, 0, none⟩) l1 _).setCell (p := ⟨(World.heap v9).size, 1, none⟩) l1 _)⟩
      · go_simp
        refine hK.out _ _ trivial (fun hHeld => ?_)
        clear hK K hHeld
        obtain ⟨v12, hW12⟩ : ∃ v12, v12 = World.alloc v8 (.cells #[.slice none 0 0, .slice none 0 0] 52) := ⟨_, rfl⟩
        have hb12 : Below (World.heap v8).size v8 v12 := by rw [hW12]; exact (Below.refl _ _).alloc (Nat.le_refl _) _
        have bt12 : Row v12 (World.heap v8).size 52 #[.slice none 0 0, .slice none 0 0] := by rw [hW12]; exact row_new v8 _ _
        rw [← hW12]
        clear hW12
        have gr12c := hr8.below hb12 (by exact hr8.lt)
        have hB12 := hB8.trans (hb12.mono hB8.size)
        have hz12 := hb12.size
        have ltgr12 := hr8.lt
        refine wpAnyH_ready (rs := [0]) (by kernel_rfl) (by simp) ?_
        refine AllReadyH.cons rfl (fun K hK => ?_) AllReadyH.nil
        · go_simp
          refine hK.out _ _ trivial (fun hHeld => ?_)
          clear hK K hHeld
          obtain ⟨v13, hW13⟩ : ∃ v13, v13 = World.alloc v12 (.cells (madeCells #[.bool false] 3) 4) := ⟨_, rfl⟩
          have hb13 : Below (World.heap v12).size v12 v13 := by rw [hW13]; exact (Below.refl _ _).alloc (Nat.le_refl _) _
          have go13 : BRow v13 (World.heap v12).size (List.replicate 3 false) := by rw [hW13]; exact BRow.zeros v12 3
          rw [← hW13]
          clear hW13
          have gr13c := gr12c.below hb13 (by exact gr12c.lt)
          have bt13c := bt12.below hb13 (by exact bt12.lt)
          have hB13 := hB12.trans (hb13.mono hB12.size)
          have hz13 := hb13.size
          have ltgr13 := gr12c.lt
          have ltbt13 := bt12.lt
          refine wpAnyH_take (i := 2) (v := ?_) rfl (by kernel_rfl) (by kernel_rfl) (by kernel_rfl) (fun _ _ _ h => h) (Or.inl ⟨by rfl, ?_⟩) (by trivial) ?_
          rotate_left
          · (intro w hSw; (try dsimp only at hSw); go_simp; try with_reducible rfl)
          simp only [Act.put, List.setIfInBounds_toArray]
          refine wpAnyH_ready (rs := [4]) (by kernel_rfl) (by simp) ?_
          refine AllReadyH.cons rfl (fun K hK => ?_) AllReadyH.nil
          · have c0 := bt13c.cell 0
            have c1 := bt13c.cell 1
            have f0 := bt13c.frozen 0
            have f1 := bt13c.frozen 1
            simp at c0 c1
            go_simp
            refine hK.out _ _ trivial (fun hHeld => ?_)
            clear hK K hHeld
            refine wpAnyH_done (by kernel_rfl) ?_ _
            go_wp2_with fail
            go_meet
            have hrs := (bt13c.set 0 (.slice (some ⟨(World.heap v12).size, 0, none⟩) 3 3)).set 1 (.slice (some ⟨gr8, 0, none⟩) 25 25)
            have hlo : w2.heap.size ≤ (World.heap v8).size ∧ w2.heap.size ≤ (World.heap v12).size ∧ w2.heap.size ≤ gr8 ∧ (World.heap v8).size ≠ (World.heap v12).size ∧ (World.heap v8).size ≠ gr8 ∧ (World.heap v12).size ≠ gr8 := by
              omega
            obtain ⟨l1, l2, l3, d1, d2, d3⟩ := hlo
            exact ⟨_, (World.heap v8).size, (World.heap v12).size, gr8, rfl, rfl, l1, l2, l3, d1, d2, d3, Lib.hid hrs, Lib.hid ((go13.far _ _ (by exact fun e => d1 e.symm)).far _ _ (by exact fun e => d1 e.symm)), Lib.hid ((gr13c.far _ _ (by exact fun e => d2 e.symm)).far _ _ (by exact fun e => d2 e.symm)), Lib.hid ((hB13.setCell (p := ⟨(World.heap v8).size, 0, none⟩) l1 _).setCell (p := ⟨(World.heap v8).size, 1, none⟩) l1 _)⟩
    · go_simp
      refine hK.out _ _ trivial (fun hHeld => ?_)
      clear hK K hHeld
      obtain ⟨v15, hW15⟩ : ∃ v15, v15 = World.alloc v0 (.cells #[.slice none 0 0, .slice none 0 0] 52) := ⟨_, rfl⟩
      have hb15 : Below (World.heap v0).size v0 v15 := by rw [hW15]; exact (Below.refl _ _).alloc (Nat.le_refl _) _
      have bt15 : Row v15 (World.heap v0).size 52 #[.slice none 0 0, .slice none 0 0] := by rw [hW15]; exact row_new v0 _ _
      rw [← hW15]
      clear hW15
      have hB15 := hB0.trans (hb15.mono hB0.size)
      have hz15 := hb15.size
      refine wpAnyH_ready (rs := [0, 1]) (by kernel_rfl) (by simp) ?_
      refine AllReadyH.cons rfl (fun K hK => ?_) (AllReadyH.cons rfl (fun K hK => ?_) AllReadyH.nil)
      · go_simp
        refine hK.out _ _ trivial (fun hHeld => ?_)
        clear hK K hHeld
        obtain ⟨v16, hW16⟩ : ∃ v16, v16 = World.alloc v15 (.cells (madeCells #[.bool false] 3) 4) := ⟨_, rfl⟩
        have hb16 : Below (World.heap v15).size v15 v16 := by rw [hW16]; exact (Below.refl _ _).alloc (Nat.le_refl _) _
        have go16 : BRow v16 (World.heap v15).size (List.replicate 3 false) := by rw [hW16]; exact BRow.zeros v15 3
        rw [← hW16]
        clear hW16
        have bt16c := bt15.below hb16 (by exact bt15.lt)
        have hB16 := hB15.trans (hb16.mono hB15.size)
        have hz16 := hb16.size
        have ltbt16 := bt15.lt
        refine wpAnyH_ready (rs := [1]) (by kernel_rfl) (by simp) ?_
        refine AllReadyH.cons rfl (fun K hK => ?_) AllReadyH.nil
        · go_simp
          go_wp2_with (go_at_call 86; refine (ireset_any v16).mono ?_; rintro e v17 ⟨gr17, rfl, hg17, hr17, hb17⟩)
          refine hK.out _ _ trivial (fun hHeld => ?_)
          clear hK K hHeld
          have go17c := go16.below hb17 (by exact go16.lt)
          have bt17c := bt16c.below hb17 (by exact bt16c.lt)
          have hB17 := hB16.trans (hb17.mono hB16.size)
          have hz17 := hb17.size
          have ltgo17 := go16.lt
          have ltbt17 := bt16c.lt
          refine wpAnyH_take (i := 2) (v := ?_) rfl (by kernel_rfl) (by kernel_rfl) (by kernel_rfl) (fun _ _ _ h => h) (Or.inl ⟨by rfl, ?_⟩) (by trivial) ?_
          rotate_left
          · (intro w hSw; (try dsimp only at hSw); go_simp; try with_reducible rfl)
          simp only [Act.put, List.setIfInBounds_toArray]
          refine wpAnyH_ready (rs := [4]) (by kernel_rfl) (by simp) ?_
          refine AllReadyH.cons rfl (fun K hK => ?_) AllReadyH.nil
          · have c0 := bt17c.cell 0
            have c1 := bt17c.cell 1
            have f0 := bt17c.frozen 0
            have f1 := bt17c.frozen 1
            simp at c0 c1
            go_simp
            refine hK.out _ _ trivial (fun hHeld => ?_)
            clear hK K hHeld
            refine wpAnyH_done (by kernel_rfl) ?_ _
            go_wp2_with fail
            go_meet
            have hrs := (bt17c.set 0 (.slice (some ⟨(World.heap v15).size, 0, none⟩) 3 3)).set 1 (.slice (some ⟨gr17, 0, none⟩) 25 25)
            have hlo : w2.heap.size ≤ (World.heap v0).size ∧ w2.heap.size ≤ (World.heap v15).size ∧ w2.heap.size ≤ gr17 ∧ (World.heap v0).size ≠ (World.heap v15).size ∧ (World.heap v0).size ≠ gr17 ∧ (World.heap v15).size ≠ gr17 := by
              omega
            obtain ⟨l1, l2, l3, d1, d2, d3⟩ := hlo
            exact ⟨_, (World.heap v0).size, (World.heap v15).size, gr17, rfl, rfl, l1, l2, l3, d1, d2, d3, Lib.hid hrs, Lib.hid ((go17c.far _ _ (by exact fun e => d1 e.symm)).far _ _ (by exact fun e => d1 e.symm)), Lib.hid ((hr17.far _ _ (by exact fun e => d2 e.symm)).far _ _ (by exact fun e => d2 e.symm)), Lib.hid ((hB17.setCell (p := ⟨(World.heap v0).size, 0, none⟩) l1 _).setCell (p := ⟨(World.heap v0).size, 1, none⟩) l1 _)⟩
      · go_simp
        go_wp2_with (go_at_call 86; refine (ireset_any v15).mono ?_; rintro e v19 ⟨gr19, rfl, hg19, hr19, hb19⟩)
        refine hK.out _ _ trivial (fun hHeld => ?_)
        clear hK K hHeld
        have bt19c := bt15.below hb19 (by exact bt15.lt)
        have hB19 := hB15.trans (hb19.mono hB15.size)
        have hz19 := hb19.size
        have ltbt19 := bt15.lt
        refine wpAnyH_ready (rs := [0]) (by kernel_rfl) (by simp) ?_
        refine AllReadyH.cons rfl (fun K hK => ?_) AllReadyH.nil
        · go_simp
          refine hK.out _ _ trivial (fun hHeld => ?_)
          clear hK K hHeld
          obtain ⟨v20, hW20⟩ : ∃ v20, v20 = World.alloc v19 (.cells (madeCells #[.bool false] 3) 4) := ⟨_, rfl⟩
          have hb20 : Below (World.heap v19).size v19 v20 := by rw [hW20]; exact (Below.refl _ _).alloc (Nat.le_refl _) _
          have go20 : BRow v20 (World.heap v19).size (List.replicate 3 false) := by rw [hW20]; exact BRow.zeros v19 3
          rw [← hW20]
          clear hW20
          have gr20c := hr19.below hb20 (by exact hr19.lt)
          have bt20c := bt19c.below hb20 (by exact bt19c.lt)
          have hB20 := hB19.trans (hb20.mono hB19.size)
          have hz20 := hb20.size
          have ltgr20 := hr19.lt
          have ltbt20 := bt19c.lt
          refine wpAnyH_take (i := 2) (v := ?_) rfl (by kernel_rfl) (by kernel_rfl) (by kernel_rfl) (fun _ _ _ h => h) (Or.inl ⟨by rfl, ?_⟩) (by trivial) ?_
          rotate_left
          · (intro w hSw; (try dsimp only at hSw); go_simp; try with_reducible rfl)
          simp only [Act.put, List.setIfInBounds_toArray]
          refine wpAnyH_ready (rs := [4]) (by kernel_rfl) (by simp) ?_
          refine AllReadyH.cons rfl (fun K hK => ?_) AllReadyH.nil
          · have c0 := bt20c.cell 0
            have c1 := bt20c.cell 1
            have f0 := bt20c.frozen 0
            have f1 := bt20c.frozen 1
            simp at c0 c1
            go_simp
            refine hK.out _ _ trivial (fun hHeld => ?_)
            clear hK K hHeld
            refine wpAnyH_done (by kernel_rfl) ?_ _
            go_wp2_with fail
            go_meet
            have hrs := (bt20c.set 0 (.slice (some ⟨(World.heap v19).size, 0, none⟩) 3 3)).set 1 (.slice (some ⟨gr19, 0, none⟩) 25 25)
            have hlo : w2.heap.size ≤ (World.heap v0).size ∧ w2.heap.size ≤ (World.heap v19).size ∧ w2.heap.size ≤ gr19 ∧ (World.heap v0).size ≠ (World.heap v19).size ∧ (World.heap v0).size ≠ gr19 ∧ (World.heap v19).size ≠ gr19 := by
              omega
            obtain ⟨l1, l2, l3, d1, d2, d3⟩ := hlo
            exact ⟨_, (World.heap v0).size, (World.heap v19).size, gr19, rfl, rfl, l1, l2, l3, d1, d2, d3, Lib.hid hrs, Lib.hid ((go20.far _ _ (by exact fun e => d1 e.symm)).far _ _ (by exact fun e => d1 e.symm)), Lib.hid ((gr20c.far _ _ (by exact fun e => d2 e.symm)).far _ _ (by exact fun e => d2 e.symm)), Lib.hid ((hB20.setCell (p := ⟨(World.heap v0).size, 0, none⟩) l1 _).setCell (p := ⟨(World.heap v0).size, 1, none⟩) l1 _)⟩
  case rest =>
    clear hmk
    obtain ⟨wa, bt, go, gr, hwa, rfl, h1, h2, h3, n1, n2, n3, HT, HO, HG, HB⟩ := hcut
    subst hwa
    have hord := HE2.out.ord
    have habl := HE2.out.rab.lt
    have HKW : Hid (KpM a1 a2 w1.heap.size w2 wa) := Lib.hid (KpM.more HB.out hz2)
    have HPS : Hid (PSt w wa w1.heap.size a1 a2 cb ab K ts rs ins V bt go gr (fillTo (fun o => outF V (ps.getD o pd0) o) 3 0) (fillTo (regF V ts) 25 0) (List.replicate 200 0)) := Lib.hid ⟨HE2.out.kp HKW.out, HM2.out.on HB.out, Known.zero V, HK2.out.below HB.out (by omega), HR2.out.below HB.out (by omega), HT.out, HO.out, HG.out, HB2.out.trans (HB.out.mono (by omega)), by omega⟩
    clear HE2 HM2 HK2 HR2 HB2 HT HO HG HB HKW hord habl h1 h2 h3 n1 n2 n3 hz2
    have hbk := HPS.out.bk
    have k0 := hbk.cell 0
    have k1 := hbk.cell 1
    simp at k0 k1
    clear hbk
    go_upto_region 4 with fail
    clear k0 k1
    go_loopw [19] (fun iv wr => ∃ (k : Nat) (M : List Nat), k ≤ 3 ∧ iv = .int .i64 k ∧ Hid (PSt w wr w1.heap.size a1 a2 cb ab K ts rs ins V bt go gr (fillTo (fun o => outF V (ps.getD o pd0) o) 3 k) (fillTo (regF V ts) 25 0) M)) (fun iv _ => 3 - (intOf iv).toNat)
    case atStart => exact ⟨0, _, by omega, rfl, HPS⟩
    case round =>
      clear HPS
      obtain ⟨k, M, hk, rfl, HPS⟩ := hrel
      by_cases hlt : k < 3
      · obtain ⟨pb, po, hPA, hbl, pv0, pv1⟩ := HP.out k (by rw [HPL.out]; exact hlt)
        obtain ⟨o2, o3, o4, o5⟩ := HPS.out.env.ord
        obtain ⟨m1, m2, m3, m4, m5, m6, m7⟩ := HPS.out.nm
        have hgo := HPS.out.ou.lt
        have hbt := HPS.out.tb.lt
        have habl := HPS.out.env.rab.lt
        have q0 := (HPS.out.bl.cell (p := ⟨pb, po + k * 2, none⟩) hbl).trans pv0
        have q1 := (HPS.out.bl.cell (p := ⟨pb, po + k * 2 + 1, none⟩) hbl).trans pv1
        have HPK := Lib.hid (HPO.out k hlt)
        have HFS : Hid ((fillTo (fun o => outF V (ps.getD o pd0) o) 3 k).set k ((decide ((ps.getD k pd0).1 ≠ 15) && V (k * 5 + 4, (ps.getD k pd0).1.toNat)) != (ps.getD k pd0).2) = fillTo (fun o => outF V (ps.getD o pd0) o) 3 (k + 1)) := Lib.hid rfl
        have HLF : Hid (k < (fillTo (fun o => outF V (ps.getD o pd0) o) 3 k).length) := Lib.hid (by rw [fillTo_len]; exact hlt)
        generalize (ps.getD k pd0).2 = inv at *
        generalize (ps.getD k pd0).1 = z at *
        generalize fillTo (fun o => outF V (ps.getD o pd0) o) 3 k = ol at *
        obtain ⟨w3, hw3⟩ : ∃ w3, w3 = wr.alloc (.cells #[.int .i64 z, .bool inv] 81) := ⟨_, rfl⟩
        have hb3 : Below wr.heap.size wr w3 := by rw [hw3]; exact (Below.refl _ _).alloc (Nat.le_refl _) _
        have hX3 : Row w3 wr.heap.size 81 #[.int .i64 z, .bool inv] := by rw [hw3]; exact row_new wr _ _
        have hz3 : wr.heap.size < w3.heap.size := hX3.lt
        have HP3 := Lib.hid (HPS.out.on hb3)
        have HX3 := Lib.hid hX3
        clear hb3 hX3 HPS pv0 pv1
        have b0 := HP3.out.tb.cell 0
        have x0 := HX3.out.cell 0
        have x1 := HX3.out.cell 1
        simp at b0 x0 x1
        go_upto_region 6 with fail
        change Code.wp _ _ _ _ (wr.alloc (.cells #[.int .i64 z, .bool inv] 81))
        rw [← hw3]
        clear hw3 q0 q1
        have HRS := Lib.hid (rdA_sound HS.out (t := k * 5 + 4) (z := z) (by omega) (fun h => by have := HPK.out.2 h; have := HPK.out.1; omega) HP3.out.kn)
        have HRV := Lib.hid (fun (w' : World) (hb : Below w3.heap.size w3.drew w') => readV_any w1.heap.size a1 a2 cb ab K ts rs ins 200 (askv_all w1.heap.size a1 a2 cb ab K ts rs ins 200) M (k * 5 + 4) z w' (by omega) HPK.out.1 HPK.out.2 (HP3.out.on ((Below.refl _ _).drew.trans hb)).env (HP3.out.on ((Below.refl _ _).drew.trans hb)).mst (zeros_le M))
        have HFB : Hid (∀ w' : World, (∀ b, b < w3.heap.size → b ≠ a1 → b ≠ a2 → w'.heap[b]? = w3.heap[b]?) → w'.cell? ⟨bt, 0, none⟩ = some (.slice (some ⟨go, 0, none⟩) 3 3) ∧ w'.cell? ⟨wr.heap.size, 0, none⟩ = some (.int .i64 z) ∧ w'.cell? ⟨wr.heap.size, 1, none⟩ = some (.bool inv)) := Lib.hid (fun w' hb => ⟨(World.cell?_of_block (a := ⟨bt, 0, none⟩) (hb _ (by show bt < w3.heap.size; omega) (by show bt ≠ a1; omega) (by show bt ≠ a2; omega))).trans b0, (World.cell?_of_block (a := ⟨wr.heap.size, 0, none⟩) (hb _ hz3 (by show wr.heap.size ≠ a1; omega) (by show wr.heap.size ≠ a2; omega))).trans x0, (World.cell?_of_block (a := ⟨wr.heap.size, 1, none⟩) (hb _ hz3 (by show wr.heap.size ≠ a1; omega) (by show wr.heap.size ≠ a2; omega))).trans x1⟩)
        generalize runQ (memo (valA ts rs ins) 201) M (rdA (k * 5 + 4) z) = q at *
        have hfd : ∀ W, (Instr.field 159 (.agg #[.int .i64 (-1), .int .i64 ((k : Int) * 5 + 4)]) 1).run Try.prog W = .ok (.int .i64 ((k : Int) * 5 + 4)) W := fun W => by kernel_rfl
        rw [show ((k * 5 + 4 : Nat) : Int) = (k : Int) * 5 + 4 by omega] at HRV
        have hnb : go ≠ bt := by omega
        have hnx : go ≠ wr.heap.size := by omega
        go_region_held3 (fun w' => w'.cell? ⟨bt, 0, none⟩ = some (.slice (some ⟨go, 0, none⟩) 3 3) ∧ w'.cell? ⟨wr.heap.size, 0, none⟩ = some (.int .i64 z) ∧ w'.cell? ⟨wr.heap.size, 1, none⟩ = some (.bool inv))
          (first | (with_reducible assumption) | (exact ⟨b0, x0, x1⟩) | (exact ⟨(World.cell?_of_block (a := ⟨bt, 0, none⟩) (Below.heap_setCell _ _ _ _ (by show bt ≠ go; omega))).trans hS6.1, (World.cell?_of_block (a := ⟨wr.heap.size, 0, none⟩) (Below.heap_setCell _ _ _ _ (by show wr.heap.size ≠ go; omega))).trans hS6.2.1, (World.cell?_of_block (a := ⟨wr.heap.size, 1, none⟩) (Below.heap_setCell _ _ _ _ (by show wr.heap.size ≠ go; omega))).trans hS6.2.2⟩) | go_keep)
          (first
            | (go_at_call 119; go_fit (outPin_any k w3.drew hlt); rintro e w5 ⟨rfl, hb5⟩; have hS5 := HFB.out w5 (fun b h _ _ => hb5.block b h); have hRV := HRV.out w5 hb5)
            | (go_at_call 118; go_fit hRV; rintro e w6 ⟨rfl, hm6, hk6⟩; have hS6 := HFB.out w6 (fun b h g1 g2 => (hk6.keep b (Nat.lt_of_lt_of_le h hb5.size) g1 g2).trans (hb5.block b h)); have HP6 := Lib.hid ((HP3.out.on ((Below.refl _ _).drew.trans hb5)).kp hk6 hm6 HRS.out.2); obtain ⟨c6, f6⟩ := HP6.out.ou.at HLF.out))
        all_goals
          have HP7 := Lib.hid (HP6.out.setO k (q.1 != inv))
          have hfs : ol.set k (q.1 != inv) = fillTo (fun o => outF V (ps.getD o pd0) o) 3 (k + 1) := by rw [HRS.out.1]; exact HFS.out
          rw [hfs] at HP7
          clear hm6 hk6 hS6 hS5 hb5 hRV HRV HFB HP6 c6 f6 b0 x0 x1 HX3 HP3 hfs
          rename_i _hheld
          clear _hheld
          rw [← hPA]
          clear hPA
          go_wp2
          go_roundw
          case rel => exact ⟨k + 1, q.2, by omega, by go_num, HP7⟩
          case measure => simp [intOf]; omega
      · obtain rfl : k = 3 := by omega
        rw [show ((3 : Nat) : Int) = 3 from rfl]
        clear hlt hk
        obtain ⟨w8, h8⟩ : ∃ w8, w8 = wr := ⟨_, rfl⟩
        subst h8
        have hbk := HPS.out.bk
        have k0 := hbk.cell 0
        have k1 := hbk.cell 1
        simp at k0 k1
        clear hbk
        go_upto_region 9 with fail
        clear k0 k1
        go_loopw [43] (fun iv wx => ∃ (j : Nat) (M : List Nat), j ≤ 25 ∧ iv = .int .i64 j ∧ Hid (PSt w wx w1.heap.size a1 a2 cb ab K ts rs ins V bt go gr (fillTo (fun o => outF V (ps.getD o pd0) o) 3 3) (fillTo (regF V ts) 25 j) M)) (fun iv _ => 25 - (intOf iv).toNat)
        case atStart => exact ⟨0, _, by omega, rfl, HPS⟩
        case round =>
          clear HPS
          obtain ⟨j, M2, hj, rfl, HPS⟩ := hrel
          obtain ⟨o2, o3, o4, o5⟩ := HPS.out.env.ord
          obtain ⟨m1, m2, m3, m4, m5, m6, m7⟩ := HPS.out.nm
          have hgo := HPS.out.re.lt
          have hbt := HPS.out.tb.lt
          have habl := HPS.out.env.rab.lt
          by_cases hlt : j < 25
          · have hok := HC.out.ok j hlt
            obtain ⟨tb, tf, hTA, hbl, A1, c1, A2, c2, ⟨p0, p1, p2, p3⟩, ⟨hA1, hA2⟩, hc1, hc2⟩ := HC.out.tl j (by rw [HC.out.n1]; exact hlt)
            obtain ⟨⟨v0, v1⟩, ⟨l1, f1⟩, l2, f2⟩ := tlOk_fit hok
            have hsel := tlOk_sel hok
            have q0 := (HPS.out.bl.cell (p := ⟨tb, tf + j * 4, none⟩) hbl).trans p0
            have q1 := (HPS.out.bl.cell (p := ⟨tb, tf + j * 4 + 1, none⟩) hbl).trans p1
            have q2 := (HPS.out.bl.cell (p := ⟨tb, tf + j * 4 + 2, none⟩) hbl).trans p2
            have q3 := (HPS.out.bl.cell (p := ⟨tb, tf + j * 4 + 3, none⟩) hbl).trans p3
            rw [l1] at q1
            rw [l2] at q3
            have HLS := Lib.hid (lut_sound HS.out hlt hok HPS.out.kn)
            have HRF : Hid ((fillTo (regF V ts) 25 j).set j ((ts.getD j tl0).2.2.1 && runP V (lutA ts j)) = fillTo (regF V ts) 25 (j + 1)) := Lib.hid rfl
            have HLF : Hid (j < (fillTo (regF V ts) 25 j).length) := Lib.hid (by rw [fillTo_len]; exact hlt)
            have HLE : Hid (lutA ts j = tabA (ts.getD j tl0).1 j (ts.getD j tl0).2.1 0 0) := Lib.hid rfl
            have HA1 := Lib.hid (hA1.below HPS.out.bl)
            have HSEL := Lib.hid hsel
            have HL1 := Lib.hid l1
            clear p0 p1 p2 p3 hA1 hA2 hsel f1 f2 l2 hok
            generalize fillTo (regF V ts) 25 j = rl at *
            generalize (ts.getD j tl0).2.2.2 = y at *
            generalize (ts.getD j tl0).2.2.1 = rg at *
            generalize (ts.getD j tl0).2.1 = zs at *
            generalize (ts.getD j tl0).1 = v at *
            obtain ⟨T, rfl⟩ := Int.eq_ofNat_of_zero_le v0
            obtain ⟨w3, hw3⟩ : ∃ w3, w3 = wr.alloc (.cells #[.int .i64 (T : Int), .slice A1 3 c1, .bool rg, .slice A2 8 c2] 33) := ⟨_, rfl⟩
            have hb3 : Below wr.heap.size wr w3 := by rw [hw3]; exact (Below.refl _ _).alloc (Nat.le_refl _) _
            have hX3 : Row w3 wr.heap.size 33 #[.int .i64 (T : Int), .slice A1 3 c1, .bool rg, .slice A2 8 c2] := by rw [hw3]; exact row_new wr _ _
            have hz3 : wr.heap.size < w3.heap.size := hX3.lt
            have HP3 := Lib.hid (HPS.out.on hb3)
            have hb1 := HP3.out.tb.cell 1
            have x0 := hX3.cell 0
            have x1 := hX3.cell 1
            have x2 := hX3.cell 2
            have x3 := hX3.cell 3
            simp at hb1 x0 x1 x2 x3
            have HA3 := Lib.hid (HA1.out.below (hb3.mono (by omega)))
            clear hb3 hX3 HPS HA1
            go_upto_region 11 with fail
            change Code.wp _ _ _ _ (wr.alloc (.cells #[.int .i64 (T : Int), .slice A1 3 c1, .bool rg, .slice A2 8 c2] 33))
            rw [← hw3]
            clear hw3 q0 q1 q2 q3
            obtain ⟨c6, f6⟩ := HP3.out.re.at HLF.out
            have ij0 : (0 : Int) ≤ (j : Int) := Int.natCast_nonneg _
            have ij1 : (j : Int) < 25 := by omega
            cases rg
            · clear HLS HSEL HA3 x0 x1 x3
              refine wp_region_held_drew (S := (fun w' => w'.cell? ⟨bt, 1, none⟩ = some (.slice (some ⟨gr, 0, none⟩) 25 25) ∧ w'.cell? ⟨wr.heap.size, 2, none⟩ = some (.bool false))) (by kernel_rfl) ⟨hb1, x2⟩ (fun hHeld => ?_)
              refine wpAnyH_take (i := 0) (v := ?_) rfl (by kernel_rfl) (by kernel_rfl) (by kernel_rfl) (fun _ _ _ h => h) (Or.inl ⟨by rfl, ?_⟩) (by assumption) ?_
              rotate_left
              · (intro w hSw; (try dsimp only at hSw); go_simp; try with_reducible rfl)
              simp only [Act.put, List.setIfInBounds_toArray]
              refine wpAnyH_take (i := 1) (v := ?_) rfl (by kernel_rfl) (by kernel_rfl) (by kernel_rfl) (fun _ _ _ h => h) (Or.inl ⟨by rfl, ?_⟩) (by assumption) ?_
              rotate_left
              · (intro w hSw; (try dsimp only at hSw); go_simp; try with_reducible rfl)
              simp only [Act.put]
              refine wpAnyH_take (i := 2) (v := ?_) rfl (by kernel_rfl) (by kernel_rfl) (by kernel_rfl) (fun _ _ _ h => h) (Or.inl ⟨by rfl, ?_⟩) (by assumption) ?_
              rotate_left
              · (intro w hSw; (try dsimp only at hSw); go_simp; try with_reducible rfl)
              simp only [Act.put]
              refine wpAnyH_take (i := 3) (v := ?_) rfl (by kernel_rfl) (by kernel_rfl) (by kernel_rfl) (fun _ _ _ h => h) (Or.inl ⟨by rfl, ?_⟩) (by assumption) ?_
              rotate_left
              · (intro w hSw; (try dsimp only at hSw); go_simp; try with_reducible rfl)
              simp only [Act.put]
              refine wpAnyH_take (i := 4) (v := ?_) rfl (by kernel_rfl) (by kernel_rfl) (by kernel_rfl) (fun _ _ _ h => h) (Or.inl ⟨by rfl, ?_⟩) (by assumption) ?_
              rotate_left
              · (intro w hSw; (try dsimp only at hSw); go_simp; try with_reducible rfl)
              simp only [Act.put]
              refine wpAnyH_take (i := 5) (v := ?_) rfl (by kernel_rfl) (by kernel_rfl) (by kernel_rfl) (fun _ _ _ h => h) (Or.inl ⟨by rfl, ?_⟩) (by assumption) ?_
              rotate_left
              · (intro w hSw; (try dsimp only at hSw); go_simp; try with_reducible rfl)
              simp only [Act.put]
              refine wpAnyH_take (i := 6) (v := ?_) rfl (by kernel_rfl) (by kernel_rfl) (by kernel_rfl) (fun _ _ _ h => h) (Or.inl ⟨by rfl, ?_⟩) (by assumption) ?_
              rotate_left
              · (intro w hSw; (try dsimp only at hSw); go_simp; try with_reducible rfl)
              simp only [Act.put]
              refine wpAnyH_take (i := 7) (v := undef) rfl (by kernel_rfl) (by kernel_rfl) (by kernel_rfl) (fun _ _ _ h => h) (Or.inr ⟨by kernel_rfl, rfl⟩) (by assumption) ?_
              simp only [Act.put]
              refine wpAnyH_take (i := 8) (v := undef) rfl (by kernel_rfl) (by kernel_rfl) (by kernel_rfl) (fun _ _ _ h => h) (Or.inr ⟨by kernel_rfl, rfl⟩) (by assumption) ?_
              simp only [Act.put]
              refine wpAnyH_take (i := 9) (v := undef) rfl (by kernel_rfl) (by kernel_rfl) (by kernel_rfl) (fun _ _ _ h => h) (Or.inr ⟨by kernel_rfl, rfl⟩) (by assumption) ?_
              simp only [Act.put]
              refine wpAnyH_take (i := 10) (v := undef) rfl (by kernel_rfl) (by kernel_rfl) (by kernel_rfl) (fun _ _ _ h => h) (Or.inr ⟨by kernel_rfl, rfl⟩) (by assumption) ?_
              simp only [Act.put]
              refine wpAnyH_take (i := 11) (v := ?_) rfl (by kernel_rfl) (by kernel_rfl) (by kernel_rfl) (fun _ _ _ h => h) (Or.inl ⟨by rfl, ?_⟩) (by assumption) ?_
              rotate_left
              · (intro w hSw; (try dsimp only at hSw); go_simp; try with_reducible rfl)
              simp only [Act.put]
              refine wpAnyH_take (i := 12) (v := ?_) rfl (by kernel_rfl) (by kernel_rfl) (by kernel_rfl) (fun _ _ _ h => h) (Or.inl ⟨by rfl, ?_⟩) (by assumption) ?_
              rotate_left
              · (intro w hSw; (try dsimp only at hSw); go_simp; try with_reducible rfl)
              simp only [Act.put]
              refine wpAnyH_ready (rs := [13]) (by kernel_rfl) (by simp) ?_
              refine AllReadyH.cons rfl (fun K hK => ?_) AllReadyH.nil
              go_simp
              refine hK.out _ _ (⟨(World.cell?_of_block (a := ⟨bt, 1, none⟩) (Below.heap_setCell _ _ _ _ (by show bt ≠ gr; omega))).trans hb1, (World.cell?_of_block (a := ⟨wr.heap.size, 2, none⟩) (Below.heap_setCell _ _ _ _ (by show wr.heap.size ≠ gr; omega))).trans x2⟩) (fun hHeld => ?_)
              clear hK K
              refine wpAnyH_done (by kernel_rfl) ?_ _
              clear hHeld
              have HP7 := Lib.hid ((HP3.out.on (wr' := w3.drew) (Below.refl _ _).drew).setR j false)
              have hfs : rl.set j false = fillTo (regF V ts) 25 (j + 1) := HRF.out
              rw [hfs] at HP7
              clear HP3 hb1 x2 c6 f6 hfs
              rw [← hTA]
              clear hTA
              go_wp2
              go_roundw
              case rel => exact ⟨j + 1, M2, by omega, by go_num, HP7⟩
              case measure => simp [intOf]; omega
            · have HLU := Lib.hid (lookV_any w1.heap.size a1 a2 cb ab K ts rs ins 200 (askv_all w1.heap.size a1 a2 cb ab K ts rs ins 200) M2 j T c1 c2 8 A1 A2 true zs w3.drew hlt (by omega) HL1.out (fun i hi => ⟨(HSEL.out i (by rw [HL1.out]; exact hi)).1, (HSEL.out i (by rw [HL1.out]; exact hi)).2.2⟩) (HA3.out.mono (by omega)) (HP3.out.on (Below.refl _ _).drew).env (HP3.out.on (Below.refl _ _).drew).mst (zeros_le M2))
              rw [← HLE.out] at HLU
              have HFB : Hid (∀ w' : World, (∀ b, b < w3.heap.size → b ≠ a1 → b ≠ a2 → w'.heap[b]? = w3.heap[b]?) → w'.cell? ⟨bt, 1, none⟩ = some (.slice (some ⟨gr, 0, none⟩) 25 25) ∧ w'.cell? ⟨wr.heap.size, 0, none⟩ = some (.int .i64 (T : Int)) ∧ w'.cell? ⟨wr.heap.size, 1, none⟩ = some (.slice A1 3 c1) ∧ w'.cell? ⟨wr.heap.size, 2, none⟩ = some (.bool true) ∧ w'.cell? ⟨wr.heap.size, 3, none⟩ = some (.slice A2 8 c2)) := Lib.hid (fun w' hb => by
                have hX := hb wr.heap.size hz3 (by omega) (by omega)
                exact ⟨(World.cell?_of_block (a := ⟨bt, 1, none⟩) (hb bt (by omega) (by omega) (by omega))).trans hb1, (World.cell?_of_block (a := ⟨wr.heap.size, 0, none⟩) hX).trans x0, (World.cell?_of_block (a := ⟨wr.heap.size, 1, none⟩) hX).trans x1, (World.cell?_of_block (a := ⟨wr.heap.size, 2, none⟩) hX).trans x2, (World.cell?_of_block (a := ⟨wr.heap.size, 3, none⟩) hX).trans x3⟩)
              generalize runQ (memo (valA ts rs ins) 201) M2 (lutA ts j) = q at *
              clear c6 f6
              go_region_held3 (fun w' => w'.cell? ⟨bt, 1, none⟩ = some (.slice (some ⟨gr, 0, none⟩) 25 25) ∧ w'.cell? ⟨wr.heap.size, 0, none⟩ = some (.int .i64 (T : Int)) ∧ w'.cell? ⟨wr.heap.size, 1, none⟩ = some (.slice A1 3 c1) ∧ w'.cell? ⟨wr.heap.size, 2, none⟩ = some (.bool true) ∧ w'.cell? ⟨wr.heap.size, 3, none⟩ = some (.slice A2 8 c2))
                (first | (with_reducible assumption) | (exact ⟨hb1, x0, x1, x2, x3⟩) | (exact ⟨(World.cell?_of_block (a := ⟨bt, 1, none⟩) (Below.heap_setCell _ _ _ _ (by show bt ≠ gr; omega))).trans hS6.1, (World.cell?_of_block (a := ⟨wr.heap.size, 0, none⟩) (Below.heap_setCell _ _ _ _ (by show wr.heap.size ≠ gr; omega))).trans hS6.2.1, (World.cell?_of_block (a := ⟨wr.heap.size, 1, none⟩) (Below.heap_setCell _ _ _ _ (by show wr.heap.size ≠ gr; omega))).trans hS6.2.2.1, (World.cell?_of_block (a := ⟨wr.heap.size, 2, none⟩) (Below.heap_setCell _ _ _ _ (by show wr.heap.size ≠ gr; omega))).trans hS6.2.2.2.1, (World.cell?_of_block (a := ⟨wr.heap.size, 3, none⟩) (Below.heap_setCell _ _ _ _ (by show wr.heap.size ≠ gr; omega))).trans hS6.2.2.2.2⟩) | go_keep)
                (first | (go_at_call 120; go_fit HLU.out; rintro e w6 ⟨rfl, hm6, hk6⟩; have hS6 := HFB.out w6 (fun b h g1 g2 => hk6.keep b h g1 g2); have HP6 := Lib.hid ((HP3.out.on (Below.refl _ _).drew).kp hk6 hm6 HLS.out.2); obtain ⟨c6, f6⟩ := HP6.out.re.at HLF.out))
              all_goals
                have HP7 := Lib.hid (HP6.out.setR j q.1)
                have hfs : rl.set j q.1 = fillTo (regF V ts) 25 (j + 1) := by rw [HLS.out.1]; exact HRF.out
                rw [hfs] at HP7
                clear hm6 hk6 hS6 HLU HFB HP6 c6 f6 hb1 x0 x1 x2 x3 HP3 hfs HLS HSEL HA3
                rename_i _hheld
                clear _hheld
                rw [← hTA]
                clear hTA
                go_wp2
                go_roundw
                case rel => exact ⟨j + 1, q.2, by omega, by go_num, HP7⟩
                case measure => simp [intOf]; omega
          · obtain rfl : j = 25 := by omega
            have hO : fillTo (fun o => outF V (ps.getD o pd0) o) 3 3 = outsF V ps := fillTo_all _ _
            have hR : fillTo (regF V ts) 25 25 = regsF V ts := fillTo_all _ _
            rw [hO, hR] at HPS
            have htb := HPS.out.tb
            have hbr := HPS.out.br
            have t0 := htb.cell 0
            have t1 := htb.cell 1
            have r0 := hbr.cell 0
            have r1 := hbr.cell 1
            have e0 := hbr.frozen 0
            have e1 := hbr.frozen 1
            have hb2 := (hbr.set 0 (.slice (some ⟨go, 0, none⟩) 3 3)).set 1 (.slice (some ⟨gr, 0, none⟩) 25 25)
            have y0 := hb2.cell 0
            have y1 := hb2.cell 1
            simp at t0 t1 r0 r1 y0 y1
            have hRl := hbr.lt
            have HFIN : Hid (IStOut (outsF V ps) (regsF V ts) w (.returned (.agg #[.slice (some ⟨go, 0, none⟩) 3 3, .slice (some ⟨gr, 0, none⟩) 25 25])) ((wr.setCell ⟨w.heap.size + 1, 0, none⟩ (.slice (some ⟨go, 0, none⟩) 3 3)).setCell ⟨w.heap.size + 1, 1, none⟩ (.slice (some ⟨gr, 0, none⟩) 25 25))) := Lib.hid ⟨go, gr, rfl, ⟨by omega, by omega, m7⟩, (HPS.out.ou.kept (setCell_far wr _ _ (by omega))).kept (setCell_far _ _ _ (by omega)), (HPS.out.re.kept (setCell_far wr _ _ (by omega))).kept (setCell_far _ _ _ (by omega)), (HPS.out.bl.setCell (p := ⟨w.heap.size + 1, 0, none⟩) (by show w.heap.size ≤ w.heap.size + 1; omega) _).setCell (p := ⟨w.heap.size + 1, 1, none⟩) (by show w.heap.size ≤ w.heap.size + 1; omega) _⟩
            clear htb hbr hb2 HPS hO hR hlt hj
            go_wp2
            exact bodyPost_ret (v := .agg #[.slice (some ⟨go, 0, none⟩) 3 3, .slice (some ⟨gr, 0, none⟩) 25 25]) (by simp [results, Try.results77, go_sem, y0, y1]) rfl HFIN.out
end Go.Proofs.Ytdadokcodklfgaa
