/- The contracts of the model's EvalVars, and of the values of literals. -/
import Derived.Test.YtbhkpjcflghgbaaB6
namespace Go.Proofs.Ytbhkpjcflghgbaa
open Go.RowKit Go.Deep

set_option maxHeartbeats 800000 in
theorem sevalVars_any (i : Int) (nA gA oA sA iA : Option Addr) (nc gc oc sc ic : Nat) (ns : List Int) (gs : List (Int × Int)) (os : List Int) (st ins : List Bool) (w : World) (hc : CircAt w w.heap.size nA gA oA ns gs os)
    (hs : BoolsAt w w.heap.size sA st) (hin : BoolsAt w w.heap.size iA ins) :
    Calls Try.prog 12 #[.agg #[.int .i64 i, .slice nA ns.length nc, .slice gA gs.length gc, .slice oA os.length oc], .slice sA st.length sc, .slice iA ins.length ic] w fun e w' =>
      ∃ (A : Option Addr) (cap : Nat), e = .returned (.slice A (evalV i ns gs os st ins).length cap) ∧ BoolsAt w' w'.heap.size A (evalV i ns gs os st ins) ∧ Below w.heap.size w w' := by
  have HC := Lib.hid hc
  have HS := Lib.hid hs
  have HI := Lib.hid hin
  have hnl := hc.nl
  unfold maxLen at hnl
  clear hc hs hin
  have hbw : Below w.heap.size w (w.alloc (.cells #[.int .i64 i, .slice nA ns.length nc, .slice gA gs.length gc, .slice oA os.length oc] 26)) := (Below.refl _ _).alloc (Nat.le_refl _) _
  have r0 : Row (w.alloc (.cells #[.int .i64 i, .slice nA ns.length nc, .slice gA gs.length gc, .slice oA os.length oc] 26)) w.heap.size 26 #[.int .i64 i, .slice nA ns.length nc, .slice gA gs.length gc, .slice oA os.length oc] := heap_alloc_new w _
  have HL0 := Lib.hid hbw
  have HR0 := Lib.hid r0
  clear hbw r0
  go_enter Try.func12, Try.ntmps12
  go_wp2_with fail
  refine (svalid_any i nA gA oA nc gc oc ns gs os _ ((HC.out.below HL0.out).mono HL0.out.size)).mono ?_
  rintro e w1 ⟨rfl, hb1⟩
  have HR1 := Lib.hid (HR0.out.below hb1 HR0.out.lt)
  have HL1 := Lib.hid (HL0.out.trans (hb1.mono HL0.out.size))
  clear hb1 HR0 HL0
  have q0 := HR1.out.cell 0
  have q1 := HR1.out.cell 1
  have q2 := HR1.out.cell 2
  have q3 := HR1.out.cell 3
  simp at q0 q1 q2 q3
  have HA : Hid (assignB i ns gs os st.length ins.length = (Circ.validB i ns gs os && (decide (st.length = ns.length) && decide ((ins.length : Int) = i)))) := Lib.hid rfl
  have HVI := Lib.hid (fun h => Circ.valid_within (i := i) (ns := ns) (gs := gs) (os := os) h)
  have HVG := Lib.hid (fun h => Circ.valid_gates (i := i) (ns := ns) (gs := gs) (os := os) h)
  have HB1 := Lib.hid (HL1.out.alloc HL1.out.size (.cells #[] 4))
  generalize Circ.validB i ns gs os = vv at *
  cases vv
  · have HE : Hid (evalV i ns gs os st ins = []) := Lib.hid (evalV_f (by rw [HA.out]; rfl))
    go_wp2
    go_ret
    exact ⟨some ⟨w1.heap.size, 0, none⟩, 0, by rw [HE.out]; rfl, by rw [HE.out]; exact BoolsAt.nil _ _ _, HB1.out⟩
  · by_cases h1 : st.length = ns.length
    · by_cases h2 : (ins.length : Int) = i
      · have e1 : ((st.length : Int) != (ns.length : Int)) = false := by simp; omega
        have e2 : ((ins.length : Int) != i) = false := by simp [h2]
        have HE : Hid (evalV i ns gs os st ins = Circ.valsOf gs st ins) := Lib.hid (evalV_t (by rw [HA.out]; simp [h1, h2]))
        obtain ⟨a0, a1, a2, a3, a4⟩ := HVI.out rfl
        have H1 := Lib.hid h1
        have H2 := Lib.hid h2
        clear HA h1 h2 HB1
        go_wp2_with fail
        refine (l2Values_any i nA gA oA sA iA _ nc gc _ oc sc ic gs st ins _ ((HC.out.gates.below HL1.out).mono HL1.out.size) ((HS.out.below HL1.out).mono HL1.out.size) ((HI.out.below HL1.out).mono HL1.out.size) (by omega) (by omega) (by omega) H1.out H2.out (HVG.out (by trivial))).mono ?_
        rintro e w2 ⟨g, cap, rfl, hg2, hB2, hb2⟩
        have HB2 := Lib.hid hB2
        clear hB2
        go_wp2
        go_ret
        exact ⟨some ⟨g, 0, none⟩, cap, by rw [HE.out]; rfl, by rw [HE.out]; exact HB2.out, HL1.out.trans (hb2.mono HL1.out.size)⟩
      · have e1 : ((st.length : Int) != (ns.length : Int)) = false := by simp; omega
        have e2 : ((ins.length : Int) != i) = true := by simp [h2]
        have HE : Hid (evalV i ns gs os st ins = []) := Lib.hid (evalV_f (by rw [HA.out]; simp [h2]))
        clear HA h1 h2
        go_wp2
        go_ret
        exact ⟨some ⟨w1.heap.size, 0, none⟩, 0, by rw [HE.out]; rfl, by rw [HE.out]; exact BoolsAt.nil _ _ _, HB1.out⟩
    · have e1 : ((st.length : Int) != (ns.length : Int)) = true := by simp; omega
      have HE : Hid (evalV i ns gs os st ins = []) := Lib.hid (evalV_f (by rw [HA.out]; simp [h1]))
      clear HA h1
      go_wp2
      go_ret
      exact ⟨some ⟨w1.heap.size, 0, none⟩, 0, by rw [HE.out]; rfl, by rw [HE.out]; exact BoolsAt.nil _ _ _, HB1.out⟩

set_option maxHeartbeats 800000 in
theorem l2Lits_any (A A' : Option Addr) (n cap cap' : Nat) (L : List Bool) (xs : List Int) (w : World) (hL : BoolsAt w w.heap.size A L) (hn : L.length = n) (hn2 : n ≤ 1000) (hx : IntsAt w w.heap.size A' xs) (hl : xs.length ≤ 1000) (hok : ∀ k, k < xs.length → 0 ≤ xs.getD k 0 ∧ xs.getD k 0 < 2 * (n : Int)) :
    Calls Try.prog 76 #[.slice A n cap, .slice A' xs.length cap'] w fun e w' => ∃ g cap2 : Nat, e = .returned (.slice (some ⟨g, 0, none⟩) xs.length cap2) ∧ w.heap.size ≤ g ∧ BoolsAt w' w'.heap.size (some ⟨g, 0, none⟩) (Circ.litsV L xs) ∧ Below w.heap.size w w' := by
  have HX := Lib.hid hx
  have HL := Lib.hid hL
  have HLN := Lib.hid hn
  have HOK := Lib.hid hok
  clear hx hL hok hn
  generalize hn : xs.length = m at *
  have HN := Lib.hid hn
  clear hn
  obtain ⟨i0, hi0, hz0, hz1, hz2⟩ := info_parts Try.infoB
  have HI0 := Lib.hid hi0
  have HZ0 := Lib.hid hz0
  have HZ1 := Lib.hid hz1
  have HZ2 := Lib.hid hz2
  clear hi0 hz0 hz1 hz2
  have HO0 := Lib.hid (World.ownsRow_lit (base := w.heap.size) (e := 4) (size := 1) w #[] 0 (Nat.le_refl _) (by simp [maxLen]) (by simp))
  have HB0 : Hid (Below w.heap.size w (w.alloc (.cells #[] 4))) := Lib.hid ((Below.refl _ _).alloc (Nat.le_refl _) _)
  go_enter Try.func76, Try.ntmps76
  go_wp2
  go_loopw [5, 6] (fun v iv wr => ∃ (k g cap : Nat), k ≤ m ∧ iv = .int .i64 k ∧ v = .slice (some ⟨g, 0, none⟩) k cap ∧ Hid (wr.ownsRow w.heap.size 4 1 (.slice (some ⟨g, 0, none⟩) k cap) k (bvs (Circ.litsV L (xs.take k)))) ∧ Below w.heap.size w wr) (fun _ iv _ => m - (intOf iv).toNat)
  case atStart => exact ⟨0, _, _, Nat.zero_le _, rfl, rfl, Lib.hid (by simpa [Circ.litsV, bvs] using HO0.out), HB0.out⟩
  case round =>
    clear HO0 HB0
    obtain ⟨k, g, cap, hk, rfl, rfl, HOwn, hbr⟩ := hrel
    by_cases hlt : k < m
    · obtain ⟨b, off, rfl, hbl, hcell⟩ := HX.out k (by rw [HN.out]; exact hlt)
      rw [← hbr.cell (by exact hbl)] at hcell
      obtain ⟨o1, o2⟩ := HOK.out k hlt
      have HSN : Hid (Circ.litsV L (xs.take (k + 1)) = Circ.litsV L (xs.take k) ++ [Circ.litV L (xs.getD k 0)]) := Lib.hid (by
        have hk' : k < xs.length := by rw [HN.out]; exact hlt
        rw [List.take_succ_eq_append_getElem hk', Circ.litsV, List.map_append]
        simp [Circ.litsV, List.getD_eq_getElem?_getD, hk'])
      generalize xs.getD k 0 = v at *
      obtain ⟨q, rfl⟩ := Int.eq_ofNat_of_zero_le o1
      have hq : q < 2 * n := by omega
      clear o1 o2
      have HBL := Lib.hid (HL.out.below hbr)
      have hgb : w.heap.size ≤ g := (HOwn.out.lt g rfl).1
      have hrs : w.heap.size ≤ wr.heap.size := hbr.size
      go_wp2_with fail
      refine (l2Lit_any _ _ _ q L _ _ HBL.out HLN.out (by omega) hq).mono ?_
      rintro e w' ⟨rfl, rfl⟩
      generalize Circ.litV L (q : Int) = bv at *
      go_wp2_with (at_builtin; refine wpList_append_kept _ rfl (.tmp 14) (.tmp 21) 27 rfl w.heap.size 4 i0 _ 1 1 Try.underlying27 HI0.out HZ0.out HZ1.out HZ2.out rfl (by omega) (.slice (some ⟨g, 0, none⟩) k cap) k (bvs (Circ.litsV L (xs.take k))) rfl (HOwn.out.alloc _) ⟨wr.heap.size, 0, none⟩ 1 1 [.bool bv] rfl rfl (World.news_of_block (cs := #[.bool bv]) (t := 4) (fr := (0, 0)) (heap_alloc_new wr _)) (by simp [Value.oneCell']) (by omega) (by simp [maxLen]; omega) (by omega) (by simp; omega) _ rfl ?_)
      intro g' cap' w5 hown5 hgr5 hat5 hlt5 hkept5
      have HL5 := Lib.hid ((hbr.alloc hbr.size _).grown hgr5 (by simp; omega) (fun j hj => by simp [Value.ownBlock] at hj; omega))
      have HO5 : Hid (w5.ownsRow w.heap.size 4 1 (.slice (some ⟨g', 0, none⟩) (k + 1) cap') (k + 1) (bvs (Circ.litsV L (xs.take (k + 1))))) := Lib.hid (by rw [HSN.out, bvs_append]; exact hown5)
      clear hown5 hgr5 hat5 hlt5 hkept5 HOwn hbr
      go_wp2
      go_roundw
      case rel => exact ⟨k + 1, g', cap', by omega, by go_num, rfl, HO5, HL5.out⟩
      case measure => simp [intOf]; omega
    · obtain rfl : k = m := by omega
      have HF : Hid (xs.take k = xs) := Lib.hid (List.take_of_length_le (by rw [HN.out]; omega))
      rw [HF.out] at HOwn
      go_wp2
      go_ret
      exact ⟨g, cap, rfl, (HOwn.out.lt g rfl).1, own_bools HOwn.out (by rw [Circ.litsV_len, HN.out]), hbr⟩
end Go.Proofs.Ytbhkpjcflghgbaa
