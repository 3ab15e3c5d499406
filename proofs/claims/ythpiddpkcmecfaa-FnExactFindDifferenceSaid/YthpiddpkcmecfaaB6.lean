/- The contracts of the model's values of all variables. -/
import Derived.Test.YthpiddpkcmecfaaB5
import Derived.Test.YthpiddpkcmecfaaK
import Derived.Test.YthpiddpkcmecfaaR1
namespace Go.Proofs.Ythpiddpkcmecfaa
open Go.RowKit Go.Deep

def bvs (xs : List Bool) : List Value := xs.map Value.bool
theorem bvs_len (xs : List Bool) : (bvs xs).length = xs.length := by simp [bvs]
theorem bvs_get {xs : List Bool} {k : Nat} (hk : k < xs.length) : (bvs xs)[k]? = some (.bool (xs.getD k false)) := by
  simp [bvs, List.getD_eq_getElem?_getD, hk]
theorem bvs_append (a b : List Bool) : bvs (a ++ b) = bvs a ++ bvs b := by simp [bvs]
theorem bvs_one (xs : List Bool) : ∀ u ∈ bvs xs, u.oneCell' = true := by
  intro u hu
  simp only [bvs, List.mem_map] at hu
  obtain ⟨n, _, rfl⟩ := hu
  rfl
theorem bools_src {w : World} {B : Nat} {A : Option Addr} {xs : List Bool} (h : BoolsAt w B A xs) : ∀ j u, (bvs xs)[j]? = some u → ∃ ad, A = some ad ∧ w.cell? (ad.add j) = some u := by
  intro j u hu
  have hj : j < xs.length := by have := (List.getElem?_eq_some_iff.1 hu).1; rwa [bvs_len] at this
  obtain ⟨b, off, e, _, hc⟩ := h j hj
  rw [bvs_get hj] at hu
  injection hu with hu
  subst hu
  exact ⟨_, e, by rw [← hc]; unfold Addr.add; split <;> simp_all⟩
theorem own_bools {w : World} {base g n cap : Nat} {xs : List Bool} (h : w.ownsRow base 4 1 (.slice (some ⟨g, 0, none⟩) n cap) n (bvs xs)) (hn : xs.length = n) : BoolsAt w w.heap.size (some ⟨g, 0, none⟩) xs := fun k hk => by
  refine ⟨g, 0, rfl, (h.lt g rfl).2, ?_⟩
  rw [Nat.zero_add, h.cellAt k (by omega)]
  exact bvs_get hk

set_option maxHeartbeats 400000 in
theorem l2Lit_any (A : Option Addr) (n cap q : Nat) (L : List Bool) (B : Nat) (w : World) (hL : BoolsAt w B A L) (hn : L.length = n) (hn2 : n ≤ 1000) (hq : q < 2 * n) :
    Calls Try.prog 113 #[.slice A n cap, .int .i64 q] w fun e w' => e = .returned (.bool (Circ.litV L q)) ∧ w = w' := by
  have HL := Lib.hid (litV_nat L q)
  obtain ⟨b, off, rfl, _, hcell⟩ := hL (q / 2) (by omega)
  have hd : (q : Int) / 2 = ((q / 2 : Nat) : Int) := by omega
  have hd2 : q / 2 < n := by omega
  have hm : (q : Int) % 2 = ((q % 2 : Nat) : Int) := by omega
  clear hL hn
  generalize L.getD (q / 2) false = lv at *
  generalize q / 2 = k at *
  rcases Nat.mod_two_eq_zero_or_one q with e | e
  all_goals
    rw [e] at hm HL
    clear e
    cases lv
    all_goals
      go_enter Try.func113, Try.ntmps113
      go_wp2
      go_ret
      exact ⟨ret_bool (by rw [HL.out]; rfl), rfl⟩

set_option maxHeartbeats 800000 in
theorem l2Values_any (i : Int) (nA gA oA sA iA : Option Addr) (nl nc gc ol oc sc ic : Nat) (gs : List (Int × Int)) (st ins : List Bool) (w : World) (hg : GatesAt w w.heap.size gA gs) (hs : BoolsAt w w.heap.size sA st) (hin : BoolsAt w w.heap.size iA ins)
    (hgl : gs.length ≤ 14) (h2 : nl ≤ 3) (h1 : i ≤ 4) (hsl : st.length = nl) (hil : (ins.length : Int) = i) (hok : Circ.gatesOk gs (1 + i + nl) = true) :
    Calls Try.prog 101 #[.agg #[.int .i64 i, .slice nA nl nc, .slice gA gs.length gc, .slice oA ol oc], .slice sA st.length sc, .slice iA ins.length ic] w fun e w' =>
      ∃ g cap : Nat, e = .returned (.slice (some ⟨g, 0, none⟩) (Circ.valsOf gs st ins).length cap) ∧ w.heap.size ≤ g ∧ BoolsAt w' w'.heap.size (some ⟨g, 0, none⟩) (Circ.valsOf gs st ins) ∧ Below w.heap.size w w' := by
  have HX := Lib.hid hg
  have HS := Lib.hid hs
  have HI := Lib.hid hin
  have HOK := Lib.hid hok
  obtain ⟨il, hil'⟩ : ∃ il : Nat, ins.length = il := ⟨_, rfl⟩
  have HIL := Lib.hid hil'
  have HSL := Lib.hid hsl
  rw [hil'] at hil
  subst hil
  have HOUT : Hid (Circ.valsOf gs st ins = Circ.vals gs (false :: (ins ++ st))) := Lib.hid rfl
  have HV0 : Hid ((false :: (ins ++ st)).length = 1 + il + nl) := Lib.hid (by simp [hil', hsl]; omega)
  have HLN : Hid ((Circ.valsOf gs st ins).length = 1 + il + nl + gs.length) := Lib.hid (by rw [Circ.valsOf_len, hil', hsl])
  have i4 : il ≤ 4 := by omega
  clear hg hs hin hok h1
  rw [hsl, hil']
  clear hsl hil'
  obtain ⟨i0, hi0, hz0, hz1, hz2⟩ := info_parts Try.infoB
  have HI0 := Lib.hid hi0
  have HZ0 := Lib.hid hz0
  have HZ1 := Lib.hid hz1
  have HZ2 := Lib.hid hz2
  clear hi0 hz0 hz1 hz2
  have hbw : Below w.heap.size w (w.alloc (.cells #[.int .i64 il, .slice nA nl nc, .slice gA gs.length gc, .slice oA ol oc] 26)) := (Below.refl _ _).alloc (Nat.le_refl _) _
  have r0 : Row (w.alloc (.cells #[.int .i64 il, .slice nA nl nc, .slice gA gs.length gc, .slice oA ol oc] 26)) w.heap.size 26 #[.int .i64 il, .slice nA nl nc, .slice gA gs.length gc, .slice oA ol oc] := heap_alloc_new w _
  have HL0 := Lib.hid hbw
  have HR0 := Lib.hid r0
  have hsz0 : (w.alloc (.cells #[.int .i64 il, .slice nA nl nc, .slice gA gs.length gc, .slice oA ol oc] 26)).heap.size = w.heap.size + 1 := by simp
  clear hbw r0
  generalize hn : gs.length = n at *
  have HN := Lib.hid hn
  clear hn
  have HO0 : Hid (((w.alloc (.cells #[.int .i64 il, .slice nA nl nc, .slice gA n gc, .slice oA ol oc] 26)).alloc (.cells #[.bool false] 4)).ownsRow (w.heap.size + 1) 4 1 (.slice (some ⟨w.heap.size + 1, 0, none⟩) 1 1) 1 [.bool false]) := Lib.hid (by
    have h := World.ownsRow_lit (base := w.heap.size + 1) (e := 4) (size := 1) (w.alloc (.cells #[.int .i64 il, .slice nA nl nc, .slice gA n gc, .slice oA ol oc] 26)) #[.bool false] 1 (by omega) (by simp [maxLen]) (by simp)
    rw [hsz0] at h
    exact h)
  have HL1 := Lib.hid (HL0.out.alloc HL0.out.size (.cells #[.bool false] 4))
  have HR1 : Hid (Row ((w.alloc (.cells #[.int .i64 il, .slice nA nl nc, .slice gA n gc, .slice oA ol oc] 26)).alloc (.cells #[.bool false] 4)) w.heap.size 26 #[.int .i64 il, .slice nA nl nc, .slice gA n gc, .slice oA ol oc]) := Lib.hid ((Below.heap_alloc _ _ _ (by omega)).trans HR0.out)
  have hsz1 : ((w.alloc (.cells #[.int .i64 il, .slice nA nl nc, .slice gA n gc, .slice oA ol oc] 26)).alloc (.cells #[.bool false] 4)).heap.size = w.heap.size + 1 + 1 := by simp
  have HSZ1 := Lib.hid hsz1
  clear hsz1 hsz0 HL0 HR0
  go_enter Try.func101, Try.ntmps101
  go_wp2_with (at_builtin; refine wpList_append_src _ rfl (.tmp 9) (.tmp 10) 33 rfl (w.heap.size + 1) 4 i0 _ 1 1 Try.underlying33 HI0.out HZ0.out HZ1.out HZ2.out rfl (by omega) (w.heap.size + 1) 1 1 [.bool false] rfl HO0.out iA il ic (bvs ins) rfl (by rw [bvs_len, HIL.out]; omega) (bools_src (HI.out.below HL1.out)) (bvs_one ins) (by simp [maxLen]; omega) (by omega) (by simp) _ rfl ?_)
  intro g1 cap1 w1 hown1 hgr1 hat1
  have HR2 := Lib.hid (HR1.out.grown hgr1 (by intro h; injection h; omega))
  have HL2 := Lib.hid (HL1.out.grown hgr1 (by rw [HSZ1.out]; omega) (fun j hj => by injection hj; omega))
  have HO2 : Hid (w1.ownsRow (w.heap.size + 1) 4 1 (.slice (some ⟨g1, 0, none⟩) (1 + il) cap1) (1 + il) (bvs (false :: ins))) := Lib.hid hown1
  clear hown1 hgr1 hat1 HR1 HL1 HO0
  have hbs : w.heap.size + 1 ≤ w1.heap.size := HR2.out.lt
  go_wp2_with (at_builtin; refine wpList_append_src _ rfl (.tmp 12) (.tmp 13) 33 rfl (w.heap.size + 1) 4 i0 _ 1 1 Try.underlying33 HI0.out HZ0.out HZ1.out HZ2.out rfl (by omega) g1 cap1 (1 + il) (bvs (false :: ins)) rfl HO2.out sA nl sc (bvs st) rfl (by rw [bvs_len, HSL.out]; omega) (bools_src (HS.out.below HL2.out)) (bvs_one st) (by simp [maxLen]; omega) (by omega) hbs _ rfl ?_)
  intro g2 cap2 w2 hown2 hgr2 hat2
  have HR3 := Lib.hid (HR2.out.grown hgr2 (by intro h; injection h; have := (HO2.out.lt g1 rfl).1; omega))
  have HL3 := Lib.hid (HL2.out.grown hgr2 (by omega) (fun j hj => by injection hj; have := (HO2.out.lt g1 rfl).1; omega))
  have HO3 : Hid (w2.ownsRow (w.heap.size + 1) 4 1 (.slice (some ⟨g2, 0, none⟩) (1 + il + nl) cap2) (1 + il + nl) (bvs (false :: (ins ++ st)))) := Lib.hid (by have h := hown2; rwa [← bvs_append] at h)
  clear hown2 hgr2 hat2 HR2 HL2 HO2 hbs w1
  obtain ⟨f, hf⟩ : ∃ f : Nat, 1 + il + nl = f := ⟨_, rfl⟩
  have HFE := Lib.hid hf
  rw [hf] at HV0 HO3 HLN ⊢
  have hf8 : f ≤ 8 := by omega
  clear hf
  go_wp2
  go_loopw [7, 8] (fun v iv wr => ∃ (k g cap : Nat), k ≤ n ∧ iv = .int .i64 k ∧ v = .slice (some ⟨g, 0, none⟩) (f + k) cap ∧ Hid (wr.ownsRow (w.heap.size + 1) 4 1 (.slice (some ⟨g, 0, none⟩) (f + k) cap) (f + k) (bvs (Circ.vals (gs.take k) (false :: (ins ++ st))))) ∧ Hid (Row wr w.heap.size 26 #[.int .i64 il, .slice nA nl nc, .slice gA n gc, .slice oA ol oc]) ∧ Below w.heap.size w wr) (fun _ iv _ => n - (intOf iv).toNat)
  case atStart => exact ⟨0, g2, cap2, Nat.zero_le _, rfl, rfl, Lib.hid (by simpa [Circ.vals] using HO3.out), HR3, HL3.out⟩
  case round =>
    clear HO3 HR3 HL3
    obtain ⟨k, g, cap, hk, rfl, rfl, HOwn, HRow, hbr⟩ := hrel
    have q2 := HRow.out.cell 2
    simp at q2
    by_cases hlt : k < n
    · obtain ⟨b, off, rfl, hbl, hcA, hcB⟩ := HX.out k (by rw [HN.out]; exact hlt)
      rw [← hbr.cell (by exact hbl)] at hcA hcB
      obtain ⟨oA1, oB1⟩ := Circ.gatesOk_get HOK.out (k := k) (by rw [HN.out]; exact hlt)
      obtain ⟨oA2, oA3⟩ := Circ.litOk_inv oA1
      obtain ⟨oB2, oB3⟩ := Circ.litOk_inv oB1
      clear oA1 oB1
      have HSN := Lib.hid (Circ.vals_snoc gs k (false :: (ins ++ st)) (by rw [HN.out]; exact hlt))
      have HLL : Hid ((Circ.vals (gs.take k) (false :: (ins ++ st))).length = f + k) := Lib.hid (by rw [Circ.vals_take_len _ _ _ (by rw [HN.out]; exact hk), HV0.out])
      generalize (gs.getD k (0, 0)).1 = va at *
      generalize (gs.getD k (0, 0)).2 = vb at *
      obtain ⟨qa, rfl⟩ := Int.eq_ofNat_of_zero_le oA2
      obtain ⟨qb, rfl⟩ := Int.eq_ofNat_of_zero_le oB2
      have hfe := HFE.out
      have hqa : qa < 2 * (f + k) := by omega
      have hqb : qb < 2 * (f + k) := by omega
      clear hfe oA2 oA3 oB2 oB3
      generalize Circ.vals (gs.take k) (false :: (ins ++ st)) = L at *
      have HBL := Lib.hid (own_bools HOwn.out HLL.out)
      have hgb : w.heap.size + 1 ≤ g := (HOwn.out.lt g rfl).1
      have hrs : w.heap.size < wr.heap.size := HRow.out.lt
      cases ha : Circ.litV L (qa : Int)
      · have HA := Lib.hid ha
        clear ha
        go_wp2_with fail
        refine (l2Lit_any _ _ cap qa L _ _ HBL.out HLL.out (by omega) hqa).mono ?_
        rintro e w' ⟨rfl, rfl⟩
        rw [HA.out]
        have HE : Hid (Circ.vals (gs.take (k + 1)) (false :: (ins ++ st)) = L ++ [false]) := Lib.hid (by rw [HSN.out, HA.out]; rfl)
        go_wp2_with (at_builtin; refine wpList_append_kept _ rfl (.tmp 22) (.tmp 41) 33 rfl (w.heap.size + 1) 4 i0 _ 1 1 Try.underlying33 HI0.out HZ0.out HZ1.out HZ2.out rfl (by omega) (.slice (some ⟨g, 0, none⟩) (f + k) cap) (f + k) (bvs L) rfl (HOwn.out.alloc _) ⟨wr.heap.size, 0, none⟩ 1 1 [.bool false] rfl rfl (World.news_of_block (cs := #[.bool false]) (t := 4) (fr := (0, 0)) (heap_alloc_new wr _)) (by simp [Value.oneCell']) (by omega) (by simp [maxLen]; omega) (by omega) (by simp; omega) _ rfl ?_)
        intro g' cap' w5 hown5 hgr5 hat5 hlt5 hkept5
        have HR5 := Lib.hid ((HRow.out.alloc _).grown hgr5 (own_low HOwn.out (by omega)))
        have HL5 := Lib.hid ((hbr.alloc hbr.size _).grown hgr5 (by simp; omega) (fun j hj => by simp [Value.ownBlock] at hj; omega))
        have HO5 : Hid (w5.ownsRow (w.heap.size + 1) 4 1 (.slice (some ⟨g', 0, none⟩) (f + k + 1) cap') (f + k + 1) (bvs (Circ.vals (gs.take (k + 1)) (false :: (ins ++ st))))) := Lib.hid (by rw [HE.out, bvs_append]; exact hown5)
        clear hown5 hgr5 hat5 hlt5 hkept5 HOwn HRow hbr
        go_wp2
        go_roundw
        case rel => exact ⟨k + 1, g', cap', by omega, by go_num, rfl, HO5, HR5, HL5.out⟩
        case measure => simp [intOf]; omega
      · have HA := Lib.hid ha
        clear ha
        cases hb : Circ.litV L (qb : Int)
        · have HBv := Lib.hid hb
          clear hb
          go_wp2_with fail
          refine (l2Lit_any _ _ cap qa L _ _ HBL.out HLL.out (by omega) hqa).mono ?_
          rintro e w' ⟨rfl, rfl⟩
          rw [HA.out]
          go_wp2_with fail
          refine (l2Lit_any _ _ cap qb L _ _ HBL.out HLL.out (by omega) hqb).mono ?_
          rintro e w' ⟨rfl, rfl⟩
          rw [HBv.out]
          have HE : Hid (Circ.vals (gs.take (k + 1)) (false :: (ins ++ st)) = L ++ [false]) := Lib.hid (by rw [HSN.out, HA.out, HBv.out]; rfl)
          go_wp2_with (at_builtin; refine wpList_append_kept _ rfl (.tmp 22) (.tmp 41) 33 rfl (w.heap.size + 1) 4 i0 _ 1 1 Try.underlying33 HI0.out HZ0.out HZ1.out HZ2.out rfl (by omega) (.slice (some ⟨g, 0, none⟩) (f + k) cap) (f + k) (bvs L) rfl (HOwn.out.alloc _) ⟨wr.heap.size, 0, none⟩ 1 1 [.bool false] rfl rfl (World.news_of_block (cs := #[.bool false]) (t := 4) (fr := (0, 0)) (heap_alloc_new wr _)) (by simp [Value.oneCell']) (by omega) (by simp [maxLen]; omega) (by omega) (by simp; omega) _ rfl ?_)
          intro g' cap' w5 hown5 hgr5 hat5 hlt5 hkept5
          have HR5 := Lib.hid ((HRow.out.alloc _).grown hgr5 (own_low HOwn.out (by omega)))
          have HL5 := Lib.hid ((hbr.alloc hbr.size _).grown hgr5 (by simp; omega) (fun j hj => by simp [Value.ownBlock] at hj; omega))
          have HO5 : Hid (w5.ownsRow (w.heap.size + 1) 4 1 (.slice (some ⟨g', 0, none⟩) (f + k + 1) cap') (f + k + 1) (bvs (Circ.vals (gs.take (k + 1)) (false :: (ins ++ st))))) := Lib.hid (by rw [HE.out, bvs_append]; exact hown5)
          clear hown5 hgr5 hat5 hlt5 hkept5 HOwn HRow hbr
          go_wp2
          go_roundw
          case rel => exact ⟨k + 1, g', cap', by omega, by go_num, rfl, HO5, HR5, HL5.out⟩
          case measure => simp [intOf]; omega
        · have HBv := Lib.hid hb
          clear hb
          go_wp2_with fail
          refine (l2Lit_any _ _ cap qa L _ _ HBL.out HLL.out (by omega) hqa).mono ?_
          rintro e w' ⟨rfl, rfl⟩
          rw [HA.out]
          go_wp2_with fail
          refine (l2Lit_any _ _ cap qb L _ _ HBL.out HLL.out (by omega) hqb).mono ?_
          rintro e w' ⟨rfl, rfl⟩
          rw [HBv.out]
          have HE : Hid (Circ.vals (gs.take (k + 1)) (false :: (ins ++ st)) = L ++ [true]) := Lib.hid (by rw [HSN.out, HA.out, HBv.out]; rfl)
          go_wp2_with (at_builtin; refine wpList_append_kept _ rfl (.tmp 22) (.tmp 41) 33 rfl (w.heap.size + 1) 4 i0 _ 1 1 Try.underlying33 HI0.out HZ0.out HZ1.out HZ2.out rfl (by omega) (.slice (some ⟨g, 0, none⟩) (f + k) cap) (f + k) (bvs L) rfl (HOwn.out.alloc _) ⟨wr.heap.size, 0, none⟩ 1 1 [.bool true] rfl rfl (World.news_of_block (cs := #[.bool true]) (t := 4) (fr := (0, 0)) (heap_alloc_new wr _)) (by simp [Value.oneCell']) (by omega) (by simp [maxLen]; omega) (by omega) (by simp; omega) _ rfl ?_)
          intro g' cap' w5 hown5 hgr5 hat5 hlt5 hkept5
          have HR5 := Lib.hid ((HRow.out.alloc _).grown hgr5 (own_low HOwn.out (by omega)))
          have HL5 := Lib.hid ((hbr.alloc hbr.size _).grown hgr5 (by simp; omega) (fun j hj => by simp [Value.ownBlock] at hj; omega))
          have HO5 : Hid (w5.ownsRow (w.heap.size + 1) 4 1 (.slice (some ⟨g', 0, none⟩) (f + k + 1) cap') (f + k + 1) (bvs (Circ.vals (gs.take (k + 1)) (false :: (ins ++ st))))) := Lib.hid (by rw [HE.out, bvs_append]; exact hown5)
          clear hown5 hgr5 hat5 hlt5 hkept5 HOwn HRow hbr
          go_wp2
          go_roundw
          case rel => exact ⟨k + 1, g', cap', by omega, by go_num, rfl, HO5, HR5, HL5.out⟩
          case measure => simp [intOf]; omega
    · obtain rfl : k = n := by omega
      have HF : Hid (Circ.vals (gs.take k) (false :: (ins ++ st)) = Circ.valsOf gs st ins) := Lib.hid (by rw [List.take_of_length_le (by rw [HN.out]; omega), HOUT.out])
      rw [HF.out] at HOwn
      go_wp2
      go_ret
      exact ⟨g, cap, by rw [HLN.out]; rfl, Nat.le_of_lt (HOwn.out.lt g rfl).1, own_bools HOwn.out HLN.out, hbr⟩
end Go.Proofs.Ythpiddpkcmecfaa
