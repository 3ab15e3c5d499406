/- The contract of the model's Depth. -/
import Derived.Test.YtkpcefgchmcjnaaD2
import Derived.Test.YtkpcefgchmcjnaaD3
import Derived.Test.YtkpcefgchmcjnaaS
namespace Go.Proofs.Ytkpcefgchmcjnaa
open Go.RowKit Go.Deep

theorem ivs_one (xs : List Int) : ∀ u ∈ ivs xs, u.oneCell' = true := by
  intro u hu
  simp only [ivs, List.mem_map] at hu
  obtain ⟨n, _, rfl⟩ := hu
  rfl
theorem ints_src {w : World} {B : Nat} {A : Option Addr} {xs : List Int} (h : IntsAt w B A xs) : ∀ j u, (ivs xs)[j]? = some u → ∃ ad, A = some ad ∧ w.cell? (ad.add j) = some u := by
  intro j u hu
  have hj : j < xs.length := by have := (List.getElem?_eq_some_iff.1 hu).1; rwa [ivs_len] at this
  obtain ⟨b, off, e, _, hc⟩ := h j hj
  rw [ivs_get hj] at hu
  injection hu with hu
  subst hu
  exact ⟨_, e, by rw [← hc]; unfold Addr.add; split <;> simp_all⟩

set_option maxHeartbeats 800000 in
theorem sdepth_any (i : Int) (nA gA oA : Option Addr) (nc gc oc : Nat) (ns : List Int) (gs : List (Int × Int)) (os : List Int) (w : World) (hc : CircAt w w.heap.size nA gA oA ns gs os) :
    Calls Try.prog 18 #[.agg #[.int .i64 i, .slice nA ns.length nc, .slice gA gs.length gc, .slice oA os.length oc]] w fun e w' => e = .returned (.int .i64 (Circ.depthZ i ns gs os)) ∧ Below w.heap.size w w' := by
  have hbw : Below w.heap.size w (w.alloc (.cells #[.int .i64 i, .slice nA ns.length nc, .slice gA gs.length gc, .slice oA os.length oc] 26)) := (Below.refl _ _).alloc (Nat.le_refl _) _
  have r0 : Row (w.alloc (.cells #[.int .i64 i, .slice nA ns.length nc, .slice gA gs.length gc, .slice oA os.length oc] 26)) w.heap.size 26 #[.int .i64 i, .slice nA ns.length nc, .slice gA gs.length gc, .slice oA os.length oc] := heap_alloc_new w _
  have HC := Lib.hid ((hc.below hbw).mono hbw.size)
  have HL0 := Lib.hid hbw
  have HR0 := Lib.hid r0
  clear hc hbw r0
  obtain ⟨i0, hi0, hz0, hz1, hz2⟩ := info_parts Try.info3
  have HI0 := Lib.hid hi0
  have HZ0 := Lib.hid hz0
  have HZ1 := Lib.hid hz1
  have HZ2 := Lib.hid hz2
  clear hi0 hz0 hz1 hz2
  go_enter Try.func18, Try.ntmps18
  go_wp2_with fail
  refine (svalid_any i nA gA oA nc gc oc ns gs os _ HC.out).mono ?_
  rintro e w1 ⟨rfl, hb1⟩
  have HR1 := Lib.hid (HR0.out.below hb1 HR0.out.lt)
  have HC1 := Lib.hid ((HC.out.below hb1).mono hb1.size)
  have HL1 := Lib.hid (HL0.out.trans (hb1.mono HL0.out.size))
  clear hb1 HR0 HL0 HC
  cases hv : Circ.validB i ns gs os
  · have HV := Lib.hid (Circ.depth_f hv)
    clear hv
    go_wp2
    go_ret
    exact ⟨ret_int HV.out.symm, HL1.out⟩
  · obtain ⟨h0, h1, h2, h3, h4⟩ := Circ.valid_within hv
    obtain ⟨f, hf⟩ : ∃ f : Nat, 1 + i + (ns.length : Int) = f := ⟨(1 + i + (ns.length : Int)).toNat, by omega⟩
    have hd := Circ.depth_t hv
    have hg := Circ.valid_gates hv
    have hnx := Circ.valid_next hv
    have hou := Circ.valid_outs hv
    rw [hf] at hd hg hnx hou
    rw [Int.toNat_natCast] at hd
    have HD := Lib.hid hd
    have hll := Circ.levels_len gs f
    have HN := Lib.hid (show ∀ k, k < ns.length → 0 ≤ ns.getD k 0 ∧ ns.getD k 0 < 2 * ((Circ.levels gs f).length : Int) from fun k hk => by have := Circ.litsOk_get hnx hk; rw [hll]; omega)
    have HO := Lib.hid (show ∀ k, k < os.length → 0 ≤ os.getD k 0 ∧ os.getD k 0 < 2 * ((Circ.levels gs f).length : Int) from fun k hk => by have := Circ.litsOk_get hou hk; rw [hll]; omega)
    have HLL := Lib.hid hll
    have HG := Lib.hid hg
    have HF := Lib.hid hf
    have hf8 : f ≤ 8 := by omega
    clear hv hd hg hnx hou hll hf
    have q0 := HR1.out.cell 0
    have q1 := HR1.out.cell 1
    have q2 := HR1.out.cell 2
    have q3 := HR1.out.cell 3
    simp at q0 q1 q2 q3
    go_wp2_with fail
    refine (l1Levels_any i nA gA oA ns.length nc gc os.length oc gs f _ HC1.out.gates h3 h0 h1 h2 HF.out HG.out).mono ?_
    rintro e w2 ⟨g, lcap, rfl, hgl, hb2, hi2⟩
    have HR2 := Lib.hid (HR1.out.below hb2 HR1.out.lt)
    have HC2 := Lib.hid ((HC1.out.below hb2).mono hb2.size)
    have HL2 := Lib.hid (HL1.out.trans (hb2.mono HL1.out.size))
    have HI2 := Lib.hid hi2
    clear hb2 hi2 HR1 HC1 HL1 q0 q1 q2 q3 hgl
    have q1 := HR2.out.cell 1
    have q3 := HR2.out.cell 3
    simp at q1 q3
    have hz2 : w.heap.size < w2.heap.size := HR2.out.lt
    have HW0 := Lib.hid (World.ownsRow_lit (base := w2.heap.size) (e := 3) (size := 1) w2 #[] 0 (Nat.le_refl _) (by simp [maxLen]) (by simp))
    go_wp2
    have ne1 : some w.heap.size ≠ some w2.heap.size := by intro h; injection h; omega
    go_region_held3 (fun w' => w'.cell? ⟨w.heap.size, 1, none⟩ = some (.slice nA ns.length nc) ∧ w'.cell? ⟨w.heap.size, 3, none⟩ = some (.slice oA os.length oc))
      (first | go_keep | (exact ⟨hgr1.cell (by simp [*]) ne1, hgr1.cell (by simp [*]) ne1⟩) | (exact ⟨hgr2.cell (by simp [*]) ne2, hgr2.cell (by simp [*]) ne2⟩))
      (first
        | (refine step_append_src _ (by rfl) (.tmp 12) (.tmp 14) 23 (by rfl) w2.heap.size 3 i0 _ 1 8 Try.underlying23 HI0.out HZ0.out HZ1.out HZ2.out rfl (by omega) w2.heap.size 0 0 [] (by rfl) (HW0.out.drew) oA os.length oc (ivs os) (by rfl) (by simp [ivs]) ?_ (ivs_one os) (by simp [maxLen]; omega) (by omega) (by simp) (w2.heap.size + 1) (by simp) ?_; (exact ints_src ((HC2.out.outs.below ((Below.refl _ _).alloc (Nat.le_refl _) _).drew))); intro g1 cap1 w6 hown1 hgr1 hat1; have ne2 : some w.heap.size ≠ some g1 := (by (intro h; injection h; omega)); have hbl1 : Below w2.heap.size w2 w6 := Below.grown (((Below.refl w2.heap.size w2).alloc (Nat.le_refl _) _).drew) hgr1 (by simp) (fun k hk => by injection hk; omega))
        | (refine step_append_src _ (by rfl) (.tmp 15) (.tmp 17) 23 (by rfl) w2.heap.size 3 i0 _ 1 8 Try.underlying23 HI0.out HZ0.out HZ1.out HZ2.out rfl (by omega) g1 cap1 (0 + os.length) ([] ++ ivs os) (by rfl) hown1 nA ns.length nc (ivs ns) (by rfl) (by simp [ivs]) ?_ (ivs_one ns) (by simp [maxLen]; omega) (by omega) hbl1.size w6.heap.size rfl ?_; (exact ints_src (HC2.out.next.below hbl1)); intro g2 cap2 w7 hown2 hgr2 hat2))
    have hbl2 : Below w2.heap.size w2 w7 := hbl1.grown hgr2 hbl1.size (fun k hk => by injection hk; omega)
    have hroots : IntsAt w7 w7.heap.size (some ⟨g2, 0, none⟩) (os ++ ns) := own_ints (n := os.length + ns.length) (base := w2.heap.size) (cap := cap2) (by simpa [ivs] using hown2) (by simp)
    have HRT := Lib.hid hroots
    have HLV := Lib.hid (HI2.out.below hbl2)
    have HB7 := Lib.hid (HL2.out.trans (hbl2.mono HL2.out.size))
    have hd2 : Circ.depthZ i ns gs os = Circ.hi (Circ.levels gs f) (os ++ ns) := by rw [HD.out, Circ.hi_append]; omega
    have HD2 := Lib.hid hd2
    have HOK := Lib.hid (show ∀ k, k < (os ++ ns).length → 0 ≤ (os ++ ns).getD k 0 ∧ (os ++ ns).getD k 0 < 2 * ((Circ.levels gs f).length : Int) from fun k hk => by
      by_cases h : k < os.length
      · rw [Circ.getD_app_lt _ _ _ _ h]; exact HO.out k h
      · have hk2 : k - os.length < ns.length := by simp at hk; omega
        have := HN.out (k - os.length) hk2
        rwa [show (os ++ ns).getD k 0 = ns.getD (k - os.length) 0 from by simp [List.getD_eq_getElem?_getD, List.getElem?_append_right (Nat.le_of_not_lt h)]])
    have HLN := Lib.hid (show (os ++ ns).length = os.length + ns.length by simp)
    clear hbl1 hbl2 hroots hown1 hown2 hgr1 hgr2 hat1 hat2 ne1 ne2 hd2 HD HN HO HI2 HC2 HR2 HL2 HW0 q1 q3
    generalize hxs : os ++ ns = xs at *
    clear hxs
    generalize hm : f + gs.length = m at *
    have hm30 : m ≤ 30 := by omega
    clear hm
    generalize hn : os.length + ns.length = n at *
    have hn6 : n ≤ 6 := by omega
    clear hn
    go_wp2
    go_loop [4, 6] (fun hv iv => ∃ (k : Nat) (h : Int), k ≤ n ∧ iv = .int .i64 k ∧ hv = .int .i64 h ∧ Hid (Circ.hi (Circ.levels gs f) (xs.take k) = h)) (fun _ iv => n - (intOf iv).toNat)
    case atStart => exact ⟨0, 0, Nat.zero_le _, rfl, rfl, Lib.hid (by simp [Circ.hi, Circ.hiFrom])⟩
    case round =>
      obtain ⟨k, h, hk, rfl, rfl, HR⟩ := hrel
      by_cases hlt : k < n
      · obtain ⟨b, off, hbo, _, hcell⟩ := HRT.out k (by rw [HLN.out]; exact hlt)
        injection hbo with hbo
        injection hbo with hb1 hb2
        subst hb1 hb2
        rw [Nat.zero_add] at hcell
        have HS := Lib.hid (Circ.hi_step (Circ.levels gs f) xs k (by rw [HLN.out]; exact hlt))
        obtain ⟨o1, o2⟩ := HOK.out k (by rw [HLN.out]; exact hlt)
        rw [HLL.out] at o2
        generalize xs.getD k 0 = v at *
        obtain ⟨q, hq⟩ : ∃ q : Nat, v / 2 = q := ⟨(v / 2).toNat, by omega⟩
        have hqm : q < m := by omega
        obtain ⟨b', off', hbo', _, hcell'⟩ := HLV.out q (by rw [HLL.out]; exact hqm)
        injection hbo' with hbo'
        injection hbo' with hb1' hb2'
        subst hb1' hb2'
        rw [Nat.zero_add] at hcell'
        have HQ2 := Lib.hid (show (v / 2).toNat = q by omega)
        generalize hg : (Circ.levels gs f).getD q 0 = lq at *
        have HG := Lib.hid hg
        clear hg
        go_wp2
        go_round
        case rel => exact ⟨k + 1, _, by omega, by go_num, rfl, Lib.hid (by rw [HS.out, HR.out, HQ2.out, HG.out]; split <;> omega)⟩
        case measure => simp [intOf]; omega
      · go_wp2
        go_ret
        exact ⟨ret_int (by rw [← HR.out, List.take_of_length_le (by rw [HLN.out]; omega), HD2.out]), HB7.out⟩
end Go.Proofs.Ytkpcefgchmcjnaa
