/- The contract of the model's MappedDepth. -/
import Derived.Test.YthcpgbfghededaaM7
import Derived.Test.YthcpgbfghededaaK
namespace Go.Proofs.Ythcpgbfghededaa
open Go.RowKit Go.Deep Cut

theorem AllAt.cutsM {w : World} {B g cap : Nat} {cs : List Cs} {HH : List (List Value)} (h : AllAt w B cs HH g cap) : CutsAt w w.heap.size (some ⟨g, 0, none⟩) cs := by
  have hg := h.gb
  obtain ⟨hs, h1, h2⟩ := h
  exact own_cuts h1 h2 (fun b hb => hb.2.1) hg.2
theorem memD {X : Type} {l : List X} {d : X} {j : Nat} (h : j < l.length) : l.getD j d ∈ l := by
  rw [List.getD_eq_getElem?_getD, List.getElem?_eq_getElem h]
  exact List.getElem_mem h
theorem cuts_gateK {f : Nat} {gs : List Opt.G} (hf : 0 < f) (hg : Opt.ordered f gs) (k : Nat) (hk : k < gs.length) : GateK f k ((cuts f gs).getD (f + k) []) := by
  have U := unis_gd hf hg k hk
  have G := cuts_gd hf hg (f + k) (by omega)
  have e : (cuts f gs).getD (f + k) [] = unis f gs k ++ [[f + k]] := cuts_gate f gs k hk hg
  have hp : 0 < (unis f gs k).length := List.length_pos_iff.2 U.ne
  refine ⟨?_, G.len, fun j hj => ?_, fun j hj l hl => ?_⟩
  · rw [e, List.length_append, List.length_singleton]; omega
  · exact G.fit _ (memD hj)
  · rw [e] at hj hl
    have hj' : j < (unis f gs k).length := by simp at hj; omega
    rw [Circ.getD_app_lt _ _ _ _ hj'] at hl
    exact U.lt _ (memD hj') l hl
theorem l5Cuts_v (i : Int) (nA gA oA : Option Addr) (nc gc oc nn : Nat) (ns : List Int) (gs : List (Int × Int)) (os : List Int) (w : World) (hv : Circ.validB i ns gs os = true) (hnn : Opt.fst i ns + gs.length = nn) (hc : CircAt w w.heap.size nA gA oA ns gs os) :
    Calls Try.prog 62 #[.agg #[.int .i64 i, .slice nA ns.length nc, .slice gA gs.length gc, .slice oA os.length oc]] w fun e w' => ∃ (g cap : Nat), e = .returned (.slice (some ⟨g, 0, none⟩) nn cap) ∧ CutsAt w' w'.heap.size (some ⟨g, 0, none⟩) (cuts (Opt.fst i ns) (Opt.natG gs)) ∧ Below w.heap.size w w' := by
  obtain ⟨e1, e2, e3⟩ := natC_ints hv
  refine (l5Cuts_any i nA gA oA nc gc oc ns.length gs.length os.length (Opt.fst i ns) (Opt.natC ns gs os) w (by rw [e1, e2, e3]; exact hc) (natC_fits hv)).mono ?_
  rintro e w' ⟨g, cap, HH, rfl, hA, hb⟩
  refine ⟨g, cap, ?_, hA.cutsM, hb⟩
  rw [show (Opt.natC ns gs os).gs.length = gs.length from Opt.natG_len gs, hnn]
theorem l5Best_v (i : Int) (nA gA oA AC : Option Addr) (nc gc oc nn cc : Nat) (ns : List Int) (gs : List (Int × Int)) (os : List Int) (w : World) (hv : Circ.validB i ns gs os = true) (hnn : Opt.fst i ns + gs.length = nn) (hc : CircAt w w.heap.size nA gA oA ns gs os) (hx : CutsAt w w.heap.size AC (cuts (Opt.fst i ns) (Opt.natG gs))) :
    Calls Try.prog 61 #[.agg #[.int .i64 i, .slice nA ns.length nc, .slice gA gs.length gc, .slice oA os.length oc], .slice AC nn cc] w fun e w' => ∃ (g1 c1 g2 c2 : Nat) (hs : List Value), e = .returned (.tuple #[.slice (some ⟨g1, 0, none⟩) nn c1, .slice (some ⟨g2, 0, none⟩) nn c2]) ∧ g1 ≠ g2 ∧ BestAt w' (w.heap.size + 1) (bests (Opt.fst i ns) (Opt.natG gs)) hs g1 c1 ∧ TimesAt w' (w.heap.size + 1) (times (Opt.fst i ns) (Opt.natG gs)) g2 c2 ∧ Below w.heap.size w w' := by
  obtain ⟨e1, e2, e3⟩ := natC_ints hv
  obtain ⟨h0, h1⟩ := Opt.natC_ok hv
  have hgl : (Opt.natG gs).length = gs.length := Opt.natG_len gs
  refine (l5Best_any i nA gA oA AC nc gc oc ns.length gs.length os.length (Opt.fst i ns) nn cc (Opt.natC ns gs os) (cuts (Opt.fst i ns) (Opt.natG gs)) w (by rw [e1, e2, e3]; exact hc) (natC_fits hv) hx (by rw [cuts_len, hgl, hnn]) hnn.symm (fun k hk => cuts_gateK h0 h1.ord k (by show k < (Opt.natG gs).length; rw [hgl]; exact hk))).mono ?_
  rintro e w' ⟨g1, c1, g2, c2, hs, rfl, hne, hB, hT, hb⟩
  rw [hnn]
  unfold bests times
  rw [hgl]
  exact ⟨g1, c1, g2, c2, hs, rfl, hne, hB, hT, hb⟩
/-- The mapped depth. -/
def mdepthZ (i : Int) (ns : List Int) (gs : List (Int × Int)) (os : List Int) : Int := if Circ.validB i ns gs os = true then Circ.hi (Opt.intL (times (Opt.fst i ns) (Opt.natG gs))) (os ++ ns) else -1
theorem times_len (f : Nat) (gs : List Opt.G) : (times f gs).length = f + gs.length := (mapTo_len _ _ _).2

theorem four_m {w w' : World} {cc : Nat} {a0 a1 a2 a3 : Value} (hb : Below w.heap.size w w')
    (h : w.cell? ⟨cc, 0, none⟩ = some a0 ∧ w.cell? ⟨cc, 1, none⟩ = some a1 ∧ w.cell? ⟨cc, 2, none⟩ = some a2 ∧ w.cell? ⟨cc, 3, none⟩ = some a3) :
    w'.cell? ⟨cc, 0, none⟩ = some a0 ∧ w'.cell? ⟨cc, 1, none⟩ = some a1 ∧ w'.cell? ⟨cc, 2, none⟩ = some a2 ∧ w'.cell? ⟨cc, 3, none⟩ = some a3 := by
  have k : ∀ (a : Addr) (u : Value), w.cell? a = some u → w'.cell? a = some u := fun a u h => (hb.cell (World.block_lt_of_cell? w a h)).trans h
  exact ⟨k _ _ h.1, k _ _ h.2.1, k _ _ h.2.2.1, k _ _ h.2.2.2⟩

theorem ivs_oneM (xs : List Int) : ∀ u ∈ ivs xs, u.oneCell' = true := by
  intro u hu
  simp only [ivs, List.mem_map] at hu
  obtain ⟨n, _, rfl⟩ := hu
  rfl
theorem ints_srcM {w : World} {B : Nat} {A : Option Addr} {xs : List Int} (h : IntsAt w B A xs) : ∀ j u, (ivs xs)[j]? = some u → ∃ ad, A = some ad ∧ w.cell? (ad.add j) = some u := by
  intro j u hu
  have hj : j < xs.length := by have := (List.getElem?_eq_some_iff.1 hu).1; rwa [ivs_len] at this
  obtain ⟨b, off, e, _, hc⟩ := h j hj
  rw [ivs_get hj] at hu
  injection hu with hu
  subst hu
  exact ⟨_, e, by rw [← hc]; unfold Addr.add; split <;> simp_all⟩

set_option maxHeartbeats 800000 in
theorem smapped_any (i : Int) (nA gA oA : Option Addr) (nc gc oc : Nat) (ns : List Int) (gs : List (Int × Int)) (os : List Int) (w : World) (hc : CircAt w w.heap.size nA gA oA ns gs os) :
    Calls Try.prog 22 #[.agg #[.int .i64 i, .slice nA ns.length nc, .slice gA gs.length gc, .slice oA os.length oc]] w fun e w' => e = .returned (.int .i64 (mdepthZ i ns gs os)) ∧ Below w.heap.size w w' := by
  have hbw : Below w.heap.size w (w.alloc (.cells #[.int .i64 i, .slice nA ns.length nc, .slice gA gs.length gc, .slice oA os.length oc] 26)) := (Below.refl _ _).alloc (Nat.le_refl _) _
  have r0 : Row (w.alloc (.cells #[.int .i64 i, .slice nA ns.length nc, .slice gA gs.length gc, .slice oA os.length oc] 26)) w.heap.size 26 #[.int .i64 i, .slice nA ns.length nc, .slice gA gs.length gc, .slice oA os.length oc] := heap_alloc_new w _
  have HC := Lib.hid ((hc.below hbw).mono hbw.size)
  have HL0 := Lib.hid hbw
  have HR0 := Lib.hid r0
  clear hc hbw r0
  obtain ⟨i0, hi0, hz0, hz1, hz2⟩ := info_parts Try.info3
  have HI0 := Lib.hid hi0
  have HZ0 := Lib.hid hz0
  have HZ1 := Lib.hid hz1
  have HZ2 := Lib.hid hz2
  clear hi0 hz0 hz1 hz2
  go_enter Try.func22, Try.ntmps22
  go_wp2_with fail
  refine (svalid_any i nA gA oA nc gc oc ns gs os _ HC.out).mono ?_
  rintro e w1 ⟨rfl, hb1⟩
  have HR1 := Lib.hid (HR0.out.below hb1 HR0.out.lt)
  have HC1 := Lib.hid ((HC.out.below hb1).mono hb1.size)
  have HL1 := Lib.hid (HL0.out.trans (hb1.mono HL0.out.size))
  clear hb1 HR0 HL0 HC
  cases hv : Circ.validB i ns gs os
  · have HV : Hid (mdepthZ i ns gs os = -1) := Lib.hid (by unfold mdepthZ; rw [hv]; rfl)
    clear hv
    go_wp2
    go_ret
    exact ⟨ret_int HV.out.symm, HL1.out⟩
  · obtain ⟨h0, h1, h2, h3, h4⟩ := Circ.valid_within hv
    obtain ⟨nn, hnn⟩ : ∃ nn, Opt.fst i ns + gs.length = nn := ⟨_, rfl⟩
    have hnn22 : nn ≤ 22 := by rw [← hnn]; unfold Opt.fst; omega
    have hfi : (Opt.fst i ns : Int) = 1 + i + (ns.length : Int) := by unfold Opt.fst; omega
    have hnx := Circ.valid_next hv
    have hou := Circ.valid_outs hv
    obtain ⟨T, hT⟩ : ∃ T, Opt.intL (times (Opt.fst i ns) (Opt.natG gs)) = T := ⟨_, rfl⟩
    have hTl : T.length = nn := by rw [← hT, Opt.intL_len, times_len, Opt.natG_len, hnn]
    have hTb : ∀ k, k < nn → 0 ≤ T.getD k 0 ∧ T.getD k 0 ≤ 1000 := fun k hk => by
      rw [← hT, Opt.intL_at]
      have := arr_le (Opt.fst i ns) (cuts (Opt.fst i ns) (Opt.natG gs)) (Opt.natG gs).length k
      rw [Opt.natG_len] at this
      have e : (times (Opt.fst i ns) (Opt.natG gs)).getD k 0 ≤ gs.length := by unfold times; rw [Opt.natG_len]; exact this
      omega
    have HTB := Lib.hid hTb
    have HTE := Lib.hid hT
    have HTL := Lib.hid hTl
    have hd : mdepthZ i ns gs os = Circ.hi T (os ++ ns) := by unfold mdepthZ; rw [hv, if_pos rfl, hT]
    have HD := Lib.hid hd
    have HN := Lib.hid (show ∀ k, k < ns.length → 0 ≤ ns.getD k 0 ∧ ns.getD k 0 < 2 * (nn : Int) from fun k hk => by have := Circ.litsOk_get hnx hk; omega)
    have HO := Lib.hid (show ∀ k, k < os.length → 0 ≤ os.getD k 0 ∧ os.getD k 0 < 2 * (nn : Int) from fun k hk => by have := Circ.litsOk_get hou hk; omega)
    have HV := Lib.hid hv
    have HNN := Lib.hid hnn
    clear hv hnx hou hfi hT hTl hd hTb hnn
    have q0 := HR1.out.cell 0
    have q1 := HR1.out.cell 1
    have q2 := HR1.out.cell 2
    have q3 := HR1.out.cell 3
    simp at q0 q1 q2 q3
    have tok0 : True := trivial
    have hzz := HR1.out.lt
    go_upto_region 3 with fail
    go_region_held3 (fun w' => w'.cell? ⟨w.heap.size, 0, none⟩ = some (.int .i64 i) ∧ w'.cell? ⟨w.heap.size, 1, none⟩ = some (.slice nA ns.length nc) ∧ w'.cell? ⟨w.heap.size, 2, none⟩ = some (.slice gA gs.length gc) ∧ w'.cell? ⟨w.heap.size, 3, none⟩ = some (.slice oA os.length oc))
      (first | go_keep | (exact four_m hu2 (by assumption)) | (exact four_m hu1 (by assumption)))
      (first
        | (revert tok0; intro tok0; go_at_call 62; refine (l5Cuts_v i nA gA oA nc gc oc nn ns gs os _ HV.out HNN.out ?_).mono ?_; (exact HC1.out.below (Below.refl _ w1).drew); rintro e u1 ⟨gq, cq, rfl, hxq, hu1⟩; have hv1 : Below w1.heap.size w1 u1 := (Below.refl _ w1).drew.trans hu1; have tokA : True := trivial; clear tok0)
        | (revert tokA; intro tokA; go_at_call 61; refine (l5Best_v i nA gA oA (some ⟨gq, 0, none⟩) nc gc oc nn cq ns gs os _ HV.out HNN.out ((HC1.out.below hv1).mono hv1.size) hxq).mono ?_; rintro e w2 ⟨gb, cb, g, lcap, hsb, rfl, hne, hBa, hTa, hu2⟩; clear tokA))
    have hb2 : Below w1.heap.size w1 w2 := hv1.trans (hu2.mono hv1.size)
    have hi2 := hTa.ints
    rw [HTE.out] at hi2
    have HR2 := Lib.hid (HR1.out.below hb2 HR1.out.lt)
    have HC2 := Lib.hid ((HC1.out.below hb2).mono hb2.size)
    have HL2 := Lib.hid (HL1.out.trans (hb2.mono HL1.out.size))
    have HI2 := Lib.hid hi2
    clear hb2 hi2 HR1 HC1 HL1 q0 q1 q2 q3 hBa hTa hu1 hu2 hv1 hxq
    have q1 := HR2.out.cell 1
    have q3 := HR2.out.cell 3
    simp at q1 q3
    have hz2 : w.heap.size < w2.heap.size := HR2.out.lt
    have HW0 := Lib.hid (World.ownsRow_lit (base := w2.heap.size) (e := 3) (size := 1) w2 #[] 0 (Nat.le_refl _) (by simp [maxLen]) (by simp))
    go_wp2
    have ne1 : some w.heap.size ≠ some w2.heap.size := by intro h; injection h; omega
    go_region_held3 (fun w' => w'.cell? ⟨w.heap.size, 1, none⟩ = some (.slice nA ns.length nc) ∧ w'.cell? ⟨w.heap.size, 3, none⟩ = some (.slice oA os.length oc))
      (first | go_keep | (exact ⟨hgr1.cell (by simp [*]) ne1, hgr1.cell (by simp [*]) ne1⟩) | (exact ⟨hgr2.cell (by simp [*]) ne2, hgr2.cell (by simp [*]) ne2⟩))
      (first
        | (refine step_append_src _ (by rfl) (.tmp 18) (.tmp 20) 23 (by rfl) w2.heap.size 3 i0 _ 1 8 Try.underlying23 HI0.out HZ0.out HZ1.out HZ2.out rfl (by omega) w2.heap.size 0 0 [] (by rfl) (HW0.out.drew) oA os.length oc (ivs os) (by rfl) (by simp [ivs]) ?_ (ivs_oneM os) (by simp [maxLen]; omega) (by omega) (by simp) (w2.heap.size + 1) (by simp) ?_; (exact ints_srcM ((HC2.out.outs.below ((Below.refl _ _).alloc (Nat.le_refl _) _).drew))); intro g1 cap1 w6 hown1 hgr1 hat1; have ne2 : some w.heap.size ≠ some g1 := (by (intro h; injection h; omega)); have hbl1 : Below w2.heap.size w2 w6 := Below.grown (((Below.refl w2.heap.size w2).alloc (Nat.le_refl _) _).drew) hgr1 (by simp) (fun k hk => by injection hk; omega))
        | (refine step_append_src _ (by rfl) (.tmp 21) (.tmp 23) 23 (by rfl) w2.heap.size 3 i0 _ 1 8 Try.underlying23 HI0.out HZ0.out HZ1.out HZ2.out rfl (by omega) g1 cap1 (0 + os.length) ([] ++ ivs os) (by rfl) hown1 nA ns.length nc (ivs ns) (by rfl) (by simp [ivs]) ?_ (ivs_oneM ns) (by simp [maxLen]; omega) (by omega) hbl1.size w6.heap.size rfl ?_; (exact ints_srcM (HC2.out.next.below hbl1)); intro g2 cap2 w7 hown2 hgr2 hat2))
    have hbl2 : Below w2.heap.size w2 w7 := hbl1.grown hgr2 hbl1.size (fun k hk => by injection hk; omega)
    have hroots : IntsAt w7 w7.heap.size (some ⟨g2, 0, none⟩) (os ++ ns) := own_ints (n := os.length + ns.length) (base := w2.heap.size) (cap := cap2) (by simpa [ivs] using hown2) (by simp)
    have HRT := Lib.hid hroots
    have HLV := Lib.hid (HI2.out.below hbl2)
    have HB7 := Lib.hid (HL2.out.trans (hbl2.mono HL2.out.size))
    have hd2 : mdepthZ i ns gs os = Circ.hi T (os ++ ns) := HD.out
    have HD2 := Lib.hid hd2
    have HOK := Lib.hid (show ∀ k, k < (os ++ ns).length → 0 ≤ (os ++ ns).getD k 0 ∧ (os ++ ns).getD k 0 < 2 * (nn : Int) from fun k hk => by
      by_cases h : k < os.length
      · rw [Circ.getD_app_lt _ _ _ _ h]; exact HO.out k h
      · have hk2 : k - os.length < ns.length := by simp at hk; omega
        have := HN.out (k - os.length) hk2
        rwa [show (os ++ ns).getD k 0 = ns.getD (k - os.length) 0 from by simp [List.getD_eq_getElem?_getD, List.getElem?_append_right (Nat.le_of_not_lt h)]])
    have HLN := Lib.hid (show (os ++ ns).length = os.length + ns.length by simp)
    clear hbl1 hbl2 hroots hown1 hown2 hgr1 hgr2 hat1 hat2 ne1 ne2 hd2 HD HN HO HI2 HC2 HR2 HL2 HW0 q1 q3
    generalize hxs : os ++ ns = xs at *
    clear hxs
    generalize hn : os.length + ns.length = n at *
    have hn6 : n ≤ 6 := by omega
    clear hn
    go_wp2
    go_loop [5, 7] (fun hv iv => ∃ (k : Nat) (h : Int), k ≤ n ∧ iv = .int .i64 k ∧ hv = .int .i64 h ∧ Hid (Circ.hi T (xs.take k) = h)) (fun _ iv => n - (intOf iv).toNat)
    case atStart => exact ⟨0, 0, Nat.zero_le _, rfl, rfl, Lib.hid (by simp [Circ.hi, Circ.hiFrom])⟩
    case round =>
      obtain ⟨k, h, hk, rfl, rfl, HR⟩ := hrel
      by_cases hlt : k < n
      · obtain ⟨b, off, hbo, _, hcell⟩ := HRT.out k (by rw [HLN.out]; exact hlt)
        injection hbo with hbo
        injection hbo with hb1 hb2
        subst hb1 hb2
        rw [Nat.zero_add] at hcell
        have HS := Lib.hid (Circ.hi_step T xs k (by rw [HLN.out]; exact hlt))
        obtain ⟨o1, o2⟩ := HOK.out k (by rw [HLN.out]; exact hlt)
        generalize xs.getD k 0 = v at *
        obtain ⟨q, hq⟩ : ∃ q : Nat, v / 2 = q := ⟨(v / 2).toNat, by omega⟩
        have hqm : q < nn := by omega
        obtain ⟨b', off', hbo', _, hcell'⟩ := HLV.out q (by rw [HTL.out]; exact hqm)
        injection hbo' with hbo'
        injection hbo' with hb1' hb2'
        subst hb1' hb2'
        rw [Nat.zero_add] at hcell'
        have HQ2 := Lib.hid (show (v / 2).toNat = q by omega)
        obtain ⟨b0q, b1q⟩ := HTB.out q hqm
        generalize hg : T.getD q 0 = lq at *
        have HG := Lib.hid hg
        clear hg
        go_wp2
        go_round
        case rel => exact ⟨k + 1, _, by omega, by go_num, rfl, Lib.hid (by rw [HS.out, HR.out, HQ2.out, HG.out])⟩
        case measure => simp [intOf]; omega
      · go_wp2
        go_ret
        exact ⟨ret_int (by rw [← HR.out, List.take_of_length_le (by rw [HLN.out]; omega), HD2.out]), HB7.out⟩
end Go.Proofs.Ythcpgbfghededaa
