/- The walk of the law FnPlacementValid. -/
import Derived.Test.YtliaommpnaagiaaR11
import Derived.Test.YtliaommpnaagiaaWL
namespace Plc
theorem rev_take (q : List Nat) {j : Nat} (hj : j < q.length) : q.reverse.take (q.length - j) = q.reverse.take (q.length - (j + 1)) ++ [q.getD j 0] := by
  have h1 : q.length - (j + 1) < q.reverse.length := by rw [List.length_reverse]; omega
  rw [show q.length - j = q.length - (j + 1) + 1 by omega, List.take_succ_eq_append_getElem h1, List.getElem_reverse]
  congr 2
  rw [List.getD_eq_getElem?_getD, List.getElem?_eq_getElem hj]
  simp only [Option.getD_some]
  congr 1
  omega
end Plc
namespace Go.Proofs.Ytliaommpnaagiaa
open Go.RowKit Go.Deep Cut Plc
set_option maxRecDepth 100000

theorem ivalidP_vl (i : Int) (nA gA oA A : Option Addr) (nc gc oc pl pc : Nat) (ns : List Int) (gs : List (Int × Int)) (os : List Int) (q : List Nat) (v : Bool) (w : World) (hv : placeB i ns gs os (Opt.intL q) = v) (hc : CircAt w w.heap.size nA gA oA ns gs os) (hgc : gs.length ≤ gc) (hp : IntsAt w w.heap.size A (Opt.intL q)) (hpl : q.length = pl) (hpm : pl ≤ 1000) :
    Calls Try.prog 6 #[.agg #[.int .i64 i, .slice nA ns.length nc, .slice gA gs.length gc, .slice oA os.length oc], .slice A pl pc] w fun e w' => e = .returned (.bool v) ∧ Below w.heap.size w w' := by
  subst hv
  exact ivalidP_any i nA gA oA A nc gc oc pl pc ns gs os (Opt.intL q) w hc hgc hp (by rw [Opt.intL_len]; exact hpl) (by unfold maxLen; omega)
theorem wpList_joinT {ops : Array Oper} {rest : List Oper} {o : Oper} {a : Act} {Q : Exit → Act → World → Prop} (hgd : o.guard = none) (s x : Operand) (ho : o.op = .call { callee := .builtin .append, args := #[s, x], argTypes := #[23, 23] })
    (wr : World) (B g cap n m c : Nat) (xs ys : List Nat) (A : Option Addr) (hev : a.eval s = .slice (some ⟨g, 0, none⟩) n cap) (hn : xs.length = n) (h : TimesAt wr B xs g cap) (hnb : n ≤ 1000) (hx : a.eval x = .slice A m c) (hm : ys.length = m) (hmb : m ≤ 1000) (hL : IntsAt wr wr.heap.size A (Opt.intL ys)) (N : Nat) (hN : n + m = N)
    (cont : ∀ g' cap' w5, TimesAt w5 B (xs ++ ys) g' cap' → Below B wr w5 → (∀ b, b < wr.heap.size → b ≠ g → w5.heap[b]? = wr.heap[b]?) → (g' = g ∨ g' = wr.heap.size) → wpList Try.prog ops Q rest (a.put o.dst (.slice (some ⟨g', 0, none⟩) N cap')) w5) :
    wpList Try.prog ops Q (o :: rest) a wr := by
  subst hn hm hN
  obtain ⟨i0, hi0, hz0, hz1, hz2⟩ := info_split Try.info3
  obtain ⟨hB, hgl⟩ := h.gb
  refine wpList_append_src _ hgd s x 23 ho B 3 i0 _ 1 8 Try.underlying23 hi0 hz0 hz1 hz2 rfl (by omega) g cap xs.length (ivs (Opt.intL xs)) hev h A ys.length c (ivs (Opt.intL ys)) hx (by rw [ivs_len, Opt.intL_len]; omega) (ints_srcM hL) (ivs_oneM _) (by simp [maxLen]; omega) (by omega) (by omega) _ rfl ?_
  intro g' cap' w5 hown hgr hat
  refine cont g' cap' w5 ?_ ⟨hgr.os, hgr.tape, hgr.output, hgr.size, fun b hb => hgr.block b (by omega) (by intro e; injection e with e; omega)⟩ (fun b hb hne => hgr.block b hb (by intro e; injection e with e; omega)) hat
  unfold TimesAt
  have e : ivs (Opt.intL (xs ++ ys)) = ivs (Opt.intL xs) ++ ivs (Opt.intL ys) := by unfold ivs Opt.intL; rw [List.map_append, List.map_append]
  rw [List.length_append, e]
  exact hown
theorem valid_vals {i : Int} {ns : List Int} {gs : List (Int × Int)} {os : List Int} {q : List Nat} (h : placeB i ns gs os (Opt.intL q) = true) (hq : q ≠ []) :
    placeB i ns gs os (Opt.intL q.reverse) = true ∧ placeB i ns gs os (Opt.intL (q.set 0 25)) = false ∧ placeB i ns gs os (Opt.intL (q.set (q.length - 1) (q.getD 0 0))) = decide (q.length = 1) := by
  unfold placeB at h ⊢
  rw [Bool.and_eq_true] at h
  obtain ⟨hv, ho⟩ := h
  have hne : Opt.intL q ≠ [] := by
    intro e
    apply hq
    have := congrArg List.length e
    rw [Opt.intL_len] at this
    exact List.eq_nil_of_length_eq_zero this
  have e1 : Opt.intL q.reverse = (Opt.intL q).reverse := by unfold Opt.intL; rw [List.map_reverse]
  have e2 : ∀ k v, Opt.intL (q.set k v) = (Opt.intL q).set k (v : Int) := fun k v => by unfold Opt.intL; rw [List.map_set]
  rw [hv, e1, e2, e2, okP_rev ho, Bool.true_and, Bool.true_and, Bool.true_and]
  refine ⟨rfl, okP_out hne, ?_⟩
  have h3 := okP_twice ho hne
  rw [Opt.intL_len, Opt.intL_at] at h3
  exact h3

set_option maxHeartbeats 4000000 in
theorem fvalid_walk (A : Option Addr) (bl bc : Nat) (w : World) (hb : CodeAt w A bl) (hbl : bl ≤ bc) (hbc : bc ≤ maxLen) :
    Calls Try.prog 3 #[.slice A bl bc] w fun e w' => e = .returned (.bool true) ∧ Below w.heap.size w w' := by
  have HB := Lib.hid hb
  have HBC := Lib.hid hbc
  unfold maxLen at hbc
  clear hb
  by_cases hsz : 1048576 < bl
  · go_enter Try.func3, Try.ntmps3
    go_wp2
    go_ret
    exact ⟨rfl, Below.refl _ _⟩
  · go_enter Try.func3, Try.ntmps3
    go_wp2_with fail
    refine (drawValid_any A bl bc _ HB.out hbl HBC.out).mono ?_
    rintro e w1 ⟨i, nA, gA, oA, pA, nc, gc, oc, pc, ns, gs, os, xs, rfl, hC1, hP1, hn, hg, ho, hcap, hxl, hxc, hb1⟩
    have hbB : Below w1.heap.size w1 (w1.alloc (.cells #[.int .i64 i, .slice nA ns.length nc, .slice gA gs.length gc, .slice oA os.length oc] 26)) := (Below.refl _ _).alloc (Nat.le_refl _) _
    have HC2 := Lib.hid ((hC1.below hbB).mono hbB.size)
    have HP2 := Lib.hid ((hP1.below hbB).mono hbB.size)
    have HL2 := Lib.hid (hb1.trans (hbB.mono hb1.size))
    have HR2 := Lib.hid (Boxed.new w1 i nA gA oA ns.length nc gs.length gc os.length oc 26)
    have hlt2 : w1.heap.size < (w1.alloc (.cells #[.int .i64 i, .slice nA ns.length nc, .slice gA gs.length gc, .slice oA os.length oc] 26)).heap.size := by simp
    clear hC1 hP1 hb1 hbB HB HBC hbc
    go_upto_region 4 with fail
    generalize w1.alloc (.cells #[.int .i64 i, .slice nA ns.length nc, .slice gA gs.length gc, .slice oA os.length oc] 26) = w2 at *
    generalize w1.heap.size = ca at *
    obtain ⟨l, hl⟩ : ∃ l, xs.length = l := ⟨_, rfl⟩
    rw [hl] at hxl hxc ⊢
    have HXL := Lib.hid hl
    obtain ⟨V, hV⟩ : ∃ V, placeB i ns gs os xs = V := ⟨_, rfl⟩
    have HV := Lib.hid hV
    clear hl hV
    have q0 := HR2.out.c0
    have q1 := HR2.out.c1
    have q2 := HR2.out.c2
    have q3 := HR2.out.c3
    go_wp2_with fail
    refine (ivalidP_any i nA gA oA pA nc gc oc l pc ns gs os xs _ HC2.out hcap HP2.out HXL.out (by unfold maxLen; omega)).mono ?_
    rintro e w3 ⟨rfl, hb3⟩
    rw [HV.out]
    have HC3 := Lib.hid ((HC2.out.below hb3).mono hb3.size)
    have HP3 := Lib.hid ((HP2.out.below hb3).mono hb3.size)
    have HL3 := Lib.hid (HL2.out.trans (hb3.mono HL2.out.size))
    have HR3 := Lib.hid (HR2.out.below hb3 hlt2)
    have hlt3 : ca < w3.heap.size := by have := hb3.size; omega
    clear hb3 HC2 HP2 HL2 HR2 q0 q1 q2 q3 hlt2
    have q0 := HR3.out.c0
    have q1 := HR3.out.c1
    have q2 := HR3.out.c2
    have q3 := HR3.out.c3
    go_upto_region 5 with fail
    go_wp2_with fail
    refine (svalidP_any i nA gA oA pA nc gc oc l pc ns gs os xs _ HC3.out HP3.out HXL.out (by unfold maxLen; omega) hxc).mono ?_
    rintro e w4 ⟨rfl, hb4⟩
    rw [HV.out]
    have HC4 := Lib.hid ((HC3.out.below hb4).mono hb4.size)
    have HP4 := Lib.hid ((HP3.out.below hb4).mono hb4.size)
    have HL4 := Lib.hid (HL3.out.trans (hb4.mono HL3.out.size))
    have HR4 := Lib.hid (HR3.out.below hb4 hlt3)
    have hlt4 : ca < w4.heap.size := by have := hb4.size; omega
    clear hb4 HC3 HP3 HL3 HR3 q0 q1 q2 q3 hlt3
    cases V
    · go_wp2_with (first
        | (go_at_call 8; refine (alive_any _).mono ?_; rintro e w8 ⟨rfl, hb8⟩))
      go_ret
      exact ⟨rfl, HL4.out.trans (hb8.mono HL4.out.size)⟩
    · by_cases hl0 : l = 0
      · subst hl0
        go_wp2_with (first
          | (go_at_call 8; refine (alive_any _).mono ?_; rintro e w8 ⟨rfl, hb8⟩))
        go_ret
        exact ⟨rfl, HL4.out.trans (hb8.mono HL4.out.size)⟩
      · obtain ⟨q, hq⟩ : ∃ q, Opt.natL xs = q := ⟨_, rfl⟩
        have hxe := (placeB_inv HV.out).2.2
        rw [hq] at hxe
        have hql : q.length = l := by rw [← hq, Opt.natL_len]; exact HXL.out
        have hvals := valid_vals (i := i) (ns := ns) (gs := gs) (os := os) (q := q) (by rw [← hxe]; exact HV.out) (by intro e; rw [e] at hql; simp at hql; omega)
        rw [hql] at hvals
        have HV1 := Lib.hid hvals.1
        have HV2 := Lib.hid hvals.2.1
        have HV3 := Lib.hid hvals.2.2
        have HQL := Lib.hid hql
        rw [hxe] at HP4
        have HRT : Hid (∀ j, j < l → q.reverse.take (l - j) = q.reverse.take (l - (j + 1)) ++ [q.getD j 0]) := Lib.hid (fun j hj => by
          have h := rev_take q (j := j) (by rw [hql]; exact hj)
          rw [hql] at h
          exact h)
        have HTL : Hid (∀ j, j ≤ l → (q.reverse.take (l - j)).length = l - j) := Lib.hid (fun j hj => by rw [List.length_take, List.length_reverse, hql]; omega)
        have hlb : ((l : Int) == 0) = false := by rw [beq_eq_false_iff_ne]; omega
        clear hq hxe hql hvals HV
        go_upto_region 10 with fail
        have HT0 : Hid (TimesAt (w4.alloc (.cells #[] 3)) w4.heap.size (q.reverse.take (l - l)) w4.heap.size 0) := Lib.hid (by
          rw [Nat.sub_self, List.take_zero]
          exact TimesAt.mt w4 w4.heap.size (Nat.le_refl _))
        have hba : Below w4.heap.size w4 (w4.alloc (.cells #[] 3)) := (Below.refl _ _).alloc (Nat.le_refl _) _
        have HX5 := Lib.hid hba
        clear hba hlb
        generalize w4.alloc (.cells #[] 3) = w5 at *
        generalize hB4 : w4.heap.size = B at *
        have hw1 : IntKind.i64.wrap ((l : Int) - 1) = (l : Int) - 1 := IntWalk.i64_in _ (by omega)
        go_upto_region 11 with fail
        go_loopw [6, 7] (fun bv iv wr => ∃ (j g cap : Nat), j ≤ l ∧ iv = .int .i64 ((j : Int) - 1) ∧ bv = .slice (some ⟨g, 0, none⟩) (l - j) cap ∧ Hid (TimesAt wr B (q.reverse.take (l - j)) g cap) ∧ Hid (Below B w4 wr)) (fun _ iv _ => (intOf iv + 1).toNat)
        case atStart => exact ⟨l, _, _, Nat.le_refl _, rfl, by rw [Nat.sub_self], HT0, HX5⟩
        case round =>
          clear HT0 HX5
          obtain ⟨j, g, cap, hjl, rfl, rfl, HT, HX⟩ := hrel
          have hgb := HT.out.gb
          by_cases hj0 : 0 < j
          · obtain ⟨k, rfl⟩ : ∃ k, j = k + 1 := ⟨j - 1, by omega⟩
            rw [show (((k + 1 : Nat) : Int) - 1) = (k : Int) by omega]
            obtain ⟨b, off, rfl, hbl2, hc2⟩ := HP4.out k (by rw [Opt.intL_len, HQL.out]; omega)
            rw [Opt.intL_at] at hc2
            have hc2 := (HX.out.cell (p := ⟨b, off + k, none⟩) hbl2).trans hc2
            have HRK := Lib.hid (HRT.out k (by omega))
            have HTK := Lib.hid (HTL.out (k + 1) (by omega))
            have hk0 : (0 : Int) ≤ (k : Int) := Int.natCast_nonneg _
            have hk1 : (k : Int) < (l : Int) := by omega
            generalize q.getD k 0 = y at *
            go_wp2_with (at_builtin; refine wpList_pushT rfl (.tmp 42) (.tmp 47) rfl _ B g cap (l - (k + 1)) (q.reverse.take (l - (k + 1))) rfl HTK.out HT.out (by omega) y _ rfl rfl ?_)
            intro g' cap' w8 hT8 hb8 hk8 hg8
            rw [← HRK.out] at hT8
            have HT8 := Lib.hid hT8
            have HX8 := Lib.hid (HX.out.trans hb8)
            have hle : l - (k + 1) + 1 = l - k := by omega
            rw [hle]
            clear hT8 hb8 hk8 hg8 hc2 HRK HTK
            go_wp2
            go_roundw
            case rel => exact ⟨k, g', cap', by omega, by go_num, rfl, HT8, HX8⟩
            case measure => simp [intOf] <;> omega
          · obtain rfl : j = 0 := by omega
            rw [show (((0 : Nat) : Int) - 1) = -1 from rfl]
            rw [Nat.sub_zero] at HT ⊢
            have HTF : Hid (TimesAt wr B q.reverse g cap) := Lib.hid (by
              have h := HT.out
              rw [List.take_of_length_le (by rw [List.length_reverse, HQL.out]; exact Nat.le_refl _)] at h
              exact h)
            have hzB : B ≤ wr.heap.size := by have := HX.out.size; omega
            have hwB : w.heap.size ≤ B := by have := HL4.out.size; omega
            have HCr := Lib.hid ((HC4.out.below HX.out).mono hzB)
            have HPr := Lib.hid ((HP4.out.below HX.out).mono hzB)
            have HLr := Lib.hid (HL4.out.trans (HX.out.mono hwB))
            have HRr := Lib.hid (HR4.out.below HX.out (by omega))
            have hltr : ca < wr.heap.size := by omega
            clear HT HX HC4 HP4 HL4 HR4 HTL HRT
            have hlp : (0 : Int) < (l : Int) := by omega
            have hlq : 0 < l := by omega
            have hal : Below wr.heap.size wr (wr.alloc (.cells #[] 3)) := (Below.refl _ _).alloc (Nat.le_refl _) _
            have HMa := Lib.hid (TimesAt.mt wr wr.heap.size (Nat.le_refl _))
            have HPa := Lib.hid ((HPr.out.below hal).mono hal.size)
            go_upto_region 14 with fail
            go_wp2_with (at_builtin; refine wpList_joinT rfl (.tmp 49) (.tmp 50) rfl _ wr.heap.size wr.heap.size 0 0 l pc [] q pA rfl rfl HMa.out (by omega) rfl HQL.out (by omega) HPa.out l (by omega) ?_)
            intro g1 d1 w10 hT10 hb10 hk10 hg10
            have hT10' : TimesAt w10 wr.heap.size q g1 d1 := hT10
            obtain ⟨c10, f10⟩ := hT10'.row (k := 0) (by rw [HQL.out]; exact hlq)
            have HX10 := Lib.hid (hal.trans hb10)
            have HT11 : Hid (TimesAt (w10.setCell ⟨g1, 0, none⟩ (.int .i64 25)) wr.heap.size (q.set 0 25) g1 d1) := Lib.hid (hT10'.put 0 25)
            have HX11 : Hid (Below wr.heap.size wr (w10.setCell ⟨g1, 0, none⟩ (.int .i64 25))) := Lib.hid (HX10.out.setCell (p := ⟨g1, 0, none⟩) hT10'.gb.1 _)
            generalize hy0 : q.getD 0 0 = y0 at *
            clear hT10 hb10 hk10 hg10 hal HMa HPa HX10 hT10'
            go_upto_region 16 with fail
            clear c10 f10
            generalize w10.setCell ⟨g1, 0, none⟩ (.int .i64 25) = w11 at *
            have hal : Below w11.heap.size w11 (w11.alloc (.cells #[] 3)) := (Below.refl _ _).alloc (Nat.le_refl _) _
            have HMa := Lib.hid (TimesAt.mt w11 w11.heap.size (Nat.le_refl _))
            have hP11 := (HPr.out.below HX11.out).mono HX11.out.size
            have HPa := Lib.hid ((hP11.below hal).mono hal.size)
            obtain ⟨b, off, rfl, hbp, hcp⟩ := hP11 0 (by rw [Opt.intL_len, HQL.out]; exact hlq)
            rw [Opt.intL_at, hy0] at hcp
            go_wp2_with (at_builtin; refine wpList_joinT rfl (.tmp 54) (.tmp 55) rfl _ w11.heap.size w11.heap.size 0 0 l pc [] q (some ⟨b, off, none⟩) rfl rfl HMa.out (by omega) rfl HQL.out (by omega) HPa.out l (by omega) ?_)
            intro g2 d2 w12 hT12 hb12 hk12 hg12
            have hT12' : TimesAt w12 w11.heap.size q g2 d2 := hT12
            obtain ⟨c12, f12⟩ := hT12'.row (k := l - 1) (by rw [HQL.out]; omega)
            have hX12 := hal.trans hb12
            have hcp12 := (hX12.cell (p := ⟨b, off + 0, none⟩) hbp).trans hcp
            have HT13 : Hid (TimesAt (w12.setCell ⟨g2, l - 1, none⟩ (.int .i64 (y0 : Int))) w11.heap.size (q.set (l - 1) y0) g2 d2) := Lib.hid (hT12'.put (l - 1) y0)
            have HX13 : Hid (Below w11.heap.size w11 (w12.setCell ⟨g2, l - 1, none⟩ (.int .i64 (y0 : Int)))) := Lib.hid (hX12.setCell (p := ⟨g2, l - 1, none⟩) hT12'.gb.1 _)
            have hi0 : (0 : Int) ≤ (l : Int) - 1 := by omega
            have hi1 : (l : Int) - 1 < (l : Int) := by omega
            have hi2 : ((l : Int) - 1).toNat = l - 1 := by omega
            generalize q.getD (l - 1) 0 = y9 at *
            rw [Nat.add_zero] at hcp12
            clear hT12 hb12 hk12 hg12 hal HMa HPa hX12 hcp hP11
            go_upto_region 18 with fail
            generalize w12.setCell ⟨g2, l - 1, none⟩ (.int .i64 (y0 : Int)) = w13 at *
            have hX := HX11.out.trans (HX13.out.mono HX11.out.size)
            have HC13 := Lib.hid ((HCr.out.below hX).mono hX.size)
            have HI1 := Lib.hid ((HTF.out.keep (w' := wr) rfl).ints)
            have HI1' := Lib.hid ((HI1.out.below hX).mono hX.size)
            have HI2 := Lib.hid ((HT11.out.ints.below HX13.out).mono HX13.out.size)
            have HI3 := Lib.hid HT13.out.ints
            have HL13 := Lib.hid (HLr.out.trans (hX.mono HLr.out.size))
            have HR13 := Lib.hid (HRr.out.below hX hltr)
            have hz13 : ca < w13.heap.size := by have := hX.size; omega
            have HL1 : Hid (q.reverse.length = l) := Lib.hid (by rw [List.length_reverse]; exact HQL.out)
            have HL2 : Hid ((q.set 0 25).length = l) := Lib.hid (by rw [List.length_set]; exact HQL.out)
            have HL3 : Hid ((q.set (l - 1) y0).length = l) := Lib.hid (by rw [List.length_set]; exact HQL.out)
            clear hX HI1 HT13 HX13 HT11 HX11 HTF HCr HPr HRr HLr c12 f12 hcp12 hi0 hi1 hi2
            generalize q.reverse = r1 at *
            generalize q.set 0 25 = r2 at *
            generalize q.set (l - 1) y0 = r3 at *
            have q0 := HR13.out.c0
            have q1 := HR13.out.c1
            have q2 := HR13.out.c2
            have q3 := HR13.out.c3
            go_wp2_with fail
            refine (ivalidP_vl i nA gA oA (some ⟨g, 0, none⟩) nc gc oc l cap ns gs os r1 true w13 HV1.out HC13.out hcap HI1'.out HL1.out (by omega)).mono ?_
            rintro e w14 ⟨rfl, hb14⟩
            have HC14 := Lib.hid ((HC13.out.below hb14).mono hb14.size)
            have HI2' := Lib.hid ((HI2.out.below hb14).mono hb14.size)
            have HI3' := Lib.hid ((HI3.out.below hb14).mono hb14.size)
            have HR14 := Lib.hid (HR13.out.below hb14 hz13)
            have HL14 := Lib.hid (HL13.out.trans (hb14.mono HL13.out.size))
            have hz14 : ca < w14.heap.size := by have := hb14.size; omega
            clear hb14 q0 q1 q2 q3 HC13 HI2 HI3 HR13 HL13 HI1'
            have q0 := HR14.out.c0
            have q1 := HR14.out.c1
            have q2 := HR14.out.c2
            have q3 := HR14.out.c3
            go_wp2_with fail
            refine (ivalidP_vl i nA gA oA (some ⟨g1, 0, none⟩) nc gc oc l d1 ns gs os r2 false w14 HV2.out HC14.out hcap HI2'.out HL2.out (by omega)).mono ?_
            rintro e w15 ⟨rfl, hb15⟩
            have HC15 := Lib.hid ((HC14.out.below hb15).mono hb15.size)
            have HI3'' := Lib.hid ((HI3'.out.below hb15).mono hb15.size)
            have HR15 := Lib.hid (HR14.out.below hb15 hz14)
            have HL15 := Lib.hid (HL14.out.trans (hb15.mono HL14.out.size))
            clear hb15 q0 q1 q2 q3 HC14 HI2' HI3' HR14 HL14
            have q0 := HR15.out.c0
            have q1 := HR15.out.c1
            have q2 := HR15.out.c2
            have q3 := HR15.out.c3
            go_wp2_with fail
            refine (ivalidP_vl i nA gA oA (some ⟨g2, 0, none⟩) nc gc oc l d2 ns gs os r3 (decide (l = 1)) w15 HV3.out HC15.out hcap HI3''.out HL3.out (by omega)).mono ?_
            rintro e w16 ⟨rfl, hb16⟩
            have HL16 := Lib.hid (HL15.out.trans (hb16.mono HL15.out.size))
            clear hb16 q0 q1 q2 q3 HC15 HR15 HL15 HI3''
            by_cases hl1 : l = 1
            · subst hl1
              go_wp2
              go_ret
              exact ⟨rfl, HL16.out⟩
            · have hlb1 : ((l : Int) == 1) = false := by rw [beq_eq_false_iff_ne]; omega
              have hlb2 : decide (l = 1) = false := decide_eq_false hl1
              rw [hlb2]
              go_wp2
              go_ret
              exact ⟨rfl, HL16.out⟩
end Go.Proofs.Ytliaommpnaagiaa
