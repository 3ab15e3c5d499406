/- The contracts of trueFromLeaves and lutTable. -/
import Derived.Test.YtliedgaefgomjaaGreatQD
import Derived.Test.YtliedgaefgomjaaGreatB1
import Derived.Test.YtliedgaefgomjaaGreatCL
import Derived.Test.YtliedgaefgomjaaGreatT3
import Derived.Deep.DeepCutAuto
import Derived.Test.YtliedgaefgomjaaGreatC4
import Derived.Test.YtliedgaefgomjaaGreatM5
import Derived.Test.YtliedgaefgomjaaGreatEL
namespace Go.Proofs.YtliedgaefgomjaaGreat
open Go.RowKit Go.Deep Cut

theorem contains_v (A : Option Addr) (m c B : Nat) (lv : List Nat) (y : Nat) (w : World) (h : IntsAt w B A (Opt.intL lv)) (hm : lv.length = m) (hb : m ≤ 1000) :
    Calls Tryz.prog 109 #[.slice A m c, .int .i64 y] w fun e w' => e = .returned (.bool (lv.contains y)) ∧ w' = w := by
  subst hm
  cases lv with
  | nil => exact contains_none A c y w
  | cons a r =>
    obtain ⟨b, off, rfl, _, _⟩ := h 0 (by rw [Opt.intL_len]; simp)
    have e : (((Opt.intL (a :: r)).take (a :: r).length).contains (y : Int)) = (a :: r).contains y := by
      rw [List.take_of_length_le (by rw [Opt.intL_len]; exact Nat.le_refl _), Bool.eq_iff_iff, List.contains_iff_mem, List.contains_iff_mem]
      unfold Opt.intL
      rw [List.mem_map]
      exact ⟨fun ⟨z, hz, e⟩ => by obtain rfl : z = y := by omega
                                  exact hz, fun hz => ⟨y, hz, rfl⟩⟩
    rw [← e]
    exact contains_any b off _ c (Opt.intL (a :: r)) y w (by rw [Opt.intL_len]; exact Nat.le_refl _) (by omega) (fun j hj => by
      obtain ⟨b', off', e', _, hc⟩ := h j hj
      injection e' with e'
      injection e' with e1 e2
      subst e1 e2
      exact hc)
theorem int_bit (x k : Nat) (hx : x < 9223372036854775808) : (bits .and .i64 ((x : Int) / 2 ^ k) 1 == 1) = x.testBit k := by
  have h : (x : Int) / 2 ^ k = ((x / 2 ^ k : Nat) : Int) := by simp
  rw [h, i64_odd _ (Nat.lt_of_le_of_lt (Nat.div_le_self _ _) hx), Nat.testBit_eq_decide_div_mod_eq]
  rcases Nat.mod_two_eq_zero_or_one (x / 2 ^ k) with e | e <;> rw [e] <;> rfl
/-- A word as the list of its bits. -/
theorem bits_all (m : Nat) (hm : m < 18446744073709551616) : Circ.Bits m ((List.range 64).map m.testBit) := by
  refine ⟨hm, fun j => ?_⟩
  by_cases h : j < 64
  · rw [range_getD _ _ h]
  · rw [getD_out _ _ (by simpa using h)]
    exact Nat.testBit_lt_two_pow (Nat.lt_of_lt_of_le hm (by
      have : 2 ^ 64 ≤ 2 ^ j := Nat.pow_le_pow_right (by omega) (by omega)
      omega))
theorem holds_bit (g m n : Nat) (w : World) (hc : w.cell? ⟨g, 0, none⟩ = some (.int .u64 m)) (hm : m < 18446744073709551616) (hn : n < 128) :
    Calls Tryz.prog 110 #[.slice (some ⟨g, 0, none⟩) 1 1, .int .i64 n] w fun e w' => e = .returned (.bool (m.testBit (n / 2) != (n % 2 == 1))) ∧ w = w' := by
  have h := holds_any g m n _ w hc (bits_all m hm) hn
  rw [litV_nat, range_getD _ _ (show n / 2 < 64 by omega)] at h
  exact h

set_option maxRecDepth 10000 in
set_option maxHeartbeats 1000000 in
theorem trueLeaves_any (i : Int) (nA gA oA A : Option Addr) (nl nc gl gc ol oc cap f v m x : Nat) (G : List Opt.G) (lv : List Nat) (w : World) (hg : GatesAt w w.heap.size gA (Opt.intG G)) (hlv : IntsAt w w.heap.size A (Opt.intL lv)) (hm : lv.length = m) (hm3 : m ≤ 3)
    (hl : ∀ l, l ∈ lv → l < v) (ho : Once lv) (hf : 1 + i + (nl : Int) = f) (h0 : 0 ≤ i) (h1 : i ≤ 4) (h2 : nl ≤ 3) (hgl : G.length = gl) (hg14 : gl ≤ 14) (hgc : gl ≤ gc) (hord : Opt.ordered f G) (hv : f ≤ v) (hv2 : v < f + gl) (hx : x < 8) :
    Calls Tryz.prog 103 #[.agg #[.int .i64 i, .slice nA nl nc, .slice gA gl gc, .slice oA ol oc], .int .i64 v, .slice A m cap, .int .i64 x] w fun e w' => e = .returned (.bool (coneV f G x lv v)) ∧ Below w.heap.size w w' := by
  have hf8 : f ≤ 8 := by omega
  have HG := Lib.hid hg
  have HLV := Lib.hid hlv
  have HM := Lib.hid hm
  have HL := Lib.hid hl
  have HO := Lib.hid ho
  have HF := Lib.hid hf
  have HGL := Lib.hid hgl
  have HOR := Lib.hid hord
  have HW0 : Hid (Below w.heap.size w (w.alloc (.cells #[.int .i64 i, .slice nA nl nc, .slice gA gl gc, .slice oA ol oc] 26))) := Lib.hid ((Below.refl _ _).alloc (Nat.le_refl _) _)
  have HB0 := Lib.hid (Boxed.new w i nA gA oA nl nc gl gc ol oc 26)
  have hsz0 : (w.alloc (.cells #[.int .i64 i, .slice nA nl nc, .slice gA gl gc, .slice oA ol oc] 26)).heap.size = w.heap.size + 1 := by simp
  have HZ0 := Lib.hid hsz0
  have HE0 := Lib.hid (setN_leaf x lv ho)
  have HLT := Lib.hid (setN_lt x lv (fun l h => by have := hl l h; omega))
  clear hg hlv hm hl ho hf hgl hord hsz0
  go_enter Tryz.func103, Tryz.ntmps103
  go_wp2_with fail
  generalize w.alloc (.cells #[.int .i64 i, .slice nA nl nc, .slice gA gl gc, .slice oA ol oc] 26) = w0 at *
  rw [show (v : Int) + 1 = ((v + 1 : Nat) : Int) by omega]
  refine (newBitSet_any (v + 1) _ (by omega) (by omega)).mono ?_
  rintro e w1 ⟨rfl, hr1, hb1⟩
  rw [HZ0.out] at hr1 hb1 ⊢
  have HR1 := Lib.hid hr1
  have HB1 := Lib.hid (HB0.out.below hb1 (by omega))
  have HL1 := Lib.hid (HW0.out.trans (hb1.mono (by omega)))
  clear hr1 hb1
  generalize hgg : w.heap.size + 1 = g at *
  have hgw : w.heap.size < g := by omega
  have HGG := Lib.hid hgg
  clear hgg
  go_wp2
  go_loopw [20] (fun kv wr => ∃ (k : Nat), k ≤ m ∧ kv = .int .i64 k ∧ Hid (Row wr g 121 #[.int .u64 (setN x lv k : Nat)]) ∧ Hid (Boxed wr w.heap.size i nA gA oA nl nc gl gc ol oc) ∧ Hid (Below w.heap.size w wr)) (fun kv _ => m - (intOf kv).toNat)
  case atStart => exact ⟨0, Nat.zero_le _, rfl, HR1, HB1, HL1⟩
  case round =>
    clear HR1 HB1 HL1
    obtain ⟨k, hk, rfl, HR, HB, HLr⟩ := hrel
    by_cases hlt : k < m
    · obtain ⟨b, off, rfl, hbl, hcell⟩ := HLV.out k (by rw [Opt.intL_len, HM.out]; exact hlt)
      rw [← HLr.out.cell (by exact hbl), Opt.intL_at] at hcell
      have hlv : lv.getD k 0 < v := HL.out _ (memD0 (by rw [HM.out]; exact hlt))
      have hmk := HLT.out k (by rw [HM.out]; exact hk)
      have HST : Hid (setN x lv (k + 1) = if x.testBit k then setN x lv k ||| 2 ^ (lv.getD k 0) else setN x lv k) := Lib.hid rfl
      have HBIT := Lib.hid (int_bit x k (by omega))
      generalize lv.getD k 0 = u at *
      generalize setN x lv k = mk at *
      cases hb : x.testBit k
      · rw [hb] at HBIT HST
        rw [if_neg (by simp)] at HST
        clear hb
        have hbb := HBIT.out
        go_wp2
        go_roundw
        case rel => exact ⟨k + 1, by omega, by go_num, Lib.hid (by rw [HST.out]; exact HR.out), HB, HLr⟩
        case measure => simp [intOf]; omega
      · rw [hb] at HBIT HST
        rw [if_pos rfl] at HST
        clear hb
        have hbb := HBIT.out
        have hgr := HR.out.lt
        go_wp2_with (go_at_call 49; refine (add_any g mk u _ _ HR.out (by omega) hmk).mono ?_; rintro e w' ⟨rfl, rfl⟩)
        have HR2 : Hid (Row (wr.setCell ⟨g, 0, none⟩ (.int .u64 (mk ||| 2 ^ u : Nat))) g 121 #[.int .u64 (mk ||| 2 ^ u : Nat)]) := Lib.hid (by have := HR.out.set 0 (.int .u64 (mk ||| 2 ^ u : Nat)); simpa using this)
        have HL2 := Lib.hid (HLr.out.setCell (p := ⟨g, 0, none⟩) (by show w.heap.size ≤ g; omega) (.int .u64 (mk ||| 2 ^ u : Nat)))
        have HB2 := Lib.hid (HB.out.below ((Below.refl g wr).setCell (p := ⟨g, 0, none⟩) (Nat.le_refl g) (.int .u64 (mk ||| 2 ^ u : Nat))) hgw)
        generalize wr.setCell ⟨g, 0, none⟩ (.int .u64 (mk ||| 2 ^ u : Nat)) = w2 at *
        go_roundw
        case rel => exact ⟨k + 1, by omega, by go_num, Lib.hid (by rw [HST.out]; exact HR2.out), HB2, HL2⟩
        case measure => simp [intOf]; omega
    · obtain rfl : k = m := by omega
      have hmk := HLT.out k (by rw [HM.out]; exact Nat.le_refl _)
      have HP0 : Hid (∀ u, (setN x lv k).testBit u = progF f G x lv 0 u) := Lib.hid (fun u => by rw [progF_0, ← HE0.out, HM.out])
      generalize setN x lv k = m0 at *
      have q0 := HB.out.c0
      have q1 := HB.out.c1
      have q2 := HB.out.c2
      have q3 := HB.out.c3
      go_wp2_with fail
      refine (firstGate_any _ _ _ _ _ _ _ _ _ _ _ (by omega) (by omega) (by omega)).mono ?_
      rintro e w3 ⟨rfl, hb3⟩
      rw [HF.out]
      have hgr := HR.out.lt
      have HR3 := Lib.hid (HR.out.below hb3 hgr)
      have HB3 := Lib.hid (HB.out.below hb3 (by omega))
      have HL3 := Lib.hid (HLr.out.trans (hb3.mono (by omega)))
      clear hb3 HR HB HLr q0 q1 q2 q3
      have q2 := HB3.out.c2
      have e1 : (v : Int) - (f : Int) + 1 = ((v + 1 - f : Nat) : Int) := by omega
      have e2 : IntKind.i64.wrap ((v : Int) - (f : Int)) = (v : Int) - (f : Int) := IntWalk.i64_in _ (by omega)
      have e3 : IntKind.i64.wrap ((v : Int) - (f : Int) + 1) = ((v + 1 - f : Nat) : Int) := by rw [← e1]; exact IntWalk.i64_in _ (by omega)
      obtain ⟨n, hn⟩ : ∃ n, v + 1 - f = n := ⟨_, rfl⟩
      have HN := Lib.hid hn
      rw [hn] at e1 e3
      have hngl : n ≤ gl := by omega
      have hnv : f + n = v + 1 := by omega
      clear hn
      go_wp2
      clear q2 e1 e2 e3
      go_loopw [44] (fun iv wr => ∃ (j mm : Nat), j ≤ n ∧ iv = .int .i64 j ∧ Hid (Row wr g 121 #[.int .u64 mm]) ∧ Hid (mm < 18446744073709551616) ∧ Hid (∀ u, mm.testBit u = progF f G x lv j u) ∧ Hid (Below w.heap.size w wr)) (fun iv _ => n - (intOf iv).toNat)
      case atStart => exact ⟨0, m0, Nat.zero_le _, rfl, HR3, Lib.hid hmk, HP0, HL3⟩
      case round =>
        clear HR3 HB3 HL3 HP0 hmk hgr
        obtain ⟨j, mm, hj, rfl, HR, HMM, HP, HLr⟩ := hrel
        by_cases hlt : j < n
        · obtain ⟨b, off, rfl, hbl, hcA, hcB⟩ := HG.out j (by rw [Opt.intG_len, HGL.out]; omega)
          rw [← HLr.out.cell (by exact hbl), Opt.intG_at] at hcA hcB
          obtain ⟨oA, oB⟩ := HOR.out j (by rw [HGL.out]; omega)
          have HPS := Lib.hid (fun u => progF_step f G x lv j u)
          have HPA := Lib.hid (progF_lit f G x lv j (Opt.at_ G j).1 oA)
          have HPB := Lib.hid (progF_lit f G x lv j (Opt.at_ G j).2 oB)
          rw [← HP.out] at HPA HPB
          generalize (Opt.at_ G j).1 = qa at *
          generalize (Opt.at_ G j).2 = qb at *
          have hgl' := HR.out.lt
          have hwc : (wr.alloc (.cells #[.int .i64 qa, .int .i64 qb] 113)).cell? ⟨g, 0, none⟩ = some (.int .u64 mm) := (World.cell?_alloc_lt wr _ ⟨g, 0, none⟩ hgl').trans (by rw [HR.out.cell]; rfl)
          have HWC := Lib.hid hwc
          clear hwc
          have HRA : Hid (Row (wr.alloc (.cells #[.int .i64 qa, .int .i64 qb] 113)) g 121 #[.int .u64 mm]) := Lib.hid ((Below.heap_alloc _ _ _ hgl').trans HR.out)
          have HLA := Lib.hid (HLr.out.alloc HLr.out.size (.cells #[.int .i64 qa, .int .i64 qb] 113))
          have HVA := Lib.hid (HLV.out.below HLA.out)
          have ec : ((f + j : Nat) : Int) = (f : Int) + (j : Int) := by omega
          have EC := Lib.hid ec
          clear ec
          generalize litN (coneL f G x lv j) qa = va at *
          generalize litN (coneL f G x lv j) qb = vb at *
          cases hc : lv.contains (f + j)
          · have HCo := Lib.hid hc
            rw [hc] at HPS
            clear hc
            cases va
            · have HPN : Hid (∀ u, mm.testBit u = progF f G x lv (j + 1) u) := Lib.hid (fun u => by rw [HPS.out, HP.out]; simp)
              go_wp2_with fail
              rw [← EC.out]
              refine (contains_v A k cap _ lv (f + j) _ HVA.out HM.out (by omega)).mono ?_
              rintro e w5 ⟨rfl, hw⟩
              obtain rfl := hw.symm
              clear hw
              rw [HCo.out]
              go_wp2_with fail
              refine (holds_bit g mm qa _ HWC.out HMM.out (by omega)).mono ?_
              rintro e w5 ⟨rfl, hw⟩
              obtain rfl := hw
              rw [HPA.out]
              go_wp2
              go_roundw
              case rel => exact ⟨j + 1, mm, by omega, by go_num, HRA, HMM, HPN, HLA⟩
              case measure => simp [intOf]; omega
            · cases vb
              · have HPN : Hid (∀ u, mm.testBit u = progF f G x lv (j + 1) u) := Lib.hid (fun u => by rw [HPS.out, HP.out]; simp)
                go_wp2_with fail
                rw [← EC.out]
                refine (contains_v A k cap _ lv (f + j) _ HVA.out HM.out (by omega)).mono ?_
                rintro e w5 ⟨rfl, hw⟩
                obtain rfl := hw.symm
                clear hw
                rw [HCo.out]
                go_wp2_with fail
                refine (holds_bit g mm qa _ HWC.out HMM.out (by omega)).mono ?_
                rintro e w5 ⟨rfl, hw⟩
                obtain rfl := hw
                rw [HPA.out]
                go_wp2_with fail
                refine (holds_bit g mm qb _ HWC.out HMM.out (by omega)).mono ?_
                rintro e w5 ⟨rfl, hw⟩
                obtain rfl := hw
                rw [HPB.out]
                go_wp2
                go_roundw
                case rel => exact ⟨j + 1, mm, by omega, by go_num, HRA, HMM, HPN, HLA⟩
                case measure => simp [intOf]; omega
              · have HPN : Hid (∀ u, (mm ||| 2 ^ (f + j)).testBit u = progF f G x lv (j + 1) u) := Lib.hid (fun u => by rw [Opt.bit_or, HPS.out, HP.out]; simp)
                have HMN : Hid (mm ||| 2 ^ (f + j) < 18446744073709551616) := Lib.hid (by
                  have h2 : 2 ^ (f + j) < 2 ^ 64 := Nat.pow_lt_pow_right (by omega) (by omega)
                  exact Nat.or_lt_two_pow (n := 64) HMM.out h2)
                go_wp2_with fail
                rw [← EC.out]
                refine (contains_v A k cap _ lv (f + j) _ HVA.out HM.out (by omega)).mono ?_
                rintro e w5 ⟨rfl, hw⟩
                obtain rfl := hw.symm
                clear hw
                rw [HCo.out]
                go_wp2_with fail
                refine (holds_bit g mm qa _ HWC.out HMM.out (by omega)).mono ?_
                rintro e w5 ⟨rfl, hw⟩
                obtain rfl := hw
                rw [HPA.out]
                go_wp2_with fail
                refine (holds_bit g mm qb _ HWC.out HMM.out (by omega)).mono ?_
                rintro e w5 ⟨rfl, hw⟩
                obtain rfl := hw
                rw [HPB.out]
                go_wp2_with fail
                rw [← EC.out]
                refine (add_any g mm (f + j) _ _ HRA.out (by omega) HMM.out).mono ?_
                rintro e w5 ⟨rfl, rfl⟩
                have HR6 : Hid (Row ((wr.alloc (.cells #[.int .i64 qa, .int .i64 qb] 113)).setCell ⟨g, 0, none⟩ (.int .u64 (mm ||| 2 ^ (f + j) : Nat))) g 121 #[.int .u64 (mm ||| 2 ^ (f + j) : Nat)]) := Lib.hid (by have := HRA.out.set 0 (.int .u64 (mm ||| 2 ^ (f + j) : Nat)); simpa using this)
                have HL6 := Lib.hid (HLA.out.setCell (p := ⟨g, 0, none⟩) (by show w.heap.size ≤ g; omega) (.int .u64 (mm ||| 2 ^ (f + j) : Nat)))
                generalize (wr.alloc (.cells #[.int .i64 qa, .int .i64 qb] 113)).setCell ⟨g, 0, none⟩ (.int .u64 (mm ||| 2 ^ (f + j) : Nat)) = w6 at *
                go_wp2
                go_roundw
                case rel => exact ⟨j + 1, _, by omega, by go_num, HR6, HMN, HPN, HL6⟩
                case measure => simp [intOf]; omega
          · have HCo := Lib.hid hc
            rw [hc] at HPS
            clear hc
            have HPN : Hid (∀ u, mm.testBit u = progF f G x lv (j + 1) u) := Lib.hid (fun u => by rw [HPS.out, HP.out]; simp)
            go_wp2_with fail
            rw [← EC.out]
            refine (contains_v A k cap _ lv (f + j) _ HVA.out HM.out (by omega)).mono ?_
            rintro e w5 ⟨rfl, hw⟩
            obtain rfl := hw.symm
            clear hw
            rw [HCo.out]
            go_wp2
            go_roundw
            case rel => exact ⟨j + 1, mm, by omega, by go_num, HRA, HMM, HPN, HLA⟩
            case measure => simp [intOf]; omega
        · obtain rfl : j = n := by omega
          have q0 := HR.out.cell 0
          simp at q0
          have HEV : Hid (mm.testBit v = coneV f G x lv v) := Lib.hid (by rw [HP.out, ← HN.out]; exact progF_end f G x lv hv)
          go_wp2_with fail
          refine (has_any g mm v _ q0 (by omega) HMM.out).mono ?_
          rintro e w5 ⟨rfl, rfl⟩
          rw [HEV.out]
          go_wp2
          go_ret
          exact ⟨rfl, HLr.out⟩
end Go.Proofs.YtliedgaefgomjaaGreat
/- The contract of lutTable. -/
namespace Go.Proofs.YtliedgaefgomjaaGreat
open Go.RowKit Go.Deep Cut

theorem i64_or_n (a b : Nat) (ha : a < 4611686018427387904) (hb : b < 4611686018427387904) : bits .or .i64 (a : Int) (b : Int) = ((a ||| b : Nat) : Int) := by
  have h1 : (BitVec.ofInt 64 (a : Int)).toNat = a := by rw [BitVec.ofInt_natCast, BitVec.toNat_ofNat]; exact Nat.mod_eq_of_lt (by omega)
  have h2 : (BitVec.ofInt 64 (b : Int)).toNat = b := by rw [BitVec.ofInt_natCast, BitVec.toNat_ofNat]; exact Nat.mod_eq_of_lt (by omega)
  show IntKind.i64.wrap ((BitVec.ofInt 64 (a : Int) ||| BitVec.ofInt 64 (b : Int)).toNat : Int) = _
  have h3 : a ||| b < 2 ^ 62 := Nat.or_lt_two_pow (n := 62) (by omega) (by omega)
  rw [BitVec.toNat_or, h1, h2, IntKind.wrap_i64]
  omega

set_option maxRecDepth 10000 in
set_option maxHeartbeats 1000000 in
theorem lutTable_any (i : Int) (nA gA oA A : Option Addr) (nl nc gl gc ol oc cap f v m : Nat) (G : List Opt.G) (lv : List Nat) (w : World) (hg : GatesAt w w.heap.size gA (Opt.intG G)) (hlv : IntsAt w w.heap.size A (Opt.intL lv)) (hm : lv.length = m) (hm3 : m ≤ 3)
    (hl : ∀ l, l ∈ lv → l < v) (ho : Once lv) (hf : 1 + i + (nl : Int) = f) (h0 : 0 ≤ i) (h1 : i ≤ 4) (h2 : nl ≤ 3) (hgl : G.length = gl) (hg14 : gl ≤ 14) (hgc : gl ≤ gc) (hord : Opt.ordered f G) (hv : f ≤ v) (hv2 : v < f + gl) :
    Calls Tryz.prog 83 #[.agg #[.int .i64 i, .slice nA nl nc, .slice gA gl gc, .slice oA ol oc], .int .i64 v, .slice A m cap] w fun e w' => e = .returned (.int .i64 (tabV f G lv v : Nat)) ∧ Below w.heap.size w w' := by
  obtain ⟨p, hp⟩ : ∃ p : Nat, 2 ^ m = p := ⟨_, rfl⟩
  have hp8 : p ≤ 8 := by rw [← hp]; exact Nat.le_trans (Nat.pow_le_pow_right (by omega) hm3) (by omega)
  have HG := Lib.hid hg
  have HLV := Lib.hid hlv
  have HM := Lib.hid hm
  have HL := Lib.hid hl
  have HO := Lib.hid ho
  have HF := Lib.hid hf
  have HGL := Lib.hid hgl
  have HOR := Lib.hid hord
  have HP := Lib.hid hp
  have hpi : (2 : Int) ^ m = (p : Int) := by rw [← hp]; simp
  clear hg hlv hm hl ho hf hgl hord hp
  have HW0 : Hid (Below w.heap.size w (w.alloc (.cells #[.int .i64 i, .slice nA nl nc, .slice gA gl gc, .slice oA ol oc] 26))) := Lib.hid ((Below.refl _ _).alloc (Nat.le_refl _) _)
  have HB0 := Lib.hid (Boxed.new w i nA gA oA nl nc gl gc ol oc 26)
  have hsz0 : (w.alloc (.cells #[.int .i64 i, .slice nA nl nc, .slice gA gl gc, .slice oA ol oc] 26)).heap.size = w.heap.size + 1 := by simp
  have HZ0 := Lib.hid hsz0
  clear hsz0
  go_enter Tryz.func83, Tryz.ntmps83
  go_wp2
  generalize w.alloc (.cells #[.int .i64 i, .slice nA nl nc, .slice gA gl gc, .slice oA ol oc] 26) = w0 at *
  clear hpi
  go_loopw [7, 12] (fun tv iv wr => ∃ (x t : Nat), x ≤ p ∧ iv = .int .i64 x ∧ tv = .int .i64 t ∧ t < 256 ∧ Hid (tabN f G lv v x = t) ∧ Hid (Below (w.heap.size + 1) w0 wr)) (fun _ iv _ => p - (intOf iv).toNat)
  case atStart => exact ⟨0, 0, Nat.zero_le _, rfl, rfl, by omega, Lib.hid rfl, Lib.hid (Below.refl _ _)⟩
  case round =>
    obtain ⟨x, t, hx, rfl, rfl, ht, HT, HLr⟩ := hrel
    have hzr : w.heap.size + 1 ≤ wr.heap.size := by have := HLr.out.size; rw [HZ0.out] at this; exact this
    by_cases hlt : x < p
    · have HBr := HB0.out.below HLr.out (by omega)
      have q0 := HBr.c0
      have q1 := HBr.c1
      have q2 := HBr.c2
      have q3 := HBr.c3
      clear HBr
      have HLL := Lib.hid (HW0.out.trans (HLr.out.mono (by omega)))
      have HST : Hid (tabN f G lv v (x + 1) = if coneV f G x lv v then tabN f G lv v x + 2 ^ x else tabN f G lv v x) := Lib.hid rfl
      have HLT := Lib.hid (tabN_lt f G lv v (x + 1))
      have HOR2 := Lib.hid (tabN_or f G lv v x)
      rw [HT.out] at HST HOR2
      obtain ⟨q, hq⟩ : ∃ q : Nat, 2 ^ x = q := ⟨_, rfl⟩
      have hqi : (2 : Int) ^ x = (q : Int) := by rw [← hq]; simp
      have hq8 : q ≤ 128 := by rw [← hq]; exact Nat.le_trans (Nat.pow_le_pow_right (by omega) (show x ≤ 7 by omega)) (by omega)
      rw [hq] at HST HOR2
      have hq2 : 2 ^ (x + 1) = 2 * q := by rw [Nat.pow_succ, hq]; omega
      rw [hq2] at HLT
      clear hq hq2
      have hor := i64_or_n t q (by omega) (by omega)
      rw [HOR2.out] at hor
      go_wp2_with fail
      refine (trueLeaves_any i nA gA oA A nl nc gl gc ol oc cap f v m x G lv _ ((HG.out.below HLL.out).mono HLL.out.size) ((HLV.out.below HLL.out).mono HLL.out.size) HM.out hm3 HL.out HO.out HF.out h0 h1 h2 HGL.out hg14 hgc HOR.out hv hv2 (by omega)).mono ?_
      rintro e w2 ⟨rfl, hb2⟩
      have HL2 := Lib.hid (HLr.out.trans (hb2.mono hzr))
      clear hb2 q0 q1 q2 q3
      cases hcv : coneV f G x lv v
      · rw [hcv, if_neg (by simp)] at HST
        clear hcv hor hqi
        go_wp2
        go_roundw
        case rel => exact ⟨x + 1, t, by omega, by go_num, rfl, ht, HST, HL2⟩
        case measure => simp [intOf]; omega
      · rw [hcv, if_pos rfl] at HST
        clear hcv
        have htq : t + q < 256 := by have := HLT.out; rw [HST.out] at this; omega
        go_wp2
        go_roundw
        case rel => exact ⟨x + 1, t + q, by omega, by go_num, by go_num, htq, HST, HL2⟩
        case measure => simp [intOf]; omega
    · obtain rfl : x = p := by omega
      have HE : Hid (tabV f G lv v = t) := Lib.hid (by unfold tabV; rw [HM.out, HP.out]; exact HT.out)
      go_wp2
      go_ret
      exact ⟨by rw [HE.out]; rfl, HW0.out.trans (HLr.out.mono (by omega))⟩
end Go.Proofs.YtliedgaefgomjaaGreat
/- The contract of neededVars. -/
namespace Go.Proofs.YtliedgaefgomjaaGreat
open Go.RowKit Go.Deep Cut

set_option maxRecDepth 10000 in
set_option maxHeartbeats 1000000 in
theorem needed_any (i : Int) (nA gA oA A1 : Option Addr) (bb nl nc gl gc ol oc nn cA cB : Nat) (c : Opt.C) (bs : Cs) (w : World) (hn : IntsAt w w.heap.size nA (Opt.intL c.ns)) (hou : IntsAt w w.heap.size oA (Opt.intL c.os)) (hL : ListAt w w.heap.size (some ⟨bb, 0, none⟩) bs)
    (hnl : c.ns.length = nl) (hol : c.os.length = ol) (h2 : nl ≤ 3) (h4 : ol ≤ 3) (hbl : bs.length = nn) (hn1 : 1 ≤ nn) (hnn : nn ≤ 22) (hroot : ∀ r, r ∈ c.roots → r / 2 < nn) (hb : ∀ v l, l ∈ bs.getD v [] → l < v) (hb3 : ∀ v, (bs.getD v []).length ≤ 3) :
    Calls Tryz.prog 82 #[.agg #[.slice A1 nn cA, .slice (some ⟨bb, 0, none⟩) nn cB], .agg #[.int .i64 i, .slice nA nl nc, .slice gA gl gc, .slice oA ol oc]] w (ReachOut w (needN bs nn (rootN c.ns c.os) nn)) := by
  have HN := Lib.hid hn
  have HOU := Lib.hid hou
  have HL := Lib.hid hL
  have HNL := Lib.hid hnl
  have HOL := Lib.hid hol
  have HBL := Lib.hid hbl
  have HRO := Lib.hid hroot
  have HB := Lib.hid hb
  have HB3 := Lib.hid hb3
  clear hn hou hL hnl hol hbl hroot hb hb3
  have HW0 : Hid (Below w.heap.size w ((w.alloc (.cells #[.slice A1 nn cA, .slice (some ⟨bb, 0, none⟩) nn cB] 133)).alloc (.cells #[.int .i64 i, .slice nA nl nc, .slice gA gl gc, .slice oA ol oc] 26))) := Lib.hid (((Below.refl _ _).alloc (Nat.le_refl _) _).alloc (by simp) _)
  have HM0 : Hid (Row ((w.alloc (.cells #[.slice A1 nn cA, .slice (some ⟨bb, 0, none⟩) nn cB] 133)).alloc (.cells #[.int .i64 i, .slice nA nl nc, .slice gA gl gc, .slice oA ol oc] 26)) w.heap.size 133 #[.slice A1 nn cA, .slice (some ⟨bb, 0, none⟩) nn cB]) := Lib.hid ((Below.heap_alloc _ _ _ (by simp)).trans (heap_alloc_new w _))
  have hb0 := Boxed.new (w.alloc (.cells #[.slice A1 nn cA, .slice (some ⟨bb, 0, none⟩) nn cB] 133)) i nA gA oA nl nc gl gc ol oc 26
  rw [show (w.alloc (.cells #[.slice A1 nn cA, .slice (some ⟨bb, 0, none⟩) nn cB] 133)).heap.size = w.heap.size + 1 by simp] at hb0
  have HB0 := Lib.hid hb0
  have hsz0 : ((w.alloc (.cells #[.slice A1 nn cA, .slice (some ⟨bb, 0, none⟩) nn cB] 133)).alloc (.cells #[.int .i64 i, .slice nA nl nc, .slice gA gl gc, .slice oA ol oc] 26)).heap.size = w.heap.size + 2 := by simp
  have HZ0 := Lib.hid hsz0
  clear hsz0 hb0
  go_enter Tryz.func82, Tryz.ntmps82
  go_wp2_with fail
  generalize ((w.alloc (.cells #[.slice A1 nn cA, .slice (some ⟨bb, 0, none⟩) nn cB] 133)).alloc (.cells #[.int .i64 i, .slice nA nl nc, .slice gA gl gc, .slice oA ol oc] 26)) = w0 at *
  refine (newBitSet_any nn _ hn1 (by omega)).mono ?_
  rintro e w2 ⟨rfl, hr2, hb2⟩
  rw [HZ0.out] at hr2 hb2 ⊢
  have HL2 := Lib.hid hb2
  have HR2 := Lib.hid hr2
  clear hr2 hb2
  generalize hgg : w.heap.size + 2 = g at *
  have hgw : w.heap.size + 1 < g := by omega
  have HGG := Lib.hid hgg
  clear hgg
  have hgs2 := HR2.out.lt
  have HB2 := Lib.hid (HB0.out.below HL2.out hgw)
  have q1 := HB2.out.c1
  go_wp2_with fail
  have hn2 := (HN.out.below (HW0.out.trans (HL2.out.mono (by omega)))).ne (g := g) (by omega) (by omega)
  refine (addVars_any g 0 nA nc nl c.ns _ HR2.out hn2 HNL.out (by omega) (by omega) (fun x hx => by have := HRO.out x (List.mem_append_right _ hx); omega)).mono ?_
  clear hn2
  rintro e w3 ⟨rfl, hr3, ho3⟩
  have HL3 := Lib.hid (HL2.out.trans (ho3.below (B := g) (fun _ e => by injection e; omega) (by omega)))
  have HR3 := Lib.hid hr3
  clear hr3 ho3 q1 HL2 HR2 HB2
  clear hgs2 w2
  have hgs3 := HR3.out.lt
  have HB3b := Lib.hid (HB0.out.below HL3.out hgw)
  have q3 := HB3b.out.c3
  go_wp2_with fail
  have hn2 := (HOU.out.below (HW0.out.trans (HL3.out.mono (by omega)))).ne (g := g) (by omega) (by omega)
  refine (addVars_any g _ oA oc ol c.os _ HR3.out hn2 HOL.out (by omega) (Opt.orV_lt (by omega) (fun x hx => by have := HRO.out x (List.mem_append_right _ hx); omega)) (fun x hx => by have := HRO.out x (List.mem_append_left _ hx); omega)).mono ?_
  clear hn2
  rintro e w4 ⟨rfl, hr4, ho4⟩
  have HL4 := Lib.hid (HL3.out.trans (ho4.below (B := g) (fun _ e => by injection e; omega) (by omega)))
  have HR4 := Lib.hid hr4
  clear hr4 ho4 q3 HL3 HR3 HB3b
  clear hgs3 w3
  have HR4' : Hid (Row w4 g 121 #[.int .u64 (needN bs nn (rootN c.ns c.os) (nn - nn) : Nat)]) := Lib.hid (by rw [Nat.sub_self]; exact HR4.out)
  have HMM : Hid (rootN c.ns c.os < 18446744073709551616) := Lib.hid (Opt.orV_lt (Opt.orV_lt (by omega) (fun x hx => by have := HRO.out x (List.mem_append_right _ hx); omega)) (fun x hx => by have := HRO.out x (List.mem_append_left _ hx); omega))
  clear HR4
  have HNLT : Hid (∀ k, needN bs nn (rootN c.ns c.os) k < 18446744073709551616) := Lib.hid (fun k => needN_lt HMM.out (fun v l hl => by
    have h1 := HB.out v l hl
    by_cases hv : v < bs.length
    · have := HBL.out; omega
    · rw [getD_out _ _ (by omega)] at hl; cases hl) k)
  clear HMM
  generalize rootN c.ns c.os = m0 at *
  have HM4 := Lib.hid (HM0.out.below HL4.out (by omega))
  have q1 := HM4.out.cell 1
  simp at q1
  go_wp2
  clear q1 HM4
  go_loopw [6] (fun iv wr => ∃ (j : Nat) (z : Int), j ≤ nn ∧ iv = .int .i64 z ∧ Hid (z = (j : Int) - 1) ∧ Hid (Row wr g 121 #[.int .u64 (needN bs nn m0 (nn - j) : Nat)]) ∧ Hid (Below g w0 wr)) (fun iv _ => (intOf iv + 1).toNat)
  case atStart => exact ⟨nn, _, Nat.le_refl _, rfl, Lib.hid (by omega), HR4', HL4⟩
  case round =>
    clear HR4' HL4 w4
    obtain ⟨j, z, hj, rfl, HZ, HRow, HLr⟩ := hrel
    cases j with
    | zero =>
      obtain rfl : z = -1 := by have := HZ.out; omega
      go_wp2
      go_ret
      exact ⟨g, rfl, by omega, HRow.out, HW0.out.trans (HLr.out.mono (by omega))⟩
    | succ j =>
      obtain rfl : z = (j : Int) := by have := HZ.out; omega
      clear HZ
      have HS : Hid (needN bs nn m0 (nn - j) = if (needN bs nn m0 (nn - (j + 1))).testBit j then orL (needN bs nn m0 (nn - (j + 1))) (bs.getD j []) else needN bs nn m0 (nn - (j + 1))) := Lib.hid (by
        have e : nn - j = (nn - (j + 1)) + 1 := by omega
        rw [e]
        show (if (needN bs nn m0 (nn - (j + 1))).testBit (nn - (nn - (j + 1) + 1)) then orL (needN bs nn m0 (nn - (j + 1))) (bs.getD (nn - (nn - (j + 1) + 1)) []) else needN bs nn m0 (nn - (j + 1))) = _
        rw [show nn - (nn - (j + 1) + 1) = j by omega])
      have HMj := Lib.hid (HNLT.out (nn - (j + 1)))
      generalize needN bs nn m0 (nn - (j + 1)) = mj at *
      have q0 := HRow.out.cell 0
      simp at q0
      cases hbit : mj.testBit j with
      | false =>
        have HBit := Lib.hid hbit
        rw [hbit, if_neg (by simp)] at HS
        clear hbit
        go_wp2_with fail
        refine (has_any g mj j _ q0 (by omega) HMj.out).mono ?_
        rintro e w' ⟨rfl, rfl⟩
        rw [HBit.out]
        go_wp2
        go_roundw
        case rel => exact ⟨j, _, by omega, rfl, Lib.hid (by omega), Lib.hid (by rw [HS.out]; exact HRow.out), HLr⟩
        case measure => simp [intOf]
      | true =>
        have HBit := Lib.hid hbit
        rw [hbit, if_pos rfl] at HS
        clear hbit
        obtain ⟨b, off, hbe, hbb, A', c', hcl, hia⟩ := HL.out j (by rw [HBL.out]; omega)
        injection hbe with hbe
        injection hbe with x1 x2
        subst x1 x2
        have HLL := Lib.hid (HW0.out.trans (HLr.out.mono (by omega)))
        rw [Nat.zero_add, ← HLL.out.cell (by exact hbb)] at hcl
        have HIA := Lib.hid ((IntsIn.at (B := w.heap.size) hia (fun _ h => h)).below HLL.out)
        have hx3 := HB3.out j
        have HXL := Lib.hid (HB.out j)
        clear hia
        generalize bs.getD j [] = x at *
        obtain ⟨n, hn⟩ : ∃ n, x.length = n := ⟨_, rfl⟩
        have HXN := Lib.hid hn
        rw [hn] at hx3 hcl
        clear hn
        have HMr := Lib.hid (HM0.out.below HLr.out (by omega))
        have q1 := HMr.out.cell 1
        simp at q1
        go_wp2_with fail
        refine (has_any g mj j _ q0 (by omega) HMj.out).mono ?_
        rintro e w' ⟨rfl, rfl⟩
        rw [HBit.out]
        go_wp2
        have HRs : Hid (Row wr g 121 #[.int .u64 (orL mj (x.take 0) : Nat)]) := Lib.hid HRow.out
        clear q0 q1 HMr hcl
        go_loopw [39] (fun iv wx => ∃ (k : Nat), k ≤ n ∧ iv = .int .i64 k ∧ Hid (Row wx g 121 #[.int .u64 (orL mj (x.take k) : Nat)]) ∧ Hid (Below g w0 wx)) (fun iv _ => n - (intOf iv).toNat)
        case atStart => exact ⟨0, Nat.zero_le _, rfl, HRs, HLr⟩
        case round =>
          clear HRs HRow HLL
          have HIr := HIA
          clear HIA
          obtain ⟨k, hk, rfl, HRx, HLx⟩ := hrel
          by_cases hlt : k < n
          · have hkx : k < x.length := by rw [HXN.out]; exact hlt
            obtain ⟨b2, off2, rfl, hbl2, hc2⟩ := HIr.out k (by rw [Opt.intL_len]; exact hkx)
            replace hc2 := ((HLx.out.cell (p := ⟨b2, off2 + k, none⟩) (by show b2 < g; omega)).trans (HLr.out.cell (p := ⟨b2, off2 + k, none⟩) (by show b2 < g; omega)).symm).trans hc2
            rw [Opt.intL_at] at hc2
            have hlx : x.getD k 0 < j := HXL.out _ (memD0 hkx)
            have HTK : Hid (orL mj (x.take (k + 1)) = orL mj (x.take k) ||| 2 ^ (x.getD k 0)) := Lib.hid (by
              rw [List.take_succ_eq_append_getElem hkx, orL_snoc]
              simp [List.getD_eq_getElem?_getD, hkx])
            have HMx : Hid (orL mj (x.take k) < 18446744073709551616) := Lib.hid (orL_lt HMj.out (fun l hl => by have := HXL.out l (List.mem_of_mem_take hl); omega))
            clear hkx
            generalize x.getD k 0 = u at *
            generalize orL mj (x.take k) = mk at *
            have hgx := HRx.out.lt
            go_wp2_with (go_at_call 49; refine (add_any g mk u _ _ HRx.out (by omega) HMx.out).mono ?_; rintro e w' ⟨rfl, rfl⟩)
            have HR2 : Hid (Row (wr.setCell ⟨g, 0, none⟩ (.int .u64 (mk ||| 2 ^ u : Nat))) g 121 #[.int .u64 (mk ||| 2 ^ u : Nat)]) := Lib.hid (by have := HRx.out.set 0 (.int .u64 (mk ||| 2 ^ u : Nat)); simpa using this)
            have HL2 := Lib.hid (HLx.out.setCell (p := ⟨g, 0, none⟩) (Nat.le_refl g) (.int .u64 (mk ||| 2 ^ u : Nat)))
            generalize wr.setCell ⟨g, 0, none⟩ (.int .u64 (mk ||| 2 ^ u : Nat)) = w6 at *
            go_roundw
            case rel => exact ⟨k + 1, by omega, by go_num, Lib.hid (by rw [HTK.out]; exact HR2.out), HL2⟩
            case measure => simp [intOf]; omega
          · obtain rfl : k = n := by omega
            have HRe : Hid (Row wr g 121 #[.int .u64 (orL mj x : Nat)]) := Lib.hid (by have := HRx.out; rwa [List.take_of_length_le (by rw [HXN.out]; omega)] at this)
            clear HRx
            go_wp2
            go_roundw
            case rel => exact ⟨j, _, by omega, rfl, Lib.hid (by omega), Lib.hid (by rw [HS.out]; exact HRe.out), HLx⟩
            case measure => simp [intOf]
end Go.Proofs.YtliedgaefgomjaaGreat
/- The contract of the program's MapLuts. -/
namespace Go.Proofs.YtliedgaefgomjaaGreat
open Go.RowKit Go.Deep Cut

theorem below_up {B N g : Nat} {w w' : World} (h : Below B w w') (hg : N ≤ g) (hs : N ≤ w.heap.size) (hk : ∀ b, b < w.heap.size → b ≠ g → w'.heap[b]? = w.heap[b]?) : Below N w w' :=
  ⟨h.os, h.tape, h.output, h.size, fun k hk' => hk k (by omega) (by omega)⟩
/-- Every slice of hs is one of the first n cells. -/
def FromC (cells : Array Value) (n : Nat) (hs : List Value) : Prop := ∀ u, u ∈ hs → ∀ b, vblk u = some b → ∃ v, v < n ∧ cells[v]? = some u
theorem FromC.more {cells : Array Value} {n n' : Nat} {hs : List Value} (h : FromC cells n hs) (hn : n ≤ n') : FromC cells n' hs := fun u hu b hb => by
  obtain ⟨v, h1, h2⟩ := h u hu b hb
  exact ⟨v, by omega, h2⟩
theorem FromC.push {cells : Array Value} {n : Nat} {hs : List Value} (h : FromC cells n hs) {u : Value} (hu : cells[n]? = some u) (a t : Int) : FromC cells (n + 1) (hs ++ [.int .i64 a, u, .int .i64 t]) := fun x hx b hb => by
  rcases List.mem_append.1 hx with hx | hx
  · obtain ⟨v, h1, h2⟩ := h x hx b hb
    exact ⟨v, by omega, h2⟩
  · simp at hx
    rcases hx with rfl | rfl | rfl
    · cases hb
    · exact ⟨n, by omega, hu⟩
    · cases hb
theorem DistH.push3 {cells : Array Value} {n : Nat} {hs : List Value} (h : DistH hs) (hd : DistH cells.toList) (hf : FromC cells n hs) {u : Value} (hu : cells[n]? = some u) (a t : Int) : DistH (hs ++ [.int .i64 a, u, .int .i64 t]) := by
  intro j k hjk x y hx hy b hb hb'
  have hk := (List.getElem?_eq_some_iff.1 hy).1
  simp at hk
  have hj := (List.getElem?_eq_some_iff.1 hx).1
  by_cases e : k < hs.length
  · rw [List.getElem?_append_left e] at hy
    rw [List.getElem?_append_left (by omega)] at hx
    exact h j k hjk x y hx hy b hb hb'
  · rw [List.getElem?_append_right (by omega)] at hy
    obtain ⟨d, hd'⟩ : ∃ d, k - hs.length = d := ⟨_, rfl⟩
    rw [hd'] at hy
    match d, hd' with
    | 0, _ => simp at hy; subst hy; cases hb'
    | 1, hd' =>
      simp at hy
      subst hy
      by_cases e2 : j < hs.length
      · rw [List.getElem?_append_left e2] at hx
        obtain ⟨v, h1, h2⟩ := hf x (List.mem_of_getElem? hx) b hb
        exact hd v n h1 x u (by rw [Array.getElem?_toList]; exact h2) (by rw [Array.getElem?_toList]; exact hu) b hb hb'
      · rw [List.getElem?_append_right (by omega), show j - hs.length = 0 by omega] at hx
        simp at hx; subst hx; cases hb
    | 2, _ => simp at hy; subst hy; cases hb'
    | d + 3, hd' => omega

set_option maxRecDepth 10000 in
set_option maxHeartbeats 2000000 in
theorem imap_t (i : Int) (nA gA oA : Option Addr) (nc gc oc : Nat) (ns : List Int) (gs : List (Int × Int)) (os : List Int) (w : World) (hv : Circ.validB i ns gs os = true) (hc : CircAt w w.heap.size nA gA oA ns gs os) (hgc : gs.length ≤ gc) :
    Calls Tryz.prog 66 #[.agg #[.int .i64 i, .slice nA ns.length nc, .slice gA gs.length gc, .slice oA os.length oc]] w fun e w' => ∃ (g cap : Nat) (hs : List Value), e = .returned (.slice (some ⟨g, 0, none⟩) (lutsV (Opt.fst i ns) (Opt.natG gs) (Opt.natL ns) (Opt.natL os)).length cap) ∧ LuAt w' w.heap.size (lutsV (Opt.fst i ns) (Opt.natG gs) (Opt.natL ns) (Opt.natL os)) hs g cap ∧ DistH hs ∧ Below w.heap.size w w' := by
  obtain ⟨h0, h1, h2, h3, h4⟩ := Circ.valid_within hv
  obtain ⟨e1, e2, e3⟩ := natC_ints hv
  obtain ⟨k0, k1⟩ := Opt.natC_ok hv
  have hfi : 1 + i + (ns.length : Int) = (Opt.fst i ns : Int) := by unfold Opt.fst; omega
  have hgl : (Opt.natG gs).length = gs.length := Opt.natG_len gs
  obtain ⟨nn, hnn⟩ : ∃ nn, Opt.fst i ns + gs.length = nn := ⟨_, rfl⟩
  have hroot : ∀ r, r ∈ (Opt.natC ns gs os).roots → r / 2 < nn := fun r hr => by
    have := k1.root r hr
    rw [show (Opt.natC ns gs os).gs.length = gs.length from hgl] at this
    omega
  have HRO := Lib.hid hroot
  have HOR : Hid (Opt.ordered (Opt.fst i ns) (Opt.natG gs)) := Lib.hid k1.ord
  have HK0 := Lib.hid k0
  have HE1 := Lib.hid e1
  have HE2 := Lib.hid e2
  have HE3 := Lib.hid e3
  have HNN := Lib.hid hnn
  have HFI := Lib.hid hfi
  have HGL := Lib.hid hgl
  have hnn22 : nn ≤ 22 := by omega
  have hnn1 : 1 ≤ nn := by omega
  have hff8 : Opt.fst i ns ≤ 8 := by omega
  have hfn : Opt.fst i ns + gs.length = nn := hnn
  clear e1 e2 e3 k0 k1 hroot hgl hfi hnn
  have hes : lutsV (Opt.fst i ns) (Opt.natG gs) (Opt.natL ns) (Opt.natL os) = lutsTo (Opt.fst i ns) (Opt.natG gs) (bests (Opt.fst i ns) (Opt.natG gs)) (needV (Opt.fst i ns) (Opt.natG gs) (Opt.natL ns) (Opt.natL os)) gs.length := by unfold lutsV; rw [HGL.out]
  generalize lutsV (Opt.fst i ns) (Opt.natG gs) (Opt.natL ns) (Opt.natL os) = es at *
  have HES := Lib.hid hes
  clear hes
  have HV := Lib.hid hv
  have hbw : Below w.heap.size w (w.alloc (.cells #[.int .i64 i, .slice nA ns.length nc, .slice gA gs.length gc, .slice oA os.length oc] 26)) := (Below.refl _ _).alloc (Nat.le_refl _) _
  have HB0 := Lib.hid (Boxed.new w i nA gA oA ns.length nc gs.length gc os.length oc 26)
  have HC := Lib.hid hc
  have HL0 := Lib.hid hbw
  have hsz0 : (w.alloc (.cells #[.int .i64 i, .slice nA ns.length nc, .slice gA gs.length gc, .slice oA os.length oc] 26)).heap.size = w.heap.size + 1 := by simp
  have HZ0 := Lib.hid hsz0
  clear hc hbw hv hsz0
  go_enter Tryz.func66, Tryz.ntmps66
  go_wp2_with fail
  generalize w.alloc (.cells #[.int .i64 i, .slice nA ns.length nc, .slice gA gs.length gc, .slice oA os.length oc] 26) = w0 at *
  refine (valid_any i nA gA oA nc gc oc ns gs os _ ((HC.out.below HL0.out).mono (by have := HZ0.out; omega))).mono ?_
  rintro e w1 ⟨rfl, hb1⟩
  rw [HV.out]
  rw [HZ0.out] at hb1
  have HL1 := Lib.hid (HL0.out.trans (hb1.mono (by omega)))
  have HB1 := Lib.hid (HB0.out.below hb1 (by omega))
  have hs1 : w.heap.size + 1 ≤ w1.heap.size := by have := hb1.size; have := HZ0.out; omega
  clear hb1 HB0 HL0 HZ0
  clear w0
  have q0 := HB1.out.c0
  have q1 := HB1.out.c1
  have q2 := HB1.out.c2
  have q3 := HB1.out.c3
  go_wp2_with fail
  refine (mappingOf_t i nA gA oA nc gc oc nn ns gs os _ HV.out HNN.out ((HC.out.below HL1.out).mono HL1.out.size)).mono ?_
  rintro e w2 ⟨ab, bb, rfl, _, ho2, hb2⟩
  have HL2 := Lib.hid (HL1.out.trans (hb2.mono HL1.out.size))
  have HB2 := Lib.hid (HB1.out.below hb2 (by omega))
  have HO2 := Lib.hid ho2
  have hs2 : w1.heap.size ≤ w2.heap.size := hb2.size
  clear ho2 hb2 HL1 q0 q1 q2 q3
  go_upto_region 4 with fail
  have hba : Below w2.heap.size w2 (w2.alloc (.cells #[.slice (some ⟨ab, 0, none⟩) nn nn, .slice (some ⟨bb, 0, none⟩) nn nn] 133)) := (Below.refl _ _).alloc (Nat.le_refl _) _
  have HM3 : Hid (Row (w2.alloc (.cells #[.slice (some ⟨ab, 0, none⟩) nn nn, .slice (some ⟨bb, 0, none⟩) nn nn] 133)) w2.heap.size 133 #[.slice (some ⟨ab, 0, none⟩) nn nn, .slice (some ⟨bb, 0, none⟩) nn nn]) := Lib.hid (heap_alloc_new w2 _)
  have HL3 := Lib.hid (HL2.out.trans (hba.mono HL2.out.size))
  have HB3 := Lib.hid (HB2.out.below hba (by omega))
  have ho3 : OwnL (w2.alloc (.cells #[.slice (some ⟨ab, 0, none⟩) nn nn, .slice (some ⟨bb, 0, none⟩) nn nn] 133)) w1.heap.size bb (bests (Opt.fst i ns) (Opt.natG gs)) := HO2.out.below hba
  have hs3 : (w2.alloc (.cells #[.slice (some ⟨ab, 0, none⟩) nn nn, .slice (some ⟨bb, 0, none⟩) nn nn] 133)).heap.size = w2.heap.size + 1 := by simp
  have HO3 := Lib.hid ho3
  clear hba ho3 HB1 HB2 HL2 HO2
  generalize (w2.alloc (.cells #[.slice (some ⟨ab, 0, none⟩) nn nn, .slice (some ⟨bb, 0, none⟩) nn nn] 133)) = w3 at *
  generalize w2.heap.size = mb at *
  have q0 := HB3.out.c0
  have q1 := HB3.out.c1
  have q2 := HB3.out.c2
  have q3 := HB3.out.c3
  have p0 := HM3.out.cell 0
  have p1 := HM3.out.cell 1
  simp at p0 p1
  go_wp2_with fail
  have HCC := (HC.out.below HL3.out).mono HL3.out.size
  refine (needed_any i nA gA oA (some ⟨ab, 0, none⟩) bb ns.length nc gs.length gc os.length oc nn nn nn (Opt.natC ns gs os) (bests (Opt.fst i ns) (Opt.natG gs)) _ (by rw [HE1.out]; exact HCC.next) (by rw [HE3.out]; exact HCC.outs) HO3.out.list (Opt.natL_len ns) (Opt.natL_len os) h2 h4 (by rw [bests_len, HGL.out]; exact HNN.out) hnn1 hnn22 HRO.out (best_lt HK0.out HOR.out) (best_fit HK0.out HOR.out)).mono ?_
  rintro e w4 ⟨g4, rfl, hg4, hr4, hb4⟩
  clear HCC
  have HME : Hid (needN (bests (Opt.fst i ns) (Opt.natG gs)) nn (rootN (Opt.natC ns gs os).ns (Opt.natC ns gs os).os) nn = needV (Opt.fst i ns) (Opt.natG gs) (Opt.natL ns) (Opt.natL os)) := Lib.hid (by unfold needV; rw [HGL.out, HNN.out]; rfl)
  rw [HME.out] at hr4
  have HR4 := Lib.hid hr4
  have HL4 := Lib.hid (HL3.out.trans (hb4.mono HL3.out.size))
  have HB4 := Lib.hid (HB3.out.below hb4 (by omega))
  have HM4 := Lib.hid (HM3.out.below hb4 (by omega))
  have HO4 := Lib.hid (HO3.out.below hb4)
  have hs4 : w3.heap.size ≤ w4.heap.size := hb4.size
  have hg4s := HR4.out.lt
  have HMLT : Hid (needV (Opt.fst i ns) (Opt.natG gs) (Opt.natL ns) (Opt.natL os) < 18446744073709551616) := Lib.hid (needN_lt (Opt.orV_lt (Opt.orV_lt (by omega) (fun x hx => by have := HRO.out x (List.mem_append_right _ hx); omega)) (fun x hx => by have := HRO.out x (List.mem_append_left _ hx); omega)) (fun v l hl => by
    have h1 := best_lt HK0.out HOR.out v l hl
    by_cases hv : v < nn
    · omega
    · rw [getD_out _ _ (by rw [bests_len, HGL.out]; have := HNN.out; omega)] at hl; cases hl) _)
  clear hr4 hb4 HB3 HM3 HO3 HL3 q0 q1 q2 q3 p0 p1 HME
  have hs13 : w1.heap.size ≤ w3.heap.size := by omega
  clear hs3
  generalize needV (Opt.fst i ns) (Opt.natG gs) (Opt.natL ns) (Opt.natL os) = M at *
  go_upto_region 6 with fail
  have hba : Below w4.heap.size w4 (w4.alloc (.cells #[] 108)) := (Below.refl _ _).alloc (Nat.le_refl _) _
  have HU5 := Lib.hid (LuAt.made w4 w.heap.size (by omega))
  have HL5 := Lib.hid (HL4.out.trans (hba.mono HL4.out.size))
  have HX5 := Lib.hid hba
  have HB5 := Lib.hid (HB4.out.below hba (by omega))
  clear hba
  generalize w4.alloc (.cells #[] 108) = w5 at *
  have q0 := HB5.out.c0
  have q1 := HB5.out.c1
  have q2 := HB5.out.c2
  have q3 := HB5.out.c3
  go_wp2_with fail
  refine (firstGate_any _ _ _ _ _ _ _ _ _ _ _ (by omega) (by omega) (by omega)).mono ?_
  rintro e w6 ⟨rfl, hb6⟩
  rw [HFI.out]
  have HX6 := Lib.hid (HX5.out.trans (hb6.mono HX5.out.size))
  have HU6 := Lib.hid (HU5.out.on hb6)
  clear hb6 q0 q1 q2 q3 HB5 HL5 HX5 HU5
  obtain ⟨cells, hcr, hcB, hcz, hck, hcd⟩ := HO4.out
  have HCR := Lib.hid hcr
  have HCK := Lib.hid hck
  have HCD := Lib.hid hcd
  rw [bests_len, HGL.out, hfn] at hcz
  have HCZ := Lib.hid hcz
  have HBL : Hid ((bests (Opt.fst i ns) (Opt.natG gs)).length = nn) := Lib.hid (by rw [bests_len, HGL.out, hfn])
  have hcbb := hcr.lt
  clear hcr hck hcd hcz HO4
  go_upto_region 7 with fail
  go_loopw [5, 6] (fun lv kv wr => ∃ (k g cap : Nat) (hs : List Value), Opt.fst i ns + k ≤ nn ∧ kv = .int .i64 ((Opt.fst i ns + k : Nat) : Int) ∧ lv = .slice (some ⟨g, 0, none⟩) (lutsTo (Opt.fst i ns) (Opt.natG gs) (bests (Opt.fst i ns) (Opt.natG gs)) M k).length cap ∧ w4.heap.size ≤ g ∧ Hid (LuAt wr w.heap.size (lutsTo (Opt.fst i ns) (Opt.natG gs) (bests (Opt.fst i ns) (Opt.natG gs)) M k) hs g cap) ∧ Hid (DistH hs) ∧ Hid (FromC cells (Opt.fst i ns + k) hs) ∧ Hid (Below w4.heap.size w4 wr)) (fun _ kv _ => nn - (intOf kv).toNat)
  case atStart => exact ⟨0, _, _, [], by omega, rfl, rfl, Nat.le_refl _, HU6, Lib.hid DistH.nil, Lib.hid (fun u hu => by cases hu), HX6⟩
  case round =>
    clear HU6 HX6
    obtain ⟨k, g, cap, hs, hk, rfl, rfl, hg, HU, HD, HF, HX⟩ := hrel
    have HLr := Lib.hid (HL4.out.trans (HX.out.mono HL4.out.size))
    have hzr : w4.heap.size ≤ wr.heap.size := HX.out.size
    have HBr := Lib.hid (HB4.out.below HX.out (by omega))
    have HMr := Lib.hid (HM4.out.below HX.out HM4.out.lt)
    have HRr := Lib.hid (HR4.out.below HX.out hg4s)
    have HCr := Lib.hid (HCR.out.below HX.out hcbb)
    have p1 := HMr.out.cell 1
    simp at p1
    by_cases hlt : Opt.fst i ns + k < nn
    · have r0 := HRr.out.cell 0
      simp at r0
      have HST : Hid (lutsTo (Opt.fst i ns) (Opt.natG gs) (bests (Opt.fst i ns) (Opt.natG gs)) M (k + 1) = if M.testBit (Opt.fst i ns + k) then lutsTo (Opt.fst i ns) (Opt.natG gs) (bests (Opt.fst i ns) (Opt.natG gs)) M k ++ [lutOf (Opt.fst i ns) (Opt.natG gs) (bests (Opt.fst i ns) (Opt.natG gs)) (Opt.fst i ns + k)] else lutsTo (Opt.fst i ns) (Opt.natG gs) (bests (Opt.fst i ns) (Opt.natG gs)) M k) := Lib.hid rfl
      have hll := lutsTo_len (Opt.fst i ns) (Opt.natG gs) (bests (Opt.fst i ns) (Opt.natG gs)) M k
      generalize hls : lutsTo (Opt.fst i ns) (Opt.natG gs) (bests (Opt.fst i ns) (Opt.natG gs)) M k = ls at *
      have HLS := Lib.hid hls
      clear hls
      obtain ⟨n, hn⟩ : ∃ n, ls.length = n := ⟨_, rfl⟩
      have HNL := Lib.hid hn
      rw [hn] at hll
      clear hn
      cases hbit : M.testBit (Opt.fst i ns + k)
      · have HBit := Lib.hid hbit
        rw [hbit, if_neg (by simp)] at HST
        clear hbit
        go_wp2_with fail
        refine (has_any g4 M (Opt.fst i ns + k) _ r0 (by omega) HMLT.out).mono ?_
        rintro e w7 ⟨rfl, rfl⟩
        rw [HBit.out]
        go_wp2
        go_roundw
        case rel => exact ⟨k + 1, g, cap, hs, by omega, by go_num, by rw [HST.out], hg, by rw [HST.out]; exact HU, HD, Lib.hid (HF.out.more (by omega)), HX⟩
        case measure => simp [intOf]; omega
      · have HBit := Lib.hid hbit
        rw [hbit, if_pos rfl] at HST
        clear hbit
        go_wp2_with fail
        refine (has_any g4 M (Opt.fst i ns + k) _ r0 (by omega) HMLT.out).mono ?_
        rintro e w7 ⟨rfl, rfl⟩
        rw [HBit.out]
        obtain ⟨A', c', hcv, hlf⟩ := HCK.out (Opt.fst i ns + k) (by rw [HBL.out]; exact hlt)
        have hx3 := best_fit HK0.out HOR.out (Opt.fst i ns + k)
        have HXL := Lib.hid (best_lt HK0.out HOR.out (Opt.fst i ns + k))
        have HXO := Lib.hid (best_once HK0.out HOR.out (Opt.fst i ns + k))
        have HLU : Hid (lutOf (Opt.fst i ns) (Opt.natG gs) (bests (Opt.fst i ns) (Opt.natG gs)) (Opt.fst i ns + k) = (Opt.fst i ns + k, (bests (Opt.fst i ns) (Opt.natG gs)).getD (Opt.fst i ns + k) [], tabV (Opt.fst i ns) (Opt.natG gs) ((bests (Opt.fst i ns) (Opt.natG gs)).getD (Opt.fst i ns + k) []) (Opt.fst i ns + k))) := Lib.hid rfl
        have HLF := Lib.hid (hlf.kept (T := Off wr w.heap.size g) (fun b hb => HX.out.block b hb.2) (fun b hb => ⟨by have := hb.1; omega, by have := hb.2; omega, by have := hb.2; omega⟩))
        clear hlf
        generalize (bests (Opt.fst i ns) (Opt.natG gs)).getD (Opt.fst i ns + k) [] = x at *
        obtain ⟨m, hm⟩ : ∃ m, x.length = m := ⟨_, rfl⟩
        have HXM := Lib.hid hm
        rw [hm] at hcv hx3
        clear hm
        have HCV := Lib.hid hcv
        have hcell := (HCr.out.cell (Opt.fst i ns + k)).trans hcv
        clear hcv
        have HII := Lib.hid ((IntsIn.at (B := wr.heap.size) HLF.out.ints (fun b hb => hb.2.1)))
        obtain ⟨T, HTV⟩ : ∃ T, Hid (tabV (Opt.fst i ns) (Opt.natG gs) x (Opt.fst i ns + k) = T) := ⟨_, Lib.hid rfl⟩
        have q0 := HBr.out.c0
        have q1 := HBr.out.c1
        have q2 := HBr.out.c2
        have q3 := HBr.out.c3
        have HCC := Lib.hid ((HC.out.below HLr.out).mono HLr.out.size)
        have j1 : (0 : Int) ≤ (Opt.fst i ns : Int) + (k : Int) := by omega
        have j2 : (Opt.fst i ns : Int) + (k : Int) < (nn : Int) := by omega
        have j3 : ((Opt.fst i ns : Int) + (k : Int)).toNat = Opt.fst i ns + k := by omega
        have jc : (Opt.fst i ns : Int) + (k : Int) = ((Opt.fst i ns + k : Nat) : Int) := by omega
        have JC := Lib.hid jc
        clear jc
        have hmbw : mb < wr.heap.size := by have := HMr.out.lt; exact this
        have hbbw : bb < wr.heap.size := by omega
        have hmbg : mb ≠ g := by have := HM4.out.lt; omega
        have hbbg : bb ≠ g := by omega
        have hwg : w.heap.size ≠ g := by omega
        have hww : w.heap.size < wr.heap.size := by omega
        rw [HNL.out]
        go_upto_region 10 with fail
        go_region_held3 (fun w' => w'.cell? ⟨w.heap.size, 0, none⟩ = some (.int .i64 i) ∧ w'.cell? ⟨w.heap.size, 1, none⟩ = some (.slice nA ns.length nc) ∧ w'.cell? ⟨w.heap.size, 2, none⟩ = some (.slice gA gs.length gc) ∧ w'.cell? ⟨w.heap.size, 3, none⟩ = some (.slice oA os.length oc) ∧ w'.cell? ⟨mb, 1, none⟩ = some (.slice (some ⟨bb, 0, none⟩) nn nn) ∧ w'.cell? ⟨bb, Opt.fst i ns + k, none⟩ = some (.slice A' m c'))
          (first | (with_reducible assumption) | go_keep | (refine ⟨?_, ?_, ?_, ?_, ?_, ?_⟩ <;> (rw [hc8 _ _ (by simp; omega)]; simp [*])))
          (first
            | (go_at_call 83; rw [JC.out]; refine (lutTable_any i nA gA oA A' ns.length nc gs.length gc os.length oc c' (Opt.fst i ns) (Opt.fst i ns + k) m (Opt.natG gs) x _ ?_ ?_ HXM.out hx3 HXL.out HXO.out HFI.out h0 h1 h2 HGL.out h3 hgc HOR.out ?_ ?_).mono ?_; (have hgg := (HCC.out.below (Below.refl _ wr).drew).gates; rw [← HE2.out] at hgg; exact hgg); (exact HII.out.below (Below.refl _ wr).drew); (omega); (omega); rintro e w8 ⟨rfl, hb8⟩; rw [HTV.out]; obtain ⟨hc8, hf8⟩ := bcell hb8; have hU8 := LuAt.on (w := wr.drew) HU.out hb8; have hz8 : wr.heap.size ≤ w8.heap.size := hb8.size; have hF8 := LeafIn.kept (w := wr.drew) (T := Off w8 w.heap.size g) HLF.out (fun b hb => hb8.block b hb.2.1) (fun b hb => ⟨hb.1, by have := hb.2.1; omega, hb.2.2⟩))
            | (rw [JC.out]; refine step_pushLu (by rfl) _ _ (by rfl) w8 w.heap.size g cap n ls hs (by rfl) HNL.out hU8 (by omega) (Opt.fst i ns + k) A' m c' x T (by rfl) HXM.out hF8 ?_; intro g' cap' w9 hU9 hb9 hk9 hg9; have hc9 : ∀ b o, b < wr.heap.size → b ≠ g → w9.cell? ⟨b, o, none⟩ = w8.cell? ⟨b, o, none⟩ := fun b o h1 h2 => World.cell?_of_block (hk9 b (by omega) h2); have hS9 := And.intro ((hc9 w.heap.size 0 hww hwg).trans ((hc8 w.heap.size 0 hww).trans q0)) (And.intro ((hc9 w.heap.size 1 hww hwg).trans ((hc8 w.heap.size 1 hww).trans q1)) (And.intro ((hc9 w.heap.size 2 hww hwg).trans ((hc8 w.heap.size 2 hww).trans q2)) (And.intro ((hc9 w.heap.size 3 hww hwg).trans ((hc8 w.heap.size 3 hww).trans q3)) (And.intro ((hc9 mb 1 hmbw hmbg).trans ((hc8 mb 1 hmbw).trans p1)) ((hc9 bb (Opt.fst i ns + k) hbbw hbbg).trans ((hc8 bb (Opt.fst i ns + k) hbbw).trans hcell))))))))
        rename_i _hheld10
        clear _hheld10 hS9 hc8 hc9 hf8 q0 q1 q2 q3 p1 r0 hcell
        have HX8 := Lib.hid ((HX.out.drew.trans (hb8.mono hzr)).trans (below_up hb9 (N := w4.heap.size) hg (by omega) hk9))
        have HD9 := Lib.hid (DistH.push3 HD.out HCD.out HF.out HCV.out ((Opt.fst i ns + k : Nat) : Int) (T : Int))
        have HF9 := Lib.hid (FromC.push HF.out HCV.out ((Opt.fst i ns + k : Nat) : Int) (T : Int))
        have HE9 : Hid (lutsTo (Opt.fst i ns) (Opt.natG gs) (bests (Opt.fst i ns) (Opt.natG gs)) M (k + 1) = ls ++ [(Opt.fst i ns + k, x, T)]) := Lib.hid (by rw [HST.out, HLU.out, HTV.out])
        have HN9 : Hid ((ls ++ [(Opt.fst i ns + k, x, T)]).length = n + 1) := Lib.hid (by rw [List.length_append, List.length_singleton, HNL.out])
        have HU9 := Lib.hid hU9
        have hg9' : w4.heap.size ≤ g' := by omega
        clear hU9 hb8 hb9 hk9 hU8 hF8 hz8 hg9
        go_wp2
        go_roundw
        case rel => exact ⟨k + 1, g', cap', _, by omega, by go_num, by rw [HE9.out, HN9.out], hg9', by rw [HE9.out]; exact HU9, HD9, HF9, HX8⟩
        case measure => simp [intOf]; omega
    · obtain rfl : k = gs.length := by omega
      rw [← HES.out] at HU ⊢
      go_wp2
      go_ret
      exact ⟨g, cap, hs, rfl, HU.out, HD.out, HLr.out⟩

end Go.Proofs.YtliedgaefgomjaaGreat
