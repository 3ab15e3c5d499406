/- The model's pins of a net. -/
import Derived.Test.YtkkkkalgfmddbaaNS
import Derived.Test.YtkkkkalgfmddbaaPV
import Derived.Test.YtkkkkalgfmddbaaNP
import Derived.Deep.DeepCutAuto
namespace Plc
theorem pickTo_succ (P : Nat → Bool) (k : Nat) : pickTo P (k + 1) = pickTo P k ++ (if P k = true then [k] else []) := by
  show (if P k = true then pickTo P k ++ [k] else pickTo P k) = _
  split
  · rfl
  · rw [List.append_nil]
end Plc
namespace Go.Proofs.Ytkkkkalgfmddbaa
open Go.RowKit Go.Deep Cut Plc

theorem contains_nat (y : List Nat) (net : Nat) : (Opt.intL y).contains ((net : Nat) : Int) = y.contains net := by
  rw [Bool.eq_iff_iff, List.contains_iff_mem, List.contains_iff_mem]
  unfold Opt.intL
  rw [List.mem_map]
  exact ⟨fun ⟨z, hz, e⟩ => by obtain rfl : z = net := by omega
                              exact hz, fun h => ⟨net, h, rfl⟩⟩
theorem sinks_pick (net : Nat) (ce : List Cl) : ∀ k, sinksTo ((net : Nat) : Int) ce k = pickTo (fun j => (ce.getD j (0, [], 0, false)).2.1.contains net) k
  | 0 => rfl
  | k + 1 => by
    show (if usesB _ _ = true then _ else _) = (if _ then _ else _)
    rw [sinks_pick net ce k]
    unfold usesB
    rw [contains_nat]

set_option maxRecDepth 10000 in
set_option maxHeartbeats 2000000 in
theorem l7Pins_any (m n cc pc nl nc gl gc oc nt : Nat) (nA gA oA AC AP : Option Addr) (os : List Int) (ou : List Nat) (ce : List Cl) (p : List Nat) (w : World) (ho : IntsAt w w.heap.size oA os) (hU : CeIn w w.heap.size AC ce) (hp : IntsAt w w.heap.size AP (Opt.intL p))
    (hn : ce.length = n) (hpn : p.length = n) (hn17 : n ≤ 17) (hbl : ∀ k, k < n → (ce.getD k (0, [], 0, false)).2.1.length ≤ 1000) (hon : ∀ k, k < n → Once (ce.getD k (0, [], 0, false)).2.1) (hou : ou.length = os.length) (hov : ∀ k, k < os.length → os.getD k 0 = ((ou.getD k 0 : Nat) : Int) ∧ ou.getD k 0 ≤ 1000) (ho3 : os.length ≤ 100) (_hm : m ≤ 4) (hnt : 1 ≤ nt) (hnt2 : nt ≤ 1000) :
    Calls Try.prog 157 #[.agg #[.int .i64 (m : Int), .slice nA nl nc, .slice gA gl gc, .slice oA os.length oc], .slice AC n cc, .slice AP n pc, .int .i64 (nt : Int)] w fun e w' => ∃ (g cap : Nat), e = .returned (.slice (some ⟨g, 0, none⟩) (pinsP m ou ce p nt).length cap) ∧ TimesAt w' w.heap.size (pinsP m ou ce p nt) g cap ∧ Below w.heap.size w w' := by
  have HB0 := Lib.hid (Boxed.new w (m : Int) nA gA oA nl nc gl gc os.length oc 108)
  have hbw : Below w.heap.size w (w.alloc (.cells #[.int .i64 (m : Int), .slice nA nl nc, .slice gA gl gc, .slice oA os.length oc] 108)) := (Below.refl _ _).alloc (Nat.le_refl _) _
  have hlt0 : w.heap.size < (w.alloc (.cells #[.int .i64 (m : Int), .slice nA nl nc, .slice gA gl gc, .slice oA os.length oc] 108)).heap.size := by simp
  have HO := Lib.hid ((ho.below hbw).mono hbw.size)
  have HU := Lib.hid ((hU.below hbw).mono hbw.size)
  have HP := Lib.hid ((hp.below hbw).mono hbw.size)
  have HL0 := Lib.hid hbw
  have HCN := Lib.hid hn
  have HPN := Lib.hid hpn
  have HBL := Lib.hid hbl
  have HON := Lib.hid hon
  have HOU := Lib.hid hou
  have HOV := Lib.hid hov
  obtain ⟨f, hf⟩ : ∃ f : Nat → Nat, (fun j => p.getD j 0) = f := ⟨_, rfl⟩
  obtain ⟨S1, hS1⟩ : ∃ S1, sinksTo ((nt : Nat) : Int) ce n = S1 := ⟨_, rfl⟩
  have HFE := Lib.hid hf
  have HS1 := Lib.hid hS1
  have HSN : Hid (snkP ou ce p nt = S1.map f ++ (pickTo (fun o => ou.getD o 0 / 2 == nt) os.length).map fun o => o * 5 + 4) := Lib.hid (by
    unfold snkP
    rw [hn, hou, ← sinks_pick, hS1, hf])
  have hS1m : ∀ j, j ∈ S1 → j < n := fun j hj => ((sinks_mem _ ce n j).1 (by rw [hS1]; exact hj)).1
  have hS1l : S1.length ≤ n := by rw [← hS1]; exact sinks_len _ ce n
  have HS1M := Lib.hid hS1m
  clear ho hU hp hbw hn hpn hbl hon hov hS1 hf hS1m hou
  go_enter Try.func157, Try.ntmps157
  go_upto_region 1 with fail
  generalize w.alloc (.cells #[.int .i64 (m : Int), .slice nA nl nc, .slice gA gl gc, .slice oA os.length oc] 108) = w1 at *
  go_upto_region 2 with fail
  have hba : Below w1.heap.size w1 (w1.alloc (.cells #[] 3)) := (Below.refl _ _).alloc (Nat.le_refl _) _
  have HT0 : Hid (TimesAt (w1.alloc (.cells #[] 3)) w1.heap.size [] w1.heap.size 0) := Lib.hid (World.ownsRow_lit (base := w1.heap.size) (e := 3) (size := 1) w1 #[] 0 (Nat.le_refl _) (by simp [maxLen]) (by simp))
  have HX2 := Lib.hid hba
  have hz2 : (w1.alloc (.cells #[] 3)).heap.size = w1.heap.size + 1 := by simp
  generalize w1.alloc (.cells #[] 3) = w2 at *
  generalize hNN : w1.heap.size = N at *
  have hNP : N < w2.heap.size := by omega
  have HNN := Lib.hid hNN
  clear hba hz2 hNN
  go_wp2_with fail
  refine (ssinks_any AC n cc ce ((nt : Nat) : Int) _ ((HU.out.below HX2.out).mono (by omega)) HCN.out hn17 HBL.out HON.out).mono ?_
  rintro e w3 ⟨gl1, cl1, rfl, ht3, hb3⟩
  rw [HS1.out] at ht3 ⊢
  have HL1 := Lib.hid ht3
  have hPQ : w2.heap.size ≤ w3.heap.size := hb3.size
  have HX3 := Lib.hid (HX2.out.trans (hb3.mono (by omega)))
  have HT3 := Lib.hid (HT0.out.keep (hb3.block N (by omega)))
  obtain ⟨sl, hsl⟩ : ∃ sl, S1.length = sl := ⟨_, rfl⟩
  rw [hsl] at hS1l ⊢
  have HSL := Lib.hid hsl
  generalize hP : w2.heap.size = P at *
  clear hP ht3 hb3 HT0 HX2 hsl
  go_upto_region 4 with fail
  go_loopw [9, 11] (fun sv iv wr => ∃ (k g cap : Nat), k ≤ sl ∧ iv = .int .i64 k ∧ sv = .slice (some ⟨g, 0, none⟩) k cap ∧ Hid (TimesAt wr N ((S1.map f).take k) g cap) ∧ Hid (∀ b, P ≤ b → b < w3.heap.size → wr.heap[b]? = w3.heap[b]?) ∧ (g < P ∨ w3.heap.size ≤ g) ∧ w3.heap.size ≤ wr.heap.size ∧ Hid (Below N w1 wr)) (fun _ iv _ => sl - (intOf iv).toNat)
  case atStart => exact ⟨0, _, _, Nat.zero_le _, rfl, rfl, HT3, Lib.hid (fun _ _ _ => rfl), by omega, Nat.le_refl _, HX3⟩
  case round =>
    clear HT3 HX3
    obtain ⟨k, g, cap, hk, rfl, rfl, HT, HK, hgo, hQr, HX⟩ := hrel
    by_cases hlt : k < sl
    · have hgl1 := HL1.out.gb
      have HLr := Lib.hid (HL1.out.keep (w' := wr) (HK.out gl1 hgl1.1 hgl1.2))
      obtain ⟨b, off, hbo, hbl, hcl⟩ := HLr.out.ints k (by rw [Opt.intL_len, HSL.out]; exact hlt)
      injection hbo with hbo
      injection hbo with y1 y2
      subst y1 y2
      rw [Nat.zero_add, Opt.intL_at] at hcl
      have hjn := HS1M.out (S1.getD k 0) (memD0 (by rw [HSL.out]; exact hlt))
      have HST : Hid ((S1.map f).take (k + 1) = (S1.map f).take k ++ [f (S1.getD k 0)]) := Lib.hid (by
        have hkl : k < S1.length := by rw [HSL.out]; exact hlt
        rw [List.take_succ_eq_append_getElem (by rw [List.length_map]; exact hkl)]
        simp [List.getD_eq_getElem?_getD, hkl])
      have HTL : Hid (((S1.map f).take k).length = k) := Lib.hid (by rw [List.length_take, List.length_map, HSL.out]; omega)
      generalize S1.getD k 0 = j at *
      obtain ⟨b2, off2, rfl, hbl2, hcp⟩ := HP.out j (by rw [Opt.intL_len, HPN.out]; exact hjn)
      rw [Opt.intL_at] at hcp
      have hcp := (HX.out.cell (p := ⟨b2, off2 + j, none⟩) hbl2).trans hcp
      have hfe : p.getD j 0 = f j := by rw [← HFE.out]
      rw [hfe] at hcp
      have hk0 : (0 : Int) ≤ (j : Int) := by omega
      have hk1 : (j : Int) < (n : Int) := by omega
      have hgb := HT.out.gb
      clear hfe
      generalize f j = t at *
      go_wp2_with (at_builtin; refine wpList_pushT rfl (.tmp 26) (.tmp 34) rfl _ N g cap k ((S1.map f).take k) rfl HTL.out HT.out (by omega) t _ rfl rfl ?_)
      intro g' cap' w5 hT5 hb5 hk5 hg5
      have HT5 : Hid (TimesAt w5 N ((S1.map f).take (k + 1)) g' cap') := Lib.hid (by rw [HST.out]; exact hT5)
      have HX5 := Lib.hid (HX.out.trans hb5)
      have HK5 : Hid (∀ b, P ≤ b → b < w3.heap.size → w5.heap[b]? = w3.heap[b]?) := Lib.hid (fun b h1 h2 => by rw [hk5 b (by omega) (by omega), HK.out b h1 h2])
      have hgo5 : g' < P ∨ w3.heap.size ≤ g' := by omega
      have hw5 : w3.heap.size ≤ w5.heap.size := by have := hb5.size; omega
      clear hT5 hb5 hk5 hg5 hcl hcp
      go_wp2
      go_roundw
      case rel => exact ⟨k + 1, g', cap', by omega, by go_num, rfl, HT5, HK5, hgo5, hw5, HX5⟩
      case measure => simp [intOf]; omega
    · obtain rfl : k = sl := by omega
      have HTA : Hid (TimesAt wr N (S1.map f ++ (pickTo (fun o => ou.getD o 0 / 2 == nt) 0).map fun o => o * 5 + 4) g cap) := Lib.hid (by
        have h := HT.out
        rw [List.take_of_length_le (by rw [List.length_map, HSL.out]; exact Nat.le_refl _)] at h
        show TimesAt wr N (S1.map f ++ []) g cap
        rw [List.append_nil]
        exact h)
      have HLA : Hid ((S1.map f ++ (pickTo (fun o => ou.getD o 0 / 2 == nt) 0).map fun o => o * 5 + 4).length = k) := Lib.hid (by simp [pickTo, HSL.out])
      have HBX := Lib.hid (HB0.out.below HX.out hlt0)
      have q3 := HBX.out.c3
      clear HT HK hgo
      go_upto_region 8 with fail
      clear q3 HBX
      go_loopw [9, 12] (fun sv iv wr => ∃ (z l g cap : Nat), z ≤ os.length ∧ iv = .int .i64 z ∧ sv = .slice (some ⟨g, 0, none⟩) l cap ∧ l ≤ 17 + z ∧ Hid ((S1.map f ++ (pickTo (fun o => ou.getD o 0 / 2 == nt) z).map fun o => o * 5 + 4).length = l) ∧ Hid (TimesAt wr N (S1.map f ++ (pickTo (fun o => ou.getD o 0 / 2 == nt) z).map fun o => o * 5 + 4) g cap) ∧ Hid (Below N w1 wr)) (fun _ iv _ => os.length - (intOf iv).toNat)
      case atStart => exact ⟨0, k, g, cap, Nat.zero_le _, rfl, rfl, by omega, HLA, HTA, HX⟩
      case round =>
        clear HTA HLA HX
        obtain ⟨z, l, g, cap, hz, rfl, rfl, hl17, HL, HT, HX⟩ := hrel
        have HBX := Lib.hid (HB0.out.below HX.out hlt0)
        have q0 := HBX.out.c0
        have q3 := HBX.out.c3
        by_cases hltz : z < os.length
        · obtain ⟨b, off, rfl, hbl, hcell⟩ := HO.out z hltz
          have hcell := (HX.out.cell (p := ⟨b, off + z, none⟩) hbl).trans hcell
          obtain ⟨hov1, hov2⟩ := HOV.out z hltz
          rw [hov1] at hcell
          clear hov1
          have HST : Hid ((S1.map f ++ (pickTo (fun o => ou.getD o 0 / 2 == nt) (z + 1)).map fun o => o * 5 + 4) = (S1.map f ++ (pickTo (fun o => ou.getD o 0 / 2 == nt) z).map fun o => o * 5 + 4) ++ (if (ou.getD z 0 / 2 == nt) = true then [z * 5 + 4] else [])) := Lib.hid (by
            rw [pickTo_succ, List.map_append, List.append_assoc]
            congr 2
            split <;> rfl)
          have hk0 : (0 : Int) ≤ (z : Int) := Int.natCast_nonneg _
          have hk1 : (z : Int) < (os.length : Int) := by omega
          generalize ou.getD z 0 = lit at *
          obtain ⟨u, hu⟩ : ∃ u, lit / 2 = u := ⟨_, rfl⟩
          rw [hu] at HST
          have hu5 : u ≤ 500 := by omega
          have e1 : (lit : Int).tdiv 2 = (u : Int) := by rw [Int.tdiv_eq_ediv_of_nonneg (by omega)]; omega
          have hgb := HT.out.gb
          clear hu
          by_cases he : u = nt
          · subst he
            have HS5 : Hid ((S1.map f ++ (pickTo (fun o => ou.getD o 0 / 2 == u) (z + 1)).map fun o => o * 5 + 4) = (S1.map f ++ (pickTo (fun o => ou.getD o 0 / 2 == u) z).map fun o => o * 5 + 4) ++ [z * 5 + 4]) := Lib.hid (by rw [HST.out]; simp)
            clear HST
            generalize hL5 : (S1.map f ++ (pickTo (fun o => ou.getD o 0 / 2 == u) (z + 1)).map fun o => o * 5 + 4) = L5 at *
            generalize (S1.map f ++ (pickTo (fun o => ou.getD o 0 / 2 == u) z).map fun o => o * 5 + 4) = L4 at *
            have HL5 := Lib.hid hL5
            clear hL5
            have hz5 : (z : Int) * 5 + 5 - 1 = ((z * 5 + 4 : Nat) : Int) := by omega
            have HZ5 := Lib.hid hz5
            clear hz5
            go_upto_region 11 with fail
            go_wp2_with (at_builtin; refine wpList_pushT rfl (.tmp 51) (.tmp 56) rfl _ N g cap l L4 rfl HL.out HT.out (by omega) (z * 5 + 4) _ HZ5.out rfl ?_)
            intro g' cap' w5 hT5 hb5 hk5 hg5
            have HT5 : Hid (TimesAt w5 N L5 g' cap') := Lib.hid (by rw [HS5.out]; exact hT5)
            have HX5 := Lib.hid (HX.out.trans hb5)
            have HL6 : Hid (L5.length = l + 1) := Lib.hid (by rw [HS5.out, List.length_append, HL.out]; rfl)
            clear hT5 hb5 hk5 hg5 hcell q0 q3 HBX e1
            go_wp2
            go_roundw
            case rel => exact ⟨z + 1, l + 1, g', cap', by omega, by go_num, rfl, by omega, by rw [HL5.out]; exact HL6, by rw [HL5.out]; exact HT5, HX5⟩
            case measure => simp [intOf]; omega
          · have HS5 : Hid ((S1.map f ++ (pickTo (fun o => ou.getD o 0 / 2 == nt) (z + 1)).map fun o => o * 5 + 4) = (S1.map f ++ (pickTo (fun o => ou.getD o 0 / 2 == nt) z).map fun o => o * 5 + 4)) := Lib.hid (by rw [HST.out, if_neg (by simpa using he), List.append_nil])
            have hbe : (u == nt) = false := by rw [beq_eq_false_iff_ne]; exact he
            have hbi : ((u : Int) == (nt : Int)) = false := by rw [beq_eq_false_iff_ne]; omega
            clear HST
            go_wp2
            clear hcell q0 q3 HBX e1 hbe hbi he
            go_roundw
            case rel => exact ⟨z + 1, l, g, cap, by omega, by go_num, rfl, by omega, by rw [HS5.out]; exact HL, by rw [HS5.out]; exact HT, HX⟩
            case measure => simp [intOf]; omega
        · obtain rfl : z = os.length := by omega
          rw [← HSN.out] at HL HT
          obtain ⟨SK, hSK⟩ : ∃ SK, snkP ou ce p nt = SK := ⟨_, rfl⟩
          rw [hSK] at HL HT
          have HSK := Lib.hid hSK
          clear hSK
          have hgb := HT.out.gb
          obtain ⟨Q0, hQ0⟩ : ∃ Q0, wr.heap.size = Q0 := ⟨_, rfl⟩
          have hQN : N ≤ Q0 := by have := HX.out.size; omega
          by_cases hl0 : l = 0
          · subst hl0
            have HE : Hid (pinsP m ou ce p nt = []) := Lib.hid (by
              unfold pinsP
              rw [if_pos (by rw [HSK.out]; exact List.eq_nil_of_length_eq_zero HL.out)])
            have HF : Hid (TimesAt (wr.alloc (.cells #[] 3)) w.heap.size [] wr.heap.size 0) := Lib.hid (World.ownsRow_lit (base := w.heap.size) (e := 3) (size := 1) wr #[] 0 (by omega) (by simp [maxLen]) (by simp))
            have HXF := Lib.hid ((HL0.out.trans (HX.out.mono (by omega))).alloc (by omega) (.cells #[] 3))
            rw [hQ0] at HF
            go_wp2
            go_ret
            exact ⟨Q0, 0, by rw [HE.out]; rfl, by rw [HE.out]; exact HF.out, HXF.out⟩
          · have HE : Hid (pinsP m ou ce p nt = addTo (srcP m ce p nt) SK) := Lib.hid (by
              unfold pinsP
              rw [if_neg (by rw [HSK.out]; intro e; rw [e] at HL; exact hl0 HL.out.symm), HSK.out])
            have hl0b : ((l : Int) == 0) = false := by rw [beq_eq_false_iff_ne]; omega
            obtain ⟨A0, hA0⟩ : ∃ A0, (if 1 ≤ nt ∧ nt ≤ m then [(nt - 1) * 5] else []) = A0 := ⟨_, rfl⟩
            have HSR : Hid (srcP m ce p nt = A0 ++ (pickTo (fun j => (ce.getD j (0, [], 0, false)).1 == nt) n).map f) := Lib.hid (by
              unfold srcP
              rw [hA0, HCN.out, HFE.out])
            have HA0 := Lib.hid hA0
            have hba : Below wr.heap.size wr (wr.alloc (.cells #[] 3)) := (Below.refl _ _).alloc (Nat.le_refl _) _
            have HO0 : Hid (TimesAt (wr.alloc (.cells #[] 3)) wr.heap.size [] wr.heap.size 0) := Lib.hid (World.ownsRow_lit (base := wr.heap.size) (e := 3) (size := 1) wr #[] 0 (Nat.le_refl _) (by simp [maxLen]) (by simp))
            have HZ0 := Lib.hid hba
            have HIK := Lib.hid HT.out.ints
            rw [hQ0] at HO0 HZ0 HIK hgb
            clear hA0 hba HT
            have HBQ : Hid (Boxed wr w.heap.size (m : Int) nA gA oA nl nc gl gc os.length oc) := Lib.hid (HB0.out.below HX.out hlt0)
            go_upto_region 15 with fail
            clear hl0b
            generalize wr.alloc (.cells #[] 3) = w6 at *
            have HB6 := Lib.hid (HBQ.out.below HZ0.out (by omega))
            have q0 := HB6.out.c0
            have HBZ := Lib.hid hQ0
            clear HB6
            go_upto_if 70 with fail
            go_cut [13] (fun ov wx => ∃ (wz : World) (g2 cap2 l2 : Nat), wz = wx ∧ ov = .slice (some ⟨g2, 0, none⟩) l2 cap2 ∧ l2 ≤ 1 ∧ Hid (A0.length = l2) ∧ Hid (TimesAt wx Q0 A0 g2 cap2) ∧ Hid (Below Q0 wr wx))
            case first =>
              by_cases hnm : nt ≤ m
              · have HA1 : Hid (A0 = [(nt - 1) * 5]) := Lib.hid (by rw [← HA0.out, if_pos ⟨hnt, hnm⟩])
                have hz5 : ((nt : Int) - 1) * 5 = (((nt - 1) * 5 : Nat) : Int) := by omega
                have HZ5 := Lib.hid hz5
                have HLz : Hid (([] : List Nat).length = 0) := Lib.hid rfl
                clear hz5
                go_wp2_with (at_builtin; refine wpList_pushT rfl (.tmp 71) (.tmp 75) rfl _ Q0 Q0 0 0 [] rfl HLz.out HO0.out (by omega) ((nt - 1) * 5) _ HZ5.out rfl ?_)
                intro g' cap' w7 hT7 hb7 _ _
                replace hT7 : TimesAt w7 Q0 A0 g' cap' := by rw [HA1.out]; simpa using hT7
                go_wp2_with fail
                go_meet
                exact ⟨w7, g', cap', 1, rfl, rfl, Nat.le_refl _, Lib.hid (by rw [HA1.out]; rfl), Lib.hid hT7, Lib.hid (HZ0.out.trans hb7)⟩
              · have HA1 : Hid (A0 = []) := Lib.hid (by rw [← HA0.out, if_neg (fun h => hnm h.2)])
                go_wp2_with fail
                go_meet
                exact ⟨w6, Q0, 0, 0, rfl, rfl, Nat.zero_le _, Lib.hid (by rw [HA1.out]; rfl), Lib.hid (by rw [HA1.out]; exact HO0.out), HZ0⟩
            case rest =>
              obtain ⟨w7, g2, cap2, l2, hw7, rfl, hl2, HAL, HTA, HZ⟩ := hcut
              subst hw7
              clear HO0 HZ0 q0
              generalize wr = w5 at *
              have HTB : Hid (TimesAt w7 Q0 (A0 ++ (pickTo (fun j => (ce.getD j (0, [], 0, false)).1 == nt) 0).map f) g2 cap2) := Lib.hid (by
                show TimesAt w7 Q0 (A0 ++ []) g2 cap2
                rw [List.append_nil]
                exact HTA.out)
              have HLB : Hid ((A0 ++ (pickTo (fun j => (ce.getD j (0, [], 0, false)).1 == nt) 0).map f).length = l2) := Lib.hid (by
                show (A0 ++ []).length = l2
                rw [List.append_nil]
                exact HAL.out)
              clear HTA HAL
              go_upto_region 18 with fail
              go_loopw [13, 14] (fun ov iv wr => ∃ (d l g cap : Nat), d ≤ n ∧ iv = .int .i64 d ∧ ov = .slice (some ⟨g, 0, none⟩) l cap ∧ l ≤ 1 + d ∧ Hid ((A0 ++ (pickTo (fun j => (ce.getD j (0, [], 0, false)).1 == nt) d).map f).length = l) ∧ Hid (TimesAt wr Q0 (A0 ++ (pickTo (fun j => (ce.getD j (0, [], 0, false)).1 == nt) d).map f) g cap) ∧ Hid (Below Q0 w5 wr)) (fun _ iv _ => n - (intOf iv).toNat)
              case atStart => exact ⟨0, l2, g2, cap2, Nat.zero_le _, rfl, rfl, by omega, HLB, HTB, HZ⟩
              case round =>
                clear HTB HLB HZ
                obtain ⟨d, l3, g, cap, hd, rfl, rfl, hl3, HL3, HT, HZ⟩ := hrel
                by_cases hltd : d < n
                · obtain ⟨b, off, rfl, hbl, A', c', l0, l1, ⟨l2', l3'⟩, hlf⟩ := HU.out d (by rw [HCN.out]; exact hltd)
                  have l0 := ((HX.out.trans (HZ.out.mono hQN)).cell (p := ⟨b, off + d * 4, none⟩) hbl).trans l0
                  obtain ⟨b2, off2, rfl, hbl2, hcp⟩ := HP.out d (by rw [Opt.intL_len, HPN.out]; exact hltd)
                  rw [Opt.intL_at] at hcp
                  have hcp := ((HX.out.trans (HZ.out.mono hQN)).cell (p := ⟨b2, off2 + d, none⟩) hbl2).trans hcp
                  have hfe : p.getD d 0 = f d := by rw [← HFE.out]
                  rw [hfe] at hcp
                  have HST : Hid ((A0 ++ (pickTo (fun j => (ce.getD j (0, [], 0, false)).1 == nt) (d + 1)).map f) = (A0 ++ (pickTo (fun j => (ce.getD j (0, [], 0, false)).1 == nt) d).map f) ++ (if ((ce.getD d (0, [], 0, false)).1 == nt) = true then [f d] else [])) := Lib.hid (by
                    rw [pickTo_succ, List.map_append, List.append_assoc]
                    congr 2
                    split <;> rfl)
                  have hk0 : (0 : Int) ≤ (d : Int) := Int.natCast_nonneg _
                  have hk1 : (d : Int) < (n : Int) := by omega
                  clear l1 l2' l3' hlf hfe
                  generalize (ce.getD d (0, [], 0, false)).1 = u at *
                  generalize f d = t at *
                  have hgb := HT.out.gb
                  by_cases he : u = nt
                  · subst he
                    have HS5 : Hid ((A0 ++ (pickTo (fun j => (ce.getD j (0, [], 0, false)).1 == u) (d + 1)).map f) = (A0 ++ (pickTo (fun j => (ce.getD j (0, [], 0, false)).1 == u) d).map f) ++ [t]) := Lib.hid (by rw [HST.out]; simp)
                    clear HST
                    generalize hL5 : (A0 ++ (pickTo (fun j => (ce.getD j (0, [], 0, false)).1 == u) (d + 1)).map f) = L5 at *
                    generalize (A0 ++ (pickTo (fun j => (ce.getD j (0, [], 0, false)).1 == u) d).map f) = L4 at *
                    have HL5 := Lib.hid hL5
                    clear hL5
                    go_upto_region 21 with fail
                    go_wp2_with (at_builtin; refine wpList_pushT rfl (.tmp 90) (.tmp 95) rfl _ Q0 g cap l3 L4 rfl HL3.out HT.out (by omega) t _ rfl rfl ?_)
                    intro g' cap' w8 hT5 hb5 hk5 hg5
                    have HT5 : Hid (TimesAt w8 Q0 L5 g' cap') := Lib.hid (by rw [HS5.out]; exact hT5)
                    have HZ5 := Lib.hid (HZ.out.trans hb5)
                    have HL6 : Hid (L5.length = l3 + 1) := Lib.hid (by rw [HS5.out, List.length_append, HL3.out]; rfl)
                    clear hT5 hb5 hk5 hg5 l0 hcp
                    go_wp2
                    go_roundw
                    case rel => exact ⟨d + 1, l3 + 1, g', cap', by omega, by go_num, rfl, by omega, by rw [HL5.out]; exact HL6, by rw [HL5.out]; exact HT5, HZ5⟩
                    case measure => simp [intOf]; omega
                  · have HS5 : Hid ((A0 ++ (pickTo (fun j => (ce.getD j (0, [], 0, false)).1 == nt) (d + 1)).map f) = (A0 ++ (pickTo (fun j => (ce.getD j (0, [], 0, false)).1 == nt) d).map f)) := Lib.hid (by rw [HST.out, if_neg (by simpa using he), List.append_nil])
                    have hbe : (u == nt) = false := by rw [beq_eq_false_iff_ne]; exact he
                    have hbi : ((u : Int) == (nt : Int)) = false := by rw [beq_eq_false_iff_ne]; omega
                    clear HST
                    go_wp2
                    clear l0 hcp hbe hbi he
                    go_roundw
                    case rel => exact ⟨d + 1, l3, g, cap, by omega, by go_num, rfl, by omega, by rw [HS5.out]; exact HL3, by rw [HS5.out]; exact HT, HZ⟩
                    case measure => simp [intOf]; omega
                · obtain rfl : d = n := by omega
                  obtain ⟨SR, hSR⟩ : ∃ SR, srcP m ce p nt = SR := ⟨_, rfl⟩
                  rw [← HSR.out, hSR] at HL3 HT
                  rw [hSR] at HE
                  clear HSR hSR
                  have HLC : Hid ((addTo SR (SK.take 0)).length = l3) := HL3
                  have HTC : Hid (TimesAt wr Q0 (addTo SR (SK.take 0)) g cap) := HT
                  clear HT HL3
                  go_upto_region 23 with fail
                  go_loopw [13, 15] (fun ov iv wr => ∃ (e l2 g cap : Nat), e ≤ l ∧ iv = .int .i64 e ∧ ov = .slice (some ⟨g, 0, none⟩) l2 cap ∧ l2 ≤ 18 + e ∧ Hid ((addTo SR (SK.take e)).length = l2) ∧ Hid (TimesAt wr Q0 (addTo SR (SK.take e)) g cap) ∧ Hid (Below Q0 w5 wr)) (fun _ iv _ => l - (intOf iv).toNat)
                  case atStart => exact ⟨0, l3, g, cap, Nat.zero_le _, rfl, rfl, by omega, HLC, HTC, HZ⟩
                  case round =>
                    clear HTC HLC HZ
                    obtain ⟨e, l4, g, cap, he, rfl, rfl, hl4, HL4, HT, HZ⟩ := hrel
                    by_cases hlte : e < l
                    · have HKr := Lib.hid (HIK.out.below HZ.out)
                      obtain ⟨b, off, hbo, hbl, hcs⟩ := HKr.out e (by rw [Opt.intL_len, HL.out]; exact hlte)
                      injection hbo with hbo
                      injection hbo with y1 y2
                      subst y1 y2
                      rw [Nat.zero_add, Opt.intL_at] at hcs
                      have HST : Hid (addTo SR (SK.take (e + 1)) = if (addTo SR (SK.take e)).contains (SK.getD e 0) = true then addTo SR (SK.take e) else addTo SR (SK.take e) ++ [SK.getD e 0]) := Lib.hid (by
                        have hel : e < SK.length := by rw [HL.out]; exact hlte
                        rw [List.take_succ_eq_append_getElem hel, addTo_snoc]
                        simp [List.getD_eq_getElem?_getD, hel])
                      have hk0 : (0 : Int) ≤ (e : Int) := Int.natCast_nonneg _
                      have hk1 : (e : Int) < (l : Int) := by omega
                      generalize SK.getD e 0 = t at *
                      generalize hL5 : addTo SR (SK.take (e + 1)) = L5 at *
                      generalize addTo SR (SK.take e) = L4 at *
                      have HL5 := Lib.hid hL5
                      have hgb := HT.out.gb
                      have HHI := Lib.hid HT.out.ints
                      clear hL5 HKr
                      go_wp2_with fail
                      refine (l7Has_any _ l4 cap _ (Opt.intL L4) (t : Int) _ HHI.out (by rw [Opt.intL_len]; exact HL4.out) (by omega)).mono ?_
                      rintro ev w8 ⟨rfl, hw8⟩
                      obtain rfl := hw8
                      rw [contains_nat]
                      cases hct : L4.contains t
                      · have HS5 : Hid (L5 = L4 ++ [t]) := Lib.hid (by rw [HST.out, hct]; rfl)
                        clear HST hct HHI
                        go_upto_region 26 with fail
                        go_wp2_with (at_builtin; refine wpList_pushT rfl (.tmp 110) (.tmp 115) rfl _ Q0 g cap l4 L4 rfl HL4.out HT.out (by omega) t _ rfl rfl ?_)
                        intro g' cap' w8 hT5 hb5 hk5 hg5
                        have HT5 : Hid (TimesAt w8 Q0 L5 g' cap') := Lib.hid (by rw [HS5.out]; exact hT5)
                        have HZ5 := Lib.hid (HZ.out.trans hb5)
                        have HL6 : Hid (L5.length = l4 + 1) := Lib.hid (by rw [HS5.out, List.length_append, HL4.out]; rfl)
                        clear hT5 hb5 hk5 hg5 hcs
                        go_wp2
                        go_roundw
                        case rel => exact ⟨e + 1, l4 + 1, g', cap', by omega, by go_num, rfl, by omega, by rw [HL5.out]; exact HL6, by rw [HL5.out]; exact HT5, HZ5⟩
                        case measure => simp [intOf]; omega
                      · have HS5 : Hid (L5 = L4) := Lib.hid (by rw [HST.out, hct]; rfl)
                        clear HST hct HHI hcs
                        go_wp2
                        go_roundw
                        case rel => exact ⟨e + 1, l4, g, cap, by omega, by go_num, rfl, by omega, by rw [HL5.out, HS5.out]; exact HL4, by rw [HL5.out, HS5.out]; exact HT, HZ⟩
                        case measure => simp [intOf]; omega
                    · obtain rfl : e = l := by omega
                      have HTF : Hid (TimesAt wr w.heap.size (pinsP m ou ce p nt) g cap) := Lib.hid (by
                        have h := HT.out
                        rw [List.take_of_length_le (by rw [HL.out]; exact Nat.le_refl _), ← HE.out] at h
                        exact own_low2 (n := (pinsP m ou ce p nt).length) h (by omega))
                      have HLF : Hid ((pinsP m ou ce p nt).length = l4) := Lib.hid (by
                        have h := HL4.out
                        rw [List.take_of_length_le (by rw [HL.out]; exact Nat.le_refl _), ← HE.out] at h
                        exact h)
                      have HXF := Lib.hid (HL0.out.trans ((HX.out.trans (HZ.out.mono hQN)).mono (by omega)))
                      go_wp2
                      go_ret
                      exact ⟨g, cap, ret_slice HLF.out.symm, HTF.out, HXF.out⟩
end Go.Proofs.Ytkkkkalgfmddbaa
/- The wire length: what the pins of a net have to do with the model's; sums. -/
namespace Plc
theorem addTo_len : ∀ (ts out : List Nat), (addTo out ts).length ≤ out.length + ts.length
  | [], out => by simp [addTo]
  | t :: r, out => by
    show (addTo (if out.contains t = true then out else out ++ [t]) r).length ≤ _
    have := addTo_len r (if out.contains t = true then out else out ++ [t])
    split at this
    · next h => rw [if_pos h]; simp; omega
    · next h => rw [if_neg h]; simp at this ⊢; omega
theorem pinsP_len (m : Nat) (os : List Nat) (ce : List Ce) (p : List Nat) (net : Nat) : (pinsP m os ce p net).length ≤ 1 + ce.length + ce.length + os.length := by
  unfold pinsP
  split
  · simp
  · have h1 := addTo_len (snkP os ce p net) (srcP m ce p net)
    have h2 : (srcP m ce p net).length ≤ 1 + ce.length := by
      unfold srcP
      rw [List.length_append, List.length_map]
      have := pickTo_len (fun j => (ce.getD j (0, [], 0, false)).1 == net) ce.length
      split
      · show 1 + _ ≤ 1 + ce.length; omega
      · show 0 + _ ≤ 1 + ce.length; omega
    have h3 : (snkP os ce p net).length ≤ ce.length + os.length := by
      unfold snkP
      rw [List.length_append, List.length_map, List.length_map]
      have := pickTo_len (fun j => (ce.getD j (0, [], 0, false)).2.1.contains net) ce.length
      have := pickTo_len (fun o => os.getD o 0 / 2 == net) os.length
      omega
    omega
/-- One tile, however often, has no length. -/
theorem dist_one {ts : List Nat} (h : ∀ x y, x ∈ ts → y ∈ ts → x = y) (hl : ∀ x, x ∈ ts → x ≤ 24) : dist ts = 0 := by
  cases ts with
  | nil => rfl
  | cons t r =>
    have ht := hl t (by simp)
    rw [dist_ext (b := [t]) (fun x => ⟨fun hx => by rw [h x t hx (by simp)]; simp, fun hx => by simp at hx; subst hx; simp⟩), dist_first [] ht]
    simp [hi, lo]
/-- Tiles of pins. -/
theorem tile_in (p : List Nat) (t : Nat) : tileP p (inP t) = t * 5 := by
  unfold tileP inP
  rw [if_pos rfl]
  rfl
theorem tile_ou (p : List Nat) (t : Nat) : tileP p (ouP t) = t * 5 + 4 := by
  unfold tileP ouP
  rw [if_pos rfl]
  rfl
theorem tile_ce (p : List Nat) (t : Nat) : tileP p (ceP t) = p.getD t 0 := by
  unfold tileP ceP
  rw [if_neg (by show ¬ ((t : Int) = -1); omega)]
  rfl
theorem srcP_mem (m : Nat) (ce : List Ce) (p : List Nat) (v x : Nat) : x ∈ srcP m ce p v ↔ (1 ≤ v ∧ v ≤ m ∧ x = (v - 1) * 5) ∨ ∃ j, j < ce.length ∧ (ce.getD j (0, [], 0, false)).1 = v ∧ x = p.getD j 0 := by
  unfold srcP
  rw [List.mem_append, List.mem_map]
  apply or_congr
  · split
    · next h => simp [h]
    · next h => simp; intro h1 h2; exact absurd ⟨h1, h2⟩ h
  · constructor
    · rintro ⟨j, hj, e⟩
      obtain ⟨h1, h2⟩ := (pickTo_mem _ _ j).1 hj
      exact ⟨j, h1, by simpa using h2, e.symm⟩
    · rintro ⟨j, h1, h2, e⟩
      exact ⟨j, (pickTo_mem _ _ j).2 ⟨h1, by simpa using h2⟩, e.symm⟩
theorem snkP_mem (os : List Nat) (ce : List Ce) (p : List Nat) (v x : Nat) : x ∈ snkP os ce p v ↔ (∃ j, j < ce.length ∧ v ∈ (ce.getD j (0, [], 0, false)).2.1 ∧ x = p.getD j 0) ∨ ∃ o, o < os.length ∧ os.getD o 0 / 2 = v ∧ x = o * 5 + 4 := by
  unfold snkP
  rw [List.mem_append, List.mem_map, List.mem_map]
  apply or_congr
  · constructor
    · rintro ⟨j, hj, e⟩
      obtain ⟨h1, h2⟩ := (pickTo_mem _ _ j).1 hj
      exact ⟨j, h1, by simpa using h2, e.symm⟩
    · rintro ⟨j, h1, h2, e⟩
      exact ⟨j, (pickTo_mem _ _ j).2 ⟨h1, by simpa using h2⟩, e.symm⟩
  · constructor
    · rintro ⟨j, hj, e⟩
      obtain ⟨h1, h2⟩ := (pickTo_mem _ _ j).1 hj
      exact ⟨j, h1, by simpa using h2, e.symm⟩
    · rintro ⟨j, h1, h2, e⟩
      exact ⟨j, (pickTo_mem _ _ j).2 ⟨h1, by simpa using h2⟩, e.symm⟩
/-- The tiles of a net's pins. -/
theorem tiles_mem {m : Nat} {os : List Nat} {ce : List Ce} {p : List Nat} {v x : Nat} (hv : v ≠ 0) : (∃ q, pinR m ce os v q ∧ tileP p q = x) ↔ x ∈ srcP m ce p v ∨ x ∈ snkP os ce p v := by
  rw [srcP_mem, snkP_mem]
  constructor
  · rintro ⟨q, ((⟨t, h1, h2, rfl⟩ | ⟨t, h1, h2, rfl⟩) | ⟨t, h1, h2, rfl⟩) | ⟨t, h1, h2, h3, rfl⟩, e⟩
    · rw [tile_in] at e
      exact .inl (.inl ⟨by omega, by omega, by rw [← e, h2]; simp⟩)
    · rw [tile_ce] at e
      exact .inl (.inr ⟨t, h1, h2.symm, e.symm⟩)
    · rw [tile_ce] at e
      exact .inr (.inl ⟨t, h1, h2, e.symm⟩)
    · rw [tile_ou] at e
      exact .inr (.inr ⟨t, h1, h2.symm, e.symm⟩)
  · rintro ((⟨h1, h2, h3⟩ | ⟨j, h1, h2, h3⟩) | (⟨j, h1, h2, h3⟩ | ⟨j, h1, h2, h3⟩))
    · exact ⟨inP (v - 1), .inl (.inl (.inl ⟨v - 1, by omega, by omega, rfl⟩)), by rw [tile_in, h3]⟩
    · exact ⟨ceP j, .inl (.inl (.inr ⟨j, h1, h2.symm, rfl⟩)), by rw [tile_ce, h3]⟩
    · exact ⟨ceP j, .inl (.inr ⟨j, h1, h2, rfl⟩), by rw [tile_ce, h3]⟩
    · exact ⟨ouP j, .inr ⟨j, h1, h2.symm, hv, rfl⟩, by rw [tile_ou, h3]⟩
/-- What is known of a circuit's nets. -/
structure NetOk (m n N : Nat) (ce : List Ce) (ou : List Nat) : Prop where
  len : ce.length = n
  n17 : n ≤ 17
  m4 : m ≤ 4
  N25 : N ≤ 25
  mN : m < N
  ol : ou.length ≤ 3
  ov : ∀ k, k < ou.length → ou.getD k 0 / 2 < N
  net : ∀ k, k < n → m < (ce.getD k (0, [], 0, false)).1 ∧ (ce.getD k (0, [], 0, false)).1 < N
  up : ∀ j k, j < k → k < n → (ce.getD j (0, [], 0, false)).1 < (ce.getD k (0, [], 0, false)).1
  inp : ∀ k, k < n → ∀ l, l ∈ (ce.getD k (0, [], 0, false)).2.1 → 0 < l ∧ l < N
  il : ∀ k, k < n → (ce.getD k (0, [], 0, false)).2.1.length ≤ 3
  once : ∀ k, k < n → Cut.Once (ce.getD k (0, [], 0, false)).2.1
theorem pinR_ok {m n N : Nat} {ce : List Ce} {ou : List Nat} (h : NetOk m n N ce ou) {v : Nat} {x : Pn} (hx : pinR m ce ou v x) : okPin n x := by
  have h0 := h.len
  have h1 := h.m4
  have h2 := h.ol
  rcases hx with ((⟨t, h3, _, rfl⟩ | ⟨t, h3, _, rfl⟩) | ⟨t, h3, _, rfl⟩) | ⟨t, h3, _, _, rfl⟩
  · exact .inl ⟨rfl, by show (0 : Int) ≤ ((t * 5 : Nat) : Int); omega, by show ((t * 5 : Nat) : Int) ≤ 24; omega⟩
  · exact .inr ⟨by show (0 : Int) ≤ ((t : Nat) : Int); omega, by show ((t : Nat) : Int) < n; omega⟩
  · exact .inr ⟨by show (0 : Int) ≤ ((t : Nat) : Int); omega, by show ((t : Nat) : Int) < n; omega⟩
  · exact .inl ⟨rfl, by show (0 : Int) ≤ ((t * 5 + 4 : Nat) : Int); omega, by show ((t * 5 + 4 : Nat) : Int) ≤ 24; omega⟩
/-- The program's length of a net is the model's. -/
theorem net_len {m n N : Nat} {ce : List Ce} {ou : List Nat} (h : NetOk m n N ce ou) {ps : List (List Pn)} (hps : Pins ps (pinR m ce ou)) {p : List Nat} (hp : Pl n p) (v : Nat) : lenP p (ps.getD v []) = if v = 0 then 0 else dist (pinsP m ou ce p v) := by
  have hT : ∀ x, x ∈ (ps.getD v []).map (tileP p) ↔ ∃ q, pinR m ce ou v q ∧ tileP p q = x := fun x => by
    rw [List.mem_map]
    exact ⟨fun ⟨q, h1, h2⟩ => ⟨q, (hps v q).1 h1, h2⟩, fun ⟨q, h1, h2⟩ => ⟨q, (hps v q).2 h1, h2⟩⟩
  have h24 : ∀ x, x ∈ (ps.getD v []).map (tileP p) → x ≤ 24 := fun x hx => by
    obtain ⟨q, h1, rfl⟩ := (hT x).1 hx
    exact tileP_le (pinR_ok h h1) hp.le
  unfold lenP
  split
  · next e =>
    subst e
    have : ps.getD 0 [] = [] := by
      cases hq : ps.getD 0 [] with
      | nil => rfl
      | cons q r =>
        have hm : q ∈ ps.getD 0 [] := by rw [hq]; simp
        rcases (hps 0 q).1 hm with ((⟨t, h3, h4, _⟩ | ⟨t, h3, h4, _⟩) | ⟨t, h3, h4, _⟩) | ⟨t, h3, _, h4, _⟩
        · omega
        · have := (h.net t (by rw [← h.len]; exact h3)).1
          omega
        · have := (h.inp t (by rw [← h.len]; exact h3) _ h4).1
          omega
        · exact absurd rfl h4
    rw [this]
    rfl
  · next hv =>
    by_cases hs : snkP ou ce p v = []
    · have e : pinsP m ou ce p v = [] := by unfold pinsP; rw [if_pos hs]
      rw [e]
      show dist _ = 0
      refine dist_one (fun x y hx hy => ?_) h24
      rw [hT, tiles_mem hv, hs, srcP_mem] at hx hy
      simp only [List.not_mem_nil, or_false] at hx hy
      rcases hx with ⟨a1, a2, a3⟩ | ⟨j, a1, a2, a3⟩
      · rcases hy with ⟨b1, b2, b3⟩ | ⟨k, b1, b2, b3⟩
        · rw [a3, b3]
        · have := (h.net k (by rw [← h.len]; exact b1)).1
          omega
      · rcases hy with ⟨b1, b2, b3⟩ | ⟨k, b1, b2, b3⟩
        · have := (h.net j (by rw [← h.len]; exact a1)).1
          omega
        · have hjk : j = k := by
            rcases Nat.lt_trichotomy j k with c | c | c
            · have := h.up j k c (by rw [← h.len]; exact b1)
              omega
            · exact c
            · have := h.up k j c (by rw [← h.len]; exact a1)
              omega
          rw [a3, b3, hjk]
    · exact dist_ext (fun x => by rw [hT, tiles_mem hv, pinsP_mem]; exact ⟨fun a => ⟨hs, a⟩, fun a => a.2⟩)
/-- The sum of the first k. -/
def sumB (d : Nat → Nat) : Nat → Nat
  | 0 => 0
  | k + 1 => sumB d k + d k
theorem sumB_sumTo (d e : Nat → Nat) (h0 : d 0 = 0) (h : ∀ v, v ≠ 0 → d v = e v) : ∀ z, sumB d (z + 1) = sumTo e z
  | 0 => by simp [sumB, sumTo, h0]
  | z + 1 => by
    show sumB d (z + 1) + d (z + 1) = sumTo e z + e (z + 1)
    rw [sumB_sumTo d e h0 h z, h (z + 1) (by omega)]
theorem sumB_le {d : Nat → Nat} {b : Nat} (h : ∀ v, d v ≤ b) : ∀ k, sumB d k ≤ b * k
  | 0 => by simp [sumB]
  | k + 1 => by
    have := sumB_le h k
    have := h k
    simp only [sumB, Nat.mul_succ]
    omega
theorem cost_sum {m n N : Nat} {ce : List Ce} {ou : List Nat} (h : NetOk m n N ce ou) {ps : List (List Pn)} (hps : Pins ps (pinR m ce ou)) {p : List Nat} (hp : Pl n p) : sumB (fun v => lenP p (ps.getD v [])) N = costP m (N - 1) ou ce p := by
  have := h.mN
  obtain ⟨z, rfl⟩ : ∃ z, N = z + 1 := ⟨N - 1, by omega⟩
  unfold costP
  exact sumB_sumTo _ _ (by rw [net_len h hps hp 0, if_pos rfl]) (fun v hv => by rw [net_len h hps hp v, if_neg hv]) z
end Plc
namespace Go.Proofs.Ytkkkkalgfmddbaa
open Go.RowKit Go.Deep Cut Plc

/-- The nets of a valid circuit. -/
theorem netOk_of {i : Int} {ns : List Int} {gs : List (Int × Int)} {os : List Int} (hv : Circ.validB i ns gs os = true) : NetOk i.toNat (cellsV i ns gs os).length (Opt.fst i ns + gs.length) (cellsV i ns gs os) (Opt.natL os) := by
  obtain ⟨h0, h1, h2, h3, h4⟩ := Circ.valid_within hv
  obtain ⟨e1, e2, e3⟩ := cellsV_at hv
  have hff : Opt.fst i ns = 1 + i.toNat + ns.length := by unfold Opt.fst; omega
  have hme : mapV i ns gs os = lutsV (Opt.fst i ns) (Opt.natG gs) (Opt.natL ns) (Opt.natL os) := by unfold mapV; rw [if_pos hv]
  have hin := cellsV_in hv
  have hb := cellsV_bd3 i ns gs os
  have hol : (Opt.natL os).length = os.length := Opt.natL_len os
  refine ⟨rfl, (cellsV_lim hv).1, by omega, by omega, by omega, by omega, fun k hk => ?_, fun k hk => ?_, cells_up hv, fun k hk => (hin k hk).2, fun k hk => (hb.2 k hk).2.1, fun k hk => (hin k hk).1⟩
  · have hk' : k < os.length := by omega
    have hb := Circ.litsOk_get (Circ.valid_outs hv) hk'
    have e := natL_get os k hk' hb.1
    omega
  · by_cases hkr : k < ns.length
    · rw [e2 k hkr]
      show i.toNat < 1 + i.toNat + k ∧ 1 + i.toNat + k < _
      omega
    · obtain ⟨q, rfl⟩ : ∃ q, k = ns.length + q := ⟨k - ns.length, by omega⟩
      have hq : q < (mapV i ns gs os).length := by omega
      rw [e3 q hq]
      show i.toNat < ((mapV i ns gs os).getD q (0, [], 0)).1 ∧ ((mapV i ns gs os).getD q (0, [], 0)).1 < _
      have hm := memD0 (d := (0, [], 0)) hq
      rw [hme] at hm ⊢
      obtain ⟨t, h5, _, h6⟩ := luts_form (Opt.natG gs).length _ hm
      have h7 : ((lutsV (Opt.fst i ns) (Opt.natG gs) (Opt.natL ns) (Opt.natL os)).getD q (0, [], 0)).1 = Opt.fst i ns + t := by rw [h6]; rfl
      rw [Opt.natG_len] at h5
      omega
def costV (i : Int) (ns : List Int) (gs : List (Int × Int)) (os : List Int) (p : List Nat) : Nat := costP i.toNat (Opt.fst i ns + gs.length - 1) (Opt.natL os) (cellsV i ns gs os) p
theorem costV_le {i : Int} {ns : List Int} {gs : List (Int × Int)} {os : List Int} (hv : Circ.validB i ns gs os = true) {p : List Nat} (hp : Pl (cellsV i ns gs os).length p) : costV i ns gs os p ≤ 8 * (Opt.fst i ns + gs.length - 1) := costP_le hp (netOk_of hv).m4 (netOk_of hv).ol
end Go.Proofs.Ytkkkkalgfmddbaa
/- WireLength of the program and of the model. -/
namespace Go.Proofs.Ytkkkkalgfmddbaa
open Go.RowKit Go.Deep Cut Plc

set_option maxRecDepth 10000 in
set_option maxHeartbeats 1000000 in
theorem l7Cost_any (m n N cc pc nl nc gc oc f : Nat) (nA gA oA AC AP : Option Addr) (gl : Nat) (os : List Int) (ou : List Nat) (ce : List Cl) (p : List Nat) (w : World) (ho : IntsAt w w.heap.size oA os) (hU : CeIn w w.heap.size AC ce) (hp : IntsAt w w.heap.size AP (Opt.intL p)) (hk : NetOk m n N ce ou) (hpl : Pl n p) (hf : f = 1 + m + nl) (hN : N = f + gl) (hou : ou.length = os.length) (hov : ∀ k, k < os.length → os.getD k 0 = ((ou.getD k 0 : Nat) : Int)) :
    Calls Try.prog 155 #[.agg #[.int .i64 (m : Int), .slice nA nl nc, .slice gA gl gc, .slice oA os.length oc], .slice AC n cc, .slice AP n pc] w fun e w' => e = .returned (.int .i64 (costP m (N - 1) ou ce p : Nat)) ∧ Below w.heap.size w w' := by
  have HB0 := Lib.hid (Boxed.new w (m : Int) nA gA oA nl nc gl gc os.length oc 108)
  have hbw : Below w.heap.size w (w.alloc (.cells #[.int .i64 (m : Int), .slice nA nl nc, .slice gA gl gc, .slice oA os.length oc] 108)) := (Below.refl _ _).alloc (Nat.le_refl _) _
  have hlt0 : w.heap.size < (w.alloc (.cells #[.int .i64 (m : Int), .slice nA nl nc, .slice gA gl gc, .slice oA os.length oc] 108)).heap.size := by simp
  have HO := Lib.hid ((ho.below hbw).mono hbw.size)
  have HU := Lib.hid ((hU.below hbw).mono hbw.size)
  have HP := Lib.hid ((hp.below hbw).mono hbw.size)
  have HL0 := Lib.hid hbw
  have HK := Lib.hid hk
  have HPL := Lib.hid hpl
  have hN25 := hk.N25
  have hmN := hk.mN
  have hm4 := hk.m4
  have hn17 := hk.n17
  have hol := hk.ol
  have HOU := Lib.hid hou
  have HOV : Hid (∀ k, k < os.length → os.getD k 0 = ((ou.getD k 0 : Nat) : Int) ∧ ou.getD k 0 ≤ 1000) := Lib.hid (fun k hk' => ⟨hov k hk', by have := hk.ov k (by omega); omega⟩)
  have hos : os.length ≤ 3 := by omega
  obtain ⟨z, hz⟩ : ∃ z, N = z + 1 := ⟨N - 1, by omega⟩
  obtain ⟨d, hd⟩ : ∃ d : Nat → Nat, (fun net => dist (pinsP m ou ce p net)) = d := ⟨_, rfl⟩
  have HD : Hid (∀ v, dist (pinsP m ou ce p v) = d v) := Lib.hid (fun v => by rw [← hd])
  have HE : Hid (costP m (N - 1) ou ce p = sumTo d z) := Lib.hid (by unfold costP; rw [hd, hz]; rfl)
  have HD8 : Hid (∀ v, d v ≤ 8) := Lib.hid (fun v => by rw [← hd]; exact dist_le (pinsP_le (by rw [hk.len]; exact hpl) hm4 hol v))
  have s1 : IntKind.i64.wrap (1 + (m : Int) + (nl : Int) + (gl : Int)) = (N : Int) := by rw [show 1 + (m : Int) + (nl : Int) + (gl : Int) = (N : Int) by omega]; exact IntWalk.i64_in _ (by omega)
  have hnl : nl ≤ 25 := by omega
  have HS0 : Hid (sumTo d 0 = 0) := Lib.hid rfl
  clear ho hU hp hbw hk hpl hou hov hd hol hN hf
  go_enter Try.func155, Try.ntmps155
  go_upto_region 3 with fail
  generalize w.alloc (.cells #[.int .i64 (m : Int), .slice nA nl nc, .slice gA gl gc, .slice oA os.length oc] 108) = w0 at *
  have HX0 : Hid (Below w0.heap.size w0 w0) := Lib.hid (Below.refl _ _)
  go_loopw [7, 8] (fun sv iv wr => ∃ (k s : Nat), k ≤ z ∧ iv = .int .i64 ((k + 1 : Nat) : Int) ∧ sv = .int .i64 (s : Int) ∧ s ≤ 8 * k ∧ Hid (sumTo d k = s) ∧ Hid (Below w0.heap.size w0 wr)) (fun _ iv _ => N - (intOf iv).toNat)
  case atStart => exact ⟨0, 0, Nat.zero_le _, rfl, rfl, Nat.le_refl _, HS0, HX0⟩
  case round =>
    clear HS0 HX0
    obtain ⟨k, s, hkz, rfl, rfl, hs8, HS, HX⟩ := hrel
    have HB1 := Lib.hid (HB0.out.below HX.out hlt0)
    have q0 := HB1.out.c0
    have q1 := HB1.out.c1
    have q2 := HB1.out.c2
    have q3 := HB1.out.c3
    have hwz := HX.out.size
    go_upto_region 3 with fail
    go_region_held3 (fun w' => w'.cell? ⟨w.heap.size, 0, none⟩ = some (.int .i64 (m : Int)) ∧ w'.cell? ⟨w.heap.size, 1, none⟩ = some (.slice nA nl nc) ∧ w'.cell? ⟨w.heap.size, 2, none⟩ = some (.slice gA gl gc) ∧ w'.cell? ⟨w.heap.size, 3, none⟩ = some (.slice oA os.length oc)) (first | go_keep | (refine ⟨?_, ?_, ?_, ?_⟩ <;> (rw [hc3 _ _ (by simp; omega)]; simp [*])))
        (first | (go_at_call 152; refine (l1First_any _ _ _ _ _ _ _ _ _ _ _ ?_ ?_ ?_).mono ?_; (omega); (omega); (omega); rintro e w3 ⟨rfl, hb3⟩; obtain ⟨hc3, hf3⟩ := bcell hb3))
    rename_i _hheld
    clear _hheld
    have HX3 := Lib.hid ((HX.out.drew).trans (hb3.mono HX.out.size))
    clear hc3 hf3 hb3 q0 q1 q2 q3 HB1 HX
    have HB3 := Lib.hid (HB0.out.below HX3.out hlt0)
    have q0 := HB3.out.c0
    have q1 := HB3.out.c1
    have q2 := HB3.out.c2
    have q3 := HB3.out.c3
    by_cases hlt : k < z
    · have hlt1 : (k : Int) + 1 < (N : Int) := by omega
      have hlN : k + 1 < N := by omega
      have hk1 : ((k : Int) + 1) = ((k + 1 : Nat) : Int) := by omega
      have HK1 := Lib.hid hk1
      have HST : Hid (sumTo d (k + 1) = s + d (k + 1)) := Lib.hid (by show sumTo d k + d (k + 1) = _; rw [HS.out])
      have h8 := HD8.out (k + 1)
      have HPE := Lib.hid (HD.out (k + 1))
      have hpp : Hid (∀ j, j < (pinsP m ou ce p (k + 1)).length → (pinsP m ou ce p (k + 1)).getD j 0 ≤ 24) := Lib.hid (fun j hj => pinsP_le (by rw [HK.out.len]; exact HPL.out) hm4 HK.out.ol (k + 1) _ (memD0 hj))
      have hpl2 : (pinsP m ou ce p (k + 1)).length ≤ 1000 := by
        have h1 := pinsP_len m ou ce p (k + 1)
        have h2 := HK.out.len
        have h3 := HK.out.ol
        omega
      clear hk1
      generalize d (k + 1) = dk at *
      go_wp2_with fail
      rw [HK1.out]
      refine (l7Pins_any m n cc pc nl nc gl gc oc (k + 1) nA gA oA AC AP os ou ce p _ ((HO.out.below HX3.out).mono HX3.out.size) ((HU.out.below HX3.out).mono HX3.out.size) ((HP.out.below HX3.out).mono HX3.out.size) HK.out.len HPL.out.len hn17 (fun k hk => by have := HK.out.il k hk; omega) HK.out.once HOU.out HOV.out (by omega) hm4 (by omega) (by omega)).mono ?_
      rintro e w4 ⟨g4, c4, rfl, ht4, hb4⟩
      have HT4 := Lib.hid ht4.ints
      have HX4 := Lib.hid (HX3.out.trans (hb4.mono HX3.out.size))
      clear ht4 hb4 HX3 q0 q1 q2 q3 HB3
      go_wp2_with fail
      refine (l7Dist_any (some ⟨g4, 0, none⟩) _ c4 (pinsP m ou ce p (k + 1)) _ HT4.out rfl hpl2 hpp.out).mono ?_
      rintro e w5 ⟨rfl, hw5⟩
      obtain rfl := hw5
      rw [HPE.out]
      clear HT4 hpl2
      go_wp2
      go_roundw
      case rel => exact ⟨k + 1, s + dk, by omega, by go_num, by go_num, by omega, HST, HX4⟩
      case measure => simp [intOf]; omega
    · obtain rfl : k = z := by omega
      have hge : ¬ (k : Int) + 1 < (N : Int) := by omega
      have hgN : ¬ k + 1 < N := by omega
      go_wp2
      go_ret
      exact ⟨ret_int (by have h := HE.out; rw [hz, Nat.add_sub_cancel] at h; rw [h, HS.out]), HL0.out.trans (HX3.out.mono HL0.out.size)⟩

/-- The wire length of any placement of any circuit. -/
def wireZ (i : Int) (ns : List Int) (gs : List (Int × Int)) (os ps : List Int) : Int := if placeB i ns gs os ps = true then (costV i ns gs os (Opt.natL ps) : Int) else -1
theorem placeB_inv {i : Int} {ns : List Int} {gs : List (Int × Int)} {os ps : List Int} (h : placeB i ns gs os ps = true) : Circ.validB i ns gs os = true ∧ Pl (cellsV i ns gs os).length (Opt.natL ps) ∧ ps = Opt.intL (Opt.natL ps) := by
  unfold placeB at h
  rw [Bool.and_eq_true] at h
  obtain ⟨q, h1, h2⟩ := okP_nat h.2
  have e : Opt.natL ps = q := by
    rw [h2]
    unfold Opt.natL Opt.intL
    rw [List.map_map]
    exact (List.map_congr_left (fun x _ => rfl)).trans (List.map_id q)
  rw [e]
  exact ⟨h.1, h1, h2⟩

end Go.Proofs.Ytkkkkalgfmddbaa
