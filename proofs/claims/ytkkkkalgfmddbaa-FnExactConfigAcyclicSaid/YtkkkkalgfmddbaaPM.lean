/- The model's placer. -/
import Derived.Test.YtkkkkalgfmddbaaWL
namespace Plc
/-- The first k mapped. -/
def mapK (h : Nat → Nat) (p : List Nat) (k : Nat) : List Nat := (p.take k).map h ++ p.drop k
theorem mapK_len (h : Nat → Nat) (p : List Nat) (k : Nat) : (mapK h p k).length = p.length := by
  unfold mapK
  rw [List.length_append, List.length_map, List.length_take, List.length_drop]
  omega
theorem mapK_zero (h : Nat → Nat) (p : List Nat) : mapK h p 0 = p := by simp [mapK]
theorem mapK_all (h : Nat → Nat) (p : List Nat) : mapK h p p.length = p.map h := by simp [mapK]
theorem mapK_at {h : Nat → Nat} {p : List Nat} {k : Nat} (hk : k < p.length) : (mapK h p k).getD k 0 = p.getD k 0 := by
  unfold mapK
  simp only [List.getD_eq_getElem?_getD]
  rw [List.getElem?_append_right (by rw [List.length_map, List.length_take]; omega), List.length_map, List.length_take, List.getElem?_drop]
  congr 2
  omega
theorem mapK_succ {h : Nat → Nat} {p : List Nat} {k : Nat} (hk : k < p.length) : mapK h p (k + 1) = (mapK h p k).set k (h (p.getD k 0)) := by
  have e : p.getD k 0 = p[k] := by simp [List.getD_eq_getElem?_getD, hk]
  refine List.ext_getElem? (fun j => ?_)
  unfold mapK
  rw [e]
  by_cases hj : j = k
  · subst hj
    rw [List.getElem?_set_self (by simp; omega), List.getElem?_append_left (by simp; omega)]
    simp [hk]
  · rw [List.getElem?_set_ne (fun x => hj x.symm)]
    by_cases hlt : j < k
    · rw [List.getElem?_append_left (by simp; omega), List.getElem?_append_left (by simp; omega)]
      simp [hlt, show j < k + 1 by omega]
    · rw [List.getElem?_append_right (by simp; omega), List.getElem?_append_right (by simp; omega)]
      simp only [List.length_map, List.length_take, List.getElem?_drop]
      congr 1
      omega
theorem tryP_mapK (p : List Nat) (i t : Nat) : (mapK (fun x => if x = t then p.getD i 0 else x) p p.length).set i t = tryP p i t := by rw [mapK_all]; rfl
end Plc
namespace Go.Proofs.Ytkkkkalgfmddbaa
open Go.RowKit Go.Deep Cut Plc

theorem intL_set (p : List Nat) (k v : Nat) : ivs (Opt.intL (p.set k v)) = (ivs (Opt.intL p)).set k (.int .i64 (v : Int)) := by
  unfold ivs Opt.intL
  rw [List.map_set, List.map_set]
theorem TimesAt.put {w : World} {s g cap : Nat} {xs : List Nat} (h : TimesAt w s xs g cap) (k v : Nat) : TimesAt (w.setCell ⟨g, k, none⟩ (.int .i64 (v : Int))) s (xs.set k v) g cap := by
  unfold TimesAt
  rw [intL_set, List.length_set]
  exact (World.ownsRow.stored h k _).1
theorem TimesAt.row {w : World} {s g cap : Nat} {xs : List Nat} (h : TimesAt w s xs g cap) {k : Nat} (hk : k < xs.length) : w.cell? ⟨g, k, none⟩ = some (.int .i64 (xs.getD k 0 : Nat)) ∧ w.frozen? ⟨g, k, none⟩ = false := by
  refine ⟨?_, World.ownsRow.frozenAt h k⟩
  obtain ⟨b, off, e, _, hc⟩ := h.ints k (by rw [Opt.intL_len]; exact hk)
  injection e with e
  injection e with e1 e2
  subst e1 e2
  rw [Nat.zero_add, Opt.intL_at] at hc
  exact hc
theorem TimesAt.lower {w : World} {s s' g cap : Nat} {xs : List Nat} (h : TimesAt w s xs g cap) (hs : s' ≤ s) : TimesAt w s' xs g cap := own_low2 (n := xs.length) h hs

set_option maxRecDepth 10000 in
set_option maxHeartbeats 1000000 in
theorem l7Try_any (A : Option Addr) (n c i t : Nat) (p : List Nat) (w : World) (hx : IntsAt w w.heap.size A (Opt.intL p)) (hn : p.length = n) (hi : i < n) (hn25 : n ≤ 25) (_ht : t ≤ 24) :
    Calls Try.prog 156 #[.slice A n c, .int .i64 (i : Int), .int .i64 (t : Int)] w fun e w' => ∃ g cap : Nat, e = .returned (.slice (some ⟨g, 0, none⟩) n cap) ∧ TimesAt w' w.heap.size (tryP p i t) g cap ∧ Below w.heap.size w w' := by
  have HX := Lib.hid hx
  have HN := Lib.hid hn
  obtain ⟨h, hh⟩ : ∃ h : Nat → Nat, (fun x => if x = t then p.getD i 0 else x) = h := ⟨_, rfl⟩
  have HH : Hid (∀ x, h x = if x = t then p.getD i 0 else x) := Lib.hid (fun x => by rw [← hh])
  have HF : Hid ((mapK h p n).set i t = tryP p i t) := Lib.hid (by rw [← hh, ← hn]; exact tryP_mapK p i t)
  obtain ⟨i0, hi0, hz0, hz1, hz2⟩ := info_split Try.info3
  have HI0 := Lib.hid hi0
  have HZ0 := Lib.hid hz0
  have HZ1 := Lib.hid hz1
  have HZ2 := Lib.hid hz2
  have HW0 := Lib.hid (World.ownsRow_lit (base := w.heap.size) (e := 3) (size := 1) w #[] 0 (Nat.le_refl _) (by simp [maxLen]) (by simp))
  have HXa := Lib.hid (hx.below ((Below.refl _ _).alloc (Nat.le_refl _) (.cells #[] 3)))
  have hML : ((mapK h p 0).length = n) := by rw [mapK_len, hn]
  clear hi0 hz0 hz1 hz2 hh hx hn
  go_enter Try.func156, Try.ntmps156
  go_wp2_with (at_builtin; refine wpList_append_src _ rfl (.tmp 9) (.tmp 10) 31 rfl w.heap.size 3 i0 _ 1 8 Try.underlying31 HI0.out HZ0.out HZ1.out HZ2.out rfl (by omega) w.heap.size 0 0 [] rfl HW0.out A n c (ivs (Opt.intL p)) rfl (by rw [ivs_len, Opt.intL_len, HN.out]; omega) (ints_srcM HXa.out) (ivs_oneM _) (by simp [maxLen]; omega) (by omega) (by simp) _ rfl ?_)
  intro g1 cap1 w1 hown1 hgr1 hat1
  have HT1 : Hid (TimesAt w1 w.heap.size (mapK h p 0) g1 cap1) := Lib.hid (by
    unfold TimesAt
    rw [hML, mapK_zero]
    simpa using hown1)
  have HX1 : Hid (Below w.heap.size w w1) := Lib.hid (Below.grown ((Below.refl w.heap.size w).alloc (Nat.le_refl _) _) hgr1 (by simp) (fun k hk => by injection hk; omega))
  clear hown1 hgr1 hat1
  go_upto_region 3 with fail
  go_loopw [8] (fun iv wr => ∃ (k : Nat), k ≤ n ∧ iv = .int .i64 k ∧ Hid (TimesAt wr w.heap.size (mapK h p k) g1 cap1) ∧ Hid (Below w.heap.size w wr)) (fun iv _ => n - (intOf iv).toNat)
  case atStart => exact ⟨0, Nat.zero_le _, rfl, HT1, HX1⟩
  case round =>
    clear HT1 HX1
    obtain ⟨k, hk, rfl, HT, HX1⟩ := hrel
    have hgb := HT.out.gb
    by_cases hlt : k < n
    · obtain ⟨hc0, hf0⟩ := HT.out.row (k := k) (by rw [mapK_len, HN.out]; exact hlt)
      have hat := mapK_at (h := h) (p := p) (k := k) (by rw [HN.out]; exact hlt)
      rw [hat] at hc0
      have HST := Lib.hid (mapK_succ (h := h) (p := p) (k := k) (by rw [HN.out]; exact hlt))
      obtain ⟨b, off, rfl, hbl, hci⟩ := HX.out i (by rw [Opt.intL_len, HN.out]; exact hi)
      rw [Opt.intL_at] at hci
      have hci := (HX1.out.cell (p := ⟨b, off + i, none⟩) hbl).trans hci
      have hhk := HH.out (p.getD k 0)
      have hk0 : (0 : Int) ≤ (k : Int) := Int.natCast_nonneg _
      have hk1 : (k : Int) < (n : Int) := by omega
      have hi0 : (0 : Int) ≤ (i : Int) := Int.natCast_nonneg _
      have hi1 : (i : Int) < (n : Int) := by omega
      clear hat
      by_cases he : p.getD k 0 = t
      · rw [if_pos he] at hhk
        rw [hhk] at HST
        rw [he] at hc0
        have HT2 := Lib.hid (HT.out.put k (p.getD i 0))
        rw [← HST.out] at HT2
        have HX2 := Lib.hid (HX1.out.setCell (p := ⟨g1, k, none⟩) hgb.1 (.int .i64 (p.getD i 0 : Nat)))
        clear hhk HST he
        generalize p.getD i 0 = v at *
        go_wp2
        go_roundw
        case rel => exact ⟨k + 1, by omega, by go_num, HT2, HX2⟩
        case measure => simp [intOf]; omega
      · rw [if_neg he] at hhk
        rw [hhk] at HST
        have HT2 : Hid (TimesAt wr w.heap.size (mapK h p (k + 1)) g1 cap1) := Lib.hid (by
          rw [HST.out]
          have e : (mapK h p k).set k (p.getD k 0) = mapK h p k := by
            refine List.ext_getElem? (fun j => ?_)
            by_cases hj : j = k
            · subst hj
              rw [List.getElem?_set_self (by rw [mapK_len, HN.out]; exact hlt)]
              have h1 := mapK_at (h := h) (p := p) (k := j) (by rw [HN.out]; exact hlt)
              rw [← h1, List.getD_eq_getElem?_getD, List.getElem?_eq_getElem (by rw [mapK_len, HN.out]; exact hlt)]
              rfl
            · rw [List.getElem?_set_ne (fun x => hj x.symm)]
          rw [e]
          exact HT.out)
        have hbe : (p.getD k 0 == t) = false := by rw [beq_eq_false_iff_ne]; exact he
        have hbi : (((p.getD k 0 : Nat) : Int) == (t : Int)) = false := by rw [beq_eq_false_iff_ne]; omega
        clear hhk HST hci HT
        generalize p.getD k 0 = v at *
        go_wp2
        clear hbe hbi he hc0
        go_roundw
        case rel => exact ⟨k + 1, by omega, by go_num, HT2, HX1⟩
        case measure => simp [intOf]; omega
    · obtain rfl : k = n := by omega
      obtain ⟨hc0, hf0⟩ := HT.out.row (k := i) (by rw [mapK_len, HN.out]; exact hi)
      have HT2 := Lib.hid (HT.out.put i t)
      rw [HF.out] at HT2
      have HX2 := Lib.hid (HX1.out.setCell (p := ⟨g1, i, none⟩) hgb.1 (.int .i64 (t : Int)))
      generalize (mapK h p k).getD i 0 = old at *
      have hi0 : (0 : Int) ≤ (i : Int) := Int.natCast_nonneg _
      have hi1 : (i : Int) < (k : Int) := by omega
      clear HT HX1
      go_wp2
      go_ret
      exact ⟨g1, cap1, rfl, HT2.out, HX2.out⟩

/-- What the placer answers, as naturals. -/
def placeN (m n N : Nat) (ou : List Nat) (ce : List Ce) : List Nat := sweepsP (costP m (N - 1) ou ce) n (List.range n) 3

set_option maxRecDepth 10000 in
set_option maxHeartbeats 2000000 in
theorem l7Place_any (m n N cc nl nc gc oc f : Nat) (nA gA oA AC : Option Addr) (gl : Nat) (os : List Int) (ou : List Nat) (ce : List Cl) (w : World) (ho : IntsAt w w.heap.size oA os) (hU : CeIn w w.heap.size AC ce) (hk : NetOk m n N ce ou) (hf : f = 1 + m + nl) (hN : N = f + gl) (hou : ou.length = os.length) (hov : ∀ k, k < os.length → os.getD k 0 = ((ou.getD k 0 : Nat) : Int)) :
    Calls Try.prog 138 #[.agg #[.int .i64 (m : Int), .slice nA nl nc, .slice gA gl gc, .slice oA os.length oc], .slice AC n cc] w fun e w' => ∃ g cap : Nat, e = .returned (.slice (some ⟨g, 0, none⟩) n cap) ∧ TimesAt w' w.heap.size (placeN m n N ou ce) g cap ∧ Below w.heap.size w w' := by
  have HB0 := Lib.hid (Boxed.new w (m : Int) nA gA oA nl nc gl gc os.length oc 108)
  have hbw : Below w.heap.size w (w.alloc (.cells #[.int .i64 (m : Int), .slice nA nl nc, .slice gA gl gc, .slice oA os.length oc] 108)) := (Below.refl _ _).alloc (Nat.le_refl _) _
  have hlt0 : w.heap.size < (w.alloc (.cells #[.int .i64 (m : Int), .slice nA nl nc, .slice gA gl gc, .slice oA os.length oc] 108)).heap.size := by simp
  have HO := Lib.hid ((ho.below hbw).mono hbw.size)
  have HU := Lib.hid ((hU.below hbw).mono hbw.size)
  have HL0 := Lib.hid hbw
  have HK := Lib.hid hk
  have hn17 := hk.n17
  have HOU := Lib.hid hou
  have HOV := Lib.hid hov
  have HFE := Lib.hid hf
  have HNE := Lib.hid hN
  obtain ⟨C, hC⟩ : ∃ C : List Nat → Nat, costP m (N - 1) ou ce = C := ⟨_, rfl⟩
  have HC : Hid (∀ p, costP m (N - 1) ou ce p = C p) := Lib.hid (fun p => by rw [hC])
  have HC8 : Hid (∀ p, Pl n p → C p ≤ 200) := Lib.hid (fun p hp => by
    rw [← hC]
    have h1 := costP_le (z := N - 1) (by rw [hk.len]; exact hp) hk.m4 hk.ol
    have h2 := hk.N25
    omega)
  have HE : Hid (placeN m n N ou ce = sweepsP C n (List.range n) 3) := Lib.hid (by unfold placeN; rw [hC])
  obtain ⟨p0, hp0⟩ : ∃ p0, List.range n = p0 := ⟨_, rfl⟩
  have hP0 : Pl n p0 := by rw [← hp0]; exact start_ok (by omega)
  have HP0 := Lib.hid hP0
  rw [hp0] at HE
  have HPR : Hid (∀ k, k ≤ n → (p0.take k).length = k) := Lib.hid (fun k hk => by rw [List.length_take, hP0.len]; omega)
  have HPS : Hid (∀ k, k < n → p0.take (k + 1) = p0.take k ++ [k]) := Lib.hid (fun k hk => by
    have hkl : k < p0.length := by rw [hP0.len]; exact hk
    rw [List.take_succ_eq_append_getElem hkl]
    congr 1
    subst hp0
    simp)
  clear ho hU hbw hk hou hov hC hP0 hp0 hf hN
  go_enter Try.func138, Try.ntmps138
  go_upto_region 1 with fail
  generalize w.alloc (.cells #[.int .i64 (m : Int), .slice nA nl nc, .slice gA gl gc, .slice oA os.length oc] 108) = w1 at *
  go_upto_region 3 with fail
  have hba : Below w1.heap.size w1 (w1.alloc (.cells #[] 3)) := (Below.refl _ _).alloc (Nat.le_refl _) _
  have HT0 : Hid (TimesAt (w1.alloc (.cells #[] 3)) w1.heap.size (p0.take 0) w1.heap.size 0) := Lib.hid (World.ownsRow_lit (base := w1.heap.size) (e := 3) (size := 1) w1 #[] 0 (Nat.le_refl _) (by simp [maxLen]) (by simp))
  have HX2 := Lib.hid hba
  generalize w1.alloc (.cells #[] 3) = w2 at *
  generalize w1.heap.size = B at *
  clear hba
  go_loopw [5, 6] (fun sv iv wr => ∃ (k g cap : Nat), k ≤ n ∧ iv = .int .i64 k ∧ sv = .slice (some ⟨g, 0, none⟩) k cap ∧ Hid (TimesAt wr B (p0.take k) g cap) ∧ Hid (Below B w1 wr)) (fun _ iv _ => n - (intOf iv).toNat)
  case atStart => exact ⟨0, _, _, Nat.zero_le _, rfl, rfl, HT0, HX2⟩
  case round =>
    clear HT0 HX2
    obtain ⟨k, g, cap, hkn, rfl, rfl, HT, HX⟩ := hrel
    have hgb := HT.out.gb
    have hsz : B ≤ wr.heap.size := by omega
    by_cases hlt : k < n
    · have HST := Lib.hid (HPS.out k hlt)
      have HTL := Lib.hid (HPR.out k hkn)
      go_wp2_with (at_builtin; refine wpList_pushT rfl (.tmp 20) (.tmp 22) rfl _ B g cap k (p0.take k) rfl HTL.out HT.out (by omega) k _ rfl rfl ?_)
      intro g' cap' w5 hT5 hb5 hk5 hg5
      have HT5 : Hid (TimesAt w5 B (p0.take (k + 1)) g' cap') := Lib.hid (by rw [HST.out]; exact hT5)
      have HX5 := Lib.hid (HX.out.trans hb5)
      clear hT5 hb5 hk5 hg5
      go_wp2
      go_roundw
      case rel => exact ⟨k + 1, g', cap', by omega, by go_num, rfl, HT5, HX5⟩
      case measure => simp [intOf]; omega
    · obtain rfl : k = n := by omega
      have HT2 : Hid (TimesAt wr B p0 g cap) := Lib.hid (by
        have h := HT.out
        rw [List.take_of_length_le (by rw [HP0.out.len]; exact Nat.le_refl _)] at h
        exact h)
      clear HT
      go_upto_region 6 with fail
      have HBX := Lib.hid (HB0.out.below HX.out hlt0)
      have q0 := HBX.out.c0
      have q1 := HBX.out.c1
      have q2 := HBX.out.c2
      have q3 := HBX.out.c3
      go_wp2_with fail
      refine (l7Cost_any m k N cc cap nl nc gc oc f nA gA oA AC (some ⟨g, 0, none⟩) gl os ou ce p0 _ ((HO.out.below HX.out).mono hsz) ((HU.out.below HX.out).mono hsz) HT2.out.ints HK.out HP0.out HFE.out HNE.out HOU.out HOV.out).mono ?_
      rintro e w3 ⟨rfl, hb3⟩
      rw [HC.out]
      have HT3 := Lib.hid (HT2.out.keep (w' := w3) (hb3.block g hgb.2))
      have HX3 := Lib.hid (HX.out.trans (hb3.mono hsz))
      clear hb3 HT2 HX HBX q0 q1 q2 q3
      go_upto_region 8 with fail
      go_loopw [5, 7, 8] (fun sv cv iv wr => ∃ (z g cap : Nat) (p : List Nat), z ≤ 3 ∧ iv = .int .i64 z ∧ sv = .slice (some ⟨g, 0, none⟩) k cap ∧ cv = .int .i64 (C p : Nat) ∧ Hid (sweepsP C k p0 z = p) ∧ Hid (Pl k p) ∧ Hid (TimesAt wr B p g cap) ∧ Hid (Below B w1 wr)) (fun _ _ iv _ => 3 - (intOf iv).toNat)
      case atStart => exact ⟨0, g, cap, p0, by omega, rfl, rfl, rfl, Lib.hid rfl, HP0, HT3, HX3⟩
      case round =>
        clear HT3 HX3
        obtain ⟨z, g, cap, p, hz3, rfl, rfl, rfl, HSW, HPL, HT, HX⟩ := hrel
        by_cases hltz : z < 3
        · go_upto_region 11 with fail
          have e29 : decide ((z : Int) < 3) = true := by simp; omega
          rw [e29]
          have HZ3 := Lib.hid hltz
          clear hltz hz3 e29
          go_loopw [5, 7, 9] (fun sv cv iv wr => ∃ (a g cap : Nat) (q : List Nat), a ≤ k ∧ iv = .int .i64 a ∧ sv = .slice (some ⟨g, 0, none⟩) k cap ∧ cv = .int .i64 (C q : Nat) ∧ Hid (rowsP C p a = q) ∧ Hid (Pl k q) ∧ Hid (TimesAt wr B q g cap) ∧ Hid (Below B w1 wr)) (fun _ _ iv _ => k - (intOf iv).toNat)
          case atStart => exact ⟨0, g, cap, p, Nat.zero_le _, rfl, rfl, rfl, Lib.hid rfl, HPL, HT, HX⟩
          case round =>
            clear HT HX HPL
            obtain ⟨a, g, cap, q, hak, rfl, rfl, rfl, HRW, HPL, HT, HX⟩ := hrel
            by_cases hlta : a < k
            · go_upto_region 14 with fail
              go_loopw [5, 7, 10] (fun sv cv iv wr => ∃ (t g cap : Nat) (r : List Nat), t ≤ 25 ∧ iv = .int .i64 t ∧ sv = .slice (some ⟨g, 0, none⟩) k cap ∧ cv = .int .i64 (C r : Nat) ∧ Hid (tilesP C q a t = r) ∧ Hid (Pl k r) ∧ Hid (TimesAt wr B r g cap) ∧ Hid (Below B w1 wr)) (fun _ _ iv _ => 25 - (intOf iv).toNat)
              case atStart => exact ⟨0, g, cap, q, by omega, rfl, rfl, rfl, Lib.hid rfl, HPL, HT, HX⟩
              case round =>
                clear HT HX HPL
                obtain ⟨t, g, cap, r, ht25, rfl, rfl, rfl, HTI, HPL, HT, HX⟩ := hrel
                have hgb := HT.out.gb
                by_cases hltt : t < 25
                · have hx1 : B ≤ wr.heap.size := by omega
                  have hcr := HC8.out r HPL.out
                  go_wp2_with fail
                  refine (l7Try_any (some ⟨g, 0, none⟩) k cap a t r _ HT.out.ints HPL.out.len hlta (by omega) (by omega)).mono ?_
                  rintro e w6 ⟨g6, c6, rfl, ht6, hb6⟩
                  have HPT := Lib.hid (HPL.out.try (i := a) (t := t) hlta (by omega))
                  have HSTP : Hid (tilesP C q a (t + 1) = stepP C r a t) := Lib.hid (by show stepP C (tilesP C q a t) a t = _; rw [HTI.out])
                  have HSD : Hid (stepP C r a t = if C (tryP r a t) < C r then tryP r a t else r) := Lib.hid rfl
                  have hct := HC8.out _ HPT.out
                  generalize tryP r a t = r2 at *
                  have HT6 := Lib.hid (ht6.lower (s' := B) hx1)
                  have HX6 := Lib.hid (HX.out.trans (hb6.mono hx1))
                  have HTo := Lib.hid (HT.out.keep (w' := w6) (hb6.block g hgb.2))
                  have hg6 := ht6.gb
                  have hx6 : B ≤ w6.heap.size := by omega
                  clear ht6 hb6 HT HX
                  have HBX := Lib.hid (HB0.out.below HX6.out hlt0)
                  have q0 := HBX.out.c0
                  have q1 := HBX.out.c1
                  have q2 := HBX.out.c2
                  have q3 := HBX.out.c3
                  go_wp2_with fail
                  refine (l7Cost_any m k N cc c6 nl nc gc oc f nA gA oA AC (some ⟨g6, 0, none⟩) gl os ou ce r2 _ ((HO.out.below HX6.out).mono hx6) ((HU.out.below HX6.out).mono hx6) HT6.out.ints HK.out HPT.out HFE.out HNE.out HOU.out HOV.out).mono ?_
                  rintro e w7 ⟨rfl, hb7⟩
                  rw [HC.out]
                  have HT7 := Lib.hid (HT6.out.keep (w' := w7) (hb7.block g6 hg6.2))
                  have HTo7 := Lib.hid (HTo.out.keep (w' := w7) (hb7.block g (by have := HTo.out.gb; omega)))
                  have HX7 := Lib.hid (HX6.out.trans (hb7.mono hx6))
                  clear hb7 HT6 HTo HX6 HBX q0 q1 q2 q3
                  by_cases hcc : C r2 < C r
                  · have HS2 : Hid (tilesP C q a (t + 1) = r2) := Lib.hid (by rw [HSTP.out, HSD.out, if_pos hcc])
                    have hci : ((C r2 : Nat) : Int) < ((C r : Nat) : Int) := by omega
                    clear HSTP HSD
                    go_wp2
                    clear hci hcc
                    go_roundw
                    case rel => exact ⟨t + 1, g6, c6, r2, by omega, by go_num, rfl, rfl, HS2, HPT, HT7, HX7⟩
                    case measure => simp [intOf]; omega
                  · have HS2 : Hid (tilesP C q a (t + 1) = r) := Lib.hid (by rw [HSTP.out, HSD.out, if_neg hcc])
                    have hci : ¬ ((C r2 : Nat) : Int) < ((C r : Nat) : Int) := by omega
                    clear HSTP HSD
                    go_wp2
                    clear hci hcc
                    go_roundw
                    case rel => exact ⟨t + 1, g, cap, r, by omega, by go_num, rfl, rfl, HS2, HPL, HTo7, HX7⟩
                    case measure => simp [intOf]; omega
                · obtain rfl : t = 25 := by omega
                  have HR2 : Hid (rowsP C p (a + 1) = r) := Lib.hid (by show tilesP C (rowsP C p a) a 25 = _; rw [HRW.out, HTI.out])
                  go_wp2
                  go_roundw
                  case rel => exact ⟨a + 1, g, cap, r, by omega, by go_num, rfl, rfl, HR2, HPL, HT, HX⟩
                  case measure => simp [intOf]; omega
            · obtain rfl : a = k := by omega
              have HS2 : Hid (sweepsP C a p0 (z + 1) = q) := Lib.hid (by show rowsP C (sweepsP C a p0 z) a = _; rw [HSW.out, HRW.out])
              go_wp2
              go_roundw
              case rel => exact ⟨z + 1, g, cap, q, by have := HZ3.out; omega, by go_num, rfl, rfl, HS2, HPL, HT, HX⟩
              case measure => simp [intOf]; omega
        · obtain rfl : z = 3 := by omega
          have HF := Lib.hid (HT.out.lower (s' := w.heap.size) (by omega))
          have HXF := Lib.hid (HL0.out.trans (HX.out.mono (by omega)))
          go_wp2
          go_ret
          exact ⟨g, cap, rfl, by rw [HE.out, HSW.out]; exact HF.out, HXF.out⟩

/-- What Place answers of any circuit. -/
def placeV (i : Int) (ns : List Int) (gs : List (Int × Int)) (os : List Int) : List Nat := if Circ.validB i ns gs os = true then placeN i.toNat (cellsV i ns gs os).length (Opt.fst i ns + gs.length) (Opt.natL os) (cellsV i ns gs os) else []
theorem placeV_ok {i : Int} {ns : List Int} {gs : List (Int × Int)} {os : List Int} (hv : Circ.validB i ns gs os = true) : Pl (cellsV i ns gs os).length (placeV i ns gs os) ∧ costV i ns gs os (placeV i ns gs os) ≤ costV i ns gs os (List.range (cellsV i ns gs os).length) := by
  have h := (cellsV_lim hv).1
  unfold placeV placeN costV
  rw [if_pos hv]
  exact sweepsP_ok (start_ok (by omega)) 3

end Go.Proofs.Ytkkkkalgfmddbaa
