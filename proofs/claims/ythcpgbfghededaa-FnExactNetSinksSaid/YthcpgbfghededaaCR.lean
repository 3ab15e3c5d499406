/- The contract of the program's parts. -/
import Derived.Test.YthcpgbfghededaaCQ
namespace Go.Proofs.Ythcpgbfghededaa
open Go.RowKit Go.Deep Cut

theorem lutPs_step {hs : List Value} {j : Nat} {a b c : Value} (h0 : hs[j * 3]? = some a) (h1 : hs[j * 3 + 1]? = some b) (h2 : hs[j * 3 + 2]? = some c) : lutPs hs (j + 1) = lutPs hs j ++ [lutP a b c] := by
  show lutPs hs j ++ [lutP (hs.getD (j * 3) (.bool false)) (hs.getD (j * 3 + 1) (.bool false)) (hs.getD (j * 3 + 2) (.bool false))] = _
  simp only [List.getD_eq_getElem?_getD, h0, h1, h2, Option.getD_some]
theorem natL_get (xs : List Int) (k : Nat) (hk : k < xs.length) (h : 0 ≤ xs.getD k 0) : xs.getD k 0 = ((Opt.natL xs).getD k 0 : Nat) := by
  unfold Opt.natL
  simp [List.getD_eq_getElem?_getD, hk] at h ⊢
  omega

set_option maxRecDepth 10000 in
set_option maxHeartbeats 1000000 in
theorem parts_any (m : Nat) (nA gA oA : Option Addr) (nc gc oc : Nat) (ns : List Int) (gs : List (Int × Int)) (os : List Int) (w : World) (hv : Circ.validB (m : Int) ns gs os = true) (hc : CircAt w w.heap.size nA gA oA ns gs os) (hgc : gs.length ≤ gc) :
    Calls Try.prog 64 #[.agg #[.int .i64 m, .slice nA ns.length nc, .slice gA gs.length gc, .slice oA os.length oc]] w fun e w' => ∃ (g cap gl cl : Nat) (hs : List Value), e = .returned (.slice (some ⟨g, 0, none⟩) (ns.length + (lutsV (Opt.fst m ns) (Opt.natG gs) (Opt.natL ns) (Opt.natL os)).length) cap) ∧ PartsAt w' w.heap.size (regPs (1 + m) (Opt.natL ns) ns.length ++ lutPs hs (lutsV (Opt.fst m ns) (Opt.natG gs) (Opt.natL ns) (Opt.natL os)).length) (ns.length + (lutsV (Opt.fst m ns) (Opt.natG gs) (Opt.natL ns) (Opt.natL os)).length) g cap ∧ LuAt w' w.heap.size (lutsV (Opt.fst m ns) (Opt.natG gs) (Opt.natL ns) (Opt.natL os)) hs gl cl ∧ DistH hs ∧ Below w.heap.size w w' := by
  obtain ⟨h0, h1, h2, h3, h4⟩ := Circ.valid_within hv
  have hnx := Circ.valid_next hv
  have HN := Lib.hid (show ∀ k, k < ns.length → ∃ l : Nat, ns.getD k 0 = (l : Int) ∧ (Opt.natL ns).getD k 0 = l ∧ l ≤ 1000 from fun k hk => by
    have := Circ.litsOk_get hnx hk
    have e := natL_get ns k hk (by omega)
    exact ⟨_, e, rfl, by omega⟩)
  obtain ⟨es, hes⟩ : ∃ es, lutsV (Opt.fst m ns) (Opt.natG gs) (Opt.natL ns) (Opt.natL os) = es := ⟨_, rfl⟩
  have hln : es.length ≤ 14 := by
    have := lutsTo_len (Opt.fst m ns) (Opt.natG gs) (bests (Opt.fst m ns) (Opt.natG gs)) (needV (Opt.fst m ns) (Opt.natG gs) (Opt.natL ns) (Opt.natL os)) (Opt.natG gs).length
    have hgl : (Opt.natG gs).length = gs.length := Opt.natG_len gs
    rw [← hes]
    show (lutsTo _ _ _ _ _).length ≤ 14
    omega
  rw [hes]
  have HES := Lib.hid hes
  have HV := Lib.hid hv
  obtain ⟨n, hn⟩ : ∃ n, es.length = n := ⟨_, rfl⟩
  rw [hn] at hln ⊢
  have HEN := Lib.hid hn
  have HB0 := Lib.hid (Boxed.new w (m : Int) nA gA oA ns.length nc gs.length gc os.length oc 26)
  have hbw : Below w.heap.size w (w.alloc (.cells #[.int .i64 m, .slice nA ns.length nc, .slice gA gs.length gc, .slice oA os.length oc] 26)) := (Below.refl _ _).alloc (Nat.le_refl _) _
  have hsz0 : (w.alloc (.cells #[.int .i64 m, .slice nA ns.length nc, .slice gA gs.length gc, .slice oA os.length oc] 26)).heap.size = w.heap.size + 1 := by simp
  have HC1 := Lib.hid ((hc.below hbw).mono hbw.size)
  have HZ0 := Lib.hid hsz0
  have HL0 := Lib.hid hbw
  obtain ⟨ls, hls⟩ : ∃ ls, Opt.natL ns = ls := ⟨_, rfl⟩
  rw [hls] at HN ⊢
  clear hv hc hnx hes hn hbw hsz0 hls
  go_enter Try.func64, Try.ntmps64
  go_upto_region 1 with fail
  generalize w.alloc (.cells #[.int .i64 m, .slice nA ns.length nc, .slice gA gs.length gc, .slice oA os.length oc] 26) = w1 at *
  have hww1 : w.heap.size < w1.heap.size := by have := HZ0.out; omega
  have q0 := HB0.out.c0
  have q1 := HB0.out.c1
  have HP0 := Lib.hid (PartsAt.made w1 w1.heap.size (Nat.le_refl _))
  have HBA := Lib.hid (show Below w1.heap.size w1 (w1.alloc (.cells #[] 91)) from (Below.refl _ _).alloc (Nat.le_refl _) _)
  go_upto_region 3 with fail
  generalize w1.alloc (.cells #[] 91) = w2 at *
  clear q0 q1
  generalize w1.heap.size = N at *
  have hNw : w.heap.size < N := hww1
  go_loopw [3, 12] (fun pv iv wr => ∃ (k g cap : Nat), k ≤ ns.length ∧ iv = .int .i64 k ∧ pv = .slice (some ⟨g, 0, none⟩) k cap ∧ Hid (PartsAt wr N (regPs (1 + m) ls k) k g cap) ∧ Hid (Below N w1 wr)) (fun _ iv _ => ns.length - (intOf iv).toNat)
  case atStart => exact ⟨0, _, _, Nat.zero_le _, rfl, rfl, HP0, HBA⟩
  case round =>
    clear HP0 HBA
    obtain ⟨k, g, cap, hk, rfl, rfl, HP, HBr⟩ := hrel
    by_cases hlt : k < ns.length
    · obtain ⟨b, off, rfl, hbl, hcell⟩ := HC1.out.next k hlt
      obtain ⟨l, e1, e2, hl⟩ := HN.out k hlt
      rw [e1] at hcell
      have hcr := (HBr.out.cell (p := ⟨b, off + k, none⟩) hbl).trans hcell
      have HRP : Hid (regPs (1 + m) ls (k + 1) = regPs (1 + m) ls k ++ [regP (1 + m + k) l]) := Lib.hid (by rw [← e2]; rfl)
      have HBx := Lib.hid (HB0.out.below HBr.out hNw)
      have q0 := HBx.out.c0
      clear hcell e1 e2
      generalize regPs (1 + m) ls k = ps at *
      go_wp2_with (at_builtin; refine wpList_pushP rfl (.tmp 17) (.tmp 26) rfl _ N g cap k ps rfl HP.out (by omega) _ rfl rfl ?_)
      intro g' cap' w3 hp3 hb3 _ _
      have HP3 : Hid (PartsAt w3 N (ps ++ [regP (1 + m + k) l]) (k + 1) g' cap') := Lib.hid (by
        have e : ((1 + m + k : Nat) : Int) = (1 : Int) + m + k := by omega
        unfold regP
        rw [e]
        exact hp3)
      have HB3 := Lib.hid (HBr.out.trans hb3)
      clear hp3 hb3 q0 hcr
      go_wp2
      go_roundw
      case rel => exact ⟨k + 1, g', cap', by omega, by go_num, rfl, by rw [HRP.out]; exact HP3, HB3⟩
      case measure => simp [intOf]; omega
    · obtain rfl : k = ns.length := by omega
      have hgN := HP.out.gb
      have hNr : N ≤ wr.heap.size := by omega
      have HBx := Lib.hid (HB0.out.below HBr.out hNw)
      have HCr := Lib.hid ((HC1.out.below HBr.out).mono hNr)
      have q0 := HBx.out.c0
      have q1 := HBx.out.c1
      have q2 := HBx.out.c2
      have q3 := HBx.out.c3
      go_wp2_with fail
      have hV2 := HV.out
      refine (imap_t (m : Int) nA gA oA nc gc oc ns gs os _ HV.out HCr.out hgc).mono ?_
      rintro e w4 ⟨gl, cl, hs, rfl, hx4, hd4, hb4⟩
      rw [HES.out, HEN.out]
      rw [HES.out] at hx4
      have HD := Lib.hid hd4
      have HU4 := Lib.hid hx4
      have HP4 := Lib.hid (HP.out.on hb4)
      have HB4 := Lib.hid (HBr.out.trans (hb4.mono hNr))
      have HBx4 := Lib.hid (HBx.out.below hb4 (by omega))
      have hz4 := hb4.size
      have hg4 : g < w4.heap.size := by omega
      generalize hr : wr.heap.size = R at *
      have hgR : g < R := by omega
      have hNR : N ≤ R := by omega
      clear hx4 hd4 hb4 HP HBr q0 q1 q2 q3 hr HBx hV2
      have HPz : Hid (PartsAt w4 N (regPs (1 + m) ls ns.length ++ lutPs hs 0) (ns.length + 0) g cap) := Lib.hid (by show PartsAt w4 N (regPs (1 + m) ls ns.length ++ []) ns.length g cap; rw [List.append_nil]; exact HP4.out)
      have hgo : g < R ∨ w4.heap.size ≤ g := .inl hgR
      clear HP4
      go_upto_region 8 with fail
      go_loopw [3, 32] (fun pv iv wr => ∃ (j g cap : Nat), j ≤ n ∧ iv = .int .i64 j ∧ pv = .slice (some ⟨g, 0, none⟩) (ns.length + j : Nat) cap ∧ Hid (PartsAt wr N (regPs (1 + m) ls ns.length ++ lutPs hs j) (ns.length + j) g cap) ∧ Hid (∀ b, R ≤ b → b < w4.heap.size → wr.heap[b]? = w4.heap[b]?) ∧ (g < R ∨ w4.heap.size ≤ g) ∧ Hid (Below N w1 wr)) (fun _ iv _ => n - (intOf iv).toNat)
      case atStart => exact ⟨0, g, cap, Nat.zero_le _, rfl, rfl, HPz, Lib.hid (fun _ _ _ => rfl), hgo, HB4⟩
      case round =>
        clear HPz hgo
        obtain ⟨j, g, cap, hj, rfl, rfl, HP, HK, hgo, HBr⟩ := hrel
        have hz4r : w4.heap.size ≤ wr.heap.size := by
          have h1 := HU4.out.gb
          rcases Nat.lt_or_ge (wr.heap.size) w4.heap.size with h | h
          · have h2 := HK.out (w4.heap.size - 1) (by omega) (by omega)
            rw [Array.getElem?_eq_none (by omega), Array.getElem?_eq_getElem (by omega)] at h2
            cases h2
          · exact h
        have HU := Lib.hid (LuAt.keep HU4.out HK.out hz4r)
        by_cases hltj : j < n
        · obtain ⟨b, off, hbo, hbl, A', c', l0, l1, l2, hlf⟩ := HU.out.read j (by rw [HEN.out]; exact hltj)
          injection hbo with hbo
          injection hbo with y1 y2
          subst y1 y2
          rw [Nat.zero_add] at l0 l1 l2
          have hwz : R ≤ wr.heap.size := by have := HU.out.gb; omega
          obtain ⟨hB', hgl'⟩ := HP.out.gb
          obtain ⟨A2, c2, e0, e1, e2, hlx⟩ := HU.out.2.2 j (by rw [HEN.out]; exact hltj)
          have hcA : A2 = A' ∧ c2 = c' := by
            obtain ⟨cur, hrow, _, _, _, hll, hget⟩ := own_partsE HU.out.1
            have h := hrow.cell (j * 3 + 1)
            rw [hget _ (by rw [HEN.out]; omega), e1, l1] at h
            injection h with h
            injection h with h1 _ h3
            exact ⟨h1.symm, h3.symm⟩
          obtain ⟨rfl, rfl⟩ := hcA
          have HLP : Hid (lutPs hs (j + 1) = lutPs hs j ++ [lutP (.int .i64 ((es.getD j (0, [], 0)).1 : Nat)) (.slice A2 (es.getD j (0, [], 0)).2.1.length c2) (.int .i64 ((es.getD j (0, [], 0)).2.2 : Nat))]) := Lib.hid (lutPs_step e0 e1 e2)
          clear hlf hlx e0 e1 e2
          generalize (es.getD j (0, [], 0)).2.2 = t at *
          generalize (es.getD j (0, [], 0)).2.1.length = yl at *
          generalize (es.getD j (0, [], 0)).1 = v at *
          go_upto_region 10 with fail
          have hb5 : Below wr.heap.size wr (wr.alloc (.cells #[.int .i64 v, .slice A2 yl c2, .int .i64 t] 31)) := (Below.refl _ _).alloc (Nat.le_refl _) _
          have hr5 : Row (wr.alloc (.cells #[.int .i64 v, .slice A2 yl c2, .int .i64 t] 31)) wr.heap.size 31 #[.int .i64 v, .slice A2 yl c2, .int .i64 t] := heap_alloc_new wr _
          have hz5 : wr.heap.size ≤ (wr.alloc (.cells #[.int .i64 v, .slice A2 yl c2, .int .i64 t] 31)).heap.size := hb5.size
          have HP5 := Lib.hid (HP.out.on hb5)
          have HK5 : Hid (∀ b, R ≤ b → b < w4.heap.size → (wr.alloc (.cells #[.int .i64 v, .slice A2 yl c2, .int .i64 t] 31)).heap[b]? = w4.heap[b]?) := Lib.hid (fun b h1 h2 => by rw [hb5.block b (by omega), HK.out b h1 h2])
          have HB5 := Lib.hid (HBr.out.trans (hb5.mono (by omega)))
          generalize wr.alloc (.cells #[.int .i64 v, .slice A2 yl c2, .int .i64 t] 31) = w5 at *
          generalize wr.heap.size = q at *
          have p0 := hr5.cell 0
          have p1 := hr5.cell 1
          have p2 := hr5.cell 2
          simp at p0 p1 p2
          clear hr5 hb5 HP HU HBr l0 l1 l2
          generalize hps : regPs (1 + m) ls ns.length ++ lutPs hs j = ps at *
          have HPE : Hid (regPs (1 + m) ls ns.length ++ lutPs hs (j + 1) = ps ++ [lutP (.int .i64 v) (.slice A2 yl c2) (.int .i64 t)]) := Lib.hid (by rw [HLP.out, ← hps, List.append_assoc])
          clear hps
          have ej : ((ns.length : Int) + (j : Int)) = ((ns.length + j : Nat) : Int) := by omega
          have hnj : ns.length + j ≤ 1000 := by omega
          go_wp2_with (at_builtin; refine wpList_pushP rfl (.tmp 36) (.tmp 39) rfl _ N g cap (ns.length + j) ps rfl HP5.out hnj _ rfl rfl ?_)
          intro g' cap' w6 hp6 hb6 hk6 hg6
          have hzN : N ≤ w5.heap.size := by omega
          have HP6 : Hid (PartsAt w6 N (ps ++ [lutP (.int .i64 v) (.slice A2 yl c2) (.int .i64 t)]) (ns.length + (j + 1)) g' cap') := Lib.hid hp6
          have HK6 : Hid (∀ b, R ≤ b → b < w4.heap.size → w6.heap[b]? = w4.heap[b]?) := Lib.hid (fun b h1 h2 => by rw [hk6 b (by omega) (by omega), HK5.out b h1 h2])
          have HB6 := Lib.hid (HB5.out.trans hb6)
          have hgo6 : g' < R ∨ w4.heap.size ≤ g' := by omega
          clear hp6 hb6 hk6 p0 p1 p2 ej
          go_wp2
          go_roundw
          case rel => exact ⟨j + 1, g', cap', by omega, by go_num, rfl, by rw [HPE.out]; exact HP6, HK6, hgo6, HB6⟩
          case measure => simp [intOf]; omega
        · obtain rfl : j = n := by omega
          go_wp2
          go_ret
          exact ⟨g, cap, gl, cl, hs, rfl, own_low2 HP.out (by omega), HU.out.low (by omega), HD.out, HL0.out.trans (HBr.out.mono (by omega))⟩
end Go.Proofs.Ythcpgbfghededaa
