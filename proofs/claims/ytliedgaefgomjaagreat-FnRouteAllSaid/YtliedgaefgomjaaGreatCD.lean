/- The contract of the program's Cuts. -/
import Derived.Test.YtliedgaefgomjaaGreatCC
import Derived.Test.YtliedgaefgomjaaGreatC5
namespace Go.Proofs.YtliedgaefgomjaaGreat
open Go.RowKit Go.Deep Cut

theorem DistH.append {a b : List Value} (ha : DistH a) (hb : DistH b) (hab : ∀ u, u ∈ a → ∀ v, v ∈ b → ∀ x, vblk u = some x → vblk v ≠ some x) : DistH (a ++ b) := by
  intro j k hjk u v hu hv x hx
  by_cases h1 : k < a.length
  · rw [List.getElem?_append_left h1] at hv
    rw [List.getElem?_append_left (by omega)] at hu
    exact ha j k hjk u v hu hv x hx
  · rw [List.getElem?_append_right (by omega)] at hv
    by_cases h2 : j < a.length
    · rw [List.getElem?_append_left h2] at hu
      exact hab u (List.mem_of_getElem? hu) v (List.mem_of_getElem? hv) x hx
    · rw [List.getElem?_append_right (by omega)] at hu
      exact hb (j - a.length) (k - a.length) (by omega) u v hu hv x hx
theorem DistH.one (v : Value) : DistH [v] := fun j k hjk u v' hu hv' => by
  have h1 := (List.getElem?_eq_some_iff.1 hu).1
  have h2 := (List.getElem?_eq_some_iff.1 hv').1
  simp at h1 h2
  omega
theorem AllAt.blk {w : World} {B g cap : Nat} {cs : List Cs} {HH : List (List Value)} (h : AllAt w B cs HH g cap) : ∀ u, u ∈ HH.flatten → ∀ b, vblk u = some b → b < w.heap.size := by
  obtain ⟨hs, h1, h2⟩ := h
  intro u hu b hb
  obtain ⟨H, hH, huH⟩ := List.mem_flatten.1 hu
  obtain ⟨k, hk, e⟩ := List.mem_iff_getElem.1 hH
  obtain ⟨A, c, _, hr⟩ := h2.2.2 k (by have := h2.2.1; omega)
  rw [List.getD_eq_getElem?_getD, List.getElem?_eq_getElem hk, Option.getD_some, e] at hr
  exact (hr.2.blk u huH b hb).2.1
theorem dist_push {w : World} {B g cap : Nat} {cs : List Cs} {HH : List (List Value)} {H : List Value} (h : AllAt w B cs HH g cap) (hd : DistH HH.flatten) (hH : DistH H) (hn : ∀ v, v ∈ H → ∀ b, vblk v = some b → w.heap.size ≤ b) : DistH (HH ++ [H]).flatten := by
  rw [List.flatten_append]
  simp only [List.flatten_cons, List.flatten_nil, List.append_nil]
  exact hd.append hH (fun u hu v hv x hx hx' => by have := h.blk u hu x hx; have := hn v hv x hx'; omega)
theorem LstAt.mono {w : World} {B B' g cap : Nat} {xs : Cs} {hs : List Value} (h : LstAt w B xs hs g cap) (hb : B' ≤ B) : LstAt w B' xs hs g cap := by
  refine ⟨⟨h.1.1, ?_⟩, h.2.kept (fun _ _ => rfl) (fun b hb' => ⟨by have := hb'.1; omega, hb'.2⟩)⟩
  rcases h.1.2 with h | ⟨g', cap', cur, hv, h3, h4⟩
  · exact .inl h
  · exact .inr ⟨g', cap', cur, hv, by omega, h4⟩
def ICutsOut (w : World) (f : Nat) (gs : List Opt.G) (e : Ending) (w' : World) : Prop := ∃ g cap HH, e = .returned (.slice (some ⟨g, 0, none⟩) (f + gs.length) cap) ∧ AllAt w' w.heap.size (cuts f gs) HH g cap ∧ DistH HH.flatten ∧ Below w.heap.size w w'

set_option maxRecDepth 10000 in
set_option maxHeartbeats 1000000 in
theorem icuts_t (i : Int) (nA gA oA : Option Addr) (nc gc oc : Nat) (ns : List Int) (gs : List (Int × Int)) (os : List Int) (w : World) (hc : CircAt w w.heap.size nA gA oA ns gs os) (hv : Circ.validB i ns gs os = true) :
    Calls Tryz.prog 96 #[.agg #[.int .i64 i, .slice nA ns.length nc, .slice gA gs.length gc, .slice oA os.length oc]] w (ICutsOut w (Opt.fst i ns) (Opt.natG gs)) := by
  have HF := Lib.hid (natC_fits hv)
  obtain ⟨e1, e2, e3⟩ := natC_ints hv
  have HC := Lib.hid hc
  have HC1 : Hid (CircAt w w.heap.size nA gA oA (Opt.intL (Opt.natC ns gs os).ns) (Opt.intG (Opt.natC ns gs os).gs) (Opt.intL (Opt.natC ns gs os).os)) := Lib.hid (by rw [e1, e2, e3]; exact hc)
  have HG : Hid (Opt.natG gs = (Opt.natC ns gs os).gs) := Lib.hid rfl
  have HV := Lib.hid hv
  clear e1 e2 e3 hc hv
  rw [HG.out]
  generalize Opt.fst i ns = f at *
  generalize Opt.natC ns gs os = c at *
  have h0 := HF.out.i0
  have h1 := HF.out.i4
  have h2 := HF.out.n3
  have h3 := HF.out.g14
  have hf1 : 1 ≤ f := by have := HF.out.hf; omega
  have hf8 : f ≤ 8 := by have := HF.out.hf; omega
  have HB0 := Lib.hid (Boxed.new w i nA gA oA ns.length nc gs.length gc os.length oc 26)
  have HW0 : Hid (Below w.heap.size w (w.alloc (.cells #[.int .i64 i, .slice nA ns.length nc, .slice gA gs.length gc, .slice oA os.length oc] 26))) := Lib.hid ((Below.refl _ _).alloc (Nat.le_refl _) _)
  have hsz0 : (w.alloc (.cells #[.int .i64 i, .slice nA ns.length nc, .slice gA gs.length gc, .slice oA os.length oc] 26)).heap.size = w.heap.size + 1 := by simp
  have HZ0 := Lib.hid hsz0
  clear hsz0
  go_enter Tryz.func96, Tryz.ntmps96
  go_wp2_with fail
  refine (valid_any i nA gA oA nc gc oc ns gs os _ ((HC.out.below HW0.out).mono HW0.out.size)).mono ?_
  rintro e wv ⟨rfl, hbv⟩
  rw [HV.out]
  generalize w.alloc (.cells #[.int .i64 i, .slice nA ns.length nc, .slice gA gs.length gc, .slice oA os.length oc] 26) = w0 at *
  rw [HZ0.out] at hbv
  have HLv := Lib.hid hbv
  have hzv : w.heap.size + 1 ≤ wv.heap.size := by have := hbv.size; rw [HZ0.out] at this; exact this
  have HA0 := Lib.hid ((all_init wv _ rfl).mono hzv)
  have HLi : Hid (Below (w.heap.size + 1) w0 (((wv.alloc (.cells #[] 3)).alloc (.cells #[.slice (some ⟨wv.heap.size, 0, none⟩) 0 0] 23)).alloc (.cells #[.slice (some ⟨wv.heap.size + 1, 0, none⟩) 1 1] 125))) := Lib.hid (HLv.out.trans ((((Below.refl _ _).alloc hzv _).alloc (by simp; omega) _).alloc (by simp; omega) _))
  have HD0 : Hid (DistH ([[Value.slice (some ⟨wv.heap.size, 0, none⟩) 0 0]] : List (List Value)).flatten) := Lib.hid (DistH.one _)
  clear hbv
  go_wp2
  generalize ((wv.alloc (.cells #[] 3)).alloc (.cells #[.slice (some ⟨wv.heap.size, 0, none⟩) 0 0] 23)).alloc (.cells #[.slice (some ⟨wv.heap.size + 1, 0, none⟩) 1 1] 125) = w1 at *
  go_loopw [3, 4] (fun av vv wr => ∃ (k g cap : Nat) (HH : List (List Value)), 1 ≤ k ∧ k ≤ f ∧ vv = .int .i64 k ∧ av = .slice (some ⟨g, 0, none⟩) k cap ∧ Hid (AllAt wr (w.heap.size + 1) ((List.range k).map fun v => [own v]) HH g cap) ∧ Hid (DistH HH.flatten) ∧ Hid (Below (w.heap.size + 1) w0 wr)) (fun _ vv _ => f - (intOf vv).toNat)
  case atStart => exact ⟨1, _, _, _, by omega, hf1, rfl, rfl, HA0, HD0, HLi⟩
  case round =>
    clear HA0 HLi HD0
    obtain ⟨k, g, cap, HH, hk1, hkf, rfl, rfl, HA, HD, HL⟩ := hrel
    have hB := HB0.out.below HL.out (by omega)
    have q0 := hB.c0
    have q1 := hB.c1
    have q2 := hB.c2
    have q3 := hB.c3
    clear hB
    go_wp2_with fail
    refine (firstGate_any _ _ _ _ _ _ _ _ _ _ _ (by omega) (by omega) (by omega)).mono ?_
    rintro e w2 ⟨rfl, hb2⟩
    rw [HF.out.hf]
    have hsz : w.heap.size + 1 ≤ wr.heap.size := by have := HA.out.gb; omega
    have HA2 := Lib.hid (HA.out.on hb2)
    have HL2 := Lib.hid (HL.out.trans (hb2.mono hsz))
    have hsz2 : w.heap.size + 1 ≤ w2.heap.size := by have := HA2.out.gb; omega
    have hg2 := HA2.out.gb.2
    clear hb2 HA HL q0 q1 q2 q3 hsz
    by_cases hlt : k < f
    · have HS := Lib.hid (base_step hlt)
      have HR := Lib.hid (one_row (w := w2) (B := w.heap.size + 1) (g := g) (v := k) hsz2 hg2)
      have HD2 : Hid (DistH (HH ++ [[Value.slice (some ⟨w2.heap.size, 0, none⟩) 1 1]]).flatten) := Lib.hid (dist_push HA2.out HD.out (DistH.one _) (fun v hv b hb => by simp at hv; subst hv; simp [vblk] at hb; omega))
      go_wp2_with (at_builtin; refine wpList_push3 rfl (.tmp 21) (.tmp 25) rfl _ (w.heap.size + 1) g cap k _ HH rfl (base_len k) ((HA2.out.on ((Below.refl _ _).alloc (Nat.le_refl _) _)).on ((Below.refl _ _).alloc (Nat.le_refl _) _)) (by omega) (some ⟨w2.heap.size + 1, 0, none⟩) 1 1 _ [[k]] ?_ rfl (Nat.le_refl _) HR.out ?_; (simp; rfl))
      intro g' cap' w5 h5 hb5
      have HA5 : Hid (AllAt w5 (w.heap.size + 1) ((List.range (k + 1)).map fun v => [own v]) (HH ++ [[.slice (some ⟨w2.heap.size, 0, none⟩) 1 1]]) g' cap') := Lib.hid (by rw [HS.out, own_pos (by omega)]; exact h5)
      have HL5 := Lib.hid (HL2.out.trans ((((Below.refl (w.heap.size + 1) w2).alloc hsz2 _).alloc (by simp; omega) _).trans hb5))
      clear h5 hb5 HA2 HL2 HR HS hsz2 hg2
      go_wp2
      go_roundw
      case rel => exact ⟨k + 1, g', cap', _, by omega, by omega, by go_num, rfl, HA5, HD2, HL5⟩
      case measure => simp [intOf]; omega
    · obtain rfl : k = f := by omega
      have hB := HB0.out.below HL2.out (by omega)
      have q2 := hB.c2
      have hgl : gs.length = c.gs.length := HF.out.lg.symm
      have HGL := Lib.hid hgl
      clear hsz2 hg2 hB hgl
      have HA3 : Hid (AllAt w2 (w.heap.size + 1) (cutsTo k c.gs 0) HH g cap) := Lib.hid HA2.out
      clear HA2
      go_wp2
      clear q2
      go_loopw [3, 30] (fun av iv wr => ∃ (j g cap : Nat) (HH : List (List Value)), j ≤ gs.length ∧ iv = .int .i64 j ∧ av = .slice (some ⟨g, 0, none⟩) (k + j) cap ∧ Hid (AllAt wr (w.heap.size + 1) (cutsTo k c.gs j) HH g cap) ∧ Hid (DistH HH.flatten) ∧ Hid (Below (w.heap.size + 1) w0 wr)) (fun _ iv _ => gs.length - (intOf iv).toNat)
      case atStart => exact ⟨0, g, cap, HH, Nat.zero_le _, rfl, rfl, HA3, HD, HL2⟩
      case round =>
        clear HA3 HL2 HD
        obtain ⟨j, g, cap, HH, hj, rfl, rfl, HA, HD, HL⟩ := hrel
        by_cases hlt : j < gs.length
        · have hjl : j < c.gs.length := by rw [HF.out.lg]; exact hlt
          have hC : CircAt wr w.heap.size nA gA oA (Opt.intL c.ns) (Opt.intG c.gs) (Opt.intL c.os) := (HC1.out.below HW0.out).below (HL.out.mono (by omega))
          obtain ⟨b, off, rfl, hbl, hcA, hcB⟩ := hC.gates j (by rw [Opt.intG_len]; exact hjl)
          rw [Opt.intG_at] at hcA hcB
          obtain ⟨oA, oB⟩ := HF.out.ok.ord j hjl
          have hsz : w.heap.size + 1 ≤ wr.heap.size := by have := HA.out.gb; omega
          have hgA := HA.out.gb
          have HST2 : Hid (cutsTo k c.gs (j + 1) = cutsTo k c.gs j ++ [uni ((cutsTo k c.gs j).getD ((Opt.at_ c.gs j).1 / 2) []) ((cutsTo k c.gs j).getD ((Opt.at_ c.gs j).2 / 2) []) ++ [[k + j]]]) := Lib.hid rfl
          have HCL : Hid ((cutsTo k c.gs j).length = k + j) := Lib.hid (cutsTo_len _ _ _)
          obtain ⟨Ap, cp, hp1, hp2⟩ := HA.out.at ((Opt.at_ c.gs j).1 / 2) (by rw [cutsTo_len]; exact oA)
          obtain ⟨Aq, cq, hq1, hq2⟩ := HA.out.at ((Opt.at_ c.gs j).2 / 2) (by rw [cutsTo_len]; exact oB)
          have HGp := Lib.hid (cutsTo_gd (f := k) (by omega) HF.out.ok.ord j (by omega) _ oA)
          have HGq := Lib.hid (cutsTo_gd (f := k) (by omega) HF.out.ok.ord j (by omega) _ oB)
          have hqa : (((Opt.at_ c.gs j).1 : Nat) : Int) / 2 = (((Opt.at_ c.gs j).1 / 2 : Nat) : Int) := by omega
          have hqb : (((Opt.at_ c.gs j).2 : Nat) : Int) / 2 = (((Opt.at_ c.gs j).2 / 2 : Nat) : Int) := by omega
          clear hC hjl
          generalize hP : (cutsTo k c.gs j).getD ((Opt.at_ c.gs j).1 / 2) [] = P at *
          generalize hQ : (cutsTo k c.gs j).getD ((Opt.at_ c.gs j).2 / 2) [] = Qs at *
          clear hP hQ
          generalize (Opt.at_ c.gs j).1 = va at *
          generalize (Opt.at_ c.gs j).2 = vb at *
          generalize va / 2 = qa at *
          generalize vb / 2 = qb at *
          have HQA := Lib.hid hqa
          have HQB := Lib.hid hqb
          have hpl := HGp.out.len
          have hql := HGq.out.len
          have ekj : ((k + j : Nat) : Int) = (k : Int) + (j : Int) := by omega
          have EKJ := Lib.hid ekj
          clear hqa hqb ekj
          go_wp2
          have hw1 : Below wr.heap.size wr ((wr.alloc (.cells #[.int .i64 va, .int .i64 vb] 113)).alloc (.cells #[.int .i64 ((k : Int) + (j : Int))] 3)) := ((Below.refl _ _).alloc (Nat.le_refl _) _).alloc (by simp) _
          have HAw := HA
          have HW1 := Lib.hid hw1
          have HL3 := Lib.hid (HL.out.trans (hw1.mono hsz))
          have HP3 := Lib.hid (hp2.on hw1)
          have HQ3 := Lib.hid (hq2.on hw1)
          have HRO : Hid (Row ((wr.alloc (.cells #[.int .i64 va, .int .i64 vb] 113)).alloc (.cells #[.int .i64 ((k : Int) + (j : Int))] 3)) (wr.heap.size + 1) 3 #[.int .i64 ((k : Int) + (j : Int))]) := Lib.hid (by
            have h := heap_alloc_new (wr.alloc (.cells #[.int .i64 va, .int .i64 vb] 113)) (.cells #[.int .i64 ((k : Int) + (j : Int))] 3)
            rwa [show (wr.alloc (.cells #[.int .i64 va, .int .i64 vb] 113)).heap.size = wr.heap.size + 1 by simp] at h)
          have e0 : ((wr.alloc (.cells #[.int .i64 va, .int .i64 vb] 113)).alloc (.cells #[.int .i64 ((k : Int) + (j : Int))] 3)).cell? ⟨wr.heap.size, 0, none⟩ = some (.int .i64 va) := by simp
          have e1 : ((wr.alloc (.cells #[.int .i64 va, .int .i64 vb] 113)).alloc (.cells #[.int .i64 ((k : Int) + (j : Int))] 3)).cell? ⟨wr.heap.size, 1, none⟩ = some (.int .i64 vb) := by simp
          have e2 := (hw1.cell (p := ⟨g, qa, none⟩) hgA.2).trans hp1
          have e3 := (hw1.cell (p := ⟨g, qb, none⟩) hgA.2).trans hq1
          have hz3 : ((wr.alloc (.cells #[.int .i64 va, .int .i64 vb] 113)).alloc (.cells #[.int .i64 ((k : Int) + (j : Int))] 3)).heap.size = wr.heap.size + 2 := by simp
          have HDw := Lib.hid (fun (H : List Value) hH hn => dist_push (H := H) HA.out HD.out hH hn)
          clear hw1 hcA hcB hp1 hp2 hq1 hq2 HA HL HD
          generalize (wr.alloc (.cells #[.int .i64 va, .int .i64 vb] 113)).alloc (.cells #[.int .i64 ((k : Int) + (j : Int))] 3) = w3 at *
          have t1 : (0 : Int) ≤ (qa : Int) := Int.natCast_nonneg _
          have t2 : (0 : Int) ≤ (qb : Int) := Int.natCast_nonneg _
          have t3 : (qa : Int) < (k : Int) + (j : Int) := by omega
          have t4 : (qb : Int) < (k : Int) + (j : Int) := by omega
          have hgw : g < w3.heap.size := by omega
          have hzw : wr.heap.size < w3.heap.size := by omega
          go_region_held3 (fun w' => w'.cell? ⟨wr.heap.size, 0, none⟩ = some (.int .i64 va) ∧ w'.cell? ⟨wr.heap.size, 1, none⟩ = some (.int .i64 vb) ∧ w'.cell? ⟨g, qa, none⟩ = some (.slice Ap P.length cp) ∧ w'.cell? ⟨g, qb, none⟩ = some (.slice Aq Qs.length cq))
            (first | exact hS5 | go_keep)
            (first
              | (go_at_call 52; refine (var_any _ _).mono ?_; rintro e w' ⟨rfl, rfl⟩; first | rw [HQA.out] | rw [HQB.out])
              | (go_at_call 107; refine (unionCuts_any Ap Aq P.length Qs.length cp cq P Qs _ ?_ ?_ rfl rfl hpl hql HGp.out.fit HGq.out.fit HGp.out.sa HGq.out.sa).mono ?_; (exact HP3.out); (exact HQ3.out); rintro e w5 ⟨hs, gu, cu, rfl, hLu, hDu, hb5⟩; have HU5 := Lib.hid hLu; have HDU := Lib.hid hDu; have HB5 := Lib.hid hb5; have hS5 := And.intro ((hb5.cell (p := ⟨wr.heap.size, 0, none⟩) hzw).trans e0) (And.intro ((hb5.cell (p := ⟨wr.heap.size, 1, none⟩) hzw).trans e1) (And.intro ((hb5.cell (p := ⟨g, qa, none⟩) hgw).trans e2) ((hb5.cell (p := ⟨g, qb, none⟩) hgw).trans e3))); clear hLu hDu hb5))
          have hb5 : Below w3.heap.size w3 w5 := (Below.refl w3.heap.size w3).drew.trans HB5.out
          have hLu : LstAt w5 w3.heap.size (uni P Qs) hs gu cu := HU5.out
          have hul : (uni P Qs).length ≤ 8 := uniA_le (by simp)
          generalize uni P Qs = U at *
          have HBW := Lib.hid (HW1.out.trans (hb5.mono (by omega)))
          have HL5 := Lib.hid (HL3.out.trans (hb5.mono (by omega)))
          have hro := HRO.out.below hb5 (by omega)
          have hz5 := hb5.size
          have HLo : Hid (LeafIn w5 (Off w5 wr.heap.size gu) (some ⟨wr.heap.size + 1, 0, none⟩) [k + j]) := Lib.hid (.inr ⟨_, _, rfl, ⟨by omega, by omega, by have := hLu.gb; omega⟩, hro, fun t ht => by simp at ht; subst ht; simp⟩)
          have HU6 := Lib.hid (hLu.mono (B' := wr.heap.size) (by omega))
          have HDN : Hid (DistH (hs ++ [Value.slice (some ⟨wr.heap.size + 1, 0, none⟩) 1 1])) := Lib.hid (HDU.out.append (DistH.one _) (fun u hu v hv x hx hx' => by
            have := (hLu.2.blk u hu x hx).1
            simp at hv
            subst hv
            simp [vblk] at hx'
            omega))
          have HD8 : Hid (DistH (HH ++ [hs ++ [Value.slice (some ⟨wr.heap.size + 1, 0, none⟩) 1 1]]).flatten) := Lib.hid (HDw.out _ HDN.out (fun v hv b hb => by
            rcases List.mem_append.1 hv with h | h
            · have := (hLu.2.blk v h b hb).1; omega
            · simp at h; subst h; simp [vblk] at hb; omega))
          have hcl := HCL.out
          clear hb5 hLu hro hS5 e0 e1 e2 e3 HU5 HDU HB5 HW1 HL3 HP3 HQ3 HRO HDw HDN t1 t2 t3 t4
          go_wp2_with (first
            | (at_builtin; (with_reducible refine wpList_push2b rfl (.tmp 51) (.tmp 53) rfl w5 wr.heap.size gu cu U.length U hs rfl rfl HU6.out (by omega) (some ⟨wr.heap.size + 1, 0, none⟩) 1 1 [k + j] rfl rfl HLo.out ?_); intro gu7 cu7 w7 hM7 hb7 _ _; have HM7 := Lib.hid hM7; have HO7 := Lib.hid hM7.1; have HH7 := Lib.hid hM7.2; have hg7 := hM7.gb; have HA7 := Lib.hid (HAw.out.on (HBW.out.trans hb7)); have HB7 := Lib.hid (HL5.out.trans (hb7.mono hsz)); clear hM7 hb7)
            | (at_builtin; (with_reducible refine wpList_push3 rfl (.tmp 50) (.tmp 55) rfl w7 (w.heap.size + 1) g cap (k + j) _ HH rfl hcl HA7.out (by omega) (some ⟨gu7, 0, none⟩) (U.length + 1) cu7 _ (U ++ [[k + j]]) rfl ?_ ?_ (own_row HO7.out HH7.out ?_ ?_) ?_); (simp); (simpa using own_cap HO7.out); (intro b hb; exact ⟨by have := hb.1; omega, hb.2.1, by have := hb.1; omega⟩); (exact ⟨by omega, hg7.2, by omega⟩)))
          intro g8 cap8 w8 hA8 hb8
          have HA8 : Hid (AllAt w8 (w.heap.size + 1) (cutsTo k c.gs (j + 1)) (HH ++ [hs ++ [.slice (some ⟨wr.heap.size + 1, 0, none⟩) 1 1]]) g8 cap8) := Lib.hid (by rw [HST2.out]; exact hA8)
          have HL8 := Lib.hid (HB7.out.trans hb8)
          clear hA8 hb8 HM7 HB7 HO7 HH7 HA7 HU6 HLo HBW HAw HL5 hcl
          go_wp2
          go_roundw
          case rel => exact ⟨j + 1, g8, cap8, _, by omega, by go_num, by rfl, HA8, HD8, HL8⟩
          case measure => simp [intOf]; omega
        · have hE : j = gs.length := by omega
          have HE : Hid (cutsTo k c.gs j = cuts k c.gs ∧ j = c.gs.length) := Lib.hid ⟨by unfold cuts; rw [HF.out.lg, hE], hE.trans HGL.out⟩
          go_wp2
          go_ret
          refine ⟨g, cap, HH, by rw [← HE.out.2]; rfl, ?_, HD.out, HW0.out.trans (HL.out.mono (by omega))⟩
          rw [← HE.out.1]
          exact HA.out.mono (by omega)

end Go.Proofs.YtliedgaefgomjaaGreat
