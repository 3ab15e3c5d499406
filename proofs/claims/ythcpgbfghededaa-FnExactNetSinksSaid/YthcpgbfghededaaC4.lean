/- The contract of the model's cuts. -/
import Derived.Test.YthcpgbfghededaaC3
namespace Go.Proofs.Ythcpgbfghededaa
open Go.RowKit Go.Deep Cut

theorem ListIn.at {w : World} {S : Nat → Prop} {A : Option Addr} {xs : Cs} {B : Nat} (h : ListIn w S A xs) (hS : ∀ b, S b → b < B) : ListAt w B A xs := h.kept (fun _ _ => rfl) hS
theorem IntsIn.at {w : World} {S : Nat → Prop} {A : Option Addr} {xs : List Int} {B : Nat} (h : IntsIn w S A xs) (hS : ∀ b, S b → b < B) : IntsAt w B A xs := h.kept (fun _ _ => rfl) hS
/-- What is known of the list of variable v while all are built. -/
theorem AllAt.at {w : World} {B g cap : Nat} {cs : List Cs} {HH : List (List Value)} (h : AllAt w B cs HH g cap) (v : Nat) (hv : v < cs.length) :
    ∃ (A' : Option Addr) (cap' : Nat), w.cell? ⟨g, v, none⟩ = some (.slice A' (cs.getD v []).length cap') ∧ ListAt w w.heap.size A' (cs.getD v []) := by
  obtain ⟨hs, h1, h2⟩ := h
  obtain ⟨A', cap', e, hx⟩ := h2.2.2 v hv
  exact ⟨A', cap', by rw [h1.cellAt v (by have := h1.1; have := h2.1; omega)]; exact e.1, hx.lists.at (fun b hb => hb.2.1)⟩
theorem base_step {f k : Nat} (_ : k < f) : ((List.range (k + 1)).map fun v => [own v]) = ((List.range k).map fun v => [own v]) ++ [[own k]] := by
  rw [List.range_succ, List.map_append]; rfl
theorem base_len (k : Nat) : ((List.range k).map fun v => [own v]).length = k := by simp
theorem own_pos {v : Nat} (h : 0 < v) : own v = [v] := by unfold Cut.own; rw [if_neg (by omega)]
def CutsOut (w : World) (f : Nat) (gs : List Opt.G) (e : Ending) (w' : World) : Prop := ∃ g cap HH, e = .returned (.slice (some ⟨g, 0, none⟩) (f + gs.length) cap) ∧ AllAt w' w.heap.size (cuts f gs) HH g cap ∧ Below w.heap.size w w'
/-- A list of one list of one number, in two new blocks. -/
theorem one_row {w : World} {B g v : Nat} (hB : B ≤ w.heap.size) (hg : g < w.heap.size) : RowIn ((w.alloc (.cells #[.int .i64 (v : Int)] 3)).alloc (.cells #[.slice (some ⟨w.heap.size, 0, none⟩) 1 1] 23)) (Off ((w.alloc (.cells #[.int .i64 (v : Int)] 3)).alloc (.cells #[.slice (some ⟨w.heap.size, 0, none⟩) 1 1] 23)) B g) (some ⟨w.heap.size + 1, 0, none⟩) [.slice (some ⟨w.heap.size, 0, none⟩) 1 1] [[v]] := by
  have r1 : Row ((w.alloc (.cells #[.int .i64 (v : Int)] 3)).alloc (.cells #[.slice (some ⟨w.heap.size, 0, none⟩) 1 1] 23)) w.heap.size 3 #[.int .i64 (v : Int)] := (Below.heap_alloc _ _ _ (by simp)).trans (heap_alloc_new w _)
  have r2 : Row ((w.alloc (.cells #[.int .i64 (v : Int)] 3)).alloc (.cells #[.slice (some ⟨w.heap.size, 0, none⟩) 1 1] 23)) (w.heap.size + 1) 23 #[.slice (some ⟨w.heap.size, 0, none⟩) 1 1] := by
    have h := heap_alloc_new (w.alloc (.cells #[.int .i64 (v : Int)] 3)) (.cells #[.slice (some ⟨w.heap.size, 0, none⟩) 1 1] 23)
    rwa [show (w.alloc (.cells #[.int .i64 (v : Int)] 3)).heap.size = w.heap.size + 1 by simp] at h
  refine ⟨⟨_, _, rfl, ⟨by omega, by simp, by omega⟩, r2, fun j hj => ?_⟩, rfl, fun k hk => ?_⟩
  · simp at hj; subst hj; rfl
  · simp at hk; subst hk
    refine ⟨_, _, rfl, .inr ⟨_, _, rfl, ⟨hB, by simp; omega, by omega⟩, r1, fun j hj => ?_⟩⟩
    simp at hj; subst hj; rfl

theorem all_init (w : World) (z : Nat) (hz : w.heap.size = z) : AllAt (((w.alloc (.cells #[] 3)).alloc (.cells #[.slice (some ⟨z, 0, none⟩) 0 0] 23)).alloc (.cells #[.slice (some ⟨z + 1, 0, none⟩) 1 1] 68)) z ((List.range 1).map fun v => [own v]) [[.slice (some ⟨z, 0, none⟩) 0 0]] (z + 1 + 1) 1 := by
  subst hz
  have hs1 : (w.alloc (.cells #[] 3)).heap.size = w.heap.size + 1 := by simp
  have hs2 : ((w.alloc (.cells #[] 3)).alloc (.cells #[.slice (some ⟨w.heap.size, 0, none⟩) 0 0] 23)).heap.size = w.heap.size + 1 + 1 := by simp
  have h := World.ownsRow_lit (base := w.heap.size) (e := 68) (size := 1) ((w.alloc (.cells #[] 3)).alloc (.cells #[.slice (some ⟨w.heap.size, 0, none⟩) 0 0] 23)) #[.slice (some ⟨w.heap.size + 1, 0, none⟩) 1 1] 1 (by omega) (by simp [maxLen]) (by simp)
  rw [hs2] at h
  have r2 := heap_alloc_new (w.alloc (.cells #[] 3)) (.cells #[.slice (some ⟨w.heap.size, 0, none⟩) 0 0] 23)
  rw [hs1] at r2
  refine ⟨_, h, rfl, rfl, fun k hk => ?_⟩
  simp at hk
  subst hk
  refine ⟨_, _, ⟨rfl, by simp⟩, ⟨_, _, rfl, ⟨by omega, by simp, by omega⟩, (Below.heap_alloc _ _ _ (by simp)).trans r2, fun j hj => ?_⟩, rfl, fun k hk => ?_⟩
  · simp at hj; subst hj; rfl
  · simp at hk; subst hk; exact ⟨_, _, rfl, .inl rfl⟩
theorem AllAt.mono {w : World} {B B' g cap : Nat} {cs : List Cs} {HH : List (List Value)} (h : AllAt w B cs HH g cap) (hb : B' ≤ B) : AllAt w B' cs HH g cap := by
  obtain ⟨hs, h1, h2⟩ := h
  refine ⟨hs, ⟨h1.1, ?_⟩, h2.kept (fun _ _ => rfl) (fun b hb' => ⟨by have := hb'.1; omega, hb'.2⟩)⟩
  rcases h1.2 with h | ⟨g', cap', cur, hv, h3, h4⟩
  · exact .inl h
  · exact .inr ⟨g', cap', cur, hv, by omega, h4⟩
theorem lst_init (w : World) : LstAt (w.alloc (.cells #[] 23)) w.heap.size [] [] w.heap.size 0 :=
  ⟨World.ownsRow_lit (base := w.heap.size) (e := 23) (size := 1) w #[] 0 (by omega) (by simp [maxLen]) (by simp), Hdrs.nil _ _⟩

set_option maxRecDepth 10000 in
set_option maxHeartbeats 1000000 in
theorem l5Cuts_any (i : Int) (nA gA oA : Option Addr) (nc gc oc nl gl ol f : Nat) (c : Opt.C) (w : World) (hc : CircAt w w.heap.size nA gA oA (Opt.intL c.ns) (Opt.intG c.gs) (Opt.intL c.os)) (hF : Fits i f nl gl ol c) :
    Calls Try.prog 62 #[.agg #[.int .i64 i, .slice nA nl nc, .slice gA gl gc, .slice oA ol oc]] w (CutsOut w f c.gs) := by
  have h0 := hF.i0
  have h1 := hF.i4
  have h2 := hF.n3
  have h3 := hF.g14
  have hf1 : 1 ≤ f := by have := hF.hf; omega
  have hf8 : f ≤ 8 := by have := hF.hf; omega
  have HF := Lib.hid hF
  have HC := Lib.hid hc
  clear hc hF
  have HB0 := Lib.hid (Boxed.new w i nA gA oA nl nc gl gc ol oc 26)
  have HW0 : Hid (Below w.heap.size w (w.alloc (.cells #[.int .i64 i, .slice nA nl nc, .slice gA gl gc, .slice oA ol oc] 26))) := Lib.hid ((Below.refl _ _).alloc (Nat.le_refl _) _)
  have hsz0 : (w.alloc (.cells #[.int .i64 i, .slice nA nl nc, .slice gA gl gc, .slice oA ol oc] 26)).heap.size = w.heap.size + 1 := by simp
  have HA0 := Lib.hid (all_init (w.alloc (.cells #[.int .i64 i, .slice nA nl nc, .slice gA gl gc, .slice oA ol oc] 26)) _ hsz0)
  have HZ0 := Lib.hid hsz0
  clear hsz0
  go_enter Try.func62, Try.ntmps62
  go_wp2
  generalize w.alloc (.cells #[.int .i64 i, .slice nA nl nc, .slice gA gl gc, .slice oA ol oc] 26) = w0 at *
  have HL0 : Hid (Below (w.heap.size + 1) w0 (((w0.alloc (.cells #[] 3)).alloc (.cells #[.slice (some ⟨w.heap.size + 1, 0, none⟩) 0 0] 23)).alloc (.cells #[.slice (some ⟨w.heap.size + 1 + 1, 0, none⟩) 1 1] 68))) := Lib.hid ((((Below.refl _ _).alloc (by have := HZ0.out; omega) _).alloc (by have := HZ0.out; simp; omega) _).alloc (by have := HZ0.out; simp; omega) _)
  generalize ((w0.alloc (.cells #[] 3)).alloc (.cells #[.slice (some ⟨w.heap.size + 1, 0, none⟩) 0 0] 23)).alloc (.cells #[.slice (some ⟨w.heap.size + 1 + 1, 0, none⟩) 1 1] 68) = w1 at *
  go_loopw [3, 4] (fun av vv wr => ∃ (k g cap : Nat) (HH : List (List Value)), 1 ≤ k ∧ k ≤ f ∧ vv = .int .i64 k ∧ av = .slice (some ⟨g, 0, none⟩) k cap ∧ Hid (AllAt wr (w.heap.size + 1) ((List.range k).map fun v => [own v]) HH g cap) ∧ Hid (Below (w.heap.size + 1) w0 wr)) (fun _ vv _ => f - (intOf vv).toNat)
  case atStart => exact ⟨1, _, _, _, by omega, hf1, rfl, rfl, HA0, HL0⟩
  case round =>
    clear HA0 HL0 w1
    obtain ⟨k, g, cap, HH, hk1, hkf, rfl, rfl, HA, HL⟩ := hrel
    have hB := HB0.out.below HL.out (by omega)
    have q0 := hB.c0
    have q1 := hB.c1
    have q2 := hB.c2
    have q3 := hB.c3
    clear hB
    go_wp2_with fail
    refine (l1First_any _ _ _ _ _ _ _ _ _ _ _ (by omega) (by omega) (by omega)).mono ?_
    rintro e w2 ⟨rfl, hb2⟩
    rw [HF.out.hf]
    have hsz : w.heap.size + 1 ≤ wr.heap.size := by have := HA.out.gb; omega
    have HA2 := Lib.hid (HA.out.on hb2)
    have HL2 := Lib.hid (HL.out.trans (hb2.mono hsz))
    have hsz2 : w.heap.size + 1 ≤ w2.heap.size := by have := HA2.out.gb; omega
    have hg2 := HA2.out.gb.2
    clear hb2 HA HL q0 q1 q2 q3 hsz
    by_cases hlt : k < f
    · have HS := Lib.hid (base_step hlt)
      have HR := Lib.hid (one_row (w := w2) (B := w.heap.size + 1) (g := g) (v := k) hsz2 hg2)
      go_wp2_with (at_builtin; refine wpList_push3 rfl (.tmp 22) (.tmp 26) rfl _ (w.heap.size + 1) g cap k _ HH rfl (base_len k) ((HA2.out.on ((Below.refl _ _).alloc (Nat.le_refl _) _)).on ((Below.refl _ _).alloc (Nat.le_refl _) _)) (by omega) (some ⟨w2.heap.size + 1, 0, none⟩) 1 1 _ [[k]] ?_ rfl (Nat.le_refl _) HR.out ?_; (simp; rfl))
      intro g' cap' w5 h5 hb5
      have HA5 : Hid (AllAt w5 (w.heap.size + 1) ((List.range (k + 1)).map fun v => [own v]) (HH ++ [[.slice (some ⟨w2.heap.size, 0, none⟩) 1 1]]) g' cap') := Lib.hid (by rw [HS.out, own_pos (by omega)]; exact h5)
      have HL5 := Lib.hid (HL2.out.trans ((((Below.refl (w.heap.size + 1) w2).alloc hsz2 _).alloc (by simp; omega) _).trans hb5))
      clear h5 hb5 HA2 HL2 HR HS hsz2 hg2
      go_wp2
      go_roundw
      case rel => exact ⟨k + 1, g', cap', _, by omega, by omega, by go_num, rfl, HA5, HL5⟩
      case measure => simp [intOf]; omega
    · obtain rfl : k = f := by omega
      clear hsz2 hg2
      have HA3 : Hid (AllAt w2 (w.heap.size + 1) (cutsTo k c.gs 0) HH g cap) := Lib.hid HA2.out
      clear HA2
      go_wp2
      go_loopw [3, 5] (fun av iv wr => ∃ (j g cap : Nat) (HH : List (List Value)), j ≤ gl ∧ iv = .int .i64 j ∧ av = .slice (some ⟨g, 0, none⟩) (k + j) cap ∧ Hid (AllAt wr (w.heap.size + 1) (cutsTo k c.gs j) HH g cap) ∧ Hid (Below (w.heap.size + 1) w0 wr)) (fun _ iv _ => gl - (intOf iv).toNat)
      case atStart => exact ⟨0, g, cap, HH, Nat.zero_le _, rfl, rfl, HA3, HL2⟩
      case round =>
        clear HA3 HL2
        obtain ⟨j, g, cap, HH, hj, rfl, rfl, HA, HL⟩ := hrel
        have hB := HB0.out.below HL.out (by omega)
        have q0 := hB.c0
        have q1 := hB.c1
        have q2 := hB.c2
        have q3 := hB.c3
        have HBX := Lib.hid hB
        clear hB
        by_cases hlt : j < gl
        · have hjl : j < c.gs.length := by rw [HF.out.lg]; exact hlt
          have hC : CircAt wr w.heap.size nA gA oA (Opt.intL c.ns) (Opt.intG c.gs) (Opt.intL c.os) := (HC.out.below HW0.out).below (HL.out.mono (by omega))
          obtain ⟨b, off, rfl, hbl, hcA, hcB⟩ := hC.gates j (by rw [Opt.intG_len]; exact hjl)
          rw [Opt.intG_at] at hcA hcB
          obtain ⟨oA, oB⟩ := HF.out.ok.ord j hjl
          have hsz : w.heap.size + 1 ≤ wr.heap.size := by have := HA.out.gb; omega
          have HCL : Hid ((cutsTo k c.gs j).length = k + j) := Lib.hid (cutsTo_len _ _ _)
          have HSTEP : Hid (cutsTo k c.gs (j + 1) = cutsTo k c.gs j ++ [uni ((cutsTo k c.gs j).getD ((Opt.at_ c.gs j).1 / 2) []) ((cutsTo k c.gs j).getD ((Opt.at_ c.gs j).2 / 2) []) ++ [[k + j]]]) := Lib.hid rfl
          obtain ⟨Ap, cp, hp1, hp2⟩ := HA.out.at ((Opt.at_ c.gs j).1 / 2) (by rw [cutsTo_len]; exact oA)
          obtain ⟨Aq, cq, hq1, hq2⟩ := HA.out.at ((Opt.at_ c.gs j).2 / 2) (by rw [cutsTo_len]; exact oB)
          have HGp := Lib.hid (cutsTo_gd (f := k) (by omega) HF.out.ok.ord j (by omega) _ oA)
          have HGq := Lib.hid (cutsTo_gd (f := k) (by omega) HF.out.ok.ord j (by omega) _ oB)
          have u1 : ((((Opt.at_ c.gs j).1 : Nat) : Int)).tdiv 2 = (((Opt.at_ c.gs j).1 / 2 : Nat) : Int) := by rw [Int.tdiv_eq_ediv_of_nonneg (by omega)]; omega
          have u2 : ((((Opt.at_ c.gs j).2 : Nat) : Int)).tdiv 2 = (((Opt.at_ c.gs j).2 / 2 : Nat) : Int) := by rw [Int.tdiv_eq_ediv_of_nonneg (by omega)]; omega
          clear hC hjl
          generalize hP : (cutsTo k c.gs j).getD ((Opt.at_ c.gs j).1 / 2) [] = P at *
          generalize hQ : (cutsTo k c.gs j).getD ((Opt.at_ c.gs j).2 / 2) [] = Qs at *
          clear hP hQ
          generalize (Opt.at_ c.gs j).1 = va at *
          generalize (Opt.at_ c.gs j).2 = vb at *
          generalize va / 2 = qa at *
          generalize vb / 2 = qb at *
          have HP2 := Lib.hid hp2
          have HQ2 := Lib.hid hq2
          have hpl := HGp.out.len
          have hql := HGq.out.len
          clear hp2 hq2
          go_wp2_with fail
          refine (l1First_any _ _ _ _ _ _ _ _ _ _ _ (by omega) (by omega) (by omega)).mono ?_
          rintro e w3 ⟨rfl, hb3⟩
          rw [HF.out.hf]
          have HA3 := Lib.hid (HA.out.on hb3)
          have HL3 := Lib.hid (HL.out.trans (hb3.mono hsz))
          have hB3 := HB0.out.below HL3.out (by omega)
          have r2 := hB3.c2
          have hgA := HA.out.gb
          have hz3 := hb3.size
          have hcA3 := (hb3.cell (p := ⟨b, off + j * 2, none⟩) (by show b < _; omega)).trans hcA
          have hcB3 := (hb3.cell (p := ⟨b, off + j * 2 + 1, none⟩) (by show b < _; omega)).trans hcB
          have hp3 := (hb3.cell (p := ⟨g, qa, none⟩) hgA.2).trans hp1
          have hq3 := (hb3.cell (p := ⟨g, qb, none⟩) hgA.2).trans hq1
          have HP3 := Lib.hid (HP2.out.on hb3)
          have HQ3 := Lib.hid (HQ2.out.on hb3)
          have hg3 : g < w3.heap.size := by omega
          have hb3' : b < w3.heap.size := by omega
          have hw3 : w.heap.size < w3.heap.size := by omega
          have HI3 := Lib.hid (lst_init w3)
          have HJ3 : Hid (Below w3.heap.size w3 (w3.alloc (.cells #[] 23))) := Lib.hid ((Below.refl _ _).alloc (Nat.le_refl _) _)
          have s1 : IntKind.i64.wrap ((k : Int) + (j : Int)) = (k : Int) + (j : Int) := IntWalk.i64_in _ (by omega)
          have t1 : IntKind.i64.wrap (qa : Int) = (qa : Int) := IntWalk.i64_in _ (by omega)
          have t2 : IntKind.i64.wrap (qb : Int) = (qb : Int) := IntWalk.i64_in _ (by omega)
          have t3 : (qa : Int) < (k : Int) + (j : Int) := by omega
          have t4 : (qb : Int) < (k : Int) + (j : Int) := by omega
          clear hb3 hcA hcB hp1 hq1 HP2 HQ2 HA HL q0 q1 q2 q3 hB3 HBX hgA hz3
          go_wp2
          clear s1 t1 t2 t3 t4 u1 u2 hcA3 hcB3 hp3 hq3 r2
          go_loopw [7, 10] (fun lv av wr => ∃ (a gm cl : Nat) (hs : List Value), a ≤ P.length ∧ av = .int .i64 a ∧ lv = .slice (some ⟨gm, 0, none⟩) (uniA [] (P.take a) Qs).length cl ∧ Hid (LstAt wr w3.heap.size (uniA [] (P.take a) Qs) hs gm cl) ∧ Hid (Below w3.heap.size w3 wr)) (fun _ av _ => P.length - (intOf av).toNat)
          case atStart => exact ⟨0, _, _, [], Nat.zero_le _, rfl, rfl, HI3, HJ3⟩
          case round =>
            clear HI3 HJ3
            obtain ⟨a, gm, cl, hs, ha, rfl, rfl, HM, HB⟩ := hrel
            by_cases hap : a < P.length
            · obtain ⟨bp, op, rfl, hbp, Ax, cx, hcx, hx⟩ := HP3.out a hap
              have HX3 : Hid (IntsAt w3 w3.heap.size Ax (Opt.intL (P.getD a []))) := Lib.hid (hx.at (fun _ h => h))
              have HCX := Lib.hid hcx
              have hxl := HGp.out.fit _ (getD_mem' hap)
              have HSA := Lib.hid (uniA_step [] P Qs a hap)
              have HU0 : Hid ((uniA [] (P.take a) Qs).length ≤ 8) := Lib.hid (uniA_le (by simp))
              have HU3 : Hid (∀ z, z ∈ uniA [] (P.take a) Qs → z.length ≤ 3) := Lib.hid (uniA_all (P := fun z => z.length ≤ 3) (fun z hz => absurd hz (by simp)) (fun _ _ _ _ h => h))
              clear hx hcx
              generalize P.getD a [] = x at *
              generalize uniA [] (P.take a) Qs = U0 at *
              have HM0 : Hid (LstAt wr w3.heap.size (uni1 U0 x (Qs.take 0)) hs gm cl) := HM
              clear HM
              go_wp2
              go_loopw [7, 11] (fun lv dv wr => ∃ (d gm cl : Nat) (hs : List Value), d ≤ Qs.length ∧ dv = .int .i64 d ∧ lv = .slice (some ⟨gm, 0, none⟩) (uni1 U0 x (Qs.take d)).length cl ∧ Hid (LstAt wr w3.heap.size (uni1 U0 x (Qs.take d)) hs gm cl) ∧ Hid (Below w3.heap.size w3 wr)) (fun _ dv _ => Qs.length - (intOf dv).toNat)
              case atStart => exact ⟨0, gm, cl, hs, Nat.zero_le _, rfl, rfl, HM0, HB⟩
              case round =>
                clear HM0 HB
                obtain ⟨d, gm, cl, hs, hd, rfl, rfl, HM, HB⟩ := hrel
                by_cases hdq : d < Qs.length
                · obtain ⟨bq, oq, rfl, hbq, Ay, cy, hcy, hy⟩ := HQ3.out d hdq
                  have hyl := HGq.out.fit _ (getD_mem' hdq)
                  have HSU := Lib.hid (uni1_step U0 x Qs d hdq)
                  have hU1 : (uni1 U0 x (Qs.take d)).length ≤ 8 := uni1_le HU0.out
                  have HUF := Lib.hid (fun t (ht : t < (uni1 U0 x (Qs.take d)).length) => uni1_all (P := fun z => z.length ≤ 3) HU3.out (fun _ _ h => h) _ (getD_mem' ht))
                  have hy' : IntsAt w3 w3.heap.size Ay (Opt.intL (Qs.getD d [])) := hy.at (fun _ h => h)
                  have HXr := Lib.hid ((HX3.out.below HB.out).mono HB.out.size)
                  have HYr := Lib.hid ((hy'.below HB.out).mono HB.out.size)
                  have hcx : wr.cell? ⟨bp, op + a, none⟩ = some (.slice Ax x.length cx) := (HB.out.cell (p := ⟨bp, op + a, none⟩) hbp).trans HCX.out
                  have hcyr := (HB.out.cell (p := ⟨bq, oq + d, none⟩) hbq).trans hcy
                  have hbs := HB.out.size
                  clear hy hy' hcy
                  generalize Qs.getD d [] = y at *
                  generalize uni1 U0 x (Qs.take d) = U at *
                  have i1 : (0 : Int) ≤ (a : Int) := Int.natCast_nonneg _
                  have i2 : (a : Int) < (P.length : Int) := by omega
                  have i3 : (0 : Int) ≤ (d : Int) := Int.natCast_nonneg _
                  have i4 : (d : Int) < (Qs.length : Int) := by omega
                  go_wp2
                  go_region_held3 (fun w' => w'.cell? ⟨bp, op + a, none⟩ = some (.slice Ax x.length cx) ∧ w'.cell? ⟨bq, oq + d, none⟩ = some (.slice Ay y.length cy))
                    (first | exact hS5 | go_keep)
                    (first | (go_at_call 97; refine (l5Merge_any Ax Ay x.length y.length cx cy x y _ ?_ ?_ rfl rfl ?_ ?_).mono ?_; (exact HXr.out); (exact HYr.out); (omega); (omega); rintro e w5 ⟨gz, cz, rfl, hown5, hb5⟩; have HO5 := Lib.hid hown5; have HB5 := Lib.hid hb5; have hS5 := And.intro ((hb5.cell (p := ⟨bp, op + a, none⟩) (by show bp < wr.heap.size; omega)).trans hcx) ((hb5.cell (p := ⟨bq, oq + d, none⟩) (by show bq < wr.heap.size; omega)).trans hcyr); clear hown5 hb5))
                  have hbw : Below wr.heap.size wr w5 := (Below.refl wr.heap.size wr).drew.trans HB5.out
                  have HM5 := Lib.hid (HM.out.on hbw)
                  have HJ5 := Lib.hid (HB.out.trans (hbw.mono hbs))
                  have hzg : wr.heap.size ≤ gz ∧ gz < w5.heap.size := HO5.out.lt gz rfl
                  have hgm := HM.out.gb
                  have hml : (merge x y).length ≤ 1000 := by have := merge_len x y; omega
                  have HL5 : Hid (LeafIn w5 (Off w5 w3.heap.size gm) (some ⟨gz, 0, none⟩) (merge x y)) := Lib.hid (own_leaf HO5.out ⟨by omega, hzg.2, by omega⟩)
                  have HIM : Hid (IntsAt w5 w5.heap.size (some ⟨gz, 0, none⟩) (Opt.intL (merge x y))) := Lib.hid (HL5.out.ints.at (fun b hb => hb.2.1))
                  have HLU : Hid (ListAt w5 w5.heap.size (some ⟨gm, 0, none⟩) U) := Lib.hid ((own_row (T := fun b => b < w5.heap.size) HM5.out.1 HM5.out.2 (fun b hb => hb.2.1) HM5.out.gb.2).lists.at (fun _ h => h))
                  have hz5 : w3.heap.size ≤ w5.heap.size := by omega
                  clear hS5 HO5 HB5 hcx hcyr hbw HM HB HXr HYr hbs i1 i2 i3 i4
                  have HPUT : Hid (put U (merge x y) = if (merge x y).length ≤ 3 ∧ U.length < 8 ∧ merge x y ∉ U then U ++ [merge x y] else U) := Lib.hid rfl
                  generalize merge x y = mg at *
                  by_cases hl3 : mg.length ≤ 3
                  · by_cases hu8 : U.length < 8
                    · cases hmem : decide (mg ∈ U) with
                      | true =>
                        have HME := Lib.hid hmem
                        have HPE : Hid (uni1 U0 x (Qs.take (d + 1)) = U) := Lib.hid (by rw [HSU.out, HPUT.out, if_neg (by simp at hmem; simp [hmem])])
                        clear hmem
                        go_wp2_with (go_at_call 98; refine (l5Has_any (some ⟨gm, 0, none⟩) (some ⟨gz, 0, none⟩) U.length mg.length cl cz U mg _ HLU.out HIM.out rfl rfl ?_ ?_ ?_).mono ?_; (omega); (omega); (intro t ht; have := HUF.out t ht; omega); rintro e w6 ⟨rfl, hb6⟩; rw [HME.out])
                        have HM6 : Hid (LstAt w6 w3.heap.size (uni1 U0 x (Qs.take (d + 1))) hs gm cl) := Lib.hid (by rw [HPE.out]; exact HM5.out.on hb6)
                        have HJ6 := Lib.hid (HJ5.out.trans (hb6.mono hz5))
                        clear hb6 HM5 HJ5 HL5 HIM HLU
                        go_roundw
                        case rel => exact ⟨d + 1, gm, cl, hs, by omega, by go_num, by rw [HPE.out], HM6, HJ6⟩
                        case measure => simp [intOf]; omega
                      | false =>
                        have HME := Lib.hid hmem
                        have HPE : Hid (uni1 U0 x (Qs.take (d + 1)) = U ++ [mg]) := Lib.hid (by rw [HSU.out, HPUT.out, if_pos ⟨hl3, hu8, by simpa using hmem⟩])
                        clear hmem
                        go_wp2_with (first
                          | (go_at_call 98; refine (l5Has_any (some ⟨gm, 0, none⟩) (some ⟨gz, 0, none⟩) U.length mg.length cl cz U mg _ HLU.out HIM.out rfl rfl ?_ ?_ ?_).mono ?_; (omega); (omega); (intro t ht; have := HUF.out t ht; omega); rintro e w6 ⟨rfl, hb6⟩; rw [HME.out]; have HM6 := Lib.hid (HM5.out.on hb6); have HJ6 := Lib.hid (HJ5.out.trans (hb6.mono hz5)); have HL6 := Lib.hid (HL5.out.kept (fun b hb => hb6.block b hb.2.1) (Off.on hb6.size)); have hz6 := Nat.le_trans hz5 hb6.size; clear hb6)
                          | (at_builtin; refine wpList_push2 rfl (.tmp 95) (.tmp 97) rfl _ w3.heap.size gm cl U.length U hs rfl rfl HM6.out (by omega) (some ⟨gz, 0, none⟩) mg.length cz mg rfl rfl HL6.out ?_))
                        intro gm7 cl7 w7 hM7 hb7 _
                        have HM7 : Hid (LstAt w7 w3.heap.size (uni1 U0 x (Qs.take (d + 1))) (hs ++ [.slice (some ⟨gz, 0, none⟩) mg.length cz]) gm7 cl7) := Lib.hid (by rw [HPE.out]; exact hM7)
                        have HJ7 := Lib.hid (HJ6.out.trans hb7)
                        have hln : (U ++ [mg]).length = U.length + 1 := by simp
                        clear hb7 hM7 HM5 HJ5 HL5 HIM HLU HM6 HJ6 HL6
                        go_wp2
                        go_roundw
                        case rel => exact ⟨d + 1, gm7, cl7, _, by omega, by go_num, by rw [HPE.out, hln], HM7, HJ7⟩
                        case measure => simp [intOf]; omega
                    · have HPE : Hid (uni1 U0 x (Qs.take (d + 1)) = U) := Lib.hid (by rw [HSU.out, HPUT.out, if_neg (fun h => hu8 h.2.1)])
                      have HM6 : Hid (LstAt w5 w3.heap.size (uni1 U0 x (Qs.take (d + 1))) hs gm cl) := Lib.hid (by rw [HPE.out]; exact HM5.out)
                      clear HM5 HL5 HIM HLU
                      go_wp2
                      go_roundw
                      case rel => exact ⟨d + 1, gm, cl, hs, by omega, by go_num, by rw [HPE.out], HM6, HJ5⟩
                      case measure => simp [intOf]; omega
                  · have HPE : Hid (uni1 U0 x (Qs.take (d + 1)) = U) := Lib.hid (by rw [HSU.out, HPUT.out, if_neg (fun h => hl3 h.1)])
                    have HM6 : Hid (LstAt w5 w3.heap.size (uni1 U0 x (Qs.take (d + 1))) hs gm cl) := Lib.hid (by rw [HPE.out]; exact HM5.out)
                    clear HM5 HL5 HIM HLU
                    go_wp2
                    go_roundw
                    case rel => exact ⟨d + 1, gm, cl, hs, by omega, by go_num, by rw [HPE.out], HM6, HJ5⟩
                    case measure => simp [intOf]; omega
                · obtain rfl : d = Qs.length := by omega
                  have HE : Hid (uni1 U0 x (Qs.take Qs.length) = uniA [] (P.take (a + 1)) Qs) := Lib.hid (by rw [List.take_length]; exact HSA.out.symm)
                  rw [HE.out] at HM
                  clear HSA
                  go_wp2
                  go_roundw
                  case rel => exact ⟨a + 1, gm, cl, hs, by omega, by go_num, by rw [HE.out], HM, HB⟩
                  case measure => simp [intOf]; omega
            · obtain rfl : a = P.length := by omega
              have hTk : P.take P.length = P := List.take_length
              rw [hTk] at HM ⊢
              have hul : (uniA [] P Qs).length ≤ 8 := uniA_le (by simp)
              have HST2 : Hid (cutsTo k c.gs (j + 1) = cutsTo k c.gs j ++ [uniA [] P Qs ++ [[k + j]]]) := HSTEP
              clear HSTEP hTk
              generalize uniA [] P Qs = U at *
              have hgm := HM.out.gb
              have hbs := HB.out.size
              have HA4 := Lib.hid (HA3.out.on HB.out)
              have hcl := HCL.out
              have HL4 : Hid (LeafIn (wr.alloc (.cells #[.int .i64 ((k : Int) + (j : Int))] 3)) (Off (wr.alloc (.cells #[.int .i64 ((k : Int) + (j : Int))] 3)) w3.heap.size gm) (some ⟨wr.heap.size, 0, none⟩) [k + j]) := Lib.hid (.inr ⟨_, _, rfl, ⟨hbs, by simp, by omega⟩, heap_alloc_new wr _, fun t ht => by simp at ht; subst ht; simp⟩)
              have HM4 := Lib.hid (HM.out.on (w' := wr.alloc (.cells #[.int .i64 ((k : Int) + (j : Int))] 3)) ((Below.refl _ _).alloc (Nat.le_refl _) _))
              have hz4 : (wr.alloc (.cells #[.int .i64 ((k : Int) + (j : Int))] 3)).heap.size = wr.heap.size + 1 := by simp
              have hb4 : Below w3.heap.size w3 (wr.alloc (.cells #[.int .i64 ((k : Int) + (j : Int))] 3)) := HB.out.alloc hbs _
              have HB4 := Lib.hid hb4
              clear hb4 HA4
              go_wp2_with (first
                | (at_builtin; (with_reducible refine wpList_push2 rfl (.tmp 100) (.tmp 103) rfl (wr.alloc (.cells #[.int .i64 ((k : Int) + (j : Int))] 3)) w3.heap.size gm cl U.length U hs rfl rfl HM4.out (by omega) (some ⟨wr.heap.size, 0, none⟩) 1 1 [k + j] ?_ rfl HL4.out ?_); (rw [hz4]; rfl); intro gm7 cl7 w7 hM7 hb7 _; have HM7 := Lib.hid hM7; have HO7 := Lib.hid hM7.1; have HH7 := Lib.hid hM7.2; have HA7 := Lib.hid (HA3.out.on (HB4.out.trans hb7)); have HB7 := Lib.hid (HB4.out.trans hb7); clear hM7 hb7)
                | (at_builtin; (with_reducible refine wpList_push3 rfl (.tmp 99) (.tmp 105) rfl w7 (w.heap.size + 1) g cap (k + j) _ HH rfl hcl HA7.out (by omega) (some ⟨gm7, 0, none⟩) (U.length + 1) cl7 _ (U ++ [[k + j]]) rfl ?_ ?_ (own_row HO7.out HH7.out ?_ ?_) ?_); (simp); (simpa using own_cap HO7.out); (intro b hb; exact ⟨by have := hb.1; omega, hb.2.1, by have := hb.1; omega⟩); (exact ⟨by have := HM7.out.gb; omega, HM7.out.gb.2, by have := HM7.out.gb; omega⟩)))
              intro g8 cap8 w8 hA8 hb8
              have HA8 : Hid (AllAt w8 (w.heap.size + 1) (cutsTo k c.gs (j + 1)) (HH ++ [hs ++ [.slice (some ⟨wr.heap.size, 0, none⟩) 1 1]]) g8 cap8) := Lib.hid (by rw [HST2.out]; exact hA8)
              have HL8 := Lib.hid (HL3.out.trans ((HB7.out.mono (by omega)).trans hb8))
              clear hA8 hb8 HM7 HB7 HO7 HH7 HA7 HM4 HL4 HB4 HM HB HA3 HL3 hcl
              go_wp2
              go_roundw
              case rel => exact ⟨j + 1, g8, cap8, _, by omega, by go_num, by rfl, HA8, HL8⟩
              case measure => simp [intOf]; omega
        · obtain rfl : j = gl := by omega
          have HE : Hid (cutsTo k c.gs j = cuts k c.gs ∧ j = c.gs.length) := Lib.hid ⟨by unfold cuts; rw [HF.out.lg], HF.out.lg.symm⟩
          go_wp2
          go_ret
          refine ⟨g, cap, HH, by rw [← HE.out.2]; rfl, ?_, HW0.out.trans (HL.out.mono (by omega))⟩
          rw [← HE.out.1]
          exact HA.out.mono (by omega)
end Go.Proofs.Ythcpgbfghededaa
