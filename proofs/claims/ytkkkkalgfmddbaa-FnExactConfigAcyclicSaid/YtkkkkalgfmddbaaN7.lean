/- The contract of the model's cone. -/
import Derived.Test.YtkkkkalgfmddbaaQD
import Derived.Test.YtkkkkalgfmddbaaT3
import Derived.Test.YtkkkkalgfmddbaaW3
import Derived.Test.YtkkkkalgfmddbaaY2
import Derived.Deep.DeepCutAuto
import Derived.Test.YtkkkkalgfmddbaaM6
import Derived.Test.YtkkkkalgfmddbaaEL
namespace Go.Proofs.Ytkkkkalgfmddbaa
open Go.RowKit Go.Deep Cut

theorem idx_first : ∀ (lv : List Nat) (k v : Nat), k < lv.length → lv.getD k 0 = v → (∀ j, j < k → lv.getD j 0 ≠ v) → lv.idxOf v = k ∧ lv.contains v = true
  | [], k, v, h, _, _ => by simp at h
  | a :: r, 0, v, _, h, _ => by
    simp at h
    subst h
    simp
  | a :: r, k + 1, v, h, h1, h2 => by
    have h0 := h2 0 (by omega)
    simp at h0
    obtain ⟨i1, i2⟩ := idx_first r k v (by simpa using h) (by simpa using h1) (fun j hj => by have := h2 (j + 1) (by omega); simpa using this)
    refine ⟨?_, ?_⟩
    · rw [List.idxOf_cons, show (a == v) = false by simpa using h0]
      simp [i1]
    · rw [List.contains_cons, i2, Bool.or_true]
theorem not_leaf (lv : List Nat) (v : Nat) (h : ∀ j, j < lv.length → lv.getD j 0 ≠ v) : lv.contains v = false := by
  rw [Bool.eq_false_iff]
  intro hc
  obtain ⟨h1, h2⟩ := idx_get (List.contains_iff_mem.1 hc)
  exact h _ h1 h2

theorem six_on {w w' : World} {N H b o : Nat} {a0 a1 a2 a3 x y : Value} (h : Below N w w') (h1 : H < N) (h2 : b < N) (s : w.cell? ⟨H, 0, none⟩ = some a0 ∧ w.cell? ⟨H, 1, none⟩ = some a1 ∧ w.cell? ⟨H, 2, none⟩ = some a2 ∧ w.cell? ⟨H, 3, none⟩ = some a3 ∧ w.cell? ⟨b, o, none⟩ = some x ∧ w.cell? ⟨b, o + 1, none⟩ = some y) :
    w'.cell? ⟨H, 0, none⟩ = some a0 ∧ w'.cell? ⟨H, 1, none⟩ = some a1 ∧ w'.cell? ⟨H, 2, none⟩ = some a2 ∧ w'.cell? ⟨H, 3, none⟩ = some a3 ∧ w'.cell? ⟨b, o, none⟩ = some x ∧ w'.cell? ⟨b, o + 1, none⟩ = some y :=
  ⟨(h.cell (by exact h1)).trans s.1, (h.cell (by exact h1)).trans s.2.1, (h.cell (by exact h1)).trans s.2.2.1, (h.cell (by exact h1)).trans s.2.2.2.1, (h.cell (by exact h2)).trans s.2.2.2.2.1, (h.cell (by exact h2)).trans s.2.2.2.2.2⟩

set_option maxRecDepth 10000 in
set_option maxHeartbeats 1000000 in
theorem cone_any (i : Int) (nA gA oA A : Option Addr) (nl nc gl gc ol oc cap f m x : Nat) (G : List Opt.G) (lv : List Nat) (hm : lv.length = m) (hm3 : m ≤ 3) (hf : 1 + i + (nl : Int) = f) (h0 : 0 ≤ i) (h1 : i ≤ 4) (h2 : nl ≤ 3) (hgl : G.length = gl) (hg14 : gl ≤ 14) (hord : Opt.ordered f G) (_hx : x < 8) (v : Nat) :
    ∀ (w : World), GatesAt w w.heap.size gA (Opt.intG G) → IntsAt w w.heap.size A (Opt.intL lv) → v < f + gl →
    Calls Try.prog 176 #[.agg #[.int .i64 i, .slice nA nl nc, .slice gA gl gc, .slice oA ol oc], .int .i64 v, .slice A m cap, .int .i64 x] w fun e w' => e = .returned (.bool (coneV f G x lv v)) ∧ Below w.heap.size w w' := by
  have hf8 : f ≤ 8 := by omega
  have HM := Lib.hid hm
  have HF := Lib.hid hf
  have HGL := Lib.hid hgl
  have HOR := Lib.hid hord
  clear hm hf hgl hord
  induction v using Nat.strongRecOn with
  | _ v ih =>
    intro w hg hlv hv
    have HIH := Lib.hid ih
    have HG := Lib.hid hg
    have HLV := Lib.hid hlv
    clear ih hg hlv
    have HW0 : Hid (Below w.heap.size w (w.alloc (.cells #[.int .i64 i, .slice nA nl nc, .slice gA gl gc, .slice oA ol oc] 108))) := Lib.hid ((Below.refl _ _).alloc (Nat.le_refl _) _)
    have HB0 := Lib.hid (Boxed.new w i nA gA oA nl nc gl gc ol oc 108)
    have hsz0 : (w.alloc (.cells #[.int .i64 i, .slice nA nl nc, .slice gA gl gc, .slice oA ol oc] 108)).heap.size = w.heap.size + 1 := by simp
    have HZ0 := Lib.hid hsz0
    clear hsz0
    go_enter Try.func176, Try.ntmps176
    go_wp2
    generalize w.alloc (.cells #[.int .i64 i, .slice nA nl nc, .slice gA gl gc, .slice oA ol oc] 108) = w0 at *
    go_loop [9] (fun iv => ∃ (k : Nat), k ≤ m ∧ iv = .int .i64 k ∧ Hid (∀ j, j < k → lv.getD j 0 ≠ v)) (fun iv => m - (intOf iv).toNat)
    case atStart => exact ⟨0, Nat.zero_le _, rfl, Lib.hid (fun j hj => by omega)⟩
    case round =>
      obtain ⟨k, hk, rfl, HNO⟩ := hrel
      by_cases hlt : k < m
      · obtain ⟨b, off, rfl, hbl, hcell⟩ := HLV.out k (by rw [Opt.intL_len, HM.out]; exact hlt)
        rw [← HW0.out.cell (by exact hbl), Opt.intL_at] at hcell
        by_cases he : lv.getD k 0 = v
        · obtain ⟨i1, i2⟩ := idx_first lv k v (by rw [HM.out]; exact hlt) he HNO.out
          have HE : Hid (coneV f G x lv v = x.testBit k) := Lib.hid (by rw [coneV_leaf f G x lv i2 HOR.out (by rw [HGL.out]; exact hv), i1])
          have HB : Hid (((x : Int) / 2 ^ k % 2 == 1) = x.testBit k) := Lib.hid (by
            rw [odd_eq x k (by omega), Nat.testBit_eq_decide_div_mod_eq]
            rcases Nat.mod_two_eq_zero_or_one (x / 2 ^ k) with e | e <;> rw [e] <;> rfl)
          have hx0 : (0 : Int) ≤ (x : Int) / 2 ^ k := by rw [shr_nat]; exact Int.natCast_nonneg _
          rw [he] at hcell
          clear i1 i2 he
          go_wp2
          go_ret
          exact ⟨by rw [HE.out, ← HB.out]; rfl, HW0.out⟩
        · have HN2 : Hid (∀ j, j < k + 1 → lv.getD j 0 ≠ v) := Lib.hid (fun j hj => by
            by_cases e : j = k
            · subst e; exact he
            · exact HNO.out j (by omega))
          have hne : ((lv.getD k 0 : Nat) : Int) ≠ (v : Int) := by omega
          generalize lv.getD k 0 = u at *
          go_wp2
          go_round
          case rel => exact ⟨k + 1, by omega, by go_num, HN2⟩
          case measure => simp [intOf]; omega
      · obtain rfl : k = m := by omega
        have hcf := not_leaf lv v (fun j hj => HNO.out j (by rw [← HM.out]; exact hj))
        have HCF := Lib.hid hcf
        clear hcf
        have q0 := HB0.out.c0
        have q1 := HB0.out.c1
        have q2 := HB0.out.c2
        have q3 := HB0.out.c3
        go_wp2_with fail
        refine (l1First_any _ _ _ _ _ _ _ _ _ _ _ (by omega) (by omega) (by omega)).mono ?_
        rintro e w1 ⟨rfl, hb1⟩
        rw [HF.out]
        rw [HZ0.out] at hb1
        have HB1 := Lib.hid (HB0.out.below hb1 (by omega))
        have HL1 := Lib.hid (HW0.out.trans (hb1.mono (by omega)))
        have hww : w.heap.size + 1 ≤ w1.heap.size := by have := hb1.size; have := HZ0.out; omega
        clear hb1 q0 q1 q2 q3
        by_cases hvf : v < f
        · have HE : Hid (coneV f G x lv v = false) := Lib.hid (by rw [coneV_low f G x lv hvf]; unfold leafB; rw [HCF.out]; rfl)
          have hvi : (v : Int) < (f : Int) := by omega
          go_wp2
          go_ret
          exact ⟨by rw [HE.out]; rfl, HL1.out⟩
        · obtain ⟨t, ht⟩ : ∃ t, v = f + t := ⟨v - f, by omega⟩
          have htg : t < gl := by omega
          have hvi : ¬ (v : Int) < (f : Int) := by omega
          obtain ⟨or1, or2⟩ := HOR.out t (by rw [HGL.out]; exact htg)
          obtain ⟨b, off, rfl, hbl, hcA, hcB⟩ := HG.out t (by rw [Opt.intG_len, HGL.out]; exact htg)
          rw [← HL1.out.cell (by exact hbl), Opt.intG_at] at hcA hcB
          have HCG := Lib.hid (coneV_gate f G x lv or1 or2)
          generalize (Opt.at_ G t).1 = qa at *
          generalize (Opt.at_ G t).2 = qb at *
          have HBL := Lib.hid hbl
          have hbw1 : b < w1.heap.size := by omega
          have e1 : (f : Int) + (t : Int) - (f : Int) = (t : Int) := by omega
          have e2 : (0 : Int) ≤ (t : Int) := by omega
          have e4 : IntKind.i64.wrap (t : Int) = (t : Int) := IntWalk.i64_in _ (by omega)
          have e5 : IntKind.i64.wrap ((f : Int) + (t : Int) - (f : Int)) = (t : Int) := by rw [e1]; exact e4
          have e3 : (t : Int) < (gl : Int) := by omega
          have HCA := Lib.hid hcA
          have HCB := Lib.hid hcB
          go_upto_region 8 with fail
          go_cut [10] (fun pv wx => ∃ (wz : World) (P : Nat), wz = wx ∧ pv = .pointer (some ⟨P, 0, none⟩) ∧ Hid (Row wx P 180 #[.int .i64 qa, .int .i64 qb]) ∧ Hid (Below w1.heap.size w1 wx))
          case first =>
            have q0 := HB1.out.c0
            have q1 := HB1.out.c1
            have q2 := HB1.out.c2
            have q3 := HB1.out.c3
            go_region_held3 (fun w' => w'.cell? ⟨w.heap.size, 0, none⟩ = some (.int .i64 i) ∧ w'.cell? ⟨w.heap.size, 1, none⟩ = some (.slice nA nl nc) ∧ w'.cell? ⟨w.heap.size, 2, none⟩ = some (.slice (some ⟨b, off, none⟩) gl gc) ∧ w'.cell? ⟨w.heap.size, 3, none⟩ = some (.slice oA ol oc) ∧ w'.cell? ⟨b, off + t * 2, none⟩ = some (.int .i64 qa) ∧ w'.cell? ⟨b, off + t * 2 + 1, none⟩ = some (.int .i64 qb))
              (first | (with_reducible assumption) | go_keep | (exact six_on (((Below.refl w1.heap.size _).setCell (by simp <;> omega) _).setCell (by simp <;> omega) _) hww hbw1 (by assumption)))
              (first | (go_at_call 152; refine (l1First_any _ _ _ _ _ _ _ _ _ _ _ (by omega) (by omega) (by omega)).mono ?_; rintro e u1 ⟨rfl, hb⟩; rw [HF.out]; have hu1 : Below w1.heap.size w1 u1 := (by first | exact (Below.refl _ w1).drew.trans hb | exact (((Below.refl _ w1).alloc (Nat.le_refl _) _).drew).trans (hb.mono (by simp))); have hu2 := hu1.size; have hSu := six_on hu1 hww hbw1 ⟨q0, q1, q2, q3, HCA.out, HCB.out⟩; (first | (have hrq := Row.below (w := (w1.alloc (.cells #[.int .i64 0, .int .i64 0] 180)).drew) (heap_alloc_new w1 _) hb (by simp); have z0 := hrq.cell 0; have z1 := hrq.cell 1; simp at z0 z1; have zf0 := hrq.frozen 0; have zf1 := hrq.frozen 1) | skip)))
            all_goals
              go_wp2_with fail
              go_meet
              first
                | (refine ⟨_, _, rfl, rfl, Lib.hid (heap_alloc_new u1 _), Lib.hid (hu1.alloc hu2 _)⟩; done)
                | (refine ⟨_, _, rfl, rfl, Lib.hid (by have h := (hrq.set 0 (.int .i64 (qa : Int))).set 1 (.int .i64 (qb : Int)); simpa using h), Lib.hid ((hu1.setCell (by show w1.heap.size ≤ _; simp) _).setCell (by show w1.heap.size ≤ _; simp) _)⟩; done)
          case rest =>
            obtain ⟨w2, P, hw2, rfl, HP, HB2⟩ := hcut
            subst hw2
            have HL2 := Lib.hid (HL1.out.trans (HB2.out.mono (by omega)))
            have HBo := Lib.hid (HB1.out.below HB2.out (by omega))
            have hz2 : w.heap.size + 1 ≤ w2.heap.size := by have := HB2.out.size; omega
            clear HB1 HB2 HL1 hcA hcB e1 e2 e3 e4 e5
            have q0 := HBo.out.c0
            have q1 := HBo.out.c1
            have q2 := HBo.out.c2
            have q3 := HBo.out.c3
            have p0 := HP.out.cell 0
            have p1 := HP.out.cell 1
            simp at p0 p1
            obtain ⟨xa, hxa⟩ : ∃ xa, qa / 2 = xa := ⟨_, rfl⟩
            obtain ⟨xb, hxb⟩ : ∃ xb, qb / 2 = xb := ⟨_, rfl⟩
            obtain ⟨ya, hya⟩ : ∃ ya, qa % 2 = ya := ⟨_, rfl⟩
            obtain ⟨yb, hyb⟩ : ∃ yb, qb % 2 = yb := ⟨_, rfl⟩
            have hq : (qa : Int) / 2 = (xa : Int) := by omega
            have hqm : (qa : Int) % 2 = (ya : Int) := by omega
            have hqb : (qb : Int) / 2 = (xb : Int) := by omega
            have hqbm : (qb : Int) % 2 = (yb : Int) := by omega
            have hwa : IntKind.i64.wrap (xa : Int) = (xa : Int) := IntWalk.i64_in _ (by omega)
            have hwb : IntKind.i64.wrap (xb : Int) = (xb : Int) := IntWalk.i64_in _ (by omega)
            have hqa0 : (0 : Int) ≤ (qa : Int) := by omega
            have hqb0 : (0 : Int) ≤ (qb : Int) := by omega
            rw [hxa, hxb, hya, hyb] at HCG
            rw [hxa] at or1
            rw [hxb] at or2
            have hy2 : ya = 0 ∨ ya = 1 := by omega
            have hz2' : yb = 0 ∨ yb = 1 := by omega
            clear hxa hxb hya hyb
            obtain ⟨va, HVA⟩ : ∃ va, Hid (coneV f G x lv xa = va) := ⟨_, Lib.hid rfl⟩
            obtain ⟨vb, HVB⟩ : ∃ vb, Hid (coneV f G x lv xb = vb) := ⟨_, Lib.hid rfl⟩
            obtain ⟨ra, hra⟩ : ∃ ra, (ya == 1) = ra := ⟨_, rfl⟩
            obtain ⟨rb, hrb⟩ : ∃ rb, (yb == 1) = rb := ⟨_, rfl⟩
            have hia : ((ya : Int) == 1) = ra := by rw [← hra]; rcases hy2 with e | e <;> rw [e] <;> rfl
            have hib : ((yb : Int) == 1) = rb := by rw [← hrb]; rcases hz2' with e | e <;> rw [e] <;> rfl
            have HRES : Hid (coneV f G x lv v = ((va != ra) && (vb != rb))) := Lib.hid (by rw [ht, HCG.out, ← ht, HCF.out, if_neg (by simp), HVA.out, HVB.out, hra, hrb])
            clear hra hrb hy2 hz2'
            have hPl : P < w2.heap.size := HP.out.lt
            go_upto_region 9 with fail
            go_region_held3 (fun w' => w'.cell? ⟨w.heap.size, 0, none⟩ = some (.int .i64 i) ∧ w'.cell? ⟨w.heap.size, 1, none⟩ = some (.slice nA nl nc) ∧ w'.cell? ⟨w.heap.size, 2, none⟩ = some (.slice (some ⟨b, off, none⟩) gl gc) ∧ w'.cell? ⟨w.heap.size, 3, none⟩ = some (.slice oA ol oc) ∧ w'.cell? ⟨P, 0, none⟩ = some (.int .i64 qa) ∧ w'.cell? ⟨P, 1, none⟩ = some (.int .i64 qb))
              (first | (with_reducible assumption) | go_keep)
              (first | (go_at_call 176; refine (HIH.out xa (by omega) _ ?_ ?_ (by omega)).mono ?_; (exact ((HG.out.below HL2.out.drew).mono HL2.out.drew.size)); (exact ((HLV.out.below HL2.out.drew).mono HL2.out.drew.size)); rintro e u1 ⟨rfl, hb⟩; rw [HVA.out]; have hS1 := And.intro ((hb.cell (p := ⟨w.heap.size, 0, none⟩) (show w.heap.size < w2.heap.size by omega)).trans q0) (And.intro ((hb.cell (p := ⟨w.heap.size, 1, none⟩) (show w.heap.size < w2.heap.size by omega)).trans q1) (And.intro ((hb.cell (p := ⟨w.heap.size, 2, none⟩) (show w.heap.size < w2.heap.size by omega)).trans q2) (And.intro ((hb.cell (p := ⟨w.heap.size, 3, none⟩) (show w.heap.size < w2.heap.size by omega)).trans q3) (And.intro ((hb.cell (p := ⟨P, 0, none⟩) hPl).trans p0) ((hb.cell (p := ⟨P, 1, none⟩) hPl).trans p1)))))))
            rename_i _hheld9
            clear _hheld9 hS1 q0 q1 q2 q3 p0 p1
            obtain ⟨a, haa⟩ : ∃ a, (va != ra) = a := ⟨_, rfl⟩
            obtain ⟨b', hbb⟩ : ∃ b', (vb != rb) = b' := ⟨_, rfl⟩
            rw [haa, hbb] at HRES
            have HL3 := Lib.hid (HL2.out.drew.trans (hb.mono (by show w.heap.size ≤ w2.heap.size; omega)))
            have hbu : Below w2.heap.size w2 u1 := (Below.refl _ w2).drew.trans hb
            have HB3 := Lib.hid (HBo.out.below hbu (by omega))
            have HP3 := Lib.hid (Row.below (w := w2.drew) HP.out hb hPl)
            have hz3 : w2.heap.size ≤ u1.heap.size := hb.size
            clear hb HBo HP HL2
            have q0 := HB3.out.c0
            have q1 := HB3.out.c1
            have q2 := HB3.out.c2
            have q3 := HB3.out.c3
            have p0 := HP3.out.cell 0
            have p1 := HP3.out.cell 1
            simp at p0 p1
            have hPl3 : P < u1.heap.size := HP3.out.lt
            have hz4 : w.heap.size + 1 ≤ u1.heap.size := by omega
            clear hbu
            go_upto_region 10 with fail
            go_region_held3 (fun w' => w'.cell? ⟨w.heap.size, 0, none⟩ = some (.int .i64 i) ∧ w'.cell? ⟨w.heap.size, 1, none⟩ = some (.slice nA nl nc) ∧ w'.cell? ⟨w.heap.size, 2, none⟩ = some (.slice (some ⟨b, off, none⟩) gl gc) ∧ w'.cell? ⟨w.heap.size, 3, none⟩ = some (.slice oA ol oc) ∧ w'.cell? ⟨P, 0, none⟩ = some (.int .i64 qa) ∧ w'.cell? ⟨P, 1, none⟩ = some (.int .i64 qb))
              (first | (with_reducible assumption) | go_keep)
              (first | (go_at_call 176; refine (HIH.out xb (by omega) _ ?_ ?_ (by omega)).mono ?_; (exact ((HG.out.below HL3.out.drew).mono HL3.out.drew.size)); (exact ((HLV.out.below HL3.out.drew).mono HL3.out.drew.size)); rintro e u2 ⟨rfl, hb⟩; rw [HVB.out]; have hS1 := And.intro ((hb.cell (p := ⟨w.heap.size, 0, none⟩) (show w.heap.size < u1.heap.size by omega)).trans q0) (And.intro ((hb.cell (p := ⟨w.heap.size, 1, none⟩) (show w.heap.size < u1.heap.size by omega)).trans q1) (And.intro ((hb.cell (p := ⟨w.heap.size, 2, none⟩) (show w.heap.size < u1.heap.size by omega)).trans q2) (And.intro ((hb.cell (p := ⟨w.heap.size, 3, none⟩) (show w.heap.size < u1.heap.size by omega)).trans q3) (And.intro ((hb.cell (p := ⟨P, 0, none⟩) hPl3).trans p0) ((hb.cell (p := ⟨P, 1, none⟩) hPl3).trans p1)))))))
            rename_i _hheld10
            clear _hheld10 hS1 q0 q1 q2 q3 p0 p1
            have HL4 := Lib.hid (HL3.out.drew.trans (hb.mono (by show w.heap.size ≤ u1.heap.size; omega)))
            clear hb
            have haV : (!(va == ((qa : Int).tmod 2 == 1))) = a := by rw [Int.tmod_eq_emod_of_nonneg hqa0, hqm, hia]; exact haa
            have hbV : (!(vb == ((qb : Int).tmod 2 == 1))) = b' := by rw [Int.tmod_eq_emod_of_nonneg hqb0, hqbm, hib]; exact hbb
            rw [haV, hbV]
            clear haV hbV haa hbb hia hib hq hqm hqb hqbm hqa0 hqb0 hwa hwb
            cases a
            · go_wp2
              go_ret
              exact ⟨by rw [HRES.out]; rfl, HL4.out⟩
            · cases b'
              · go_wp2
                go_ret
                exact ⟨by rw [HRES.out]; rfl, HL4.out⟩
              · go_wp2
                go_ret
                exact ⟨by rw [HRES.out]; rfl, HL4.out⟩
end Go.Proofs.Ytkkkkalgfmddbaa
/- The contract of the model's table. -/
namespace Go.Proofs.Ytkkkkalgfmddbaa
open Go.RowKit Go.Deep Cut

set_option maxRecDepth 10000 in
set_option maxHeartbeats 1000000 in
theorem table_any (i : Int) (nA gA oA A : Option Addr) (nl nc gl gc ol oc cap f v m : Nat) (G : List Opt.G) (lv : List Nat) (w : World) (hg : GatesAt w w.heap.size gA (Opt.intG G)) (hlv : IntsAt w w.heap.size A (Opt.intL lv)) (hm : lv.length = m) (hm3 : m ≤ 3)
    (hf : 1 + i + (nl : Int) = f) (h0 : 0 ≤ i) (h1 : i ≤ 4) (h2 : nl ≤ 3) (hgl : G.length = gl) (hg14 : gl ≤ 14) (hord : Opt.ordered f G) (hv2 : v < f + gl) :
    Calls Try.prog 168 #[.agg #[.int .i64 i, .slice nA nl nc, .slice gA gl gc, .slice oA ol oc], .int .i64 v, .slice A m cap] w fun e w' => e = .returned (.int .i64 (tabV f G lv v : Nat)) ∧ Below w.heap.size w w' := by
  obtain ⟨p, hp⟩ : ∃ p : Nat, 2 ^ m = p := ⟨_, rfl⟩
  have hp8 : p ≤ 8 := by rw [← hp]; exact Nat.le_trans (Nat.pow_le_pow_right (by omega) hm3) (by omega)
  have HG := Lib.hid hg
  have HLV := Lib.hid hlv
  have HM := Lib.hid hm
  have HF := Lib.hid hf
  have HGL := Lib.hid hgl
  have HOR := Lib.hid hord
  have HP := Lib.hid hp
  have hpi : (2 : Int) ^ m = (p : Int) := by rw [← hp]; simp
  clear hg hlv hm hf hgl hord hp
  have HW0 : Hid (Below w.heap.size w (w.alloc (.cells #[.int .i64 i, .slice nA nl nc, .slice gA gl gc, .slice oA ol oc] 108))) := Lib.hid ((Below.refl _ _).alloc (Nat.le_refl _) _)
  have HB0 := Lib.hid (Boxed.new w i nA gA oA nl nc gl gc ol oc 108)
  have hsz0 : (w.alloc (.cells #[.int .i64 i, .slice nA nl nc, .slice gA gl gc, .slice oA ol oc] 108)).heap.size = w.heap.size + 1 := by simp
  have HZ0 := Lib.hid hsz0
  clear hsz0
  go_enter Try.func168, Try.ntmps168
  go_wp2
  generalize w.alloc (.cells #[.int .i64 i, .slice nA nl nc, .slice gA gl gc, .slice oA ol oc] 108) = w0 at *
  go_loopw [7, 8] (fun tv iv wr => ∃ (x t : Nat), x ≤ p ∧ iv = .int .i64 x ∧ tv = .int .i64 t ∧ t < 256 ∧ Hid (tabN f G lv v x = t) ∧ Hid (Below (w.heap.size + 1) w0 wr)) (fun _ iv _ => p - (intOf iv).toNat)
  case atStart => exact ⟨0, 0, Nat.zero_le _, rfl, rfl, by omega, Lib.hid rfl, Lib.hid (Below.refl _ _)⟩
  case round =>
    obtain ⟨x, t, hx, rfl, rfl, ht, HT, HLr⟩ := hrel
    have hzr : w.heap.size + 1 ≤ wr.heap.size := by have := HLr.out.size; rw [HZ0.out] at this; exact this
    by_cases hlt : x < p
    · have HBr := HB0.out.below HLr.out (by omega)
      have q0 := HBr.c0
      have q1 := HBr.c1
      have q2 := HBr.c2
      have q3 := HBr.c3
      clear HBr
      have HLL := Lib.hid (HW0.out.trans (HLr.out.mono (by omega)))
      have HST : Hid (tabN f G lv v (x + 1) = if coneV f G x lv v then tabN f G lv v x + 2 ^ x else tabN f G lv v x) := Lib.hid rfl
      have HLT := Lib.hid (tabN_lt f G lv v (x + 1))
      have HOR2 := Lib.hid (tabN_or f G lv v x)
      rw [HT.out] at HST HOR2
      obtain ⟨q, hq⟩ : ∃ q : Nat, 2 ^ x = q := ⟨_, rfl⟩
      have hqi : (2 : Int) ^ x = (q : Int) := by rw [← hq]; simp
      have hq8 : q ≤ 128 := by rw [← hq]; exact Nat.le_trans (Nat.pow_le_pow_right (by omega) (show x ≤ 7 by omega)) (by omega)
      rw [hq] at HST HOR2
      have hq2 : 2 ^ (x + 1) = 2 * q := by rw [Nat.pow_succ, hq]; omega
      rw [hq2] at HLT
      clear hq hq2
      go_wp2_with fail
      refine (cone_any i nA gA oA A nl nc gl gc ol oc cap f m x G lv HM.out hm3 HF.out h0 h1 h2 HGL.out hg14 HOR.out (by omega) v _ ((HG.out.below HLL.out).mono HLL.out.size) ((HLV.out.below HLL.out).mono HLL.out.size) hv2).mono ?_
      rintro e w2 ⟨rfl, hb2⟩
      have HL2 := Lib.hid (HLr.out.trans (hb2.mono hzr))
      clear hb2 q0 q1 q2 q3
      cases hcv : coneV f G x lv v
      · rw [hcv, if_neg (by simp)] at HST
        clear hcv hqi
        go_wp2
        go_roundw
        case rel => exact ⟨x + 1, t, by omega, by go_num, rfl, ht, HST, HL2⟩
        case measure => simp [intOf]; omega
      · rw [hcv, if_pos rfl] at HST
        clear hcv
        have htq : t + q < 256 := by have := HLT.out; rw [HST.out] at this; omega
        go_wp2
        go_roundw
        case rel => exact ⟨x + 1, t + q, by omega, by go_num, by go_num, htq, HST, HL2⟩
        case measure => simp [intOf]; omega
    · obtain rfl : x = p := by omega
      have HE : Hid (tabV f G lv v = t) := Lib.hid (by unfold tabV; rw [HM.out, HP.out]; exact HT.out)
      go_wp2
      go_ret
      exact ⟨by rw [HE.out]; rfl, HW0.out.trans (HLr.out.mono (by omega))⟩
end Go.Proofs.Ytkkkkalgfmddbaa
/- The contract of the model's mapping. -/
namespace Go.Proofs.Ytkkkkalgfmddbaa
open Go.RowKit Go.Deep Cut

theorem BestAt.list {w : World} {s g cap : Nat} {xs : Cs} {hs : List Value} (h : BestAt w s xs hs g cap) : ListAt w w.heap.size (some ⟨g, 0, none⟩) xs := fun k hk => by
  have hg := h.gb
  obtain ⟨cur, hrow, _, _, _, _, hget⟩ := own_partsE h.1
  obtain ⟨A', c', e, hx⟩ := h.2.2 k hk
  exact ⟨g, 0, rfl, hg.2, A', c', by rw [Nat.zero_add, hrow.cell, hget k (by omega)]; exact e, hx.mono (by omega)⟩
/-- A row of marks. -/
def NeedB (w : World) (g n m : Nat) : Prop := ∃ cs, Row w g 4 cs ∧ cs.size = n ∧ ∀ j, j < n → cs[j]? = some (.bool (m.testBit j))
theorem NeedB.lt {w : World} {g n m : Nat} (h : NeedB w g n m) : g < w.heap.size := by obtain ⟨cs, hr, _⟩ := h; exact hr.lt
theorem NeedB.below {w w' : World} {B g n m : Nat} (h : NeedB w g n m) (hb : Below B w w') (hg : g < B) : NeedB w' g n m := by
  obtain ⟨cs, hr, h1, h2⟩ := h
  exact ⟨cs, hr.below hb hg, h1, h2⟩
theorem NeedB.cell {w : World} {g n m : Nat} (h : NeedB w g n m) {j : Nat} (hj : j < n) : w.cell? ⟨g, j, none⟩ = some (.bool (m.testBit j)) ∧ w.frozen? ⟨g, j, none⟩ = false := by
  obtain ⟨cs, hr, h1, h2⟩ := h
  exact ⟨(hr.cell j).trans (h2 j hj), hr.frozen j⟩
theorem NeedB.set {w : World} {g n m : Nat} (h : NeedB w g n m) {j : Nat} (hj : j < n) : NeedB (w.setCell ⟨g, j, none⟩ (.bool true)) g n (m ||| 2 ^ j) := by
  obtain ⟨cs, hr, h1, h2⟩ := h
  refine ⟨_, hr.set j (.bool true), by simpa using h1, fun t ht => ?_⟩
  rw [Opt.bit_or]
  by_cases e : j = t
  · subst e
    rw [Array.getElem?_setIfInBounds_self_of_lt (by omega)]
    simp
  · rw [Array.getElem?_setIfInBounds_ne e, h2 t ht]
    have : (j == t) = false := by simpa using e
    rw [this, Bool.or_false]
theorem NeedB.off {w w' : World} {g n m : Nat} (h : NeedB w g n m) (hk : w'.heap[g]? = w.heap[g]?) : NeedB w' g n m := by
  obtain ⟨cs, hr, h1, h2⟩ := h
  exact ⟨cs, hk.trans hr, h1, h2⟩
theorem own_low2 {w : World} {B B' e z g n cap : Nat} {hs : List Value} (h : w.ownsRow B e z (.slice (some ⟨g, 0, none⟩) n cap) n hs) (hB : B' ≤ B) : w.ownsRow B' e z (.slice (some ⟨g, 0, none⟩) n cap) n hs := by
  refine ⟨h.1, ?_⟩
  rcases h.2 with ⟨hv, h1⟩ | ⟨g', cap', cur, hv, h1, h2⟩
  · exact .inl ⟨hv, h1⟩
  · exact .inr ⟨g', cap', cur, hv, by omega, h2⟩
theorem LuAt.low {w : World} {B B' g cap : Nat} {es : List Lt} {hs : List Value} (h : LuAt w B es hs g cap) (hB : B' ≤ B) : LuAt w B' es hs g cap :=
  ⟨own_low2 h.1 hB, h.2.kept (fun _ _ => rfl) (fun b hb => ⟨by have := hb.1; omega, hb.2⟩)⟩
theorem roots_eq (ns os : List Nat) : Opt.orV 0 (os ++ ns) = rootN ns os := Nat.eq_of_testBit_eq fun v => by
  unfold rootN
  rw [Opt.orV_bit, Opt.orV_bit, Opt.orV_bit, List.any_append, Nat.zero_testBit, Bool.false_or, Bool.false_or, Bool.or_comm]
theorem LuHdrs.cons {w : World} {S : Nat → Prop} {hs : List Value} {es : List Lt} (h : LuHdrs w S hs es) (v : Nat) {A : Option Addr} {m c : Nat} {y : List Nat} (t : Nat) (hm : y.length = m) (hx : LeafIn w S A y) : LuHdrs w S ([.int .i64 v, .slice A m c, .int .i64 t] ++ hs) ((v, y, t) :: es) := by
  subst hm
  have hl := h.1
  refine ⟨by simp [hl]; omega, fun k hk => ?_⟩
  cases k with
  | zero => exact ⟨A, c, rfl, rfl, rfl, hx⟩
  | succ k =>
    obtain ⟨A', cap, e0, e1, e2, hx'⟩ := h.2 k (by simpa using hk)
    refine ⟨A', cap, ?_, ?_, ?_, hx'⟩
    · rw [List.getElem?_append_right (by simp; omega), show (k + 1) * 3 - [Value.int .i64 v, .slice A y.length c, .int .i64 t].length = k * 3 by simp; omega]; exact e0
    · rw [List.getElem?_append_right (by simp; omega), show (k + 1) * 3 + 1 - [Value.int .i64 v, .slice A y.length c, .int .i64 t].length = k * 3 + 1 by simp; omega]; exact e1
    · rw [List.getElem?_append_right (by simp; omega), show (k + 1) * 3 + 2 - [Value.int .i64 v, .slice A y.length c, .int .i64 t].length = k * 3 + 2 by simp; omega]; exact e2

theorem five_on {w w' : World} {N H b o : Nat} {a0 a1 a2 a3 x : Value} (h : Below N w w') (h1 : H < N) (h2 : b < N) (s : w.cell? ⟨H, 0, none⟩ = some a0 ∧ w.cell? ⟨H, 1, none⟩ = some a1 ∧ w.cell? ⟨H, 2, none⟩ = some a2 ∧ w.cell? ⟨H, 3, none⟩ = some a3 ∧ w.cell? ⟨b, o, none⟩ = some x) :
    w'.cell? ⟨H, 0, none⟩ = some a0 ∧ w'.cell? ⟨H, 1, none⟩ = some a1 ∧ w'.cell? ⟨H, 2, none⟩ = some a2 ∧ w'.cell? ⟨H, 3, none⟩ = some a3 ∧ w'.cell? ⟨b, o, none⟩ = some x :=
  ⟨(h.cell (by exact h1)).trans s.1, (h.cell (by exact h1)).trans s.2.1, (h.cell (by exact h1)).trans s.2.2.1, (h.cell (by exact h1)).trans s.2.2.2.1, (h.cell (by exact h2)).trans s.2.2.2.2⟩
theorem lu_src {w : World} {B g cap : Nat} {es : List Lt} {hs : List Value} (h : LuAt w B es hs g cap) : ∀ j u, hs[j]? = some u → ∃ ad, (some ⟨g, 0, none⟩ : Option Addr) = some ad ∧ w.cell? (ad.add j) = some u := fun j u hu => by
  obtain ⟨cur, hrow, _, _, _, hl, hget⟩ := own_partsE h.1
  have hj := (List.getElem?_eq_some_iff.1 hu).1
  refine ⟨_, rfl, ?_⟩
  have e : w.cell? ⟨g, j, none⟩ = some u := by rw [hrow.cell, hget j (by omega)]; exact hu
  rw [← e]
  unfold Addr.add
  split <;> simp_all
theorem lu_one {w : World} {S : Nat → Prop} {es : List Lt} {hs : List Value} (h : LuHdrs w S hs es) : ∀ u ∈ hs, u.oneCell' = true := fun u hu => by
  obtain ⟨j, hj, e⟩ := List.mem_iff_getElem.1 hu
  have hl := h.1
  obtain ⟨A', cap, e0, e1, e2, _⟩ := h.2 (j / 3) (by omega)
  have hju : hs[j]? = some u := by rw [List.getElem?_eq_getElem hj, e]
  rcases (by omega : j = j / 3 * 3 ∨ j = j / 3 * 3 + 1 ∨ j = j / 3 * 3 + 2) with h | h | h
  · rw [h, e0] at hju; injection hju with hju; subst hju; rfl
  · rw [h, e1] at hju; injection hju with hju; subst hju; rfl
  · rw [h, e2] at hju; injection hju with hju; subst hju; rfl

set_option maxRecDepth 10000 in
set_option maxHeartbeats 2000000 in
theorem smap_any (i : Int) (nA gA oA : Option Addr) (nc gc oc : Nat) (ns : List Int) (gs : List (Int × Int)) (os : List Int) (w : World) (hv : Circ.validB i ns gs os = true) (hc : CircAt w w.heap.size nA gA oA ns gs os) :
    Calls Try.prog 154 #[.agg #[.int .i64 i, .slice nA ns.length nc, .slice gA gs.length gc, .slice oA os.length oc]] w fun e w' => ∃ (g cap : Nat) (hs : List Value), e = .returned (.slice (some ⟨g, 0, none⟩) (lutsV (Opt.fst i ns) (Opt.natG gs) (Opt.natL ns) (Opt.natL os)).length cap) ∧ LuAt w' w.heap.size (lutsV (Opt.fst i ns) (Opt.natG gs) (Opt.natL ns) (Opt.natL os)) hs g cap ∧ Below w.heap.size w w' := by
  obtain ⟨h0, h1, h2, h3, h4⟩ := Circ.valid_within hv
  obtain ⟨k0, k1⟩ := Opt.natC_ok hv
  obtain ⟨e1, e2, e3⟩ := natC_ints hv
  have hfi : 1 + i + (ns.length : Int) = (Opt.fst i ns : Int) := by unfold Opt.fst; omega
  have hgl : (Opt.natG gs).length = gs.length := Opt.natG_len gs
  obtain ⟨nn, hnn⟩ : ∃ nn, Opt.fst i ns + gs.length = nn := ⟨_, rfl⟩
  have hfn : Opt.fst i ns + gs.length = nn := hnn
  have hes : lutsV (Opt.fst i ns) (Opt.natG gs) (Opt.natL ns) (Opt.natL os) = lutsFrom (Opt.fst i ns) (Opt.natG gs) (bests (Opt.fst i ns) (Opt.natG gs)) (needV (Opt.fst i ns) (Opt.natG gs) (Opt.natL ns) (Opt.natL os)) gs.length := by unfold lutsV; rw [luts_whole, hgl]
  have HOR : Hid (Opt.ordered (Opt.fst i ns) (Opt.natG gs)) := Lib.hid k1.ord
  have HK0 := Lib.hid k0
  have HE2 := Lib.hid e2
  have hnx := Circ.valid_next hv
  have hou := Circ.valid_outs hv
  have HN := Lib.hid (show ∀ k, k < ns.length → 0 ≤ ns.getD k 0 ∧ ns.getD k 0 < 2 * (nn : Int) from fun k hk => by have := Circ.litsOk_get hnx hk; omega)
  have HO := Lib.hid (show ∀ k, k < os.length → 0 ≤ os.getD k 0 ∧ os.getD k 0 < 2 * (nn : Int) from fun k hk => by have := Circ.litsOk_get hou hk; omega)
  have HNN := Lib.hid hnn
  have HFI := Lib.hid hfi
  have HGL := Lib.hid hgl
  have HES := Lib.hid hes
  have hnn22 : nn ≤ 22 := by omega
  have hnn1 : 1 ≤ nn := by omega
  have hff8 : Opt.fst i ns ≤ 8 := by omega
  clear e1 e2 e3 k0 k1 hgl hfi hnn hes hnx hou
  generalize lutsV (Opt.fst i ns) (Opt.natG gs) (Opt.natL ns) (Opt.natL os) = es at *
  have HV := Lib.hid hv
  have hbw : Below w.heap.size w (w.alloc (.cells #[.int .i64 i, .slice nA ns.length nc, .slice gA gs.length gc, .slice oA os.length oc] 108)) := (Below.refl _ _).alloc (Nat.le_refl _) _
  have HB0 := Lib.hid (Boxed.new w i nA gA oA ns.length nc gs.length gc os.length oc 108)
  have HC := Lib.hid hc
  have HL0 := Lib.hid hbw
  have hsz0 : (w.alloc (.cells #[.int .i64 i, .slice nA ns.length nc, .slice gA gs.length gc, .slice oA os.length oc] 108)).heap.size = w.heap.size + 1 := by simp
  have HZ0 := Lib.hid hsz0
  obtain ⟨i0, hi0, hz0, hz1, hz2⟩ := info_parts Try.info3
  have HI0 := Lib.hid hi0
  have HI1 := Lib.hid hz0
  have HI2 := Lib.hid hz1
  have HI3 := Lib.hid hz2
  clear hi0 hz0 hz1 hz2
  obtain ⟨iL, hi0, hz0, hz1, hz2⟩ := info_split Try.infoLu
  have HJ0 := Lib.hid hi0
  have HJ1 := Lib.hid hz0
  have HJ2 := Lib.hid hz1
  have HJ3 := Lib.hid hz2
  clear hi0 hz0 hz1 hz2
  clear hc hbw hv hsz0
  go_enter Try.func154, Try.ntmps154
  go_upto_region 1 with fail
  generalize w.alloc (.cells #[.int .i64 i, .slice nA ns.length nc, .slice gA gs.length gc, .slice oA os.length oc] 108) = w1 at *
  have hww1 : w.heap.size < w1.heap.size := by have := HZ0.out; omega
  have HC1 := Lib.hid ((HC.out.below HL0.out).mono HL0.out.size)
  have q0 := HB0.out.c0
  have q1 := HB0.out.c1
  have q2 := HB0.out.c2
  have q3 := HB0.out.c3
  have tok0 : True := trivial
  go_region_held3 (fun w' => w'.cell? ⟨w.heap.size, 0, none⟩ = some (.int .i64 i) ∧ w'.cell? ⟨w.heap.size, 1, none⟩ = some (.slice nA ns.length nc) ∧ w'.cell? ⟨w.heap.size, 2, none⟩ = some (.slice gA gs.length gc) ∧ w'.cell? ⟨w.heap.size, 3, none⟩ = some (.slice oA os.length oc))
    (first | go_keep | (exact four_m hu2 (by assumption)) | (exact four_m hu1 (by assumption)))
    (first
      | (revert tok0; intro tok0; go_at_call 167; refine (l5Cuts_v i nA gA oA nc gc oc nn ns gs os _ HV.out HNN.out ?_).mono ?_; (exact HC1.out.below (Below.refl _ w1).drew); rintro e u1 ⟨gq, cq, rfl, hxq, hu1⟩; have hv1 : Below w1.heap.size w1 u1 := (Below.refl _ w1).drew.trans hu1; have tokA : True := trivial; clear tok0)
      | (revert tokA; intro tokA; go_at_call 166; refine (l5Best_v i nA gA oA (some ⟨gq, 0, none⟩) nc gc oc nn cq ns gs os _ HV.out HNN.out ((HC1.out.below hv1).mono hv1.size) hxq).mono ?_; rintro e w2 ⟨gb, cb, g, lcap, hsb, rfl, hne, hBa, hTa, hu2⟩; clear tokA))
  rename_i _hheld0
  clear _hheld0
  have hb2 : Below w1.heap.size w1 w2 := hv1.trans (hu2.mono hv1.size)
  have HB2 := Lib.hid (HB0.out.below hb2 hww1)
  have HL2 := Lib.hid (HL0.out.trans (hb2.mono HL0.out.size))
  have HBL := Lib.hid hBa.list
  have hz12 : w1.heap.size ≤ w2.heap.size := hb2.size
  clear hb2 hu1 hu2 hv1 hxq hBa hTa hne q0 q1 q2 q3 HB0 HC1
  have q0 := HB2.out.c0
  have q1 := HB2.out.c1
  have q2 := HB2.out.c2
  have q3 := HB2.out.c3
  go_wp2_with fail
  refine (l1First_any _ _ _ _ _ _ _ _ _ _ _ (by omega) (by omega) (by omega)).mono ?_
  rintro e w3 ⟨rfl, hb3⟩
  rw [HFI.out]
  have HB3 := Lib.hid (HB2.out.below hb3 (by omega))
  have HL3 := Lib.hid (HL2.out.trans (hb3.mono HL2.out.size))
  have HX3 := Lib.hid hb3
  have hz23 : w2.heap.size ≤ w3.heap.size := hb3.size
  clear hb3 q0 q1 q2 q3 HB2 HL2
  have q1 := HB3.out.c1
  have q2 := HB3.out.c2
  have q3 := HB3.out.c3
  obtain ⟨j0, hj0, hy0, hy1, hy2⟩ := info_parts Try.infoB
  have hmk := fun W => run_make_row' (P := Try.prog) 41 4 (.bool false) 1 Try.underlying41 Try.infoB rfl .i64 .i64 nn (by omega) (by omega) W
  have ec : (Opt.fst i ns : Int) + (gs.length : Int) = (nn : Int) := by omega
  go_upto_region 4 with fail
  clear hmk ec hj0 hy0 hy1 hy2 q2
  have HN4 : Hid (NeedB (w3.alloc (.cells (madeCells #[.bool false] nn) 4)) w3.heap.size nn 0) := Lib.hid ⟨_, heap_alloc_new w3 _, size_madeCells _ _, fun j hj => by
    rw [Nat.zero_testBit, ← Array.getElem?_toList, made_toList, List.getElem?_replicate, if_pos hj]⟩
  have hba : Below w3.heap.size w3 (w3.alloc (.cells (madeCells #[.bool false] nn) 4)) := (Below.refl _ _).alloc (Nat.le_refl _) _
  have hz34 : (w3.alloc (.cells (madeCells #[.bool false] nn) 4)).heap.size = w3.heap.size + 1 := by simp
  have HX4 := Lib.hid hba
  have HB4 := Lib.hid (HB3.out.below hba (by omega))
  have HL4 := Lib.hid (HL3.out.trans (hba.mono HL3.out.size))
  clear hba q1 q3
  generalize w3.alloc (.cells (madeCells #[.bool false] nn) 4) = w4 at *
  have hz34' : w3.heap.size < w4.heap.size := by omega
  clear hz34
  have HC4 := Lib.hid ((HC.out.below HL4.out).mono HL4.out.size)
  have q1 := HB4.out.c1
  have q3 := HB4.out.c3
  have hz4 : w.heap.size < w4.heap.size := by omega
  have HW0 := Lib.hid (World.ownsRow_lit (base := w4.heap.size) (e := 3) (size := 1) w4 #[] 0 (Nat.le_refl _) (by simp [maxLen]) (by simp))
  have ne1 : some w.heap.size ≠ some w4.heap.size := by intro h; injection h; omega
  go_region_held3 (fun w' => w'.cell? ⟨w.heap.size, 1, none⟩ = some (.slice nA ns.length nc) ∧ w'.cell? ⟨w.heap.size, 3, none⟩ = some (.slice oA os.length oc))
    (first | go_keep | (exact ⟨hgr1.cell (by simp [*]) ne1, hgr1.cell (by simp [*]) ne1⟩) | (exact ⟨hgr2.cell (by simp [*]) ne2, hgr2.cell (by simp [*]) ne2⟩))
    (first
      | (refine step_append_src _ (by rfl) (.tmp 27) (.tmp 29) 31 (by rfl) w4.heap.size 3 i0 _ 1 8 Try.underlying31 HI0.out HI1.out HI2.out HI3.out rfl (by omega) w4.heap.size 0 0 [] (by rfl) (HW0.out.drew) oA os.length oc (ivs os) (by rfl) (by simp [ivs]) ?_ (ivs_oneM os) (by simp [maxLen]; omega) (by omega) (by simp) (w4.heap.size + 1) (by simp) ?_; (exact ints_srcM ((HC4.out.outs.below ((Below.refl _ _).alloc (Nat.le_refl _) _).drew))); intro g1 cap1 w6 hown1 hgr1 hat1; have ne2 : some w.heap.size ≠ some g1 := (by (intro h; injection h; omega)); have hbl1 : Below w4.heap.size w4 w6 := Below.grown (((Below.refl w4.heap.size w4).alloc (Nat.le_refl _) _).drew) hgr1 (by simp) (fun k hk => by injection hk; omega))
      | (refine step_append_src _ (by rfl) (.tmp 30) (.tmp 32) 31 (by rfl) w4.heap.size 3 i0 _ 1 8 Try.underlying31 HI0.out HI1.out HI2.out HI3.out rfl (by omega) g1 cap1 (0 + os.length) ([] ++ ivs os) (by rfl) hown1 nA ns.length nc (ivs ns) (by rfl) (by simp [ivs]) ?_ (ivs_oneM ns) (by simp [maxLen]; omega) (by omega) hbl1.size w6.heap.size rfl ?_; (exact ints_srcM (HC4.out.next.below hbl1)); intro g2 cap2 w7 hown2 hgr2 hat2))
  rename_i _hheld4
  clear _hheld4
  simp only [Nat.zero_add]
  have hbl2 : Below w4.heap.size w4 w7 := hbl1.grown hgr2 hbl1.size (fun k hk => by injection hk; omega)
  have hroots : IntsAt w7 w7.heap.size (some ⟨g2, 0, none⟩) (os ++ ns) := own_ints (n := os.length + ns.length) (base := w4.heap.size) (cap := cap2) (by simpa [ivs] using hown2) (by simp)
  have hg2b : w4.heap.size ≤ g2 := by have := hown2.lt g2 rfl; omega
  have HRT := Lib.hid hroots
  have HN7 := Lib.hid (HN4.out.below hbl2 (by omega))
  have HX7 := Lib.hid (HX4.out.trans (hbl2.mono (by omega)))
  have hz47 : w4.heap.size ≤ w7.heap.size := hbl2.size
  have HOK := Lib.hid (show ∀ k, k < (os ++ ns).length → 0 ≤ (os ++ ns).getD k 0 ∧ (os ++ ns).getD k 0 < 2 * (nn : Int) from fun k hk => by
    by_cases h : k < os.length
    · rw [Circ.getD_app_lt _ _ _ _ h]; exact HO.out k h
    · have hk2 : k - os.length < ns.length := by simp at hk; omega
      have := HN.out (k - os.length) hk2
      rwa [show (os ++ ns).getD k 0 = ns.getD (k - os.length) 0 from by simp [List.getD_eq_getElem?_getD, List.getElem?_append_right (Nat.le_of_not_lt h)]])
  have HLN := Lib.hid (show (os ++ ns).length = os.length + ns.length by simp)
  have HRO : Hid (Opt.orV 0 (Opt.natL (os ++ ns)) = rootN (Opt.natL ns) (Opt.natL os)) := Lib.hid (by
    rw [← roots_eq]; unfold Opt.natL; rw [List.map_append])
  clear hbl1 hbl2 hroots hown1 hown2 hgr1 hgr2 hat1 hat2 ne1 ne2 HN HO HW0 q1 q3 HN4 HX4 HC4
  generalize hxs : os ++ ns = xs at *
  clear hxs
  generalize hn : os.length + ns.length = n at *
  have hn6 : n ≤ 6 := by omega
  clear hn
  generalize w3.heap.size = gn at *
  have HM7 : Hid (NeedB w7 gn nn (Opt.orV 0 (Opt.natL (xs.take 0)))) := HN7
  clear HN7
  have hgn4 : gn < w4.heap.size := by omega
  have hgn7 : gn < w7.heap.size := by omega
  have hg2n : g2 ≠ gn := by omega
  have hxw : w3.heap.size = w3.heap.size := rfl
  go_wp2
  go_loopw [8] (fun iv wr => ∃ (k : Nat), k ≤ n ∧ iv = .int .i64 k ∧ Hid (NeedB wr gn nn (Opt.orV 0 (Opt.natL (xs.take k)))) ∧ Hid (Only (some gn) w7 wr)) (fun iv _ => n - (intOf iv).toNat)
  case atStart => exact ⟨0, Nat.zero_le _, rfl, HM7, Lib.hid (Only.refl _ _)⟩
  case round =>
    clear HM7
    obtain ⟨k, hk, rfl, HM, HON⟩ := hrel
    by_cases hlt : k < n
    · obtain ⟨b, off, hbo, hbl, hcell⟩ := HRT.out k (by rw [HLN.out]; exact hlt)
      injection hbo with hbo
      injection hbo with hb1 hb2
      subst hb1 hb2
      rw [Nat.zero_add, ← World.cell?_of_block (a := ⟨g2, k, none⟩) (HON.out.grown.block g2 hbl (by intro e; injection e; omega))] at hcell
      have hkx : k < xs.length := by rw [HLN.out]; exact hlt
      have HS : Hid (Opt.orV 0 (Opt.natL (xs.take (k + 1))) = Opt.orV 0 (Opt.natL (xs.take k)) ||| 2 ^ ((xs.getD k 0).toNat / 2)) := Lib.hid (by
        rw [List.take_succ_eq_append_getElem hkx]
        unfold Opt.natL
        rw [List.map_append, List.map_cons, List.map_nil, Opt.orV_snoc]
        simp [List.getD_eq_getElem?_getD, hkx])
      obtain ⟨o1, o2⟩ := HOK.out k (by rw [HLN.out]; exact hlt)
      clear hkx
      generalize xs.getD k 0 = v at *
      generalize Opt.orV 0 (Opt.natL (xs.take k)) = mk at *
      obtain ⟨q, hq⟩ : ∃ q : Nat, v / 2 = q := ⟨(v / 2).toNat, by omega⟩
      have hq2 : v.toNat / 2 = q := by omega
      rw [hq2] at HS
      have hqm : q < nn := by omega
      have hqi : (q : Int) < (nn : Int) := by omega
      have hwq : IntKind.i64.wrap (q : Int) = (q : Int) := IntWalk.i64_in _ (by omega)
      obtain ⟨c0, f0⟩ := HM.out.cell hqm
      have HM2 := Lib.hid (HM.out.set hqm)
      have HO2 := Lib.hid (HON.out.set q (.bool true))
      clear hq2
      go_wp2
      generalize wr.setCell ⟨gn, q, none⟩ (.bool true) = w8 at *
      go_roundw
      case rel => exact ⟨k + 1, by omega, by go_num, Lib.hid (by rw [HS.out]; exact HM2.out), HO2⟩
      case measure => simp [intOf]; omega
    · obtain rfl : k = n := by omega
      have HM1 : Hid (NeedB wr gn nn (rootN (Opt.natL ns) (Opt.natL os))) := Lib.hid (by rw [← HRO.out]; have := HM.out; rwa [List.take_of_length_le (by rw [HLN.out]; exact Nat.le_refl _)] at this)
      have hbO : Below gn w7 wr := HON.out.below (fun _ e => by injection e; omega) (by omega)
      have HXr := Lib.hid (HX7.out.trans hbO)
      have hzr : w7.heap.size ≤ wr.heap.size := hbO.size
      clear hbO HM HON HX7 HRT HOK HLN HRO
      go_upto_region 10 with fail
      obtain ⟨N, hNe⟩ : ∃ N, wr.heap.size = N := ⟨_, rfl⟩
      have hba : Below wr.heap.size wr (wr.alloc (.cells #[] 193)) := (Below.refl _ _).alloc (Nat.le_refl _) _
      have hU := LuAt.made wr N (by omega)
      have HXa := Lib.hid (HXr.out.trans (hba.mono (by omega)))
      have HMa := Lib.hid (HM1.out.below hba (by omega))
      have hgnN : gn < N := by omega
      rw [hNe] at hU ⊢
      have HUa := Lib.hid hU
      clear hba hU HXr HM1
      generalize wr.alloc (.cells #[] 193) = wa at *
      have HXL : Hid (∀ k, k < gs.length → Opt.fst i ns + (gs.length - (k + 1)) < nn) := Lib.hid (fun k hk => by omega)
      go_upto_region 11 with fail
      go_loopw [9, 10] (fun ov vv wr => ∃ (k g cap : Nat) (hs : List Value) (z : Int), k ≤ gs.length ∧ vv = .int .i64 z ∧ Hid (z = (nn : Int) - 1 - k) ∧ ov = .slice (some ⟨g, 0, none⟩) (lutsFrom (Opt.fst i ns) (Opt.natG gs) (bests (Opt.fst i ns) (Opt.natG gs)) (needV (Opt.fst i ns) (Opt.natG gs) (Opt.natL ns) (Opt.natL os)) k).length cap ∧ Hid (LuAt wr N (lutsFrom (Opt.fst i ns) (Opt.natG gs) (bests (Opt.fst i ns) (Opt.natG gs)) (needV (Opt.fst i ns) (Opt.natG gs) (Opt.natL ns) (Opt.natL os)) k) hs g cap) ∧ Hid (NeedB wr gn nn (needN (bests (Opt.fst i ns) (Opt.natG gs)) nn (rootN (Opt.natL ns) (Opt.natL os)) k)) ∧ Hid (Below gn w3 wr)) (fun _ vv _ => (intOf vv + 1).toNat)
      case atStart => exact ⟨0, _, _, [], _, Nat.zero_le _, rfl, Lib.hid (by omega), rfl, HUa, HMa, HXa⟩
      case round =>
        clear HUa HMa HXa
        obtain ⟨k, g, cap, hs, z, hk, rfl, HZ, rfl, HU, HM, HX⟩ := hrel
        have hgbb := HU.out.gb
        by_cases hlt : k < gs.length
        · obtain ⟨v, hvv⟩ : ∃ v, Opt.fst i ns + (gs.length - (k + 1)) = v := ⟨_, rfl⟩
          have hzv : z = (v : Int) := by have := HZ.out; omega
          subst hzv
          have hvn : v < nn := by omega
          have hvf : Opt.fst i ns ≤ v := by omega
          have hvi : (Opt.fst i ns : Int) ≤ (v : Int) := by omega
          have hvni : (v : Int) < (nn : Int) := by omega
          have HVV := Lib.hid hvv
          have HBIT := Lib.hid (need_bit HK0.out HOR.out (Opt.natL ns) (Opt.natL os) (k := k) (v := v) (by rw [HGL.out]; omega) (by rw [HGL.out]; omega))
          have HLS : Hid (lutsFrom (Opt.fst i ns) (Opt.natG gs) (bests (Opt.fst i ns) (Opt.natG gs)) (needV (Opt.fst i ns) (Opt.natG gs) (Opt.natL ns) (Opt.natL os)) (k + 1) = if (needV (Opt.fst i ns) (Opt.natG gs) (Opt.natL ns) (Opt.natL os)).testBit v then lutOf (Opt.fst i ns) (Opt.natG gs) (bests (Opt.fst i ns) (Opt.natG gs)) v :: lutsFrom (Opt.fst i ns) (Opt.natG gs) (bests (Opt.fst i ns) (Opt.natG gs)) (needV (Opt.fst i ns) (Opt.natG gs) (Opt.natL ns) (Opt.natL os)) k else lutsFrom (Opt.fst i ns) (Opt.natG gs) (bests (Opt.fst i ns) (Opt.natG gs)) (needV (Opt.fst i ns) (Opt.natG gs) (Opt.natL ns) (Opt.natL os)) k) := Lib.hid (by
            show (if (needV _ _ _ _).testBit (Opt.fst i ns + ((Opt.natG gs).length - (k + 1))) then _ else _) = _
            rw [HGL.out, hvv])
          have HNS : Hid (needN (bests (Opt.fst i ns) (Opt.natG gs)) nn (rootN (Opt.natL ns) (Opt.natL os)) (k + 1) = if (needN (bests (Opt.fst i ns) (Opt.natG gs)) nn (rootN (Opt.natL ns) (Opt.natL os)) k).testBit v then orL (needN (bests (Opt.fst i ns) (Opt.natG gs)) nn (rootN (Opt.natL ns) (Opt.natL os)) k) ((bests (Opt.fst i ns) (Opt.natG gs)).getD v []) else needN (bests (Opt.fst i ns) (Opt.natG gs)) nn (rootN (Opt.natL ns) (Opt.natL os)) k) := Lib.hid (by
            show (if (needN _ _ _ k).testBit (nn - (k + 1)) then orL _ ((bests _ _).getD (nn - (k + 1)) []) else _) = _
            rw [show nn - (k + 1) = v by omega])
          rw [HGL.out, HNN.out] at HBIT
          rw [HBIT.out] at HLS
          have hll := lutsFrom_len (Opt.fst i ns) (Opt.natG gs) (bests (Opt.fst i ns) (Opt.natG gs)) (needV (Opt.fst i ns) (Opt.natG gs) (Opt.natL ns) (Opt.natL os)) k
          generalize lutsFrom (Opt.fst i ns) (Opt.natG gs) (bests (Opt.fst i ns) (Opt.natG gs)) (needV (Opt.fst i ns) (Opt.natG gs) (Opt.natL ns) (Opt.natL os)) k = ls at *
          generalize needN (bests (Opt.fst i ns) (Opt.natG gs)) nn (rootN (Opt.natL ns) (Opt.natL os)) k = mk at *
          clear HBIT hvv
          obtain ⟨c0, f0⟩ := HM.out.cell hvn
          cases hbit : mk.testBit v
          · rw [hbit] at HLS HNS c0
            rw [if_neg (by simp)] at HLS HNS
            clear hbit
            go_wp2
            go_roundw
            case rel => exact ⟨k + 1, g, cap, hs, _, by omega, rfl, Lib.hid (by have := HZ.out; omega), by rw [HLS.out], by rw [HLS.out]; exact HU, by rw [HNS.out]; exact HM, HX⟩
            case measure => simp [intOf] <;> omega
          · rw [hbit] at HLS HNS c0
            rw [if_pos rfl] at HLS HNS
            clear hbit
            obtain ⟨b0, off0, hbo, hbl0, A', c', hcl, hia⟩ := HBL.out v (by rw [bests_len, HGL.out]; omega)
            injection hbo with hbo
            injection hbo with y1 y2
            subst y1 y2
            rw [Nat.zero_add] at hcl
            have hx3 := best_fit HK0.out HOR.out v
            have HXLT := Lib.hid (best_lt HK0.out HOR.out v)
            have HLU : Hid (lutOf (Opt.fst i ns) (Opt.natG gs) (bests (Opt.fst i ns) (Opt.natG gs)) v = (v, (bests (Opt.fst i ns) (Opt.natG gs)).getD v [], tabV (Opt.fst i ns) (Opt.natG gs) ((bests (Opt.fst i ns) (Opt.natG gs)).getD v []) v)) := Lib.hid rfl
            have HIA2 : Hid (IntsAt w2 w2.heap.size A' (Opt.intL ((bests (Opt.fst i ns) (Opt.natG gs)).getD v []))) := Lib.hid (IntsIn.at (B := w2.heap.size) hia (fun _ h => h))
            clear hia
            generalize (bests (Opt.fst i ns) (Opt.natG gs)).getD v [] = x at *
            obtain ⟨m, hm⟩ : ∃ m, x.length = m := ⟨_, rfl⟩
            have HXM := Lib.hid hm
            rw [hm] at hx3 hcl
            clear hm
            have HCL := Lib.hid hcl
            have HX2r := Lib.hid (HX3.out.trans (HX.out.mono hz23))
            have hcr := (HX2r.out.cell (p := ⟨gb, v, none⟩) hbl0).trans hcl
            clear hcl
            have HMs : Hid (NeedB wr gn nn (orL mk (x.take 0))) := Lib.hid HM.out
            go_wp2
            go_loopw [11] (fun tv wr => ∃ (t : Nat), t ≤ m ∧ tv = .int .i64 t ∧ Hid (NeedB wr gn nn (orL mk (x.take t))) ∧ Hid (LuAt wr N ls hs g cap) ∧ Hid (Below gn w3 wr)) (fun tv _ => m - (intOf tv).toNat)
            case atStart => exact ⟨0, Nat.zero_le _, rfl, HMs, HU, HX⟩
            case round =>
              clear HMs HM HU HX HX2r hcr hgbb c0 f0
              obtain ⟨t, ht, rfl, HM, HU, HX⟩ := hrel
              have hgbb := HU.out.gb
              have HX2r := Lib.hid (HX3.out.trans (HX.out.mono hz23))
              have hcr := (HX2r.out.cell (p := ⟨gb, v, none⟩) hbl0).trans HCL.out
              by_cases hlt2 : t < m
              · have hkx : t < x.length := by rw [HXM.out]; exact hlt2
                obtain ⟨b2, off2, rfl, hbl2, hc2⟩ := HIA2.out t (by rw [Opt.intL_len]; exact hkx)
                have hc2r := (HX2r.out.cell (p := ⟨b2, off2 + t, none⟩) hbl2).trans hc2
                rw [Opt.intL_at] at hc2r
                have hlx : x.getD t 0 < v := HXLT.out _ (memD0 hkx)
                have HTK : Hid (orL mk (x.take (t + 1)) = orL mk (x.take t) ||| 2 ^ (x.getD t 0)) := Lib.hid (by
                  rw [List.take_succ_eq_append_getElem hkx, orL_snoc]
                  simp [List.getD_eq_getElem?_getD, hkx])
                clear hkx hc2
                generalize x.getD t 0 = u at *
                generalize orL mk (x.take t) = mt at *
                have hun : u < nn := by omega
                have hui : (u : Int) < (nn : Int) := by omega
                obtain ⟨c0, f0⟩ := HM.out.cell hun
                have HM2 := Lib.hid (HM.out.set hun)
                have HU2 := Lib.hid (HU.out.keep (w' := wr.setCell ⟨gn, u, none⟩ (.bool true)) (fun b hb _ => Below.heap_setCell _ _ _ _ (by show b ≠ gn; omega)) (by simp [World.setCell]))
                have HX2 := Lib.hid (HX.out.setCell (p := ⟨gn, u, none⟩) (Nat.le_refl gn) (.bool true))
                go_wp2
                generalize wr.setCell ⟨gn, u, none⟩ (.bool true) = w8 at *
                go_roundw
                case rel => exact ⟨t + 1, by omega, by go_num, Lib.hid (by rw [HTK.out]; exact HM2.out), HU2, HX2⟩
                case measure => simp [intOf]; omega
              · obtain rfl : t = m := by omega
                have HMx : Hid (NeedB wr gn nn (orL mk x)) := Lib.hid (by have := HM.out; rwa [List.take_of_length_le (by rw [HXM.out]; exact Nat.le_refl _)] at this)
                clear HM
                go_upto_region 18 with fail
                have hwrN : N ≤ wr.heap.size := by
                  have := HU.out.gb
                  omega
                have hHw : w.heap.size < wr.heap.size := by omega
                have hgbw : gb < wr.heap.size := by omega
                have hgnw : gn < wr.heap.size := by omega
                have HBr := Lib.hid (HB3.out.below HX.out (by omega))
                have HLr := Lib.hid (HL3.out.trans (HX.out.mono (by omega)))
                have HCC := Lib.hid ((HC.out.below HLr.out).mono HLr.out.size)
                have HIr : Hid (IntsAt wr wr.heap.size A' (Opt.intL x)) := Lib.hid ((HIA2.out.below HX2r.out).mono (by omega))
                obtain ⟨n, hn⟩ : ∃ n, ls.length = n := ⟨_, rfl⟩
                have HNL := Lib.hid hn
                rw [hn] at hll
                clear hn
                obtain ⟨T, HTV⟩ : ∃ T, Hid (tabV (Opt.fst i ns) (Opt.natG gs) x v = T) := ⟨_, Lib.hid rfl⟩
                have HWl := Lib.hid (World.ownsRow_lit (base := wr.heap.size) (e := 3) (size := 1) wr #[] 0 (Nat.le_refl _) (by simp [maxLen]) (by simp))
                have q0 := HBr.out.c0
                have q1 := HBr.out.c1
                have q2 := HBr.out.c2
                have q3 := HBr.out.c3
                have hHS := Lib.hid (And.intro q0 (And.intro q1 (And.intro q2 (And.intro q3 hcr))))
                rw [HNL.out]
                have tokX : True := trivial
                go_region_held3 (fun w' => w'.cell? ⟨w.heap.size, 0, none⟩ = some (.int .i64 i) ∧ w'.cell? ⟨w.heap.size, 1, none⟩ = some (.slice nA ns.length nc) ∧ w'.cell? ⟨w.heap.size, 2, none⟩ = some (.slice gA gs.length gc) ∧ w'.cell? ⟨w.heap.size, 3, none⟩ = some (.slice oA os.length oc) ∧ w'.cell? ⟨gb, v, none⟩ = some (.slice A' t c'))
                  (first | (with_reducible assumption) | go_keep)
                  (first
                    | (go_at_call 168; refine (table_any i nA gA oA A' ns.length nc gs.length gc os.length oc c' (Opt.fst i ns) v t (Opt.natG gs) x _ ?_ ?_ HXM.out hx3 HFI.out h0 h1 h2 HGL.out h3 HOR.out (by omega)).mono ?_; (have hgg := ((HCC.out.below hb5).mono hb5.size).gates; rw [← HE2.out] at hgg; exact hgg); (exact (HIr.out.below hb5).mono hb5.size); rintro e w6 ⟨rfl, hb6⟩; rw [HTV.out]; have hbr6 : Below wr.heap.size wr w6 := hb5.trans (hb6.mono hz5); have hS6 := five_on hbr6 hHw hgbw hHS.out; have hz6 : w5.heap.size ≤ w6.heap.size := hb6.size)
                    | (revert tokX; intro tokX; refine step_append_src _ (by rfl) (.tmp 80) (.tmp 84) 31 (by rfl) wr.heap.size 3 i0 _ 1 8 Try.underlying31 HI0.out HI1.out HI2.out HI3.out rfl (by omega) wr.heap.size 0 0 [] (by rfl) (HWl.out.drew) A' t c' (ivs (Opt.intL x)) (by rfl) (by rw [ivs_len, Opt.intL_len, HXM.out]; omega) ?_ (ivs_oneM _) (by simp [maxLen]; omega) (by omega) (by simp) (wr.heap.size + 1) (by simp) ?_; (exact ints_srcM (HIr.out.below ((Below.refl _ _).alloc (Nat.le_refl _) _).drew)); intro g5 cap5 w5 hown5 hgr5 hat5; have hb5 : Below wr.heap.size wr w5 := Below.grown (((Below.refl wr.heap.size wr).alloc (Nat.le_refl _) _).drew) hgr5 (by simp) (fun k hk => by injection hk; omega); have hS5 := five_on hb5 hHw hgbw hHS.out; have hz5 : wr.heap.size ≤ w5.heap.size := hb5.size; clear tokX)
                    | (refine step_append_src _ (by rfl) (.tmp 94) (.tmp 95) 190 (by rfl) N 193 iL _ 3 40 Try.underlying190 HJ0.out HJ1.out HJ2.out HJ3.out rfl (by omega) w6.heap.size 1 1 [.int .i64 v, .slice (some ⟨g5, 0, none⟩) t cap5, .int .i64 T] (by rfl) (World.ownsRow_lit (base := N) (e := 193) (size := 3) w6 #[.int .i64 v, .slice (some ⟨g5, 0, none⟩) t cap5, .int .i64 T] 1 (by omega) (by simp [maxLen]) (by simp)) (some ⟨g, 0, none⟩) n cap hs (by rfl) (by rw [HU.out.2.1, HNL.out]) ?_ (lu_one HU.out.2) (by simp [maxLen]; omega) (by omega) (by simp <;> omega) (w6.heap.size + 1) (by simp) ?_; (exact lu_src (LuAt.on HU.out (hbr6.alloc (by omega) _))); intro g7 cap7 w7 hown7 hgr7 hat7; have hb7 : Below w6.heap.size w6 w7 := Below.grown ((Below.refl w6.heap.size w6).alloc (Nat.le_refl _) _) hgr7 (by simp) (fun k hk => by injection hk; omega); have hbr7 : Below wr.heap.size wr w7 := hbr6.trans (hb7.mono (by omega)); have hS7 := five_on hbr7 hHw hgbw hHS.out))
                rename_i _hheld18
                clear _hheld18 hS5 hS6 hS7 hHS q0 q1 q2 q3 hcr
                simp only [Nat.zero_add, List.nil_append] at hown5 hown7 ⊢
                have hg5 : wr.heap.size ≤ g5 ∧ g5 < w5.heap.size := hown5.lt g5 rfl
                have hsz6 : (w6.alloc (.cells #[.int .i64 v, .slice (some ⟨g5, 0, none⟩) t cap5, .int .i64 T] 193)).heap.size = w6.heap.size + 1 := by simp
                have hg7 : N ≤ g7 ∧ g7 < w7.heap.size := hown7.lt g7 rfl
                have hlf5 : LeafIn w5 (fun b => b = g5) (some ⟨g5, 0, none⟩) x := own_leaf (by rw [← HXM.out] at hown5; exact hown5) rfl
                have hlf7 : LeafIn w7 (Off w7 N g7) (some ⟨g5, 0, none⟩) x := hlf5.kept (fun b hb => by subst hb; exact (hb7.block _ (by omega)).trans (hb6.block _ hg5.2)) (fun b hb => by subst hb; exact ⟨by omega, by have := hb7.size; omega, by omega⟩)
                have hH7 : LuHdrs w7 (Off w7 N g7) hs ls := HU.out.2.kept (fun b hb => hbr7.block b hb.2.1) (fun b hb => ⟨hb.1, by have := hb.2.1; have := hbr7.size; omega, by have := hb.2.1; have := hgbb.2; rcases hat7 with e | e <;> omega⟩)
                have HE7 : Hid (lutsFrom (Opt.fst i ns) (Opt.natG gs) (bests (Opt.fst i ns) (Opt.natG gs)) (needV (Opt.fst i ns) (Opt.natG gs) (Opt.natL ns) (Opt.natL os)) (k + 1) = (v, x, T) :: ls) := Lib.hid (by rw [HLS.out, HLU.out, HTV.out])
                have HN7 : Hid (((v, x, T) :: ls).length = 1 + n) := Lib.hid (by rw [List.length_cons, HNL.out]; omega)
                have HU7 : Hid (LuAt w7 N ((v, x, T) :: ls) ([.int .i64 v, .slice (some ⟨g5, 0, none⟩) t cap5, .int .i64 T] ++ hs) g7 cap7) := Lib.hid ⟨by rw [HN7.out]; exact hown7, hH7.cons v T HXM.out hlf7⟩
                have HM7 := Lib.hid (HMx.out.below hbr7 hgnw)
                have HX7 := Lib.hid (HX.out.trans (hbr7.mono (by omega)))
                clear hown5 hgr5 hat5 hb5 hown7 hgr7 hat7 hb6 hb7 hbr6 hbr7 hlf5 hlf7 hH7 hsz6 HU HMx HX HX2r
                go_wp2
                go_roundw
                case rel => exact ⟨k + 1, g7, cap7, _, _, by omega, rfl, Lib.hid (by have := HZ.out; omega), by rw [HE7.out, HN7.out], by rw [HE7.out]; exact HU7, by rw [HNS.out]; exact HM7, HX7⟩
                case measure => simp [intOf]
        · have hkg : k = gs.length := by omega
          subst hkg
          rw [← HES.out] at HU ⊢
          have hzf : z < (Opt.fst i ns : Int) := by have := HZ.out; omega
          go_wp2
          go_ret
          exact ⟨g, cap, hs, rfl, HU.out.low (by omega), HL3.out.trans (HX.out.mono (by omega))⟩
end Go.Proofs.Ytkkkkalgfmddbaa
/- The contract of the model's MapLuts. -/
namespace Go.Proofs.Ytkkkkalgfmddbaa
open Go.RowKit Go.Deep Cut

end Go.Proofs.Ytkkkkalgfmddbaa
