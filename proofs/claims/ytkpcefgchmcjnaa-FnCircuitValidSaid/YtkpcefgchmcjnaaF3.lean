/- The walk of the law FnCircuitValid. -/
import Derived.Test.YtkpcefgchmcjnaaR5
import Derived.Test.YtkpcefgchmcjnaaS
import Derived.Test.YtkpcefgchmcjnaaL3
namespace Go.Proofs.Ytkpcefgchmcjnaa
open Go.RowKit Go.Deep

theorem gates_src {w : World} {B : Nat} {A : Option Addr} {gs : List (Int × Int)} (h : GatesAt w B A gs) : ∀ j u, (gvs gs)[j]? = some u → ∃ ad, A = some ad ∧ w.cell? (ad.add j) = some u := by
  intro j u hu
  have hj : j < gs.length * 2 := by have := (List.getElem?_eq_some_iff.1 hu).1; rwa [gvs_len] at this
  obtain ⟨b, off, e, _, h1, h2⟩ := h (j / 2) (by omega)
  have hg := gvs_get gs (j / 2) (by omega)
  refine ⟨_, e, ?_⟩
  have hadd : ((⟨b, off, none⟩ : Addr).add j) = ⟨b, off + j, none⟩ := by unfold Addr.add; split <;> simp_all
  rw [hadd]
  rcases (by omega : j = j / 2 * 2 ∨ j = j / 2 * 2 + 1) with hp | hp
  · rw [hp] at hu ⊢
    rw [hg.1] at hu
    injection hu with hu
    rw [← hu]
    have e2 : j / 2 * 2 / 2 = j / 2 := by omega
    exact h1
  · rw [hp] at hu ⊢
    rw [hg.2] at hu
    injection hu with hu
    rw [← hu, ← Nat.add_assoc]
    exact h2
theorem GatesAt.take {w : World} {B : Nat} {A : Option Addr} {gs : List (Int × Int)} (h : GatesAt w B A gs) (m : Nat) : GatesAt w B A (gs.take m) := fun k hk => by
  have hk2 : k < m ∧ k < gs.length := by simp at hk; omega
  obtain ⟨b, off, e, hb, h1, h2⟩ := h k hk2.2
  have eg : (gs.take m).getD k (0, 0) = gs.getD k (0, 0) := by simp [List.getD_eq_getElem?_getD, hk2.1]
  rw [eg]
  exact ⟨b, off, e, hb, h1, h2⟩
theorem own_gates {w : World} {base g n cap : Nat} {gs : List (Int × Int)} (h : w.ownsRow base 31 2 (.slice (some ⟨g, 0, none⟩) n cap) n (gvs gs)) (hn : gs.length = n) : GatesAt w w.heap.size (some ⟨g, 0, none⟩) gs := fun k hk => by
  refine ⟨g, 0, rfl, (h.lt g rfl).2, ?_, ?_⟩
  · rw [Nat.zero_add, h.cellAt (k * 2) (by omega)]; exact (gvs_get gs k hk).1
  · rw [Nat.zero_add, h.cellAt (k * 2 + 1) (by omega)]; exact (gvs_get gs k hk).2

set_option maxHeartbeats 1600000 in
theorem fvalid_walk (A : Option Addr) (bl bc : Nat) (w : World) (hb : CodeAt w A bl) (hbl : bl ≤ bc) (hbc : bc ≤ maxLen) :
    Calls Try.prog 3 #[.slice A bl bc] w fun e w' => e = .returned (.bool true) ∧ Below w.heap.size w w' := by
  have HB := Lib.hid hb
  have HBC := Lib.hid hbc
  unfold maxLen at hbc
  clear hb
  by_cases hsz : 1048576 < bl
  · go_enter Try.func3, Try.ntmps3
    go_wp2
    go_ret
    exact ⟨rfl, Below.refl _ _⟩
  · obtain ⟨i31, hi31, hz31, hs31, ht31⟩ := info_parts Try.info31
    have HI31 := Lib.hid hi31
    have HZ31 := Lib.hid hz31
    have HS31 := Lib.hid hs31
    have HT31 := Lib.hid ht31
    clear hi31 hz31 hs31 ht31
    go_enter Try.func3, Try.ntmps3
    go_wp2_with fail
    refine (draw9 A bl bc _ HB.out hbl HBC.out).mono ?_
    rintro e w1 ⟨i, nA, gA, oA, nc, gc, oc, ns, gs, os, rfl, hC1, hn, hg, ho, hgc, hb1⟩
    have hbB : Below w1.heap.size w1 (w1.alloc (.cells #[.int .i64 i, .slice nA ns.length nc, .slice gA gs.length gc, .slice oA os.length oc] 26)) := (Below.refl _ _).alloc (Nat.le_refl _) _
    have HC2 := Lib.hid ((hC1.below hbB).mono hbB.size)
    have HL2 := Lib.hid (hb1.trans (hbB.mono hb1.size))
    have HR2 := Lib.hid (show Row (w1.alloc (.cells #[.int .i64 i, .slice nA ns.length nc, .slice gA gs.length gc, .slice oA os.length oc] 26)) w1.heap.size 26 #[.int .i64 i, .slice nA ns.length nc, .slice gA gs.length gc, .slice oA os.length oc] from heap_alloc_new w1 _)
    clear hC1 hb1 hbB HB HBC hbc
    go_wp2_with fail
    refine (valid_any i nA gA oA nc gc oc ns gs os _ HC2.out).mono ?_
    rintro e w3 ⟨rfl, hb3⟩
    have HC3 := Lib.hid ((HC2.out.below hb3).mono hb3.size)
    have HR3 := Lib.hid (HR2.out.below hb3 HR2.out.lt)
    have HL3 := Lib.hid (HL2.out.trans (hb3.mono HL2.out.size))
    clear hb3 HC2 HR2 HL2
    have q0 := HR3.out.cell 0
    have q1 := HR3.out.cell 1
    have q2 := HR3.out.cell 2
    have q3 := HR3.out.cell 3
    simp at q0 q1 q2 q3
    generalize w1.heap.size = cb at *
    go_wp2_with fail
    refine (svalid_any i nA gA oA nc gc oc ns gs os _ HC3.out).mono ?_
    rintro e w5 ⟨rfl, hb5⟩
    have HC5 := Lib.hid ((HC3.out.below hb5).mono hb5.size)
    have HR5 := Lib.hid (HR3.out.below hb5 HR3.out.lt)
    have HL5 := Lib.hid (HL3.out.trans (hb5.mono HL3.out.size))
    clear hb5 HC3 HR3 HL3 q0 q1 q2 q3
    have q0 := HR5.out.cell 0
    have q1 := HR5.out.cell 1
    have q2 := HR5.out.cell 2
    have q3 := HR5.out.cell 3
    simp at q0 q1 q2 q3
    cases hv : Circ.validB i ns gs os
    · clear hv
      go_wp2_with (go_at_call 12; refine (alive_any _).mono ?_; rintro e w6 ⟨rfl, hb6⟩)
      go_ret
      exact ⟨rfl, HL5.out.trans (hb6.mono HL5.out.size)⟩
    · obtain ⟨h0, h1, h2, h3, h4⟩ := Circ.valid_within hv
      by_cases hgz : gs.length = 0
      · clear hv
        have hgl0 : ((gs.length : Int) == 0) = true := by rw [beq_iff_eq]; omega
        go_wp2
        go_ret
        exact ⟨rfl, HL5.out⟩
      · have hgl0 : ((gs.length : Int) == 0) = false := beq_eq_false_iff_ne.2 (by omega)
        have HNX := Lib.hid (Circ.valid_next hv)
        have HOU := Lib.hid (Circ.valid_outs hv)
        have HV := Lib.hid hv
        clear hv
        have hlv : i + (ns.length : Int) + (gs.length : Int) ≤ 100 := by omega
        have hlv0 : 0 ≤ i + (ns.length : Int) + (gs.length : Int) := by omega
        go_wp2
        generalize hlast : i + (ns.length : Int) + (gs.length : Int) = lastv at *
        have HLT := Lib.hid hlast
        clear hlast
        go_loop [7, 8] (fun uv kv => ∃ (k : Nat) (ub : Bool), k ≤ os.length ∧ kv = .int .i64 k ∧ uv = .bool ub ∧ Hid ((Circ.usesB lastv (os.take k)) = ub)) (fun _ kv => os.length - (intOf kv).toNat)
        case atStart => exact ⟨0, _, Nat.zero_le _, rfl, rfl, Lib.hid (by simp [Circ.usesB])⟩
        case round =>
          obtain ⟨k, ub, hk, rfl, rfl, HU⟩ := hrel
          by_cases hlt : k < os.length
          · obtain ⟨b, off, rfl, _, hel⟩ := HC5.out.outs k hlt
            have HS := Lib.hid (Circ.uses_step lastv os k hlt)
            obtain ⟨o1, o2⟩ := Circ.litsOk_get HOU.out hlt
            generalize os.getD k 0 = v at *
            cases ub
            · go_wp2
              go_round
              case rel => exact ⟨k + 1, _, by omega, by go_num, rfl, Lib.hid (by rw [HS.out, HU.out]; rfl)⟩
              case measure => simp [intOf]; omega
            · go_wp2
              go_round
              case rel => exact ⟨k + 1, _, by omega, by go_num, rfl, Lib.hid (by rw [HS.out, HU.out]; rfl)⟩
              case measure => simp [intOf]; omega
          · obtain rfl : k = os.length := by omega
            generalize hub : ub = uo at *
            subst hub
            have HU1 := HU.out
            rw [List.take_length] at HU1
            have HUO := Lib.hid HU1
            clear HU1 HU
            go_wp2
            go_loop [7, 9] (fun uv kv => ∃ (k2 : Nat) (u2 : Bool), k2 ≤ ns.length ∧ kv = .int .i64 k2 ∧ uv = .bool u2 ∧ Hid ((ub || Circ.usesB lastv (ns.take k2)) = u2)) (fun _ kv => ns.length - (intOf kv).toNat)
            case atStart => exact ⟨0, _, Nat.zero_le _, rfl, rfl, Lib.hid (by simp [Circ.usesB])⟩
            case round =>
              obtain ⟨k2, u2, hk2, rfl, rfl, HU⟩ := hrel
              by_cases hlt2 : k2 < ns.length
              · obtain ⟨b, off, rfl, _, hel⟩ := HC5.out.next k2 hlt2
                have HS := Lib.hid (Circ.uses_step lastv ns k2 hlt2)
                obtain ⟨o1, o2⟩ := Circ.litsOk_get HNX.out hlt2
                generalize ns.getD k2 0 = v at *
                cases u2
                · go_wp2
                  go_round
                  case rel => exact ⟨k2 + 1, _, by omega, by go_num, rfl, Lib.hid (by rw [HS.out, ← Bool.or_assoc, HU.out]; rfl)⟩
                  case measure => simp [intOf]; omega
                · go_wp2
                  go_round
                  case rel => exact ⟨k2 + 1, _, by omega, by go_num, rfl, Lib.hid (by rw [HS.out, ← Bool.or_assoc, HU.out]; rfl)⟩
                  case measure => simp [intOf]; omega
              · obtain rfl : k2 = ns.length := by omega
                have HU2 := HU.out
                rw [List.take_length, ← HUO.out] at HU2
                have HUU := Lib.hid HU2
                clear HU2 HU
                obtain ⟨m, hm⟩ : ∃ m : Nat, gs.length = m + 1 := ⟨gs.length - 1, by omega⟩
                obtain ⟨b, off, rfl, hbl5, _⟩ := HC5.out.gates 0 (by omega)
                have qa := fun o => (HR5.out.alloc o).cell 2
                have qb0 := fun o => (HR5.out.alloc o).cell 0
                have qb1 := fun o => (HR5.out.alloc o).cell 1
                have qb3 := fun o => (HR5.out.alloc o).cell 3
                have qc := fun o o' o'' => (((HR5.out.alloc o).alloc o').alloc o'').cell 2
                simp at qa qb0 qb1 qb3 qc
                have hgc' : ((m : Nat) : Int) ≤ (gc : Int) := by omega
                have HM := Lib.hid hm
                have sl : ((gs.length : Int) - 1) = (m : Int) := by omega
                clear hgl0
                have RL1 := Lib.hid (show Row (((w5.alloc (.cells #[.int .i64 i, .slice nA ns.length nc, .slice (some ⟨b, off, none⟩) m gc, .slice oA os.length oc] 26)).alloc (.cells #[.int .i64 i, .slice nA ns.length nc, .slice (some ⟨b, off, none⟩) (m + 1) gc, .slice oA os.length oc] 26)).alloc (.cells #[] 31)) w5.heap.size 26 #[.int .i64 i, .slice nA ns.length nc, .slice (some ⟨b, off, none⟩) m gc, .slice oA os.length oc] from (Below.heap_alloc _ _ _ (by simp; omega)).trans ((Below.heap_alloc _ _ _ (by simp)).trans (heap_alloc_new w5 _)))
                have RL2 := Lib.hid (show Row (((w5.alloc (.cells #[.int .i64 i, .slice nA ns.length nc, .slice (some ⟨b, off, none⟩) m gc, .slice oA os.length oc] 26)).alloc (.cells #[.int .i64 i, .slice nA ns.length nc, .slice (some ⟨b, off, none⟩) (m + 1) gc, .slice oA os.length oc] 26)).alloc (.cells #[] 31)) (w5.heap.size + 1) 26 #[.int .i64 i, .slice nA ns.length nc, .slice (some ⟨b, off, none⟩) (m + 1) gc, .slice oA os.length oc] from (Below.heap_alloc _ _ _ (by simp)).trans (by simpa using heap_alloc_new (w5.alloc (.cells #[.int .i64 i, .slice nA ns.length nc, .slice (some ⟨b, off, none⟩) m gc, .slice oA os.length oc] 26)) (.cells #[.int .i64 i, .slice nA ns.length nc, .slice (some ⟨b, off, none⟩) (m + 1) gc, .slice oA os.length oc] 26)))
                have OE := Lib.hid (show (((w5.alloc (.cells #[.int .i64 i, .slice nA ns.length nc, .slice (some ⟨b, off, none⟩) m gc, .slice oA os.length oc] 26)).alloc (.cells #[.int .i64 i, .slice nA ns.length nc, .slice (some ⟨b, off, none⟩) (m + 1) gc, .slice oA os.length oc] 26)).alloc (.cells #[] 31)).ownsRow (w5.heap.size + 1 + 1) 31 2 (.slice (some ⟨w5.heap.size + 1 + 1, 0, none⟩) 0 0) 0 [] from by
                  have h := World.ownsRow_lit (base := w5.heap.size + 1 + 1) (e := 31) (size := 2) ((w5.alloc (.cells #[.int .i64 i, .slice nA ns.length nc, .slice (some ⟨b, off, none⟩) m gc, .slice oA os.length oc] 26)).alloc (.cells #[.int .i64 i, .slice nA ns.length nc, .slice (some ⟨b, off, none⟩) (m + 1) gc, .slice oA os.length oc] 26)) #[] 0 (by simp) (by simp [maxLen]) (by simp)
                  simpa using h)
                have BW := Lib.hid (show Below w5.heap.size w5 (((w5.alloc (.cells #[.int .i64 i, .slice nA ns.length nc, .slice (some ⟨b, off, none⟩) m gc, .slice oA os.length oc] 26)).alloc (.cells #[.int .i64 i, .slice nA ns.length nc, .slice (some ⟨b, off, none⟩) (m + 1) gc, .slice oA os.length oc] 26)).alloc (.cells #[] 31)) from (((Below.refl _ _).alloc (Nat.le_refl _) _).alloc (by simp) _).alloc (by simp; omega) _)
                have hlm : (gs.take m).length = m := by simp; omega
                have HLM := Lib.hid hlm
                clear hlm
                go_wp2_with (first
                  | (at_builtin; refine wpList_append_src _ rfl (.tmp 83) (.tmp 88) 24 rfl (w5.heap.size + 1 + 1) 31 i31 _ 2 16 Try.underlying24 HI31.out HZ31.out HS31.out HT31.out rfl (by omega) (w5.heap.size + 1 + 1) 0 0 [] rfl OE.out (some ⟨b, off, none⟩) m gc (gvs (gs.take m)) rfl (by rw [gvs_len, HLM.out]) (gates_src ((HC5.out.gates.take m).below BW.out)) (gvs_one _) (by simp [maxLen]; omega) (by omega) (by simp) _ rfl ?_; intro g1 cap1 w7 hown1 hgr1 hat1; have R71 := Lib.hid (RL1.out.grown hgr1 (by intro x; injection x; omega)); have R72 := Lib.hid (RL2.out.grown hgr1 (by intro x; injection x; omega)); have B7 := Lib.hid (BW.out.grown hgr1 (by simp; omega) (fun j hj => by injection hj; omega)); have O7 := Lib.hid hown1; have g1b : w5.heap.size + 1 + 1 ≤ g1 := (hown1.lt g1 rfl).1; have w7s : w5.heap.size + 1 + 1 ≤ w7.heap.size := (by have := (hown1.lt g1 rfl).2; omega); clear hown1 hgr1 hat1 RL1 RL2 BW)
                  | (at_builtin; refine wpList_append_kept _ rfl (.tmp 89) (.tmp 93) 24 rfl (w5.heap.size + 1 + 1) 31 i31 _ 2 16 Try.underlying24 HI31.out HZ31.out HS31.out HT31.out rfl (by omega) (.slice (some ⟨g1, 0, none⟩) (0 + m) cap1) (0 + m) ([] ++ gvs (gs.take m)) (by simp [Act.eval]) (O7.out.alloc _) ⟨w7.heap.size, 0, none⟩ 1 1 [.int .i64 (2 * lastv), .int .i64 0] rfl rfl (World.news_of_block (cs := #[.int .i64 (2 * lastv), .int .i64 0]) (t := 31) (fr := (0, 0)) (heap_alloc_new w7 _)) (by simp [Value.oneCell']) (by omega) (by simp [maxLen]; omega) (by omega) (by simp; omega) _ rfl ?_; intro g2 cap2 w8 hown2 hgr2 hat2 hlt2 hkept2; have R81 := Lib.hid ((R71.out.alloc _).grown hgr2 (own_low O7.out (by omega))); have R82 := Lib.hid ((R72.out.alloc _).grown hgr2 (own_low O7.out (by omega))); have B8 := Lib.hid ((B7.out.alloc B7.out.size _).grown hgr2 (by simp; have := B7.out.size; omega) (fun j hj => by have := (O7.out.lt j hj).1; omega)); have O8 := Lib.hid hown2; have y0 := R81.out.cell 0; have y1 := R81.out.cell 1; have y2 := R81.out.cell 2; have y3 := R81.out.cell 3; have z2 := R82.out.cell 2; have f2 := R82.out.frozen 2; simp at y0 y1 y2 y3 z2; clear hown2 hgr2 hat2 hlt2 hkept2))
                have hlt0 := HLT.out
                have hm1 := HM.out
                have hlm := HLM.out
                have hm14 : m ≤ 14 := by omega
                have hlast : lastv = i + (ns.length : Int) + (((gs.take m).length : Int) + 1) := by rw [hlm]; omega
                have hgs : gs = gs.take m ++ [gs[m]'(by omega)] := by
                  have h := List.take_succ_eq_append_getElem (l := gs) (i := m) (by omega)
                  rw [List.take_of_length_le (by omega)] at h
                  exact h
                have hless : Circ.validB i ns (gs.take m) os = !u2 := by
                  have hv := HV.out
                  rw [hgs] at hv
                  have h := Circ.valid_less hv
                  rw [← hlast, HUU.out] at h
                  exact h
                have hloop : Circ.validB i ns (gs.take m ++ [(2 * lastv, 0)]) os = false := by
                  rw [hlast]
                  exact Circ.valid_loop
                have B9 := Lib.hid (B8.out.setCell (p := ⟨w5.heap.size + 1, 2, none⟩) (by simp) (.slice (some ⟨g2, 0, none⟩) (m + 1) cap2))
                have R91 := Lib.hid (R81.out.far (p := ⟨w5.heap.size + 1, 2, none⟩) (by simp) (.slice (some ⟨g2, 0, none⟩) (m + 1) cap2))
                have R92 := Lib.hid (R82.out.set 2 (.slice (some ⟨g2, 0, none⟩) (m + 1) cap2))
                simp at R92
                have O9 := Lib.hid (own_setC (C := w5.heap.size + 1) O8.out (by omega) 2 (.slice (some ⟨g2, 0, none⟩) (m + 1) cap2))
                clear y0 y1 y2 y3 z2 f2 R71 R72 B7 O7 R81 R82 B8 O8 qa qb0 qb1 qb3 qc hlast hgs hlt0 hm1 hm sl
                generalize w8.setCell ⟨w5.heap.size + 1, 2, none⟩ (.slice (some ⟨g2, 0, none⟩) (m + 1) cap2) = w9 at *
                have hc1 : CircAt w9 w9.heap.size nA (some ⟨b, off, none⟩) oA ns (gs.take m) os := ⟨(HC5.out.next.below B9.out).mono B9.out.size, ((HC5.out.gates.take m).below B9.out).mono B9.out.size, (HC5.out.outs.below B9.out).mono B9.out.size, by simp [maxLen]; omega, by rw [hlm]; simp [maxLen]; omega, by simp [maxLen]; omega⟩
                have call1 := valid_any i nA (some ⟨b, off, none⟩) oA nc gc oc ns (gs.take m) os w9 hc1
                rw [hlm, hless] at call1
                refine call1.mono ?_
                rintro e w10 ⟨rfl, hb10⟩
                have hgl2 : (gs.take m ++ [((2 * lastv, 0) : Int × Int)]).length = m + 1 := by rw [List.length_append, hlm]; rfl
                have hg9 : GatesAt w9 w9.heap.size (some ⟨g2, 0, none⟩) (gs.take m ++ [(2 * lastv, 0)]) := own_gates (n := m + 1) (base := w5.heap.size + 1 + 1) (cap := cap2) (by have h := O9.out; simp only [Nat.zero_add, List.nil_append] at h; rw [gvs_append]; exact h) hgl2
                have hc2 : CircAt w10 w10.heap.size nA (some ⟨g2, 0, none⟩) oA ns (gs.take m ++ [(2 * lastv, 0)]) os := ⟨(((HC5.out.next.below B9.out).mono B9.out.size).below hb10).mono hb10.size, (hg9.below hb10).mono hb10.size, (((HC5.out.outs.below B9.out).mono B9.out.size).below hb10).mono hb10.size, by simp [maxLen]; omega, by rw [hgl2]; simp [maxLen]; omega, by simp [maxLen]; omega⟩
                have call2 := valid_any i nA (some ⟨g2, 0, none⟩) oA nc cap2 oc ns (gs.take m ++ [(2 * lastv, 0)]) os w10 hc2
                rw [hgl2, hloop] at call2
                have CL2 := Lib.hid call2
                have R102 := Lib.hid (R92.out.below hb10 R92.out.lt)
                have v0 := R102.out.cell 0
                have v1 := R102.out.cell 1
                have v2 := R102.out.cell 2
                have v3 := R102.out.cell 3
                simp at v0 v1 v2 v3
                have HB10 := Lib.hid ((HL5.out.trans (B9.out.mono HL5.out.size)).trans (hb10.mono (Nat.le_trans HL5.out.size B9.out.size)))
                clear call1 call2 hc1 hc2 hb10 hless hloop hg9 hgl2 hlm
                cases u2
                · go_wp2_with (go_at_call 10; refine CL2.out.mono ?_; rintro e w11 ⟨rfl, hb11⟩)
                  go_ret
                  exact ⟨rfl, HB10.out.trans (hb11.mono HB10.out.size)⟩
                · go_wp2_with (go_at_call 10; refine CL2.out.mono ?_; rintro e w11 ⟨rfl, hb11⟩)
                  go_ret
                  exact ⟨rfl, HB10.out.trans (hb11.mono HB10.out.size)⟩
end Go.Proofs.Ytkpcefgchmcjnaa
