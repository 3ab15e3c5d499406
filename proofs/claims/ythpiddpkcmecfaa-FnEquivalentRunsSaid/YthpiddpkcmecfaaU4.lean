/- The contract of the model's conjunction: a new gate, or one that is there. -/
import Derived.Test.YthpiddpkcmecfaaU3
namespace Go.Proofs.Ythpiddpkcmecfaa
open Go.RowKit Go.Deep Go.Maps Go.WideMaps
set_option maxRecDepth 100000

theorem own_mono' {w : World} {base base' e size n : Nat} {v : Value} {xs : List Value} (h : w.ownsRow base e size v n xs) (hb : base' ≤ base) : w.ownsRow base' e size v n xs := by
  refine ⟨h.1, ?_⟩
  rcases h.2 with h1 | ⟨g, cap, cur, h1, h2, h3⟩
  · exact .inl h1
  · exact .inr ⟨g, cap, cur, h1, by omega, h3⟩
set_option maxRecDepth 100000 in
set_option maxHeartbeats 8000000 in
theorem sand_f (a c lo hi : Nat) (h : (lo ≤ hi ∧ lo = a ∧ hi = c) ∨ (lo < hi ∧ lo = c ∧ hi = a)) (base f nl nc gl gc ol oc : Nat) (i : Int) (nA gA oA : Option Addr) (x : List Opt.G) (w : World)
    (hG : w.ownsRow base 46 2 (.slice gA gl gc) x.length (gvs (Opt.intG x))) (hgl : x.length = gl) (hb : base ≤ w.heap.size) (hs : (simpl lo hi).2 = false) (h1 : lo < 1000000) (h2 : hi < 1000000)
    (hi0 : 0 ≤ i) (hi4 : i ≤ 4) (hnl : nl ≤ 3) (hgb : gl ≤ 1000) (hf : 1 + i + (nl : Int) = f) :
    Calls Try.prog 92 #[.agg #[.int .i64 i, .slice nA nl nc, .slice gA gl gc, .slice oA ol oc], .int .i64 a, .int .i64 c] w (SAndOut w base i (.slice nA nl nc) (.slice oA ol oc) (Opt.and3 f x lo hi)) := by
  have hle : lo ≤ hi := by omega
  have hA := and3_f (f := f) (x := x) hle hs
  have HA := Lib.hid hA
  have HGL := Lib.hid hgl
  have HF := Lib.hid hf
  have HG := Lib.hid hG
  have hf8 : f ≤ 8 := by omega
  obtain ⟨i0, hi0', hz0, hz1, hz2⟩ := info_parts Try.info31
  have HI := Lib.hid hi0'
  have HZ0 := Lib.hid hz0
  have HZ1 := Lib.hid hz1
  have HZ2 := Lib.hid hz2
  clear hi0' hz0 hz1 hz2
  have hw0 : Below w.heap.size w ((w.alloc (.cells #[.int .i64 i, .slice nA nl nc, .slice gA gl gc, .slice oA ol oc] 26)).alloc (.cells #[.int .i64 0, .slice none 0 0, .slice none 0 0, .slice none 0 0] 26)) := ((Below.refl _ _).alloc (Nat.le_refl _) _).alloc (by simp) _
  have hb0 : Boxed ((w.alloc (.cells #[.int .i64 i, .slice nA nl nc, .slice gA gl gc, .slice oA ol oc] 26)).alloc (.cells #[.int .i64 0, .slice none 0 0, .slice none 0 0, .slice none 0 0] 26)) w.heap.size i nA gA oA nl nc gl gc ol oc := (Boxed.new w i nA gA oA nl nc gl gc ol oc _).below ((Below.refl _ _).alloc (Nat.le_refl _) _) (by simp)
  have hr0 : Row ((w.alloc (.cells #[.int .i64 i, .slice nA nl nc, .slice gA gl gc, .slice oA ol oc] 26)).alloc (.cells #[.int .i64 0, .slice none 0 0, .slice none 0 0, .slice none 0 0] 26)) w.heap.size 26 #[.int .i64 i, .slice nA nl nc, .slice gA gl gc, .slice oA ol oc] := Row.alloc (heap_alloc_new w _) _
  have hq0 : Row ((w.alloc (.cells #[.int .i64 i, .slice nA nl nc, .slice gA gl gc, .slice oA ol oc] 26)).alloc (.cells #[.int .i64 0, .slice none 0 0, .slice none 0 0, .slice none 0 0] 26)) (w.heap.size + 1) 26 #[.int .i64 0, .slice none 0 0, .slice none 0 0, .slice none 0 0] := by
    have := heap_alloc_new (w.alloc (.cells #[.int .i64 i, .slice nA nl nc, .slice gA gl gc, .slice oA ol oc] 26)) (.cells #[.int .i64 0, .slice none 0 0, .slice none 0 0, .slice none 0 0] 26)
    simpa [Row] using this
  have hsz0 : ((w.alloc (.cells #[.int .i64 i, .slice nA nl nc, .slice gA gl gc, .slice oA ol oc] 26)).alloc (.cells #[.int .i64 0, .slice none 0 0, .slice none 0 0, .slice none 0 0] 26)).heap.size = w.heap.size + 2 := by simp
  have HW0 := Lib.hid hw0
  have HR0 := Lib.hid hr0
  have HQ0 := Lib.hid hq0
  have HSZ := Lib.hid hsz0
  have hcase : lo < hi ∧ 2 ≤ lo ∧ ((lo + 1 = hi ∧ lo % 2 = 1) ∨ lo + 1 ≠ hi) := by
    have hn : lo = Opt.neg1 hi ↔ lo + 1 = hi ∧ lo % 2 = 0 := by unfold Opt.neg1; split <;> omega
    unfold simpl at hs
    by_cases e1 : lo = 0 ∨ lo = Opt.neg1 hi
    · rw [if_pos e1] at hs; cases hs
    · rw [if_neg e1] at hs
      by_cases e2 : lo = 1 ∨ lo = hi
      · rw [if_pos e2] at hs; cases hs
      · rw [hn] at e1
        omega
  obtain ⟨hlt, h2lo, hpar⟩ := hcase
  have q0 : ((lo : Int) == 0) = false := by simp; omega
  have q3 : ((lo : Int) == 1) = false := by simp; omega
  have q4 : ((lo : Int) == (hi : Int)) = false := by simp; omega
  clear hw0 hb0 hr0 hq0 hsz0 hA hgl hf hG hs
  have hpar' : (((lo : Int) == (hi : Int) - 1) = true ∧ (lo : Int) % 2 = 1) ∨ ((lo : Int) == (hi : Int) - 1) = false := by
    rcases hpar with ⟨e1, e2⟩ | e1
    · exact .inl ⟨by simp; omega, by omega⟩
    · exact .inr (by simp; omega)
  clear hpar
  have h' : (lo = a ∧ hi = c) ∨ (lo = c ∧ hi = a) := by omega
  clear h
  rcases hpar' with ⟨q1, q2⟩ | q1
  all_goals
    rcases h' with ⟨rfl, rfl⟩ | ⟨rfl, rfl⟩
  all_goals
    go_enter Try.func92, Try.ntmps92
    go_wp2_with fail
    refine (l1First_any _ _ _ _ _ _ _ _ _ _ _ (by omega) (by omega) (by omega)).mono ?_
    rintro e w1 ⟨rfl, hb1⟩
    rw [HF.out]
    generalize (w.alloc (.cells #[.int .i64 i, .slice nA nl nc, .slice gA gl gc, .slice oA ol oc] 26)).alloc (.cells #[.int .i64 0, .slice none 0 0, .slice none 0 0, .slice none 0 0] 26) = w0 at *
    rw [HSZ.out] at hb1
    have HR1 := Lib.hid (HR0.out.below hb1 (by omega))
    have HQ1 := Lib.hid (HQ0.out.below hb1 (by omega))
    have hz1 : w.heap.size + 2 ≤ w1.heap.size := by have := hb1.size; rw [HSZ.out] at this; exact this
    have hL1 := HW0.out.trans (hb1.mono (show w.heap.size ≤ w.heap.size + 2 by omega))
    have HL1 := Lib.hid hL1
    have HG1 := Lib.hid (own_below' HG.out hL1)
    clear hb1 hL1 HR0 HQ0 HW0 HSZ q0 q1 q3 q4
    try clear q2
    clear w0
    have hGA : GatesAt w1 w1.heap.size gA (Opt.intG x) := by
      have hg := HG1.out
      rw [← Opt.intG_len x] at hg
      obtain ⟨A', cap', e, hG', _⟩ := own_gatesAt hg
      injection e with e1 e2 e3
      rw [e1]
      exact hG'
    have HGA := Lib.hid hGA
    clear hGA
    have p0 := HR1.out.cell 0
    have p1 := HR1.out.cell 1
    have p2 := HR1.out.cell 2
    have p3 := HR1.out.cell 3
    have y0 := HQ1.out.cell 0
    have y1 := HQ1.out.cell 1
    have y2 := HQ1.out.cell 2
    have y3 := HQ1.out.cell 3
    have x0 := HQ1.out.frozen 0
    have x1 := HQ1.out.frozen 1
    have x2 := HQ1.out.frozen 2
    have x3 := HQ1.out.frozen 3
    simp at p0 p1 p2 p3 y0 y1 y2 y3
    go_wp2
    go_loop [10] (fun iv => ∃ (k : Nat), k ≤ gl ∧ iv = .int .i64 k ∧ Hid (k ≤ Opt.idx x (lo, hi))) (fun iv => gl - (intOf iv).toNat)
    case atStart => exact ⟨0, Nat.zero_le _, rfl, Lib.hid (Nat.zero_le _)⟩
    case round =>
      obtain ⟨k, hk, rfl, HK⟩ := hrel
      by_cases hlk : k < gl
      · have hkx : k < x.length := by rw [HGL.out]; exact hlk
        obtain ⟨bb, off, hbo, hbl, hcA, hcB⟩ := HGA.out k (by rw [Opt.intG_len]; exact hkx)
        rw [Opt.intG_at] at hcA hcB
        have HST : Hid (Opt.at_ x k ≠ (lo, hi) → k + 1 ≤ Opt.idx x (lo, hi)) := Lib.hid (fun hne => idx_step HK.out hkx hne)
        have HHit : Hid (Opt.at_ x k = (lo, hi) → Opt.idx x (lo, hi) = k) := Lib.hid (fun he => idx_hit HK.out he)
        have HPr : Hid (Opt.at_ x k = ((Opt.at_ x k).1, (Opt.at_ x k).2)) := Lib.hid rfl
        subst hbo
        clear hkx
        generalize (Opt.at_ x k).1 = va at *
        generalize (Opt.at_ x k).2 = vb at *
        by_cases ha : va = lo
        · subst ha
          by_cases hb' : vb = hi
          · subst hb'
            have HI2 := Lib.hid (HHit.out HPr.out)
            have HA2 : Hid (Opt.and3 f x va vb = (x, 2 * (f + k))) := Lib.hid (by rw [HA.out, HI2.out, if_pos (by rw [HGL.out]; exact hlk)])
            have hW : Below w.heap.size w ((((w1.setCell ⟨w.heap.size + 1, 0, none⟩ (.int .i64 i)).setCell ⟨w.heap.size + 1, 1, none⟩ (.slice nA nl nc)).setCell ⟨w.heap.size + 1, 2, none⟩ (.slice (some ⟨bb, off, none⟩) gl gc)).setCell ⟨w.heap.size + 1, 3, none⟩ (.slice oA ol oc)) := by
              refine Below.setCell (Below.setCell (Below.setCell (Below.setCell HL1.out ?_ _) ?_ _) ?_ _) ?_ _ <;> simp
            have HW := Lib.hid hW
            have HGW := Lib.hid (own_below' HG.out hW)
            clear hW HHit HST HPr
            go_wp2
            refine bodyPost_ret (v := .tuple #[.agg #[.int .i64 i, .slice nA nl nc, .slice (some ⟨bb, off, none⟩) gl gc, .slice oA ol oc], .int .i64 (2 * ((f : Int) + (k : Int)))]) (by simp [results, Try.results92, go_sem, y0, y1, y2, y3]) rfl ⟨_, ?_, by rw [HA2.out]; exact HGW.out, HW.out⟩
            rw [HA2.out]
            have e3 : 2 * ((f : Int) + (k : Int)) = ((2 * (f + k) : Nat) : Int) := by omega
            rw [e3]
          · have q5 : ((va : Int) == (va : Int)) = true := by simp
            have q6 : ((vb : Int) == (hi : Int)) = false := by simp; omega
            have HNx := Lib.hid (HST.out (by rw [HPr.out]; intro e; injection e; omega))
            clear HHit HST HPr
            go_wp2
            go_round
            case rel => exact ⟨k + 1, by omega, by go_num, HNx⟩
            case measure => simp [intOf]; omega
        · have q5 : ((va : Int) == (lo : Int)) = false := by simp; omega
          have HNx := Lib.hid (HST.out (by rw [HPr.out]; intro e; injection e; omega))
          clear HHit HST HPr
          go_wp2
          go_round
          case rel => exact ⟨k + 1, by omega, by go_num, HNx⟩
          case measure => simp [intOf]; omega
      · obtain rfl : gl = k := by omega
        have HA2 : Hid (Opt.and3 f x lo hi = (x ++ [(lo, hi)], 2 * (f + x.length))) := Lib.hid (by rw [HA.out, if_neg (by have := HK.out; rw [HGL.out]; omega)])
        have HOE := Lib.hid (World.ownsRow_lit (base := w1.heap.size) (e := 46) (size := 2) w1 #[] 0 (by omega) (by simp [maxLen]) (by simp))
        have HOB : Hid (Below w1.heap.size w1 (w1.alloc (.cells #[] 46))) := Lib.hid ((Below.refl _ _).alloc (Nat.le_refl _) _)
        have p2a := fun o => (HR1.out.alloc o).cell 2
        simp at p2a
        clear p0 p1 p3 y0 y1 y2 y3 x0 x1 x2 x3
        go_wp2_with (first
          | (at_builtin; refine wpList_append_src _ rfl (.tmp 72) (.tmp 74) 24 rfl w1.heap.size 46 i0 _ 2 16 Try.underlying24 HI.out HZ0.out HZ1.out HZ2.out rfl (by omega) w1.heap.size 0 0 [] rfl HOE.out gA gl gc (gvs (Opt.intG x)) rfl (by rw [gvs_len, Opt.intG_len, HGL.out]) (gates_src (HGA.out.below HOB.out)) (gvs_one _) (by simp [maxLen]; omega) (by omega) (by simp) _ rfl ?_; intro g1 cap1 w7 hown1 hgr1 hat1; simp only [Nat.zero_add, List.nil_append] at hown1; simp only [Nat.zero_add]; have B7 := Lib.hid (Below.grown HOB.out hgr1 (by simp) (fun k hk => by injection hk; omega)); have O7 := Lib.hid hown1; have g1b : w1.heap.size ≤ g1 := (hown1.lt g1 rfl).1; have w7s : w1.heap.size ≤ w7.heap.size := B7.out.size; clear hown1 hgr1 hat1 p2a HOE HOB)
          | (at_builtin; refine wpList_append_kept _ rfl (.tmp 75) (.tmp 79) 24 rfl w1.heap.size 46 i0 _ 2 16 Try.underlying24 HI.out HZ0.out HZ1.out HZ2.out rfl (by omega) (.slice (some ⟨g1, 0, none⟩) gl cap1) gl (gvs (Opt.intG x)) rfl (O7.out.alloc _) ⟨w7.heap.size, 0, none⟩ 1 1 [.int .i64 lo, .int .i64 hi] rfl rfl (World.news_of_block (cs := #[.int .i64 lo, .int .i64 hi]) (heap_alloc_new w7 _)) (by simp [Value.oneCell']) (by omega) (by simp [maxLen]; omega) (by omega) (by simp; omega) _ rfl ?_; intro g2 cap2 w8 hown2 hgr2 hat2 hlt2 hk2; have B8 := Lib.hid (Below.grown (B7.out.alloc w7s (.cells #[.int .i64 lo, .int .i64 hi] 46)) hgr2 (by simp; omega) (fun k hk => by simp [Value.ownBlock] at hk; omega)); have O8 := Lib.hid hown2; have R8 := Lib.hid (HR1.out.below B8.out (by omega)); have Q8 := Lib.hid (HQ1.out.below B8.out (by omega)); have v2 := R8.out.cell 2; have f2 := R8.out.frozen 2; simp at v2; clear hown2 hgr2 hat2 hlt2 hk2))
        have R9 := R8.out.set 2 (.slice (some ⟨g2, 0, none⟩) (gl + 1) cap2)
        simp at R9
        have HR9 := Lib.hid R9
        have HQ9 := Lib.hid (Q8.out.far (p := ⟨w.heap.size, 2, none⟩) (by simp) (.slice (some ⟨g2, 0, none⟩) (gl + 1) cap2))
        have HO9 := Lib.hid (own_setC O8.out (show w.heap.size < w1.heap.size by omega) 2 (.slice (some ⟨g2, 0, none⟩) (gl + 1) cap2))
        have HL9 := Lib.hid ((HL1.out.trans (B8.out.mono (show w.heap.size ≤ w1.heap.size by omega))).setCell (p := ⟨w.heap.size, 2, none⟩) (by simp) (.slice (some ⟨g2, 0, none⟩) (gl + 1) cap2))
        clear R9 R8 Q8 O8 B8 v2 f2 O7 B7 p2 HR1 HQ1 HG1 HGA
        generalize w8.setCell ⟨w.heap.size, 2, none⟩ (.slice (some ⟨g2, 0, none⟩) (gl + 1) cap2) = w9 at *
        generalize hn1 : gl + 1 = n1 at *
        have HN1 := Lib.hid hn1
        have hn1b : n1 ≤ 1001 := by omega
        clear hn1
        have p0 := HR9.out.cell 0
        have p1 := HR9.out.cell 1
        have p2 := HR9.out.cell 2
        have p3 := HR9.out.cell 3
        have y0 := HQ9.out.cell 0
        have y1 := HQ9.out.cell 1
        have y2 := HQ9.out.cell 2
        have y3 := HQ9.out.cell 3
        have x0 := HQ9.out.frozen 0
        have x1 := HQ9.out.frozen 1
        have x2 := HQ9.out.frozen 2
        have x3 := HQ9.out.frozen 3
        simp at p0 p1 p2 p3 y0 y1 y2 y3
        have s1 : IntKind.i64.wrap ((f : Int) + (n1 : Int)) = (f : Int) + (n1 : Int) := IntWalk.i64_in _ (by omega)
        have s2 : IntKind.i64.wrap ((f : Int) + (n1 : Int) - 1) = (f : Int) + (n1 : Int) - 1 := IntWalk.i64_in _ (by omega)
        have s3 : IntKind.i64.wrap (2 * ((f : Int) + (n1 : Int) - 1)) = 2 * ((f : Int) + (n1 : Int) - 1) := IntWalk.i64_in _ (by omega)
        have hW : Below w.heap.size w ((((w9.drew.setCell ⟨w.heap.size + 1, 0, none⟩ (.int .i64 i)).setCell ⟨w.heap.size + 1, 1, none⟩ (.slice nA nl nc)).setCell ⟨w.heap.size + 1, 2, none⟩ (.slice (some ⟨g2, 0, none⟩) n1 cap2)).setCell ⟨w.heap.size + 1, 3, none⟩ (.slice oA ol oc)) := by
          refine Below.setCell (Below.setCell (Below.setCell (Below.setCell HL9.out.drew ?_ _) ?_ _) ?_ _) ?_ _ <;> simp
        have HW := Lib.hid hW
        have HGW := Lib.hid (own_setC (own_setC (own_setC (own_setC HO9.out.drew (show w.heap.size + 1 < w1.heap.size by omega) 0 (.int .i64 i)) (show w.heap.size + 1 < w1.heap.size by omega) 1 (.slice nA nl nc)) (show w.heap.size + 1 < w1.heap.size by omega) 2 (.slice (some ⟨g2, 0, none⟩) n1 cap2)) (show w.heap.size + 1 < w1.heap.size by omega) 3 (.slice oA ol oc))
        clear hW
        go_region_held3 (fun w' => w'.cell? ⟨w.heap.size, 0, none⟩ = some (.int .i64 i) ∧ w'.cell? ⟨w.heap.size, 1, none⟩ = some (.slice nA nl nc) ∧ w'.cell? ⟨w.heap.size, 2, none⟩ = some (.slice (some ⟨g2, 0, none⟩) n1 cap2) ∧ w'.cell? ⟨w.heap.size, 3, none⟩ = some (.slice oA ol oc)) (go_keep) (fail)
        all_goals
          clear s1 s2 s3
          go_wp2
          refine bodyPost_ret (v := .tuple #[.agg #[.int .i64 i, .slice nA nl nc, .slice (some ⟨g2, 0, none⟩) n1 cap2, .slice oA ol oc], .int .i64 (2 * ((f : Int) + (n1 : Int) - 1))]) (by simp [results, Try.results92, go_sem, y0, y1, y2, y3]) rfl ⟨.slice (some ⟨g2, 0, none⟩) n1 cap2, ?_, ?_, HW.out⟩
          · rw [HA2.out]
            have e3 : 2 * ((f : Int) + (n1 : Int) - 1) = ((2 * (f + x.length) : Nat) : Int) := by have := HN1.out; have := HGL.out; omega
            rw [e3]
          · rw [HA2.out]
            show World.ownsRow _ base _ 2 _ (x ++ [(lo, hi)]).length (gvs (Opt.intG (x ++ [(lo, hi)])))
            rw [List.length_append, List.length_singleton, intG_snoc, HGL.out, HN1.out]
            exact own_mono' HGW.out (by omega)
end Go.Proofs.Ythpiddpkcmecfaa
