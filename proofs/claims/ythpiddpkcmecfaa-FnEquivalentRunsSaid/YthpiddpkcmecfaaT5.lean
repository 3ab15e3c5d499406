/- The contract of the builder's conjunction. -/
import Derived.Test.YthpiddpkcmecfaaT4
import Derived.Deep.RegionLaw
import Derived.OwnWalk
namespace Go.Proofs.Ythpiddpkcmecfaa
open Go.RowKit Go.Deep Go.Maps Go.WideMaps
set_option maxRecDepth 100000

theorem and3_t {f : Nat} {x : List Opt.G} {lo hi : Nat} (h : lo ≤ hi) (hs : (simpl lo hi).2 = true) : Opt.and3 f x lo hi = (x, (simpl lo hi).1) := by
  have e1 : min lo hi = lo := by omega
  have e2 : max lo hi = hi := by omega
  unfold Opt.and3
  rw [e1, e2]
  have hn : lo = Opt.neg1 hi ↔ lo + 1 = hi ∧ lo % 2 = 0 := by unfold Opt.neg1; split <;> omega
  unfold simpl at hs ⊢
  simp only [hn] at hs ⊢
  by_cases h1 : lo = 0 ∨ lo + 1 = hi ∧ lo % 2 = 0
  · simp only [h1, if_true]
  · simp only [h1, if_false] at hs ⊢
    by_cases h2 : lo = 1 ∨ lo = hi
    · simp only [h2, if_true]
    · simp only [h2, if_false] at hs
      cases hs
theorem and3_f {f : Nat} {x : List Opt.G} {lo hi : Nat} (h : lo ≤ hi) (hs : (simpl lo hi).2 = false) : Opt.and3 f x lo hi = if Opt.idx x (lo, hi) < x.length then (x, 2 * (f + Opt.idx x (lo, hi))) else (x ++ [(lo, hi)], 2 * (f + x.length)) := by
  have e1 : min lo hi = lo := by omega
  have e2 : max lo hi = hi := by omega
  unfold Opt.and3
  rw [e1, e2]
  have hn : lo = Opt.neg1 hi ↔ lo + 1 = hi ∧ lo % 2 = 0 := by unfold Opt.neg1; split <;> omega
  unfold simpl at hs
  simp only [hn] at hs
  split
  · next h1 => rw [if_pos h1] at hs; simp at hs
  · next h1 =>
    rw [if_neg h1] at hs
    split
    · next h2 => rw [if_pos h2] at hs; simp at hs
    · rfl
theorem and3_mm (f : Nat) (x : List Opt.G) (a b : Nat) : Opt.and3 f x a b = Opt.and3 f x (min a b) (max a b) := by
  have e1 : min (min a b) (max a b) = min a b := by omega
  have e2 : max (min a b) (max a b) = max a b := by omega
  unfold Opt.and3
  rw [e1, e2]

theorem Bld.drewN {w : World} {base p b f : Nat} {vG : Value} {x : List Opt.G} (h : Bld w base p b f vG x) (n : Nat) : Bld (w.drewN n) base p b f vG x := ⟨h.row, h.gates, h.map, h.bp, h.pb, h.sz⟩
theorem Bld.slice {w : World} {base p b f : Nat} {vG : Value} {x : List Opt.G} (h : Bld w base p b f vG x) : ∃ A cap, vG = .slice A x.length cap := by
  have hg := h.gates
  rw [← Opt.intG_len x] at hg
  obtain ⟨A, cap, e, _⟩ := own_gatesAt hg
  exact ⟨A, cap, by rw [e, Opt.intG_len]⟩
/-- What the builder's map answers. -/
theorem look_any {w : World} {base p b f : Nat} {vG : Value} {x : List Opt.G} (h : Bld w base p b f vG x) {lo hi : Nat} (h1 : lo < 1000000) (h2 : hi < 1000000) (hs : ∀ g, g ∈ x → Sm g) (hd : ∀ j l, j < l → l < x.length → Opt.at_ x j ≠ Opt.at_ x l) (n : Nat) :
    (Instr.lookup 104 (.map (some b)) (.agg #[.int .i64 lo, .int .i64 hi]) true).run Try.prog (w.drewN n) =
      .ok (.tuple #[.int .i64 ((if Opt.idx x (lo, hi) < x.length then 2 * (f + Opt.idx x (lo, hi)) else 0 : Nat) : Int), .bool (decide (Opt.idx x (lo, hi) < x.length))]) (w.drewN n) := by
  have hm : (w.drewN n).ownsMap Try.prog 125 (plainElem Try.prog 101) b x.length (dict f x) := h.map
  obtain ⟨v, ps, hrun, hv⟩ := hm.look_ok Try.lawP Try.underlying104 (Try.zeroL _) (plainElem_int Try.underlying101 (by decide : (Lit.int .i64 0).wf = true)) (keyOf_kl h1 h2)
  obtain ⟨cc, rfl, hc, _⟩ := plainElem_int_inv Try.underlying101 hv
  have hc' := congrArg Prod.fst hc
  rw [dict_has f (lo, hi) ⟨h1, h2⟩ x hs] at hrun
  rw [hrun]
  by_cases hix : Opt.idx x (lo, hi) < x.length
  · rw [dict_at f (lo, hi) ⟨h1, h2⟩ _ x hs hd hix] at hc'
    have : ((2 * (f + Opt.idx x (lo, hi)) : Nat) : Int) = cc := by simpa using hc'
    rw [if_pos hix, this]
  · rw [atKey_of_not_has (by rw [dict_has f (lo, hi) ⟨h1, h2⟩ x hs]; exact decide_eq_false hix)] at hc'
    have : (0 : Int) = cc := by simpa using hc'
    rw [if_neg hix, ← this]
    rfl

/-- The builder between the append to its gates and the store into its map. -/
structure BPre (w : World) (base p b f : Nat) (vG : Value) (x y : List Opt.G) : Prop where
  row : Row w p 106 #[.int .i64 f, vG, .map (some b)]
  gates : w.ownsRow base 46 2 vG y.length (gvs (Opt.intG y))
  map : w.ownsMap Try.prog 125 (plainElem Try.prog 101) b x.length (dict f x)
  bp : b < p
  pb : p < base
  sz : base ≤ w.heap.size
theorem intG_snoc (x : List Opt.G) (g : Opt.G) : gvs (Opt.intG (x ++ [g])) = gvs (Opt.intG x) ++ [.int .i64 (g.1 : Int), .int .i64 (g.2 : Int)] := by
  unfold Opt.intG
  rw [List.map_append, gvs_append]
  rfl
theorem Bld.app {w w6 : World} {base p b f : Nat} {vG : Value} {x : List Opt.G} (h : Bld w base p b f vG x) {o : Obj} {g cap a c : Nat} (ho : w6.ownsRow base 46 2 (.slice (some ⟨g, 0, none⟩) (x.length + 1) cap) (x.length + 1) (gvs (Opt.intG x) ++ [.int .i64 (a : Int), .int .i64 (c : Int)]))
    (hg : (w.alloc o).drew.grownBy w6 vG.ownBlock) :
    BPre (w6.setCell ⟨p, 1, none⟩ (.slice (some ⟨g, 0, none⟩) (x.length + 1) cap)) base p b f (.slice (some ⟨g, 0, none⟩) (x.length + 1) cap) x (x ++ [(a, c)]) ∧ Buts p b vG.ownBlock w (w6.setCell ⟨p, 1, none⟩ (.slice (some ⟨g, 0, none⟩) (x.length + 1) cap)) := by
  have h1 := h.bp
  have h2 := h.pb
  have hr : Row (w.alloc o).drew p 106 #[.int .i64 f, vG, .map (some b)] := h.row.alloc o
  have hc := (hr.grown hg (own_low h.gates h2)).set 1 (.slice (some ⟨g, 0, none⟩) (x.length + 1) cap)
  simp at hc
  have hm : (w.alloc o).drew.ownsMap Try.prog 125 (plainElem Try.prog 101) b x.length (dict f x) := h.map.alloc o
  refine ⟨⟨hc, ?_, (hm.kept hg (own_low h.gates (by omega))).setCell (by simp; omega) _, h1, h2, ?_⟩, ?_⟩
  · rw [List.length_append, List.length_singleton, intG_snoc]
    exact own_setC ho h2 1 _
  · have e1 := h.sz
    have e2 := hg.size
    simp [World.setCell] at e2 ⊢
    omega
  · refine Buts.setp (Buts.trans (w' := (w.alloc o).drew) ?_ (Buts.of_grown hg)) 1 _
    exact Buts.of_below (B := w.heap.size) ((Below.refl _ w).alloc (Nat.le_refl _) o).drew (Nat.le_refl _)
theorem BPre.done {w w7 : World} {base p b f : Nat} {vG : Value} {x : List Opt.G} {g : Opt.G} (h : BPre w base p b f vG x (x ++ [g])) {v : Int} (hv : v = ((2 * (f + x.length) : Nat) : Int)) (hm : w7.ownsMap Try.prog 125 (plainElem Try.prog 101) b (x.length + 1) ((dict f x).put (kl g) (.lit (.int .i64 v))))
    (hg : w.grownBy w7 (some b)) : Bld w7 base p b f vG (x ++ [g]) := by
  have h1 := h.bp
  have h2 := h.pb
  subst hv
  refine ⟨h.row.grown hg (by intro e; injection e; omega), h.gates.kept hg (.inr fun e => own_low h.gates (show b < base by omega) e.symm), ?_, h1, h2, Nat.le_trans h.sz hg.size⟩
  rw [List.length_append, List.length_singleton, dict_snoc]
  exact hm

theorem own_ne88 {w : World} {g : Nat} {t : TypeId} {cs : Array Value} {base e size n : Nat} {v : Value} {xs : List Value} (h : Row w g t cs) (h' : w.ownsRow base e size v n xs) (hne : t ≠ e := by decide) : some g ≠ v.ownBlock := by
  rcases h'.2 with ⟨rfl, _⟩ | ⟨g', cap', cur', rfl, _, hg', _⟩
  · simp [Value.ownBlock]
  · intro e1
    have : g = g' := by simpa [Value.ownBlock] using e1
    subst this
    unfold Row at h
    rw [h] at hg'
    injection hg' with hg'
    injection hg' with _ ht
    exact hne ht

def AndOut (w : World) (base p b f : Nat) (vG : Value) (r : List Opt.G × Nat) (e : Ending) (w' : World) : Prop :=
  ∃ vG', e = .returned (.int .i64 (r.2 : Nat)) ∧ Bld w' base p b f vG' r.1 ∧ Buts p b vG.ownBlock w w'

set_option maxHeartbeats 8000000 in
theorem and_core (a c lo hi : Nat) (h : (lo < hi ∧ lo = a ∧ hi = c) ∨ (lo < hi ∧ lo = c ∧ hi = a) ∨ (lo = hi ∧ lo = a ∧ lo = c)) (base p b f : Nat) (vG : Value) (x : List Opt.G) (w : World) (hB : Bld w base p b f vG x) (hd : ∀ j l, j < l → l < x.length → Opt.at_ x j ≠ Opt.at_ x l)
    (hs : ∀ g, g ∈ x → Sm g) (h1 : lo < 1000000) (h2 : hi < 1000000) (hf : f ≤ 1000) (hx : x.length ≤ 1000) :
    Calls Try.prog 88 #[.pointer (some ⟨p, 0, none⟩), .int .i64 a, .int .i64 c] w (AndOut w base p b f vG (Opt.and3 f x lo hi)) := by
  obtain ⟨i0, hi, hz0, hz1, hz2⟩ := info_parts Try.info31
  have HI := Lib.hid hi
  have HZ0 := Lib.hid hz0
  have HZ1 := Lib.hid hz1
  have HZ2 := Lib.hid hz2
  clear hi hz0 hz1 hz2
  obtain ⟨A, cap, rfl⟩ := hB.slice
  have HB := Lib.hid hB
  have HD := Lib.hid hd
  have HS := Lib.hid hs
  have hle : lo ≤ hi := by omega
  clear hB hd hs
  have hb0 : Below w.heap.size w (w.alloc (.cells #[.int .i64 lo, .int .i64 hi] 125)) := (Below.refl _ _).alloc (Nat.le_refl _) _
  have hr0 : Row (w.alloc (.cells #[.int .i64 lo, .int .i64 hi] 125)) w.heap.size 125 #[.int .i64 lo, .int .i64 hi] := heap_alloc_new w _
  have HB0 := Lib.hid hb0
  have HR0 := Lib.hid hr0
  clear hb0 hr0
  have hcase : (simpl lo hi).2 = true ∨ ((simpl lo hi).2 = false ∧ lo < hi) := by
    cases hs2 : (simpl lo hi).2 with
    | true => exact .inl rfl
    | false =>
      refine .inr ⟨rfl, ?_⟩
      by_cases e : lo = hi
      · subst e
        unfold simpl at hs2
        by_cases h3 : lo = 0 ∨ lo = Opt.neg1 lo <;> simp [h3] at hs2
      · omega
  rcases hcase with hs | ⟨hs, hlt⟩
  · have HA := Lib.hid (and3_t (f := f) (x := x) hle hs)
    have HS2 := Lib.hid hs
    clear hs
    rcases h with ⟨h, rfl, rfl⟩ | ⟨h, rfl, rfl⟩ | ⟨rfl, rfl, rfl⟩
    all_goals
      go_enter Try.func88, Try.ntmps88
      go_wp2_with fail
      refine (simplified_any _ _ _ (by omega) (by omega)).mono ?_
      rintro e w1 ⟨rfl, hb1⟩
      have HB1 := Lib.hid ((HB.out.below HB0.out).below hb1)
      have HL1 := Lib.hid (HB0.out.trans (hb1.mono HB0.out.size))
      rw [HS2.out]
      clear hb1
      go_wp2
      go_ret
      exact ⟨_, by rw [HA.out]; rfl, by rw [HA.out]; exact HB1.out, Buts.of_below HL1.out (Nat.le_refl _)⟩
  · have HA := Lib.hid (and3_f (f := f) (x := x) hle hs)
    have HS2 := Lib.hid hs
    clear hs
    have h' : (lo < hi ∧ lo = a ∧ hi = c) ∨ (lo < hi ∧ lo = c ∧ hi = a) := by omega
    clear h
    rcases h' with ⟨h, rfl, rfl⟩ | ⟨h, rfl, rfl⟩
    all_goals
      go_enter Try.func88, Try.ntmps88
      go_wp2_with fail
      refine (simplified_any lo hi _ h1 h2).mono ?_
      rintro e w1 ⟨rfl, hb1⟩
      have HB1 := Lib.hid ((HB.out.below HB0.out).below hb1)
      have HL1 := Lib.hid (HB0.out.trans (hb1.mono HB0.out.size))
      have HR1 := Lib.hid (HR0.out.below hb1 HR0.out.lt)
      rw [HS2.out]
      clear hb1
      generalize (simpl lo hi).1 = sr
      have p2 := HB1.out.row.cell 2
      have r0 := HR1.out.cell 0
      have r1 := HR1.out.cell 1
      simp at p2 r0 r1
      have hrun := look_any HB1.out h1 h2 HS.out HD.out
      by_cases hix : Opt.idx x (lo, hi) < x.length
      · simp only [if_pos hix, decide_eq_true hix] at hrun
        rw [if_pos hix] at HA
        clear hix
        generalize 2 * (f + Opt.idx x (lo, hi)) = cc at *
        go_wp2
        go_quiet (fail)
        go_wp2
        go_ret
        exact ⟨_, by rw [HA.out]; rfl, by rw [HA.out]; exact HB1.out.drewN _, Buts.of_below (below_drewN HL1.out _) (Nat.le_refl _)⟩
      · simp only [if_neg hix, decide_eq_false hix] at hrun
        rw [if_neg hix] at HA
        have HX := Lib.hid hix
        clear hix
        go_wp2
        go_quiet (fail)
        clear hrun p2 r0 r1
        have HB2 := Lib.hid (HB1.out.drewN nq)
        have HL2 := Lib.hid (below_drewN HL1.out nq)
        have HR2 : Hid (Row (w1.drewN nq) w.heap.size 125 #[.int .i64 lo, .int .i64 hi]) := Lib.hid HR1.out
        clear HB1 HL1 HR1
        generalize w1.drewN nq = w2 at *
        clear w1
        have p0 := HB2.out.row.cell 0
        have p1 := HB2.out.row.cell 1
        simp at p0 p1
        have s1 : IntKind.i64.wrap ((f : Int) + (x.length : Int)) = (f : Int) + (x.length : Int) := IntWalk.i64_in _ (by omega)
        have s2 : IntKind.i64.wrap (2 * ((f : Int) + (x.length : Int))) = 2 * ((f : Int) + (x.length : Int)) := IntWalk.i64_in _ (by omega)
        go_wp2
        go_quiet (fail)
        clear p0 p1 s1 s2
        have HB3 := Lib.hid (HB2.out.drewN nq)
        have HL3 := Lib.hid (below_drewN HL2.out nq)
        have HR3 : Hid (Row (w2.drewN nq) w.heap.size 125 #[.int .i64 lo, .int .i64 hi]) := Lib.hid HR2.out
        clear HB2 HL2 HR2
        generalize w2.drewN nq = w3 at *
        clear w2
        have p1 := HB3.out.row.cell 1
        have f1 := HB3.out.row.frozen 1
        have r0 := HR3.out.cell 0
        have r1 := HR3.out.cell 1
        simp at p1 r0 r1
        have hbs := HB3.out.sz
        have hpb := HB3.out.pb
        have hz3 := HR3.out.lt
        have hbs0 := HB.out.sz
        have p1a := fun o => (HB3.out.row.alloc o).cell 1
        have r0a := fun o => (HR3.out.alloc o).cell 0
        have r1a := fun o => (HR3.out.alloc o).cell 1
        simp at p1a r0a r1a
        go_wp2
        go_region_law (first
            | (refine step_append_kept _ (by rfl) _ _ _ (by rfl) base 46 i0 _ 2 16 Try.underlying24 HI.out HZ0.out HZ1.out HZ2.out rfl (by omega) (.slice A x.length cap) x.length (gvs (Opt.intG x)) (by simp [Act.eval]) (HB3.out.gates.alloc _).drew ⟨w3.heap.size, 0, none⟩ 1 1 [.int .i64 lo, .int .i64 hi] (by simp [Act.eval]) (by rfl) (World.news_of_block (cs := #[.int .i64 lo, .int .i64 hi]) (t := 46) (fr := (0, 0)) (heap_alloc_new w3 _)) (by simp [Value.oneCell']) (by omega) (by simp [maxLen]; omega) (by omega) (by simp; omega) _ rfl ?_; intro g cap6 w6 hown6 hgrow hat hlt6 hkept; obtain ⟨hP6, hB6⟩ := HB3.out.app hown6 hgrow; have HP6 := Lib.hid hP6; have HB6 := Lib.hid hB6; have rC := Row.grown (w := (w3.alloc _).drew) (HB3.out.row.alloc _) hgrow (own_low HB3.out.gates hpb); have d1 := rC.cell 1; have e1 := rC.frozen 1; have HR6 := Lib.hid ((Row.grown (w := (w3.alloc _).drew) (HR3.out.alloc _) hgrow (own_ne88 HR3.out HB3.out.gates)).far (p := ⟨p, 1, none⟩) (by simp; omega) (.slice (some ⟨g, 0, none⟩) (x.length + 1) cap6)); simp at d1; clear hP6 hB6 rC hown6 hgrow hat hlt6 hkept))
        all_goals
          clear d1 e1 p1 f1 r0 r1 p1a r0a r1a
          generalize w6.setCell ⟨p, 1, none⟩ (.slice (some ⟨g, 0, none⟩) (x.length + 1) cap6) = w7 at *
          have p2 := HP6.out.row.cell 2
          have r0 := HR6.out.cell 0
          have r1 := HR6.out.cell 1
          simp at p2 r0 r1
          go_wp2
          go_still_tail 6, (by kernel_rfl)
          refine wpList_mapUpdate_own _ rfl _ _ _ 104 rfl 125 101 Try.lawP Try.underlying104 _ b x.length _ rfl HP6.out.map.drew (by unfold maxLen; omega) _ _ _ rfl rfl (keyOf_kl h1 h2) _ [] (plainElem_int Try.underlying101 (WalkArith.wf_i64 (by omega))) ?_
          intro w8 hown8 hgrow8
          have HG8 := Lib.hid hgrow8
          have HB8 := Lib.hid (BPre.done (w := w7.drew) ⟨HP6.out.row, HP6.out.gates, HP6.out.map, HP6.out.bp, HP6.out.pb, HP6.out.sz⟩ (by omega) hown8 hgrow8)
          clear hown8 hgrow8 p2 r0 r1
          go_wp2
          go_ret
          refine ⟨_, by rw [HA.out]; exact ret_int (by omega), by rw [HA.out]; exact HB8.out, ?_⟩
          refine Buts.trans (w' := w7) (Buts.trans (w' := w3) (Buts.of_below HL3.out (Nat.le_refl _)) HB6.out) (Buts.trans (w' := w7.drew) ⟨rfl, rfl, rfl, Nat.le_refl _, fun _ _ _ _ _ => rfl⟩ (Buts.of_grownb HG8.out))
end Go.Proofs.Ythpiddpkcmecfaa
