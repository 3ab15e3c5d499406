/- The contracts of the model's literals and marks. -/
import Derived.Test.YthpiddpkcmecfaaT3
import Derived.Test.YthpiddpkcmecfaaK
namespace Go.Proofs.Ythpiddpkcmecfaa
open Go.RowKit Go.Deep

theorem ivs_one (xs : List Int) : ∀ u ∈ ivs xs, u.oneCell' = true := by
  intro u hu
  simp only [ivs, List.mem_map] at hu
  obtain ⟨n, _, rfl⟩ := hu
  rfl
theorem ints_src {w : World} {B : Nat} {A : Option Addr} {xs : List Int} (h : IntsAt w B A xs) : ∀ j u, (ivs xs)[j]? = some u → ∃ ad, A = some ad ∧ w.cell? (ad.add j) = some u := by
  intro j u hu
  have hj : j < xs.length := by have := (List.getElem?_eq_some_iff.1 hu).1; rwa [ivs_len] at this
  obtain ⟨b, off, e, _, hc⟩ := h j hj
  rw [ivs_get hj] at hu
  injection hu with hu
  subst hu
  exact ⟨_, e, by rw [← hc]; unfold Addr.add; split <;> simp_all⟩

set_option maxHeartbeats 400000 in
theorem l3Map_any (A : Option Addr) (n cap l B : Nat) (m : List Nat) (w : World) (hm : IntsAt w B A (Opt.intL m)) (hn : m.length = n) (hl : l / 2 < n) (hb : l < 1000000) (hx : m.getD (l / 2) 0 < 1000000) :
    Calls Try.prog 93 #[.slice A n cap, .int .i64 l] w fun e w' => e = .returned (.int .i64 (Opt.mapL m l : Nat)) ∧ w = w' := by
  obtain ⟨b, off, rfl, _, hc⟩ := hm (l / 2) (by rw [Opt.intL_len, hn]; exact hl)
  rw [Opt.intL_at] at hc
  have HM : Hid (Opt.mapL m l = Opt.xl (m.getD (l / 2) 0) (l % 2)) := Lib.hid rfl
  have hq : (l : Int) / 2 = ((l / 2 : Nat) : Int) := by omega
  have hr : (l : Int) % 2 = ((l % 2 : Nat) : Int) := by omega
  have HX := Lib.hid (i64_xor_nat (m.getD (l / 2) 0) (l % 2) (by omega) (Nat.mod_lt _ (by omega)))
  clear hm hn
  generalize m.getD (l / 2) 0 = x at *
  generalize l / 2 = q at *
  generalize l % 2 = r at *
  go_enter Try.func93, Try.ntmps93
  go_wp2
  go_ret
  exact ⟨ret_int (by rw [HM.out]; exact HX.out), rfl⟩

theorem BRow.set {w : World} {g : Nat} {u : List Bool} (h : BRow w g u) {j : Nat} (hj : j < u.length) (b : Bool) : BRow (w.setCell ⟨g, j, none⟩ (.bool b)) g (u.set j b) := by
  obtain ⟨cs, hr, hf⟩ := h
  refine ⟨_, hr.set j _, ?_, fun k hk => ?_⟩
  · rw [Array.size_setIfInBounds, List.length_set, hf.1]
  · rw [List.length_set] at hk
    by_cases e : j = k
    · subst e
      simp [hf.1, hj]
    · rw [Array.getElem?_setIfInBounds_ne e, hf.2 k hk]
      simp [List.getD_eq_getElem?_getD, List.getElem?_set_ne e]
theorem BRow.cell {w : World} {g : Nat} {u : List Bool} (h : BRow w g u) {j : Nat} (hj : j < u.length) : w.cell? ⟨g, j, none⟩ = some (.bool (u.getD j false)) := by
  obtain ⟨cs, hr, hf⟩ := h
  rw [hr.cell, hf.2 j hj]
theorem BRow.frozen {w : World} {g : Nat} {u : List Bool} (h : BRow w g u) (j : Nat) : w.frozen? ⟨g, j, none⟩ = false := by
  obtain ⟨cs, hr, hf⟩ := h
  exact hr.frozen j
theorem BRow.grown {w w' : World} {row : Option Nat} {g : Nat} {u : List Bool} (h : BRow w g u) (hb : w.grownBy w' row) (hg : some g ≠ row) : BRow w' g u := by
  obtain ⟨cs, hr, hf⟩ := h
  exact ⟨cs, hr.grown hb hg, hf⟩
theorem made_brow (w : World) (n : Nat) : BRow (w.alloc (.cells (madeCells #[.bool false] n) 4)) w.heap.size (List.replicate n false) :=
  ⟨_, heap_alloc_new w _, by rw [size_madeCells, List.length_replicate], fun j hj => by
    rw [List.length_replicate] at hj
    rw [List.getD_eq_getElem?_getD, List.getElem?_replicate, if_pos hj]
    simp [madeCells, hj, Nat.mod_one]⟩

theorem marks_len (f n : Nat) (p : Nat → Bool) : (Opt.marks f n p).length = n := by simp [Opt.marks]
theorem marks_ext {f n : Nat} {p q : Nat → Bool} (h : ∀ v, f ≤ v → v < f + n → p v = q v) : Opt.marks f n p = Opt.marks f n q := by
  unfold Opt.marks
  refine List.map_congr_left (fun t ht => ?_)
  have := List.mem_range.mp ht
  exact h _ (by omega) (by omega)
theorem marks_set {f n x : Nat} {p q : Nat → Bool} (h1 : f ≤ x) (h2 : x < f + n) (h : ∀ v, f ≤ v → q v = (p v || x == v)) : Opt.marks f n q = (Opt.marks f n p).set (x - f) true := by
  refine List.ext_getElem (by simp [Opt.marks]) (fun t ht1 ht2 => ?_)
  have ht : t < n := by simpa [Opt.marks] using ht1
  rw [List.getElem_set]
  simp only [Opt.marks, List.getElem_map, List.getElem_range]
  rw [h _ (by omega)]
  by_cases e : x - f = t
  · rw [if_pos e]
    have : x = f + t := by omega
    subst this
    simp
  · rw [if_neg e]
    have : (x == f + t) = false := by simp; omega
    rw [this, Bool.or_false]
theorem marks_none (f n : Nat) : Opt.marks f n (fun _ => false) = List.replicate n false := by
  unfold Opt.marks
  rw [List.map_const', List.length_range]
end Go.Proofs.Ythpiddpkcmecfaa
/- The contract of the model's marks of the gates that are used. -/
namespace Go.Proofs.Ythpiddpkcmecfaa
open Go.RowKit Go.Deep

def UsedOut (w : World) (gl : Nat) (u : List Bool) (e : Ending) (w' : World) : Prop := ∃ g : Nat, e = .returned (.slice (some ⟨g, 0, none⟩) gl gl) ∧ w.heap.size ≤ g ∧ BRow w' g u ∧ Below w.heap.size w w'
theorem intL_app (a b : List Nat) : Opt.intL (a ++ b) = Opt.intL a ++ Opt.intL b := by simp [Opt.intL]
theorem any_take_snoc {xs : List Nat} {k v : Nat} (hk : k < xs.length) : ((xs.take (k + 1)).any fun r => r / 2 == v) = (((xs.take k).any fun r => r / 2 == v) || xs.getD k 0 / 2 == v) := by
  rw [List.take_succ_eq_append_getElem hk, List.any_append]
  simp [List.getD_eq_getElem?_getD, hk]

set_option maxRecDepth 100000 in
set_option maxHeartbeats 4000000 in
theorem l3Used_any (i : Int) (nA gA oA : Option Addr) (nc gc oc nl gl ol f : Nat) (c : Opt.C) (w : World) (hc : CircAt w w.heap.size nA gA oA (Opt.intL c.ns) (Opt.intG c.gs) (Opt.intL c.os)) (hF : Fits i f nl gl ol c) :
    Calls Try.prog 91 #[.agg #[.int .i64 i, .slice nA nl nc, .slice gA gl gc, .slice oA ol oc]] w (UsedOut w gl (Opt.used f c.gs c.roots)) := by
  have h0 := hF.i0
  have h1 := hF.i4
  have h2 := hF.n3
  have h3 := hF.g14
  have h4 := hF.o3
  have hf1 : 1 ≤ f := by have := hF.hf; omega
  have hf8 : f ≤ 8 := by have := hF.hf; omega
  have HF := Lib.hid hF
  have HC := Lib.hid hc
  clear hc hF
  obtain ⟨i0, hi0, hz0, hz1, hz2⟩ := info_parts Try.info3
  have HI0 := Lib.hid hi0
  have HZ0 := Lib.hid hz0
  have HZ1 := Lib.hid hz1
  have HZ2 := Lib.hid hz2
  clear hi0 hz0 hz1 hz2
  have hw0 : Below w.heap.size w (w.alloc (.cells #[.int .i64 i, .slice nA nl nc, .slice gA gl gc, .slice oA ol oc] 26)) := (Below.refl _ _).alloc (Nat.le_refl _) _
  have hb0 := Boxed.new w i nA gA oA nl nc gl gc ol oc 26
  have hsz0 : (w.alloc (.cells #[.int .i64 i, .slice nA nl nc, .slice gA gl gc, .slice oA ol oc] 26)).heap.size = w.heap.size + 1 := by simp
  have HW0 := Lib.hid hw0
  have HB0 := Lib.hid hb0
  have HSZ := Lib.hid hsz0
  clear hw0 hb0 hsz0
  have hmk := fun W => run_make_row' (P := Try.prog) 33 4 (.bool false) 1 Try.underlying33 Try.infoB rfl .i64 .i64 gl (by omega) (by omega) W
  have HMK := Lib.hid hmk
  clear hmk
  go_enter Try.func91, Try.ntmps91
  go_wp2_with fail
  refine (l1First_any _ _ _ _ _ _ _ _ _ _ _ (by omega) (by omega) (by omega)).mono ?_
  rintro e w1 ⟨rfl, hb1⟩
  rw [HF.out.hf]
  generalize w.alloc (.cells #[.int .i64 i, .slice nA nl nc, .slice gA gl gc, .slice oA ol oc] 26) = w0 at *
  rw [HSZ.out] at hb1
  have HL1 := Lib.hid hb1
  have q2 := (HB0.out.below hb1 (by omega)).c2
  have hz1 : w.heap.size + 1 ≤ w1.heap.size := by have := hb1.size; rw [HSZ.out] at this; exact this
  clear hb1
  have hmk := HMK.out w1
  go_wp2
  clear hmk q2
  have HL2 := Lib.hid (HL1.out.alloc hz1 (.cells (madeCells #[.bool false] gl) 4))
  have HU2 := Lib.hid (made_brow w1 gl)
  generalize w1.alloc (.cells (madeCells #[.bool false] gl) 4) = w2 at *
  generalize w1.heap.size = g at *
  clear HL1 HMK
  have q1 := (HB0.out.below HL2.out (by omega)).c1
  have q3 := (HB0.out.below HL2.out (by omega)).c3
  have hz2 : w.heap.size + 1 ≤ w2.heap.size := by have := HL2.out.size; rw [HSZ.out] at this; exact this
  have hgz : g < w2.heap.size := HU2.out.lt
  have hC2 : CircAt w2 w2.heap.size nA gA oA (Opt.intL c.ns) (Opt.intG c.gs) (Opt.intL c.os) := ((HC.out.below HW0.out).below (HL2.out.mono (by omega))).mono (by omega)
  have HC2 := Lib.hid hC2
  have HNL : Hid ((Opt.intL c.ns).length = nl) := Lib.hid (by rw [Opt.intL_len, HF.out.ln])
  have HOL : Hid ((Opt.intL c.os).length = ol) := Lib.hid (by rw [Opt.intL_len, HF.out.lo])
  clear hC2
  have HOR := Lib.hid (World.ownsRow_lit (base := w2.heap.size) (e := 3) (size := 1) w2 #[] 0 (Nat.le_refl _) (by simp [maxLen]) (by simp))
  have ne1 : some w.heap.size ≠ some w2.heap.size := by intro h; injection h; omega
  go_region_held3 (fun w' => w'.cell? ⟨w.heap.size, 1, none⟩ = some (.slice nA nl nc) ∧ w'.cell? ⟨w.heap.size, 3, none⟩ = some (.slice oA ol oc))
    (first | go_keep | (exact ⟨hgr1.cell (by simp [*]) ne1, hgr1.cell (by simp [*]) ne1⟩) | (exact ⟨hgr2.cell (by simp [*]) ne2, hgr2.cell (by simp [*]) ne2⟩))
    (first
      | (refine step_append_src _ (by rfl) (.tmp 16) (.tmp 18) 23 (by rfl) w2.heap.size 3 i0 _ 1 8 Try.underlying23 HI0.out HZ0.out HZ1.out HZ2.out rfl (by omega) w2.heap.size 0 0 [] (by rfl) (HOR.out.drew) oA ol oc (ivs (Opt.intL c.os)) (by rfl) (by rw [ivs_len, HOL.out]; omega) ?_ (ivs_one _) (by simp [maxLen]; omega) (by omega) (by simp) (w2.heap.size + 1) (by simp) ?_; (exact ints_src ((HC2.out.outs.below ((Below.refl _ _).alloc (Nat.le_refl _) _).drew))); intro g1 cap1 w6 hown1 hgr1 hat1; have ne2 : some w.heap.size ≠ some g1 := (by (intro h; injection h; omega)); have hbl1 : Below w2.heap.size w2 w6 := Below.grown (((Below.refl w2.heap.size w2).alloc (Nat.le_refl _) _).drew) hgr1 (by simp) (fun k hk => by injection hk; omega))
      | (refine step_append_src _ (by rfl) (.tmp 19) (.tmp 21) 23 (by rfl) w2.heap.size 3 i0 _ 1 8 Try.underlying23 HI0.out HZ0.out HZ1.out HZ2.out rfl (by omega) g1 cap1 (0 + ol) ([] ++ ivs (Opt.intL c.os)) (by rfl) hown1 nA nl nc (ivs (Opt.intL c.ns)) (by rfl) (by rw [ivs_len, HNL.out]; omega) ?_ (ivs_one _) (by simp [maxLen]; omega) (by omega) hbl1.size w6.heap.size rfl ?_; (exact ints_src (HC2.out.next.below hbl1)); intro g2 cap2 w7 hown2 hgr2 hat2))
  simp only [Nat.zero_add]
  have hbl2 : Below w2.heap.size w2 w7 := hbl1.grown hgr2 hbl1.size (fun k hk => by injection hk; omega)
  have hg2 : w2.heap.size ≤ g2 := (hown2.lt g2 rfl).1
  have hroots : IntsAt w7 w7.heap.size (some ⟨g2, 0, none⟩) (Opt.intL c.roots) := by
    unfold Opt.C.roots
    rw [intL_app]
    exact own_ints (n := ol + nl) (base := w2.heap.size) (cap := cap2) (by simpa [ivs] using hown2) (by rw [List.length_append, HOL.out, HNL.out])
  have HRT := Lib.hid hroots
  have HL7 := Lib.hid (HL2.out.trans (hbl2.mono hz2))
  have HU7 := Lib.hid (HU2.out.below hbl2 hgz)
  have HXL : Hid (c.roots.length = ol + nl) := Lib.hid (by unfold Opt.C.roots; rw [List.length_append, HF.out.lo, HF.out.ln])
  have HXB : Hid (∀ k, k < ol + nl → c.roots.getD k 0 / 2 < f + gl) := Lib.hid (fun k hk => by
    have hk' : k < c.roots.length := by rw [HXL.out]; exact hk
    have := HF.out.ok.root (c.roots.getD k 0) (by rw [List.getD_eq_getElem?_getD, List.getElem?_eq_getElem hk']; exact List.getElem_mem hk')
    rwa [HF.out.lg] at this)
  clear hbl1 hbl2 hroots hown1 hown2 hgr1 hgr2 hat1 hat2 ne1 ne2 HOR HC2 HU2 HL2 q1 q3 HNL HOL
  generalize hxs : c.roots = xs at *
  have HXS := Lib.hid hxs
  clear hxs
  generalize hn : ol + nl = n at *
  have hn6 : n ≤ 6 := by omega
  clear hn
  go_wp2
  go_loopw [6] (fun iv wr => ∃ (k : Nat), k ≤ n ∧ iv = .int .i64 k ∧ Hid (BRow wr g (Opt.marks f gl (fun v => (xs.take k).any fun r => r / 2 == v))) ∧ Hid (Only (some g) w7 wr)) (fun iv _ => n - (intOf iv).toNat)
  case atStart => exact ⟨0, Nat.zero_le _, rfl, Lib.hid (by have h := marks_none f gl; simp only [List.take_zero, List.any_nil]; rw [h]; exact HU7.out), Lib.hid (Only.refl _ _)⟩
  case round =>
    obtain ⟨k, hk, rfl, HU, HO⟩ := hrel
    by_cases hlt : k < n
    · have hkx : k < xs.length := by rw [HXL.out]; exact hlt
      obtain ⟨b, off, hbo, hbl, hcell⟩ := HRT.out k (by rw [Opt.intL_len]; exact hkx)
      injection hbo with hbo
      injection hbo with hb1 hb2
      subst hb1 hb2
      rw [Nat.zero_add, Opt.intL_at] at hcell
      rw [← World.cell?_of_block (a := ⟨g2, k, none⟩) (HO.out.grown.block g2 hbl (by intro e; injection e; omega))] at hcell
      have HS : Hid (∀ v, f ≤ v → ((xs.take (k + 1)).any fun r => r / 2 == v) = (((xs.take k).any fun r => r / 2 == v) || xs.getD k 0 / 2 == v)) := Lib.hid (fun v _ => any_take_snoc hkx)
      have hvb := HXB.out k hlt
      clear hkx
      generalize xs.getD k 0 = v at *
      by_cases hfv : f ≤ v / 2
      · obtain ⟨d, hd⟩ : ∃ d, v / 2 = f + d := ⟨v / 2 - f, by omega⟩
        have hd' : (v : Int) / 2 = (f : Int) + (d : Int) := by omega
        have hdl : d < gl := by omega
        have HN := Lib.hid (HU.out.set (j := d) (by rw [marks_len]; exact hdl) true)
        have HM : Hid (Opt.marks f gl (fun v => (xs.take (k + 1)).any fun r => r / 2 == v) = (Opt.marks f gl (fun v => (xs.take k).any fun r => r / 2 == v)).set d true) := Lib.hid (by
          have := marks_set (f := f) (n := gl) (x := v / 2) hfv hvb HS.out
          rw [this, hd, Nat.add_sub_cancel_left])
        have HO2 := Lib.hid (HO.out.set d (.bool true))
        have c0 := HU.out.cell (j := d) (by rw [marks_len]; exact hdl)
        have e0 := HU.out.frozen d
        have t1 : (0 : Int) ≤ (d : Int) := by omega
        have t2 : (d : Int) < (gl : Int) := by omega
        have t3 : (f : Int) ≤ (f : Int) + (d : Int) := by omega
        clear hd hfv HS hvb
        go_wp2
        go_roundw
        case rel => exact ⟨k + 1, by omega, by go_num, Lib.hid (by rw [HM.out]; exact HN.out), HO2⟩
        case measure => simp [intOf]; omega
      · have HM : Hid (Opt.marks f gl (fun v => (xs.take (k + 1)).any fun r => r / 2 == v) = Opt.marks f gl (fun v => (xs.take k).any fun r => r / 2 == v)) := Lib.hid (marks_ext (fun u h1 h2 => by
          have e : (v / 2 == u) = false := by simp; omega
          show ((xs.take (k + 1)).any fun r => r / 2 == u) = _
          rw [HS.out u h1, e, Bool.or_false]))
        have hq : (v : Int) / 2 = ((v / 2 : Nat) : Int) := by omega
        have t3 : ((v / 2 : Nat) : Int) < (f : Int) := by omega
        clear HS hvb
        generalize v / 2 = q at *
        go_wp2
        go_roundw
        case rel => exact ⟨k + 1, by omega, by go_num, Lib.hid (by rw [HM.out]; exact HU.out), HO⟩
        case measure => simp [intOf]; omega
    · obtain rfl : n = k := by omega
      have hz7 : w.heap.size + 1 ≤ w7.heap.size := by have := HL7.out.size; rw [HSZ.out] at this; exact this
      have HL8 := Lib.hid (HL7.out.trans (HO.out.below (B := w.heap.size + 1) (fun _ e => by injection e; omega) hz7))
      have HK8 : Hid (Opt.Mk f c.gs xs (gl - gl) (fun v => (xs.take n).any fun r => r / 2 == v)) := Lib.hid (by
        rw [Nat.sub_self]
        exact Opt.Mk.start (fun v _ => by rw [List.take_of_length_le (by rw [HXL.out]; exact Nat.le_refl _)]))
      have q2 := (HB0.out.below HL8.out (by omega)).c2
      go_wp2
      clear q2 HO HL7 HU7 HRT HXB
      go_loopw [7] (fun iv wr => ∃ (j : Nat) (z : Int) (p : Nat → Bool), j ≤ gl ∧ iv = .int .i64 z ∧ Hid (z = (j : Int) - 1) ∧ Hid (Opt.Mk f c.gs xs (gl - j) p) ∧ Hid (BRow wr g (Opt.marks f gl p)) ∧ Hid (Below (w.heap.size + 1) w0 wr)) (fun iv _ => (intOf iv + 1).toNat)
      case atStart => exact ⟨gl, _, _, Nat.le_refl _, rfl, Lib.hid (by omega), HK8, HU, HL8⟩
      case round =>
        clear HK8 HU HL8
        obtain ⟨j, z, p, hj, rfl, HZ, HK, HU, HL⟩ := hrel
        cases j with
        | zero =>
          obtain rfl : z = -1 := by have := HZ.out; omega
          have HE : Hid (Opt.marks f gl p = Opt.used f c.gs xs) := Lib.hid (by have h := HK.out; rw [Nat.sub_zero, ← HF.out.lg] at h; have := h.use HF.out.ok.ord; rwa [HF.out.lg] at this)
          go_wp2
          go_ret
          exact ⟨g, rfl, by omega, by rw [← HE.out]; exact HU.out, HW0.out.trans (HL.out.mono (by omega))⟩
        | succ j =>
          obtain rfl : z = (j : Int) := by have := HZ.out; omega
          clear HZ
          have hjl : j < c.gs.length := by rw [HF.out.lg]; omega
          have hX := HB0.out.below HL.out (by omega)
          have hC : CircAt wr w.heap.size nA gA oA (Opt.intL c.ns) (Opt.intG c.gs) (Opt.intL c.os) := (HC.out.below HW0.out).below (HL.out.mono (by omega))
          obtain ⟨b, off, rfl, hbl, hcA, hcB⟩ := hC.gates j (by rw [Opt.intG_len]; exact hjl)
          rw [Opt.intG_at] at hcA hcB
          obtain ⟨oA1, oB1⟩ := HF.out.ok.ord j hjl
          have HST := Lib.hid (fun p' hp' => HK.out.step (p' := p') HF.out.ok.ord (i := j) (by rw [HF.out.lg]; omega) hp')
          have q2 := hX.c2
          have hz8 : w.heap.size + 1 ≤ wr.heap.size := by have := HL.out.size; rw [HSZ.out] at this; exact this
          have hgz8 := HU.out.lt
          clear hX hC hjl HK
          generalize (Opt.at_ c.gs j).1 = va at *
          generalize (Opt.at_ c.gs j).2 = vb at *
          have k0 : (0 : Int) ≤ (j : Int) := by omega
          have k1 : (j : Int) < (gl : Int) := by omega
          have hqa : (va : Int) / 2 = ((va / 2 : Nat) : Int) := by omega
          have hqb : (vb : Int) / 2 = ((vb / 2 : Nat) : Int) := by omega
          have hta : (va : Int).tdiv 2 = ((va / 2 : Nat) : Int) := by rw [Int.tdiv_eq_ediv_of_nonneg (by omega)]; omega
          have htb : (vb : Int).tdiv 2 = ((vb / 2 : Nat) : Int) := by rw [Int.tdiv_eq_ediv_of_nonneg (by omega)]; omega
          have hua : IntKind.i64.wrap ((va / 2 : Nat) : Int) = ((va / 2 : Nat) : Int) := IntWalk.i64_in _ (by omega)
          have hub : IntKind.i64.wrap ((vb / 2 : Nat) : Int) = ((vb / 2 : Nat) : Int) := IntWalk.i64_in _ (by omega)
          generalize va / 2 = qa at *
          generalize vb / 2 = qb at *
          go_wp2
          go_region_held3 (fun w' => w'.cell? ⟨w.heap.size, 2, none⟩ = some (.slice (some ⟨b, off, none⟩) gl gc) ∧ w'.cell? ⟨b, off + j * 2, none⟩ = some (.int .i64 va) ∧ w'.cell? ⟨b, off + j * 2 + 1, none⟩ = some (.int .i64 vb)) (go_keep) (fail)
          clear hta htb hua hub hqa hqb q2 hcA hcB k0 k1
          rename_i hHeld
          clear hHeld
          have HU9 : Hid (BRow (wr.alloc (.cells #[.int .i64 qa, .int .i64 qb] 3)).drew g (Opt.marks f gl p)) := Lib.hid (HU.out.below ((Below.refl wr.heap.size wr).alloc (Nat.le_refl _) (.cells #[.int .i64 qa, .int .i64 qb] 3)).drew hgz8)
          have HL9 := Lib.hid ((HL.out.alloc hz8 (.cells #[.int .i64 qa, .int .i64 qb] 3)).drew)
          have HP9 : Hid (Row (wr.alloc (.cells #[.int .i64 qa, .int .i64 qb] 3)).drew wr.heap.size 3 #[.int .i64 qa, .int .i64 qb]) := Lib.hid (heap_alloc_new wr _)
          have hz9 : wr.heap.size < (wr.alloc (.cells #[.int .i64 qa, .int .i64 qb] 3)).drew.heap.size := HP9.out.lt
          clear HU HL
          generalize (wr.alloc (.cells #[.int .i64 qa, .int .i64 qb] 3)).drew = w9 at *
          generalize wr.heap.size = zz at *
          go_wp2
          go_loopw [9] (fun iv wx => ∃ (kk : Nat) (p' : Nat → Bool), kk ≤ 2 ∧ iv = .int .i64 kk ∧ Hid (∀ v, f ≤ v → p' v = (p v || (p (f + j) && (([qa, qb] : List Nat).take kk).any fun x => x == v))) ∧ Hid (BRow wx g (Opt.marks f gl p')) ∧ Hid (Only (some g) w9 wx)) (fun iv _ => 2 - (intOf iv).toNat)
          case atStart => exact ⟨0, p, by omega, rfl, Lib.hid (fun v _ => by simp), HU9, Lib.hid (Only.refl _ _)⟩
          case round =>
            clear HU9
            obtain ⟨kk, p', hkk, rfl, HP, HU, HO⟩ := hrel
            by_cases hlt2 : kk < 2
            · have hrow := HO.out.row HP9.out (by intro e; injection e; omega)
              have hcq : wr.cell? ⟨zz, kk, none⟩ = some (.int .i64 (([qa, qb] : List Nat).getD kk 0 : Nat)) := by
                rw [hrow.cell]
                match kk, hlt2 with
                | 0, _ => rfl
                | 1, _ => rfl
              have hqb : ([qa, qb] : List Nat).getD kk 0 < f + j := by
                match kk, hlt2 with
                | 0, _ => exact oA1
                | 1, _ => exact oB1
              have HT : Hid (∀ v, ((([qa, qb] : List Nat).take (kk + 1)).any fun x => x == v) = (((([qa, qb] : List Nat).take kk).any fun x => x == v) || ([qa, qb] : List Nat).getD kk 0 == v)) := Lib.hid (fun v => by
                match kk, hlt2 with
                | 0, _ => simp
                | 1, _ => simp)
              have hpj : p' (f + j) = p (f + j) := by
                rw [HP.out _ (by omega)]
                have : ((([qa, qb] : List Nat).take kk).any fun x => x == f + j) = false := by
                  match kk, hlt2 with
                  | 0, _ => simp
                  | 1, _ => simp; omega
                rw [this, Bool.and_false, Bool.or_false]
              have cu := HU.out.cell (j := j) (by rw [marks_len]; omega)
              rw [Opt.marks_get p' (by omega), hpj] at cu
              clear hrow hpj
              generalize ([qa, qb] : List Nat).getD kk 0 = q at *
              have k0 : (0 : Int) ≤ (j : Int) := by omega
              have k1 : (j : Int) < (gl : Int) := by omega
              cases hpv : p (f + j) with
              | false =>
                rw [hpv] at cu HP
                clear hpv
                go_wp2
                go_roundw
                case rel => exact ⟨kk + 1, p', by omega, by go_num, Lib.hid (fun v hv => by rw [HP.out v hv]; simp), HU, HO⟩
                case measure => simp [intOf]; omega
              | true =>
                rw [hpv] at cu HP
                clear hpv
                by_cases hfq : f ≤ q
                · obtain ⟨d, hd⟩ : ∃ d, q = f + d := ⟨q - f, by omega⟩
                  subst hd
                  have hdl : d < gl := by omega
                  have HN := Lib.hid (HU.out.set (j := d) (by rw [marks_len]; exact hdl) true)
                  have HM : Hid (Opt.marks f gl (fun v => p' v || f + d == v) = (Opt.marks f gl p').set d true) := Lib.hid (by
                    have := marks_set (f := f) (n := gl) (x := f + d) (p := p') (q := fun v => p' v || f + d == v) (by omega) (by omega) (fun v _ => rfl)
                    rw [this, Nat.add_sub_cancel_left])
                  have HO2 := Lib.hid (HO.out.set d (.bool true))
                  have c0 := HU.out.cell (j := d) (by rw [marks_len]; exact hdl)
                  have e0 := HU.out.frozen d
                  have hci : ((f + d : Nat) : Int) = (f : Int) + (d : Int) := by omega
                  rw [hci] at hcq
                  have t3 : (f : Int) ≤ (f : Int) + (d : Int) := by omega
                  have t1 : (0 : Int) ≤ (d : Int) := by omega
                  have t2 : (d : Int) < (gl : Int) := by omega
                  clear hci
                  go_wp2
                  go_roundw
                  case rel => exact ⟨kk + 1, fun v => p' v || f + d == v, by omega, by go_num, Lib.hid (fun v hv => by show (p' v || f + d == v) = _; rw [HP.out v hv, HT.out v]; simp [Bool.or_assoc]), Lib.hid (by rw [HM.out]; exact HN.out), HO2⟩
                  case measure => simp [intOf]; omega
                · have t3 : (q : Int) < (f : Int) := by omega
                  go_wp2
                  go_roundw
                  case rel => exact ⟨kk + 1, p', by omega, by go_num, Lib.hid (fun v hv => by
                    have e : (q == v) = false := by simp; omega
                    rw [HP.out v hv, HT.out v, e, Bool.or_false]), HU, HO⟩
                  case measure => simp [intOf]; omega
            · obtain rfl : kk = 2 := by omega
              have HK2 := HST.out p' (fun v hv => by rw [HP.out v hv]; simp)
              have HKK : Hid (Opt.Mk f c.gs xs (gl - j) p') := Lib.hid (by rw [show gl - j = gl - (j + 1) + 1 by omega]; exact HK2)
              have HLX := Lib.hid (HL9.out.trans (HO.out.below (B := w.heap.size + 1) (fun _ e => by injection e; omega) (by omega)))
              clear HK2
              go_wp2
              go_roundw
              case rel => first | exact ⟨j, (j : Int) - 1, p', by omega, rfl, Lib.hid rfl, HKK, HU, HLX⟩ | ((repeat apply Exists.intro); exact ⟨⟨j, (j : Int) - 1, p', by omega, rfl, Lib.hid rfl, HKK, HU, HLX⟩, rfl⟩)
              case measure => simp [intOf]
end Go.Proofs.Ythpiddpkcmecfaa
