/- The contract of one pass of rebuilding. -/
import Derived.Test.YthpiddpkcmecfaaT6
import Derived.OwnWalk
namespace Go.Proofs.Ythpiddpkcmecfaa
open Go.RowKit Go.Deep Go.Maps Go.WideMaps
set_option maxRecDepth 100000

theorem norm_sm {f : Nat} {x : List Opt.G} (h : Opt.Norm f x) (hb : f + x.length ≤ 1000) : ∀ g, g ∈ x → Sm g := fun g hg => by
  obtain ⟨j, hj, rfl⟩ := List.mem_iff_getElem.mp hg
  have e : Opt.at_ x j = x[j] := by simp [Opt.at_, List.getD_eq_getElem?_getD, hj]
  have h1 := h.ord j hj
  have h2 := h.ref j hj
  rw [e] at h1 h2
  exact ⟨by omega, by omega⟩
theorem good_lit {f k : Nat} {gs : List (Opt.G × Bool)} (hk : k ≤ gs.length) (h : Opt.Good f k (Opt.built true f (gs.take k))) (hb : f + gs.length ≤ 1000) : LitB (nm true f gs k) := fun v => by
  by_cases hv : v < f + k
  · rw [nm_get true hk hv]
    have h1 := h.var v hv
    have h2 := h.le
    omega
  · have : (nm true f gs k).getD v 0 = 0 := by
      unfold nm
      rw [List.getD_eq_getElem?_getD, List.getElem?_append_right (by rw [built_len true k hk]; omega), List.getElem?_replicate]
      split <;> rfl
    rw [this]
    omega

/-- A rebuilt circuit in memory: lists of the call's own. -/
structure Own (w : World) (B g1 g3 : Nat) (vG : Value) (c : Opt.C) : Prop where
  next : IRow w g1 (Opt.intL c.ns)
  gates : w.ownsRow B 46 2 vG c.gs.length (gvs (Opt.intG c.gs))
  outs : IRow w g3 (Opt.intL c.os)
  b1 : B ≤ g1
  b3 : g1 < g3
def RebOut (w : World) (i : Int) (nl ol : Nat) (c : Opt.C) (e : Ending) (w' : World) : Prop :=
  ∃ (g1 g3 : Nat) (vG : Value), e = .returned (.agg #[.int .i64 i, .slice (some ⟨g1, 0, none⟩) nl nl, vG, .slice (some ⟨g3, 0, none⟩) ol ol]) ∧ Own w' w.heap.size g1 g3 vG c ∧ Below w.heap.size w w'

/-- The gates with their marks. -/
def zipU (f : Nat) (c : Opt.C) : List (Opt.G × Bool) := c.gs.zip (Opt.used f c.gs c.roots)
theorem zipU_len (f : Nat) (c : Opt.C) : (zipU f c).length = c.gs.length := Opt.zip_len _ _ (Opt.used_len f c.gs c.roots)
theorem zipU_get (f : Nat) (c : Opt.C) {k : Nat} (hk : k < c.gs.length) : (zipU f c).getD k ((0, 0), false) = (Opt.at_ c.gs k, (Opt.used f c.gs c.roots).getD k false) := by
  have hu := Opt.used_len f c.gs c.roots
  simp [zipU, Opt.at_, List.getD_eq_getElem?_getD, hk, hu, List.getElem_zip]
theorem bld_zip (f : Nat) (c : Opt.C) : Opt.bld true f c = ⟨(Opt.built true f ((zipU f c).take c.gs.length)).1, c.os.map (Opt.mapL (nm true f (zipU f c) c.gs.length)), c.ns.map (Opt.mapL (nm true f (zipU f c) c.gs.length))⟩ := by
  have e : (zipU f c).take c.gs.length = zipU f c := List.take_of_length_le (by rw [zipU_len]; exact Nat.le_refl _)
  unfold Opt.bld nm
  rw [e, zipU_len, Nat.sub_self, List.replicate_zero, List.append_nil]
  rfl

theorem evens_set (f n v : Nat) (hv : v < f) : ((Opt.evens v) ++ List.replicate (f + n - v) 0).set v (2 * v) = Opt.evens (v + 1) ++ List.replicate (f + n - (v + 1)) 0 := by
  rw [show f + n - v = (f + n - (v + 1)) + 1 by omega, List.replicate_succ]
  have hl := Opt.evens_len v
  rw [List.set_append_right _ _ (by omega), hl, Nat.sub_self, List.set_cons_zero, Opt.evens_succ, List.append_assoc, List.singleton_append]

theorem made_lrow (w : World) (n : Nat) : LRow (w.alloc (.cells (madeCells #[.int .i64 0] n) 101)) w.heap.size (List.replicate n 0) :=
  ⟨_, heap_alloc_new w _, FilledI.made (by rw [Opt.intL_len, List.length_replicate]) (by rw [List.length_replicate]; exact Nat.le_refl _) (fun j hj => by
    rw [List.length_replicate] at hj
    rw [Opt.intL_at, List.getD_eq_getElem?_getD, List.getElem?_replicate]
    split <;> rfl)⟩
theorem Try.infoL : (Try.prog.info? 101).map (fun i => (i.zero, i.size, i.bytes)) = some (some (.int .i64 0), 1, 8) := by kernel_rfl

theorem getD_mem {xs : List Nat} {k : Nat} (hk : k < xs.length) : xs.getD k 0 ∈ xs := by
  rw [List.getD_eq_getElem?_getD, List.getElem?_eq_getElem hk]
  exact List.getElem_mem hk
theorem own_mono {w : World} {base base' e size n : Nat} {v : Value} {xs : List Value} (h : w.ownsRow base e size v n xs) (hb : base' ≤ base) : w.ownsRow base' e size v n xs := by
  refine ⟨h.1, ?_⟩
  rcases h.2 with h1 | ⟨g, cap, cur, h1, h2, h3⟩
  · exact .inl h1
  · exact .inr ⟨g, cap, cur, h1, by omega, h3⟩
theorem own_below {w w' : World} {base e size n : Nat} {v : Value} {xs : List Value} (h : w.ownsRow base e size v n xs) (hb : Below w.heap.size w w') : w'.ownsRow base e size v n xs :=
  h.kept (row := none) ⟨hb.os, hb.tape, hb.output, hb.size, fun k hk _ => hb.block k hk⟩ (by cases v.ownBlock <;> simp)
theorem LRow.ne {w : World} {g : Nat} {m : List Nat} {base n : Nat} {v : Value} {xs : List Value} (h : LRow w g m) (ho : w.ownsRow base 46 2 v n xs) : some g ≠ v.ownBlock := by
  obtain ⟨cs, hr, _⟩ := h
  exact own_ne88 hr ho
theorem Bld.grown {w w' : World} {base p b f N : Nat} {vG : Value} {x : List Opt.G} (h : Bld w base p b f vG x) (hg : w.grownBy w' (some N)) (h1 : p ≠ N) (h2 : b ≠ N) (h3 : vG.ownBlock ≠ some N) : Bld w' base p b f vG x :=
  ⟨h.row.grown hg (by intro e; injection e; omega), h.gates.kept hg (.inr h3), h.map.kept hg (by intro e; injection e; omega), h.bp, h.pb, Nat.le_trans h.sz hg.size⟩
theorem gb_setN (w : World) (N j : Nat) (u : Value) : w.grownBy (w.setCell ⟨N, j, none⟩ u) (some N) := ((Only.refl (some N) w).set j u).grown

set_option maxHeartbeats 8000000 in
theorem rebuild_any (i : Int) (nA gA oA : Option Addr) (nc gc oc nl gl ol f : Nat) (c : Opt.C) (w : World) (hc : CircAt w w.heap.size nA gA oA (Opt.intL c.ns) (Opt.intG c.gs) (Opt.intL c.os)) (hF : Fits i f nl gl ol c) :
    Calls Try.prog 48 #[.agg #[.int .i64 i, .slice nA nl nc, .slice gA gl gc, .slice oA ol oc]] w (RebOut w i nl ol (Opt.bld true f c)) := by
  have h0 := hF.i0
  have h1 := hF.i4
  have h2 := hF.n3
  have h3 := hF.g14
  have h4 := hF.o3
  have hf1 : 1 ≤ f := by have := hF.hf; omega
  have hf8 : f ≤ 8 := by have := hF.hf; omega
  have HF := Lib.hid hF
  have HC := Lib.hid hc
  clear hc hF
  have hw0 : Below w.heap.size w ((w.alloc (.cells #[.int .i64 i, .slice nA nl nc, .slice gA gl gc, .slice oA ol oc] 26)).alloc (.cells #[.int .i64 0, .slice none 0 0, .slice none 0 0, .slice none 0 0] 26)) := ((Below.refl _ _).alloc (Nat.le_refl _) _).alloc (by simp) _
  have hb0 : Boxed ((w.alloc (.cells #[.int .i64 i, .slice nA nl nc, .slice gA gl gc, .slice oA ol oc] 26)).alloc (.cells #[.int .i64 0, .slice none 0 0, .slice none 0 0, .slice none 0 0] 26)) w.heap.size i nA gA oA nl nc gl gc ol oc := (Boxed.new w i nA gA oA nl nc gl gc ol oc _).below ((Below.refl _ _).alloc (Nat.le_refl _) _) (by simp)
  have hq0 : Row ((w.alloc (.cells #[.int .i64 i, .slice nA nl nc, .slice gA gl gc, .slice oA ol oc] 26)).alloc (.cells #[.int .i64 0, .slice none 0 0, .slice none 0 0, .slice none 0 0] 26)) (w.heap.size + 1) 26 #[.int .i64 0, .slice none 0 0, .slice none 0 0, .slice none 0 0] := by
    have := heap_alloc_new (w.alloc (.cells #[.int .i64 i, .slice nA nl nc, .slice gA gl gc, .slice oA ol oc] 26)) (.cells #[.int .i64 0, .slice none 0 0, .slice none 0 0, .slice none 0 0] 26)
    simpa [Row] using this
  have hsz0 : ((w.alloc (.cells #[.int .i64 i, .slice nA nl nc, .slice gA gl gc, .slice oA ol oc] 26)).alloc (.cells #[.int .i64 0, .slice none 0 0, .slice none 0 0, .slice none 0 0] 26)).heap.size = w.heap.size + 2 := by simp
  have HW0 := Lib.hid hw0
  have HB0 := Lib.hid hb0
  have HQ0 := Lib.hid hq0
  have HZ0 := Lib.hid hsz0
  clear hw0 hb0 hq0 hsz0
  have ec : ((f + gl : Nat) : Int) = (f : Int) + (gl : Int) := by omega
  have hmk := fun W => run_make_row' (P := Try.prog) 100 101 (.int .i64 0) 8 Try.underlying100 Try.infoL rfl .i64 .i64 (f + gl) (by omega) (by omega) W
  rw [ec] at hmk
  have EC := Lib.hid ec
  have HMK := Lib.hid hmk
  clear ec hmk
  go_enter Try.func48, Try.ntmps48
  go_wp2_with fail
  refine (firstGate_any _ _ _ _ _ _ _ _ _ _ _ (by omega) (by omega) (by omega)).mono ?_
  rintro e w1 ⟨rfl, hb1⟩
  rw [HF.out.hf]
  generalize (w.alloc (.cells #[.int .i64 i, .slice nA nl nc, .slice gA gl gc, .slice oA ol oc] 26)).alloc (.cells #[.int .i64 0, .slice none 0 0, .slice none 0 0, .slice none 0 0] 26) = w0 at *
  rw [HZ0.out] at hb1
  have HL1 := Lib.hid hb1
  have hB1 := HB0.out.below hb1 (by omega)
  have q0 := hB1.c0
  have q1 := hB1.c1
  have q2 := hB1.c2
  have q3 := hB1.c3
  clear hb1 hB1
  go_wp2_with fail
  have hz1 : w.heap.size ≤ w1.heap.size := by have := HL1.out.size; rw [HZ0.out] at this; omega
  refine (reached_any i nA gA oA nc gc oc nl gl ol f c _ (((HC.out.below HW0.out).below (HL1.out.mono (by omega))).mono hz1) HF.out).mono ?_
  rintro e w2 ⟨gR, rfl, hgR, hR2, hb2⟩
  clear q0 q1 q2 q3
  have hz1' : w.heap.size + 2 ≤ w1.heap.size := by have := HL1.out.size; rw [HZ0.out] at this; omega
  have HL2 := Lib.hid (HL1.out.trans (hb2.mono hz1'))
  have HR2 := Lib.hid hR2
  have hgR' : w.heap.size + 2 ≤ gR := by omega
  clear hb2 hR2 hgR hz1 hz1' HL1
  go_wp2_with fail
  refine (newBuilder_any f _).mono ?_
  rintro e w3 ⟨rfl, hB3, hb3⟩
  have hz2 : w.heap.size + 2 ≤ w2.heap.size := by have := HL2.out.size; rw [HZ0.out] at this; exact this
  have hgz2 := HR2.out.lt
  have HL3 := Lib.hid (HL2.out.trans (hb3.mono hz2))
  have HR3 := Lib.hid (HR2.out.below hb3 hgz2)
  have HB3 := Lib.hid hB3
  clear hb3 hB3 HL2 HR2
  generalize w2.heap.size = z2 at *
  clear w2
  have q2 := (HB0.out.below HL3.out (by omega)).c2
  have hmk := HMK.out w3
  go_wp2
  clear hmk q2
  have hz3 := HB3.out.sz
  have hgb : w3.grownBy (w3.alloc (.cells (madeCells #[.int .i64 0] (f + gl)) 101)) none := World.grownBy_alloc w3 _ _
  have HN4 := Lib.hid (made_lrow w3 (f + gl))
  have HL4 := Lib.hid (HL3.out.alloc (by omega) (.cells (madeCells #[.int .i64 0] (f + gl)) 101))
  have HR4 := Lib.hid (HR3.out.alloc (.cells (madeCells #[.int .i64 0] (f + gl)) 101))
  have HB4 := Lib.hid (HB3.out.below ((Below.refl w3.heap.size w3).alloc (Nat.le_refl _) (.cells (madeCells #[.int .i64 0] (f + gl)) 101)))
  clear HL3 HR3 HB3 hgb
  generalize w3.alloc (.cells (madeCells #[.int .i64 0] (f + gl)) 101) = w4 at *
  generalize w3.heap.size = N at *
  clear w3
  go_loopw [23] (fun iv wr => ∃ (v : Nat), v ≤ f ∧ iv = .int .i64 v ∧ Hid (LRow wr N (Opt.evens v ++ List.replicate (f + gl - v) 0)) ∧ Hid (Only (some N) w4 wr)) (fun iv _ => f - (intOf iv).toNat)
  case atStart => exact ⟨0, Nat.zero_le _, rfl, Lib.hid (by simpa [Opt.evens] using HN4.out), Lib.hid (Only.refl _ _)⟩
  case round =>
    obtain ⟨v, hv, rfl, HN, HO⟩ := hrel
    by_cases hlt : v < f
    · have hlen : (Opt.evens v ++ List.replicate (f + gl - v) 0).length = f + gl := by rw [List.length_append, Opt.evens_len, List.length_replicate]; omega
      have c0 := HN.out.cell (j := v) (by rw [hlen]; omega)
      have e0 := HN.out.frozen v
      have hn2 := HN.out.set (j := v) (by rw [hlen]; omega) (2 * v)
      rw [evens_set f gl v hlt] at hn2
      have HN2 := Lib.hid hn2
      clear hn2
      have HO2 := Lib.hid (HO.out.set v (.int .i64 ((2 * v : Nat) : Int)))
      have e2 : ((2 * v : Nat) : Int) = 2 * (v : Int) := by omega
      rw [e2] at HN2 HO2
      clear hlen e2
      go_wp2
      go_roundw
      case rel => exact ⟨v + 1, by omega, by go_num, HN2, HO2⟩
      case measure => simp [intOf]; omega
    · obtain rfl : f = v := by omega
      have hz4 : w.heap.size + 2 ≤ w4.heap.size := by have := HL4.out.size; rw [HZ0.out] at this; exact this
      have HL5 := Lib.hid (HL4.out.trans (HO.out.below (B := w.heap.size + 2) (fun _ e => by injection e; omega) hz4))
      have HB5 := Lib.hid (HB4.out.grown HO.out.grown (by omega) (by omega) (by simp [Value.ownBlock]))
      have HR5 := Lib.hid (HO.out.row HR4.out (by intro e; injection e; omega))
      have HN5 : Hid (LRow wr N (nm true f (zipU f c) 0)) := Lib.hid (by rw [nm_zero, zipU_len, HF.out.lg]; have := HN.out; rwa [Nat.add_sub_cancel_left] at this)
      clear HL4 HB4 HR4 HN4 HN HO hz4
      have q2 := (HB0.out.below HL5.out (by omega)).c2
      go_wp2
      clear q2
      have HGood : Hid (∀ k, k ≤ gl → Opt.Good f k (Opt.built true f ((zipU f c).take k))) := Lib.hid (fun k hk => Opt.built_good (by omega) (zipU f c) (Opt.ordered_gOk HF.out.ok.ord _ (Opt.used_len _ _ _)) k (by rw [zipU_len, HF.out.lg]; exact hk))
      go_loopw [35] (fun iv wr => ∃ (k : Nat) (vG : Value), k ≤ gl ∧ iv = .int .i64 k ∧ Hid (LRow wr N (nm true f (zipU f c) k)) ∧ Hid (Bld wr (z2 + 2) (z2 + 1) z2 f vG (Opt.built true f ((zipU f c).take k)).1) ∧ Hid (Row wr gR 123 #[.int .u64 (Opt.reachW f c)]) ∧ Hid (Below (w.heap.size + 2) w0 wr)) (fun iv _ => gl - (intOf iv).toNat)
      case atStart => exact ⟨0, _, Nat.zero_le _, rfl, HN5, HB5, HR5, HL5⟩
      case round =>
        clear HN5 HB5 HR5 HL5
        obtain ⟨k, vG, hk, rfl, HN, HB, HR, HL⟩ := hrel
        by_cases hlt : k < gl
        · have hkl : k < c.gs.length := by rw [HF.out.lg]; exact hlt
          have hC : CircAt wr w.heap.size nA gA oA (Opt.intL c.ns) (Opt.intG c.gs) (Opt.intL c.os) := (HC.out.below HW0.out).below (HL.out.mono (by omega))
          obtain ⟨b, off, rfl, hbl, hcA, hcB⟩ := hC.gates k (by rw [Opt.intG_len]; exact hkl)
          rw [Opt.intG_at] at hcA hcB
          obtain ⟨oA1, oB1⟩ := HF.out.ok.ord k hkl
          have HU := Lib.hid (Opt.reachW_used HF.out.ok hkl)
          have hzu := zipU_get f c hkl
          have hU1 : ((zipU f c).getD k ((0, 0), false)).1.1 = (Opt.at_ c.gs k).1 := by rw [hzu]
          have hU2 : ((zipU f c).getD k ((0, 0), false)).1.2 = (Opt.at_ c.gs k).2 := by rw [hzu]
          have hU3 : ((zipU f c).getD k ((0, 0), false)).2 = (Opt.reachW f c).testBit (f + k) := by rw [hzu, HU.out]
          have HU1 := Lib.hid hU1
          have HU2 := Lib.hid hU2
          have HU3 := Lib.hid hU3
          clear hzu hU1 hU2 hU3 HU
          have hM := Opt.reachW_lt HF.out.ok (by rw [HF.out.lg]; omega)
          have HM := Lib.hid hM
          have HG := Lib.hid (HGood.out k (by omega))
          have hz5 : w.heap.size + 2 ≤ wr.heap.size := by have := HL.out.size; rw [HZ0.out] at this; exact this
          clear hC hM hkl
          have ej : ((f + k : Nat) : Int) = (f : Int) + (k : Int) := by omega
          have EJ := Lib.hid ej
          clear ej
          generalize (Opt.at_ c.gs k).1 = va at *
          generalize (Opt.at_ c.gs k).2 = vb at *
          have r0 := HR.out.cell 0
          simp at r0
          generalize Opt.reachW f c = M at *
          have hal : Below wr.heap.size wr (wr.alloc (.cells #[.int .i64 va, .int .i64 vb] 46)) := (Below.refl _ _).alloc (Nat.le_refl _) _
          have HN5 := Lib.hid (HN.out.below hal HN.out.lt)
          have HB5 := Lib.hid (HB.out.below hal)
          have HR5 := Lib.hid (HR.out.below hal HR.out.lt)
          have HL5 := Lib.hid (HL.out.trans (hal.mono hz5))
          have hz6 : Row (wr.alloc (.cells #[.int .i64 va, .int .i64 vb] 46)) wr.heap.size 46 #[.int .i64 va, .int .i64 vb] := heap_alloc_new wr _
          have HG6 := Lib.hid hz6
          have r5 := HR5.out.cell 0
          simp at r5
          have hown : ∀ z, wr.heap.size ≤ z → vG.ownBlock ≠ some z := fun z hz e => by have := (HB.out.gates.lt z e).2; omega
          have HOwn := Lib.hid hown
          clear hal hz6 hown
          cases hbit : M.testBit (f + k) with
          | false =>
            have HBit := Lib.hid hbit
            rw [hbit] at HU3
            clear hbit
            have hno := nm_no (f := f) (gs := zipU f c) true (k := k) (by rw [zipU_len, HF.out.lg]; exact hlt) HU3.out
            have HNo := Lib.hid hno
            clear hno
            go_wp2_with fail
            rw [← EJ.out]
            refine (has_any gR M (f + k) _ r5 (by omega) HM.out).mono ?_
            rintro e w' ⟨rfl, rfl⟩
            rw [HBit.out]
            go_wp2
            go_roundw
            case rel => exact ⟨k + 1, vG, by omega, by go_num, Lib.hid (by rw [HNo.out.1]; exact HN5.out), Lib.hid (by rw [HNo.out.2]; exact HB5.out), HR5, HL5⟩
            case measure => simp [intOf]; omega
          | true =>
            have HBit := Lib.hid hbit
            rw [hbit] at HU3
            clear hbit
            have hyes := nm_yes (f := f) (gs := zipU f c) (k := k) (by rw [zipU_len, HF.out.lg]; exact hlt) HU3.out (by rw [HU1.out]; exact oA1) (by rw [HU2.out]; exact oB1)
            rw [HU1.out, HU2.out] at hyes
            have HYes := Lib.hid hyes
            clear hyes
            have hLit := good_lit (f := f) (gs := zipU f c) (k := k) (by rw [zipU_len, HF.out.lg]; exact hk) HG.out (by rw [zipU_len, HF.out.lg]; omega)
            have hmlen := nm_len (f := f) (gs := zipU f c) true (k := k) (by rw [zipU_len, HF.out.lg]; exact hk)
            rw [zipU_len, HF.out.lg] at hmlen
            have hle := HG.out.le
            have hmap : ∀ l, l / 2 < f + k → Opt.mapL (nm true f (zipU f c) k) l < 1000 := fun l hl => by
              rw [nm_map true (by rw [zipU_len, HF.out.lg]; exact hk) hl]
              have h1 := HG.out.var _ hl
              have h2 := Opt.mapL_var (Opt.built true f ((zipU f c).take k)).2 l
              omega
            have hxa := hmap va oA1
            have hxb := hmap vb oB1
            have hba := hLit (va / 2)
            have hbb := hLit (vb / 2)
            have HDx := Lib.hid HG.out.norm.inj
            have HSx := Lib.hid (norm_sm HG.out.norm (by omega))
            have HML := Lib.hid hmlen
            clear hmap hLit HG hmlen
            have HM1 : Hid (IntsAt (wr.alloc (.cells #[.int .i64 va, .int .i64 vb] 46)).drew (wr.alloc (.cells #[.int .i64 va, .int .i64 vb] 46)).drew.heap.size (some ⟨N, 0, none⟩) (Opt.intL (nm true f (zipU f c) k))) := Lib.hid HN5.out.ints
            have HB6 : Hid (Bld (wr.alloc (.cells #[.int .i64 va, .int .i64 vb] 46)).drew (z2 + 2) (z2 + 1) z2 f vG (Opt.built true f ((zipU f c).take k)).1) := Lib.hid (HB5.out.drewN 1)
            have HN6 : Hid (LRow (wr.alloc (.cells #[.int .i64 va, .int .i64 vb] 46)).drew N (nm true f (zipU f c) k)) := Lib.hid HN5.out
            have HR6 : Hid (Row (wr.alloc (.cells #[.int .i64 va, .int .i64 vb] 46)).drew gR 123 #[.int .u64 M]) := Lib.hid HR5.out
            have HL6 := Lib.hid HL5.out.drew
            have HG7 : Hid (Row (wr.alloc (.cells #[.int .i64 va, .int .i64 vb] 46)).drew wr.heap.size 46 #[.int .i64 va, .int .i64 vb]) := Lib.hid HG6.out
            have hzN := HN.out.lt
            have hzB := HB.out.sz
            have hzR := HR.out.lt
            clear HN5 HB5 HR5 HL5 HN HB HR HL HG6
            go_wp2_with fail
            rw [← EJ.out]
            refine (has_any gR M (f + k) _ r5 (by omega) HM.out).mono ?_
            rintro e w' ⟨rfl, rfl⟩
            rw [HBit.out]
            clear r5 r0
            go_wp2
            have g0 := HG7.out.cell 0
            have g1 := HG7.out.cell 1
            simp at g0 g1
            generalize hxa' : Opt.mapL (nm true f (zipU f c) k) va = xa at *
            generalize hxb' : Opt.mapL (nm true f (zipU f c) k) vb = xb at *
            have HXA := Lib.hid hxa'
            have HXB := Lib.hid hxb'
            clear hxa' hxb'
            have s1 : IntKind.i64.wrap ((f : Int) + (k : Int)) = (f : Int) + (k : Int) := IntWalk.i64_in _ (by omega)
            have s2 : (0 : Int) ≤ (f : Int) + (k : Int) := by omega
            have s3 : ((f : Int) + (k : Int)).toNat = f + k := by omega
            have s4 : (f : Int) + (k : Int) < ((f + gl : Nat) : Int) := by omega
            have s5 : (f : Int) + (k : Int) < (f : Int) + (gl : Int) := by omega
            go_region_held3 (fun w' => w'.cell? ⟨wr.heap.size, 0, none⟩ = some (.int .i64 va) ∧ w'.cell? ⟨wr.heap.size, 1, none⟩ = some (.int .i64 vb)) (first | exact hS7 | exact hS8 | go_keep)
              (first
                | (go_at_call 88; (with_reducible refine (and_any xa xb (z2 + 2) (z2 + 1) z2 f vG _ _ HB6.out HDx.out HSx.out (by omega) (by omega) (by omega) (by omega)).mono ?_); rintro e w7 ⟨vG7, rfl, hB7, hb7⟩; have hg7 := hb7.row HG7.out (by omega) (by omega) (fun e => HOwn.out _ (Nat.le_refl _) e.symm); have hS7 : w7.cell? ⟨wr.heap.size, 0, none⟩ = some (.int .i64 va) ∧ w7.cell? ⟨wr.heap.size, 1, none⟩ = some (.int .i64 vb) := ⟨hg7.cell 0, hg7.cell 1⟩; have hN7 := HN6.out.buts hb7 HB6.out.gates (by omega) (by omega); have hR7 := hb7.row HR6.out (by omega) (by omega) (own_ne88 HR6.out HB6.out.gates); have hL7 := HL6.out.trans (hb7.below (B := w.heap.size + 2) (by omega) (by omega) (fun z e => by have := (HB6.out.gates.lt z e).1; omega) (by simp; omega)); have c7 := hN7.cell (j := f + k) (by rw [HML.out]; omega); have e7 := hN7.frozen (f + k); have HN8 := Lib.hid (hN7.set (j := f + k) (by rw [HML.out]; omega) (Opt.and3 f (Opt.built true f ((zipU f c).take k)).1 xa xb).2); have HB8 := Lib.hid (hB7.grown (gb_setN w7 N (f + k) (.int .i64 ((Opt.and3 f (Opt.built true f ((zipU f c).take k)).1 xa xb).2 : Nat))) (by omega) (by omega) (fun e => hN7.ne hB7.gates e.symm)); have HR8 := Lib.hid (hR7.far (p := ⟨N, f + k, none⟩) (by simp; omega) (.int .i64 ((Opt.and3 f (Opt.built true f ((zipU f c).take k)).1 xa xb).2 : Nat))); have HL8 := Lib.hid (hL7.setCell (p := ⟨N, f + k, none⟩) (by simp; omega) (.int .i64 ((Opt.and3 f (Opt.built true f ((zipU f c).take k)).1 xa xb).2 : Nat))); have hg8 := hg7.far (p := ⟨N, f + k, none⟩) (by simp; omega) (.int .i64 ((Opt.and3 f (Opt.built true f ((zipU f c).take k)).1 xa xb).2 : Nat)); have hS8 := And.intro (hg8.cell 0) (hg8.cell 1); clear hb7 hB7 hN7 hR7 hL7 hg7 hg8)
                | (go_at_call 89; (with_reducible refine (of_any _ _ _ va _ _ _ HM1.out HML.out (by omega) (by omega) hba).mono ?_); rintro e w' ⟨rfl, rfl⟩; rw [HXA.out])
                | (go_at_call 89; (with_reducible refine (of_any _ _ _ vb _ _ _ HM1.out HML.out (by omega) (by omega) hbb).mono ?_); rintro e w' ⟨rfl, rfl⟩; rw [HXB.out]))
            all_goals
              clear s1 s2 s3 s4 s5 hS7 hS8 c7 e7
              go_wp2
              go_roundw
              case rel => exact ⟨k + 1, vG7, by omega, by go_num, Lib.hid (by rw [HYes.out.1]; exact HN8.out), Lib.hid (by rw [HYes.out.2]; exact HB8.out), HR8, HL8⟩
              case measure => simp [intOf]; omega
        · obtain rfl : gl = k := by omega
          obtain ⟨GA, gcap, rfl⟩ := HB.out.slice
          have hmlen := nm_len (f := f) (gs := zipU f c) true (k := gl) (by rw [zipU_len, HF.out.lg]; exact hk)
          rw [zipU_len, HF.out.lg] at hmlen
          have HML := Lib.hid hmlen
          have HLit := Lib.hid (good_lit (f := f) (gs := zipU f c) (k := gl) (by rw [zipU_len, HF.out.lg]; exact hk) (HGood.out gl hk) (by rw [zipU_len, HF.out.lg]; omega))
          have HBZ := Lib.hid (bld_zip f c)
          rw [HF.out.lg] at HBZ
          have hz5 : w.heap.size + 2 ≤ wr.heap.size := by have := HL.out.size; rw [HZ0.out] at this; exact this
          have hX := HB0.out.below HL.out (by omega)
          have q0 := hX.c0
          have q1 := hX.c1
          have q3 := hX.c3
          have q4 := HB.out.row.cell 1
          simp at q4
          have hC : CircAt wr w.heap.size nA gA oA (Opt.intL c.ns) (Opt.intG c.gs) (Opt.intL c.os) := (HC.out.below HW0.out).below (HL.out.mono (by omega))
          have HN1 : Hid (IntsAt wr.drew wr.drew.heap.size nA (Opt.intL c.ns)) := Lib.hid (hC.next.mono (by show w.heap.size ≤ wr.heap.size; omega))
          have HO1 : Hid (IntsAt wr.drew wr.drew.heap.size oA (Opt.intL c.os)) := Lib.hid (hC.outs.mono (by show w.heap.size ≤ wr.heap.size; omega))
          have HM1 : Hid (IntsAt wr.drew wr.drew.heap.size (some ⟨N, 0, none⟩) (Opt.intL (nm true f (zipU f c) gl))) := Lib.hid HN.out.ints
          have HRN : Hid (∀ k, k < nl → c.ns.getD k 0 / 2 < f + gl ∧ c.ns.getD k 0 < 1000000) := Lib.hid (fun k hk => by
            have := HF.out.ok.root _ (List.mem_append_right _ (getD_mem (by rw [HF.out.ln]; exact hk)))
            rw [HF.out.lg] at this
            omega)
          have HRO : Hid (∀ k, k < ol → c.os.getD k 0 / 2 < f + gl ∧ c.os.getD k 0 < 1000000) := Lib.hid (fun k hk => by
            have := HF.out.ok.root _ (List.mem_append_left _ (getD_mem (by rw [HF.out.lo]; exact hk)))
            rw [HF.out.lg] at this
            omega)
          have hpz := HB.out.row.lt
          clear hX hC hmlen
          generalize (Opt.built true f ((zipU f c).take gl)).1 = xG at *
          generalize nm true f (zipU f c) gl = nms at *
          have HB6 : Hid (Bld wr.drew (z2 + 2) (z2 + 1) z2 f (.slice GA xG.length gcap) xG) := Lib.hid (HB.out.drewN 1)
          have HL6 := Lib.hid HL.out.drew
          have hzd : wr.drew.heap.size = wr.heap.size := rfl
          have HZD := Lib.hid hzd
          clear hzd HB HL HN HR
          have nz1 : z2 ≠ w.heap.size := by omega
          have nz2 : w.heap.size ≠ z2 := by omega
          go_wp2
          go_region_held3 (fun w' => w'.cell? ⟨w.heap.size, 0, none⟩ = some (.int .i64 i) ∧ w'.cell? ⟨w.heap.size, 1, none⟩ = some (.slice nA nl nc) ∧ w'.cell? ⟨w.heap.size, 3, none⟩ = some (.slice oA ol oc) ∧ w'.cell? ⟨z2 + 1, 1, none⟩ = some (.slice GA xG.length gcap)) (first | exact hS9 | exact hS8 | go_keep)
            (first
              | (have _t := HI8; go_at_call 90; (with_reducible refine (ofAll_any oA (some ⟨N, 0, none⟩) _ _ _ _ 0 _ c.os _ HM8.out HML.out HLit.out HO8.out HF.out.lo HRO.out (by omega)).mono ?_); rintro e w9 ⟨rfl, hb9, hi9⟩; have hz8 : w.heap.size + 2 ≤ w8.heap.size := (by have := HL8.out.size; rw [HZ0.out] at this; exact this); have hX9 := bcell hb9; have HI9 := Lib.hid hi9; have HI89 := Lib.hid (HI8.out.below hb9 HI8.out.lt); have HL9 := Lib.hid (HL8.out.trans (hb9.mono hz8)); have HG9 := Lib.hid (own_below HG8.out hb9); have hi8l := HI8.out.lt; have hS9 := And.intro ((hX9.1 w.heap.size 0 (by omega)).trans hS8.1) (And.intro ((hX9.1 w.heap.size 1 (by omega)).trans hS8.2.1) (And.intro ((hX9.1 w.heap.size 3 (by omega)).trans hS8.2.2.1) ((hX9.1 (z2 + 1) 1 (by omega)).trans hS8.2.2.2))); have hq9 := HQ0.out.below HL9.out (by omega); have y0 := hq9.cell 0; have y1 := hq9.cell 1; have y2 := hq9.cell 2; have y3 := hq9.cell 3; have x0 := hq9.frozen 0; have x1 := hq9.frozen 1; have x2 := hq9.frozen 2; have x3 := hq9.frozen 3; simp at y0 y1 y2 y3; have HQ9 := Lib.hid hq9; clear hX9 hi9 hb9 hS8 hq9)
              | (go_at_call 90; (with_reducible refine (ofAll_any nA (some ⟨N, 0, none⟩) _ _ _ _ 0 _ c.ns _ HM1.out HML.out HLit.out HN1.out HF.out.ln HRN.out (by omega)).mono ?_); rintro e w8 ⟨rfl, hb8, hi8⟩; rw [HZD.out] at hb8 hi8; have hX8 := bcell hb8; have HI8 := Lib.hid hi8; have hS8 := And.intro ((hX8.1 w.heap.size 0 (by omega)).trans q0) (And.intro ((hX8.1 w.heap.size 1 (by omega)).trans q1) (And.intro ((hX8.1 w.heap.size 3 (by omega)).trans q3) ((hX8.1 (z2 + 1) 1 hpz).trans q4))); have HM8 := Lib.hid ((HM1.out.below hb8).mono hb8.size); have HO8 := Lib.hid ((HO1.out.below hb8).mono hb8.size); have HL8 := Lib.hid (HL6.out.trans (hb8.mono hz5)); have HG8 := Lib.hid (own_below HB6.out.gates hb8); have hpz8 : z2 + 1 < w8.heap.size := Nat.lt_of_lt_of_le hpz hb8.size; clear hX8 hi8 hb8))
          all_goals
            have hq := (((HQ9.out.set 0 (.int .i64 i)).set 1 (.slice (some ⟨wr.heap.size, 0, none⟩) nl nl)).set 2 (.slice GA xG.length gcap)).set 3 (.slice (some ⟨w8.heap.size, 0, none⟩) ol ol)
            simp at hq
            have HQ := Lib.hid hq
            have HA1 := Lib.hid ((((HI89.out.far ⟨w.heap.size + 1, 0, none⟩ (.int .i64 i) (by simp; omega)).far ⟨w.heap.size + 1, 1, none⟩ (.slice (some ⟨wr.heap.size, 0, none⟩) nl nl) (by simp; omega)).far ⟨w.heap.size + 1, 2, none⟩ (.slice GA xG.length gcap) (by simp; omega)).far ⟨w.heap.size + 1, 3, none⟩ (.slice (some ⟨w8.heap.size, 0, none⟩) ol ol) (by simp; omega))
            have HA3 := Lib.hid ((((HI9.out.far ⟨w.heap.size + 1, 0, none⟩ (.int .i64 i) (by simp; omega)).far ⟨w.heap.size + 1, 1, none⟩ (.slice (some ⟨wr.heap.size, 0, none⟩) nl nl) (by simp; omega)).far ⟨w.heap.size + 1, 2, none⟩ (.slice GA xG.length gcap) (by simp; omega)).far ⟨w.heap.size + 1, 3, none⟩ (.slice (some ⟨w8.heap.size, 0, none⟩) ol ol) (by simp; omega))
            have HA2 := Lib.hid (own_setC (own_setC (own_setC (own_setC HG9.out (show w.heap.size + 1 < z2 + 2 by omega) 0 (.int .i64 i)) (show w.heap.size + 1 < z2 + 2 by omega) 1 (.slice (some ⟨wr.heap.size, 0, none⟩) nl nl)) (show w.heap.size + 1 < z2 + 2 by omega) 2 (.slice GA xG.length gcap)) (show w.heap.size + 1 < z2 + 2 by omega) 3 (.slice (some ⟨w8.heap.size, 0, none⟩) ol ol))
            have HA4 := Lib.hid (((((HW0.out.trans (HL9.out.mono (show w.heap.size ≤ w.heap.size + 2 by omega))).setCell (p := ⟨w.heap.size + 1, 0, none⟩) (by simp) (.int .i64 i)).setCell (p := ⟨w.heap.size + 1, 1, none⟩) (by simp) (.slice (some ⟨wr.heap.size, 0, none⟩) nl nl)).setCell (p := ⟨w.heap.size + 1, 2, none⟩) (by simp) (.slice GA xG.length gcap)).setCell (p := ⟨w.heap.size + 1, 3, none⟩) (by simp) (.slice (some ⟨w8.heap.size, 0, none⟩) ol ol))
            generalize (((w9.setCell ⟨w.heap.size + 1, 0, none⟩ (.int .i64 i)).setCell ⟨w.heap.size + 1, 1, none⟩ (.slice (some ⟨wr.heap.size, 0, none⟩) nl nl)).setCell ⟨w.heap.size + 1, 2, none⟩ (.slice GA xG.length gcap)).setCell ⟨w.heap.size + 1, 3, none⟩ (.slice (some ⟨w8.heap.size, 0, none⟩) ol ol) = w10 at *
            clear x0 x1 x2 x3 y0 y1 y2 y3 hS9 q0 q1 q3 q4 hq
            have p0 := HQ.out.cell 0
            have p1 := HQ.out.cell 1
            have p2 := HQ.out.cell 2
            have p3 := HQ.out.cell 3
            simp at p0 p1 p2 p3
            go_wp2
            refine bodyPost_ret (v := .agg #[.int .i64 i, .slice (some ⟨wr.heap.size, 0, none⟩) nl nl, .slice GA xG.length gcap, .slice (some ⟨w8.heap.size, 0, none⟩) ol ol]) (by simp [results, Try.results48, go_sem, p0, p1, p2, p3]) rfl ⟨_, _, _, rfl, ?_, HA4.out⟩
            rw [HBZ.out]
            exact ⟨HA1.out, own_mono HA2.out (by omega), HA3.out, by omega, by omega⟩
end Go.Proofs.Ythpiddpkcmecfaa
