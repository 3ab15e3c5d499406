/- The marks on an optimized circuit, whole. -/
import Derived.Test.YthpiddpkcmecfaaE1
import Derived.Test.YthpiddpkcmecfaaB1a
import Derived.Test.YthpiddpkcmecfaaT8
namespace Go.Proofs.Ythpiddpkcmecfaa
open Go.RowKit Go.Deep
set_option maxRecDepth 100000

/-- The gates' slice with marks. -/
def GSl (w : World) (B : Nat) (v : Value) (k n : Nat) : Prop := (v = .slice none 0 0 ∧ n = 0) ∨ ∃ g cap, v = .slice (some ⟨g, 0, none⟩) n cap ∧ B ≤ g ∧ GMRow w g k n
structure MarkedC (w : World) (B g1 g3 : Nat) (vG : Value) (k nl gl ol : Nat) : Prop where
  next : IRow w g1 (mkI k nl)
  gates : GSl w B vG (k + nl) gl
  outs : IRow w g3 (mkI (k + nl + 2 * gl) ol)
theorem GMRow.below {w w' : World} {B g k n : Nat} (h : GMRow w g k n) (hb : Below B w w') (hg : g < B) : GMRow w' g k n := by
  obtain ⟨cs, hr, hm⟩ := h
  exact ⟨cs, hr.below hb hg, hm⟩
theorem GMRow.lt {w : World} {g k n : Nat} (h : GMRow w g k n) : g < w.heap.size := by
  obtain ⟨cs, hr, hm⟩ := h
  exact hr.lt
theorem MarkedC.below {w w' : World} {B g1 g3 k nl gl ol : Nat} {vG : Value} (h : MarkedC w B g1 g3 vG k nl gl ol) (hb : Below w.heap.size w w') : MarkedC w' B g1 g3 vG k nl gl ol := by
  refine ⟨h.next.below hb h.next.lt, ?_, h.outs.below hb h.outs.lt⟩
  rcases h.gates with h1 | ⟨g, cap, h1, h2, h3⟩
  · exact .inl h1
  · exact .inr ⟨g, cap, h1, h2, h3.below hb h3.lt⟩

theorem IRow.only {w w' : World} {o g : Nat} {xs : List Int} (h : IRow w g xs) (ho : Only (some o) w w') (hne : g ≠ o) : IRow w' g xs := by
  obtain ⟨cs, hr, hf⟩ := h
  exact ⟨cs, ho.row hr (by intro e; injection e; omega), hf⟩
theorem irow_ne {w : World} {g base size n : Nat} {e : TypeId} {xs : List Int} {v : Value} {vs : List Value} (h : IRow w g xs) (h' : w.ownsRow base e size v n vs) (hne : 3 ≠ e := by decide) : some g ≠ v.ownBlock := by
  obtain ⟨cs, hr, _⟩ := h
  exact own_ne88 hr h' hne

set_option maxHeartbeats 400000 in
theorem markOwn_any (i : Int) (B g1 g3 k nl gl ol : Nat) (vG : Value) (c : Opt.C) (w : World) (h : Own w B g1 g3 vG c) (hn : c.ns.length = nl) (hg : c.gs.length = gl) (ho : c.os.length = ol) (hnl : nl ≤ 1000) (hgl : gl ≤ 1000) (hol : ol ≤ 1000) (hk : k ≤ 1000) (top : Nat) (ht3 : g3 < top) (htG : ∀ g, vG.ownBlock = some g → g < top) :
    Calls Try.prog 40 #[.agg #[.int .i64 i, .slice (some ⟨g1, 0, none⟩) nl nl, vG, .slice (some ⟨g3, 0, none⟩) ol ol], .int .i64 k] w fun e w' =>
      e = .returned (.int .i64 ((k + nl + 2 * gl + ol : Nat) : Int)) ∧ MarkedC w' B g1 g3 vG k nl gl ol ∧ Mid B top w w' := by
  have hb1 := h.b1
  have hb3 := h.b3
  obtain ⟨cs1, hr1, hs1⟩ := h.next.slots
  obtain ⟨cs3, hr3, hs3⟩ := h.outs.slots
  rw [Opt.intL_len, hn] at hs1
  rw [Opt.intL_len, ho] at hs3
  have hG := h.gates
  rw [hg] at hG
  have n1 := irow_ne h.next hG
  have n3 := irow_ne h.outs hG
  have hcase : (vG = .slice none 0 0 ∧ gl = 0) ∨ ∃ g cap cs, vG = .slice (some ⟨g, 0, none⟩) gl cap ∧ B ≤ g ∧ g ≠ g1 ∧ g ≠ g3 ∧ Row w g 46 cs ∧ gl * 2 ≤ cs.size := by
    rcases hG.2 with h1 | ⟨g, cap, cur, rfl, h2, h3, h4, h5, h6, h7⟩
    · exact .inl h1
    · refine .inr ⟨g, cap, cur, rfl, h2, fun e => n1 (by rw [e]; rfl), fun e => n3 (by rw [e]; rfl), h3, ?_⟩
      rw [h6]
      exact Nat.mul_le_mul_right _ h4
  clear n1 n3 hG h
  have hbw : Below w.heap.size w (w.alloc (.cells #[.int .i64 i, .slice (some ⟨g1, 0, none⟩) nl nl, vG, .slice (some ⟨g3, 0, none⟩) ol ol] 26)) := (Below.refl _ _).alloc (Nat.le_refl _) _
  have r0 : Row (w.alloc (.cells #[.int .i64 i, .slice (some ⟨g1, 0, none⟩) nl nl, vG, .slice (some ⟨g3, 0, none⟩) ol ol] 26)) w.heap.size 26 #[.int .i64 i, .slice (some ⟨g1, 0, none⟩) nl nl, vG, .slice (some ⟨g3, 0, none⟩) ol ol] := heap_alloc_new w _
  have HR0 := Lib.hid r0
  have HL0 := Lib.hid (Below.mid hbw (Nat.le_refl _) B top)
  have H1 := Lib.hid (hr1.below hbw hr1.lt)
  have H3 := Lib.hid (hr3.below hbw hr3.lt)
  have S1 := Lib.hid hs1
  have S3 := Lib.hid hs3
  have l1 := hr1.lt
  have l3 := hr3.lt
  have hsz : (w.alloc (.cells #[.int .i64 i, .slice (some ⟨g1, 0, none⟩) nl nl, vG, .slice (some ⟨g3, 0, none⟩) ol ol] 26)).heap.size = w.heap.size + 1 := by simp
  have HSZ := Lib.hid hsz
  clear r0 hr1 hr3 hs1 hs3 hsz
  rcases hcase with ⟨rfl, rfl⟩ | ⟨g, cap, cs2, rfl, hgB, ne1, ne3, hr2, hs2⟩
  · clear hbw htG
    go_enter Try.func40, Try.ntmps40
    go_wp2_with fail
    refine (markI_vals g1 nl k cs1 _ H1.out S1.out (by omega) (by omega)).mono ?_
    rintro e w1 ⟨rfl, hi1, ho1⟩
    have HR1 := Lib.hid (ho1.row HR0.out (by intro e; injection e; omega))
    have HL1 := Lib.hid (HL0.out.trans (ho1.mid (lo := B) (hi := top) (by omega) (by omega)))
    have H31 := Lib.hid (ho1.row H3.out (by intro e; injection e; omega))
    have HI1 := Lib.hid hi1
    have z1 := ho1.size
    rw [HSZ.out] at z1
    have Z1 := Lib.hid z1
    clear ho1 hi1 HR0 HL0 H1 H3 z1
    have q2 := HR1.out.cell 2
    have q3 := HR1.out.cell 3
    simp at q2 q3
    go_wp2_with (go_at_call 76; refine (markG_nil _ _).mono ?_; rintro e w' ⟨rfl, rfl⟩)
    refine (markI_vals g3 ol (k + nl) cs3 _ H31.out S3.out (by omega) (by omega)).mono ?_
    rintro e w3 ⟨rfl, hi3, ho3⟩
    have HL3 := Lib.hid (HL1.out.trans (ho3.mid (lo := B) (hi := top) (by omega) (by omega)))
    have HM := Lib.hid (MarkedC.mk (w := w3) (B := B) (vG := .slice none 0 0) (gl := 0) (HI1.out.only ho3 (by omega)) (.inl ⟨rfl, rfl⟩) hi3)
    clear ho3 hi3
    go_wp2
    go_ret
    exact ⟨ret_int (by omega), HM.out, HL3.out⟩
  · have hgi : g < top := htG g rfl
    have H2 := Lib.hid (hr2.below hbw hr2.lt)
    have S2 := Lib.hid hs2
    have l2 := hr2.lt
    clear hbw hr2 hs2 htG
    go_enter Try.func40, Try.ntmps40
    go_wp2_with fail
    refine (markI_vals g1 nl k cs1 _ H1.out S1.out (by omega) (by omega)).mono ?_
    rintro e w1 ⟨rfl, hi1, ho1⟩
    have HR1 := Lib.hid (ho1.row HR0.out (by intro e; injection e; omega))
    have HL1 := Lib.hid (HL0.out.trans (ho1.mid (lo := B) (hi := top) (by omega) (by omega)))
    have H21 := Lib.hid (ho1.row H2.out (by intro e; injection e; omega))
    have H31 := Lib.hid (ho1.row H3.out (by intro e; injection e; omega))
    have HI1 := Lib.hid hi1
    have z1 := ho1.size
    rw [HSZ.out] at z1
    have Z1 := Lib.hid z1
    clear ho1 hi1 HR0 HL0 H1 H2 H3 z1
    have q2 := HR1.out.cell 2
    simp at q2
    go_wp2_with fail
    refine (markG_vals g gl cap (k + nl) cs2 _ H21.out S2.out (by omega) (by omega)).mono ?_
    rintro e w2 ⟨rfl, hi2, ho2⟩
    have HR2 := Lib.hid (ho2.row HR1.out (by intro e; injection e; omega))
    have HL2 := Lib.hid (HL1.out.trans (ho2.mid (lo := B) (hi := top) (by omega) (by omega)))
    have H32 := Lib.hid (ho2.row H31.out (by intro e; injection e; omega))
    have HI2 := Lib.hid (HI1.out.only ho2 (by omega))
    have HG2 := Lib.hid hi2
    have z2 := ho2.size
    rw [Z1.out] at z2
    have Z2 := Lib.hid z2
    clear ho2 hi2 HR1 HL1 H21 H31 HI1 q2 z2
    have q3 := HR2.out.cell 3
    simp at q3
    go_wp2_with fail
    refine (markI_vals g3 ol (k + nl + 2 * gl) cs3 _ H32.out S3.out (by omega) (by omega)).mono ?_
    rintro e w3 ⟨rfl, hi3, ho3⟩
    have HL3 := Lib.hid (HL2.out.trans (ho3.mid (lo := B) (hi := top) (by omega) (by omega)))
    have hG3 : GMRow w3 g (k + nl) gl := by
      obtain ⟨cs, hr, hm⟩ := HG2.out
      exact ⟨cs, ho3.row hr (by intro e; injection e; omega), hm⟩
    have HM := Lib.hid (MarkedC.mk (w := w3) (B := B) (vG := .slice (some ⟨g, 0, none⟩) gl cap) (HI2.out.only ho3 (by omega)) (.inr ⟨g, cap, rfl, hgB, hG3⟩) hi3)
    clear ho3 hi3 hG3
    go_wp2
    go_ret
    exact ⟨rfl, HM.out, HL3.out⟩
end Go.Proofs.Ythpiddpkcmecfaa
