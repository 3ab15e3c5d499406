/- The walk of FnStep. -/
import Derived.Test.YtbhkpjcflghgbaaB13
import Derived.Test.YtbhkpjcflghgbaaB14
import Derived.Test.YtbhkpjcflghgbaaB10
import Derived.Test.YtbhkpjcflghgbaaZ
namespace Go.Proofs.Ytbhkpjcflghgbaa
open Go.RowKit Go.Deep

theorem CircAt.farG {w : World} {D B : Nat} {nA gA oA : Option Addr} {ns : List Int} {gs : List (Int × Int)} {os : List Int} (h : CircAt w w.heap.size nA gA oA ns gs os) (j : Nat) (u : Value) (hD : D < B) (h1 : FreshA B nA) (h2 : FreshA B gA) (h3 : FreshA B oA) :
    CircAt (w.setCell ⟨D, j, none⟩ u) (w.setCell ⟨D, j, none⟩ u).heap.size nA gA oA ns gs os :=
  ⟨h.next.farS _ u (fun b off e => by have := h1 b off e; simp; omega), h.gates.farS _ u (fun b off e => by have := h2 b off e; simp; omega), h.outs.farS _ u (fun b off e => by have := h3 b off e; simp; omega), h.nl, h.gl, h.ol⟩
theorem BoolsAt.farG {w : World} {D B : Nat} {A : Option Addr} {xs : List Bool} (h : BoolsAt w w.heap.size A xs) (j : Nat) (u : Value) (hD : D < B) (h1 : FreshA B A) : BoolsAt (w.setCell ⟨D, j, none⟩ u) (w.setCell ⟨D, j, none⟩ u).heap.size A xs :=
  h.far _ u (fun b off e => by have := h1 b off e; simp; omega)

set_option maxHeartbeats 400000 in
theorem drawStep_any (A : Option Addr) (bl bc : Nat) (w : World) (hb : CodeAt w A bl) (hbl : bl ≤ bc) (hbc : bc ≤ maxLen) : Calls Try.prog 16 #[.slice A bl bc] w (DrawEvOut w) := by
  have hc0 : CodeAt (w.alloc (.cells #[.int .i64 0, .slice none 0 0, .slice none 0 0, .slice none 0 0] 26)) A bl := fun k hk => by
    obtain ⟨b, off, z, e, hlt, hc, h0, h1⟩ := hb k hk
    exact ⟨b, off, z, e, by simp; omega, (World.cell?_alloc_lt w _ ⟨b, off + k, none⟩ hlt).trans hc, h0, h1⟩
  have HC0 := Lib.hid hc0
  have HL0 := Lib.hid (show Below w.heap.size w (w.alloc (.cells #[.int .i64 0, .slice none 0 0, .slice none 0 0, .slice none 0 0] 26)) from (Below.refl _ _).alloc (Nat.le_refl _) _)
  have HD0 := Lib.hid (show Row (w.alloc (.cells #[.int .i64 0, .slice none 0 0, .slice none 0 0, .slice none 0 0] 26)) w.heap.size 26 #[.int .i64 0, .slice none 0 0, .slice none 0 0, .slice none 0 0] from heap_alloc_new w _)
  have HBC := Lib.hid hbc
  clear hb hc0 hbc
  go_enter Try.func16, Try.ntmps16
  go_wp2_with fail
  refine (drawEv_any A bl bc _ HC0.out hbl HBC.out).mono ?_
  rintro e w1 ⟨i, nA, gA, oA, sA, iA, nc, gc, oc, sc, ic, ns, gs, os, st, ins, rfl, hC, hS, hI, hn, hg, ho, hi0, hi1, hsl, hil, ⟨f1, f2, f3, f4, f5⟩, hb1⟩
  have HD1 := Lib.hid (HD0.out.below hb1 HD0.out.lt)
  have HL1 := Lib.hid (HL0.out.trans (hb1.mono HL0.out.size))
  have HC1 := Lib.hid hC
  have HS1 := Lib.hid hS
  have HI1 := Lib.hid hI
  have hsz : (w.alloc (.cells #[.int .i64 0, .slice none 0 0, .slice none 0 0, .slice none 0 0] 26)).heap.size = w.heap.size + 1 := by simp
  rw [hsz] at f1 f2 f3 f4 f5
  have HF := Lib.hid (And.intro f1 (And.intro f2 (And.intro f3 (And.intro f4 f5))))
  clear hC hS hI hb1 HD0 HL0 HC0 f1 f2 f3 f4 f5 hsz
  have t0 := HD1.out.cell 0
  have t1 := HD1.out.cell 1
  have t2 := HD1.out.cell 2
  have t3 := HD1.out.cell 3
  have f0 := HD1.out.frozen 0
  have f1 := HD1.out.frozen 1
  have f2 := HD1.out.frozen 2
  have f3 := HD1.out.frozen 3
  simp at t0 t1 t2 t3
  go_wp2
  obtain ⟨g1, g2, g3, g4, g5⟩ := HF.out
  refine bodyPost_ret (v := .tuple #[.agg #[.int .i64 i, .slice nA ns.length nc, .slice gA gs.length gc, .slice oA os.length oc], .slice sA st.length sc, .slice iA ins.length ic]) (by simp [results, Try.results16, go_sem, t0, t1, t2, t3]) rfl ⟨i, nA, gA, oA, sA, iA, nc, gc, oc, sc, ic, ns, gs, os, st, ins, rfl, ?_, ?_, ?_, hn, hg, ho, hi0, hi1, hsl, hil, ⟨fresh_mono g1 (by omega), fresh_mono g2 (by omega), fresh_mono g3 (by omega), fresh_mono g4 (by omega), fresh_mono g5 (by omega)⟩, ?_⟩
  · exact (((HC1.out.farG 0 _ (by omega) g1 g2 g3).farG 1 _ (by omega) g1 g2 g3).farG 2 _ (by omega) g1 g2 g3).farG 3 _ (by omega) g1 g2 g3
  · exact (((HS1.out.farG 0 _ (by omega) g4).farG 1 _ (by omega) g4).farG 2 _ (by omega) g4).farG 3 _ (by omega) g4
  · exact (((HI1.out.farG 0 _ (by omega) g5).farG 1 _ (by omega) g5).farG 2 _ (by omega) g5).farG 3 _ (by omega) g5
  · exact (((HL1.out.setCell (p := ⟨w.heap.size, 0, none⟩) (Nat.le_refl _) _).setCell (p := ⟨w.heap.size, 1, none⟩) (Nat.le_refl _) _).setCell (p := ⟨w.heap.size, 2, none⟩) (Nat.le_refl _) _).setCell (p := ⟨w.heap.size, 3, none⟩) (Nat.le_refl _) _

set_option maxRecDepth 10000 in
set_option maxHeartbeats 4000000 in
theorem fstep_walk (A : Option Addr) (bl bc : Nat) (w : World) (hb : CodeAt w A bl) (hbl : bl ≤ bc) (hbc : bc ≤ maxLen) :
    Calls Try.prog 4 #[.slice A bl bc] w fun e w' => e = .returned (.bool true) ∧ Below w.heap.size w w' := by
  have HB := Lib.hid hb
  have HBC := Lib.hid hbc
  unfold maxLen at hbc
  clear hb
  by_cases h20 : bl ≤ 1048576
  · clear hbc
    go_enter Try.func4, Try.ntmps4
    go_wp2_with fail
    refine (drawStep_any A bl bc w HB.out hbl HBC.out).mono ?_
    rintro e w1 ⟨i, nA, gA, oA, sA, iA, nc, gc, oc, sc, ic, ns, gs, os, st, ins, rfl, hC, hS, hI, hn, hg, ho, hi0, hi1, hsl, hil, _, hb1⟩
    have HC1 := Lib.hid hC
    have HS1 := Lib.hid hS
    have HI1 := Lib.hid hI
    have HL1 := Lib.hid hb1
    clear hC hS hI hb1
    have hev := evalV_le (i := i) (ns := ns) (gs := gs) (os := os) st ins
    have hevo := stepV_le (i := i) (ns := ns) (gs := gs) (os := os) st ins os (by omega)
    have hevn := stepV_le (i := i) (ns := ns) (gs := gs) (os := os) st ins ns (by omega)
    have hb2 : Below w1.heap.size w1 (w1.alloc (.cells #[.int .i64 i, .slice nA ns.length nc, .slice gA gs.length gc, .slice oA os.length oc] 26)) := (Below.refl _ _).alloc (Nat.le_refl _) _
    have HR2 : Hid (Row (w1.alloc (.cells #[.int .i64 i, .slice nA ns.length nc, .slice gA gs.length gc, .slice oA os.length oc] 26)) w1.heap.size 26 #[.int .i64 i, .slice nA ns.length nc, .slice gA gs.length gc, .slice oA os.length oc]) := Lib.hid (heap_alloc_new w1 _)
    have HC2 := Lib.hid ((HC1.out.below hb2).mono hb2.size)
    have HS2 := Lib.hid (HS1.out.on hb2)
    have HI2 := Lib.hid (HI1.out.on hb2)
    have HL2 := Lib.hid (HL1.out.trans (hb2.mono HL1.out.size))
    clear hb2 HC1 HS1 HI1 HL1
    go_wp2_with fail
    generalize w1.alloc (.cells #[.int .i64 i, .slice nA ns.length nc, .slice gA gs.length gc, .slice oA os.length oc] 26) = w2 at *
    generalize w1.heap.size = c0 at *
    refine (step_any i nA gA oA sA iA nc gc oc sc ic ns gs os st ins _ HC2.out HS2.out HI2.out).mono ?_
    rintro e w3 ⟨eA, eB, rfl, hx3, hb3⟩
    generalize hevd : stepV i ns gs os st ins os = eo at *
    have HEV := Lib.hid hevd
    clear hevd
    generalize hevd : stepV i ns gs os st ins ns = en at *
    have HEN := Lib.hid hevd
    clear hevd
    have HG3 := Lib.hid hx3
    clear hx3
    have HC3 := Lib.hid ((HC2.out.below hb3).mono hb3.size)
    have HS3 := Lib.hid (HS2.out.on hb3)
    have HI3 := Lib.hid (HI2.out.on hb3)
    have HL3 := Lib.hid (HL2.out.trans (hb3.mono HL2.out.size))
    have HR3 := Lib.hid (HR2.out.below hb3 HR2.out.lt)
    clear hb3 HC2 HS2 HI2 HL2 HR2
    have q0 := HR3.out.cell 0
    have q1 := HR3.out.cell 1
    have q2 := HR3.out.cell 2
    have q3 := HR3.out.cell 3
    simp at q0 q1 q2 q3
    have hcl := HR3.out.lt
    have hcn : c0 ≠ w3.heap.size := by omega
    have hb4 : Below w3.heap.size w3 (w3.alloc (.cells #[.slice eA eo.length eo.length, .slice eB en.length en.length] 39)) := (Below.refl _ _).alloc (Nat.le_refl _) _
    have HK4 : Hid (Row (w3.alloc (.cells #[.slice eA eo.length eo.length, .slice eB en.length en.length] 39)) w3.heap.size 39 #[.slice eA eo.length eo.length, .slice eB en.length en.length]) := Lib.hid (heap_alloc_new w3 _)
    have HC4 := Lib.hid ((HC3.out.below hb4).mono hb4.size)
    have HS4 := Lib.hid (HS3.out.on hb4)
    have HI4 := Lib.hid (HI3.out.on hb4)
    have HL4 := Lib.hid (HL3.out.trans (hb4.mono HL3.out.size))
    have HR4 := Lib.hid (HR3.out.below hb4 HR3.out.lt)
    have HG4 := Lib.hid (HG3.out.on hb4)
    clear hb4 HC3 HS3 HI3 HL3 HR3 HG3
    go_wp2_with fail
    generalize w3.alloc (.cells #[.slice eA eo.length eo.length, .slice eB en.length en.length] 39) = w4 at *
    generalize w3.heap.size = c1 at *
    clear q0 q1 q2 q3 hcl hcn
    refine (sstep_any i nA gA oA sA iA nc gc oc sc ic ns gs os st ins _ HC4.out HS4.out HI4.out).mono ?_
    rintro e w5 ⟨wA, wB, wc, wd, rfl, hx5, hy5, hb5⟩
    rw [HEV.out] at hx5
    rw [HEN.out] at hy5
    rw [HEV.out, HEN.out]
    have HW5 := Lib.hid hx5
    have HU5 := Lib.hid hy5
    clear hx5 hy5
    have HC5 := Lib.hid ((HC4.out.below hb5).mono hb5.size)
    have HS5 := Lib.hid (HS4.out.on hb5)
    have HI5 := Lib.hid (HI4.out.on hb5)
    have HL5 := Lib.hid (HL4.out.trans (hb5.mono HL4.out.size))
    have HR5 := Lib.hid (HR4.out.below hb5 HR4.out.lt)
    have HG5 := Lib.hid (HG4.out.on hb5)
    have HK5 := Lib.hid (HK4.out.below hb5 HK4.out.lt)
    clear hb5 HC4 HS4 HI4 HL4 HR4 HG4 HK4
    have r0 := HK5.out.cell 0
    have r1 := HK5.out.cell 1
    simp at r0 r1
    have hcl := HK5.out.lt
    have hcn : c1 ≠ w5.heap.size := by omega
    have hb6 : Below w5.heap.size w5 (w5.alloc (.cells #[.slice wA eo.length wc, .slice wB en.length wd] 39)) := (Below.refl _ _).alloc (Nat.le_refl _) _
    have HP6 : Hid (Row (w5.alloc (.cells #[.slice wA eo.length wc, .slice wB en.length wd] 39)) w5.heap.size 39 #[.slice wA eo.length wc, .slice wB en.length wd]) := Lib.hid (heap_alloc_new w5 _)
    have HC6 := Lib.hid ((HC5.out.below hb6).mono hb6.size)
    have HS6 := Lib.hid (HS5.out.on hb6)
    have HI6 := Lib.hid (HI5.out.on hb6)
    have HL6 := Lib.hid (HL5.out.trans (hb6.mono HL5.out.size))
    have HR6 := Lib.hid (HR5.out.below hb6 HR5.out.lt)
    have HG6 := Lib.hid (HG5.out.on hb6)
    have HK6 := Lib.hid (HK5.out.below hb6 HK5.out.lt)
    have HW6 := Lib.hid (HW5.out.on hb6)
    have HU6 := Lib.hid (HU5.out.on hb6)
    clear hb6 HC5 HS5 HI5 HL5 HR5 HG5 HK5 HW5 HU5
    go_wp2_with fail
    generalize w5.alloc (.cells #[.slice wA eo.length wc, .slice wB en.length wd] 39) = w6 at *
    generalize w5.heap.size = c2 at *
    clear r0 r1 hcl hcn
    refine (sameBools_len eA wA _ _ _ eo _ rfl HG6.out.fst.bools HW6.out (by omega)).mono ?_
    rintro e w7 ⟨rfl, hb7⟩
    have HC7 := Lib.hid ((HC6.out.below hb7).mono hb7.size)
    have HS7 := Lib.hid (HS6.out.on hb7)
    have HI7 := Lib.hid (HI6.out.on hb7)
    have HL7 := Lib.hid (HL6.out.trans (hb7.mono HL6.out.size))
    have HR7 := Lib.hid (HR6.out.below hb7 HR6.out.lt)
    have HG7 := Lib.hid (HG6.out.on hb7)
    have HK7 := Lib.hid (HK6.out.below hb7 HK6.out.lt)
    have HW7 := Lib.hid (HW6.out.on hb7)
    have HU7 := Lib.hid (HU6.out.on hb7)
    have HP7 := Lib.hid (HP6.out.below hb7 HP6.out.lt)
    clear hb7 HC6 HS6 HI6 HL6 HR6 HG6 HK6 HW6 HU6 HP6
    have r0 := HK7.out.cell 0
    have r1 := HK7.out.cell 1
    simp at r0 r1
    have v0 := HP7.out.cell 0
    have v1 := HP7.out.cell 1
    simp at v0 v1
    go_wp2_with fail
    refine (sameBools_len eB wB _ _ _ en _ rfl HG7.out.snd.bools HU7.out (by omega)).mono ?_
    rintro e w8 ⟨rfl, hb8⟩
    clear r0 r1 v0 v1
    have HC8 := Lib.hid ((HC7.out.below hb8).mono hb8.size)
    have HS8 := Lib.hid (HS7.out.on hb8)
    have HI8 := Lib.hid (HI7.out.on hb8)
    have HL8 := Lib.hid (HL7.out.trans (hb8.mono HL7.out.size))
    have HR8 := Lib.hid (HR7.out.below hb8 HR7.out.lt)
    have HG8 := Lib.hid (HG7.out.on hb8)
    have HK8 := Lib.hid (HK7.out.below hb8 HK7.out.lt)
    clear hb8 HC7 HS7 HI7 HL7 HR7 HG7 HK7 HW7 HU7 HP7
    have q0 := HR8.out.cell 0
    have q1 := HR8.out.cell 1
    have q2 := HR8.out.cell 2
    have q3 := HR8.out.cell 3
    simp at q0 q1 q2 q3
    go_wp2_with fail
    refine (evalVars_any i nA gA oA sA iA nc gc oc sc ic ns gs os st ins _ HC8.out HS8.out HI8.out).mono ?_
    rintro e w9 ⟨vA, rfl, hx9, hb9⟩
    clear q0 q1 q2 q3
    have HV9 := Lib.hid hx9
    clear hx9
    have HC9 := Lib.hid ((HC8.out.below hb9).mono hb9.size)
    have HS9 := Lib.hid (HS8.out.on hb9)
    have HI9 := Lib.hid (HI8.out.on hb9)
    have HL9 := Lib.hid (HL8.out.trans (hb9.mono HL8.out.size))
    have HR9 := Lib.hid (HR8.out.below hb9 HR8.out.lt)
    have HG9 := Lib.hid (HG8.out.on hb9)
    have HK9 := Lib.hid (HK8.out.below hb9 HK8.out.lt)
    clear hb9 HC8 HS8 HI8 HL8 HR8 HG8 HK8
    cases hv : assignB i ns gs os st.length ins.length
    · have HE1 : Hid (eo.length = 0) := Lib.hid (by rw [← HEV.out, stepV_f os hv]; rfl)
      have HE2 : Hid (en.length = 0) := Lib.hid (by rw [← HEN.out, stepV_f ns hv]; rfl)
      have HE3 : Hid ((evalV i ns gs os st ins).length = 0) := Lib.hid (by rw [evalV_f hv]; rfl)
      clear hv
      generalize (evalV i ns gs os st ins).length = l3 at *
      generalize eo.length = l1 at *
      generalize en.length = l2 at *
      obtain rfl := HE1.out
      obtain rfl := HE2.out
      obtain rfl := HE3.out
      have r0 := HK9.out.cell 0
      have r1 := HK9.out.cell 1
      simp at r0 r1
      go_wp2_with (go_at_call 14; refine (alive_any _).mono ?_; rintro e w9 ⟨rfl, hb9⟩)
      go_ret
      exact ⟨rfl, HL9.out.trans (hb9.mono HL9.out.size)⟩
    · obtain ⟨hv1, hv2, hv3⟩ := assign_inv hv
      obtain ⟨a0, a1, a2, a3, a4⟩ := Circ.valid_within hv1
      have HLO := Lib.hid (Circ.valid_outs hv1)
      have HLN := Lib.hid (Circ.valid_next hv1)
      have H1 := Lib.hid hv2
      have H2 := Lib.hid hv3
      have HEO : Hid (eo = Circ.outV gs os st ins) := Lib.hid (by rw [← HEV.out, stepV_t os hv])
      have HEE : Hid (en = Circ.outV gs ns st ins) := Lib.hid (by rw [← HEN.out, stepV_t ns hv])
      have HO : Hid (BoolsAt w9 w9.heap.size eA (Circ.outV gs os st ins)) := Lib.hid (by rw [← HEO.out]; exact HG9.out.fst.bools)
      have HE : Hid (BoolsAt w9 w9.heap.size eB (Circ.outV gs ns st ins)) := Lib.hid (by rw [← HEE.out]; exact HG9.out.snd.bools)
      have HVV : Hid (BoolsAt w9 w9.heap.size vA (Circ.valsOf gs st ins)) := Lib.hid (by rw [← evalV_t hv]; exact HV9.out.bools)
      have hle : (evalV i ns gs os st ins).length = (Circ.valsOf gs st ins).length := by rw [evalV_t hv]
      have hl1 : eo.length = os.length := by rw [HEO.out, Circ.outV_len]
      have hl2 : en.length = ns.length := by rw [HEE.out, Circ.outV_len]
      rw [hl1, hl2] at HK9
      rw [hle]
      generalize hN : (Circ.valsOf gs st ins).length = N at *
      have HNN := Lib.hid hN
      have HN1 : Hid (N = 1 + ins.length + st.length + gs.length) := Lib.hid (by rw [← hN, Circ.valsOf_len])
      have hN0 : 0 < N := by have := HN1.out; omega
      have hNC : N ≤ 22 := by have := HN1.out; omega
      clear hle hN hv hv1 hv2 hv3 hl1 hl2 HG9 HV9 hev hevo hevn
      have q3 := HR9.out.cell 3
      simp at q3
      have hn0 : ((N : Int) == 0) = false := by simp; omega
      go_wp2
      clear q3 hn0
      go_loopw [9] (fun iv wr => ∃ (k : Nat), k ≤ os.length ∧ iv = .int .i64 k ∧ Hid (Below w9.heap.size w9 wr)) (fun iv _ => os.length - (intOf iv).toNat)
      case atStart => exact ⟨0, Nat.zero_le _, rfl, Lib.hid (Below.refl _ _)⟩
      case round =>
        obtain ⟨k, hk, rfl, HBR⟩ := hrel
        have HRr := Lib.hid (HR9.out.below HBR.out HR9.out.lt)
        have HKr := Lib.hid (HK9.out.below HBR.out HK9.out.lt)
        have q3 := HRr.out.cell 3
        have r0 := HKr.out.cell 0
        simp at q3 r0
        by_cases hlt : k < os.length
        · obtain ⟨b, off, rfl, hbl, hcA⟩ := HC9.out.outs k hlt
          rw [← HBR.out.cell (by exact hbl)] at hcA
          obtain ⟨o1, o2⟩ := Circ.litsOk_get HLO.out (k := k) hlt
          obtain ⟨b2, off2, rfl, hbl2, hcO⟩ := HO.out k (by rw [Circ.outV_len]; exact hlt)
          rw [← HBR.out.cell (by exact hbl2), Circ.outV, Circ.litsV_get _ _ _ hlt] at hcO
          generalize os.getD k 0 = va at *
          obtain ⟨qa, rfl⟩ := Int.eq_ofNat_of_zero_le o1
          have hka : qa / 2 < N := by have := HN1.out; have := H1.out; have := H2.out; omega
          obtain ⟨b3, off3, rfl, hbl3, cA⟩ := HVV.out (qa / 2) (by rw [HNN.out]; exact hka)
          rw [← HBR.out.cell (by exact hbl3)] at cA
          rw [litV_nat] at hcO
          clear o1 o2
          have u1 : (qa : Int).tdiv 2 = ((qa / 2 : Nat) : Int) := by rw [Int.tdiv_eq_ediv_of_nonneg (by omega)]; omega
          have u3 : (qa : Int).tmod 2 = ((qa % 2 : Nat) : Int) := by rw [Int.tmod_eq_emod_of_nonneg (by omega)]; omega
          have hpa : qa % 2 < 2 := Nat.mod_lt _ (by omega)
          generalize (Circ.valsOf gs st ins).getD (qa / 2) false = xa at *
          generalize qa / 2 = ka at *
          generalize qa % 2 = pa at *
          have s2 : IntKind.i64.wrap (ka : Int) = (ka : Int) := IntWalk.i64_in _ (by omega)
          have t1 : (0 : Int) ≤ (ka : Int) := by omega
          have t2 : (ka : Int) < (N : Int) := by omega
          have t3 : (0 : Int) ≤ (k : Int) := by omega
          have t4 : (k : Int) < (os.length : Int) := by omega
          have rr0 : IntKind.i64.wrap (0 : Int) = 0 := IntWalk.i64_in _ (by omega)
          have rr1 : IntKind.i64.wrap (1 : Int) = 1 := IntWalk.i64_in _ (by omega)
          rcases (show pa = 0 ∨ pa = 1 by omega) with rfl | rfl
          all_goals
            cases xa
            all_goals
              simp at hcO
              first | (replace u3 : (qa : Int).tmod 2 = (0 : Int) := u3) | (replace u3 : (qa : Int).tmod 2 = (1 : Int) := u3)
              go_wp2
              go_quiet (fail)
              clear u1 u3 s2 t1 t2 t3 t4 rr0 rr1 hcO hcA cA q3 r0
              go_wp2
              go_roundw
              case rel => exact ⟨k + 1, by omega, by go_num, Lib.hid (below_drewN HBR.out _)⟩
              case measure => simp [intOf]; omega
        · have HBR0 := HBR
          have qm1 := HRr.out.cell 1
          simp at qm1
          clear HBR
          go_wp2
          clear qm1 q3 r0 HRr HKr hlt hk
          go_loopw [10] (fun iv wr => ∃ (k : Nat), k ≤ ns.length ∧ iv = .int .i64 k ∧ Hid (Below w9.heap.size w9 wr)) (fun iv _ => ns.length - (intOf iv).toNat)
          case atStart => exact ⟨0, Nat.zero_le _, rfl, HBR0⟩
          case round =>
            obtain ⟨k, hk, rfl, HBR⟩ := hrel
            have HRr := Lib.hid (HR9.out.below HBR.out HR9.out.lt)
            have HKr := Lib.hid (HK9.out.below HBR.out HK9.out.lt)
            have q1 := HRr.out.cell 1
            have r1 := HKr.out.cell 1
            simp at q1 r1
            by_cases hlt : k < ns.length
            · obtain ⟨b, off, rfl, hbl, hcA⟩ := HC9.out.next k hlt
              rw [← HBR.out.cell (by exact hbl)] at hcA
              obtain ⟨o1, o2⟩ := Circ.litsOk_get HLN.out (k := k) hlt
              obtain ⟨b2, off2, rfl, hbl2, hcO⟩ := HE.out k (by rw [Circ.outV_len]; exact hlt)
              rw [← HBR.out.cell (by exact hbl2), Circ.outV, Circ.litsV_get _ _ _ hlt] at hcO
              generalize ns.getD k 0 = va at *
              obtain ⟨qa, rfl⟩ := Int.eq_ofNat_of_zero_le o1
              have hka : qa / 2 < N := by have := HN1.out; have := H1.out; have := H2.out; omega
              obtain ⟨b3, off3, rfl, hbl3, cA⟩ := HVV.out (qa / 2) (by rw [HNN.out]; exact hka)
              rw [← HBR.out.cell (by exact hbl3)] at cA
              rw [litV_nat] at hcO
              clear o1 o2
              have u1 : (qa : Int).tdiv 2 = ((qa / 2 : Nat) : Int) := by rw [Int.tdiv_eq_ediv_of_nonneg (by omega)]; omega
              have u3 : (qa : Int).tmod 2 = ((qa % 2 : Nat) : Int) := by rw [Int.tmod_eq_emod_of_nonneg (by omega)]; omega
              have hpa : qa % 2 < 2 := Nat.mod_lt _ (by omega)
              generalize (Circ.valsOf gs st ins).getD (qa / 2) false = xa at *
              generalize qa / 2 = ka at *
              generalize qa % 2 = pa at *
              have s2 : IntKind.i64.wrap (ka : Int) = (ka : Int) := IntWalk.i64_in _ (by omega)
              have t1 : (0 : Int) ≤ (ka : Int) := by omega
              have t2 : (ka : Int) < (N : Int) := by omega
              have t3 : (0 : Int) ≤ (k : Int) := by omega
              have t4 : (k : Int) < (ns.length : Int) := by omega
              have rr0 : IntKind.i64.wrap (0 : Int) = 0 := IntWalk.i64_in _ (by omega)
              have rr1 : IntKind.i64.wrap (1 : Int) = 1 := IntWalk.i64_in _ (by omega)
              rcases (show pa = 0 ∨ pa = 1 by omega) with rfl | rfl
              all_goals
                cases xa
                all_goals
                  simp at hcO
                  first | (replace u3 : (qa : Int).tmod 2 = (0 : Int) := u3) | (replace u3 : (qa : Int).tmod 2 = (1 : Int) := u3)
                  go_wp2
                  go_quiet (fail)
                  clear u1 u3 s2 t1 t2 t3 t4 rr0 rr1 hcO hcA cA q1 r1
                  go_wp2
                  go_roundw
                  case rel => exact ⟨k + 1, by omega, by go_num, Lib.hid (below_drewN HBR.out _)⟩
                  case measure => simp [intOf]; omega
            · have HRq := Lib.hid (HR9.out.below HBR.out HR9.out.lt)
              have HKq := Lib.hid (HK9.out.below HBR.out HK9.out.lt)
              have qq1 := HRq.out.cell 1
              have qq3 := HRq.out.cell 3
              have rq0 := HKq.out.cell 0
              have rq1 := HKq.out.cell 1
              simp at qq1 qq3 rq0 rq1
              go_wp2
              go_ret
              exact ⟨rfl, HL9.out.trans (HBR.out.mono HL9.out.size)⟩
  · go_enter Try.func4, Try.ntmps4
    go_wp2
    go_ret
    exact ⟨rfl, Below.refl _ _⟩
end Go.Proofs.Ytbhkpjcflghgbaa
