/- The walk of the exact law of FindDifference. -/
import Derived.Test.YthpiddpkcmecfaaY10
import Derived.Test.YthpiddpkcmecfaaY5
import Derived.Test.YthpiddpkcmecfaaY13
import Derived.Test.YthpiddpkcmecfaaW6
import Derived.Deep.DeepCutAuto
import Derived.Deep.CutBlock
namespace Go.Proofs.Ythpiddpkcmecfaa
open Go.RowKit Go.Deep
set_option maxRecDepth 100000

theorem BSl.freshA {w : World} {lo : Nat} {A : Option Addr} {xs : List Bool} (h : BSl w lo A xs) : FreshA lo A := fun b off e => by
  rcases h with ⟨rfl, _⟩ | ⟨g, rfl, h1, _⟩
  · cases e
  · injection e with e; injection e with e; omega
theorem bel_dr {a u : World} (h : Below a.drew.heap.size a.drew u) : Below a.heap.size a u := (Below.refl _ a).drew.trans h
theorem bel_al_dr {a u : World} {o : Obj} (h : Below (a.alloc o).drew.heap.size (a.alloc o).drew u) : Below a.heap.size a u := (((Below.refl _ a).alloc (Nat.le_refl _) o).drew).trans (h.mono (by simp))
theorem bel_al {a u : World} {o : Obj} (h : Below (a.alloc o).heap.size (a.alloc o) u) : Below a.heap.size a u := ((Below.refl _ a).alloc (Nat.le_refl _) o).trans (h.mono (by simp))
theorem circ_on {w w' : World} {nA gA oA : Option Addr} {ns : List Int} {gs : List (Int × Int)} {os : List Int} (h : CircAt w w.heap.size nA gA oA ns gs os) (hb : Below w.heap.size w w') : CircAt w' w'.heap.size nA gA oA ns gs os := (h.below hb).mono hb.size
theorem circ_al {w : World} {o : Obj} {nA gA oA : Option Addr} {ns : List Int} {gs : List (Int × Int)} {os : List Int} (h : CircAt w w.heap.size nA gA oA ns gs os) : CircAt (w.alloc o) (w.alloc o).heap.size nA gA oA ns gs os := circ_on h ((Below.refl _ w).alloc (Nat.le_refl _) o)
theorem cc_on {w w' : World} {cc cx : Nat} {a0 a1 a2 a3 b0 b1 b2 b3 : Value} (hb : Below w.heap.size w w') (h : (w.cell? ⟨cc, 0, none⟩ = some a0 ∧ w.cell? ⟨cc, 1, none⟩ = some a1 ∧ w.cell? ⟨cc, 2, none⟩ = some a2 ∧ w.cell? ⟨cc, 3, none⟩ = some a3) ∧ w.cell? ⟨cx, 0, none⟩ = some b0 ∧ w.cell? ⟨cx, 1, none⟩ = some b1 ∧ w.cell? ⟨cx, 2, none⟩ = some b2 ∧ w.cell? ⟨cx, 3, none⟩ = some b3) : (w'.cell? ⟨cc, 0, none⟩ = some a0 ∧ w'.cell? ⟨cc, 1, none⟩ = some a1 ∧ w'.cell? ⟨cc, 2, none⟩ = some a2 ∧ w'.cell? ⟨cc, 3, none⟩ = some a3) ∧ w'.cell? ⟨cx, 0, none⟩ = some b0 ∧ w'.cell? ⟨cx, 1, none⟩ = some b1 ∧ w'.cell? ⟨cx, 2, none⟩ = some b2 ∧ w'.cell? ⟨cx, 3, none⟩ = some b3 := by
  have k : ∀ (a : Addr) (u : Value), w.cell? a = some u → w'.cell? a = some u := fun a u h => (hb.cell (World.block_lt_of_cell? w a h)).trans h
  exact ⟨⟨k _ _ h.1.1, k _ _ h.1.2.1, k _ _ h.1.2.2.1, k _ _ h.1.2.2.2⟩, k _ _ h.2.1, k _ _ h.2.2.1, k _ _ h.2.2.2.1, k _ _ h.2.2.2.2⟩
theorem cc_swap {u : World} {o o' : Obj} {cc cx : Nat} {a0 a1 a2 a3 b0 b1 b2 b3 : Value} (h1 : cc < u.heap.size) (h2 : cx < u.heap.size) (h : ((u.alloc o).cell? ⟨cc, 0, none⟩ = some a0 ∧ (u.alloc o).cell? ⟨cc, 1, none⟩ = some a1 ∧ (u.alloc o).cell? ⟨cc, 2, none⟩ = some a2 ∧ (u.alloc o).cell? ⟨cc, 3, none⟩ = some a3) ∧ (u.alloc o).cell? ⟨cx, 0, none⟩ = some b0 ∧ (u.alloc o).cell? ⟨cx, 1, none⟩ = some b1 ∧ (u.alloc o).cell? ⟨cx, 2, none⟩ = some b2 ∧ (u.alloc o).cell? ⟨cx, 3, none⟩ = some b3) : ((u.alloc o').cell? ⟨cc, 0, none⟩ = some a0 ∧ (u.alloc o').cell? ⟨cc, 1, none⟩ = some a1 ∧ (u.alloc o').cell? ⟨cc, 2, none⟩ = some a2 ∧ (u.alloc o').cell? ⟨cc, 3, none⟩ = some a3) ∧ (u.alloc o').cell? ⟨cx, 0, none⟩ = some b0 ∧ (u.alloc o').cell? ⟨cx, 1, none⟩ = some b1 ∧ (u.alloc o').cell? ⟨cx, 2, none⟩ = some b2 ∧ (u.alloc o').cell? ⟨cx, 3, none⟩ = some b3 := by
  have k1 : ∀ o off, (u.alloc o).cell? ⟨cc, off, none⟩ = u.cell? ⟨cc, off, none⟩ := fun o off => World.cell?_alloc_lt u o ⟨cc, off, none⟩ h1
  have k2 : ∀ o off, (u.alloc o).cell? ⟨cx, off, none⟩ = u.cell? ⟨cx, off, none⟩ := fun o off => World.cell?_alloc_lt u o ⟨cx, off, none⟩ h2
  simp only [k1, k2] at h ⊢
  exact h
theorem cc_set {w : World} {cc cx P j : Nat} {u a0 a1 a2 a3 b0 b1 b2 b3 : Value} (h1 : P ≠ cc) (h2 : P ≠ cx) (h : (w.cell? ⟨cc, 0, none⟩ = some a0 ∧ w.cell? ⟨cc, 1, none⟩ = some a1 ∧ w.cell? ⟨cc, 2, none⟩ = some a2 ∧ w.cell? ⟨cc, 3, none⟩ = some a3) ∧ w.cell? ⟨cx, 0, none⟩ = some b0 ∧ w.cell? ⟨cx, 1, none⟩ = some b1 ∧ w.cell? ⟨cx, 2, none⟩ = some b2 ∧ w.cell? ⟨cx, 3, none⟩ = some b3) : ((w.setCell ⟨P, j, none⟩ u).cell? ⟨cc, 0, none⟩ = some a0 ∧ (w.setCell ⟨P, j, none⟩ u).cell? ⟨cc, 1, none⟩ = some a1 ∧ (w.setCell ⟨P, j, none⟩ u).cell? ⟨cc, 2, none⟩ = some a2 ∧ (w.setCell ⟨P, j, none⟩ u).cell? ⟨cc, 3, none⟩ = some a3) ∧ (w.setCell ⟨P, j, none⟩ u).cell? ⟨cx, 0, none⟩ = some b0 ∧ (w.setCell ⟨P, j, none⟩ u).cell? ⟨cx, 1, none⟩ = some b1 ∧ (w.setCell ⟨P, j, none⟩ u).cell? ⟨cx, 2, none⟩ = some b2 ∧ (w.setCell ⟨P, j, none⟩ u).cell? ⟨cx, 3, none⟩ = some b3 := by
  have k1 : ∀ o, (w.setCell ⟨P, j, none⟩ u).cell? ⟨cc, o, none⟩ = w.cell? ⟨cc, o, none⟩ := fun o => World.cell?_setCell_far w ⟨P, j, none⟩ ⟨cc, o, none⟩ u h1
  have k2 : ∀ o, (w.setCell ⟨P, j, none⟩ u).cell? ⟨cx, o, none⟩ = w.cell? ⟨cx, o, none⟩ := fun o => World.cell?_setCell_far w ⟨P, j, none⟩ ⟨cx, o, none⟩ u h2
  simp only [k1, k2]
  exact h
theorem sfind_val (i : Int) (nA gA oA : Option Addr) (nc gc oc : Nat) (ns : List Int) (gs : List (Int × Int)) (os : List Int) (i' : Int) (nA' gA' oA' : Option Addr) (nc' gc' oc' : Nat) (ns' : List Int) (gs' : List (Int × Int)) (os' : List Int) (fd : Bool × List Bool × List Bool) (w : World) (hfd : Circ.fdV i ns gs os i' ns' gs' os' = fd) (hc : CircAt w w.heap.size nA gA oA ns gs os) (hd : CircAt w w.heap.size nA' gA' oA' ns' gs' os') :
    Calls Try.prog 33 #[.agg #[.int .i64 i, .slice nA ns.length nc, .slice gA gs.length gc, .slice oA os.length oc], .agg #[.int .i64 i', .slice nA' ns'.length nc', .slice gA' gs'.length gc', .slice oA' os'.length oc']] w fun e w' => ∃ (A1 A2 : Option Addr) (c1 c2 : Nat), e = .returned (.agg #[.bool fd.1, .slice A1 fd.2.1.length c1, .slice A2 fd.2.2.length c2]) ∧ BoolsAt w' w'.heap.size A1 fd.2.1 ∧ BoolsAt w' w'.heap.size A2 fd.2.2 ∧ Below w.heap.size w w' ∧ FreshA w.heap.size A1 ∧ FreshA w.heap.size A2 := by
  subst hfd
  exact (sfind_new i nA gA oA nc gc oc ns gs os i' nA' gA' oA' nc' gc' oc' ns' gs' os' w hc hd).mono fun _ _ ⟨A1, A2, c1, c2, he, h1, h2, hb, f1, f2⟩ => ⟨A1, A2, c1, c2, he, h1, h2, hb, f1, f2⟩
theorem find_val (i : Int) (nA gA oA : Option Addr) (nc gc oc : Nat) (ns : List Int) (gs : List (Int × Int)) (os : List Int) (i' : Int) (nA' gA' oA' : Option Addr) (nc' gc' oc' : Nat) (ns' : List Int) (gs' : List (Int × Int)) (os' : List Int) (fd : Bool × List Bool × List Bool) (w : World) (hfd : Circ.fdV i ns gs os i' ns' gs' os' = fd) (hc : CircAt w w.heap.size nA gA oA ns gs os) (hd : CircAt w w.heap.size nA' gA' oA' ns' gs' os') :
    Calls Try.prog 32 #[.agg #[.int .i64 i, .slice nA ns.length nc, .slice gA gs.length gc, .slice oA os.length oc], .agg #[.int .i64 i', .slice nA' ns'.length nc', .slice gA' gs'.length gc', .slice oA' os'.length oc']] w fun e w' => ∃ (A1 A2 : Option Addr) (c1 c2 : Nat), e = .returned (.agg #[.bool fd.1, .slice A1 fd.2.1.length c1, .slice A2 fd.2.2.length c2]) ∧ BoolsAt w' w'.heap.size A1 fd.2.1 ∧ BoolsAt w' w'.heap.size A2 fd.2.2 ∧ Below w.heap.size w w' ∧ FreshA w.heap.size A1 ∧ FreshA w.heap.size A2 := by
  subst hfd
  exact (find_any i nA gA oA nc gc oc ns gs os i' nA' gA' oA' nc' gc' oc' ns' gs' os' w hc hd).mono fun _ _ ⟨A1, A2, he, hp, hb⟩ => ⟨A1, A2, _, _, he, hp.fst.bools, hp.snd.bools, hb, hp.fst.freshA, hp.snd.freshA⟩
theorem BoolsAt.far3 {w : World} {lo P : Nat} {A : Option Addr} {xs : List Bool} (h : BoolsAt w w.heap.size A xs) (hf : FreshA lo A) (hP : P < lo) (u0 u1 u2 : Value) : BoolsAt (((w.setCell ⟨P, 0, none⟩ u0).setCell ⟨P, 1, none⟩ u1).setCell ⟨P, 2, none⟩ u2) (((w.setCell ⟨P, 0, none⟩ u0).setCell ⟨P, 1, none⟩ u1).setCell ⟨P, 2, none⟩ u2).heap.size A xs := by
  have hne : ∀ b off, A = some ⟨b, off, none⟩ → b ≠ P := fun b off e => by have := hf b off e; omega
  exact ((h.far ⟨P, 0, none⟩ u0 hne).far ⟨P, 1, none⟩ u1 hne).far ⟨P, 2, none⟩ u2 hne
theorem CircRows.mid {w w' : World} {B g1 g2 g3 lo hi : Nat} {ns : List Int} {gs : List (Int × Int)} {os : List Int} (h : CircRows w B g1 g2 g3 ns gs os) (hm : Mid lo hi w w') (hB : hi ≤ B) : CircRows w' B g1 g2 g3 ns gs os := by
  have h0 := h.b0
  have h1 := h.b1
  have h2 := h.b2
  obtain ⟨c1, r1, k1⟩ := h.next
  obtain ⟨c2, r2, k2⟩ := h.gates
  obtain ⟨c3, r3, k3⟩ := h.outs
  exact ⟨⟨c1, hm.row r1 (by omega), k1⟩, ⟨c2, hm.row r2 (by omega), k2⟩, ⟨c3, hm.row r3 (by omega), k3⟩, h.nl, h.gl, h.ol, h0, h1, h2⟩
set_option maxHeartbeats 400000 in
theorem markCircuit_big (i : Int) (B g1 g2 g3 k : Nat) (ns : List Int) (gs : List (Int × Int)) (os : List Int) (w : World) (h : CircRows w B g1 g2 g3 ns gs os) (hnl : ns.length ≤ 2000000) (hgl : gs.length ≤ 2000000) (hol : os.length ≤ 2000000) (hk : k ≤ 10000000) :
    Calls Try.prog 40 #[.agg #[.int .i64 i, .slice (some ⟨g1, 0, none⟩) ns.length ns.length, .slice (some ⟨g2, 0, none⟩) gs.length gs.length, .slice (some ⟨g3, 0, none⟩) os.length os.length], .int .i64 k] w fun e w' =>
      e = .returned (.int .i64 ((k + ns.length + 2 * gs.length + os.length : Nat) : Int)) ∧ Mid g1 (g3 + 1) w w' := by
  have h12 := h.b1
  have h23 := h.b2
  have hz3 := h.outs.lt
  obtain ⟨cs1, hr1, hs1⟩ := h.next.slots
  obtain ⟨cs2, hr2, hs2⟩ := h.gates.slots
  obtain ⟨cs3, hr3, hs3⟩ := h.outs.slots
  have hbw : Below w.heap.size w (w.alloc (.cells #[.int .i64 i, .slice (some ⟨g1, 0, none⟩) ns.length ns.length, .slice (some ⟨g2, 0, none⟩) gs.length gs.length, .slice (some ⟨g3, 0, none⟩) os.length os.length] 26)) := (Below.refl _ _).alloc (Nat.le_refl _) _
  have r0 : Row (w.alloc (.cells #[.int .i64 i, .slice (some ⟨g1, 0, none⟩) ns.length ns.length, .slice (some ⟨g2, 0, none⟩) gs.length gs.length, .slice (some ⟨g3, 0, none⟩) os.length os.length] 26)) w.heap.size 26 #[.int .i64 i, .slice (some ⟨g1, 0, none⟩) ns.length ns.length, .slice (some ⟨g2, 0, none⟩) gs.length gs.length, .slice (some ⟨g3, 0, none⟩) os.length os.length] := heap_alloc_new w _
  have HR0 := Lib.hid r0
  have HM0 := Lib.hid (Below.mid hbw (Nat.le_refl _) g1 (g3 + 1))
  have H1 := Lib.hid (hr1.below hbw hr1.lt)
  have H2 := Lib.hid (hr2.below hbw hr2.lt)
  have H3 := Lib.hid (hr3.below hbw hr3.lt)
  have S1 := Lib.hid hs1
  have S2 := Lib.hid hs2
  have S3 := Lib.hid hs3
  clear h hr1 hr2 hr3 hs1 hs2 hs3 hbw r0
  go_enter Try.func40, Try.ntmps40
  go_wp2_with fail
  refine (markI_row g1 _ k cs1 _ H1.out S1.out hnl (by omega)).mono ?_
  rintro e w1 ⟨rfl, ho1⟩
  have HR1 := Lib.hid (ho1.row HR0.out (by intro e; injection e; omega))
  have HM1 := Lib.hid (HM0.out.trans (ho1.mid (Nat.le_refl _) (by omega)))
  have H21 := Lib.hid (ho1.row H2.out (by intro e; injection e; omega))
  have H31 := Lib.hid (ho1.row H3.out (by intro e; injection e; omega))
  clear ho1 HR0 HM0 H1 H2 H3
  have q2 := HR1.out.cell 2
  simp at q2
  generalize hk1 : k + ns.length = k1 at *
  have HK1 := Lib.hid hk1
  have hk1b : k1 ≤ 13000000 := by omega
  clear hk1
  go_wp2_with fail
  refine (markG_row g2 _ k1 cs2 _ H21.out S2.out hgl (by omega)).mono ?_
  rintro e w2 ⟨rfl, ho2⟩
  have HR2 := Lib.hid (ho2.row HR1.out (by intro e; injection e; omega))
  have HM2 := Lib.hid (HM1.out.trans (ho2.mid (by omega) (by omega)))
  have H32 := Lib.hid (ho2.row H31.out (by intro e; injection e; omega))
  clear ho2 HR1 HM1 H21 H31 q2
  have q3 := HR2.out.cell 3
  simp at q3
  generalize hk2 : k1 + 2 * gs.length = k2 at *
  have HK2 := Lib.hid hk2
  have hk2b : k2 ≤ 20000000 := by omega
  clear hk2
  go_wp2_with fail
  refine (markI_row g3 _ k2 cs3 _ H32.out S3.out hol (by omega)).mono ?_
  rintro e w3 ⟨rfl, ho3⟩
  have HM3 := Lib.hid (HM2.out.trans (ho3.mid (by omega) (by omega)))
  clear ho3
  go_wp2
  go_ret
  exact ⟨ret_int (by have h1 := HK1.out; have h2 := HK2.out; omega), HM3.out⟩
theorem fdV_leX (i : Int) (ns : List Int) (gs : List (Int × Int)) (os : List Int) (i' : Int) (ns' : List Int) (gs' : List (Int × Int)) (os' : List Int) : (Circ.fdV i ns gs os i' ns' gs' os').2.1.length ≤ 1000 ∧ (Circ.fdV i ns gs os i' ns' gs' os').2.2.length ≤ 1000 := by
  unfold Circ.fdV
  split
  · rename_i hs
    obtain ⟨h0, h1, h2, _, _⟩ := Circ.valid_within (Circ.sameIf_inv hs).1
    cases Circ.firstD i.toNat ns.length ns gs os ns' gs' os'
    · simp
    · simp only [Circ.bitsN_len]
      exact ⟨by omega, by omega⟩
  · simp

set_option maxHeartbeats 8000000 in
theorem xfind_walk (i : Int) (nA gA oA : Option Addr) (nc gc oc : Nat) (ns : List Int) (gs : List (Int × Int)) (os : List Int) (i' : Int) (nA' gA' oA' : Option Addr) (nc' gc' oc' : Nat) (ns' : List Int) (gs' : List (Int × Int)) (os' : List Int) (w : World) (hc : CircAt w w.heap.size nA gA oA ns gs os) (hd : CircAt w w.heap.size nA' gA' oA' ns' gs' os') :
    Calls Try.prog 12 #[.agg #[.int .i64 i, .slice nA ns.length nc, .slice gA gs.length gc, .slice oA os.length oc], .agg #[.int .i64 i', .slice nA' ns'.length nc', .slice gA' gs'.length gc', .slice oA' os'.length oc']] w fun e w' => e = .returned (.bool true) ∧ Below w.heap.size w w' := by
  have HC := Lib.hid hc
  have HD := Lib.hid hd
  clear hc hd
  by_cases hsz : (ns.length : Int) + gs.length + os.length ≤ 1048576
  · by_cases hsy : (ns'.length : Int) + gs'.length + os'.length ≤ 1048576 - (ns.length : Int) - gs.length - os.length
    · have hbw : Below w.heap.size w ((w.alloc (.cells #[.int .i64 i, .slice nA ns.length nc, .slice gA gs.length gc, .slice oA os.length oc] 55)).alloc (.cells #[.int .i64 i', .slice nA' ns'.length nc', .slice gA' gs'.length gc', .slice oA' os'.length oc'] 55)) := ((Below.refl _ _).alloc (Nat.le_refl _) _).alloc (by simp) _
      have HL0 := Lib.hid hbw
      have r0 : Row ((w.alloc (.cells #[.int .i64 i, .slice nA ns.length nc, .slice gA gs.length gc, .slice oA os.length oc] 55)).alloc (.cells #[.int .i64 i', .slice nA' ns'.length nc', .slice gA' gs'.length gc', .slice oA' os'.length oc'] 55)) w.heap.size 55 #[.int .i64 i, .slice nA ns.length nc, .slice gA gs.length gc, .slice oA os.length oc] := (Below.heap_alloc _ _ _ (by simp)).trans (heap_alloc_new w _)
      have r1 : Row ((w.alloc (.cells #[.int .i64 i, .slice nA ns.length nc, .slice gA gs.length gc, .slice oA os.length oc] 55)).alloc (.cells #[.int .i64 i', .slice nA' ns'.length nc', .slice gA' gs'.length gc', .slice oA' os'.length oc'] 55)) (w.heap.size + 1) 55 #[.int .i64 i', .slice nA' ns'.length nc', .slice gA' gs'.length gc', .slice oA' os'.length oc'] := by
        have := heap_alloc_new (w.alloc (.cells #[.int .i64 i, .slice nA ns.length nc, .slice gA gs.length gc, .slice oA os.length oc] 55)) (.cells #[.int .i64 i', .slice nA' ns'.length nc', .slice gA' gs'.length gc', .slice oA' os'.length oc'] 55)
        simpa [Row] using this
      have HR0 := Lib.hid r0
      have HS0 := Lib.hid r1
      clear hbw r0 r1
      have hl0 : (0 : Int) ≤ 1048576 - (ns.length : Int) - gs.length - os.length := by omega
      go_enter Try.func12, Try.ntmps12
      go_wp2_with fail
      refine (szCircuit_ok _ _ _ _ _ _ _ _ _ _ _ _ hsz (by omega)).mono ?_
      rintro e w1 ⟨rfl, hb1⟩
      have HR1 := Lib.hid (HR0.out.below hb1 HR0.out.lt)
      have HS1 := Lib.hid (HS0.out.below hb1 HS0.out.lt)
      have HL1 := Lib.hid (HL0.out.trans (hb1.mono HL0.out.size))
      clear hb1 HR0 HS0 HL0
      have s0 := HS1.out.cell 0
      have s1 := HS1.out.cell 1
      have s2 := HS1.out.cell 2
      have s3 := HS1.out.cell 3
      simp at s0 s1 s2 s3
      go_wp2_with fail
      refine (szCircuit_ok _ _ _ _ _ _ _ _ _ _ _ _ hsy (by omega)).mono ?_
      rintro e w2 ⟨rfl, hb2⟩
      clear s0 s1 s2 s3
      have HR2 := Lib.hid (HR1.out.below hb2 HR1.out.lt)
      have HS2 := Lib.hid (HS1.out.below hb2 HS1.out.lt)
      have HL2 := Lib.hid (HL1.out.trans (hb2.mono HL1.out.size))
      clear hb2 HR1 HS1 HL1
      obtain ⟨fd, HFD⟩ : ∃ fd, Hid (Circ.fdV i ns gs os i' ns' gs' os' = fd) := ⟨_, Lib.hid rfl⟩
      have q0 := HR2.out.cell 0
      have q1 := HR2.out.cell 1
      have q2 := HR2.out.cell 2
      have q3 := HR2.out.cell 3
      simp at q0 q1 q2 q3
      have s0 := HS2.out.cell 0
      have s1 := HS2.out.cell 1
      have s2 := HS2.out.cell 2
      have s3 := HS2.out.cell 3
      simp at s0 s1 s2 s3
      have hz1 := HR2.out.lt
      have hz2 := HS2.out.lt
      go_upto_region 8 with fail
      go_cut [6] (fun pv wx => ∃ (wz : World) (P : Nat) (A1 A2 : Option Addr) (c1 c2 : Nat), wz = wx ∧ pv = .pointer (some ⟨P, 0, none⟩) ∧ w2.heap.size ≤ P ∧ Hid (Row wx P 50 #[.bool fd.1, .slice A1 fd.2.1.length c1, .slice A2 fd.2.2.length c2]) ∧ Hid (BoolsAt wx wx.heap.size A1 fd.2.1) ∧ Hid (BoolsAt wx wx.heap.size A2 fd.2.2) ∧ Hid (Below w2.heap.size w2 wx))
      case first =>
        have tok0 : True := trivial
        go_region_held3 (fun w' => (w'.cell? ⟨w.heap.size, 0, none⟩ = some (.int .i64 i) ∧ w'.cell? ⟨w.heap.size, 1, none⟩ = some (.slice nA ns.length nc) ∧ w'.cell? ⟨w.heap.size, 2, none⟩ = some (.slice gA gs.length gc) ∧ w'.cell? ⟨w.heap.size, 3, none⟩ = some (.slice oA os.length oc)) ∧ w'.cell? ⟨w.heap.size + 1, 0, none⟩ = some (.int .i64 i') ∧ w'.cell? ⟨w.heap.size + 1, 1, none⟩ = some (.slice nA' ns'.length nc') ∧ w'.cell? ⟨w.heap.size + 1, 2, none⟩ = some (.slice gA' gs'.length gc') ∧ w'.cell? ⟨w.heap.size + 1, 3, none⟩ = some (.slice oA' os'.length oc'))
          (first | go_keep | (with_reducible exact cc_on hb3 (by assumption)) | (with_reducible exact cc_on hb2 (by assumption)) | (with_reducible exact cc_on hb1 (by assumption)) | (with_reducible exact cc_swap (by omega) (by omega) (by assumption)) | (with_reducible exact cc_set (by omega) (by omega) (cc_set (by omega) (by omega) (cc_set (by omega) (by omega) (by assumption)))))
          (first
            | (clear tok0; go_at_call 38; refine (toCircuit_any i nA gA oA nc gc oc ns gs os _ ?_ ?_ ?_ ?_).mono ?_; (first | with_reducible exact circ_on HC.out HL2.out.drew | with_reducible exact circ_on HC.out (HL2.out.alloc HL2.out.size _).drew); (omega); (omega); (omega); rintro e u1 ⟨e1, e2, e3, f1, f2, f3, rfl, hC1, hb1⟩; have hw1 : Below w2.heap.size w2 u1 := (by first | with_reducible exact bel_dr hb1 | with_reducible exact bel_al_dr hb1); have hz1' := hw1.size; (first | (have hrq := Row.below (w := (w2.alloc (.cells #[.bool false, .slice none 0 0, .slice none 0 0] 50)).drew) (heap_alloc_new w2 _) hb1 (by simp)) | skip); have tokA : True := trivial)
            | (clear tokA; go_at_call 38; have hq1 := (HL2.out.trans (hw1.mono HL2.out.size)); refine (toCircuit_any i' nA' gA' oA' nc' gc' oc' ns' gs' os' _ ?_ ?_ ?_ ?_).mono ?_; (first | with_reducible exact circ_on HD.out hq1 | with_reducible exact circ_on HD.out (hq1.alloc hq1.size _)); (omega); (omega); (omega); rintro e u2 ⟨y1, y2, y3, z1, z2, z3, rfl, hC2, hb2⟩; have hv2 : Below u1.heap.size u1 u2 := (by first | with_reducible exact hb2 | with_reducible exact bel_al hb2); have hw2 := hw1.trans (hv2.mono hz1'); have hz2' := hw2.size; have hC1' := (hC1.below hv2).mono hv2.size; (first | (revert hrq; intro hrq; have hrp := Row.below hrq hb2 hrq.lt; clear hrq; have hrq := hrp; clear hrp) | (have hrq := Row.below (w := (u1.alloc (.cells #[.bool false, .slice none 0 0, .slice none 0 0] 50))) (heap_alloc_new u1 _) hb2 (by simp)) | skip); have tokB : True := trivial)
            | (clear tokB; go_at_call 33; (first | (with_reducible refine (sfind_val i e1 e2 e3 f1 f2 f3 ns gs os i' y1 y2 y3 z1 z2 z3 ns' gs' os' fd _ HFD.out hC1' hC2).mono ?_) | (with_reducible refine (sfind_val i e1 e2 e3 f1 f2 f3 ns gs os i' y1 y2 y3 z1 z2 z3 ns' gs' os' fd _ HFD.out (circ_al hC1') (circ_al hC2)).mono ?_)); rintro e u3 ⟨A1, A2, c1, c2, rfl, hx1, hx2, hb3, hn1, hn2⟩; have hv3 : Below u2.heap.size u2 u3 := (by first | with_reducible exact hb3 | with_reducible exact bel_al hb3); have hw3 := hw2.trans (hv3.mono hz2'); have hz3' := hw3.size; (first | (revert hrq; intro hrq; have hrl := hrq.lt; have hrp := Row.below hrq hb3 hrl; clear hrq; have hrq := hrp; clear hrp) | (have hrl : u2.heap.size < (u2.alloc (.cells #[.bool false, .slice none 0 0, .slice none 0 0] 50)).heap.size := (by simp); have hrq := Row.below (w := (u2.alloc (.cells #[.bool false, .slice none 0 0, .slice none 0 0] 50))) (heap_alloc_new u2 _) hb3 hrl) | skip); (first | (revert hrq; intro hrq; have x0 := hrq.cell 0; have x1 := hrq.cell 1; have x2 := hrq.cell 2; have g0 := hrq.frozen 0; have g1 := hrq.frozen 1; have g2 := hrq.frozen 2; simp at x0 x1 x2) | skip)))
        all_goals
          go_wp2_with fail
          go_meet
          first
            | (revert hrq; intro hrq; refine ⟨_, _, A1, A2, c1, c2, rfl, rfl, (by first | exact Nat.le_refl _ | exact hz1' | exact hz2'), Lib.hid (by have h := ((hrq.set 0 (.bool fd.1)).set 1 (.slice A1 fd.2.1.length c1)).set 2 (.slice A2 fd.2.2.length c2); simpa using h), Lib.hid (BoolsAt.far3 hx1 hn1 hrl _ _ _), Lib.hid (BoolsAt.far3 hx2 hn2 hrl _ _ _), Lib.hid (((hw3.setCell (by show w2.heap.size ≤ _; first | exact Nat.le_refl _ | exact hz1' | exact hz2') _).setCell (by show w2.heap.size ≤ _; first | exact Nat.le_refl _ | exact hz1' | exact hz2') _).setCell (by show w2.heap.size ≤ _; first | exact Nat.le_refl _ | exact hz1' | exact hz2') _)⟩; done)
            | (refine ⟨_, _, A1, A2, c1, c2, rfl, rfl, hz3', Lib.hid (heap_alloc_new u3 _), Lib.hid (hx1.on ((Below.refl _ u3).alloc (Nat.le_refl _) _)), Lib.hid (hx2.on ((Below.refl _ u3).alloc (Nat.le_refl _) _)), Lib.hid (hw3.alloc hz3' _)⟩; done)
      case rest =>
        obtain ⟨w3, cw, wA, wB, wc, wd, hwz, rfl, hcwl, HP3, HW3, HU3, HB3⟩ := hcut
        subst hwz
        have hb3 := HB3.out
        clear HB3 q0 q1 q2 q3 s0 s1 s2 s3 hz1 hz2
        have hf1 : fd.2.1.length ≤ 1000 := by rw [← HFD.out]; exact (fdV_leX _ _ _ _ _ _ _ _).1
        have hf2 : fd.2.2.length ≤ 1000 := by rw [← HFD.out]; exact (fdV_leX _ _ _ _ _ _ _ _).2
        have HR3 := Lib.hid (HR2.out.below hb3 HR2.out.lt)
        have HS3 := Lib.hid (HS2.out.below hb3 HS2.out.lt)
        have HL3 := Lib.hid (HL2.out.trans (hb3.mono HL2.out.size))
        clear hb3 HR2 HS2 HL2
        obtain ⟨s1, hs1e⟩ : ∃ s1 : Nat, w3.heap.size = s1 := ⟨_, rfl⟩
        have hcs1 : cw < s1 := by have := HP3.out.lt; omega
        have hws1 : w.heap.size + 1 < s1 := by have := HS3.out.lt; omega
        have hsv3 : s1 ≤ w3.heap.size := by omega
        rw [hs1e] at HW3 HU3
        have q0 := HR3.out.cell 0
        have q1 := HR3.out.cell 1
        have q2 := HR3.out.cell 2
        have q3 := HR3.out.cell 3
        simp at q0 q1 q2 q3
        go_wp2_with fail
        refine (toCircuit_rows i nA gA oA nc gc oc ns gs os _ ((HC.out.below HL3.out).mono HL3.out.size) (by omega) (by omega) (by omega)).mono ?_
        rintro e w4 ⟨b1, b2, b3, rfl, hx4, hb4⟩
        rw [hs1e] at hx4
        clear q0 q1 q2 q3 hs1e
        have HX4 := Lib.hid hx4
        clear hx4
        have hsv4 : s1 ≤ w4.heap.size := Nat.le_trans hsv3 hb4.size
        have HR4 := Lib.hid (HR3.out.below hb4 HR3.out.lt)
        have HS4 := Lib.hid (HS3.out.below hb4 HS3.out.lt)
        have HL4 := Lib.hid (HL3.out.trans (hb4.mono HL3.out.size))
        have HP4 := Lib.hid (HP3.out.below hb4 HP3.out.lt)
        have HW4 := Lib.hid (HW3.out.below (hb4.mono (by omega)))
        have HU4 := Lib.hid (HU3.out.below (hb4.mono (by omega)))
        clear hb4 HR3 HS3 HL3 HP3 HW3 HU3
        have m0 := HS4.out.cell 0
        have m1 := HS4.out.cell 1
        have m2 := HS4.out.cell 2
        have m3 := HS4.out.cell 3
        simp at m0 m1 m2 m3
        have hsl := HS4.out.lt
        have hsn : w.heap.size + 1 ≠ w4.heap.size := by omega
        have hb5 : Below w4.heap.size w4 (w4.alloc (.cells #[.int .i64 i, .slice (some ⟨b1, 0, none⟩) ns.length ns.length, .slice (some ⟨b2, 0, none⟩) gs.length gs.length, .slice (some ⟨b3, 0, none⟩) os.length os.length] 26)) := (Below.refl _ _).alloc (Nat.le_refl _) _
        have HV5 : Hid (Row (w4.alloc (.cells #[.int .i64 i, .slice (some ⟨b1, 0, none⟩) ns.length ns.length, .slice (some ⟨b2, 0, none⟩) gs.length gs.length, .slice (some ⟨b3, 0, none⟩) os.length os.length] 26)) w4.heap.size 26 #[.int .i64 i, .slice (some ⟨b1, 0, none⟩) ns.length ns.length, .slice (some ⟨b2, 0, none⟩) gs.length gs.length, .slice (some ⟨b3, 0, none⟩) os.length os.length]) := Lib.hid (heap_alloc_new w4 _)
        have hcz : b3 < w4.heap.size := HX4.out.outs.lt
        have hsv5 : s1 ≤ (w4.alloc (.cells #[.int .i64 i, .slice (some ⟨b1, 0, none⟩) ns.length ns.length, .slice (some ⟨b2, 0, none⟩) gs.length gs.length, .slice (some ⟨b3, 0, none⟩) os.length os.length] 26)).heap.size := Nat.le_trans hsv4 hb5.size
        have HR5 := Lib.hid (HR4.out.below hb5 HR4.out.lt)
        have HS5 := Lib.hid (HS4.out.below hb5 HS4.out.lt)
        have HL5 := Lib.hid (HL4.out.trans (hb5.mono HL4.out.size))
        have HP5 := Lib.hid (HP4.out.below hb5 HP4.out.lt)
        have HW5 := Lib.hid (HW4.out.below (hb5.mono (by omega)))
        have HU5 := Lib.hid (HU4.out.below (hb5.mono (by omega)))
        have HX5 := Lib.hid (HX4.out.below hb5)
        clear hb5 HR4 HS4 HL4 HP4 HW4 HU4 HX4
        go_wp2_with fail
        generalize w4.alloc (.cells #[.int .i64 i, .slice (some ⟨b1, 0, none⟩) ns.length ns.length, .slice (some ⟨b2, 0, none⟩) gs.length gs.length, .slice (some ⟨b3, 0, none⟩) os.length os.length] 26) = w5 at *
        generalize w4.heap.size = c0 at *
        clear m0 m1 m2 m3 hsl hsn
        refine (toCircuit_rows i' nA' gA' oA' nc' gc' oc' ns' gs' os' _ ((HD.out.below HL5.out).mono HL5.out.size) (by omega) (by omega) (by omega)).mono ?_
        rintro e w6 ⟨d1, d2, d3, rfl, hx6, hb6⟩
        obtain ⟨s9, hs9e⟩ : ∃ s9 : Nat, w5.heap.size = s9 := ⟨_, rfl⟩
        have hs9 : c0 < s9 := by have := HV5.out.lt; omega
        rw [hs9e] at hx6
        clear hs9e
        have HY6 := Lib.hid hx6
        clear hx6
        have hsv6 : s1 ≤ w6.heap.size := Nat.le_trans hsv5 hb6.size
        have HR6 := Lib.hid (HR5.out.below hb6 HR5.out.lt)
        have HS6 := Lib.hid (HS5.out.below hb6 HS5.out.lt)
        have HL6 := Lib.hid (HL5.out.trans (hb6.mono HL5.out.size))
        have HP6 := Lib.hid (HP5.out.below hb6 HP5.out.lt)
        have HW6 := Lib.hid (HW5.out.below (hb6.mono (by omega)))
        have HU6 := Lib.hid (HU5.out.below (hb6.mono (by omega)))
        have HX6 := Lib.hid (HX5.out.below hb6)
        have HV6 := Lib.hid (HV5.out.below hb6 HV5.out.lt)
        clear hb6 HR5 HS5 HL5 HP5 HW5 HU5 HX5 HV5
        have p0 := HV6.out.cell 0
        have p1 := HV6.out.cell 1
        have p2 := HV6.out.cell 2
        have p3 := HV6.out.cell 3
        simp at p0 p1 p2 p3
        have hpl := HV6.out.lt
        have hpn : c0 ≠ w6.heap.size := by omega
        have hb7 : Below w6.heap.size w6 (w6.alloc (.cells #[.int .i64 i', .slice (some ⟨d1, 0, none⟩) ns'.length ns'.length, .slice (some ⟨d2, 0, none⟩) gs'.length gs'.length, .slice (some ⟨d3, 0, none⟩) os'.length os'.length] 26)) := (Below.refl _ _).alloc (Nat.le_refl _) _
        have HT7 : Hid (Row (w6.alloc (.cells #[.int .i64 i', .slice (some ⟨d1, 0, none⟩) ns'.length ns'.length, .slice (some ⟨d2, 0, none⟩) gs'.length gs'.length, .slice (some ⟨d3, 0, none⟩) os'.length os'.length] 26)) w6.heap.size 26 #[.int .i64 i', .slice (some ⟨d1, 0, none⟩) ns'.length ns'.length, .slice (some ⟨d2, 0, none⟩) gs'.length gs'.length, .slice (some ⟨d3, 0, none⟩) os'.length os'.length]) := Lib.hid (heap_alloc_new w6 _)
        have hcy : d3 < w6.heap.size := HY6.out.outs.lt
        have hsv7 : s1 ≤ (w6.alloc (.cells #[.int .i64 i', .slice (some ⟨d1, 0, none⟩) ns'.length ns'.length, .slice (some ⟨d2, 0, none⟩) gs'.length gs'.length, .slice (some ⟨d3, 0, none⟩) os'.length os'.length] 26)).heap.size := Nat.le_trans hsv6 hb7.size
        have HR7 := Lib.hid (HR6.out.below hb7 HR6.out.lt)
        have HS7 := Lib.hid (HS6.out.below hb7 HS6.out.lt)
        have HL7 := Lib.hid (HL6.out.trans (hb7.mono HL6.out.size))
        have HP7 := Lib.hid (HP6.out.below hb7 HP6.out.lt)
        have HW7 := Lib.hid (HW6.out.below (hb7.mono (by omega)))
        have HU7 := Lib.hid (HU6.out.below (hb7.mono (by omega)))
        have HX7 := Lib.hid (HX6.out.below hb7)
        have HV7 := Lib.hid (HV6.out.below hb7 HV6.out.lt)
        have HY7 := Lib.hid (HY6.out.below hb7)
        clear hb7 HR6 HS6 HL6 HP6 HW6 HU6 HX6 HV6 HY6
        go_wp2_with fail
        generalize w6.alloc (.cells #[.int .i64 i', .slice (some ⟨d1, 0, none⟩) ns'.length ns'.length, .slice (some ⟨d2, 0, none⟩) gs'.length gs'.length, .slice (some ⟨d3, 0, none⟩) os'.length os'.length] 26) = w7 at *
        generalize w6.heap.size = c9 at *
        clear p0 p1 p2 p3 hpl hpn
        refine (find_any i _ _ _ _ _ _ ns gs os i' _ _ _ _ _ _ ns' gs' os' _ HX7.out.at HY7.out.at).mono ?_
        rintro e w8 ⟨eA, eB, rfl, hx8, hb8⟩
        obtain ⟨s2, hs2e⟩ : ∃ s2 : Nat, w7.heap.size = s2 := ⟨_, rfl⟩
        have hzs2 : c9 < s2 := by have := HT7.out.lt; omega
        rw [hs2e, HFD.out] at hx8
        rw [HFD.out]
        have hsw8 : s2 ≤ w8.heap.size := by have := hb8.size; omega
        clear hs2e
        have HG8 := Lib.hid hx8
        clear hx8
        have hsv8 : s1 ≤ w8.heap.size := Nat.le_trans hsv7 hb8.size
        have HR8 := Lib.hid (HR7.out.below hb8 HR7.out.lt)
        have HS8 := Lib.hid (HS7.out.below hb8 HS7.out.lt)
        have HL8 := Lib.hid (HL7.out.trans (hb8.mono HL7.out.size))
        have HP8 := Lib.hid (HP7.out.below hb8 HP7.out.lt)
        have HW8 := Lib.hid (HW7.out.below (hb8.mono (by omega)))
        have HU8 := Lib.hid (HU7.out.below (hb8.mono (by omega)))
        have HX8 := Lib.hid (HX7.out.below hb8)
        have HV8 := Lib.hid (HV7.out.below hb8 HV7.out.lt)
        have HY8 := Lib.hid (HY7.out.below hb8)
        have HT8 := Lib.hid (HT7.out.below hb8 HT7.out.lt)
        clear hb8 HR7 HS7 HL7 HP7 HW7 HU7 HX7 HV7 HY7 HT7
        have HLT := Lib.hid HG8.out.lt
        have v0 := HP8.out.cell 0
        have v1 := HP8.out.cell 1
        have v2 := HP8.out.cell 2
        simp at v0 v1 v2
        have hcwl2 := HP8.out.lt
        have hcwn : cw ≠ w8.heap.size := by omega
        have hb9 : Below w8.heap.size w8 (w8.alloc (.cells #[.bool fd.1, .slice eA fd.2.1.length fd.2.1.length, .slice eB fd.2.2.length fd.2.2.length] 50)) := (Below.refl _ _).alloc (Nat.le_refl _) _
        have HK9 : Hid (Row (w8.alloc (.cells #[.bool fd.1, .slice eA fd.2.1.length fd.2.1.length, .slice eB fd.2.2.length fd.2.2.length] 50)) w8.heap.size 50 #[.bool fd.1, .slice eA fd.2.1.length fd.2.1.length, .slice eB fd.2.2.length fd.2.2.length]) := Lib.hid (heap_alloc_new w8 _)
        have hsv9 : s1 ≤ (w8.alloc (.cells #[.bool fd.1, .slice eA fd.2.1.length fd.2.1.length, .slice eB fd.2.2.length fd.2.2.length] 50)).heap.size := Nat.le_trans hsv8 hb9.size
        have hsw9 : s2 ≤ (w8.alloc (.cells #[.bool fd.1, .slice eA fd.2.1.length fd.2.1.length, .slice eB fd.2.2.length fd.2.2.length] 50)).heap.size := Nat.le_trans hsw8 hb9.size
        have HR9 := Lib.hid (HR8.out.below hb9 HR8.out.lt)
        have HS9 := Lib.hid (HS8.out.below hb9 HS8.out.lt)
        have HL9 := Lib.hid (HL8.out.trans (hb9.mono HL8.out.size))
        have HP9 := Lib.hid (HP8.out.below hb9 HP8.out.lt)
        have HW9 := Lib.hid (HW8.out.below (hb9.mono (by omega)))
        have HU9 := Lib.hid (HU8.out.below (hb9.mono (by omega)))
        have HX9 := Lib.hid (HX8.out.below hb9)
        have HV9 := Lib.hid (HV8.out.below hb9 HV8.out.lt)
        have HY9 := Lib.hid (HY8.out.below hb9)
        have HT9 := Lib.hid (HT8.out.below hb9 HT8.out.lt)
        have HG9 := Lib.hid (HG8.out.on hb9)
        clear hb9 HR8 HS8 HL8 HP8 HW8 HU8 HX8 HV8 HY8 HT8 HG8
        go_wp2_with fail
        generalize w8.alloc (.cells #[.bool fd.1, .slice eA fd.2.1.length fd.2.1.length, .slice eB fd.2.2.length fd.2.2.length] 50) = w9 at *
        generalize w8.heap.size = c1 at *
        clear v0 v1 v2 hcwl2 hcwn
        refine (eqCtr_any fd.1 eA eB wA wB _ _ _ _ fd.2.1 fd.2.2 _ HG9.out.fst.bools HG9.out.snd.bools (HW9.out.mono hsv9) (HU9.out.mono hsv9) (by omega) (by omega)).mono ?_
        rintro e w10 ⟨rfl, hb10⟩
        have hsv10 : s1 ≤ w10.heap.size := Nat.le_trans hsv9 hb10.size
        have hsw10 : s2 ≤ w10.heap.size := Nat.le_trans hsw9 hb10.size
        have HR10 := Lib.hid (HR9.out.below hb10 HR9.out.lt)
        have HS10 := Lib.hid (HS9.out.below hb10 HS9.out.lt)
        have HL10 := Lib.hid (HL9.out.trans (hb10.mono HL9.out.size))
        have HP10 := Lib.hid (HP9.out.below hb10 HP9.out.lt)
        have HW10 := Lib.hid (HW9.out.below (hb10.mono (by omega)))
        have HU10 := Lib.hid (HU9.out.below (hb10.mono (by omega)))
        have HX10 := Lib.hid (HX9.out.below hb10)
        have HV10 := Lib.hid (HV9.out.below hb10 HV9.out.lt)
        have HY10 := Lib.hid (HY9.out.below hb10)
        have HT10 := Lib.hid (HT9.out.below hb10 HT9.out.lt)
        have HG10 := Lib.hid (HG9.out.on hb10)
        have HK10 := Lib.hid (HK9.out.below hb10 HK9.out.lt)
        clear hb10 HR9 HS9 HL9 HP9 HW9 HU9 HX9 HV9 HY9 HT9 HG9 HK9
        have q0 := HR10.out.cell 0
        have q1 := HR10.out.cell 1
        have q2 := HR10.out.cell 2
        have q3 := HR10.out.cell 3
        simp at q0 q1 q2 q3
        have p0 := HV10.out.cell 0
        have p1 := HV10.out.cell 1
        have p2 := HV10.out.cell 2
        have p3 := HV10.out.cell 3
        simp at p0 p1 p2 p3
        have hz1 := HR10.out.lt
        have hz2 := HV10.out.lt
        go_wp2
        go_region_held3 (fun w' => (w'.cell? ⟨w.heap.size, 0, none⟩ = some (.int .i64 i) ∧ w'.cell? ⟨w.heap.size, 1, none⟩ = some (.slice nA ns.length nc) ∧ w'.cell? ⟨w.heap.size, 2, none⟩ = some (.slice gA gs.length gc) ∧ w'.cell? ⟨w.heap.size, 3, none⟩ = some (.slice oA os.length oc)) ∧ w'.cell? ⟨c0, 0, none⟩ = some (.int .i64 i) ∧ w'.cell? ⟨c0, 1, none⟩ = some (.slice (some ⟨b1, 0, none⟩) ns.length ns.length) ∧ w'.cell? ⟨c0, 2, none⟩ = some (.slice (some ⟨b2, 0, none⟩) gs.length gs.length) ∧ w'.cell? ⟨c0, 3, none⟩ = some (.slice (some ⟨b3, 0, none⟩) os.length os.length))
          (first | go_keep | (with_reducible exact cc_on hb8 (by assumption)) | (with_reducible exact cc_on hb7 (by assumption)))
          (first
            | (go_at_call 38; go_must (refine (toCircuit_any i nA gA oA nc gc oc ns gs os _ ?_ ?_ ?_ ?_).mono ?_; (exact ((HC.out.below HL10.out.drew).mono HL10.out.drew.size)); (omega); (omega); (omega); rintro e u7 ⟨e1, e2, e3, f1, f2, f3, rfl, hC7, hb7⟩; have hz7 : w10.heap.size ≤ u7.heap.size := hb7.size))
            | (go_at_call 39; refine (eqCircuit_any i _ _ _ e1 e2 e3 _ _ _ f1 f2 f3 ns gs os _ ?_ ?_ ?_ ?_ ?_).mono ?_; (exact ((HX10.out.at.below (Below.refl _ _).drew).below hb7).mono hb7.size); (exact hC7); (omega); (omega); (omega); rintro e u8 ⟨rfl, hb8⟩))
        clear p0 p1 p2 p3 q0 q1 q2 q3
        have hb11 : Below w10.heap.size w10 u8 := ((Below.refl _ w10).drew.trans hb7).trans (hb8.mono hz7)
        clear hb7 hb8 hz7 hC7 hz1 hz2
        have hsv11 : s1 ≤ u8.heap.size := Nat.le_trans hsv10 hb11.size
        have hsw11 : s2 ≤ u8.heap.size := Nat.le_trans hsw10 hb11.size
        have HR11 := Lib.hid (HR10.out.below hb11 HR10.out.lt)
        have HS11 := Lib.hid (HS10.out.below hb11 HS10.out.lt)
        have HL11 := Lib.hid (HL10.out.trans (hb11.mono HL10.out.size))
        have HP11 := Lib.hid (HP10.out.below hb11 HP10.out.lt)
        have HW11 := Lib.hid (HW10.out.below (hb11.mono (by omega)))
        have HU11 := Lib.hid (HU10.out.below (hb11.mono (by omega)))
        have HX11 := Lib.hid (HX10.out.below hb11)
        have HV11 := Lib.hid (HV10.out.below hb11 HV10.out.lt)
        have HY11 := Lib.hid (HY10.out.below hb11)
        have HT11 := Lib.hid (HT10.out.below hb11 HT10.out.lt)
        have HG11 := Lib.hid (HG10.out.on hb11)
        have HK11 := Lib.hid (HK10.out.below hb11 HK10.out.lt)
        clear hb11 HR10 HS10 HL10 HP10 HW10 HU10 HX10 HV10 HY10 HT10 HG10 HK10
        rename_i _hheld
        clear _hheld
        generalize u8 = w11 at *
        have q0 := HS11.out.cell 0
        have q1 := HS11.out.cell 1
        have q2 := HS11.out.cell 2
        have q3 := HS11.out.cell 3
        simp at q0 q1 q2 q3
        have p0 := HT11.out.cell 0
        have p1 := HT11.out.cell 1
        have p2 := HT11.out.cell 2
        have p3 := HT11.out.cell 3
        simp at p0 p1 p2 p3
        have hz1 := HS11.out.lt
        have hz2 := HT11.out.lt
        go_wp2
        go_region_held3 (fun w' => (w'.cell? ⟨w.heap.size + 1, 0, none⟩ = some (.int .i64 i') ∧ w'.cell? ⟨w.heap.size + 1, 1, none⟩ = some (.slice nA' ns'.length nc') ∧ w'.cell? ⟨w.heap.size + 1, 2, none⟩ = some (.slice gA' gs'.length gc') ∧ w'.cell? ⟨w.heap.size + 1, 3, none⟩ = some (.slice oA' os'.length oc')) ∧ w'.cell? ⟨c9, 0, none⟩ = some (.int .i64 i') ∧ w'.cell? ⟨c9, 1, none⟩ = some (.slice (some ⟨d1, 0, none⟩) ns'.length ns'.length) ∧ w'.cell? ⟨c9, 2, none⟩ = some (.slice (some ⟨d2, 0, none⟩) gs'.length gs'.length) ∧ w'.cell? ⟨c9, 3, none⟩ = some (.slice (some ⟨d3, 0, none⟩) os'.length os'.length))
          (first | go_keep | (with_reducible exact cc_on hb8 (by assumption)) | (with_reducible exact cc_on hb7 (by assumption)))
          (first
            | (go_at_call 38; go_must (refine (toCircuit_any i' nA' gA' oA' nc' gc' oc' ns' gs' os' _ ?_ ?_ ?_ ?_).mono ?_; (exact ((HD.out.below HL11.out.drew).mono HL11.out.drew.size)); (omega); (omega); (omega); rintro e u7 ⟨e1, e2, e3, f1, f2, f3, rfl, hC7, hb7⟩; have hz7 : w11.heap.size ≤ u7.heap.size := hb7.size))
            | (go_at_call 39; refine (eqCircuit_any i' _ _ _ e1 e2 e3 _ _ _ f1 f2 f3 ns' gs' os' _ ?_ ?_ ?_ ?_ ?_).mono ?_; (exact ((HY11.out.at.below (Below.refl _ _).drew).below hb7).mono hb7.size); (exact hC7); (omega); (omega); (omega); rintro e u8 ⟨rfl, hb8⟩))
        clear p0 p1 p2 p3 q0 q1 q2 q3
        have hb12 : Below w11.heap.size w11 u8 := ((Below.refl _ w11).drew.trans hb7).trans (hb8.mono hz7)
        clear hb7 hb8 hz7 hC7 hz1 hz2
        have hsv12 : s1 ≤ u8.heap.size := Nat.le_trans hsv11 hb12.size
        have hsw12 : s2 ≤ u8.heap.size := Nat.le_trans hsw11 hb12.size
        have HR12 := Lib.hid (HR11.out.below hb12 HR11.out.lt)
        have HS12 := Lib.hid (HS11.out.below hb12 HS11.out.lt)
        have HL12 := Lib.hid (HL11.out.trans (hb12.mono HL11.out.size))
        have HP12 := Lib.hid (HP11.out.below hb12 HP11.out.lt)
        have HW12 := Lib.hid (HW11.out.below (hb12.mono (by omega)))
        have HU12 := Lib.hid (HU11.out.below (hb12.mono (by omega)))
        have HX12 := Lib.hid (HX11.out.below hb12)
        have HV12 := Lib.hid (HV11.out.below hb12 HV11.out.lt)
        have HY12 := Lib.hid (HY11.out.below hb12)
        have HT12 := Lib.hid (HT11.out.below hb12 HT11.out.lt)
        have HG12 := Lib.hid (HG11.out.on hb12)
        have HK12 := Lib.hid (HK11.out.below hb12 HK11.out.lt)
        clear hb12 HR11 HS11 HL11 HP11 HW11 HU11 HX11 HV11 HY11 HT11 HG11 HK11
        rename_i _hheld
        clear _hheld
        generalize u8 = w12 at *
        have p0 := HV12.out.cell 0
        have p1 := HV12.out.cell 1
        have p2 := HV12.out.cell 2
        have p3 := HV12.out.cell 3
        simp at p0 p1 p2 p3
        go_wp2_with fail
        rw [show (1 : Int) = ((1 : Nat) : Int) from rfl]
        refine (markCircuit_big i s1 b1 b2 b3 1 ns gs os _ HX12.out (by omega) (by omega) (by omega) (by omega)).mono ?_
        rintro e w13 ⟨rfl, hm13⟩
        have hb1s : s1 ≤ b1 := HX12.out.b0
        have hb12 : b1 < b2 := HX12.out.b1
        have hb23 : b2 < b3 := HX12.out.b2
        have hd1s : s9 ≤ d1 := HY12.out.b0
        have hd12 : d1 < d2 := HY12.out.b1
        have hd23 : d2 < d3 := HY12.out.b2
        have hmw13 := hm13.wide (lo' := s1) (hi' := s2) (by omega) (by omega)
        have HT13 := Lib.hid (hm13.row HT12.out (by omega))
        have HY13 := Lib.hid (HY12.out.mid hm13 (by omega))
        have HK13 := Lib.hid (hmw13.row HK12.out (by omega))
        have HW13 := Lib.hid (hmw13.bools HW12.out (Nat.le_refl _) hsv12)
        have HU13 := Lib.hid (hmw13.bools HU12.out (Nat.le_refl _) hsv12)
        have HG13 := Lib.hid (hmw13.bpair HG12.out)
        have HL13 := Lib.hid (HL12.out.trans ((hmw13.below hsv12).mono (by omega)))
        have hsv13 : s1 ≤ w13.heap.size := Nat.le_trans hsv12 hmw13.size
        have hsw13 : s2 ≤ w13.heap.size := Nat.le_trans hsw12 hmw13.size
        have HR13 := Lib.hid (hmw13.row HR12.out (by omega))
        have HS13 := Lib.hid (hmw13.row HS12.out (by omega))
        have HP13 := Lib.hid (hmw13.row HP12.out (by omega))
        clear hm13 hmw13 HR12 HS12 HP12 HY12 HT12 HK12 HW12 HU12 HG12 HL12 HV12 HX12 p0 p1 p2 p3
        generalize hkk : 1 + ns.length + 2 * gs.length + os.length = kk at *
        have hkb : kk ≤ 5000000 := by omega
        clear hkk
        have p0 := HT13.out.cell 0
        have p1 := HT13.out.cell 1
        have p2 := HT13.out.cell 2
        have p3 := HT13.out.cell 3
        simp at p0 p1 p2 p3
        go_wp2_with fail
        refine (markCircuit_big i' s9 d1 d2 d3 kk ns' gs' os' _ HY13.out (by omega) (by omega) (by omega) (by omega)).mono ?_
        rintro e w14 ⟨rfl, hm14⟩
        have hmw14 := hm14.wide (lo' := s1) (hi' := s2) (by omega) (by omega)
        have HK14 := Lib.hid (hmw14.row HK13.out (by omega))
        have HW14 := Lib.hid (hmw14.bools HW13.out (Nat.le_refl _) hsv13)
        have HU14 := Lib.hid (hmw14.bools HU13.out (Nat.le_refl _) hsv13)
        have HG14 := Lib.hid (hmw14.bpair HG13.out)
        have HL14 := Lib.hid (HL13.out.trans ((hmw14.below hsv13).mono (by omega)))
        have hsv14 : s1 ≤ w14.heap.size := Nat.le_trans hsv13 hmw14.size
        have hsw14 : s2 ≤ w14.heap.size := Nat.le_trans hsw13 hmw14.size
        have HR14 := Lib.hid (hmw14.row HR13.out (by omega))
        have HS14 := Lib.hid (hmw14.row HS13.out (by omega))
        have HP14 := Lib.hid (hmw14.row HP13.out (by omega))
        clear hm14 hmw14 HR13 HS13 HP13 HT13 HK13 HW13 HU13 HG13 HL13 HY13 p0 p1 p2 p3
        generalize hkk : kk + ns'.length + 2 * gs'.length + os'.length = kk2 at *
        have hkb2 : kk2 ≤ 15000000 := by omega
        clear hkk
        have r0 := HK14.out.cell 0
        have r1 := HK14.out.cell 1
        have r2 := HK14.out.cell 2
        simp at r0 r1 r2
        have v0 := HP14.out.cell 0
        have v1 := HP14.out.cell 1
        have v2 := HP14.out.cell 2
        simp at v0 v1 v2
        go_wp2_with fail
        refine (eqCtr_any fd.1 eA eB wA wB _ _ _ _ fd.2.1 fd.2.2 _ HG14.out.fst.bools HG14.out.snd.bools (HW14.out.mono hsv14) (HU14.out.mono hsv14) (by omega) (by omega)).mono ?_
        rintro e w15 ⟨rfl, hb15⟩
        clear r0 r1 r2 v0 v1 v2
        have hsv15 : s1 ≤ w15.heap.size := Nat.le_trans hsv14 hb15.size
        have hsw15 : s2 ≤ w15.heap.size := Nat.le_trans hsw14 hb15.size
        have HR15 := Lib.hid (HR14.out.below hb15 HR14.out.lt)
        have HS15 := Lib.hid (HS14.out.below hb15 HS14.out.lt)
        have HP15 := Lib.hid (HP14.out.below hb15 HP14.out.lt)
        have HK15 := Lib.hid (HK14.out.below hb15 HK14.out.lt)
        have HL15 := Lib.hid (HL14.out.trans (hb15.mono HL14.out.size))
        have HW15 := Lib.hid (HW14.out.below (hb15.mono (by omega)))
        have HU15 := Lib.hid (HU14.out.below (hb15.mono (by omega)))
        have HG15 := Lib.hid (HG14.out.on hb15)
        clear hb15 HR14 HS14 HP14 HK14 HL14 HW14 HU14 HG14
        have r0 := HK15.out.cell 0
        have r1 := HK15.out.cell 1
        have r2 := HK15.out.cell 2
        simp at r0 r1 r2
        go_wp2_with fail
        rw [show (1 : Int) = ((1 : Nat) : Int) from rfl]
        refine (markCtr_any fd.1 eA eB s2 _ _ 1 fd.2.1 fd.2.2 _ HG15.out rfl rfl (by omega) (by omega) (by omega) hsw15 c1 HLT.out).mono ?_
        rintro e w16 ⟨rfl, hx16, hm16⟩
        have hb16 := hm16.below hsw15
        have HG16 := Lib.hid hx16
        have HR16 := Lib.hid (hm16.row HR15.out (by omega))
        have HS16 := Lib.hid (hm16.row HS15.out (by omega))
        have HP16 := Lib.hid (hm16.row HP15.out (by omega))
        have HK16 := Lib.hid (hm16.row HK15.out (by omega))
        have HW16 := Lib.hid (HW15.out.below (hb16.mono (by omega)))
        have HU16 := Lib.hid (HU15.out.below (hb16.mono (by omega)))
        have HL16 := Lib.hid (HL15.out.trans (hb16.mono (by omega)))
        have hsv16 : s1 ≤ w16.heap.size := Nat.le_trans hsv15 hb16.size
        have hsw16 : s2 ≤ w16.heap.size := Nat.le_trans hsw15 hb16.size
        clear hx16 hb16 hm16 HR15 HS15 HP15 HK15 HW15 HU15 HG15 HL15 r0 r1 r2
        generalize hmm : 1 + fd.2.1.length + fd.2.2.length = mm at *
        have HMM := Lib.hid hmm
        have hmmb : mm ≤ 5000000 := by omega
        clear hmm
        have r0 := HK16.out.cell 0
        have r1 := HK16.out.cell 1
        have r2 := HK16.out.cell 2
        simp at r0 r1 r2
        go_wp2_with fail
        rw [show (1 : Int) = ((1 : Nat) : Int) from rfl]
        refine (heldCtr_any fd.1 eA eB s2 _ _ 1 _ HG16.out (by omega) (by omega) (by omega)).mono ?_
        rintro e w17 ⟨rfl, hb17⟩
        rw [HMM.out]
        clear r0 r1 r2
        have hsv17 : s1 ≤ w17.heap.size := Nat.le_trans hsv16 hb17.size
        have hsw17 : s2 ≤ w17.heap.size := Nat.le_trans hsw16 hb17.size
        have HR17 := Lib.hid (HR16.out.below hb17 HR16.out.lt)
        have HS17 := Lib.hid (HS16.out.below hb17 HS16.out.lt)
        have HP17 := Lib.hid (HP16.out.below hb17 HP16.out.lt)
        have HK17 := Lib.hid (HK16.out.below hb17 HK16.out.lt)
        have HL17 := Lib.hid (HL16.out.trans (hb17.mono HL16.out.size))
        have HW17 := Lib.hid (HW16.out.below (hb17.mono (by omega)))
        have HU17 := Lib.hid (HU16.out.below (hb17.mono (by omega)))
        have HG17 := Lib.hid (BPair.on HG16.out hb17)
        clear hb17 HR16 HS16 HP16 HK16 HL16 HW16 HU16 HG16
        have q0 := HR17.out.cell 0
        have q1 := HR17.out.cell 1
        have q2 := HR17.out.cell 2
        have q3 := HR17.out.cell 3
        simp at q0 q1 q2 q3
        have m0 := HS17.out.cell 0
        have m1 := HS17.out.cell 1
        have m2 := HS17.out.cell 2
        have m3 := HS17.out.cell 3
        simp at m0 m1 m2 m3
        have hz1 := HR17.out.lt
        have hz2 := HS17.out.lt
        go_upto_region 31 with fail
        go_cut [13] (fun pv wx => ∃ (wz : World) (P : Nat) (A1 A2 : Option Addr) (c1 c2 : Nat), wz = wx ∧ pv = .pointer (some ⟨P, 0, none⟩) ∧ w17.heap.size ≤ P ∧ Hid (Row wx P 50 #[.bool fd.1, .slice A1 fd.2.1.length c1, .slice A2 fd.2.2.length c2]) ∧ Hid (BoolsAt wx wx.heap.size A1 fd.2.1) ∧ Hid (BoolsAt wx wx.heap.size A2 fd.2.2) ∧ Hid (Below w17.heap.size w17 wx))
        case first =>
          clear hcs1 hws1 hsv3 hsv4 hsv5 hsv6 hsv7 hsv8 hsv9 hsv10 hsv11 hsv12 hsv13 hsv14 hsv15 hsv16 hsv17 hsw8 hsw9 hsw10 hsw11 hsw12 hsw13 hsw14 hsw15 hsw16 hsw17 hcz hs9 hcy hzs2 hb1s hb12 hb23 hd1s hd12 hd23 hkb hkb2 hmmb HMM HLT HP17 HK17 HW17 HU17 HG17 HR17 HS17 hcwl hf1 hf2
          have tok0 : True := trivial
          go_region_held3 (fun w' => (w'.cell? ⟨w.heap.size, 0, none⟩ = some (.int .i64 i) ∧ w'.cell? ⟨w.heap.size, 1, none⟩ = some (.slice nA ns.length nc) ∧ w'.cell? ⟨w.heap.size, 2, none⟩ = some (.slice gA gs.length gc) ∧ w'.cell? ⟨w.heap.size, 3, none⟩ = some (.slice oA os.length oc)) ∧ w'.cell? ⟨w.heap.size + 1, 0, none⟩ = some (.int .i64 i') ∧ w'.cell? ⟨w.heap.size + 1, 1, none⟩ = some (.slice nA' ns'.length nc') ∧ w'.cell? ⟨w.heap.size + 1, 2, none⟩ = some (.slice gA' gs'.length gc') ∧ w'.cell? ⟨w.heap.size + 1, 3, none⟩ = some (.slice oA' os'.length oc'))
            (first | go_keep | (with_reducible exact cc_on hb3 (by assumption)) | (with_reducible exact cc_on hb2 (by assumption)) | (with_reducible exact cc_on hb1 (by assumption)) | (with_reducible exact cc_swap (by omega) (by omega) (by assumption)) | (with_reducible exact cc_set (by omega) (by omega) (cc_set (by omega) (by omega) (cc_set (by omega) (by omega) (by assumption)))))
            (first
              | (clear tok0; go_at_call 38; refine (toCircuit_any i nA gA oA nc gc oc ns gs os _ ?_ ?_ ?_ ?_).mono ?_; (first | with_reducible exact circ_on HC.out HL17.out.drew | with_reducible exact circ_on HC.out (HL17.out.alloc HL17.out.size _).drew); (omega); (omega); (omega); rintro e u1 ⟨e1, e2, e3, f1, f2, f3, rfl, hC1, hb1⟩; have hw1 : Below w17.heap.size w17 u1 := (by first | with_reducible exact bel_dr hb1 | with_reducible exact bel_al_dr hb1); have hz1' := hw1.size; (first | (have hrq := Row.below (w := (w17.alloc (.cells #[.bool false, .slice none 0 0, .slice none 0 0] 50)).drew) (heap_alloc_new w17 _) hb1 (by simp)) | skip); have tokA : True := trivial)
              | (clear tokA; go_at_call 38; have hq1 := (HL17.out.trans (hw1.mono HL17.out.size)); refine (toCircuit_any i' nA' gA' oA' nc' gc' oc' ns' gs' os' _ ?_ ?_ ?_ ?_).mono ?_; (first | with_reducible exact circ_on HD.out hq1 | with_reducible exact circ_on HD.out (hq1.alloc hq1.size _)); (omega); (omega); (omega); rintro e u2 ⟨y1, y2, y3, z1, z2, z3, rfl, hC2, hb2⟩; have hv2 : Below u1.heap.size u1 u2 := (by first | with_reducible exact hb2 | with_reducible exact bel_al hb2); have hw2 := hw1.trans (hv2.mono hz1'); have hz2' := hw2.size; have hC1' := (hC1.below hv2).mono hv2.size; (first | (revert hrq; intro hrq; have hrp := Row.below hrq hb2 hrq.lt; clear hrq; have hrq := hrp; clear hrp) | (have hrq := Row.below (w := (u1.alloc (.cells #[.bool false, .slice none 0 0, .slice none 0 0] 50))) (heap_alloc_new u1 _) hb2 (by simp)) | skip); have tokB : True := trivial)
              | (clear tokB; go_at_call 32; (first | (with_reducible refine (find_val i e1 e2 e3 f1 f2 f3 ns gs os i' y1 y2 y3 z1 z2 z3 ns' gs' os' fd _ HFD.out hC1' hC2).mono ?_) | (with_reducible refine (find_val i e1 e2 e3 f1 f2 f3 ns gs os i' y1 y2 y3 z1 z2 z3 ns' gs' os' fd _ HFD.out (circ_al hC1') (circ_al hC2)).mono ?_)); rintro e u3 ⟨A1, A2, c1, c2, rfl, hx1, hx2, hb3, hn1, hn2⟩; have hv3 : Below u2.heap.size u2 u3 := (by first | with_reducible exact hb3 | with_reducible exact bel_al hb3); have hw3 := hw2.trans (hv3.mono hz2'); have hz3' := hw3.size; (first | (revert hrq; intro hrq; have hrl := hrq.lt; have hrp := Row.below hrq hb3 hrl; clear hrq; have hrq := hrp; clear hrp) | (have hrl : u2.heap.size < (u2.alloc (.cells #[.bool false, .slice none 0 0, .slice none 0 0] 50)).heap.size := (by simp); have hrq := Row.below (w := (u2.alloc (.cells #[.bool false, .slice none 0 0, .slice none 0 0] 50))) (heap_alloc_new u2 _) hb3 hrl) | skip); (first | (revert hrq; intro hrq; have x0 := hrq.cell 0; have x1 := hrq.cell 1; have x2 := hrq.cell 2; have g0 := hrq.frozen 0; have g1 := hrq.frozen 1; have g2 := hrq.frozen 2; simp at x0 x1 x2) | skip)))
          all_goals
            go_wp2_with fail
            go_meet
            first
              | (revert hrq; intro hrq; refine ⟨_, _, A1, A2, c1, c2, rfl, rfl, (by first | exact Nat.le_refl _ | exact hz1' | exact hz2'), Lib.hid (by have h := ((hrq.set 0 (.bool fd.1)).set 1 (.slice A1 fd.2.1.length c1)).set 2 (.slice A2 fd.2.2.length c2); simpa using h), Lib.hid (BoolsAt.far3 hx1 hn1 hrl _ _ _), Lib.hid (BoolsAt.far3 hx2 hn2 hrl _ _ _), Lib.hid (((hw3.setCell (by show w17.heap.size ≤ _; first | exact Nat.le_refl _ | exact hz1' | exact hz2') _).setCell (by show w17.heap.size ≤ _; first | exact Nat.le_refl _ | exact hz1' | exact hz2') _).setCell (by show w17.heap.size ≤ _; first | exact Nat.le_refl _ | exact hz1' | exact hz2') _)⟩; done)
              | (refine ⟨_, _, A1, A2, c1, c2, rfl, rfl, hz3', Lib.hid (heap_alloc_new u3 _), Lib.hid (hx1.on ((Below.refl _ u3).alloc (Nat.le_refl _) _)), Lib.hid (hx2.on ((Below.refl _ u3).alloc (Nat.le_refl _) _)), Lib.hid (hw3.alloc hz3' _)⟩; done)
        case rest =>
          obtain ⟨w18, ch, hA, hB, hc, hd, hwz, rfl, hchl, HJ18, HH18, HI18, HB18⟩ := hcut
          subst hwz
          have hb18 := HB18.out
          clear HB18 q0 q1 q2 q3 m0 m1 m2 m3 hz1 hz2
          have hsv18 : s1 ≤ w18.heap.size := Nat.le_trans hsv17 hb18.size
          have hsw18 : s2 ≤ w18.heap.size := Nat.le_trans hsw17 hb18.size
          have HR18 := Lib.hid (HR17.out.below hb18 HR17.out.lt)
          have HS18 := Lib.hid (HS17.out.below hb18 HS17.out.lt)
          have HP18 := Lib.hid (HP17.out.below hb18 HP17.out.lt)
          have HK18 := Lib.hid (HK17.out.below hb18 HK17.out.lt)
          have HL18 := Lib.hid (HL17.out.trans (hb18.mono HL17.out.size))
          have HW18 := Lib.hid (HW17.out.below (hb18.mono (by omega)))
          have HU18 := Lib.hid (HU17.out.below (hb18.mono (by omega)))
          have HG18 := Lib.hid (BPair.on HG17.out hb18)
          clear hb18 HR17 HS17 HP17 HK17 HL17 HW17 HU17 HG17
          have v0 := HP18.out.cell 0
          have v1 := HP18.out.cell 1
          have v2 := HP18.out.cell 2
          simp at v0 v1 v2
          have x0 := HJ18.out.cell 0
          have x1 := HJ18.out.cell 1
          have x2 := HJ18.out.cell 2
          simp at x0 x1 x2
          go_wp2_with fail
          refine (eqCtr_any fd.1 hA hB wA wB _ _ _ _ fd.2.1 fd.2.2 _ HH18.out HI18.out (HW18.out.mono hsv18) (HU18.out.mono hsv18) (by omega) (by omega)).mono ?_
          rintro e w19 ⟨rfl, hb19⟩
          clear v0 v1 v2 x0 x1 x2
          have hsv19 : s1 ≤ w19.heap.size := Nat.le_trans hsv18 hb19.size
          have hsw19 : s2 ≤ w19.heap.size := Nat.le_trans hsw18 hb19.size
          have HR19 := Lib.hid (HR18.out.below hb19 HR18.out.lt)
          have HS19 := Lib.hid (HS18.out.below hb19 HS18.out.lt)
          have HP19 := Lib.hid (HP18.out.below hb19 HP18.out.lt)
          have HK19 := Lib.hid (HK18.out.below hb19 HK18.out.lt)
          have HL19 := Lib.hid (HL18.out.trans (hb19.mono HL18.out.size))
          have HW19 := Lib.hid (HW18.out.below (hb19.mono (by omega)))
          have HU19 := Lib.hid (HU18.out.below (hb19.mono (by omega)))
          have HG19 := Lib.hid (BPair.on HG18.out hb19)
          clear hb19 HR18 HS18 HP18 HK18 HL18 HW18 HU18 HG18 HJ18 HH18 HI18
          have r0 := HK19.out.cell 0
          have r1 := HK19.out.cell 1
          have r2 := HK19.out.cell 2
          simp at r0 r1 r2
          go_wp2_with fail
          rw [show (1 : Int) = ((1 : Nat) : Int) from rfl]
          refine (heldCtr_any fd.1 eA eB s2 _ _ 1 _ HG19.out (by omega) (by omega) (by omega)).mono ?_
          rintro e w20 ⟨rfl, hb20⟩
          rw [HMM.out]
          clear r0 r1 r2
          have hsv20 : s1 ≤ w20.heap.size := Nat.le_trans hsv19 hb20.size
          have hsw20 : s2 ≤ w20.heap.size := Nat.le_trans hsw19 hb20.size
          have HR20 := Lib.hid (HR19.out.below hb20 HR19.out.lt)
          have HS20 := Lib.hid (HS19.out.below hb20 HS19.out.lt)
          have HP20 := Lib.hid (HP19.out.below hb20 HP19.out.lt)
          have HK20 := Lib.hid (HK19.out.below hb20 HK19.out.lt)
          have HL20 := Lib.hid (HL19.out.trans (hb20.mono HL19.out.size))
          have HW20 := Lib.hid (HW19.out.below (hb20.mono (by omega)))
          have HU20 := Lib.hid (HU19.out.below (hb20.mono (by omega)))
          have HG20 := Lib.hid (BPair.on HG19.out hb20)
          clear hb20 HR19 HS19 HP19 HK19 HL19 HW19 HU19 HG19
          go_wp2
          go_ret
          exact ⟨rfl, HL20.out⟩
    · have hl0 : (0 : Int) ≤ 1048576 - (ns.length : Int) - gs.length - os.length := by omega
      have hbw : Below w.heap.size w ((w.alloc (.cells #[.int .i64 i, .slice nA ns.length nc, .slice gA gs.length gc, .slice oA os.length oc] 55)).alloc (.cells #[.int .i64 i', .slice nA' ns'.length nc', .slice gA' gs'.length gc', .slice oA' os'.length oc'] 55)) := ((Below.refl _ _).alloc (Nat.le_refl _) _).alloc (by simp) _
      have r1 : Row ((w.alloc (.cells #[.int .i64 i, .slice nA ns.length nc, .slice gA gs.length gc, .slice oA os.length oc] 55)).alloc (.cells #[.int .i64 i', .slice nA' ns'.length nc', .slice gA' gs'.length gc', .slice oA' os'.length oc'] 55)) (w.heap.size + 1) 55 #[.int .i64 i', .slice nA' ns'.length nc', .slice gA' gs'.length gc', .slice oA' os'.length oc'] := by
        have := heap_alloc_new (w.alloc (.cells #[.int .i64 i, .slice nA ns.length nc, .slice gA gs.length gc, .slice oA os.length oc] 55)) (.cells #[.int .i64 i', .slice nA' ns'.length nc', .slice gA' gs'.length gc', .slice oA' os'.length oc'] 55)
        simpa [Row] using this
      have HL0 := Lib.hid hbw
      have HS0 := Lib.hid r1
      clear hbw r1
      go_enter Try.func12, Try.ntmps12
      go_wp2_with fail
      refine (szCircuit_ok _ _ _ _ _ _ _ _ _ _ _ _ hsz (by omega)).mono ?_
      rintro e w1 ⟨rfl, hb1⟩
      have HS1 := Lib.hid (HS0.out.below hb1 HS0.out.lt)
      have HL1 := Lib.hid (HL0.out.trans (hb1.mono HL0.out.size))
      clear hb1 HS0 HL0
      have s0 := HS1.out.cell 0
      have s1 := HS1.out.cell 1
      have s2 := HS1.out.cell 2
      have s3 := HS1.out.cell 3
      simp at s0 s1 s2 s3
      go_wp2_with (go_at_call 37; refine (szCircuit_no _ _ _ _ _ _ _ _ _ _ _ _ ?_ ?_ ?_ HD.out.nl HD.out.gl HD.out.ol).mono ?_; (omega); (omega); (omega); rintro e w2 ⟨rfl, hb2⟩)
      go_ret
      exact ⟨rfl, HL1.out.trans (hb2.mono HL1.out.size)⟩
  · go_enter Try.func12, Try.ntmps12
    go_wp2_with (go_at_call 37; refine (szCircuit_no _ _ _ _ _ _ _ _ _ _ _ _ ?_ ?_ ?_ HC.out.nl HC.out.gl HC.out.ol).mono ?_; (omega); (omega); (omega); rintro e w1 ⟨rfl, hb1⟩)
    go_ret
    exact ⟨rfl, (((Below.refl _ _).alloc (Nat.le_refl _) _).alloc (by simp) _).trans (hb1.mono (by simp; omega))⟩
end Go.Proofs.Ythpiddpkcmecfaa
