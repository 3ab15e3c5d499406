/- The contract of FindDifference of the model. -/
import Derived.Test.YthpiddpkcmecfaaY2
import Derived.Test.YthpiddpkcmecfaaB10
import Derived.Test.YthpiddpkcmecfaaQB
import Derived.Deep.DeepCutAuto
import Derived.Deep.CutBlock
namespace Go.Proofs.Ythpiddpkcmecfaa
open Go.RowKit Go.Deep
set_option maxRecDepth 100000

theorem l2Step_ln (i : Int) (nA gA oA sA iA : Option Addr) (nc gc oc sl il sc ic : Nat) (ns : List Int) (gs : List (Int × Int)) (os : List Int) (st ins : List Bool) (w : World) (hsl : st.length = sl) (hil : ins.length = il) (hc : CircAt w w.heap.size nA gA oA ns gs os)
    (hs : BoolsAt w w.heap.size sA st) (hin : BoolsAt w w.heap.size iA ins) (hv : assignB i ns gs os sl il = true) :
    Calls Try.prog 67 #[.agg #[.int .i64 i, .slice nA ns.length nc, .slice gA gs.length gc, .slice oA os.length oc], .slice sA sl sc, .slice iA il ic] w (StepOutS w (Circ.valsOf gs st ins) ns os) := by
  subst hsl hil
  exact l2Step_any i nA gA oA sA iA nc gc oc sc ic ns gs os st ins w hc hs hin hv
theorem l4Same_len (A A' : Option Addr) (n n' cap cap' : Nat) (xs ys : List Bool) (w : World) (hn : xs.length = n) (hn' : ys.length = n') (hx : BoolsAt w w.heap.size A xs) (hy : BoolsAt w w.heap.size A' ys) (hl : n ≤ 2000000) (hl' : n' ≤ 2000000) :
    Calls Try.prog 68 #[.slice A n cap, .slice A' n' cap'] w fun e w' => e = .returned (.bool (xs == ys)) ∧ Below w.heap.size w w' := by
  subst hn hn'
  exact l4Same_any A A' cap cap' xs ys w hx hy hl hl'

def FDOut (w : World) (fd : Bool × List Bool × List Bool) (e : Ending) (w' : World) : Prop :=
  ∃ (A1 A2 : Option Addr) (c1 c2 : Nat), e = .returned (.agg #[.bool fd.1, .slice A1 fd.2.1.length c1, .slice A2 fd.2.2.length c2]) ∧ BoolsAt w' w'.heap.size A1 fd.2.1 ∧ BoolsAt w' w'.heap.size A2 fd.2.2 ∧ Below w.heap.size w w'

/-- As FDOut; what is answered lies in new memory. -/
def FDOutN (w : World) (fd : Bool × List Bool × List Bool) (e : Ending) (w' : World) : Prop :=
  ∃ (A1 A2 : Option Addr) (c1 c2 : Nat), e = .returned (.agg #[.bool fd.1, .slice A1 fd.2.1.length c1, .slice A2 fd.2.2.length c2]) ∧ BoolsAt w' w'.heap.size A1 fd.2.1 ∧ BoolsAt w' w'.heap.size A2 fd.2.2 ∧ Below w.heap.size w w' ∧ FreshA w.heap.size A1 ∧ FreshA w.heap.size A2

set_option maxHeartbeats 4000000 in
theorem sfind_new (i : Int) (nA gA oA : Option Addr) (nc gc oc : Nat) (ns : List Int) (gs : List (Int × Int)) (os : List Int) (i' : Int) (nA' gA' oA' : Option Addr) (nc' gc' oc' : Nat) (ns' : List Int) (gs' : List (Int × Int)) (os' : List Int) (w : World) (hc : CircAt w w.heap.size nA gA oA ns gs os) (hd : CircAt w w.heap.size nA' gA' oA' ns' gs' os') :
    Calls Try.prog 33 #[.agg #[.int .i64 i, .slice nA ns.length nc, .slice gA gs.length gc, .slice oA os.length oc], .agg #[.int .i64 i', .slice nA' ns'.length nc', .slice gA' gs'.length gc', .slice oA' os'.length oc']] w (FDOutN w (Circ.fdV i ns gs os i' ns' gs' os')) := by
  have HC := Lib.hid hc
  have HD := Lib.hid hd
  clear hc hd
  have hb0 : Below w.heap.size w (((w.alloc (.cells #[.int .i64 i, .slice nA ns.length nc, .slice gA gs.length gc, .slice oA os.length oc] 26)).alloc (.cells #[.int .i64 i', .slice nA' ns'.length nc', .slice gA' gs'.length gc', .slice oA' os'.length oc'] 26)).alloc (.cells #[.bool false, .slice none 0 0, .slice none 0 0] 50)) := (((Below.refl _ _).alloc (Nat.le_refl _) _).alloc (by simp) _).alloc (by simp; omega) _
  have r1 : Row (((w.alloc (.cells #[.int .i64 i, .slice nA ns.length nc, .slice gA gs.length gc, .slice oA os.length oc] 26)).alloc (.cells #[.int .i64 i', .slice nA' ns'.length nc', .slice gA' gs'.length gc', .slice oA' os'.length oc'] 26)).alloc (.cells #[.bool false, .slice none 0 0, .slice none 0 0] 50)) w.heap.size 26 #[.int .i64 i, .slice nA ns.length nc, .slice gA gs.length gc, .slice oA os.length oc] := (Below.heap_alloc _ _ _ (by simp; omega)).trans ((Below.heap_alloc _ _ _ (by simp)).trans (heap_alloc_new w _))
  have r2 : Row (((w.alloc (.cells #[.int .i64 i, .slice nA ns.length nc, .slice gA gs.length gc, .slice oA os.length oc] 26)).alloc (.cells #[.int .i64 i', .slice nA' ns'.length nc', .slice gA' gs'.length gc', .slice oA' os'.length oc'] 26)).alloc (.cells #[.bool false, .slice none 0 0, .slice none 0 0] 50)) (w.heap.size + 1) 26 #[.int .i64 i', .slice nA' ns'.length nc', .slice gA' gs'.length gc', .slice oA' os'.length oc'] := (Below.heap_alloc _ _ _ (by simp)).trans (by
    have := heap_alloc_new (w.alloc (.cells #[.int .i64 i, .slice nA ns.length nc, .slice gA gs.length gc, .slice oA os.length oc] 26)) (.cells #[.int .i64 i', .slice nA' ns'.length nc', .slice gA' gs'.length gc', .slice oA' os'.length oc'] 26)
    simpa using this)
  have r3 : Row (((w.alloc (.cells #[.int .i64 i, .slice nA ns.length nc, .slice gA gs.length gc, .slice oA os.length oc] 26)).alloc (.cells #[.int .i64 i', .slice nA' ns'.length nc', .slice gA' gs'.length gc', .slice oA' os'.length oc'] 26)).alloc (.cells #[.bool false, .slice none 0 0, .slice none 0 0] 50)) (w.heap.size + 1 + 1) 50 #[.bool false, .slice none 0 0, .slice none 0 0] := by
    have := heap_alloc_new ((w.alloc (.cells #[.int .i64 i, .slice nA ns.length nc, .slice gA gs.length gc, .slice oA os.length oc] 26)).alloc (.cells #[.int .i64 i', .slice nA' ns'.length nc', .slice gA' gs'.length gc', .slice oA' os'.length oc'] 26)) (.cells #[.bool false, .slice none 0 0, .slice none 0 0] 50)
    simpa [Row] using this
  have HL0 := Lib.hid hb0
  have HR0 := Lib.hid r1
  have HQ0 := Lib.hid r2
  have HZ0 := Lib.hid r3
  clear hb0 r1 r2 r3
  go_enter Try.func33, Try.ntmps33
  go_wp2_with fail
  refine (ssameIf_any i nA gA oA nc gc oc ns gs os i' nA' gA' oA' nc' gc' oc' ns' gs' os' _ ((HC.out.below HL0.out).mono HL0.out.size) ((HD.out.below HL0.out).mono HL0.out.size)).mono ?_
  rintro e w1 ⟨rfl, hb1⟩
  have HL1 := Lib.hid (HL0.out.trans (hb1.mono HL0.out.size))
  have HR1 := Lib.hid (HR0.out.below hb1 HR0.out.lt)
  have HQ1 := Lib.hid (HQ0.out.below hb1 HQ0.out.lt)
  have HZ1 := Lib.hid (HZ0.out.below hb1 HZ0.out.lt)
  clear hb1 HL0 HR0 HQ0 HZ0
  cases hs : Circ.sameIf i ns gs os i' ns' gs' os'
  · have HF := Lib.hid (Circ.fdV_f hs)
    clear hs
    have z0 := HZ1.out.cell 0
    have z1 := HZ1.out.cell 1
    have z2 := HZ1.out.cell 2
    have y0 := HZ1.out.frozen 0
    have y1 := HZ1.out.frozen 1
    have y2 := HZ1.out.frozen 2
    simp at z0 z1 z2
    go_wp2
    refine bodyPost_ret (v := .agg #[.bool false, .slice none 0 0, .slice none 0 0]) (by simp [results, Try.results33, go_sem, z0, z1, z2]) rfl ⟨none, none, 0, 0, by rw [HF.out]; rfl, ?_, ?_, ?_, fun _ _ e => (by cases e), fun _ _ e => (by cases e)⟩
    · rw [HF.out]; exact fun k hk => absurd hk (by simp)
    · rw [HF.out]; exact fun k hk => absurd hk (by simp)
    · refine Below.setCell (Below.setCell (Below.setCell HL1.out ?_ _) ?_ _) ?_ _ <;> (simp; omega)
  · obtain ⟨hv, hv', hie, hne, hoe⟩ := Circ.sameIf_inv hs
    have HS := Lib.hid hs
    have HV := Lib.hid hv
    have HV' := Lib.hid hv'
    obtain ⟨hi0, hi4, hn3, hg14, ho3⟩ := Circ.valid_within hv
    obtain ⟨_, _, hn3', hg14', ho3'⟩ := Circ.valid_within hv'
    subst hie
    obtain ⟨m, rfl⟩ := Int.eq_ofNat_of_zero_le hi0
    have hm4 : m ≤ 4 := by omega
    have HNE := Lib.hid hne
    have HOE := Lib.hid hoe
    clear hs hv hv' hne hoe hi0 hi4
    have q0 := HR1.out.cell 0
    have q1 := HR1.out.cell 1
    simp at q0 q1
    obtain ⟨N, HNN, hN, hN1⟩ : ∃ N : Nat, Hid (N = 2 ^ (m + ns.length)) ∧ wrap64 (2 ^ (m + ns.length)) = (N : Int) ∧ N ≤ 128 := by
      have h128 : 2 ^ (m + ns.length) ≤ 2 ^ 7 := Nat.pow_le_pow_right (by decide) (by omega)
      have e : ((2 : Int) ^ (m + ns.length)) = ((2 ^ (m + ns.length) : Nat) : Int) := by simp
      refine ⟨2 ^ (m + ns.length), Lib.hid rfl, ?_, by simpa using h128⟩
      rw [e]
      have key : ∀ N : Nat, N ≤ 128 → wrap64 (N : Int) = N := fun N h => IntWalk.wrap64_in _ (by omega)
      exact key _ (by simpa using h128)
    obtain ⟨d, hd⟩ : ∃ d, Circ.differB m ns.length ns gs os ns' gs' os' = d := ⟨_, rfl⟩
    have HDD := Lib.hid hd
    clear hd
    have HHN := Lib.hid hN
    clear hN
    go_wp2
    have hN := HHN.out
    go_loopw [6] (fun kv wr => ∃ (k : Nat), k ≤ N ∧ kv = .int .i64 k ∧ Hid (∀ y, y < k → d y = false) ∧ Hid (Below w1.heap.size w1 wr)) (fun kv _ => ((N : Int) - intOf kv).toNat)
    case atStart => exact ⟨0, Nat.zero_le _, rfl, Lib.hid (fun y hy => absurd hy (by simp)), Lib.hid (Below.refl _ _)⟩
    case round =>
      clear q0 q1
      obtain ⟨k, hk, rfl, HNO, HB⟩ := hrel
      have HLr := Lib.hid (HL1.out.trans (HB.out.mono HL1.out.size))
      have HRr := Lib.hid (HR1.out.below HB.out HR1.out.lt)
      have HQr := Lib.hid (HQ1.out.below HB.out HQ1.out.lt)
      have HZr := Lib.hid (HZ1.out.below HB.out HZ1.out.lt)
      by_cases hlt : k < N
      · obtain ⟨kd, hkd, hkd1, HKD⟩ : ∃ kd : Nat, (k : Int) / 2 ^ m = (kd : Int) ∧ kd ≤ k ∧ Hid (k / 2 ^ m = kd) := ⟨k / 2 ^ m, shr_nat k m, Nat.div_le_self _ _, Lib.hid rfl⟩
        have hkd0 : (0 : Int) ≤ (k : Int) / 2 ^ m := by omega
        have q0 := HRr.out.cell 0
        simp at q0
        go_wp2_with fail
        refine (l4Bits_any k m _ (by omega) (by omega)).mono ?_
        rintro e w2 ⟨b1, d1, rfl, hg1, hB1, hb1⟩
        have HL2 := Lib.hid (HLr.out.trans (hb1.mono HLr.out.size))
        have HR2 := Lib.hid (HRr.out.below hb1 HRr.out.lt)
        have HQ2 := Lib.hid (HQr.out.below hb1 HQr.out.lt)
        have HZ2 := Lib.hid (HZr.out.below hb1 HZr.out.lt)
        have HI2 := Lib.hid hB1
        have hPb1 : w.heap.size + 1 + 1 < b1 := Nat.lt_of_lt_of_le HZr.out.lt hg1
        have HB2 := Lib.hid (HB.out.trans (hb1.mono HB.out.size))
        clear hb1 hB1 q0 HLr HRr HQr HZr
        go_upto_region 8 with fail
        have q0 := HR2.out.cell 0
        have q1 := HR2.out.cell 1
        simp at q0 q1
        have hz2 := HR2.out.lt
        go_region_held3 (fun w' => w'.cell? ⟨w.heap.size, 0, none⟩ = some (.int .i64 (m : Int)) ∧ w'.cell? ⟨w.heap.size, 1, none⟩ = some (.slice nA ns.length nc))
          (first | go_keep | (have _t := hb3; refine ⟨?_, ?_⟩; (exact (hc3 _ _ (by simp; omega)).trans q0); (exact (hc3 _ _ (by simp; omega)).trans q1)))
          (first
            | (go_at_call 66; refine (l4Bits_any kd ns.length _ (by omega) (by omega)).mono ?_; rintro e w3 ⟨b2, d2, rfl, hg2, hB3, hb3⟩; obtain ⟨hc3, hf3⟩ := bcell hb3))
        have hbd : Below w2.heap.size w2 w3 := (Below.refl _ w2).drew.trans hb3
        have HL3 := Lib.hid (HL2.out.trans (hbd.mono HL2.out.size))
        have HR3 := Lib.hid (HR2.out.below hbd HR2.out.lt)
        have HQ3 := Lib.hid (HQ2.out.below hbd HQ2.out.lt)
        have HZ3 := Lib.hid (HZ2.out.below hbd HZ2.out.lt)
        have HI3 := Lib.hid (HI2.out.on hbd)
        have HS3 := Lib.hid hB3
        have hPb2 : w.heap.size + 1 + 1 < b2 := Nat.lt_of_lt_of_le HZ2.out.lt hg2
        have HB3 := Lib.hid (HB2.out.trans (hbd.mono HB2.out.size))
        have HC3 := Lib.hid ((HC.out.below HL3.out).mono HL3.out.size)
        have HA1 : Hid (assignB (m : Int) ns gs os ns.length m = true) := Lib.hid (by unfold assignB; rw [HV.out]; simp)
        have HA2 : Hid (assignB (m : Int) ns' gs' os' ns.length m = true) := Lib.hid (by unfold assignB; rw [HV'.out, HNE.out]; simp)
        have HSL : Hid ((Circ.bitsN kd ns.length).length = ns.length) := Lib.hid (Circ.bitsN_len _ _)
        have HIL : Hid ((Circ.bitsN k m).length = m) := Lib.hid (Circ.bitsN_len _ _)
        clear hbd hb3 hc3 hf3 hB3 q0 q1 HL2 HR2 HQ2 HZ2 HI2 HB2
        have q0 := HR3.out.cell 0
        have q1 := HR3.out.cell 1
        have q2 := HR3.out.cell 2
        have q3 := HR3.out.cell 3
        simp at q0 q1 q2 q3
        go_upto_region 9 with fail
        go_wp2_with fail
        refine (l2Step_ln (m : Int) nA gA oA (some ⟨b2, 0, none⟩) (some ⟨b1, 0, none⟩) nc gc oc ns.length m d2 d1 ns gs os (Circ.bitsN kd ns.length) (Circ.bitsN k m) _ HSL.out HIL.out HC3.out HS3.out HI3.out HA1.out).mono ?_
        rintro e w4 ⟨y1, y2, e1, e2, rfl, hy1, hy2, hx1, hx2, hb4⟩
        have hbA : Below w4.heap.size w4 (w4.alloc (.cells #[.slice (some ⟨y1, 0, none⟩) os.length e1, .slice (some ⟨y2, 0, none⟩) ns.length e2] 35)) := (Below.refl _ _).alloc (Nat.le_refl _) _
        have hb4' := hb4.trans (hbA.mono hb4.size)
        have HL4 := Lib.hid (HL3.out.trans (hb4'.mono HL3.out.size))
        have HQ4 := Lib.hid (HQ3.out.below hb4' HQ3.out.lt)
        have HZ4 := Lib.hid (HZ3.out.below hb4' HZ3.out.lt)
        have HI4 := Lib.hid (HI3.out.on hb4')
        have HS4 := Lib.hid (HS3.out.on hb4')
        have HB4 := Lib.hid (HB3.out.trans (hb4'.mono HB3.out.size))
        have HD4 := Lib.hid ((HD.out.below HL4.out).mono HL4.out.size)
        have HY1 := Lib.hid (hx1.on hbA)
        have HY2 := Lib.hid (hx2.on hbA)
        have HP4 := Lib.hid (show Row (w4.alloc (.cells #[.slice (some ⟨y1, 0, none⟩) os.length e1, .slice (some ⟨y2, 0, none⟩) ns.length e2] 35)) w4.heap.size 35 #[.slice (some ⟨y1, 0, none⟩) os.length e1, .slice (some ⟨y2, 0, none⟩) ns.length e2] from heap_alloc_new w4 _)
        clear hbA hb4' hb4 hx1 hx2 HL3 HR3 HQ3 HZ3 HI3 HS3 HB3 HC3 q0 q1 q2 q3
        go_upto_region 10 with fail
        generalize w4.alloc (.cells #[.slice (some ⟨y1, 0, none⟩) os.length e1, .slice (some ⟨y2, 0, none⟩) ns.length e2] 35) = wa at *
        generalize w4.heap.size = P1 at *
        have q0 := HQ4.out.cell 0
        have q1 := HQ4.out.cell 1
        have q2 := HQ4.out.cell 2
        have q3 := HQ4.out.cell 3
        simp at q0 q1 q2 q3
        go_wp2_with fail
        refine (l2Step_ln (m : Int) nA' gA' oA' (some ⟨b2, 0, none⟩) (some ⟨b1, 0, none⟩) nc' gc' oc' ns.length m d2 d1 ns' gs' os' (Circ.bitsN kd ns.length) (Circ.bitsN k m) _ HSL.out HIL.out HD4.out HS4.out HI4.out HA2.out).mono ?_
        rintro e w5 ⟨u1, u2, v1, v2, rfl, hu1, hu2, hx1, hx2, hb5⟩
        have hbA : Below w5.heap.size w5 (w5.alloc (.cells #[.slice (some ⟨u1, 0, none⟩) os'.length v1, .slice (some ⟨u2, 0, none⟩) ns'.length v2] 35)) := (Below.refl _ _).alloc (Nat.le_refl _) _
        have hb5' := hb5.trans (hbA.mono hb5.size)
        have HL5 := Lib.hid (HL4.out.trans (hb5'.mono HL4.out.size))
        have HZ5 := Lib.hid (HZ4.out.below hb5' HZ4.out.lt)
        have HI5 := Lib.hid (HI4.out.on hb5')
        have HS5 := Lib.hid (HS4.out.on hb5')
        have HB5 := Lib.hid (HB4.out.trans (hb5'.mono HB4.out.size))
        have HY1b := Lib.hid (HY1.out.on hb5')
        have HY2b := Lib.hid (HY2.out.on hb5')
        have HU1 := Lib.hid (hx1.on hbA)
        have HU2 := Lib.hid (hx2.on hbA)
        have HP5 := Lib.hid (HP4.out.below hb5' HP4.out.lt)
        have HT5 := Lib.hid (show Row (w5.alloc (.cells #[.slice (some ⟨u1, 0, none⟩) os'.length v1, .slice (some ⟨u2, 0, none⟩) ns'.length v2] 35)) w5.heap.size 35 #[.slice (some ⟨u1, 0, none⟩) os'.length v1, .slice (some ⟨u2, 0, none⟩) ns'.length v2] from heap_alloc_new w5 _)
        clear hbA hb5' hb5 hx1 hx2 HL4 HQ4 HZ4 HI4 HS4 HB4 HD4 HY1 HY2 HP4 q0 q1 q2 q3
        go_upto_region 11 with fail
        generalize w5.alloc (.cells #[.slice (some ⟨u1, 0, none⟩) os'.length v1, .slice (some ⟨u2, 0, none⟩) ns'.length v2] 35) = wb at *
        generalize w5.heap.size = P2 at *
        have p0 := HP5.out.cell 0
        have s0 := HT5.out.cell 0
        simp at p0 s0
        go_wp2_with fail
        refine (l4Same_len (some ⟨y1, 0, none⟩) (some ⟨u1, 0, none⟩) os.length os'.length _ _ (Circ.litsV (Circ.valsOf gs (Circ.bitsN kd ns.length) (Circ.bitsN k m)) os) (Circ.litsV (Circ.valsOf gs' (Circ.bitsN kd ns.length) (Circ.bitsN k m)) os') _ (by simp [Circ.litsV]) (by simp [Circ.litsV]) HY1b.out HU1.out (by omega) (by omega)).mono ?_
        rintro e w6 ⟨he, hb6⟩
        obtain ⟨B1, hB1⟩ : ∃ B1, (Circ.litsV (Circ.valsOf gs (Circ.bitsN kd ns.length) (Circ.bitsN k m)) os == Circ.litsV (Circ.valsOf gs' (Circ.bitsN kd ns.length) (Circ.bitsN k m)) os') = B1 := ⟨_, rfl⟩
        obtain ⟨B2, hB2⟩ : ∃ B2, (Circ.litsV (Circ.valsOf gs (Circ.bitsN kd ns.length) (Circ.bitsN k m)) ns == Circ.litsV (Circ.valsOf gs' (Circ.bitsN kd ns.length) (Circ.bitsN k m)) ns') = B2 := ⟨_, rfl⟩
        have HDK : Hid (d k = !(B1 && B2)) := Lib.hid (by rw [← HDD.out, ← hB1, ← hB2, ← HKD.out]; rfl)
        rw [hB1] at he
        subst he
        have HB2 := Lib.hid hB2
        have HL6 := Lib.hid (HL5.out.trans (hb6.mono HL5.out.size))
        have HZ6 := Lib.hid (HZ5.out.below hb6 HZ5.out.lt)
        have HI6 := Lib.hid (HI5.out.on hb6)
        have HS6 := Lib.hid (HS5.out.on hb6)
        have HB6 := Lib.hid (HB5.out.trans (hb6.mono HB5.out.size))
        have p1 := (HP5.out.below hb6 HP5.out.lt).cell 1
        have s1 := (HT5.out.below hb6 HT5.out.lt).cell 1
        simp at p1 s1
        have HY6 := Lib.hid (HY2b.out.on hb6)
        have HU6 := Lib.hid (HU2.out.on hb6)
        have HLT := Lib.hid hlt
        clear hB1 hB2 hb6 p0 s0 HL5 HZ5 HI5 HS5 HB5 HP5 HT5 HY1b HY2b HU1 HU2
        have found : ∀ w7 : World, Below w6.heap.size w6 w7 → d k = true → FDOutN w (Circ.fdV (m : Int) ns gs os (m : Int) ns' gs' os') (.returned (.agg #[.bool true, .slice (some ⟨b2, 0, none⟩) ns.length d2, .slice (some ⟨b1, 0, none⟩) m d1])) (((w7.setCell ⟨w.heap.size + 1 + 1, 0, none⟩ (.bool true)).setCell ⟨w.heap.size + 1 + 1, 1, none⟩ (.slice (some ⟨b2, 0, none⟩) ns.length d2)).setCell ⟨w.heap.size + 1 + 1, 2, none⟩ (.slice (some ⟨b1, 0, none⟩) m d1)) := by
          intro w7 hb7 hdk
          have hF : Circ.fdV (m : Int) ns gs os (m : Int) ns' gs' os' = (true, Circ.bitsN kd ns.length, Circ.bitsN k m) := by
            have h := Circ.fdV_some (x := k) HS.out (by rw [Int.toNat_natCast, ← HNN.out]; exact HLT.out) (fun y hy => by rw [Int.toNat_natCast, HDD.out]; exact HNO.out y hy) (by rw [Int.toNat_natCast, HDD.out]; exact hdk)
            rwa [Int.toNat_natCast, HKD.out] at h
          refine ⟨some ⟨b2, 0, none⟩, some ⟨b1, 0, none⟩, d2, d1, by rw [hF]; simp [Circ.bitsN_len], ?_, ?_, ?_, fun b off e => (by injection e with e; injection e with e; omega), fun b off e => (by injection e with e; injection e with e; omega)⟩
          · rw [hF]
            have hne : ∀ (b off : Nat), some (⟨b2, 0, none⟩ : Addr) = some ⟨b, off, none⟩ → b ≠ w.heap.size + 1 + 1 := fun b off e => by injection e with e; injection e with e; omega
            exact (((HS6.out.on hb7).far ⟨w.heap.size + 1 + 1, 0, none⟩ _ hne).far ⟨w.heap.size + 1 + 1, 1, none⟩ _ hne).far ⟨w.heap.size + 1 + 1, 2, none⟩ _ hne
          · rw [hF]
            have hne : ∀ (b off : Nat), some (⟨b1, 0, none⟩ : Addr) = some ⟨b, off, none⟩ → b ≠ w.heap.size + 1 + 1 := fun b off e => by injection e with e; injection e with e; omega
            exact (((HI6.out.on hb7).far ⟨w.heap.size + 1 + 1, 0, none⟩ _ hne).far ⟨w.heap.size + 1 + 1, 1, none⟩ _ hne).far ⟨w.heap.size + 1 + 1, 2, none⟩ _ hne
          · refine Below.setCell (Below.setCell (Below.setCell (HL6.out.trans (hb7.mono HL6.out.size)) ?_ _) ?_ _) ?_ _ <;> (show w.heap.size ≤ w.heap.size + 1 + 1; omega)
        have FND := Lib.hid found
        clear found hlt
        cases B1
        · have HDT : Hid (d k = true) := Lib.hid (by rw [HDK.out]; rfl)
          have z0 := HZ6.out.cell 0
          have z1 := HZ6.out.cell 1
          have z2 := HZ6.out.cell 2
          have y0 := HZ6.out.frozen 0
          have y1 := HZ6.out.frozen 1
          have y2 := HZ6.out.frozen 2
          simp at z0 z1 z2
          go_wp2
          exact bodyPost_ret (v := .agg #[.bool true, .slice (some ⟨b2, 0, none⟩) ns.length d2, .slice (some ⟨b1, 0, none⟩) m d1]) (by simp [results, Try.results33, go_sem, z0, z1, z2]) rfl (FND.out _ (Below.refl _ _) HDT.out)
        · go_wp2_with fail
          refine (l4Same_len (some ⟨y2, 0, none⟩) (some ⟨u2, 0, none⟩) ns.length ns'.length _ _ (Circ.litsV (Circ.valsOf gs (Circ.bitsN kd ns.length) (Circ.bitsN k m)) ns) (Circ.litsV (Circ.valsOf gs' (Circ.bitsN kd ns.length) (Circ.bitsN k m)) ns') _ (by simp [Circ.litsV]) (by simp [Circ.litsV]) HY6.out HU6.out (by omega) (by omega)).mono ?_
          rintro e w7 ⟨he, hb7⟩
          rw [HB2.out] at he
          subst he
          have HB7 := Lib.hid (HB6.out.trans (hb7.mono HB6.out.size))
          have HZ7 := Lib.hid (HZ6.out.below hb7 HZ6.out.lt)
          have HS7 := Lib.hid hb7
          clear hb7 p1 s1
          cases B2
          · have HDT : Hid (d k = true) := Lib.hid (by rw [HDK.out]; rfl)
            have z0 := HZ7.out.cell 0
            have z1 := HZ7.out.cell 1
            have z2 := HZ7.out.cell 2
            have y0 := HZ7.out.frozen 0
            have y1 := HZ7.out.frozen 1
            have y2 := HZ7.out.frozen 2
            simp at z0 z1 z2
            go_wp2
            exact bodyPost_ret (v := .agg #[.bool true, .slice (some ⟨b2, 0, none⟩) ns.length d2, .slice (some ⟨b1, 0, none⟩) m d1]) (by simp [results, Try.results33, go_sem, z0, z1, z2]) rfl (FND.out _ HS7.out HDT.out)
          · have HDF : Hid (d k = false) := Lib.hid (by rw [HDK.out]; rfl)
            have hlt := HLT.out
            go_wp2
            go_roundw
            case rel => exact ⟨k + 1, by omega, by go_num, Lib.hid (fun y hy => by
              by_cases e : y = k
              · rw [e]; exact HDF.out
              · exact HNO.out y (by omega)), HB7⟩
            case measure => simp [intOf]; omega
      · obtain rfl : N = k := by omega
        have HF : Hid (Circ.fdV (m : Int) ns gs os (m : Int) ns' gs' os' = (false, [], [])) := Lib.hid (Circ.fdV_none (fun y hy => by
          rw [Int.toNat_natCast, HDD.out]
          rw [Int.toNat_natCast, ← HNN.out] at hy
          exact HNO.out y hy))
        have z0 := HZr.out.cell 0
        have z1 := HZr.out.cell 1
        have z2 := HZr.out.cell 2
        have y0 := HZr.out.frozen 0
        have y1 := HZr.out.frozen 1
        have y2 := HZr.out.frozen 2
        simp at z0 z1 z2
        go_wp2
        refine bodyPost_ret (v := .agg #[.bool false, .slice none 0 0, .slice none 0 0]) (by simp [results, Try.results33, go_sem, z0, z1, z2]) rfl ⟨none, none, 0, 0, by rw [HF.out]; rfl, ?_, ?_, ?_, fun _ _ e => (by cases e), fun _ _ e => (by cases e)⟩
        · rw [HF.out]; exact fun k hk => absurd hk (by simp)
        · rw [HF.out]; exact fun k hk => absurd hk (by simp)
        · refine Below.setCell (Below.setCell (Below.setCell HLr.out ?_ _) ?_ _) ?_ _ <;> (show w.heap.size ≤ w.heap.size + 1 + 1; omega)
theorem sfind_any (i : Int) (nA gA oA : Option Addr) (nc gc oc : Nat) (ns : List Int) (gs : List (Int × Int)) (os : List Int) (i' : Int) (nA' gA' oA' : Option Addr) (nc' gc' oc' : Nat) (ns' : List Int) (gs' : List (Int × Int)) (os' : List Int) (w : World) (hc : CircAt w w.heap.size nA gA oA ns gs os) (hd : CircAt w w.heap.size nA' gA' oA' ns' gs' os') :
    Calls Try.prog 33 #[.agg #[.int .i64 i, .slice nA ns.length nc, .slice gA gs.length gc, .slice oA os.length oc], .agg #[.int .i64 i', .slice nA' ns'.length nc', .slice gA' gs'.length gc', .slice oA' os'.length oc']] w (FDOut w (Circ.fdV i ns gs os i' ns' gs' os')) :=
  (sfind_new i nA gA oA nc gc oc ns gs os i' nA' gA' oA' nc' gc' oc' ns' gs' os' w hc hd).mono fun _ _ ⟨A1, A2, c1, c2, he, h1, h2, hb, _, _⟩ => ⟨A1, A2, c1, c2, he, h1, h2, hb⟩
end Go.Proofs.Ythpiddpkcmecfaa
