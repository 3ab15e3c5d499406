/- The contract of determined. -/
import Derived.Test.YtgllpnilnaggeaaC5
import Derived.Test.YtgllpnilnaggeaaQD
import Derived.Test.YtgllpnilnaggeaaB5
import Derived.Test.YtgllpnilnaggeaaY2
import Derived.Deep.DeepCutAuto
import Derived.Deep.CutBlock
namespace Go.Proofs.Ytgllpnilnaggeaa
open Go.RowKit Go.Deep Cut

theorem evalVars_n (i : Int) (nA gA oA sA iA : Option Addr) (nc gc oc sc ic nl ml : Nat) (ns : List Int) (gs : List (Int × Int)) (os : List Int) (st ins : List Bool) (w : World) (hc : CircAt w w.heap.size nA gA oA ns gs os)
    (hs : BoolsAt w w.heap.size sA st) (hin : BoolsAt w w.heap.size iA ins) (hsl : st.length = nl) (hil : ins.length = ml) (hv : assignB i ns gs os nl ml = true) :
    Calls Try.prog 20 #[.agg #[.int .i64 i, .slice nA ns.length nc, .slice gA gs.length gc, .slice oA os.length oc], .slice sA nl sc, .slice iA ml ic] w fun e w' =>
      ∃ g : Nat, e = .returned (.slice (some ⟨g, 0, none⟩) (Circ.valsOf gs st ins).length (Circ.valsOf gs st ins).length) ∧ w.heap.size ≤ g ∧ BRow w' g (Circ.valsOf gs st ins) ∧ Below w.heap.size w w' := by
  subst hsl hil
  exact evalVars_t i nA gA oA sA iA nc gc oc sc ic ns gs os st ins w hc hs hin hv
/-- What the cells of 'seen' say. -/
def SeenC (T : List Bool → Bool) (n : Nat) (cs : Array Value) : Prop := cs.size = 2 ^ n ∧ ∀ a, a < 2 ^ n → ∃ s : Nat, cs[a]? = some (.int .i64 (s : Int)) ∧ (s = 0 ∨ ∃ bs : List Bool, bs.length = n ∧ num bs = a ∧ s = if T bs then 2 else 1)
theorem SeenC.at {T : List Bool → Bool} {n : Nat} {cs : Array Value} (h : SeenC T n cs) {bs : List Bool} (hb : bs.length = n) : ∃ s : Nat, cs[num bs]? = some (.int .i64 (s : Int)) ∧ (s = 0 ∨ s = if T bs then 2 else 1) := by
  obtain ⟨s, h1, h2⟩ := h.2 (num bs) (by rw [← hb]; exact num_lt bs)
  refine ⟨s, h1, ?_⟩
  rcases h2 with h2 | ⟨bs', h3, h4, h5⟩
  · exact .inl h2
  · rw [num_inj (by rw [h3, hb]) h4] at h5
    exact .inr h5
theorem SeenC.set {T : List Bool → Bool} {n : Nat} {cs : Array Value} (h : SeenC T n cs) {bs : List Bool} (hb : bs.length = n) {s : Nat} (hs : s = if T bs then 2 else 1) : SeenC T n (cs.setIfInBounds (num bs) (.int .i64 (s : Int))) := by
  refine ⟨by simpa using h.1, fun a ha => ?_⟩
  by_cases e : num bs = a
  · subst e
    refine ⟨s, ?_, .inr ⟨bs, hb, rfl, hs⟩⟩
    have := h.1
    rw [Array.getElem?_setIfInBounds, if_pos rfl, if_pos (by omega)]
  · rw [Array.getElem?_setIfInBounds_ne e]
    exact h.2 a ha
theorem evalVars_k (m Z : Nat) (nA gA oA sA iA : Option Addr) (nc gc oc sc ic : Nat) (ns : List Int) (gs : List (Int × Int)) (os : List Int) (st ins : List Bool) (w : World) (hsl : st.length = ns.length) (hil : ins.length = m) (hv : Circ.validB (m : Int) ns gs os = true) (hz : Z = 1 + m + ns.length + gs.length) (hc : CircAt w w.heap.size nA gA oA ns gs os)
    (hs : BoolsAt w w.heap.size sA st) (hin : BoolsAt w w.heap.size iA ins) :
    Calls Try.prog 20 #[.agg #[.int .i64 (m : Int), .slice nA ns.length nc, .slice gA gs.length gc, .slice oA os.length oc], .slice sA ns.length sc, .slice iA m ic] w fun e w' =>
      ∃ g : Nat, e = .returned (.slice (some ⟨g, 0, none⟩) Z Z) ∧ w.heap.size ≤ g ∧ BRow w' g (Circ.valsOf gs st ins) ∧ Below w.heap.size w w' := by
  subst hz
  have h := evalVars_n (m : Int) nA gA oA sA iA nc gc oc sc ic ns.length m ns gs os st ins w hc hs hin hsl hil (by unfold assignB; rw [hv]; simp)
  rw [Circ.valsOf_len, hsl, hil] at h
  exact h
theorem four_on {w w' : World} {cc : Nat} {a0 a1 a2 a3 : Value} (hb : Below w.heap.size w w')
    (h : w.cell? ⟨cc, 0, none⟩ = some a0 ∧ w.cell? ⟨cc, 1, none⟩ = some a1 ∧ w.cell? ⟨cc, 2, none⟩ = some a2 ∧ w.cell? ⟨cc, 3, none⟩ = some a3) :
    w'.cell? ⟨cc, 0, none⟩ = some a0 ∧ w'.cell? ⟨cc, 1, none⟩ = some a1 ∧ w'.cell? ⟨cc, 2, none⟩ = some a2 ∧ w'.cell? ⟨cc, 3, none⟩ = some a3 := by
  have k : ∀ (a : Addr) (u : Value), w.cell? a = some u → w'.cell? a = some u := fun a u h => (hb.cell (World.block_lt_of_cell? w a h)).trans h
  exact ⟨k _ _ h.1, k _ _ h.2.1, k _ _ h.2.2.1, k _ _ h.2.2.2⟩
theorem map_take_snoc (x : List Nat) (val : Nat → Bool) (k : Nat) (hk : k < x.length) : (x.take (k + 1)).map val = (x.take k).map val ++ [val (x.getD k 0)] := by
  rw [take_succ_getD x k 0 hk, List.map_append]; rfl

set_option maxRecDepth 10000 in
set_option maxHeartbeats 2000000 in
theorem determined_any (m : Nat) (nA gA oA A : Option Addr) (nc gc oc n cap v : Nat) (ns : List Int) (gs : List (Int × Int)) (os : List Int) (x : List Nat) (w : World) (hc : CircAt w w.heap.size nA gA oA ns gs os) (hv : Circ.validB (m : Int) ns gs os = true)
    (hx : IntsAt w w.heap.size A (Opt.intL x)) (hn : x.length = n) (hn3 : n ≤ 3) (hsa : SA x) (hlt : ∀ l, l ∈ x → l < 1 + m + ns.length + gs.length) (hvl : v < 1 + m + ns.length + gs.length) (hd : Det (1 + m + ns.length) (Opt.natG gs) v x) :
    Calls Try.prog 15 #[.agg #[.int .i64 m, .slice nA ns.length nc, .slice gA gs.length gc, .slice oA os.length oc], .int .i64 v, .slice A n cap] w fun e w' => e = .returned (.bool true) ∧ Below w.heap.size w w' := by
  obtain ⟨hi0, hi4, hns3, hg14, ho3⟩ := Circ.valid_within hv
  have hgok := Circ.valid_gates hv
  obtain ⟨T, hT⟩ := hd
  have HT := Lib.hid hT
  have HC := Lib.hid hc
  have HV := Lib.hid hv
  have HX := Lib.hid hx
  have HN := Lib.hid hn
  have HSA := Lib.hid hsa
  have HLT := Lib.hid hlt
  have hm4 : m ≤ 4 := by omega
  have HGS : Hid (∀ st ins : List Bool, st.length = ns.length → ins.length = m → Opt.Sem (1 + m + ns.length) (Opt.natG gs) (fun u => (Circ.valsOf gs st ins).getD u false)) := Lib.hid (fun st ins h1 h2 => Opt.sem_vals st ins (by omega) (by rw [show ((1 + m + ns.length : Nat) : Int) = 1 + (m : Int) + ns.length by omega]; exact hgok))
  clear hT hc hv hx hn hsa hlt hgok hi0 hi4
  obtain ⟨N, HNE, hN, hN8⟩ : ∃ N : Nat, Hid (N = 2 ^ n) ∧ wrap64 (2 ^ n) = (N : Int) ∧ N ≤ 8 := by
    have h8 : 2 ^ n ≤ 2 ^ 3 := Nat.pow_le_pow_right (by decide) hn3
    have e : ((2 : Int) ^ n) = ((2 ^ n : Nat) : Int) := by simp
    refine ⟨2 ^ n, Lib.hid rfl, ?_, by simpa using h8⟩
    rw [e]
    generalize (2 ^ n : Nat) = q at *
    unfold wrap64
    omega
  obtain ⟨M, HME, hM, hM1⟩ : ∃ M : Nat, Hid (M = 2 ^ (m + ns.length)) ∧ wrap64 (2 ^ (m + ns.length)) = (M : Int) ∧ M ≤ 128 := by
    have h128 : 2 ^ (m + ns.length) ≤ 2 ^ 7 := Nat.pow_le_pow_right (by decide) (by omega)
    have e : ((2 : Int) ^ (m + ns.length)) = ((2 ^ (m + ns.length) : Nat) : Int) := by simp
    refine ⟨2 ^ (m + ns.length), Lib.hid rfl, ?_, by simpa using h128⟩
    rw [e]
    generalize (2 ^ (m + ns.length) : Nat) = q at *
    unfold wrap64
    omega
  have HB0 := Lib.hid (Boxed.new w m nA gA oA ns.length nc gs.length gc os.length oc 26)
  have HW0 : Hid (Below w.heap.size w (w.alloc (.cells #[.int .i64 m, .slice nA ns.length nc, .slice gA gs.length gc, .slice oA os.length oc] 26))) := Lib.hid ((Below.refl _ _).alloc (Nat.le_refl _) _)
  have hsz0 : (w.alloc (.cells #[.int .i64 m, .slice nA ns.length nc, .slice gA gs.length gc, .slice oA os.length oc] 26)).heap.size = w.heap.size + 1 := by simp
  have HZ0 := Lib.hid hsz0
  clear hsz0
  obtain ⟨Z, HZ, hvZ, hZ1⟩ : ∃ Z : Nat, Hid (Z = 1 + m + ns.length + gs.length) ∧ v < Z ∧ Z ≤ 22 := ⟨_, Lib.hid rfl, hvl, by omega⟩
  have hmk := fun W => run_make_row' (P := Try.prog) 23 3 (.int .i64 0) 8 Try.underlying23 Try.info3 rfl .i64 .i64 N (by omega) (by omega) W
  go_enter Try.func15, Try.ntmps15
  go_wp2
  clear hmk
  generalize w.alloc (.cells #[.int .i64 m, .slice nA ns.length nc, .slice gA gs.length gc, .slice oA os.length oc] 26) = w0 at *
  have HR1 : Hid (Row (w0.alloc (.cells (madeCells #[.int .i64 0] N) 3)) (w.heap.size + 1) 3 (madeCells #[.int .i64 0] N)) := Lib.hid (by
    have h := heap_alloc_new w0 (.cells (madeCells #[.int .i64 0] N) 3)
    rwa [HZ0.out] at h)
  have HS1 : Hid (SeenC T n (madeCells #[.int .i64 0] N)) := Lib.hid ⟨by rw [size_madeCells, HNE.out], fun a ha => ⟨0, by rw [made_int N a (by rw [HNE.out]; exact ha)]; rfl, .inl rfl⟩⟩
  have HL1 : Hid (Below (w.heap.size + 1) w0 (w0.alloc (.cells (madeCells #[.int .i64 0] N) 3))) := Lib.hid ((Below.refl _ _).alloc (by rw [HZ0.out]; exact Nat.le_refl _) _)
  generalize w0.alloc (.cells (madeCells #[.int .i64 0] N) 3) = w1 at *
  rw [hN]
  clear hN
  go_loopw [8] (fun kv wr => ∃ k : Nat, 1 ≤ k ∧ kv = .int .i64 k ∧ (k ≤ n ∨ k = 1) ∧ Hid (Below w1.heap.size w1 wr)) (fun kv _ => n - (intOf kv).toNat)
  case atStart => exact ⟨1, by omega, rfl, .inr rfl, Lib.hid (Below.refl _ _)⟩
  case round =>
    obtain ⟨k, hk1, rfl, hkn, HB⟩ := hrel
    have HLr := Lib.hid (HL1.out.trans (HB.out.mono (by have := HR1.out.lt; omega)))
    by_cases hlt : k < n
    · obtain ⟨b, off, rfl, hbl, hcA⟩ := HX.out (k - 1) (by rw [Opt.intL_len, HN.out]; omega)
      obtain ⟨b', off', he', hbl', hcB⟩ := HX.out k (by rw [Opt.intL_len, HN.out]; exact hlt)
      injection he' with he'
      injection he' with e1 e2
      subst e1 e2
      rw [← (HW0.out.trans (HLr.out.mono (by omega))).cell (p := ⟨b, off + (k - 1), none⟩) hbl, Opt.intL_at] at hcA
      rw [← (HW0.out.trans (HLr.out.mono (by omega))).cell (p := ⟨b, off + k, none⟩) hbl', Opt.intL_at] at hcB
      have hlk : x.getD (k - 1) 0 < x.getD k 0 := by
        have h1 : k - 1 < x.length := by rw [HN.out]; omega
        have h2 : k < x.length := by rw [HN.out]; exact hlt
        have := List.pairwise_iff_getElem.1 HSA.out (k - 1) k h1 h2 (by omega)
        simpa [List.getD_eq_getElem?_getD, h1, h2] using this
      generalize x.getD (k - 1) 0 = y0 at *
      generalize x.getD k 0 = y1 at *
      have i1 : (0 : Int) ≤ (k : Int) - 1 := by omega
      have i2 : (k : Int) - 1 < (n : Int) := by omega
      have i3 : ((k : Int) - 1).toNat = k - 1 := by omega
      have i4 : IntKind.i64.wrap ((k : Int) - 1) = (k : Int) - 1 := IntWalk.i64_in _ (by omega)
      have hd : decide ((y1 : Int) ≤ (y0 : Int)) = false := by simp; omega
      go_wp2
      go_quiet (fail)
      clear i1 i2 i3 i4
      go_wp2
      clear hd
      go_roundw
      case rel =>
        exact ⟨k + 1, by omega, by go_num, Or.inl (by omega), Lib.hid (below_drewN HB.out _)⟩
      case measure => simp [intOf]; omega
    · have HRr := Lib.hid (HR1.out.below HB.out HR1.out.lt)
      clear HB
      go_wp2
      go_loopw [9] (fun kv wx => ∃ (X : Nat) (cs : Array Value), X ≤ M ∧ kv = .int .i64 X ∧ Hid (Row wx (w.heap.size + 1) 3 cs) ∧ Hid (SeenC T n cs) ∧ Hid (Below (w.heap.size + 1) w0 wx)) (fun kv _ => M - (intOf kv).toNat)
      case atStart => exact ⟨0, _, Nat.zero_le _, rfl, HRr, HS1, HLr⟩
      case round =>
        clear HRr HS1 HLr HR1 HL1
        obtain ⟨X, cs, hX, rfl, HR, HS, HL⟩ := hrel
        obtain ⟨q0, q1, q2, q3⟩ := HB0.out.below HL.out (Nat.lt_succ_self _)
        by_cases hltX : X < M
        · obtain ⟨kd, hkd, hkd1⟩ : ∃ kd : Nat, (X : Int) / 2 ^ m = (kd : Int) ∧ kd ≤ X := ⟨X / 2 ^ m, shr_nat X m, Nat.div_le_self _ _⟩
          have hkd0 : (0 : Int) ≤ (X : Int) / 2 ^ m := by omega
          obtain ⟨st, HST, HSL⟩ : ∃ st, Hid (Circ.bitsN kd ns.length = st) ∧ Hid (st.length = ns.length) := ⟨_, Lib.hid rfl, Lib.hid (Circ.bitsN_len _ _)⟩
          obtain ⟨ins, HIN, HIL⟩ : ∃ ins, Hid (Circ.bitsN X m = ins) ∧ Hid (ins.length = m) := ⟨_, Lib.hid rfl, Lib.hid (Circ.bitsN_len _ _)⟩
          have HLw := Lib.hid (HW0.out.trans (HL.out.mono (by omega)))
          have HCx := Lib.hid ((HC.out.below HLw.out).mono HLw.out.size)
          go_upto_region 12 with fail
          go_cut [10] (fun pv wx => ∃ (wz : World) (g : Nat), wz = wx ∧ pv = .slice (some ⟨g, 0, none⟩) Z Z ∧ Hid (BRow wx g (Circ.valsOf gs st ins)) ∧ Hid (Below wr.heap.size wr wx))
          case first =>
            have hz1 := HR.out.lt
            have tok0 : True := trivial
            go_region_held3 (fun w' => w'.cell? ⟨w.heap.size, 0, none⟩ = some (.int .i64 (m : Int)) ∧ w'.cell? ⟨w.heap.size, 1, none⟩ = some (.slice nA ns.length nc) ∧ w'.cell? ⟨w.heap.size, 2, none⟩ = some (.slice gA gs.length gc) ∧ w'.cell? ⟨w.heap.size, 3, none⟩ = some (.slice oA os.length oc))
              (first | go_keep | (exact four_on hb3 (by assumption)) | (exact four_on hb2 (by assumption)) | (exact four_on hb1 (by assumption)))
              (first
                | (revert tok0; intro tok0; go_at_call 21; refine (bits_any kd ns.length _ (by omega) (by omega)).mono ?_; rintro e u1 ⟨b1, d1, rfl, hg1, hB1, hb1⟩; rw [HST.out] at hB1; have hw1 : Below wr.heap.size wr u1 := (Below.refl _ wr).drew.trans hb1; have hz1' := hw1.size; have tokA : True := trivial; clear tok0)
                | (revert tokA; intro tokA; go_at_call 21; refine (bits_any X m _ (by omega) (by omega)).mono ?_; rintro e u2 ⟨b2, d2, rfl, hg2, hB2, hb2⟩; rw [HIN.out] at hB2; have hw2 := hw1.trans (hb2.mono hz1'); have hz2' := hw2.size; have hB1' := hB1.on hb2; have tokB : True := trivial; clear tokA)
                | (revert tokB; intro tokB; go_at_call 20; refine (evalVars_k m Z nA gA oA (some ⟨b1, 0, none⟩) (some ⟨b2, 0, none⟩) nc gc oc d1 d2 ns gs os st ins _ HSL.out HIL.out HV.out HZ.out ((HCx.out.below hw2).mono hz2') hB1' hB2).mono ?_; rintro e u3 ⟨b3, rfl, hg3, hB3, hb3⟩; have hw3 := hw2.trans (hb3.mono hz2'); clear tokB))
            go_wp2_with fail
            go_meet
            exact ⟨_, b3, rfl, rfl, Lib.hid hB3, Lib.hid hw3⟩
          case rest =>
            obtain ⟨wa, g, hwa, rfl, HG, HB1⟩ := hcut
            subst hwa
            have HLa := Lib.hid (HL.out.trans (HB1.out.mono (Nat.le_of_lt HR.out.lt)))
            have HRa := Lib.hid (HR.out.below HB1.out HR.out.lt)
            clear HL HR HB1 HCx HLw q0 q1 q2 q3 hkd hkd1 hkd0 HST HIN
            obtain ⟨V, HVE, HVL, HSM⟩ : ∃ V, Hid (Circ.valsOf gs st ins = V) ∧ Hid (V.length = Z) ∧ Hid (Opt.Sem (1 + m + ns.length) (Opt.natG gs) (fun u => V.getD u false)) :=
              ⟨_, Lib.hid rfl, Lib.hid (by rw [Circ.valsOf_len, HSL.out, HIL.out, HZ.out]), Lib.hid (HGS.out st ins HSL.out HIL.out)⟩
            obtain ⟨cv, HV1, HV2⟩ : ∃ cv, Hid (Row wa g 4 cv) ∧ Hid (∀ j, j < Z → cv[j]? = some (.bool (V.getD j false))) := by
              obtain ⟨cv, h1, h2⟩ := HG.out
              rw [HVE.out] at h2
              exact ⟨cv, Lib.hid h1, Lib.hid (fun j hj => h2.2 j (by rw [HVL.out]; exact hj))⟩
            clear HG HVE HSL HIL
            go_upto_region 13 with fail
            clear hM
            go_wp2
            go_loopw [11, 12] (fun av kv wy => ∃ (k a : Nat), k ≤ n ∧ kv = .int .i64 k ∧ av = .int .i64 a ∧ a < 8 ∧ Hid (num ((x.take k).map fun u => V.getD u false) = a) ∧ Hid (Below wa.heap.size wa wy)) (fun _ kv _ => n - (intOf kv).toNat)
            case atStart => exact ⟨0, 0, Nat.zero_le _, rfl, rfl, by omega, Lib.hid rfl, Lib.hid (Below.refl _ _)⟩
            case round =>
              obtain ⟨k, a, hk, rfl, rfl, ha8, HA, HB⟩ := hrel
              have HLb := Lib.hid (HLa.out.trans (HB.out.mono (Nat.le_of_lt HRa.out.lt)))
              have HRb := Lib.hid (HRa.out.below HB.out HRa.out.lt)
              have HVb := Lib.hid (HV1.out.below HB.out HV1.out.lt)
              by_cases hlt : k < n
              · obtain ⟨b, off, rfl, hbl, hcA⟩ := HX.out k (by rw [Opt.intL_len, HN.out]; exact hlt)
                rw [← (HW0.out.trans (HLb.out.mono (by omega))).cell (p := ⟨b, off + k, none⟩) hbl, Opt.intL_at] at hcA
                have hyZ : x.getD k 0 < Z := by
                  have h1 : k < x.length := by rw [HN.out]; exact hlt
                  rw [HZ.out, List.getD_eq_getElem?_getD, List.getElem?_eq_getElem h1]
                  exact HLT.out _ (List.getElem_mem h1)
                have HS1 := Lib.hid (map_take_snoc x (fun u => V.getD u false) k (by rw [HN.out]; exact hlt))
                have HNL : Hid (((x.take k).map fun u => V.getD u false).length = k) := Lib.hid (by rw [List.length_map, List.length_take, HN.out]; omega)
                generalize x.getD k 0 = y at *
                have hcB := (HVb.out.cell y).trans (HV2.out y hyZ)
                obtain ⟨P, HP, hP, hP4⟩ : ∃ P : Nat, Hid (P = 2 ^ k) ∧ wrap64 (2 ^ k) = (P : Int) ∧ a + P < 8 := by
                  have hb := num_lt (((x.take k).map fun u => V.getD u false) ++ [true])
                  rw [num_snoc, HA.out, List.length_append, HNL.out] at hb
                  have h8 : 2 ^ (k + 1) ≤ 2 ^ 3 := Nat.pow_le_pow_right (by decide) (by omega)
                  have e : ((2 : Int) ^ k) = ((2 ^ k : Nat) : Int) := by simp
                  simp only [List.length_cons, List.length_nil, if_true, Nat.zero_add] at hb
                  refine ⟨2 ^ k, Lib.hid rfl, ?_, by omega⟩
                  rw [e]
                  generalize (2 ^ k : Nat) = q at *
                  unfold wrap64
                  omega
                cases hb : V.getD y false
                · rw [hb] at hcB
                  go_wp2
                  go_roundw
                  case rel => exact ⟨k + 1, a, by omega, by go_num, rfl, ha8, Lib.hid (by rw [HS1.out, num_snoc, HA.out, hb]; rfl), HB⟩
                  case measure => simp [intOf]; omega
                · rw [hb] at hcB
                  go_wp2
                  go_roundw
                  case rel => exact ⟨k + 1, a + P, by omega, by go_num, by go_num, hP4, Lib.hid (by rw [HS1.out, num_snoc, HA.out, HNL.out, HP.out, hb]; rfl), HB⟩
                  case measure => simp [intOf]; omega
              · obtain rfl : n = k := by omega
                have hL : ((x.take n).map fun u => V.getD u false) = x.map fun u => V.getD u false := by rw [List.take_of_length_le (by rw [HN.out]; exact Nat.le_refl _)]
                have hA := HA.out
                rw [hL] at hA
                have haN : a < N := by
                  have h := num_lt (x.map fun u => V.getD u false)
                  rw [hA, List.length_map, HN.out] at h
                  rw [HNE.out]; exact h
                have hbl : (x.map fun u => V.getD u false).length = n := by rw [List.length_map, HN.out]
                obtain ⟨s, hs1, hs2⟩ := HS.out.at hbl
                have HSV : Hid (∀ s : Nat, s = (if V.getD v false then 2 else 1) → SeenC T n (cs.setIfInBounds a (.int .i64 (s : Int)))) := Lib.hid (fun s hs => by
                  have h := HS.out.set hbl (s := s) (by rw [hs, ← HT.out _ HSM.out])
                  rwa [hA] at h)
                rw [hA] at hs1
                rw [← HT.out _ HSM.out] at hs2
                have gs1 := (HRb.out.cell a).trans hs1
                have gf := HRb.out.frozen a
                have gv := (HVb.out.cell v).trans (HV2.out v hvZ)
                clear hs1 hA hL hbl HT HSM HS HA
                generalize V.getD v false = bv at *
                cases bv
                · simp only [Bool.false_eq_true, if_false] at hs2
                  rcases hs2 with rfl | rfl
                  all_goals
                    go_wp2
                    go_roundw
                    case rel => exact ⟨X + 1, _, by omega, by go_num, Lib.hid (HRb.out.set a _), Lib.hid (HSV.out 1 rfl), Lib.hid (HLb.out.setCell (Nat.le_refl _) _)⟩
                    case measure => simp [intOf]; omega
                · simp only [if_true] at hs2
                  rcases hs2 with rfl | rfl
                  all_goals
                    go_wp2
                    go_roundw
                    case rel => exact ⟨X + 1, _, by omega, by go_num, Lib.hid (HRb.out.set a _), Lib.hid (HSV.out 2 rfl), Lib.hid (HLb.out.setCell (Nat.le_refl _) _)⟩
                    case measure => simp [intOf]; omega
        · go_wp2
          go_ret
          exact ⟨rfl, HW0.out.trans (HL.out.mono (by omega))⟩
end Go.Proofs.Ytgllpnilnaggeaa
