/- The contracts of the variables that are reached. -/
import Derived.Test.YthpiddpkcmecfaaT1
import Derived.Test.YthpiddpkcmecfaaQA
import Derived.Test.YthpiddpkcmecfaaB1a
import Derived.Deep.RegionLaw
namespace Go.Proofs.Ythpiddpkcmecfaa
open Go.RowKit Go.Deep

/-- Integers that do not lie in block g. -/
def IntsNe (w : World) (g : Nat) (A : Option Addr) (xs : List Int) : Prop :=
  ∀ k, k < xs.length → ∃ b off, A = some ⟨b, off, none⟩ ∧ b < w.heap.size ∧ b ≠ g ∧ w.cell? ⟨b, off + k, none⟩ = some (.int .i64 (xs.getD k 0))
theorem IntsAt.ne {w : World} {B g : Nat} {A : Option Addr} {xs : List Int} (h : IntsAt w B A xs) (hg : B ≤ g) (hB : B ≤ w.heap.size) : IntsNe w g A xs := fun k hk => by
  obtain ⟨b, off, e, hlt, hc⟩ := h k hk
  exact ⟨b, off, e, by omega, by omega, hc⟩

set_option maxHeartbeats 400000 in
theorem addVars_any (g m : Nat) (A : Option Addr) (cap n : Nat) (xs : List Nat) (w : World) (hR : Row w g 123 #[.int .u64 m]) (hx : IntsNe w g A (Opt.intL xs)) (hn : xs.length = n) (hnb : n ≤ 1000)
    (hm : m < 18446744073709551616) (hl : ∀ x, x ∈ xs → x / 2 < 64) :
    Calls Try.prog 106 #[.slice (some ⟨g, 0, none⟩) 1 1, .slice A n cap] w fun e w' => e = .returned (.tuple #[]) ∧ Row w' g 123 #[.int .u64 (Opt.orV m xs : Nat)] ∧ Only (some g) w w' := by
  have HR0 := Lib.hid hR
  have HX := Lib.hid hx
  have HN := Lib.hid hn
  have HM := Lib.hid hm
  have HL := Lib.hid hl
  clear hR hx hn hm hl
  go_enter Try.func106, Try.ntmps106
  go_wp2
  go_loopw [8] (fun iv wr => ∃ (k : Nat), k ≤ n ∧ iv = .int .i64 k ∧ Hid (Row wr g 123 #[.int .u64 (Opt.orV m (xs.take k) : Nat)]) ∧ Hid (Only (some g) w wr)) (fun iv _ => n - (intOf iv).toNat)
  case atStart => exact ⟨0, Nat.zero_le _, rfl, Lib.hid (by simpa [Opt.orV] using HR0.out), Lib.hid (Only.refl _ _)⟩
  case round =>
    clear HR0
    obtain ⟨k, hk, rfl, HRow, HO⟩ := hrel
    by_cases hlt : k < n
    · have hk' : k < xs.length := by rw [HN.out]; exact hlt
      obtain ⟨b, off, rfl, hbl, hbne, hcell⟩ := HX.out k (by rw [Opt.intL_len]; exact hk')
      rw [← World.cell?_of_block (a := ⟨b, off + k, none⟩) (HO.out.grown.block b hbl (by intro e; injection e; omega)), Opt.intL_at] at hcell
      have HT : Hid (Opt.orV m (xs.take (k + 1)) = Opt.orV m (xs.take k) ||| 2 ^ (xs.getD k 0 / 2)) := Lib.hid (by
        rw [List.take_succ_eq_append_getElem hk', Opt.orV_snoc]
        simp [List.getD_eq_getElem?_getD, hk'])
      have hv : xs.getD k 0 / 2 < 64 := HL.out _ (by rw [List.getD_eq_getElem?_getD, List.getElem?_eq_getElem hk']; exact List.getElem_mem hk')
      have HMk : Hid (Opt.orV m (xs.take k) < 18446744073709551616) := Lib.hid (Opt.orV_lt HM.out (fun x hx => HL.out x (List.mem_of_mem_take hx)))
      clear hk'
      generalize xs.getD k 0 = v at *
      generalize Opt.orV m (xs.take k) = mk at *
      have hq : (v : Int) / 2 = ((v / 2 : Nat) : Int) := by omega
      generalize v / 2 = q at *
      go_wp2_with (first
        | (go_at_call 97; refine (var_any _ _).mono ?_; rintro e w' ⟨rfl, rfl⟩; rw [hq])
        | (go_at_call 111; refine (add_any g mk q _ _ HRow.out hv HMk.out).mono ?_; rintro e w' ⟨rfl, rfl⟩))
      go_roundw
      case rel => exact ⟨k + 1, by omega, by go_num, Lib.hid (by rw [HT.out]; have := HRow.out.set 0 (.int .u64 (mk ||| 2 ^ q : Nat)); simpa using this), Lib.hid (HO.out.set 0 _)⟩
      case measure => simp [intOf]; omega
    · obtain rfl : k = n := by omega
      go_wp2
      go_end0
      exact ⟨rfl, by have := HRow.out; rwa [List.take_of_length_le (by rw [HN.out]; omega)] at this, HO.out⟩

theorem natL_int {xs : List Int} {c : Int} (h : Circ.litsOk xs c = true) : Opt.intL (Opt.natL xs) = xs := by
  unfold Opt.intL Opt.natL
  rw [List.map_map]
  refine (List.map_congr_left (fun x hx => ?_)).trans (List.map_id xs)
  have := Opt.litsOk_mem h hx
  simp
  omega

/-- The circuit's blocks and the box of the call's argument. -/
structure Boxed (w : World) (H : Nat) (i : Int) (nA gA oA : Option Addr) (nl nc gl gc ol oc : Nat) : Prop where
  c0 : w.cell? ⟨H, 0, none⟩ = some (.int .i64 i)
  c1 : w.cell? ⟨H, 1, none⟩ = some (.slice nA nl nc)
  c2 : w.cell? ⟨H, 2, none⟩ = some (.slice gA gl gc)
  c3 : w.cell? ⟨H, 3, none⟩ = some (.slice oA ol oc)
theorem Boxed.new (w : World) (i : Int) (nA gA oA : Option Addr) (nl nc gl gc ol oc : Nat) (t : TypeId) : Boxed (w.alloc (.cells #[.int .i64 i, .slice nA nl nc, .slice gA gl gc, .slice oA ol oc] t)) w.heap.size i nA gA oA nl nc gl gc ol oc := by
  have h : Row (w.alloc (.cells #[.int .i64 i, .slice nA nl nc, .slice gA gl gc, .slice oA ol oc] t)) w.heap.size t #[.int .i64 i, .slice nA nl nc, .slice gA gl gc, .slice oA ol oc] := heap_alloc_new w _
  exact ⟨h.cell 0, h.cell 1, h.cell 2, h.cell 3⟩
theorem Boxed.below {w w' : World} {B H : Nat} {i : Int} {nA gA oA : Option Addr} {nl nc gl gc ol oc : Nat} (h : Boxed w H i nA gA oA nl nc gl gc ol oc) (hb : Below B w w') (hH : H < B) : Boxed w' H i nA gA oA nl nc gl gc ol oc :=
  ⟨(hb.cell (p := ⟨H, 0, none⟩) hH).trans h.c0, (hb.cell (p := ⟨H, 1, none⟩) hH).trans h.c1, (hb.cell (p := ⟨H, 2, none⟩) hH).trans h.c2, (hb.cell (p := ⟨H, 3, none⟩) hH).trans h.c3⟩

def ReachOut (w : World) (M : Nat) (e : Ending) (w' : World) : Prop := ∃ g : Nat, e = .returned (.slice (some ⟨g, 0, none⟩) 1 1) ∧ w.heap.size ≤ g ∧ Row w' g 123 #[.int .u64 M] ∧ Below w.heap.size w w'

theorem backW_step (f : Nat) (gs : List Opt.G) (m j : Nat) (hj : j < gs.length) : Opt.backW f gs m (gs.length - j) =
    if (Opt.backW f gs m (gs.length - (j + 1))).testBit (f + j) = true then Opt.orV (Opt.backW f gs m (gs.length - (j + 1))) [(Opt.at_ gs j).1, (Opt.at_ gs j).2] else Opt.backW f gs m (gs.length - (j + 1)) := by
  have e : gs.length - j = (gs.length - (j + 1)) + 1 := by omega
  have e2 : gs.length - (gs.length - (j + 1) + 1) = j := by omega
  rw [e]
  show (if (Opt.backW f gs m (gs.length - (j + 1))).testBit (f + (gs.length - (gs.length - (j + 1) + 1))) = true then _ else _) = _
  rw [e2]

/-- A circuit's sizes within the limits. -/
structure Fits (i : Int) (f nl gl ol : Nat) (c : Opt.C) : Prop where
  i0 : 0 ≤ i
  i4 : i ≤ 4
  ln : c.ns.length = nl
  lg : c.gs.length = gl
  lo : c.os.length = ol
  n3 : nl ≤ 3
  g14 : gl ≤ 14
  o3 : ol ≤ 3
  hf : 1 + i + (nl : Int) = f
  ok : Opt.Ok f c

theorem twoInts (W : World) (a b g : Nat) (t : TypeId) (hg : W.heap.size ≠ g) : IntsNe (W.alloc (.cells #[.int .i64 a, .int .i64 b] t)).drew g (some ⟨W.heap.size, 0, none⟩) (Opt.intL [a, b]) := fun k hk => by
  have h : Row (W.alloc (.cells #[.int .i64 a, .int .i64 b] t)) W.heap.size t #[.int .i64 a, .int .i64 b] := heap_alloc_new W _
  refine ⟨_, _, rfl, by simp, hg, ?_⟩
  have hk2 : k < 2 := hk
  show (W.alloc (.cells #[.int .i64 a, .int .i64 b] t)).cell? _ = _
  rw [Nat.zero_add, h.cell]
  match k, hk2 with
  | 0, _ => rfl
  | 1, _ => rfl
set_option maxHeartbeats 400000 in
theorem reached_any (i : Int) (nA gA oA : Option Addr) (nc gc oc nl gl ol f : Nat) (c : Opt.C) (w : World) (hc : CircAt w w.heap.size nA gA oA (Opt.intL c.ns) (Opt.intG c.gs) (Opt.intL c.os)) (hF : Fits i f nl gl ol c) :
    Calls Try.prog 85 #[.agg #[.int .i64 i, .slice nA nl nc, .slice gA gl gc, .slice oA ol oc]] w (ReachOut w (Opt.reachW f c)) := by
  have h0 := hF.i0
  have h1 := hF.i4
  have h2 := hF.n3
  have h3 := hF.g14
  have h4 := hF.o3
  have hf1 : 1 ≤ f := by have := hF.hf; omega
  have hf8 : f ≤ 8 := by have := hF.hf; omega
  have HF := Lib.hid hF
  have HC := Lib.hid hc
  clear hc hF
  have HL0 : Hid (Below (w.heap.size + 1) (w.alloc (.cells #[.int .i64 i, .slice nA nl nc, .slice gA gl gc, .slice oA ol oc] 26)) (w.alloc (.cells #[.int .i64 i, .slice nA nl nc, .slice gA gl gc, .slice oA ol oc] 26))) := Lib.hid (Below.refl _ _)
  have HW0 : Hid (Below w.heap.size w (w.alloc (.cells #[.int .i64 i, .slice nA nl nc, .slice gA gl gc, .slice oA ol oc] 26))) := Lib.hid ((Below.refl _ _).alloc (Nat.le_refl _) _)
  have HB0 : Hid (Boxed (w.alloc (.cells #[.int .i64 i, .slice nA nl nc, .slice gA gl gc, .slice oA ol oc] 26)) w.heap.size i nA gA oA nl nc gl gc ol oc) := Lib.hid (Boxed.new w i nA gA oA nl nc gl gc ol oc _)
  have hsz0 : (w.alloc (.cells #[.int .i64 i, .slice nA nl nc, .slice gA gl gc, .slice oA ol oc] 26)).heap.size = w.heap.size + 1 := by simp
  have HZ0 := Lib.hid hsz0
  clear hsz0
  have ec : ((f + gl : Nat) : Int) = (f : Int) + (gl : Int) := by omega
  have EC := Lib.hid ec
  clear ec
  go_enter Try.func85, Try.ntmps85
  go_wp2_with fail
  refine (firstGate_any _ _ _ _ _ _ _ _ _ _ _ (by omega) (by omega) (by omega)).mono ?_
  rintro e w1 ⟨rfl, hb1⟩
  rw [HF.out.hf]
  generalize w.alloc (.cells #[.int .i64 i, .slice nA nl nc, .slice gA gl gc, .slice oA ol oc] 26) = w0 at *
  rw [HZ0.out] at hb1
  have HL1 := Lib.hid (HL0.out.trans hb1)
  have HB1 := Lib.hid (HB0.out.below hb1 (by omega))
  have q2 := HB1.out.c2
  clear hb1
  go_wp2_with fail
  rw [← EC.out]
  refine (newBitSet_any (f + gl) _ (by omega) (by omega)).mono ?_
  rintro e w2 ⟨rfl, hR2, hb2⟩
  have hz1 : w.heap.size + 1 ≤ w1.heap.size := by have := HL1.out.size; rw [HZ0.out] at this; exact this
  have HL2 := Lib.hid (HL1.out.trans (hb2.mono hz1))
  have HB2 := Lib.hid (HB0.out.below HL2.out (by omega))
  have HR2 := Lib.hid hR2
  clear hb2 hR2 q2 HL1 HB1
  generalize w1.heap.size = g at *
  clear w1
  have q1 := HB2.out.c1
  go_wp2_with fail
  have hroot := HF.out.ok.root
  have hc2 : CircAt w2 w.heap.size nA gA oA (Opt.intL c.ns) (Opt.intG c.gs) (Opt.intL c.os) := (HC.out.below HW0.out).below (HL2.out.mono (by omega))
  refine (addVars_any g 0 nA nc nl c.ns _ HR2.out (hc2.next.ne (by omega) (by have := HL2.out.size; rw [HZ0.out] at this; omega)) HF.out.ln (by omega) (by omega) (fun x hx => by have := hroot x (List.mem_append_right _ hx); rw [HF.out.lg] at this; omega)).mono ?_
  clear hc2 hroot
  rintro e w3 ⟨rfl, hR3, ho3⟩
  have hz2 : w.heap.size + 1 ≤ w2.heap.size := by have := HL2.out.size; rw [HZ0.out] at this; exact this
  have HL3 := Lib.hid (HL2.out.trans (ho3.below (B := w.heap.size + 1) (fun _ e => by injection e; omega) hz2))
  have HB3 := Lib.hid (HB0.out.below HL3.out (by omega))
  have HR3 := Lib.hid hR3
  clear ho3 hR3 q1 HL2 HB2 HR2 hz2
  clear w2
  have q3 := HB3.out.c3
  go_wp2_with fail
  have hroot := HF.out.ok.root
  have hc3 : CircAt w3 w.heap.size nA gA oA (Opt.intL c.ns) (Opt.intG c.gs) (Opt.intL c.os) := (HC.out.below HW0.out).below (HL3.out.mono (by omega))
  refine (addVars_any g _ oA oc ol c.os _ HR3.out (hc3.outs.ne (by omega) (by have := HL3.out.size; rw [HZ0.out] at this; omega)) HF.out.lo (by omega) (Opt.orV_lt (by omega) (fun x hx => by have := hroot x (List.mem_append_right _ hx); rw [HF.out.lg] at this; omega)) (fun x hx => by have := hroot x (List.mem_append_left _ hx); rw [HF.out.lg] at this; omega)).mono ?_
  clear hc3 hroot
  rintro e w4 ⟨rfl, hR4, ho4⟩
  have hz3 : w.heap.size + 1 ≤ w3.heap.size := by have := HL3.out.size; rw [HZ0.out] at this; exact this
  have HL4 := Lib.hid (HL3.out.trans (ho4.below (B := w.heap.size + 1) (fun _ e => by injection e; omega) hz3))
  have HB4 := Lib.hid (HB0.out.below HL4.out (by omega))
  have HR4 := Lib.hid hR4
  clear ho4 hR4 q3 HL3 HB3 HR3 hz3
  clear w3
  have q2 := HB4.out.c2
  have HM0 : Hid (Opt.orV (Opt.orV 0 c.ns) c.os < 18446744073709551616) := Lib.hid (by
    have hroot := HF.out.ok.root
    refine Opt.orV_lt (Opt.orV_lt (by omega) (fun x hx => ?_)) (fun x hx => ?_)
    · have := hroot x (List.mem_append_right _ hx); rw [HF.out.lg] at this; omega
    · have := hroot x (List.mem_append_left _ hx); rw [HF.out.lg] at this; omega)
  have HRW : Hid (Opt.reachW f c = Opt.backW f c.gs (Opt.orV (Opt.orV 0 c.ns) c.os) (c.gs.length - 0)) := Lib.hid rfl
  generalize Opt.orV (Opt.orV 0 c.ns) c.os = m0 at *
  have HR4' : Hid (Row w4 g 123 #[.int .u64 (Opt.backW f c.gs m0 (c.gs.length - gl) : Nat)]) := Lib.hid (by rw [HF.out.lg, Nat.sub_self]; exact HR4.out)
  clear HR4
  go_wp2
  clear q2
  go_loopw [5] (fun iv wr => ∃ (j : Nat) (z : Int), j ≤ gl ∧ iv = .int .i64 z ∧ Hid (z = (j : Int) - 1) ∧ Hid (Row wr g 123 #[.int .u64 (Opt.backW f c.gs m0 (c.gs.length - j) : Nat)]) ∧ Hid (Below (w.heap.size + 1) w0 wr)) (fun iv _ => (intOf iv + 1).toNat)
  case atStart => exact ⟨gl, _, Nat.le_refl _, rfl, Lib.hid (by omega), HR4', HL4⟩
  case round =>
    clear HR4' HL4 HB4 w4
    obtain ⟨j, z, hj, rfl, HZ, HRow, HL⟩ := hrel
    cases j with
    | zero =>
      obtain rfl : z = -1 := by have := HZ.out; omega
      go_wp2
      go_ret
      exact ⟨g, rfl, by omega, by rw [HRW.out]; exact HRow.out, HW0.out.trans (HL.out.mono (by omega))⟩
    | succ j =>
      obtain rfl : z = (j : Int) := by have := HZ.out; omega
      clear HZ
      have hjl : j < c.gs.length := by rw [HF.out.lg]; omega
      have HS := Lib.hid (backW_step f c.gs m0 j hjl)
      have HMj : Hid (Opt.backW f c.gs m0 (c.gs.length - (j + 1)) < 18446744073709551616) := Lib.hid (Opt.backW_lt HF.out.ok.ord (by rw [HF.out.lg]; omega) HM0.out _ (by omega))
      have hB := HB0.out.below HL.out (by omega)
      have hC : CircAt wr w.heap.size nA gA oA (Opt.intL c.ns) (Opt.intG c.gs) (Opt.intL c.os) := (HC.out.below HW0.out).below (HL.out.mono (by omega))
      obtain ⟨b, off, rfl, hbl, hcA, hcB⟩ := hC.gates j (by rw [Opt.intG_len]; exact hjl)
      rw [Opt.intG_at] at hcA hcB
      obtain ⟨oA, oB⟩ := HF.out.ok.ord j hjl
      have hc2 := hB.c2
      have hz : w.heap.size + 1 ≤ wr.heap.size := by have := HL.out.size; rw [HZ0.out] at this; exact this
      have hgz : g < wr.heap.size := HRow.out.lt
      clear hB hC hjl
      have ej : ((f + j : Nat) : Int) = (f : Int) + (j : Int) := by omega
      have EJ := Lib.hid ej
      clear ej
      generalize Opt.backW f c.gs m0 (c.gs.length - (j + 1)) = m at *
      generalize (Opt.at_ c.gs j).1 = va at *
      generalize (Opt.at_ c.gs j).2 = vb at *
      have q0 := HRow.out.cell 0
      simp at q0
      cases hbit : m.testBit (f + j) with
      | false =>
        have HBit := Lib.hid hbit
        rw [hbit, if_neg (by simp)] at HS
        clear hbit
        go_wp2_with fail
        rw [← EJ.out]
        refine (has_any g m (f + j) _ q0 (by omega) HMj.out).mono ?_
        rintro e w' ⟨rfl, rfl⟩
        rw [HBit.out]
        go_wp2
        go_roundw
        case rel => exact ⟨j, _, by omega, rfl, Lib.hid (by omega), Lib.hid (by rw [HS.out]; exact HRow.out), HL⟩
        case measure => simp [intOf]
      | true =>
        have HBit := Lib.hid hbit
        rw [hbit, if_pos rfl] at HS
        clear hbit
        go_wp2_with fail
        rw [← EJ.out]
        refine (has_any g m (f + j) _ q0 (by omega) HMj.out).mono ?_
        rintro e w' ⟨rfl, rfl⟩
        rw [HBit.out]
        go_wp2
        have k0 : (0 : Int) ≤ (j : Int) := by omega
        have k1 : (j : Int) < (gl : Int) := by omega
        have HX2 : Hid (IntsNe (wr.alloc (.cells #[.int .i64 va, .int .i64 vb] 3)).drew g (some ⟨wr.heap.size, 0, none⟩) (Opt.intL [va, vb])) := Lib.hid (twoInts wr va vb g _ (by omega))
        have HR3 : Hid (Row (wr.alloc (.cells #[.int .i64 va, .int .i64 vb] 3)).drew g 123 #[.int .u64 m]) := Lib.hid (HRow.out.below ((Below.refl _ _).alloc (Nat.le_refl _) _).drew hgz)
        have HL3 := Lib.hid ((HL.out.alloc hz (.cells #[.int .i64 va, .int .i64 vb] 3)).drew)
        go_region_held3 (fun w' => w'.cell? ⟨w.heap.size, 2, none⟩ = some (.slice (some ⟨b, off, none⟩) gl gc) ∧ w'.cell? ⟨b, off + j * 2, none⟩ = some (.int .i64 va) ∧ w'.cell? ⟨b, off + j * 2 + 1, none⟩ = some (.int .i64 vb)) (first | exact hS5 | go_keep)
          (first | (go_at_call 106; refine (addVars_any g m _ _ 2 [va, vb] _ HR3.out HX2.out rfl (by omega) HMj.out ?_).mono ?_; (intro x hx; simp at hx; omega); rintro e w5 ⟨rfl, hR5, ho5⟩; have HR5 := Lib.hid hR5; have hb5 := ho5.below (B := w.heap.size + 1) (fun _ e => by injection e; omega) (by simp; omega); have HL5 := Lib.hid (HL3.out.trans hb5); have hb6 : Below (w.heap.size + 1) wr w5 := ((Below.refl _ wr).alloc hz _).drew.trans hb5; have hS5 := And.intro ((hb6.cell (p := ⟨w.heap.size, 2, none⟩) (Nat.lt_succ_self _)).trans hc2) (And.intro ((hb6.cell (p := ⟨b, off + j * 2, none⟩) (Nat.lt_succ_of_lt hbl)).trans hcA) ((hb6.cell (p := ⟨b, off + j * 2 + 1, none⟩) (Nat.lt_succ_of_lt hbl)).trans hcB)); clear hR5 ho5 hb5 hb6))
        clear hS5
        go_wp2
        go_roundw
        case rel => exact ⟨j, _, by omega, rfl, Lib.hid (by omega), Lib.hid (by rw [HS.out]; exact HR5.out), HL5⟩
        case measure => simp [intOf]
end Go.Proofs.Ythpiddpkcmecfaa
