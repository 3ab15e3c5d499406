/- The contracts of the validity tests. -/
import Derived.Test.YtkkkkalgfmddbaaW1
import Derived.Deep.QuietTactic
import Derived.BigQuiet
import Derived.Deep.RegionWith
import Derived.Deep.RegionHeld3
namespace Go.Proofs.Ytkkkkalgfmddbaa
open Go.RowKit

def GatesAt (w : World) (B : Nat) (A : Option Addr) (gs : List (Int × Int)) : Prop :=
  ∀ k, k < gs.length → ∃ b off, A = some ⟨b, off, none⟩ ∧ b < B ∧ w.cell? ⟨b, off + k * 2, none⟩ = some (.int .i64 (gs.getD k (0, 0)).1) ∧ w.cell? ⟨b, off + k * 2 + 1, none⟩ = some (.int .i64 (gs.getD k (0, 0)).2)

theorem IntsAt.below {w w' : World} {B : Nat} {A : Option Addr} {xs : List Int} (h : IntsAt w B A xs) (hb : Below B w w') : IntsAt w' B A xs := fun k hk => by
  obtain ⟨b, off, e, hlt, hc⟩ := h k hk
  exact ⟨b, off, e, hlt, (hb.cell (p := ⟨b, off + k, none⟩) hlt).trans hc⟩
theorem IntsAt.mono {w : World} {B B' : Nat} {A : Option Addr} {xs : List Int} (h : IntsAt w B A xs) (hb : B ≤ B') : IntsAt w B' A xs := fun k hk => by
  obtain ⟨b, off, e, hlt, hc⟩ := h k hk
  exact ⟨b, off, e, by omega, hc⟩
theorem GatesAt.below {w w' : World} {B : Nat} {A : Option Addr} {xs : List (Int × Int)} (h : GatesAt w B A xs) (hb : Below B w w') : GatesAt w' B A xs := fun k hk => by
  obtain ⟨b, off, e, hlt, hc, hd⟩ := h k hk
  exact ⟨b, off, e, hlt, (hb.cell (p := ⟨b, off + k * 2, none⟩) hlt).trans hc, (hb.cell (p := ⟨b, off + k * 2 + 1, none⟩) hlt).trans hd⟩
theorem GatesAt.mono {w : World} {B B' : Nat} {A : Option Addr} {xs : List (Int × Int)} (h : GatesAt w B A xs) (hb : B ≤ B') : GatesAt w B' A xs := fun k hk => by
  obtain ⟨b, off, e, hlt, hc⟩ := h k hk
  exact ⟨b, off, e, by omega, hc⟩
theorem bcell {B : Nat} {W w1 : World} (hb : Below B W w1) : (∀ b o, b < B → w1.cell? ⟨b, o, none⟩ = W.cell? ⟨b, o, none⟩) ∧ (∀ b o, b < B → w1.frozen? ⟨b, o, none⟩ = W.frozen? ⟨b, o, none⟩) :=
  ⟨fun b o h => hb.cell (p := ⟨b, o, none⟩) h, fun b o h => hb.frozen (p := ⟨b, o, none⟩) h⟩

set_option maxHeartbeats 400000 in
theorem gatesOrdered_any (i : Int) (nA gA oA : Option Addr) (nl nc gc ol oc : Nat) (gs : List (Int × Int)) (w : World) (hg : GatesAt w w.heap.size gA gs) (hgl : gs.length ≤ 1000) (h0 : -100 ≤ i) (h1 : i ≤ 100) (h2 : nl ≤ 1000) :
    Calls Try.prog 114 #[.agg #[.int .i64 i, .slice nA nl nc, .slice gA gs.length gc, .slice oA ol oc]] w fun e w' => e = .returned (.bool (Circ.gatesOk gs (1 + i + nl))) ∧ Below w.heap.size w w' := by
  have HX := Lib.hid hg
  clear hg
  generalize hn : gs.length = n at *
  have HN := Lib.hid hn
  clear hn
  go_enter Try.func114, Try.ntmps114
  go_wp2_with (go_at_call 115; refine (firstGate_any _ _ _ _ _ _ _ _ _ _ _ (by omega) (by omega) (by omega)).mono ?_; rintro e w1 ⟨rfl, hb1⟩; obtain ⟨hc1, hf1⟩ := bcell hb1)
  have hB : Below w.heap.size w w1 := ((Below.refl _ _).alloc (Nat.le_refl _) _).trans (hb1.mono (by simp))
  clear hc1 hf1 hb1
  go_loopw [11] (fun iv wr => ∃ k : Nat, k ≤ n ∧ iv = .int .i64 k ∧ Hid (Circ.gatesOk (gs.take k) (1 + i + nl) = true) ∧ Below w.heap.size w wr) (fun iv _ => n - (intOf iv).toNat)
  case atStart => exact ⟨0, Nat.zero_le _, rfl, Lib.hid (by simp [Circ.gatesOk]), hB⟩
  case round =>
    obtain ⟨k, hk, rfl, HR, hbr⟩ := hrel
    by_cases hlt : k < n
    · obtain ⟨b, off, rfl, hbl, hcA, hcB⟩ := HX.out k (by rw [HN.out]; exact hlt)
      rw [← hbr.cell (by exact hbl)] at hcA hcB
      have HS := Lib.hid (Circ.gatesOk_snoc gs k (1 + i + nl) (by rw [HN.out]; exact hlt))
      have HF := Lib.hid (fun h => Circ.gatesOk_f (gs := gs) (k := k) (f := (1 + i + nl)) (by rw [HN.out]; exact hlt) h)
      generalize (gs.getD k (0, 0)).1 = va at *
      generalize (gs.getD k (0, 0)).2 = vb at *
      cases ha : Circ.litOk va (1 + i + nl + k)
      · have HA := Lib.hid ha
        clear ha
        go_wp2_with (go_at_call 146; refine (refers_any _ _ _).mono ?_; rintro e w' ⟨rfl, rfl⟩; rw [HA.out])
        go_ret
        exact ⟨ret_bool (HF.out (by rw [HA.out]; rfl)).symm, hbr.alloc hbr.size _⟩
      · have HA := Lib.hid ha
        clear ha
        cases hb : Circ.litOk vb (1 + i + nl + k)
        · have HB := Lib.hid hb
          clear hb
          go_wp2_with (go_at_call 146; refine (refers_any _ _ _).mono ?_; rintro e w' ⟨rfl, rfl⟩; first | rw [HA.out] | rw [HB.out])
          go_ret
          exact ⟨ret_bool (HF.out (by rw [HA.out, HB.out]; rfl)).symm, hbr.alloc hbr.size _⟩
        · have HB := Lib.hid hb
          clear hb
          go_wp2_with (go_at_call 146; refine (refers_any _ _ _).mono ?_; rintro e w' ⟨rfl, rfl⟩; first | rw [HA.out] | rw [HB.out])
          go_roundw
          case rel => exact ⟨k + 1, by omega, by go_num, Lib.hid (by rw [HS.out, HR.out, HA.out, HB.out]; rfl), hbr.alloc hbr.size _⟩
          case measure => simp [intOf]; omega
    · go_wp2
      go_ret
      exact ⟨ret_bool (Circ.gatesOk_all (by rw [HN.out]; omega) HR.out).symm, hbr⟩

structure CircAt (w : World) (B : Nat) (nA gA oA : Option Addr) (ns : List Int) (gs : List (Int × Int)) (os : List Int) : Prop where
  next : IntsAt w B nA ns
  gates : GatesAt w B gA gs
  outs : IntsAt w B oA os
  nl : ns.length ≤ maxLen
  gl : gs.length ≤ maxLen
  ol : os.length ≤ maxLen

theorem CircAt.below {w w' : World} {B : Nat} {nA gA oA : Option Addr} {ns : List Int} {gs : List (Int × Int)} {os : List Int} (h : CircAt w B nA gA oA ns gs os) (hb : Below B w w') : CircAt w' B nA gA oA ns gs os :=
  ⟨h.next.below hb, h.gates.below hb, h.outs.below hb, h.nl, h.gl, h.ol⟩
theorem CircAt.mono {w : World} {B B' : Nat} {nA gA oA : Option Addr} {ns : List Int} {gs : List (Int × Int)} {os : List Int} (h : CircAt w B nA gA oA ns gs os) (hb : B ≤ B') : CircAt w B' nA gA oA ns gs os :=
  ⟨h.next.mono hb, h.gates.mono hb, h.outs.mono hb, h.nl, h.gl, h.ol⟩

set_option maxHeartbeats 400000 in
theorem valid_any (i : Int) (nA gA oA : Option Addr) (nc gc oc : Nat) (ns : List Int) (gs : List (Int × Int)) (os : List Int) (w : World) (hc : CircAt w w.heap.size nA gA oA ns gs os) :
    Calls Try.prog 75 #[.agg #[.int .i64 i, .slice nA ns.length nc, .slice gA gs.length gc, .slice oA os.length oc]] w fun e w' => e = .returned (.bool (Circ.validB i ns gs os)) ∧ Below w.heap.size w w' := by
  have HC := Lib.hid hc
  clear hc
  cases hw : Circ.withinB i ns.length gs.length os.length
  · have HW := Lib.hid hw
    clear hw
    have HV : Hid (Circ.validB i ns gs os = false) := Lib.hid (by rw [Circ.validB, HW.out]; rfl)
    go_enter Try.func75, Try.ntmps75
    go_wp2_with (go_at_call 113; refine (within_any _ _ _ _ _ _ _ _ _ _ _).mono ?_; rintro e w1 ⟨rfl, hb1⟩; rw [HW.out])
    go_ret
    exact ⟨ret_bool HV.out.symm, ((Below.refl _ _).alloc (Nat.le_refl _) _).trans (hb1.mono (by simp))⟩
  · have HW := Lib.hid hw
    obtain ⟨h0, h1, h2, h3, h4⟩ := Circ.within_inv hw
    clear hw
    cases hg : Circ.gatesOk gs (1 + i + ns.length)
    · have HG := Lib.hid hg
      clear hg
      have HV : Hid (Circ.validB i ns gs os = false) := Lib.hid (by rw [Circ.validB, HW.out, HG.out]; rfl)
      go_enter Try.func75, Try.ntmps75
      go_wp2_with (first
        | (go_at_call 113; refine (within_any _ _ _ _ _ _ _ _ _ _ _).mono ?_; rintro e w1 ⟨rfl, hb1⟩; rw [HW.out]; obtain ⟨hc1, hf1⟩ := bcell hb1))
      have hB1 : Below w.heap.size w w1 := ((Below.refl _ _).alloc (Nat.le_refl _) _).trans (hb1.mono (by simp))
      refine (gatesOrdered_any _ _ _ _ _ _ _ _ _ _ _ ((HC.out.gates.below hB1).mono hB1.size) (by omega) (by omega) (by omega) (by omega)).mono ?_
      rintro e w2 ⟨rfl, hb2⟩
      rw [HG.out]
      clear hc1 hf1
      go_wp2
      go_ret
      exact ⟨ret_bool HV.out.symm, hB1.trans (hb2.mono hB1.size)⟩
    · have HG := Lib.hid hg
      clear hg
      go_enter Try.func75, Try.ntmps75
      go_wp2_with (first
        | (go_at_call 113; refine (within_any _ _ _ _ _ _ _ _ _ _ _).mono ?_; rintro e w1 ⟨rfl, hb1⟩; rw [HW.out]; obtain ⟨hc1, hf1⟩ := bcell hb1))
      have hB1 : Below w.heap.size w w1 := ((Below.refl _ _).alloc (Nat.le_refl _) _).trans (hb1.mono (by simp))
      refine (gatesOrdered_any _ _ _ _ _ _ _ _ _ _ _ ((HC.out.gates.below hB1).mono hB1.size) (by omega) (by omega) (by omega) (by omega)).mono ?_
      rintro e w2 ⟨rfl, hb2⟩
      rw [HG.out]
      have hz1 : w.heap.size < w1.heap.size := by have := hb1.size; simp at this; omega
      have hb12 : Below (w.heap.size + 1) (w.alloc (.cells #[.int .i64 i, .slice nA ns.length nc, .slice gA gs.length gc, .slice oA os.length oc] 108)) w2 := (hb1.mono (by simp)).trans (hb2.mono (by omega))
      clear hc1 hf1
      have c0 : w2.cell? ⟨w.heap.size, 0, none⟩ = some (.int .i64 i) := (hb12.cell (p := ⟨w.heap.size, 0, none⟩) (by simp)).trans (by simp)
      have c1 : w2.cell? ⟨w.heap.size, 1, none⟩ = some (.slice nA ns.length nc) := (hb12.cell (p := ⟨w.heap.size, 1, none⟩) (by simp)).trans (by simp)
      have c2 : w2.cell? ⟨w.heap.size, 2, none⟩ = some (.slice gA gs.length gc) := (hb12.cell (p := ⟨w.heap.size, 2, none⟩) (by simp)).trans (by simp)
      have c3 : w2.cell? ⟨w.heap.size, 3, none⟩ = some (.slice oA os.length oc) := (hb12.cell (p := ⟨w.heap.size, 3, none⟩) (by simp)).trans (by simp)
      have hB2 : Below w.heap.size w w2 := hB1.trans (hb2.mono hB1.size)
      have hz2 : w.heap.size < w2.heap.size := by have := hb2.size; omega
      clear hb12 hb2 hb1 hB1 hz1
      have hwr : IntKind.i64.wrap (1 + i + (ns.length : Int) + (gs.length : Int)) = 1 + i + (ns.length : Int) + (gs.length : Int) := IntWalk.i64_in _ (by omega)
      go_wp2
      go_region_held3 (fun w' => w'.cell? ⟨w.heap.size, 0, none⟩ = some (.int .i64 i) ∧ w'.cell? ⟨w.heap.size, 1, none⟩ = some (.slice nA ns.length nc) ∧ w'.cell? ⟨w.heap.size, 2, none⟩ = some (.slice gA gs.length gc) ∧ w'.cell? ⟨w.heap.size, 3, none⟩ = some (.slice oA os.length oc)) (first | go_keep | (refine ⟨?_, ?_, ?_, ?_⟩ <;> (rw [hc3 _ _ (by simp; omega)]; simp [*])))
        (first | (go_at_call 115; refine (firstGate_any _ _ _ _ _ _ _ _ _ _ _ ?_ ?_ ?_).mono ?_; (omega); (omega); (omega); rintro e w3 ⟨rfl, hb3⟩; obtain ⟨hc3, hf3⟩ := bcell hb3))
      clear hwr hc3 hf3
      have hB3 : Below w.heap.size w w3 := hB2.drew.trans (hb3.mono (Nat.le_of_lt hz2))
      have hcn := Lib.hid (HC.out.next.below hB3)
      have hco := Lib.hid (HC.out.outs.below hB3)
      have hnl := HC.out.nl
      have hol := HC.out.ol
      clear hb3 c0 c1 c2 c3 hB2
      cases hn : Circ.litsOk ns (1 + i + ns.length + gs.length)
      · have HN := Lib.hid hn
        clear hn
        have HV : Hid (Circ.validB i ns gs os = false) := Lib.hid (by rw [Circ.validB, HW.out, HG.out, HN.out]; rfl)
        go_wp2_with (go_at_call 116; refine (allRefer_any _ _ _ _ _ _ hcn.out hnl).mono ?_; rintro e w4 ⟨rfl, rfl⟩; rw [HN.out])
        go_ret
        exact ⟨ret_bool HV.out.symm, hB3⟩
      · have HN := Lib.hid hn
        clear hn
        have HV : Hid (Circ.validB i ns gs os = Circ.litsOk os (1 + i + ns.length + gs.length)) := Lib.hid (by rw [Circ.validB, HW.out, HG.out, HN.out]; rfl)
        go_wp2_with fail
        refine (allRefer_any _ _ _ _ _ _ hcn.out hnl).mono ?_
        rintro e w4 ⟨rfl, rfl⟩
        rw [HN.out]
        go_wp2_with fail
        refine (allRefer_any _ _ _ _ _ _ hco.out hol).mono ?_
        rintro e w4 ⟨rfl, rfl⟩
        go_wp2
        go_ret
        exact ⟨ret_bool HV.out.symm, hB3⟩
end Go.Proofs.Ytkkkkalgfmddbaa
