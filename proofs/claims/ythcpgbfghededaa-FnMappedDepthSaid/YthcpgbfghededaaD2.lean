/- The contract of the program's Depth. -/
import Derived.Test.YthcpgbfghededaaD1
namespace Go.Proofs.Ythcpgbfghededaa
open Go.RowKit Go.Deep

theorem highest_at (A A' : Option Addr) (cap cap' m n : Nat) (L xs : List Int) (B : Nat) (w : World) (hL : IntsAt w B A L) (hx : IntsAt w B A' xs) (hm : L.length = m) (hn : xs.length = n) (hl : m ≤ 1000) (hxl : n ≤ 1000)
    (hok : ∀ k, k < xs.length → 0 ≤ xs.getD k 0 ∧ xs.getD k 0 < 2 * (L.length : Int)) :
    Calls Try.prog 60 #[.slice A m cap, .slice A' n cap'] w fun e w' => e = .returned (.int .i64 (Circ.hi L xs)) ∧ w = w' := by
  subst hm hn
  exact highest_any A A' cap cap' L xs B w hL hx hl hxl hok

theorem maxif (a b : Int) : max a b = if a < b then b else a := by split <;> omega

set_option maxHeartbeats 800000 in
theorem depth_any (i : Int) (nA gA oA : Option Addr) (nc gc oc : Nat) (ns : List Int) (gs : List (Int × Int)) (os : List Int) (w : World) (hc : CircAt w w.heap.size nA gA oA ns gs os) :
    Calls Try.prog 24 #[.agg #[.int .i64 i, .slice nA ns.length nc, .slice gA gs.length gc, .slice oA os.length oc]] w fun e w' => e = .returned (.int .i64 (Circ.depthZ i ns gs os)) ∧ Below w.heap.size w w' := by
  have hbw : Below w.heap.size w (w.alloc (.cells #[.int .i64 i, .slice nA ns.length nc, .slice gA gs.length gc, .slice oA os.length oc] 26)) := (Below.refl _ _).alloc (Nat.le_refl _) _
  have r0 : Row (w.alloc (.cells #[.int .i64 i, .slice nA ns.length nc, .slice gA gs.length gc, .slice oA os.length oc] 26)) w.heap.size 26 #[.int .i64 i, .slice nA ns.length nc, .slice gA gs.length gc, .slice oA os.length oc] := heap_alloc_new w _
  have HC := Lib.hid ((hc.below hbw).mono hbw.size)
  have HL0 := Lib.hid hbw
  have HR0 := Lib.hid r0
  clear hc hbw r0
  go_enter Try.func24, Try.ntmps24
  go_wp2_with fail
  refine (valid_any i nA gA oA nc gc oc ns gs os _ HC.out).mono ?_
  rintro e w1 ⟨rfl, hb1⟩
  have HR1 := Lib.hid (HR0.out.below hb1 HR0.out.lt)
  have HC1 := Lib.hid ((HC.out.below hb1).mono hb1.size)
  have HL1 := Lib.hid (HL0.out.trans (hb1.mono HL0.out.size))
  clear hb1 HR0 HL0 HC
  cases hv : Circ.validB i ns gs os
  · have HV := Lib.hid (Circ.depth_f hv)
    clear hv
    go_wp2
    go_ret
    exact ⟨ret_int HV.out.symm, HL1.out⟩
  · obtain ⟨h0, h1, h2, h3, h4⟩ := Circ.valid_within hv
    obtain ⟨f, hf⟩ : ∃ f : Nat, 1 + i + (ns.length : Int) = f := ⟨(1 + i + (ns.length : Int)).toNat, by omega⟩
    have hd := Circ.depth_t hv
    have hg := Circ.valid_gates hv
    have hnx := Circ.valid_next hv
    have hou := Circ.valid_outs hv
    rw [hf] at hd hg hnx hou
    rw [Int.toNat_natCast] at hd
    have HD := Lib.hid hd
    have hll := Circ.levels_len gs f
    have HN := Lib.hid (show ∀ k, k < ns.length → 0 ≤ ns.getD k 0 ∧ ns.getD k 0 < 2 * ((Circ.levels gs f).length : Int) from fun k hk => by have := Circ.litsOk_get hnx hk; rw [hll]; omega)
    have HO := Lib.hid (show ∀ k, k < os.length → 0 ≤ os.getD k 0 ∧ os.getD k 0 < 2 * ((Circ.levels gs f).length : Int) from fun k hk => by have := Circ.litsOk_get hou hk; rw [hll]; omega)
    have HLL := Lib.hid hll
    have HG := Lib.hid hg
    have HF := Lib.hid hf
    have hf8 : f ≤ 8 := by omega
    clear hv hd hg hnx hou hll hf
    have q0 := HR1.out.cell 0
    have q1 := HR1.out.cell 1
    have q2 := HR1.out.cell 2
    have q3 := HR1.out.cell 3
    simp at q0 q1 q2 q3
    go_wp2_with fail
    refine (varLevels_any i nA gA oA ns.length nc gc os.length oc gs f _ HC1.out.gates h3 h0 h1 h2 HF.out HG.out).mono ?_
    rintro e w2 ⟨g, rfl, hgl, hb2, hi2⟩
    have HR2 := Lib.hid (HR1.out.below hb2 HR1.out.lt)
    have HC2 := Lib.hid ((HC1.out.below hb2).mono hb2.size)
    have HL2 := Lib.hid (HL1.out.trans (hb2.mono HL1.out.size))
    have HI2 := Lib.hid hi2
    clear hb2 hi2 HR1 HC1 HL1 q0 q1 q2 q3 hgl
    have q1 := HR2.out.cell 1
    have q3 := HR2.out.cell 3
    simp at q1 q3
    go_wp2
    go_region_held3 (fun w' => w'.cell? ⟨w.heap.size, 1, none⟩ = some (.slice nA ns.length nc) ∧ w'.cell? ⟨w.heap.size, 3, none⟩ = some (.slice oA os.length oc)) (go_keep)
      (first
        | (go_at_call 60; (with_reducible refine (highest_at (some ⟨g, 0, none⟩) nA (f + gs.length) nc (f + gs.length) ns.length (Circ.levels gs f) ns w2.heap.size _ ?_ ?_ ?_ ?_ ?_ ?_ ?_).mono ?_); (exact HI2.out); (exact HC2.out.next); (exact HLL.out); (exact rfl); (omega); (omega); (exact HN.out); rintro e w3 ⟨rfl, rfl⟩)
        | (go_at_call 60; (with_reducible refine (highest_at (some ⟨g, 0, none⟩) oA (f + gs.length) oc (f + gs.length) os.length (Circ.levels gs f) os w2.heap.size _ ?_ ?_ ?_ ?_ ?_ ?_ ?_).mono ?_); (exact HI2.out); (exact HC2.out.outs); (exact HLL.out); (exact rfl); (omega); (omega); (exact HO.out); rintro e w3 ⟨rfl, rfl⟩))
    have hd2 := HD.out
    rw [maxif] at hd2
    have HD2 := Lib.hid hd2
    clear hd2 HD
    generalize (if Circ.hi (Circ.levels gs f) ns < Circ.hi (Circ.levels gs f) os then Circ.hi (Circ.levels gs f) os else Circ.hi (Circ.levels gs f) ns) = dv at *
    go_wp2
    go_ret
    exact ⟨ret_int HD2.out.symm, HL2.out.drew⟩
end Go.Proofs.Ythcpgbfghededaa
