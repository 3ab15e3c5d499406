/- The contract of alive. -/
import Derived.Test.YtliedgaefgomjaaGreatW3
namespace Go.Proofs.YtliedgaefgomjaaGreat
open Go.RowKit Go.Deep

theorem valid_empty (w : World) : Calls Tryz.prog 33 #[.agg #[.int .i64 0, .slice none 0 0, .slice none 0 0, .slice none 0 0]] w fun e w' => e = .returned (.bool true) ∧ Below w.heap.size w w' :=
  valid_any 0 none none none 0 0 0 [] [] [] w ⟨fun k hk => absurd hk (by simp), fun k hk => absurd hk (by simp), fun k hk => absurd hk (by simp), by simp, by simp, by simp⟩

set_option maxHeartbeats 400000 in
theorem alive_any (w : World) : Calls Tryz.prog 10 #[] w fun e w' => e = .returned (.bool true) ∧ Below w.heap.size w w' := by
  go_enter Tryz.func10, Tryz.ntmps10
  go_wp2_with (go_at_call 33; refine (valid_empty _).mono ?_; rintro e w1 ⟨rfl, hb1⟩)
  go_ret
  exact ⟨rfl, hb1⟩
end Go.Proofs.YtliedgaefgomjaaGreat
/- The contracts of VarCount of the program, and of alive. -/
namespace Go.Proofs.YtliedgaefgomjaaGreat
open Go.RowKit Go.Deep

set_option maxHeartbeats 400000 in
theorem varCount_any (i : Int) (nA gA oA : Option Addr) (nc gc oc : Nat) (ns : List Int) (gs : List (Int × Int)) (os : List Int) (w : World) (hc : CircAt w w.heap.size nA gA oA ns gs os) :
    Calls Tryz.prog 13 #[.agg #[.int .i64 i, .slice nA ns.length nc, .slice gA gs.length gc, .slice oA os.length oc]] w fun e w' => e = .returned (.int .i64 (Circ.varCountZ i ns gs os)) ∧ Below w.heap.size w w' := by
  have hbw : Below w.heap.size w (w.alloc (.cells #[.int .i64 i, .slice nA ns.length nc, .slice gA gs.length gc, .slice oA os.length oc] 26)) := (Below.refl _ _).alloc (Nat.le_refl _) _
  have r0 : Row (w.alloc (.cells #[.int .i64 i, .slice nA ns.length nc, .slice gA gs.length gc, .slice oA os.length oc] 26)) w.heap.size 26 #[.int .i64 i, .slice nA ns.length nc, .slice gA gs.length gc, .slice oA os.length oc] := heap_alloc_new w _
  have HC := Lib.hid ((hc.below hbw).mono hbw.size)
  have HL0 := Lib.hid hbw
  have HR0 := Lib.hid r0
  clear hc hbw r0
  go_enter Tryz.func13, Tryz.ntmps13
  go_wp2_with fail
  refine (valid_any i nA gA oA nc gc oc ns gs os _ HC.out).mono ?_
  rintro e w1 ⟨rfl, hb1⟩
  have HR1 := Lib.hid (HR0.out.below hb1 HR0.out.lt)
  have HL1 := Lib.hid (HL0.out.trans (hb1.mono HL0.out.size))
  clear hb1 HR0 HL0
  cases hv : Circ.validB i ns gs os
  · have HV := Lib.hid (Circ.varCount_f hv)
    clear hv
    go_wp2
    go_ret
    exact ⟨ret_int HV.out.symm, HL1.out⟩
  · have HV := Lib.hid (Circ.varCount_t hv)
    obtain ⟨h0, h1, h2, h3, h4⟩ := Circ.valid_within hv
    clear hv
    have q0 := HR1.out.cell 0
    have q1 := HR1.out.cell 1
    have q2 := HR1.out.cell 2
    have q3 := HR1.out.cell 3
    simp at q0 q1 q2 q3
    have hz := HR1.out.lt
    have hwr : IntKind.i64.wrap (1 + i + (ns.length : Int) + (gs.length : Int)) = 1 + i + (ns.length : Int) + (gs.length : Int) := IntWalk.i64_in _ (by omega)
    go_wp2
    go_region_held3 (fun w' => w'.cell? ⟨w.heap.size, 0, none⟩ = some (.int .i64 i) ∧ w'.cell? ⟨w.heap.size, 1, none⟩ = some (.slice nA ns.length nc) ∧ w'.cell? ⟨w.heap.size, 2, none⟩ = some (.slice gA gs.length gc) ∧ w'.cell? ⟨w.heap.size, 3, none⟩ = some (.slice oA os.length oc)) (first | go_keep | (refine ⟨?_, ?_, ?_, ?_⟩ <;> (rw [hc3 _ _ (by simp; omega)]; simp [*])))
      (first | (go_at_call 35; refine (firstGate_any _ _ _ _ _ _ _ _ _ _ _ ?_ ?_ ?_).mono ?_; (omega); (omega); (omega); rintro e w3 ⟨rfl, hb3⟩; obtain ⟨hc3, hf3⟩ := bcell hb3))
    clear hwr hc3 hf3
    go_wp2
    go_ret
    exact ⟨ret_int HV.out.symm, HL1.out.drew.trans (hb3.mono HL1.out.size)⟩

end Go.Proofs.YtliedgaefgomjaaGreat
