/- The contract of the sequence of all assignments of a circuit. -/
import Derived.Test.YthpiddpkcmecfaaY8
import Derived.Test.YthpiddpkcmecfaaRG
import Derived.RangeFuncNested
import Derived.RangeFuncBound
import Derived.RangeFuncCalls
import Derived.RangeFuncLeaves
import Derived.Shelf.Abstract
import Derived.Shelf.RegionOpen
import Derived.WalkKit
import Derived.OwnWalkIn
import Derived.TacticsInMore
import Derived.LoopNIn
import Derived.LoopIn
namespace Go.Proofs.Ythpiddpkcmecfaa
open Go.RowKit Go.Shelf
attribute [local go_sem] Oper.semAt_some

theorem gb_below {w w' : World} (hb : Below w.heap.size w w') : w.grownBy w' none := ⟨hb.os, hb.tape, hb.output, hb.size, fun k hk _ => hb.block k hk⟩
theorem keeps_below {w w' : World} (hb : Below w.heap.size w w') : KeepsOthers w w' := ⟨hb.size, fun k _ hk _ => (hb.block k (Array.getElem?_eq_some_iff.1 hk).1).trans hk⟩
/-- The value that is handed over: the state and the inputs. -/
def asgV (nl m : Nat) (x : Nat × Nat) : Array Value := #[.agg #[.slice (some ⟨x.1, 0, none⟩) nl nl, .slice (some ⟨x.2, 0, none⟩) m m]]
/-- What is known of it. -/
structure AsgGd (D m nl : Nat) (pre : List (Nat × Nat)) (x : Nat × Nat) (V : World) : Prop where
  lt : pre.length < 2 ^ (m + nl)
  d1 : D ≤ x.1
  d2 : D ≤ x.2
  ne : x.1 ≠ x.2
  st : BRow V x.1 (Circ.bitsN (pre.length / 2 ^ m) nl)
  ins : BRow V x.2 (Circ.bitsN pre.length m)

set_option maxRecDepth 100000 in
set_option maxHeartbeats 2000000 in
theorem asgSeq (n : Nat) (Bn n₀ m : Nat) (nA gA oA : Option Addr) (nl gl ol nc gc oc : Nat) (w : World) (hrow : Row w Bn 26 #[.int .i64 (m : Int), .slice nA nl nc, .slice gA gl gc, .slice oA ol oc]) (hBn : Bn < n₀) (_hn₀ : n₀ ≤ w.heap.size) (hm : m ≤ 4) (hnl : nl ≤ 3) :
    SeqGiven Fence.wide n Try.prog 98 #[.pointer (some ⟨Bn, 0, none⟩)] (asgV nl m) (Below n₀) (AsgGd w.heap.size m nl) (fun xs => xs.length = 2 ^ (m + nl)) (fun _ => True) w := fun l J Jx W hW hJ hJx hY h0 => by
  have HR0 := Lib.hid (hrow.below hW hrow.lt)
  have HZ0 := hW.size
  clear hW hrow
  obtain ⟨N, HNE, hN, hN1⟩ : ∃ N : Nat, Hid (N = 2 ^ (m + nl)) ∧ wrap64 (2 ^ (m + nl)) = (N : Int) ∧ N ≤ 128 := by
    have h128 : 2 ^ (m + nl) ≤ 2 ^ 7 := Nat.pow_le_pow_right (by decide) (by omega)
    have e : ((2 : Int) ^ (m + nl)) = ((2 ^ (m + nl) : Nat) : Int) := by simp
    refine ⟨2 ^ (m + nl), Lib.hid rfl, ?_, by simpa using h128⟩
    rw [e]
    have key : ∀ N : Nat, N ≤ 128 → wrap64 (N : Int) = N := fun N h => IntWalk.wrap64_in _ (by omega)
    exact key _ (by simpa using h128)
  have q0 := HR0.out.cell 0
  have q1 := HR0.out.cell 1
  simp at q0 q1
  refine callsIn_of_wp Try.func98 rfl trivial ?_ rfl
  simp only [Try.ntmps98, List.size_toArray, List.length_cons, List.length_nil, Nat.reduceAdd, Nat.reduceSub, Array.replicate_succ, Array.replicate_zero, List.push_toArray, List.append_toArray, List.nil_append, List.cons_append]
  gi_wp2
  simp only [hN]
  clear hN
  gi_loopw [11] (fun kv wr => ∃ (pre : List (Nat × Nat)), pre.length ≤ N ∧ kv = .int .i64 (pre.length : Int) ∧ Hid (Row wr Bn 26 #[.int .i64 (m : Int), .slice nA nl nc, .slice gA gl gc, .slice oA ol oc]) ∧ w.heap.size ≤ wr.heap.size ∧ Hid (W.heap.size ≤ wr.heap.size) ∧ J pre wr) (fun kv _ => ((N : Int) - intOf kv).toNat)
  case atStart => exact ⟨[], Nat.zero_le _, rfl, HR0, HZ0, Lib.hid (Nat.le_refl _), h0⟩
  case round =>
    clear HR0 q0 q1 h0 HZ0
    obtain ⟨pre, hk, rfl, HR, hz, HW, hJp⟩ := hrel
    by_cases hlt : pre.length < N
    · have q0 := HR.out.cell 0
      have q1 := HR.out.cell 1
      have q2 := HR.out.cell 2
      have q3 := HR.out.cell 3
      simp at q0 q1 q2 q3
      gi_wp2_with fail
      refine ⟨trivial, (fun h => by cases h), (callsIn_wide.2 (assignOf_any m pre.length nA gA oA nl gl ol nc gc oc _ (by omega) (by omega) (by omega))).mono ?_⟩
      rintro e w1 ⟨z1, z2, rfl, hz1, hz2, hx1, hx2, hb1⟩
      obtain ⟨fn, tmps, assign, body, hy, hR⟩ := hY pre (z1, z2) w1 (hJ pre _ _ none hJp (gb_below hb1) (fun r e => by cases e)) ⟨by rw [← HNE.out]; exact hlt, by show _ ≤ z1; omega, by show _ ≤ z2; omega, by show z1 ≠ z2; omega, hx1, hx2⟩
      dsimp only [asgV] at hy
      gi_wp2
      refine ⟨(fun h => by cases h), hR.mono ?_⟩
      rintro e W3 (⟨rfl, hJ3, hk3⟩ | ⟨rfl, hJx3⟩)
      · have HR3 := Lib.hid ((HR.out.below hb1 HR.out.lt).below hk3 hBn)
        have hz3 : wr.heap.size ≤ W3.heap.size := Nat.le_trans hb1.size hk3.size
        clear hx1 hx2 hb1 hk3 hR hy q0 q1 q2 q3 hJp
        gi_wp2
        go_roundw
        case rel => exact ⟨pre ++ [(z1, z2)], by simp; omega, by simp, HR3, by omega, Lib.hid (Nat.le_trans HW.out hz3), hJ3⟩
        case measure => simp [intOf]; omega
      · clear hx1 hx2 hb1 hR hy q0 q1 q2 q3 hJp
        gi_wp2
        refine bodyPost_ret (results_none rfl _ _ _) rfl ?_
        exact ⟨⟨_, rfl⟩, .inr ⟨_, trivial, hJx3⟩⟩
    · gi_wp2
      go_end0
      exact ⟨⟨_, rfl⟩, .inl ⟨pre, by rw [← HNE.out]; omega, hJp⟩⟩
end Go.Proofs.Ythpiddpkcmecfaa
