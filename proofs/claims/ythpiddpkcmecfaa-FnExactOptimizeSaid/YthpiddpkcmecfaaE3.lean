/- The marks on an optimized circuit found again; the circuit without anything. -/
import Derived.Test.YthpiddpkcmecfaaE2
namespace Go.Proofs.Ythpiddpkcmecfaa
open Go.RowKit Go.Deep
set_option maxRecDepth 100000

theorem heldGSl_any (v : Value) (B k n : Nat) (w : World) (h : GSl w B v k n) (hn : n ≤ 2000000) (hk : k ≤ 1000000000) :
    Calls Try.prog 78 #[v, .int .i64 k] w fun e w' => e = .returned (.int .i64 ((k + 2 * n : Nat) : Int)) ∧ w = w' := by
  rcases h with ⟨rfl, rfl⟩ | ⟨g, cap, rfl, _, h⟩
  · exact heldG_nil (k : Int) w
  · exact heldG_row g n cap k w h hn hk
theorem GSl.shape {w : World} {B : Nat} {v : Value} {k n : Nat} (h : GSl w B v k n) : ∃ A cap, v = .slice A n cap := by
  rcases h with ⟨rfl, rfl⟩ | ⟨g, cap, rfl, _, _⟩
  · exact ⟨_, _, rfl⟩
  · exact ⟨_, _, rfl⟩

set_option maxHeartbeats 400000 in
theorem heldOwn_any (i : Int) (B g1 g3 k nl gl ol : Nat) (vG : Value) (w : World) (h : MarkedC w B g1 g3 vG k nl gl ol) (hnl : nl ≤ 1000) (hgl : gl ≤ 1000) (hol : ol ≤ 1000) (hk : k ≤ 1000) :
    Calls Try.prog 41 #[.agg #[.int .i64 i, .slice (some ⟨g1, 0, none⟩) nl nl, vG, .slice (some ⟨g3, 0, none⟩) ol ol], .int .i64 k] w fun e w' =>
      e = .returned (.int .i64 ((k + nl + 2 * gl + ol : Nat) : Int)) ∧ Below w.heap.size w w' := by
  obtain ⟨GA, gcap, rfl⟩ := h.gates.shape
  have hbw : Below w.heap.size w (w.alloc (.cells #[.int .i64 i, .slice (some ⟨g1, 0, none⟩) nl nl, .slice GA gl gcap, .slice (some ⟨g3, 0, none⟩) ol ol] 26)) := (Below.refl _ _).alloc (Nat.le_refl _) _
  have HL := Lib.hid hbw
  have HM := Lib.hid (h.below hbw)
  have l1 := h.next.lt
  clear h hbw
  have e1 : ((k + nl : Nat) : Int) = (k : Int) + nl := by omega
  have E1 := Lib.hid e1
  clear e1
  go_enter Try.func41, Try.ntmps41
  go_wp2_with fail
  refine (heldI_row g1 nl k _ HM.out.next (by omega) (by omega)).mono ?_
  rintro e w1 ⟨rfl, rfl⟩
  generalize hk1 : k + nl = k1 at *
  have HK1 := Lib.hid hk1
  have hk1b : k1 ≤ 2000 := by omega
  clear hk1
  go_wp2_with fail
  refine (heldGSl_any (.slice GA gl gcap) B k1 gl _ (by have := HM.out.gates; rwa [HK1.out] at this) (by omega) (by omega)).mono ?_
  rintro e w1 ⟨rfl, rfl⟩
  generalize hk2 : k1 + 2 * gl = k2 at *
  have HK2 := Lib.hid hk2
  have hk2b : k2 ≤ 4000 := by omega
  clear hk2
  go_wp2_with fail
  refine (heldI_row g3 ol k2 _ (by have := HM.out.outs; rwa [HK1.out, HK2.out] at this) (by omega) (by omega)).mono ?_
  rintro e w1 ⟨rfl, rfl⟩
  go_wp2
  go_ret
  exact ⟨ret_int (by have := HK1.out; have := HK2.out; omega), HL.out⟩

set_option maxHeartbeats 400000 in
theorem markI_nil (k : Int) (w : World) :
    Calls Try.prog 75 #[.slice none 0 0, .int .i64 k] w fun e w' => e = .returned (.int .i64 k) ∧ w = w' := by
  go_enter Try.func75, Try.ntmps75
  go_wp2
  go_loop [1, 5] (fun kv iv => iv = .int .i64 0 ∧ kv = .int .i64 k) (fun _ _ => 0)
  case atStart => exact ⟨rfl, rfl⟩
  case round =>
    obtain ⟨rfl, rfl⟩ := hrel
    go_wp2
    go_ret
    exact ⟨rfl, rfl⟩
set_option maxHeartbeats 400000 in
theorem heldI_nil (k : Int) (w : World) :
    Calls Try.prog 77 #[.slice none 0 0, .int .i64 k] w fun e w' => e = .returned (.int .i64 k) ∧ w = w' := by
  go_enter Try.func77, Try.ntmps77
  go_wp2
  go_loop [1, 5] (fun kv iv => iv = .int .i64 0 ∧ kv = .int .i64 k) (fun _ _ => 0)
  case atStart => exact ⟨rfl, rfl⟩
  case round =>
    obtain ⟨rfl, rfl⟩ := hrel
    go_wp2
    go_ret
    exact ⟨rfl, rfl⟩
set_option maxHeartbeats 400000 in
theorem markZero_any (k : Nat) (w : World) (_hk : k ≤ 1000) :
    Calls Try.prog 40 #[.agg #[.int .i64 0, .slice none 0 0, .slice none 0 0, .slice none 0 0], .int .i64 k] w fun e w' => e = .returned (.int .i64 k) ∧ Below w.heap.size w w' := by
  go_enter Try.func40, Try.ntmps40
  go_wp2_with (first
    | (go_at_call 75; refine (markI_nil _ _).mono ?_; rintro e w' ⟨rfl, rfl⟩)
    | (go_at_call 76; refine (markG_nil _ _).mono ?_; rintro e w' ⟨rfl, rfl⟩))
  go_ret
  exact ⟨rfl, (Below.refl _ _).alloc (Nat.le_refl _) _⟩
set_option maxHeartbeats 400000 in
theorem heldZero_any (k : Nat) (w : World) (hk : k ≤ 1000) :
    Calls Try.prog 41 #[.agg #[.int .i64 0, .slice none 0 0, .slice none 0 0, .slice none 0 0], .int .i64 k] w fun e w' => e = .returned (.int .i64 k) ∧ Below w.heap.size w w' := by
  have hk0 : (0 : Int) ≤ (k : Int) := by omega
  go_enter Try.func41, Try.ntmps41
  go_wp2_with (first
    | (go_at_call 77; refine (heldI_nil _ _).mono ?_; rintro e w' ⟨rfl, rfl⟩)
    | (go_at_call 78; refine (heldG_nil _ _).mono ?_; rintro e w' ⟨rfl, rfl⟩))
  go_ret
  exact ⟨rfl, (Below.refl _ _).alloc (Nat.le_refl _) _⟩
end Go.Proofs.Ythpiddpkcmecfaa
