/- The contracts of the pair of operands, and of the variables that are reached. -/
import Derived.Test.YthpiddpkcmecfaaT1
namespace Go.Proofs.Ythpiddpkcmecfaa
open Go.RowKit Go.Deep

/-- What a gate with these operands is replaced by. -/
def simpl (a b : Nat) : Nat × Bool := if a = 0 ∨ a = Opt.neg1 b then (0, true) else if a = 1 ∨ a = b then (b, true) else (0, false)
def SimplOut (w : World) (a b : Nat) (e : Ending) (w' : World) : Prop := e = .returned (.tuple #[.int .i64 ((simpl a b).1 : Nat), .bool (simpl a b).2]) ∧ Below w.heap.size w w'

set_option maxHeartbeats 400000 in
theorem simplified_any (a b : Nat) (w : World) (ha : a < 1000000) (hb : b < 1000000) :
    Calls Try.prog 107 #[.agg #[.int .i64 a, .int .i64 b]] w (SimplOut w a b) := by
  have hnb : Opt.neg1 b < 2000000 := by unfold Opt.neg1; split <;> omega
  have HL : Hid (Below w.heap.size w (w.alloc (.cells #[.int .i64 a, .int .i64 b] 125))) := Lib.hid ((Below.refl _ _).alloc (Nat.le_refl _) _)
  by_cases h0 : a = 0
  · subst h0
    have HS : Hid (simpl 0 b = (0, true)) := Lib.hid (by simp [simpl])
    go_enter Try.func107, Try.ntmps107
    go_wp2
    go_quiet (fail)
    go_wp2
    go_ret2
    exact ⟨by rw [HS.out]; rfl, below_drewN HL.out _⟩
  · have q0 : ((a : Int) == 0) = false := by simp; omega
    by_cases h1 : a = Opt.neg1 b
    · have HS : Hid (simpl a b = (0, true)) := Lib.hid (by simp [simpl, h1])
      have HE := Lib.hid h1
      clear h1
      generalize hc : Opt.neg1 b = c at *
      have HC := Lib.hid hc
      clear hc
      have q1 : ((a : Int) == (c : Int)) = true := by rw [HE.out]; simp
      go_enter Try.func107, Try.ntmps107
      go_wp2
      go_quiet (fail)
      go_wp2_with (go_at_call 108; refine (compl_any b _ (by omega)).mono ?_; rintro e w' ⟨rfl, rfl⟩; rw [HC.out])
      go_ret2
      exact ⟨by rw [HS.out]; rfl, below_drewN HL.out _⟩
    · generalize hc : Opt.neg1 b = c at *
      have HC := Lib.hid hc
      have HNE := Lib.hid h1
      have q1 : ((a : Int) == (c : Int)) = false := by simp; omega
      by_cases h2 : a = 1
      · subst h2
        have HS : Hid (simpl 1 b = (b, true)) := Lib.hid (by simp [simpl, hc, h1])
        clear hc h1
        go_enter Try.func107, Try.ntmps107
        go_wp2
        go_quiet (fail)
        go_wp2_with (go_at_call 108; refine (compl_any b _ (by omega)).mono ?_; rintro e w' ⟨rfl, rfl⟩; rw [HC.out])
        go_ret2
        exact ⟨by rw [HS.out]; rfl, below_drewN HL.out _⟩
      · have q2 : ((a : Int) == 1) = false := by simp; omega
        by_cases h3 : a = b
        · subst h3
          have HS : Hid (simpl a a = (a, true)) := Lib.hid (by simp [simpl, hc, h1, h0])
          clear hc h1 h2 h0
          go_enter Try.func107, Try.ntmps107
          go_wp2
          go_quiet (fail)
          go_wp2_with (go_at_call 108; refine (compl_any a _ (by omega)).mono ?_; rintro e w' ⟨rfl, rfl⟩; rw [HC.out])
          go_ret2
          exact ⟨by rw [HS.out]; rfl, below_drewN HL.out _⟩
        · have q3 : ((a : Int) == (b : Int)) = false := by simp; omega
          have HS : Hid (simpl a b = (0, false)) := Lib.hid (by simp [simpl, hc, h1, h0, h2, h3])
          clear hc h1 h2 h0 h3
          go_enter Try.func107, Try.ntmps107
          go_wp2
          go_quiet (fail)
          go_wp2_with (go_at_call 108; refine (compl_any b _ (by omega)).mono ?_; rintro e w' ⟨rfl, rfl⟩; rw [HC.out])
          go_ret2
          exact ⟨by rw [HS.out]; rfl, below_drewN HL.out _⟩
end Go.Proofs.Ythpiddpkcmecfaa
