/- The contract of alive. -/
import Derived.Test.YtliaommpnaagiaaW3
namespace Go.Proofs.Ytliaommpnaagiaa
open Go.RowKit Go.Deep

theorem valid_empty (w : World) : Calls Try.prog 17 #[.agg #[.int .i64 0, .slice none 0 0, .slice none 0 0, .slice none 0 0]] w fun e w' => e = .returned (.bool true) ∧ Below w.heap.size w w' :=
  valid_any 0 none none none 0 0 0 [] [] [] w ⟨fun k hk => absurd hk (by simp), fun k hk => absurd hk (by simp), fun k hk => absurd hk (by simp), by simp, by simp, by simp⟩

set_option maxHeartbeats 400000 in
theorem alive_any (w : World) : Calls Try.prog 8 #[] w fun e w' => e = .returned (.bool true) ∧ Below w.heap.size w w' := by
  go_enter Try.func8, Try.ntmps8
  go_wp2_with (go_at_call 17; refine (valid_empty _).mono ?_; rintro e w1 ⟨rfl, hb1⟩)
  go_ret
  exact ⟨rfl, hb1⟩
end Go.Proofs.Ytliaommpnaagiaa
/- The contracts of VarCount of the program, and of alive. -/
namespace Go.Proofs.Ytliaommpnaagiaa
open Go.RowKit Go.Deep

end Go.Proofs.Ytliaommpnaagiaa
