/- The contracts of lists of truth values: copy, comparison. -/
import Derived.Test.YtliedgaefgomjaaGreatB1a
namespace Go.Proofs.YtliedgaefgomjaaGreat
open Go.RowKit Go.Deep

end Go.Proofs.YtliedgaefgomjaaGreat
/- The contracts of the marks on truth values. -/
namespace Go.Proofs.YtliedgaefgomjaaGreat
open Go.RowKit Go.Deep

end Go.Proofs.YtliedgaefgomjaaGreat
/- The contracts of the bit set: truth values put into it. -/
namespace Go.Proofs.YtliedgaefgomjaaGreat
open Go.RowKit Go.Deep

set_option maxHeartbeats 400000 in
theorem holds_any (g m n : Nat) (L : List Bool) (w : World) (hc : w.cell? ⟨g, 0, none⟩ = some (.int .u64 m)) (hB : Circ.Bits m L) (hn : n < 128) :
    Calls Tryz.prog 110 #[.slice (some ⟨g, 0, none⟩) 1 1, .int .i64 n] w fun e w' => e = .returned (.bool (Circ.litV L n)) ∧ w = w' := by
  have HM := Lib.hid hB.1
  have HW := Lib.hid (hB.2 (n / 2))
  have HL := Lib.hid (litV_nat L n)
  clear hB
  have hq : (n : Int) / 2 = ((n / 2 : Nat) : Int) := by omega
  have hq64 : n / 2 < 64 := by omega
  have ho := i64_odd n (by omega)
  generalize n / 2 = q at *
  rcases Nat.mod_two_eq_zero_or_one n with e | e
  all_goals
    rw [e] at ho HL
    clear e
    go_enter Tryz.func110, Tryz.ntmps110
    go_wp2_with (first
      | (go_at_call 52; refine (var_any _ _).mono ?_; rintro e w' ⟨rfl, rfl⟩; rw [hq])
      | (go_at_call 48; refine (has_any g m q _ hc hq64 HM.out).mono ?_; rintro e w' ⟨rfl, rfl⟩))
    go_ret
    exact ⟨ret_bool (by rw [HL.out, HW.out]; cases L.getD q false <;> rfl), rfl⟩

end Go.Proofs.YtliedgaefgomjaaGreat
