/- The model's placer. -/
import Derived.Test.YtdadokcodklfgaaWL
namespace Plc
end Plc
namespace Go.Proofs.Ytdadokcodklfgaa
open Go.RowKit Go.Deep Cut Plc

theorem intL_set (p : List Nat) (k v : Nat) : ivs (Opt.intL (p.set k v)) = (ivs (Opt.intL p)).set k (.int .i64 (v : Int)) := by
  unfold ivs Opt.intL
  rw [List.map_set, List.map_set]
theorem TimesAt.put {w : World} {s g cap : Nat} {xs : List Nat} (h : TimesAt w s xs g cap) (k v : Nat) : TimesAt (w.setCell ⟨g, k, none⟩ (.int .i64 (v : Int))) s (xs.set k v) g cap := by
  unfold TimesAt
  rw [intL_set, List.length_set]
  exact (World.ownsRow.stored h k _).1
theorem TimesAt.row {w : World} {s g cap : Nat} {xs : List Nat} (h : TimesAt w s xs g cap) {k : Nat} (hk : k < xs.length) : w.cell? ⟨g, k, none⟩ = some (.int .i64 (xs.getD k 0 : Nat)) ∧ w.frozen? ⟨g, k, none⟩ = false := by
  refine ⟨?_, World.ownsRow.frozenAt h k⟩
  obtain ⟨b, off, e, _, hc⟩ := h.ints k (by rw [Opt.intL_len]; exact hk)
  injection e with e
  injection e with e1 e2
  subst e1 e2
  rw [Nat.zero_add, Opt.intL_at] at hc
  exact hc
end Go.Proofs.Ytdadokcodklfgaa
