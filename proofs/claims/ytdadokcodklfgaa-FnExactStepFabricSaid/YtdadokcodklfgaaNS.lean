/- The sinks of a net: plain mathematics, and the contracts of both sides. -/
import Derived.Test.YtdadokcodklfgaaSC
import Derived.Test.YtdadokcodklfgaaCT
namespace Cut
open Opt
end Cut
namespace Cut
open Opt
end Cut
namespace Go.Proofs.Ytdadokcodklfgaa
open Go.RowKit Go.Deep Cut

theorem ret_slice {A : Option Addr} {l l' c : Nat} (h : l = l') : Ending.returned (.slice A l c) = .returned (.slice A l' c) := by rw [h]

theorem containsZ (A : Option Addr) (m c B : Nat) (lv : List Nat) (net : Int) (w : World) (h : IntsAt w B A (Opt.intL lv)) (hm : lv.length = m) (hb : m ≤ 1000) :
    Calls Try.prog 157 #[.slice A m c, .int .i64 net] w fun e w' => e = .returned (.bool ((Opt.intL lv).contains net)) ∧ w = w' := by
  subst hm
  cases lv with
  | nil => exact (contains_none A c net w).mono (fun e w' ⟨h1, h2⟩ => ⟨h1, h2.symm⟩)
  | cons a r =>
    obtain ⟨b, off, rfl, _, _⟩ := h 0 (by rw [Opt.intL_len]; simp)
    have e : (((Opt.intL (a :: r)).take (a :: r).length).contains net) = (Opt.intL (a :: r)).contains net := by
      rw [List.take_of_length_le (by rw [Opt.intL_len]; exact Nat.le_refl _)]
    rw [← e]
    exact (contains_any b off _ c (Opt.intL (a :: r)) net w (by rw [Opt.intL_len]; exact Nat.le_refl _) (by omega) (fun j hj => by
      obtain ⟨b', off', e', _, hc⟩ := h j hj
      injection e' with e'
      injection e' with e1 e2
      subst e1 e2
      exact hc)).mono (fun e w' ⟨h1, h2⟩ => ⟨h1, h2.symm⟩)

end Go.Proofs.Ytdadokcodklfgaa
