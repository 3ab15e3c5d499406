/- Plain mathematics of checksums: one byte changed changes the sum. -/
import Derived.Test.YtdadokcodklfgaaQP
namespace Ck
def stepC (s b : Nat) : Nat := (s * 257 + b + 1) % 65521
def ck (s : Nat) (l : List Nat) : Nat := l.foldl stepC s
theorem ck_snoc (s : Nat) (l : List Nat) (b : Nat) : ck s (l ++ [b]) = stepC (ck s l) b := by simp [ck]
theorem ck_app (s : Nat) (a b : List Nat) : ck s (a ++ b) = ck (ck s a) b := by simp [ck]
theorem step_lt (s b : Nat) : stepC s b < 65521 := Nat.mod_lt _ (by omega)
theorem ck_lt {s : Nat} (hs : s < 65521) (l : List Nat) : ck s l < 65521 := by
  induction l generalizing s with
  | nil => exact hs
  | cons a r ih => exact ih (step_lt s a)
end Ck
