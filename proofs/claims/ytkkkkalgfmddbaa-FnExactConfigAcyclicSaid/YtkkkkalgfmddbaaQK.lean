/- Plain mathematics of checksums: one byte changed changes the sum. -/
import Derived.Test.YtkkkkalgfmddbaaQP
namespace Ck
def stepC (s b : Nat) : Nat := (s * 257 + b + 1) % 65521
def ck (s : Nat) (l : List Nat) : Nat := l.foldl stepC s
theorem ck_snoc (s : Nat) (l : List Nat) (b : Nat) : ck s (l ++ [b]) = stepC (ck s l) b := by simp [ck]
theorem ck_app (s : Nat) (a b : List Nat) : ck s (a ++ b) = ck (ck s a) b := by simp [ck]
theorem step_lt (s b : Nat) : stepC s b < 65521 := Nat.mod_lt _ (by omega)
theorem step_inj {s s' b : Nat} (h : s < 65521) (h' : s' < 65521) (e : stepC s b = stepC s' b) : s = s' := by
  unfold stepC at e
  omega
theorem step_byte {s b b' : Nat} (h : b < 256) (h' : b' < 256) (e : stepC s b = stepC s b') : b = b' := by
  unfold stepC at e
  omega
theorem ck_lt {s : Nat} (hs : s < 65521) (l : List Nat) : ck s l < 65521 := by
  induction l generalizing s with
  | nil => exact hs
  | cons a r ih => exact ih (step_lt s a)
theorem ck_inj (l : List Nat) {s s' : Nat} (h : s < 65521) (h' : s' < 65521) (e : ck s l = ck s' l) : s = s' := by
  induction l generalizing s s' with
  | nil => exact e
  | cons a r ih => exact step_inj h h' (ih (step_lt s a) (step_lt s' a) e)
theorem ck_set {l : List Nat} {i b : Nat} {s : Nat} (hs : s < 65521) (hi : i < l.length) (hb : b < 256) (hl : l.getD i 0 < 256) (hne : b ≠ l.getD i 0) : ck s (l.set i b) ≠ ck s l := by
  induction l generalizing i s with
  | nil => simp at hi
  | cons a r ih =>
    cases i with
    | zero =>
      intro e
      have e2 : ck (stepC s b) r = ck (stepC s a) r := e
      have e3 := ck_inj r (step_lt s b) (step_lt s a) e2
      exact hne (step_byte hb hl e3)
    | succ j =>
      have hi' : j < r.length := by simpa using hi
      exact ih (step_lt s a) hi' hl hne
end Ck
