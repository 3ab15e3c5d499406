/- The contracts of trueFromLeaves and lutTable. -/
import Derived.Test.YtkkkkalgfmddbaaQD
import Derived.Test.YtkkkkalgfmddbaaB1
import Derived.Test.YtkkkkalgfmddbaaCL
import Derived.Test.YtkkkkalgfmddbaaT3
import Derived.Deep.DeepCutAuto
import Derived.Test.YtkkkkalgfmddbaaC4
import Derived.Test.YtkkkkalgfmddbaaM5
import Derived.Test.YtkkkkalgfmddbaaEL
namespace Go.Proofs.Ytkkkkalgfmddbaa
open Go.RowKit Go.Deep Cut

theorem contains_v (A : Option Addr) (m c B : Nat) (lv : List Nat) (y : Nat) (w : World) (h : IntsAt w B A (Opt.intL lv)) (hm : lv.length = m) (hb : m ≤ 1000) :
    Calls Try.prog 149 #[.slice A m c, .int .i64 y] w fun e w' => e = .returned (.bool (lv.contains y)) ∧ w' = w := by
  subst hm
  cases lv with
  | nil => exact contains_none A c y w
  | cons a r =>
    obtain ⟨b, off, rfl, _, _⟩ := h 0 (by rw [Opt.intL_len]; simp)
    have e : (((Opt.intL (a :: r)).take (a :: r).length).contains (y : Int)) = (a :: r).contains y := by
      rw [List.take_of_length_le (by rw [Opt.intL_len]; exact Nat.le_refl _), Bool.eq_iff_iff, List.contains_iff_mem, List.contains_iff_mem]
      unfold Opt.intL
      rw [List.mem_map]
      exact ⟨fun ⟨z, hz, e⟩ => by obtain rfl : z = y := by omega
                                  exact hz, fun hz => ⟨y, hz, rfl⟩⟩
    rw [← e]
    exact contains_any b off _ c (Opt.intL (a :: r)) y w (by rw [Opt.intL_len]; exact Nat.le_refl _) (by omega) (fun j hj => by
      obtain ⟨b', off', e', _, hc⟩ := h j hj
      injection e' with e'
      injection e' with e1 e2
      subst e1 e2
      exact hc)
theorem int_bit (x k : Nat) (hx : x < 9223372036854775808) : (bits .and .i64 ((x : Int) / 2 ^ k) 1 == 1) = x.testBit k := by
  have h : (x : Int) / 2 ^ k = ((x / 2 ^ k : Nat) : Int) := by simp
  rw [h, i64_odd _ (Nat.lt_of_le_of_lt (Nat.div_le_self _ _) hx), Nat.testBit_eq_decide_div_mod_eq]
  rcases Nat.mod_two_eq_zero_or_one (x / 2 ^ k) with e | e <;> rw [e] <;> rfl
/-- A word as the list of its bits. -/
theorem bits_all (m : Nat) (hm : m < 18446744073709551616) : Circ.Bits m ((List.range 64).map m.testBit) := by
  refine ⟨hm, fun j => ?_⟩
  by_cases h : j < 64
  · rw [range_getD _ _ h]
  · rw [getD_out _ _ (by simpa using h)]
    exact Nat.testBit_lt_two_pow (Nat.lt_of_lt_of_le hm (by
      have : 2 ^ 64 ≤ 2 ^ j := Nat.pow_le_pow_right (by omega) (by omega)
      omega))
end Go.Proofs.Ytkkkkalgfmddbaa
/- The contract of lutTable. -/
namespace Go.Proofs.Ytkkkkalgfmddbaa
open Go.RowKit Go.Deep Cut

theorem i64_or_n (a b : Nat) (ha : a < 4611686018427387904) (hb : b < 4611686018427387904) : bits .or .i64 (a : Int) (b : Int) = ((a ||| b : Nat) : Int) := by
  have h1 : (BitVec.ofInt 64 (a : Int)).toNat = a := by rw [BitVec.ofInt_natCast, BitVec.toNat_ofNat]; exact Nat.mod_eq_of_lt (by omega)
  have h2 : (BitVec.ofInt 64 (b : Int)).toNat = b := by rw [BitVec.ofInt_natCast, BitVec.toNat_ofNat]; exact Nat.mod_eq_of_lt (by omega)
  show IntKind.i64.wrap ((BitVec.ofInt 64 (a : Int) ||| BitVec.ofInt 64 (b : Int)).toNat : Int) = _
  have h3 : a ||| b < 2 ^ 62 := Nat.or_lt_two_pow (n := 62) (by omega) (by omega)
  rw [BitVec.toNat_or, h1, h2, IntKind.wrap_i64]
  omega

end Go.Proofs.Ytkkkkalgfmddbaa
/- The contract of neededVars. -/
namespace Go.Proofs.Ytkkkkalgfmddbaa
open Go.RowKit Go.Deep Cut

end Go.Proofs.Ytkkkkalgfmddbaa
/- The contract of the program's MapLuts. -/
namespace Go.Proofs.Ytkkkkalgfmddbaa
open Go.RowKit Go.Deep Cut

theorem below_up {B N g : Nat} {w w' : World} (h : Below B w w') (hg : N ≤ g) (hs : N ≤ w.heap.size) (hk : ∀ b, b < w.heap.size → b ≠ g → w'.heap[b]? = w.heap[b]?) : Below N w w' :=
  ⟨h.os, h.tape, h.output, h.size, fun k hk' => hk k (by omega) (by omega)⟩
/-- Every slice of hs is one of the first n cells. -/
def FromC (cells : Array Value) (n : Nat) (hs : List Value) : Prop := ∀ u, u ∈ hs → ∀ b, vblk u = some b → ∃ v, v < n ∧ cells[v]? = some u
theorem FromC.more {cells : Array Value} {n n' : Nat} {hs : List Value} (h : FromC cells n hs) (hn : n ≤ n') : FromC cells n' hs := fun u hu b hb => by
  obtain ⟨v, h1, h2⟩ := h u hu b hb
  exact ⟨v, by omega, h2⟩
theorem FromC.push {cells : Array Value} {n : Nat} {hs : List Value} (h : FromC cells n hs) {u : Value} (hu : cells[n]? = some u) (a t : Int) : FromC cells (n + 1) (hs ++ [.int .i64 a, u, .int .i64 t]) := fun x hx b hb => by
  rcases List.mem_append.1 hx with hx | hx
  · obtain ⟨v, h1, h2⟩ := h x hx b hb
    exact ⟨v, by omega, h2⟩
  · simp at hx
    rcases hx with rfl | rfl | rfl
    · cases hb
    · exact ⟨n, by omega, hu⟩
    · cases hb
theorem DistH.push3 {cells : Array Value} {n : Nat} {hs : List Value} (h : DistH hs) (hd : DistH cells.toList) (hf : FromC cells n hs) {u : Value} (hu : cells[n]? = some u) (a t : Int) : DistH (hs ++ [.int .i64 a, u, .int .i64 t]) := by
  intro j k hjk x y hx hy b hb hb'
  have hk := (List.getElem?_eq_some_iff.1 hy).1
  simp at hk
  have hj := (List.getElem?_eq_some_iff.1 hx).1
  by_cases e : k < hs.length
  · rw [List.getElem?_append_left e] at hy
    rw [List.getElem?_append_left (by omega)] at hx
    exact h j k hjk x y hx hy b hb hb'
  · rw [List.getElem?_append_right (by omega)] at hy
    obtain ⟨d, hd'⟩ : ∃ d, k - hs.length = d := ⟨_, rfl⟩
    rw [hd'] at hy
    match d, hd' with
    | 0, _ => simp at hy; subst hy; cases hb'
    | 1, hd' =>
      simp at hy
      subst hy
      by_cases e2 : j < hs.length
      · rw [List.getElem?_append_left e2] at hx
        obtain ⟨v, h1, h2⟩ := hf x (List.mem_of_getElem? hx) b hb
        exact hd v n h1 x u (by rw [Array.getElem?_toList]; exact h2) (by rw [Array.getElem?_toList]; exact hu) b hb hb'
      · rw [List.getElem?_append_right (by omega), show j - hs.length = 0 by omega] at hx
        simp at hx; subst hx; cases hb
    | 2, _ => simp at hy; subst hy; cases hb'
    | d + 3, hd' => omega

end Go.Proofs.Ytkkkkalgfmddbaa
