/- The contracts of the library's comparison of lists, and of its search among sorted lists. -/
import Derived.Test.YthcpgbfghededaaC7
namespace Cut
/-- The order of lists: negative, zero or positive. -/
def lexC : List Nat → List Nat → Int
  | [], [] => 0
  | [], _ :: _ => -1
  | _ :: _, [] => 1
  | x :: xs, y :: ys => if x < y then -1 else if y < x then 1 else lexC xs ys
theorem lexC_lt {x y : Nat} (xs ys : List Nat) (h : x < y) : lexC (x :: xs) (y :: ys) = -1 := by rw [lexC, if_pos h]
theorem lexC_gt {x y : Nat} (xs ys : List Nat) (h : y < x) : lexC (x :: xs) (y :: ys) = 1 := by rw [lexC, if_neg (by omega), if_pos h]
theorem lexC_same (x : Nat) (xs ys : List Nat) : lexC (x :: xs) (x :: ys) = lexC xs ys := by rw [lexC, if_neg (by omega), if_neg (by omega)]
theorem lexC_eq : ∀ (a b : List Nat), lexC a b = 0 ↔ a = b
  | [], [] => by simp [lexC]
  | [], _ :: _ => by simp [lexC]
  | _ :: _, [] => by simp [lexC]
  | x :: xs, y :: ys => by
    rcases Nat.lt_trichotomy x y with h | h | h
    · rw [lexC_lt _ _ h]; simp; omega
    · subst h; rw [lexC_same, lexC_eq xs ys]; simp
    · rw [lexC_gt _ _ h]; simp; omega
theorem lexC_anti : ∀ (a b : List Nat), lexC b a = - lexC a b
  | [], [] => by simp [lexC]
  | [], _ :: _ => by simp [lexC]
  | _ :: _, [] => by simp [lexC]
  | x :: xs, y :: ys => by
    rcases Nat.lt_trichotomy x y with h | h | h
    · rw [lexC_lt _ _ h, lexC_gt _ _ h]; rfl
    · subst h; rw [lexC_same, lexC_same]; exact lexC_anti xs ys
    · rw [lexC_gt _ _ h, lexC_lt _ _ h]
theorem lexC_trans : ∀ (a b c : List Nat), lexC a b < 0 → lexC b c < 0 → lexC a c < 0
  | [], [], c, h, _ => by simp [lexC] at h
  | _ :: _, [], c, h, _ => by simp [lexC] at h
  | [], _ :: _, [], _, h => by simp [lexC] at h
  | [], _ :: _, _ :: _, _, _ => by simp [lexC]
  | _ :: _, _ :: _, [], _, h => by simp [lexC] at h
  | x :: xs, y :: ys, z :: zs, h1, h2 => by
    rcases Nat.lt_trichotomy x y with h | h | h
    · rcases Nat.lt_trichotomy y z with h' | h' | h'
      · rw [lexC_lt _ _ (by omega)]; decide
      · subst h'; rw [lexC_lt _ _ h]; decide
      · rw [lexC_gt _ _ h'] at h2; omega
    · subst h
      rcases Nat.lt_trichotomy x z with h' | h' | h'
      · rw [lexC_lt _ _ h']; decide
      · subst h'
        rw [lexC_same] at h1 h2 ⊢
        exact lexC_trans xs ys zs h1 h2
      · rw [lexC_gt _ _ h'] at h2; omega
    · rw [lexC_gt _ _ h] at h1; omega
/-- Strictly sorted. -/
def LS (K : Cs) : Prop := ∀ i j, i < j → j < K.length → lexC (K.getD i []) (K.getD j []) < 0
/-- How many lists precede x; whether x is there. -/
structure Pos (K : Cs) (x : List Nat) (p : Nat) : Prop where
  le : p ≤ K.length
  lo : ∀ t, t < p → lexC (K.getD t []) x < 0
  hi : ∀ t, p ≤ t → t < K.length → 0 ≤ lexC (K.getD t []) x
theorem Pos.found {K : Cs} {x : List Nat} {p : Nat} (h : Pos K x p) (hs : LS K) : (p < K.length ∧ lexC (K.getD p []) x = 0) ↔ x ∈ K := by
  constructor
  · rintro ⟨h1, h2⟩
    rw [lexC_eq] at h2
    rw [← h2, List.getD_eq_getElem?_getD, List.getElem?_eq_getElem h1]
    exact List.getElem_mem h1
  · intro hm
    obtain ⟨t, ht, e⟩ := List.mem_iff_getElem.1 hm
    have e' : K.getD t [] = x := by rw [List.getD_eq_getElem?_getD, List.getElem?_eq_getElem ht]; exact e
    have h0 : lexC (K.getD t []) x = 0 := by rw [e', lexC_eq]
    have hpt : p ≤ t := by
      rcases Nat.lt_or_ge t p with h1 | h1
      · have := h.lo t h1; omega
      · exact h1
    rcases Nat.lt_or_ge p t with h1 | h1
    · have h2 := hs p t h1 ht
      rw [e'] at h2
      have := h.hi p (Nat.le_refl _) (by omega)
      omega
    · obtain rfl : p = t := by omega
      exact ⟨ht, h0⟩
theorem getD_ins {α : Type} (K : List α) (x d : α) (p t : Nat) (hp : p ≤ K.length) : (K.take p ++ [x] ++ K.drop p).getD t d = if t < p then K.getD t d else if t = p then x else K.getD (t - 1) d := by
  simp only [List.getD_eq_getElem?_getD, List.append_assoc]
  split
  · next h => rw [List.getElem?_append_left (by simp; omega), List.getElem?_take, if_pos h]
  · next h =>
    rw [List.getElem?_append_right (by simp; omega)]
    have e : (K.take p).length = p := by simp; omega
    rw [e]
    split
    · next h2 => subst h2; simp
    · next h2 =>
      obtain ⟨q, hq⟩ : ∃ q, t - p = q + 1 := ⟨t - p - 1, by omega⟩
      rw [hq]
      simp
      congr 2
      omega
theorem Pos.ins {K : Cs} {x : List Nat} {p : Nat} (h : Pos K x p) (hs : LS K) (hx : x ∉ K) : LS (K.take p ++ [x] ++ K.drop p) := by
  intro i j hij hj
  have hp := h.le
  have hl : (K.take p ++ [x] ++ K.drop p).length = K.length + 1 := by simp; omega
  rw [hl] at hj
  have hgt : ∀ t, p ≤ t → t < K.length → lexC x (K.getD t []) < 0 := fun t h1 h2 => by
    have h3 := h.hi t h1 h2
    have h4 : lexC (K.getD t []) x ≠ 0 := fun e => by
      rw [lexC_eq] at e
      apply hx
      rw [← e, List.getD_eq_getElem?_getD, List.getElem?_eq_getElem h2]
      exact List.getElem_mem h2
    rw [lexC_anti (K.getD t []) x]
    omega
  rw [getD_ins K x [] p i hp, getD_ins K x [] p j hp]
  by_cases h1 : j < p
  · rw [if_pos (by omega), if_pos h1]; exact hs i j hij (by omega)
  · rw [if_neg h1]
    by_cases h2 : j = p
    · rw [if_pos h2, if_pos (by omega)]; exact h.lo i (by omega)
    · rw [if_neg h2]
      by_cases h3 : i < p
      · rw [if_pos h3]; exact hs i (j - 1) (by omega) (by omega)
      · rw [if_neg h3]
        by_cases h4 : i = p
        · rw [if_pos h4]; exact hgt (j - 1) (by omega) (by omega)
        · rw [if_neg h4]; exact hs (i - 1) (j - 1) (by omega) (by omega)
theorem ins_mem {K : Cs} {x : List Nat} {p : Nat} (z : List Nat) : z ∈ K.take p ++ [x] ++ K.drop p ↔ z ∈ K ∨ z = x := by
  have : z ∈ K ↔ z ∈ K.take p ∨ z ∈ K.drop p := by rw [← List.mem_append, List.take_append_drop]
  simp only [List.mem_append, List.mem_singleton, this]
  constructor
  · rintro ((h | h) | h)
    · exact .inl (.inl h)
    · exact .inr h
    · exact .inl (.inr h)
  · rintro ((h | h) | h)
    · exact .inl (.inl h)
    · exact .inr h
    · exact .inl (.inr h)
end Cut
namespace Go.Proofs.Ythcpgbfghededaa
open Go.RowKit Go.Deep Cut

theorem lex_end {xs ys : List Nat} {i : Nat} (hi : i < xs.length) (hj : ys.length ≤ i) : lexC (xs.drop i) (ys.drop i) = 1 := by
  rw [drop_get hi, List.drop_of_length_le hj]; rfl
theorem lex_at {xs ys : List Nat} {i : Nat} (hi : i < xs.length) (hj : i < ys.length) : lexC (xs.drop i) (ys.drop i) = if xs.getD i 0 < ys.getD i 0 then -1 else if ys.getD i 0 < xs.getD i 0 then 1 else lexC (xs.drop (i + 1)) (ys.drop (i + 1)) := by
  rw [drop_get hi, drop_get hj, lexC]
theorem lex_fin {xs ys : List Nat} {i : Nat} (hi : xs.length ≤ i) : lexC (xs.drop i) (ys.drop i) = if i < ys.length then -1 else 0 := by
  rw [List.drop_of_length_le hi]
  split
  · next h => rw [drop_get h]; rfl
  · next h => rw [List.drop_of_length_le (by omega)]; rfl

set_option maxHeartbeats 1000000 in
theorem compare_any (A A' : Option Addr) (n m cap cap' B : Nat) (xs ys : List Nat) (w : World) (hx : IntsAt w B A (Opt.intL xs)) (hy : IntsAt w B A' (Opt.intL ys)) (hn : xs.length = n) (hm : ys.length = m) (hnb : n ≤ 1000) (_ : m ≤ 1000) :
    Calls Try.prog 114 #[.slice A n cap, .slice A' m cap'] w fun e w' => e = .returned (.int .i64 (lexC xs ys)) ∧ w = w' := by
  have HX := Lib.hid hx
  have HY := Lib.hid hy
  have HN := Lib.hid hn
  have HM := Lib.hid hm
  clear hx hy hn hm
  go_enter Try.func114, Try.ntmps114
  go_wp2
  go_loop [11] (fun iv => ∃ i : Nat, i ≤ n ∧ iv = .int .i64 i ∧ i ≤ m ∧ Hid (lexC (xs.drop i) (ys.drop i) = lexC xs ys)) (fun iv => n - (intOf iv).toNat)
  case atStart => exact ⟨0, Nat.zero_le _, rfl, Nat.zero_le _, Lib.hid (by simp)⟩
  case round =>
    obtain ⟨i, hi, rfl, him, HI⟩ := hrel
    by_cases hin : i < n
    · obtain ⟨b, off, rfl, hbl, hcA⟩ := HX.out i (by rw [Opt.intL_len, HN.out]; exact hin)
      rw [Opt.intL_at] at hcA
      by_cases hjm : i < m
      · obtain ⟨b', off', rfl, hbl', hcB⟩ := HY.out i (by rw [Opt.intL_len, HM.out]; exact hjm)
        rw [Opt.intL_at] at hcB
        have HS := Lib.hid (lex_at (xs := xs) (ys := ys) (i := i) (by rw [HN.out]; exact hin) (by rw [HM.out]; exact hjm))
        generalize xs.getD i 0 = x at *
        generalize ys.getD i 0 = y at *
        rcases Nat.lt_trichotomy x y with hxy | hxy | hxy
        · have HE : Hid (lexC xs ys = -1) := Lib.hid (by rw [← HI.out, HS.out, if_pos hxy])
          have HC : Hid (Lib.compareInt (x : Int) (y : Int) = -1) := Lib.hid (by unfold Lib.compareInt; rw [if_pos (by omega)])
          clear HS
          go_wp2_with (go_at_call 105; refine (cmpCompare_any _ _ _).mono ?_; rintro e w' ⟨rfl, hw⟩; obtain rfl := hw.symm; clear hw; rw [HC.out])
          go_ret
          exact ⟨ret_int HE.out.symm, rfl⟩
        · subst hxy
          have HE : Hid (lexC (xs.drop (i + 1)) (ys.drop (i + 1)) = lexC xs ys) := Lib.hid (by rw [← HI.out, HS.out, if_neg (by omega), if_neg (by omega)])
          have HC : Hid (Lib.compareInt (x : Int) (x : Int) = 0) := Lib.hid (by unfold Lib.compareInt; rw [if_neg (by omega), if_neg (by omega)])
          clear HS
          go_wp2_with (go_at_call 105; refine (cmpCompare_any _ _ _).mono ?_; rintro e w' ⟨rfl, hw⟩; obtain rfl := hw.symm; clear hw; rw [HC.out])
          go_round
          case rel => exact ⟨i + 1, by omega, by go_num, by omega, HE⟩
          case measure => simp [intOf]; omega
        · have HE : Hid (lexC xs ys = 1) := Lib.hid (by rw [← HI.out, HS.out, if_neg (by omega), if_pos hxy])
          have HC : Hid (Lib.compareInt (x : Int) (y : Int) = 1) := Lib.hid (by unfold Lib.compareInt; rw [if_neg (by omega), if_pos (by omega)])
          clear HS
          go_wp2_with (go_at_call 105; refine (cmpCompare_any _ _ _).mono ?_; rintro e w' ⟨rfl, hw⟩; obtain rfl := hw.symm; clear hw; rw [HC.out])
          go_ret
          exact ⟨ret_int HE.out.symm, rfl⟩
      · have HE : Hid (lexC xs ys = 1) := Lib.hid (by rw [← HI.out, lex_end (by rw [HN.out]; exact hin) (by rw [HM.out]; omega)])
        go_wp2
        go_ret
        exact ⟨ret_int HE.out.symm, rfl⟩
    · obtain rfl : i = n := by omega
      by_cases hjm : i < m
      · have HE : Hid (lexC xs ys = -1) := Lib.hid (by rw [← HI.out, lex_fin (by rw [HN.out]; exact Nat.le_refl _), if_pos (by rw [HM.out]; exact hjm)])
        go_wp2
        go_ret
        exact ⟨ret_int HE.out.symm, rfl⟩
      · have HE : Hid (lexC xs ys = 0) := Lib.hid (by rw [← HI.out, lex_fin (by rw [HN.out]; exact Nat.le_refl _), if_neg (by rw [HM.out]; exact hjm)])
        go_wp2
        go_ret
        exact ⟨ret_int HE.out.symm, rfl⟩
end Go.Proofs.Ythcpgbfghededaa
