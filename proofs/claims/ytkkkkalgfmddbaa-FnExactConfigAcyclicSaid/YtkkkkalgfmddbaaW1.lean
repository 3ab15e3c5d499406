/- The contracts of the leaves: literals and lists of literals. -/
import Derived.Test.YtkkkkalgfmddbaaRows
import Derived.Test.YtkkkkalgfmddbaaM
import Derived.WalkKit
import Derived.WalkSpells
import Derived.WalkLawsBesides
import Derived.Lib.Hide
namespace Go.Proofs.Ytkkkkalgfmddbaa
open Go.RowKit

def IntsAt (w : World) (B : Nat) (A : Option Addr) (xs : List Int) : Prop :=
  ∀ k, k < xs.length → ∃ b off, A = some ⟨b, off, none⟩ ∧ b < B ∧ w.cell? ⟨b, off + k, none⟩ = some (.int .i64 (xs.getD k 0))

theorem ret_int {k : IntKind} {a b : Int} (h : a = b) : Ending.returned (.int k a) = .returned (.int k b) := by rw [h]
theorem ret_bool {a b : Bool} (h : a = b) : Ending.returned (.bool a) = .returned (.bool b) := by rw [h]

set_option maxHeartbeats 400000 in
theorem var_any (a : Int) (w : World) :
    Calls Try.prog 164 #[.int .i64 a] w fun e w' => e = .returned (.int .i64 (a / 2)) ∧ w = w' := by
  go_enter Try.func164, Try.ntmps164
  go_wp2
  go_ret
  exact ⟨rfl, rfl⟩

set_option maxHeartbeats 400000 in
theorem refers_any (a c : Int) (w : World) :
    Calls Try.prog 146 #[.int .i64 a, .int .i64 c] w fun e w' => e = .returned (.bool (Circ.litOk a c)) ∧ w = w' := by
  by_cases h0 : 0 ≤ a / 2
  · by_cases h1 : a / 2 < c
    · have H := Lib.hid (Circ.litOk_t (v := a) (cnt := c) (by omega) (by omega))
      go_enter Try.func146, Try.ntmps146
      go_wp2
      go_ret
      exact ⟨ret_bool (by rw [H.out]), rfl⟩
    · have H := Lib.hid (Circ.litOk_f (v := a) (cnt := c) (by omega))
      go_enter Try.func146, Try.ntmps146
      go_wp2
      go_ret
      exact ⟨ret_bool (by rw [H.out]), rfl⟩
  · have H := Lib.hid (Circ.litOk_f (v := a) (cnt := c) (by omega))
    go_enter Try.func146, Try.ntmps146
    go_wp2
    go_ret
    exact ⟨ret_bool (by rw [H.out]), rfl⟩

set_option maxHeartbeats 400000 in
theorem allRefer_any (A : Option Addr) (cap : Nat) (xs : List Int) (c : Int) (B : Nat) (w : World) (hx : IntsAt w B A xs) (hl : xs.length ≤ maxLen) :
    Calls Try.prog 116 #[.slice A xs.length cap, .int .i64 c] w fun e w' => e = .returned (.bool (Circ.litsOk xs c)) ∧ w = w' := by
  unfold maxLen at hl
  have HX := Lib.hid hx
  clear hx
  generalize hn : xs.length = n at *
  have HN := Lib.hid hn
  clear hn
  go_enter Try.func116, Try.ntmps116
  go_wp2
  go_loop [9] (fun i => ∃ k : Nat, k ≤ n ∧ i = .int .i64 k ∧ Hid (Circ.litsOk (xs.take k) c = true)) (fun i => n - (intOf i).toNat)
  case atStart => exact ⟨0, Nat.zero_le _, rfl, Lib.hid (by simp [Circ.litsOk])⟩
  case round =>
    obtain ⟨k, hk, rfl, HR⟩ := hrel
    by_cases hlt : k < n
    · obtain ⟨b, off, rfl, _, hcell⟩ := HX.out k (by rw [HN.out]; exact hlt)
      have HS := Lib.hid (Circ.litsOk_snoc xs k c (by rw [HN.out]; exact hlt))
      have HF := Lib.hid (fun h => Circ.litsOk_f (xs := xs) (k := k) (cnt := c) (by rw [HN.out]; exact hlt) h)
      generalize xs.getD k 0 = v at *
      cases hv : Circ.litOk v c
      · have HV := Lib.hid hv
        clear hv
        go_wp2_with (go_at_call 146; refine (refers_any _ _ _).mono ?_; rintro e w' ⟨rfl, rfl⟩; rw [HV.out])
        go_ret
        exact ⟨ret_bool (HF.out HV.out).symm, rfl⟩
      · have HV := Lib.hid hv
        clear hv
        go_wp2_with (go_at_call 146; refine (refers_any _ _ _).mono ?_; rintro e w' ⟨rfl, rfl⟩; rw [HV.out])
        go_round
        case rel => exact ⟨k + 1, by omega, by go_num, Lib.hid (by rw [HS.out, HR.out, HV.out]; rfl)⟩
        case measure => simp [intOf]; omega
    · go_wp2
      go_ret
      exact ⟨ret_bool (Circ.litsOk_all (by rw [HN.out]; omega) HR.out).symm, rfl⟩

set_option maxHeartbeats 400000 in
theorem l1In_any (a c d : Int) (w : World) :
    Calls Try.prog 107 #[.int .i64 a, .int .i64 c, .int .i64 d] w fun e w' => e = .returned (.bool (Circ.inB a c d)) ∧ w = w' := by
  by_cases h0 : c ≤ a
  · by_cases h1 : a ≤ d
    · have H := Lib.hid (Circ.in_t h0 h1)
      go_enter Try.func107, Try.ntmps107
      go_wp2
      go_ret
      exact ⟨ret_bool H.out.symm, rfl⟩
    · have H := Lib.hid (Circ.in_f (a := a) (lo := c) (hi := d) (by omega))
      go_enter Try.func107, Try.ntmps107
      go_wp2
      go_ret
      exact ⟨ret_bool H.out.symm, rfl⟩
  · have H := Lib.hid (Circ.in_f (a := a) (lo := c) (hi := d) (by omega))
    go_enter Try.func107, Try.ntmps107
    go_wp2
    go_ret
    exact ⟨ret_bool H.out.symm, rfl⟩

set_option maxHeartbeats 400000 in
theorem l1Lits_any (A : Option Addr) (cap : Nat) (xs : List Int) (c : Int) (B : Nat) (w : World) (hx : IntsAt w B A xs) (hl : xs.length ≤ maxLen) (hc0 : 0 ≤ c) (hc1 : c ≤ 1000000) :
    Calls Try.prog 153 #[.slice A xs.length cap, .int .i64 c] w fun e w' => e = .returned (.bool (Circ.litsOk xs c)) ∧ w = w' := by
  unfold maxLen at hl
  have HX := Lib.hid hx
  clear hx
  generalize hn : xs.length = n at *
  have HN := Lib.hid hn
  clear hn
  go_enter Try.func153, Try.ntmps153
  go_wp2
  go_loop [5] (fun i => ∃ k : Nat, k ≤ n ∧ i = .int .i64 k ∧ Hid (Circ.litsOk (xs.take k) c = true)) (fun i => n - (intOf i).toNat)
  case atStart => exact ⟨0, Nat.zero_le _, rfl, Lib.hid (by simp [Circ.litsOk])⟩
  case round =>
    obtain ⟨k, hk, rfl, HR⟩ := hrel
    by_cases hlt : k < n
    · obtain ⟨b, off, rfl, _, hcell⟩ := HX.out k (by rw [HN.out]; exact hlt)
      have HS := Lib.hid (Circ.litsOk_snoc xs k c (by rw [HN.out]; exact hlt))
      have HF := Lib.hid (fun h => Circ.litsOk_f (xs := xs) (k := k) (cnt := c) (by rw [HN.out]; exact hlt) h)
      generalize xs.getD k 0 = v at *
      by_cases hv : 0 ≤ v ∧ v < 2 * c
      · have HV := Lib.hid (Circ.litOk_t hv.1 hv.2)
        have HD : Hid (Circ.inB v 0 (2 * c - 1) = true) := Lib.hid (Circ.in_t (by omega) (by omega))
        clear hv
        go_wp2_with (go_at_call 107; refine (l1In_any _ _ _ _).mono ?_; rintro e w' ⟨rfl, rfl⟩; rw [HD.out])
        go_round
        case rel => exact ⟨k + 1, by omega, by go_num, Lib.hid (by rw [HS.out, HR.out, HV.out]; rfl)⟩
        case measure => simp [intOf]; omega
      · have HV := Lib.hid (Circ.litOk_f (v := v) (cnt := c) (by omega))
        have HD : Hid (Circ.inB v 0 (2 * c - 1) = false) := Lib.hid (Circ.in_f (by omega))
        clear hv
        go_wp2_with (go_at_call 107; refine (l1In_any _ _ _ _).mono ?_; rintro e w' ⟨rfl, rfl⟩; rw [HD.out])
        go_ret
        exact ⟨ret_bool (HF.out HV.out).symm, rfl⟩
    · go_wp2
      go_ret
      exact ⟨ret_bool (Circ.litsOk_all (by rw [HN.out]; omega) HR.out).symm, rfl⟩

def circV (i : Int) (nA : Option Addr) (nl nc : Nat) (gA : Option Addr) (gl gc : Nat) (oA : Option Addr) (ol oc : Nat) : Array Value := #[.int .i64 i, .slice nA nl nc, .slice gA gl gc, .slice oA ol oc]

set_option maxHeartbeats 400000 in
theorem firstGate_any (i : Int) (nA gA oA : Option Addr) (nl nc gl gc ol oc : Nat) (w : World) (h0 : -100 ≤ i) (h1 : i ≤ 100) (h2 : nl ≤ 1000) :
    Calls Try.prog 115 #[.agg #[.int .i64 i, .slice nA nl nc, .slice gA gl gc, .slice oA ol oc]] w fun e w' => e = .returned (.int .i64 (1 + i + nl)) ∧ Below w.heap.size w w' := by
  go_enter Try.func115, Try.ntmps115
  go_wp2
  go_ret
  exact ⟨rfl, (Below.refl _ _).alloc (Nat.le_refl _) _⟩

set_option maxHeartbeats 400000 in
theorem l1First_any (i : Int) (nA gA oA : Option Addr) (nl nc gl gc ol oc : Nat) (w : World) (h0 : -100 ≤ i) (h1 : i ≤ 100) (h2 : nl ≤ 1000) :
    Calls Try.prog 152 #[.agg #[.int .i64 i, .slice nA nl nc, .slice gA gl gc, .slice oA ol oc]] w fun e w' => e = .returned (.int .i64 (1 + i + nl)) ∧ Below w.heap.size w w' := by
  go_enter Try.func152, Try.ntmps152
  go_wp2
  go_ret
  exact ⟨ret_int (by omega), (Below.refl _ _).alloc (Nat.le_refl _) _⟩

theorem l1Lits_two (a b c : Int) (bl off cap : Nat) (w : World) (ha : w.cell? ⟨bl, off, none⟩ = some (.int .i64 a)) (hb : w.cell? ⟨bl, off + 1, none⟩ = some (.int .i64 b)) (hc0 : 0 ≤ c) (hc1 : c ≤ 1000000) :
    Calls Try.prog 153 #[.slice (some ⟨bl, off, none⟩) 2 cap, .int .i64 c] w fun e w' => e = .returned (.bool (Circ.twoOk a b c)) ∧ w = w' := by
  rw [← Circ.lits_two]
  refine l1Lits_any (some ⟨bl, off, none⟩) cap [a, b] c (bl + 1) w (fun k hk => ⟨bl, off, rfl, by omega, ?_⟩) (by simp [maxLen]) hc0 hc1
  match k, hk with
  | 0, _ => exact ha
  | 1, _ => exact hb

set_option maxHeartbeats 400000 in
theorem within_any (i : Int) (nA gA oA : Option Addr) (nl nc gl gc ol oc : Nat) (w : World) :
    Calls Try.prog 113 #[.agg #[.int .i64 i, .slice nA nl nc, .slice gA gl gc, .slice oA ol oc]] w fun e w' => e = .returned (.bool (Circ.withinB i nl gl ol)) ∧ Below w.heap.size w w' := by
  by_cases h : 0 ≤ i ∧ i ≤ 4 ∧ nl ≤ 3 ∧ gl ≤ 14 ∧ ol ≤ 3
  · have H := Lib.hid (Circ.within_t h)
    obtain ⟨h0, h1, h2, h3, h4⟩ := h
    go_enter Try.func113, Try.ntmps113
    go_wp2
    go_ret
    exact ⟨ret_bool (by rw [H.out] <;> first | rfl | (simp; omega)), (Below.refl _ _).alloc (Nat.le_refl _) _⟩
  · have H := Lib.hid (Circ.within_f h)
    by_cases h0 : 0 ≤ i
    · by_cases h1 : i ≤ 4
      · by_cases h2 : nl ≤ 3
        · by_cases h3 : gl ≤ 14
          · have h4 : ¬ ol ≤ 3 := fun h4 => h ⟨h0, h1, h2, h3, h4⟩
            clear h
            go_enter Try.func113, Try.ntmps113
            go_wp2
            go_ret
            exact ⟨ret_bool (by rw [H.out] <;> first | rfl | (simp; omega)), (Below.refl _ _).alloc (Nat.le_refl _) _⟩
          · clear h
            go_enter Try.func113, Try.ntmps113
            go_wp2
            go_ret
            exact ⟨ret_bool (by rw [H.out] <;> first | rfl | (simp; omega)), (Below.refl _ _).alloc (Nat.le_refl _) _⟩
        · clear h
          go_enter Try.func113, Try.ntmps113
          go_wp2
          go_ret
          exact ⟨ret_bool (by rw [H.out] <;> first | rfl | (simp; omega)), (Below.refl _ _).alloc (Nat.le_refl _) _⟩
      · clear h
        go_enter Try.func113, Try.ntmps113
        go_wp2
        go_ret
        exact ⟨ret_bool (by rw [H.out] <;> first | rfl | (simp; omega)), (Below.refl _ _).alloc (Nat.le_refl _) _⟩
    · clear h
      go_enter Try.func113, Try.ntmps113
      go_wp2
      go_ret
      exact ⟨ret_bool (by rw [H.out] <;> first | rfl | (simp; omega)), (Below.refl _ _).alloc (Nat.le_refl _) _⟩
end Go.Proofs.Ytkkkkalgfmddbaa
