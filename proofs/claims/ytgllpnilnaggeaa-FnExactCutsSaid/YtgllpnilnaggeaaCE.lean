/- The contracts of comparison and marks of lists of cuts. -/
import Derived.Test.YtgllpnilnaggeaaCD
import Derived.Test.YtgllpnilnaggeaaW6
namespace Go.Proofs.Ytgllpnilnaggeaa
open Go.RowKit Go.Deep Cut

theorem eqI_n (A A' : Option Addr) (n cap cap' : Nat) (xs : List Nat) (w : World) (hx : IntsAt w w.heap.size A (Opt.intL xs)) (hy : IntsAt w w.heap.size A' (Opt.intL xs)) (hn : xs.length = n) (hl : n ≤ 2000000) :
    Calls Try.prog 62 #[.slice A n cap, .slice A' n cap'] w fun e w' => e = .returned (.bool true) ∧ Below w.heap.size w w' := by
  have h : (Opt.intL xs).length = n := by rw [Opt.intL_len]; exact hn
  subst h
  exact eqIntS_any A A' cap cap' (Opt.intL xs) w hx hy hl
set_option maxHeartbeats 400000 in
theorem eqSS_any (A A' : Option Addr) (n cap cap' : Nat) (xs : Cs) (w : World) (hx : ListAt w w.heap.size A xs) (hy : ListAt w w.heap.size A' xs) (hn : xs.length = n) (hl : n ≤ 1000) (hr : ∀ k, k < n → (xs.getD k []).length ≤ 1000) :
    Calls Try.prog 61 #[.slice A n cap, .slice A' n cap'] w fun e w' => e = .returned (.bool true) ∧ Below w.heap.size w w' := by
  have HX := Lib.hid hx
  have HY := Lib.hid hy
  have HN := Lib.hid hn
  have HT := Lib.hid hr
  clear hx hy hn hr
  go_enter Try.func61, Try.ntmps61
  go_wp2
  go_loopw [5] (fun iv wr => ∃ (k : Nat), k ≤ n ∧ iv = .int .i64 k ∧ Below w.heap.size w wr) (fun iv _ => n - (intOf iv).toNat)
  case atStart => exact ⟨0, Nat.zero_le _, rfl, Below.refl _ _⟩
  case round =>
    obtain ⟨k, hk, rfl, hbr⟩ := hrel
    by_cases hlt : k < n
    · obtain ⟨b, off, rfl, hbl, B1, c1, hcA, hbA⟩ := HX.out k (by rw [HN.out]; exact hlt)
      obtain ⟨b', off', rfl, hbl', B2, c2, hcB, hbB⟩ := HY.out k (by rw [HN.out]; exact hlt)
      rw [← hbr.cell (by exact hbl)] at hcA
      rw [← hbr.cell (by exact hbl')] at hcB
      have HBA := Lib.hid (((IntsIn.at2 (B := w.heap.size) hbA (fun _ h => h)).below hbr).mono hbr.size)
      have HBB := Lib.hid (((IntsIn.at2 (B := w.heap.size) hbB (fun _ h => h)).below hbr).mono hbr.size)
      have htk := HT.out k hlt
      clear hbA hbB
      generalize xs.getD k [] = r at *
      have hk0 : (0 : Int) ≤ (k : Int) := Int.natCast_nonneg _
      have hk1 : (k : Int) < (n : Int) := by omega
      have hz := hbr.size
      go_wp2
      go_region_held3 (fun w' => w'.cell? ⟨b, off + k, none⟩ = some (.slice B1 r.length c1) ∧ w'.cell? ⟨b', off' + k, none⟩ = some (.slice B2 r.length c2))
        (first | go_keep | (refine ⟨?_, ?_⟩ <;> (rw [hc3 _ _ (by simp; omega)]; simp [*])))
        (first | (go_at_call 62; refine (eqI_n B1 B2 r.length c1 c2 r _ ?_ ?_ rfl ?_).mono ?_; (exact HBA.out.below (Below.refl _ wr).drew); (exact HBB.out.below (Below.refl _ wr).drew); (omega); rintro e w3 ⟨rfl, hb3⟩; obtain ⟨hc3, hf3⟩ := bcell hb3))
      clear hc3 hf3
      go_wp2
      go_roundw
      case rel => exact ⟨k + 1, by omega, by go_num, hbr.drew.trans (hb3.mono hbr.size)⟩
      case measure => simp [intOf]; omega
    · go_wp2
      go_ret
      exact ⟨rfl, hbr⟩
set_option maxHeartbeats 400000 in
theorem eqSSS_any (A A' : Option Addr) (n cap cap' : Nat) (xs : List Cs) (w : World) (hx : CutsAt w w.heap.size A xs) (hy : CutsAt w w.heap.size A' xs) (hn : xs.length = n) (hl : n ≤ 1000) (hr : ∀ k, k < n → (xs.getD k []).length ≤ 1000 ∧ ∀ j, j < (xs.getD k []).length → ((xs.getD k []).getD j []).length ≤ 1000) :
    Calls Try.prog 29 #[.slice A n cap, .slice A' n cap'] w fun e w' => e = .returned (.bool true) ∧ Below w.heap.size w w' := by
  have HX := Lib.hid hx
  have HY := Lib.hid hy
  have HN := Lib.hid hn
  have HT := Lib.hid hr
  clear hx hy hn hr
  go_enter Try.func29, Try.ntmps29
  go_wp2
  go_loopw [5] (fun iv wr => ∃ (k : Nat), k ≤ n ∧ iv = .int .i64 k ∧ Below w.heap.size w wr) (fun iv _ => n - (intOf iv).toNat)
  case atStart => exact ⟨0, Nat.zero_le _, rfl, Below.refl _ _⟩
  case round =>
    obtain ⟨k, hk, rfl, hbr⟩ := hrel
    by_cases hlt : k < n
    · obtain ⟨b, off, rfl, hbl, B1, c1, hcA, hbA⟩ := HX.out k (by rw [HN.out]; exact hlt)
      obtain ⟨b', off', rfl, hbl', B2, c2, hcB, hbB⟩ := HY.out k (by rw [HN.out]; exact hlt)
      rw [← hbr.cell (by exact hbl)] at hcA
      rw [← hbr.cell (by exact hbl')] at hcB
      have HBA := Lib.hid (((ListIn.at2 (B := w.heap.size) hbA (fun _ h => h)).below hbr).mono hbr.size)
      have HBB := Lib.hid (((ListIn.at2 (B := w.heap.size) hbB (fun _ h => h)).below hbr).mono hbr.size)
      have HTK := Lib.hid (HT.out k hlt)
      clear hbA hbB
      generalize xs.getD k [] = r at *
      have hrl := HTK.out.1
      have hk0 : (0 : Int) ≤ (k : Int) := Int.natCast_nonneg _
      have hk1 : (k : Int) < (n : Int) := by omega
      have hz := hbr.size
      go_wp2
      go_region_held3 (fun w' => w'.cell? ⟨b, off + k, none⟩ = some (.slice B1 r.length c1) ∧ w'.cell? ⟨b', off' + k, none⟩ = some (.slice B2 r.length c2))
        (first | go_keep | (refine ⟨?_, ?_⟩ <;> (rw [hc3 _ _ (by simp; omega)]; simp [*])))
        (first | (go_at_call 61; refine (eqSS_any B1 B2 r.length c1 c2 r _ ?_ ?_ rfl ?_ ?_).mono ?_; (exact HBA.out.below (Below.refl _ wr).drew); (exact HBB.out.below (Below.refl _ wr).drew); (omega); (exact HTK.out.2); rintro e w3 ⟨rfl, hb3⟩; obtain ⟨hc3, hf3⟩ := bcell hb3))
      clear hc3 hf3
      go_wp2
      go_roundw
      case rel => exact ⟨k + 1, by omega, by go_num, hbr.drew.trans (hb3.mono hbr.size)⟩
      case measure => simp [intOf]; omega
    · go_wp2
      go_ret
      exact ⟨rfl, hbr⟩

/-- The first n cells bear marks from k on. -/
def MarksC (cs : Array Value) (k n : Nat) : Prop := ∀ t, t < n → cs[t]? = some (.int .i64 ((k + t : Nat) : Int))
set_option maxHeartbeats 400000 in
theorem markLeaf_any (g n cap k : Nat) (cs : Array Value) (w : World) (hr : Row w g 3 cs) (hs : n ≤ cs.size) (hn : n ≤ 2000000) (hk : k ≤ 1000000000) :
    Calls Try.prog 64 #[.slice (some ⟨g, 0, none⟩) n cap, .int .i64 k] w fun e w' => e = .returned (.int .i64 ((k + n : Nat) : Int)) ∧ (∃ cs', Row w' g 3 cs' ∧ cs'.size = cs.size ∧ MarksC cs' k n) ∧ Only (some g) w w' := by
  have HR0 := Lib.hid hr
  clear hr
  generalize hcz : cs.size = z at *
  have HCZ := Lib.hid hcz
  clear hcz
  go_enter Try.func64, Try.ntmps64
  go_wp2
  go_loopw [1, 5] (fun kv iv wr => ∃ (i : Nat) (cs : Array Value), i ≤ n ∧ iv = .int .i64 i ∧ kv = .int .i64 ((k : Int) + i) ∧ Hid (Row wr g 3 cs) ∧ Hid (cs.size = z) ∧ Hid (MarksC cs k i) ∧ Hid (Only (some g) w wr)) (fun _ iv _ => n - (intOf iv).toNat)
  case atStart => exact ⟨0, cs, Nat.zero_le _, rfl, by simp, HR0, HCZ, Lib.hid (fun t ht => absurd ht (by omega)), Lib.hid (Only.refl _ _)⟩
  case round =>
    clear HR0 HCZ cs
    obtain ⟨i, cs, hi, rfl, rfl, HRow, HZ, HF, HO⟩ := hrel
    by_cases hlt : i < n
    · have hsz : i < cs.size := by rw [HZ.out]; omega
      have HF2 : Hid (MarksC (cs.setIfInBounds i (.int .i64 ((k : Int) + i))) k (i + 1)) := Lib.hid (fun t ht => by
        by_cases e : i = t
        · subst e; simp [hsz]
        · rw [Array.getElem?_setIfInBounds_ne e]; exact HF.out t (by omega))
      have HZ2 : Hid ((cs.setIfInBounds i (.int .i64 ((k : Int) + i))).size = z) := Lib.hid (by simpa using HZ.out)
      have hc0 : wr.cell? ⟨g, i, none⟩ = some cs[i] := by rw [HRow.out.cell, Array.getElem?_eq_getElem hsz]
      have hf0 := HRow.out.frozen i
      have HO2 := Lib.hid (HO.out.set i (.int .i64 ((k : Int) + i)))
      have HR2 := Lib.hid (HRow.out.set i (.int .i64 ((k : Int) + i)))
      generalize cs[i] = old at *
      go_wp2
      go_roundw
      case rel => exact ⟨i + 1, _, by omega, by go_num, by go_num, HR2, HZ2, HF2, HO2⟩
      case measure => simp [intOf]; omega
    · obtain rfl : i = n := by omega
      go_wp2
      go_ret
      exact ⟨rfl, ⟨_, HRow.out, HZ.out, HF.out⟩, HO.out⟩
set_option maxHeartbeats 400000 in
theorem heldLeaf_any (g n cap k : Nat) (cs : Array Value) (w : World) (hr : Row w g 3 cs) (hm : MarksC cs k n) (hn : n ≤ 2000000) (hk : k ≤ 1000000000) :
    Calls Try.prog 69 #[.slice (some ⟨g, 0, none⟩) n cap, .int .i64 k] w fun e w' => e = .returned (.int .i64 ((k + n : Nat) : Int)) ∧ w = w' := by
  have HR0 := Lib.hid hr
  have HM := Lib.hid hm
  clear hr hm
  go_enter Try.func69, Try.ntmps69
  go_wp2
  go_loop [1, 5] (fun kv iv => ∃ (i : Nat), i ≤ n ∧ iv = .int .i64 i ∧ kv = .int .i64 ((k : Int) + i)) (fun _ iv => n - (intOf iv).toNat)
  case atStart => exact ⟨0, Nat.zero_le _, rfl, by simp⟩
  case round =>
    obtain ⟨i, hi, rfl, rfl⟩ := hrel
    by_cases hlt : i < n
    · have hc : w.cell? ⟨g, i, none⟩ = some (.int .i64 ((k : Int) + i)) := by rw [HR0.out.cell, HM.out i hlt]; simp
      go_wp2
      go_round
      case rel => exact ⟨i + 1, by omega, by go_num, by go_num⟩
      case measure => simp [intOf]; omega
    · obtain rfl : i = n := by omega
      go_wp2
      go_ret
      exact ⟨rfl, rfl⟩
set_option maxHeartbeats 400000 in
theorem markNone_any (A : Option Addr) (cap k : Nat) (w : World) : Calls Try.prog 64 #[.slice A 0 cap, .int .i64 k] w fun e w' => e = .returned (.int .i64 ((k + 0 : Nat) : Int)) ∧ w = w' := by
  go_enter Try.func64, Try.ntmps64
  go_wp2
  go_loop [1, 5] (fun kv iv => kv = .int .i64 k ∧ iv = .int .i64 0) (fun _ iv => 0)
  case atStart => exact ⟨rfl, rfl⟩
  case round =>
    obtain ⟨rfl, rfl⟩ := hrel
    go_wp2
    go_ret
    exact ⟨rfl, rfl⟩
set_option maxHeartbeats 400000 in
theorem heldNone_any (A : Option Addr) (cap k : Nat) (w : World) : Calls Try.prog 69 #[.slice A 0 cap, .int .i64 k] w fun e w' => e = .returned (.int .i64 ((k + 0 : Nat) : Int)) ∧ w = w' := by
  go_enter Try.func69, Try.ntmps69
  go_wp2
  go_loop [1, 5] (fun kv iv => kv = .int .i64 k ∧ iv = .int .i64 0) (fun _ iv => 0)
  case atStart => exact ⟨rfl, rfl⟩
  case round =>
    obtain ⟨rfl, rfl⟩ := hrel
    go_wp2
    go_ret
    exact ⟨rfl, rfl⟩
end Go.Proofs.Ytgllpnilnaggeaa
