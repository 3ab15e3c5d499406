/- PlacementValid of the program and of the model. -/
import Derived.Test.YtkkkkalgfmddbaaNS
import Derived.Test.YtkkkkalgfmddbaaQP
namespace Plc
theorem take_mem {p : List Int} {k : Nat} {x : Int} (hk : k ≤ p.length) : x ∈ p.take k ↔ ∃ j, j < k ∧ p.getD j 0 = x := by
  rw [List.mem_iff_getElem?]
  constructor
  · rintro ⟨j, hj⟩
    have hlt := (List.getElem?_eq_some_iff.1 hj).1
    rw [List.length_take] at hlt
    rw [List.getElem?_take, if_pos (by omega)] at hj
    exact ⟨j, by omega, by rw [List.getD_eq_getElem?_getD, hj]; rfl⟩
  · rintro ⟨j, hj, e⟩
    refine ⟨j, ?_⟩
    rw [List.getElem?_take, if_pos hj, List.getElem?_eq_getElem (by omega), ← e, getD_eq (by omega)]
end Plc
namespace Go.Proofs.Ytkkkkalgfmddbaa
open Go.RowKit Go.Deep Cut

/-- Whether a placement of a circuit is valid. -/
def placeB (i : Int) (ns : List Int) (gs : List (Int × Int)) (os p : List Int) : Bool := Circ.validB i ns gs os && Plc.okP (cellsV i ns gs os).length p

set_option maxHeartbeats 400000 in
theorem l7Has_any (A : Option Addr) (n cap B : Nat) (xs : List Int) (y : Int) (w : World) (hx : IntsAt w B A xs) (hn : xs.length = n) (hnb : n ≤ 1000) :
    Calls Try.prog 171 #[.slice A n cap, .int .i64 y] w fun e w' => e = .returned (.bool (xs.contains y)) ∧ w = w' := by
  have HX := Lib.hid hx
  have HN := Lib.hid hn
  clear hx hn
  go_enter Try.func171, Try.ntmps171
  go_wp2
  go_loop [5] (fun iv => ∃ (k : Nat), k ≤ n ∧ iv = .int .i64 k ∧ Hid (∀ j, j < k → xs.getD j 0 ≠ y)) (fun iv => n - (intOf iv).toNat)
  case atStart => exact ⟨0, Nat.zero_le _, rfl, Lib.hid (fun j hj => by omega)⟩
  case round =>
    obtain ⟨k, hk, rfl, HNO⟩ := hrel
    by_cases hlt : k < n
    · obtain ⟨b, off, rfl, hbl, hcell⟩ := HX.out k (by rw [HN.out]; exact hlt)
      by_cases he : xs.getD k 0 = y
      · have HE : Hid (xs.contains y = true) := Lib.hid (by
          rw [List.contains_iff_mem, ← he, Plc.getD_eq (by rw [HN.out]; exact hlt)]
          exact List.getElem_mem _)
        rw [he] at hcell
        clear he
        go_wp2
        go_ret
        exact ⟨ret_bool (by rw [← List.contains_eq_mem]; exact HE.out.symm), rfl⟩
      · have HN2 : Hid (∀ j, j < k + 1 → xs.getD j 0 ≠ y) := Lib.hid (fun j hj => by
          by_cases e : j = k
          · subst e; exact he
          · exact HNO.out j (by omega))
        have hbe : (xs.getD k 0 == y) = false := by simpa using he
        clear he HNO
        generalize xs.getD k 0 = v at *
        go_wp2
        go_round
        case rel => exact ⟨k + 1, by omega, by go_num, HN2⟩
        case measure => simp [intOf]; omega
    · obtain rfl : k = n := by omega
      have HE : Hid (xs.contains y = false) := Lib.hid (by
        rw [Bool.eq_false_iff, Ne, List.contains_iff_mem]
        intro h
        obtain ⟨j, hj, e⟩ := List.mem_iff_getElem.1 h
        exact HNO.out j (by rw [← HN.out]; exact hj) (by rw [Plc.getD_eq hj]; exact e))
      go_wp2
      go_ret
      exact ⟨ret_bool (by rw [← List.contains_eq_mem]; exact HE.out.symm), rfl⟩

theorem quiet_sym {f : FuncId} {args : Array Value} {w : World} {v : Value} (h : Calls Try.prog f args w fun e w' => e = .returned v ∧ w = w') : Calls Try.prog f args w fun e w' => e = .returned v ∧ w' = w := h.mono (fun _ _ ⟨a, b⟩ => ⟨a, b.symm⟩)
theorem l1In_v (x : Int) (bv : Bool) (h : Circ.inB x 0 24 = bv) (w : World) : Calls Try.prog 107 #[.int .i64 x, .int .i64 0, .int .i64 24] w fun e w' => e = .returned (.bool bv) ∧ w' = w := by
  subst h
  exact quiet_sym (l1In_any x 0 24 w)
theorem l7Has_v (A : Option Addr) (n cap B : Nat) (xs : List Int) (y : Int) (bv : Bool) (h : xs.contains y = bv) (w : World) (hx : IntsAt w B A xs) (hn : xs.length = n) (hnb : n ≤ 1000) : Calls Try.prog 171 #[.slice A n cap, .int .i64 y] w fun e w' => e = .returned (.bool bv) ∧ w' = w := by
  subst h
  exact quiet_sym (l7Has_any A n cap B xs y w hx hn hnb)
theorem IntsAt.takeN {w : World} {B k : Nat} {A : Option Addr} {p : List Int} (h : IntsAt w B A p) (hk : k ≤ p.length) : IntsAt w B A (p.take k) := fun j hj => by
  rw [List.length_take] at hj
  obtain ⟨b, off, e, hlt, hc⟩ := h j (by omega)
  refine ⟨b, off, e, hlt, ?_⟩
  rw [hc]
  simp [List.getD_eq_getElem?_getD, show j < k by omega]

end Go.Proofs.Ytkkkkalgfmddbaa
