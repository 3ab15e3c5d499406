/- The contract of the laws' comparison of tables; a part of a table. -/
import Derived.Test.YthpiddpkcmecfaaB14
import Derived.Test.YthpiddpkcmecfaaB17
namespace Go.Proofs.Ythpiddpkcmecfaa
open Go.RowKit Go.Deep

set_option maxHeartbeats 400000 in
theorem sameRows_len (A A' : Option Addr) (n cap cap' : Nat) (rs : List (List Bool)) (w : World) (hn : rs.length = n) (hx : RowsAt w w.heap.size A rs) (hy : RowsAt w w.heap.size A' rs) (hl : n ≤ 2000000) (ht : offs 0 rs rs.length ≤ 2000000) :
    Calls Try.prog 23 #[.slice A n cap, .slice A' n cap'] w fun e w' => e = .returned (.bool true) ∧ Below w.heap.size w w' := by
  have HX := Lib.hid hx
  have HY := Lib.hid hy
  have HT := Lib.hid (fun k hk => Nat.le_trans (row_le 0 rs (k := k) hk) ht)
  have HN := Lib.hid hn
  clear hx hy ht hn
  go_enter Try.func23, Try.ntmps23
  go_wp2
  go_loopw [5] (fun iv wr => ∃ (k : Nat), k ≤ n ∧ iv = .int .i64 k ∧ Below w.heap.size w wr) (fun iv _ => n - (intOf iv).toNat)
  case atStart => exact ⟨0, Nat.zero_le _, rfl, Below.refl _ _⟩
  case round =>
    obtain ⟨k, hk, rfl, hbr⟩ := hrel
    by_cases hlt : k < n
    · obtain ⟨b, off, rfl, hbl, B1, c1, hcA, hbA⟩ := HX.out k (by rw [HN.out]; exact hlt)
      obtain ⟨b', off', rfl, hbl', B2, c2, hcB, hbB⟩ := HY.out k (by rw [HN.out]; exact hlt)
      rw [← hbr.cell (by exact hbl)] at hcA
      rw [← hbr.cell (by exact hbl')] at hcB
      have HBA := Lib.hid ((hbA.below hbr).mono hbr.size)
      have HBB := Lib.hid ((hbB.below hbr).mono hbr.size)
      have htk := HT.out k (by rw [HN.out]; exact hlt)
      clear hbA hbB
      generalize rs.getD k [] = r at *
      have hk0 : (0 : Int) ≤ (k : Int) := Int.natCast_nonneg _
      have hk1 : (k : Int) < (n : Int) := by omega
      have hz := hbr.size
      go_wp2
      go_region_held3 (fun w' => w'.cell? ⟨b, off + k, none⟩ = some (.slice B1 r.length c1) ∧ w'.cell? ⟨b', off' + k, none⟩ = some (.slice B2 r.length c2))
        (first | go_keep | (refine ⟨?_, ?_⟩ <;> (rw [hc3 _ _ (by simp; omega)]; simp [*])))
        (first | (go_at_call 22; refine (sameBools_len B1 B2 _ c1 c2 r _ rfl ?_ ?_ htk).mono ?_; (exact HBA.out.below (Below.refl _ wr).drew); (exact HBB.out.below (Below.refl _ wr).drew); rintro e w3 ⟨rfl, hb3⟩; obtain ⟨hc3, hf3⟩ := bcell hb3))
      clear hc3 hf3
      go_wp2
      go_roundw
      case rel => exact ⟨k + 1, by omega, by go_num, hbr.drew.trans (hb3.mono hbr.size)⟩
      case measure => simp [intOf]; omega
    · go_wp2
      go_ret
      exact ⟨rfl, hbr⟩

theorem RowsAt.take {w : World} {B : Nat} {A : Option Addr} {rs : List (List Bool)} (h : RowsAt w B A rs) (m : Nat) : RowsAt w B A (rs.take m) := fun k hk => by
  have hk2 : k < m := by simp at hk; omega
  have hk3 : k < rs.length := by simp at hk; omega
  have e : (rs.take m).getD k [] = rs.getD k [] := by simp [List.getD_eq_getElem?_getD, hk2]
  rw [e]
  exact h k hk3
theorem simulate_len (i : Int) (nA gA oA rA : Option Addr) (nc gc oc n rc : Nat) (ns : List Int) (gs : List (Int × Int)) (os : List Int) (rs : List (List Bool)) (w : World) (hn : rs.length = n) (hc : CircAt w w.heap.size nA gA oA ns gs os) (hr : RowsAt w w.heap.size rA rs) (hl : n ≤ maxLen) :
    Calls Try.prog 24 #[.agg #[.int .i64 i, .slice nA ns.length nc, .slice gA gs.length gc, .slice oA os.length oc], .slice rA n rc] w fun e w' =>
      ∃ A : Option Addr, e = .returned (.slice A (Circ.simulV i ns gs os rs).length (Circ.simulV i ns gs os rs).length) ∧ RSl w' w.heap.size A (Circ.simulV i ns gs os rs) ∧ Below w.heap.size w w' := by
  subst hn
  exact simulate_any i nA gA oA rA nc gc oc rc ns gs os rs w hc hr hl
theorem step_len (i : Int) (nA gA oA sA iA : Option Addr) (nc gc oc sl sc ic : Nat) (ns : List Int) (gs : List (Int × Int)) (os : List Int) (st ins : List Bool) (w : World) (hsl : st.length = sl) (hc : CircAt w w.heap.size nA gA oA ns gs os)
    (hs : BoolsAt w w.heap.size sA st) (hin : BoolsAt w w.heap.size iA ins) :
    Calls Try.prog 20 #[.agg #[.int .i64 i, .slice nA ns.length nc, .slice gA gs.length gc, .slice oA os.length oc], .slice sA sl sc, .slice iA ins.length ic] w fun e w' =>
      ∃ A1 A2 : Option Addr, e = .returned (.agg #[.slice A1 (stepV i ns gs os st ins os).length (stepV i ns gs os st ins os).length, .slice A2 (stepV i ns gs os st ins ns).length (stepV i ns gs os st ins ns).length]) ∧ BPair w' w.heap.size A1 A2 (stepV i ns gs os st ins os) (stepV i ns gs os st ins ns) ∧ Below w.heap.size w w' := by
  subst hsl
  exact step_any i nA gA oA sA iA nc gc oc sc ic ns gs os st ins w hc hs hin
theorem lensB_take {i : Int} {rs : List (List Bool)} (h : Circ.lensB i rs = true) (m : Nat) : Circ.lensB i (rs.take m) = true := by
  unfold Circ.lensB at *
  rw [List.all_eq_true] at *
  exact fun x hx => h x (List.mem_of_mem_take hx)
/-- A part of the rows gives a part of the outputs. -/
theorem simul_take (i : Int) (ns : List Int) (gs : List (Int × Int)) (os : List Int) (rs : List (List Bool)) (m : Nat) (hv : Circ.validB i ns gs os = true) (hr : Circ.rowsB i rs = true) : Circ.simulV i ns gs os (rs.take m) = (Circ.simulV i ns gs os rs).take m := by
  have h2 : Circ.rowsB i (rs.take m) = true := by
    simp only [Circ.rowsB, Bool.and_eq_true, decide_eq_true_eq] at hr ⊢
    exact ⟨by simp; omega, lensB_take hr.2 m⟩
  rw [Circ.simulV, Circ.simulV, hv, hr, h2]
  simp [Circ.simV_take]
end Go.Proofs.Ythpiddpkcmecfaa
