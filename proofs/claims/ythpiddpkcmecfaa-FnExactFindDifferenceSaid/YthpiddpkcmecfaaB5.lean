/- The contracts of EvalVars and Step of the program. -/
import Derived.Test.YthpiddpkcmecfaaB4
import Derived.Test.YthpiddpkcmecfaaB1a
namespace Go.Proofs.Ythpiddpkcmecfaa
open Go.RowKit Go.Deep

/-- A slice that is nil and empty, or a block of its own from lo on. -/
def BSl (w : World) (lo : Nat) (A : Option Addr) (xs : List Bool) : Prop := (A = none ∧ xs = []) ∨ ∃ g, A = some ⟨g, 0, none⟩ ∧ lo ≤ g ∧ BRow w g xs
theorem BSl.bools {w : World} {lo : Nat} {A : Option Addr} {xs : List Bool} (h : BSl w lo A xs) : BoolsAt w w.heap.size A xs := by
  rcases h with ⟨rfl, rfl⟩ | ⟨g, rfl, _, h⟩
  · exact BoolsAt.nil _ _ _
  · exact h.bools
theorem BSl.on {w w' : World} {lo : Nat} {A : Option Addr} {xs : List Bool} (h : BSl w lo A xs) (hb : Below w.heap.size w w') : BSl w' lo A xs := by
  rcases h with ⟨rfl, rfl⟩ | ⟨g, rfl, hl, h⟩
  · exact .inl ⟨rfl, rfl⟩
  · exact .inr ⟨g, rfl, hl, h.on hb⟩
def evalV (i : Int) (ns : List Int) (gs : List (Int × Int)) (os : List Int) (st ins : List Bool) : List Bool := if assignB i ns gs os st.length ins.length = true then Circ.valsOf gs st ins else []
theorem evalV_t {i : Int} {ns : List Int} {gs : List (Int × Int)} {os : List Int} {st ins : List Bool} (h : assignB i ns gs os st.length ins.length = true) : evalV i ns gs os st ins = Circ.valsOf gs st ins := if_pos h
theorem evalV_f {i : Int} {ns : List Int} {gs : List (Int × Int)} {os : List Int} {st ins : List Bool} (h : assignB i ns gs os st.length ins.length = false) : evalV i ns gs os st ins = [] := if_neg (by rw [h]; decide)
theorem evalV_le {i : Int} {ns : List Int} {gs : List (Int × Int)} {os : List Int} (st ins : List Bool) : (evalV i ns gs os st ins).length ≤ 22 := by
  cases h : assignB i ns gs os st.length ins.length
  · rw [evalV_f h]; simp
  · rw [evalV_t h, Circ.valsOf_len]
    obtain ⟨hv, h1, h2⟩ := assign_inv h
    obtain ⟨a0, a1, a2, a3, a4⟩ := Circ.valid_within hv
    omega

set_option maxHeartbeats 400000 in
theorem valuesOf_any (g m : Nat) (A : Option Addr) (cap : Nat) (L : List Bool) (xs : List Int) (w : World) (hR : Row w g 123 #[.int .u64 m]) (hB : Circ.Bits m L) (hx : IntsAt w w.heap.size A xs) (hl : xs.length ≤ 1000) (hok : ∀ k, k < xs.length → 0 ≤ xs.getD k 0 ∧ xs.getD k 0 < 128) :
    Calls Try.prog 96 #[.slice (some ⟨g, 0, none⟩) 1 1, .slice A xs.length cap] w fun e w' => e = .returned (.slice (some ⟨w.heap.size, 0, none⟩) xs.length xs.length) ∧ Below w.heap.size w w' ∧ BRow w' w.heap.size (Circ.litsV L xs) := by
  have HX := Lib.hid hx
  have HW := Lib.hid hR
  have HB := Lib.hid hB
  have HOK := Lib.hid hok
  have HLV := Lib.hid (Circ.litsV_len L xs)
  have hgz := hR.lt
  clear hx hR hB hok
  generalize hn : xs.length = n at *
  have HN := Lib.hid hn
  clear hn
  have hmk := fun W => run_make_row' (P := Try.prog) 33 4 (.bool false) 1 Try.underlying33 Try.infoB rfl .i64 .i64 n (by omega) (by omega) W
  go_enter Try.func96, Try.ntmps96
  go_wp2
  clear hmk
  go_loopw [13] (fun iv wr => ∃ (k : Nat) (cs : Array Value), k ≤ n ∧ iv = .int .i64 k ∧ Hid (Row wr w.heap.size 4 cs) ∧ Hid (FilledB cs (Circ.litsV L xs) k) ∧ Below w.heap.size w wr) (fun iv _ => n - (intOf iv).toNat)
  case atStart => exact ⟨0, _, Nat.zero_le _, rfl, Lib.hid (heap_alloc_new w _), Lib.hid (FilledB.start (by rw [size_madeCells, HLV.out])), (Below.refl _ _).alloc (Nat.le_refl _) _⟩
  case round =>
    obtain ⟨k, cs, hk, rfl, HRow, HF, hbr⟩ := hrel
    by_cases hlt : k < n
    · obtain ⟨b, off, rfl, hbl, hcell⟩ := HX.out k (by rw [HN.out]; exact hlt)
      rw [← hbr.cell (by exact hbl)] at hcell
      obtain ⟨o1, o2⟩ := HOK.out k hlt
      have HF2 := Lib.hid (HF.out.step (by rw [HLV.out]; exact hlt))
      rw [Circ.litsV_get L xs k (by rw [HN.out]; exact hlt)] at HF2
      have hsz : k < cs.size := by rw [HF.out.1, HLV.out]; exact hlt
      have hc0 : wr.cell? ⟨w.heap.size, k, none⟩ = some cs[k] := by rw [HRow.out.cell, Array.getElem?_eq_getElem hsz]
      have hf0 := HRow.out.frozen k
      have HCW : Hid (wr.cell? ⟨g, 0, none⟩ = some (.int .u64 m)) := Lib.hid (by rw [(HW.out.below hbr hgz).cell]; rfl)
      generalize xs.getD k 0 = v at *
      obtain ⟨q, rfl⟩ := Int.eq_ofNat_of_zero_le o1
      have hq : q < 128 := by omega
      clear o1 o2
      have HB3 := Lib.hid (hbr.setCell (p := ⟨w.heap.size, k, none⟩) (Nat.le_refl _) (.bool (Circ.litV L q)))
      have HR3 := Lib.hid (HRow.out.set k (.bool (Circ.litV L q)))
      generalize cs[k] = old at *
      go_wp2_with (go_at_call 110; refine (holds_any g m q L _ HCW.out HB.out hq).mono ?_; rintro e w' ⟨rfl, rfl⟩)
      go_roundw
      case rel => exact ⟨k + 1, _, by omega, by go_num, HR3, HF2, HB3.out⟩
      case measure => simp [intOf]; omega
    · obtain rfl : k = n := by omega
      go_wp2
      go_ret
      exact ⟨rfl, hbr, _, HRow.out, by rw [HLV.out]; exact HF.out⟩
end Go.Proofs.Ythpiddpkcmecfaa
/- The marks on a result. -/
namespace Go.Proofs.Ythpiddpkcmecfaa
open Go.RowKit Go.Deep

theorem Mid.bsl {lo hi : Nat} {w w' : World} (h : Mid lo hi w w') {A : Option Addr} {xs : List Bool} (hr : BSl w hi A xs) : BSl w' hi A xs := by
  rcases hr with ⟨rfl, rfl⟩ | ⟨g, rfl, hl, hr⟩
  · exact .inl ⟨rfl, rfl⟩
  · exact .inr ⟨g, rfl, hl, h.brow hr (.inr hl)⟩
theorem BSl.mono {w : World} {lo lo' : Nat} {A : Option Addr} {xs : List Bool} (h : BSl w lo A xs) (hl : lo' ≤ lo) : BSl w lo' A xs := by
  rcases h with ⟨rfl, rfl⟩ | ⟨g, rfl, h1, h⟩
  · exact .inl ⟨rfl, rfl⟩
  · exact .inr ⟨g, rfl, by omega, h⟩

theorem markBSl_any (A : Option Addr) (lo n k : Nat) (xs : List Bool) (w : World) (h : BSl w lo A xs) (hx : xs.length = n) (hn : n ≤ 2000000) (hk : k ≤ 1000000000) (hlo : lo ≤ w.heap.size) :
    Calls Try.prog 80 #[.slice A n n, .int .i64 k] w fun e w' => e = .returned (.int .i64 ((k + n : Nat) : Int)) ∧ BSl w' lo A (mk3 k n) ∧ Below lo w w' ∧ Only (A.map Addr.block) w w' := by
  rcases h with ⟨rfl, rfl⟩ | ⟨g, rfl, hl, cs, hr, hf⟩
  · simp at hx
    subst hx
    exact (markB_nil (k : Int) w).mono fun _ _ ⟨he, hw⟩ => by
      subst hw
      exact ⟨he, .inl ⟨rfl, rfl⟩, Below.refl _ _, Only.refl _ _⟩
  · subst hx
    exact (markB_row g xs.length k cs w hr hf.1 hn hk).mono fun _ _ ⟨he, hb, ho⟩ => ⟨he, .inr ⟨g, rfl, hl, hb⟩, ho.below (fun _ e => by injection e; omega) hlo, ho⟩
theorem heldBSl_any (A : Option Addr) (lo n k : Nat) (w : World) (h : BSl w lo A (mk3 k n)) (hn : n ≤ 2000000) (hk : k ≤ 1000000000) :
    Calls Try.prog 81 #[.slice A n n, .int .i64 k] w fun e w' => e = .returned (.int .i64 ((k + n : Nat) : Int)) ∧ w = w' := by
  rcases h with ⟨rfl, h⟩ | ⟨g, rfl, hl, hb⟩
  · have : n = 0 := by have := congrArg List.length h; simpa [mk3_len] using this
    subst this
    exact heldB_nil (k : Int) w
  · exact heldB_row g n k w hb hn hk

end Go.Proofs.Ythpiddpkcmecfaa
