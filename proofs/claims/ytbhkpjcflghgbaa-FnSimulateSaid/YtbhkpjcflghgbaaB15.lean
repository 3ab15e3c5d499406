/- The contracts of tables of truth values: copy, size, comparison, marks. -/
import Derived.Test.YtbhkpjcflghgbaaB8
import Derived.Test.YtbhkpjcflghgbaaW6
namespace Go.Proofs.Ytbhkpjcflghgbaa
open Go.RowKit Go.Deep

def RowsAt (w : World) (B : Nat) (A : Option Addr) (rs : List (List Bool)) : Prop :=
  ∀ k, k < rs.length → ∃ b off, A = some ⟨b, off, none⟩ ∧ b < B ∧ ∃ (A' : Option Addr) (cap : Nat), w.cell? ⟨b, off + k, none⟩ = some (.slice A' (rs.getD k []).length cap) ∧ BoolsAt w B A' (rs.getD k [])
theorem RowsAt.below {w w' : World} {B : Nat} {A : Option Addr} {rs : List (List Bool)} (h : RowsAt w B A rs) (hb : Below B w w') : RowsAt w' B A rs := fun k hk => by
  obtain ⟨b, off, e, hlt, A', cap, hc, hx⟩ := h k hk
  exact ⟨b, off, e, hlt, A', cap, (hb.cell (p := ⟨b, off + k, none⟩) hlt).trans hc, hx.below hb⟩
theorem RowsAt.mono {w : World} {B B' : Nat} {A : Option Addr} {rs : List (List Bool)} (h : RowsAt w B A rs) (hb : B ≤ B') : RowsAt w B' A rs := fun k hk => by
  obtain ⟨b, off, e, hlt, A', cap, hc, hx⟩ := h k hk
  exact ⟨b, off, e, by omega, A', cap, hc, hx.mono hb⟩
theorem RowsAt.on {w w' : World} {A : Option Addr} {rs : List (List Bool)} (h : RowsAt w w.heap.size A rs) (hb : Below w.heap.size w w') : RowsAt w' w'.heap.size A rs := (h.below hb).mono hb.size
theorem RowsAt.nil (w : World) (B : Nat) (A : Option Addr) : RowsAt w B A [] := fun k hk => absurd hk (by simp)

/-- The first k rows of a table in a block of its own, each in a block of its own. -/
structure RPart (w : World) (g : Nat) (cs : Array Value) (bs : List Nat) (rs : List (List Bool)) (k : Nat) : Prop where
  row : Row w g 27 cs
  size : cs.size = rs.length
  len : bs.length = k
  cell : ∀ j, j < k → cs[j]? = some (.slice (some ⟨bs.getD j 0, 0, none⟩) (rs.getD j []).length (rs.getD j []).length)
  brow : ∀ j, j < k → BRow w (bs.getD j 0) (rs.getD j [])
  gt : ∀ j, j < k → g < bs.getD j 0
  inc : ∀ j l, j < l → l < k → bs.getD j 0 < bs.getD l 0
theorem RPart.on {w w' : World} {g k : Nat} {cs : Array Value} {bs : List Nat} {rs : List (List Bool)} (h : RPart w g cs bs rs k) (hb : Below w.heap.size w w') : RPart w' g cs bs rs k :=
  ⟨h.row.below hb h.row.lt, h.size, h.len, h.cell, fun j hj => (h.brow j hj).on hb, h.gt, h.inc⟩
theorem getD_snoc_lt {bs : List Nat} {z j : Nat} (h : j < bs.length) : (bs ++ [z]).getD j 0 = bs.getD j 0 := by
  simp [List.getD_eq_getElem?_getD, List.getElem?_append_left h]
theorem getD_snoc_eq (bs : List Nat) (z : Nat) : (bs ++ [z]).getD bs.length 0 = z := by
  simp [List.getD_eq_getElem?_getD]
theorem BRow.farR {w : World} {g : Nat} {xs : List Bool} (h : BRow w g xs) {p : Addr} (u : Value) (hp : g ≠ p.block) : BRow (w.setCell p u) g xs := by
  obtain ⟨cs, hr, hf⟩ := h
  exact ⟨cs, hr.far hp u, hf⟩
theorem RPart.step {w : World} {g k z : Nat} {cs : Array Value} {bs : List Nat} {rs : List (List Bool)} (h : RPart w g cs bs rs k) (hk : k < rs.length) (hz : BRow w z (rs.getD k [])) (hg : g < z) (hb : ∀ j, j < k → bs.getD j 0 < z) :
    RPart (w.setCell ⟨g, k, none⟩ (.slice (some ⟨z, 0, none⟩) (rs.getD k []).length (rs.getD k []).length)) g (cs.setIfInBounds k (.slice (some ⟨z, 0, none⟩) (rs.getD k []).length (rs.getD k []).length)) (bs ++ [z]) rs (k + 1) := by
  have hl := h.len
  refine ⟨h.row.set k _, by simpa using h.size, by simp [hl], fun j hj => ?_, fun j hj => ?_, fun j hj => ?_, fun j l hj hlk => ?_⟩
  · by_cases e : j = k
    · subst e
      rw [← hl, getD_snoc_eq, hl]
      simp [h.size, hk]
    · rw [getD_snoc_lt (by omega), Array.getElem?_setIfInBounds_ne (by omega)]
      exact h.cell j (by omega)
  · by_cases e : j = k
    · subst e
      rw [← hl, getD_snoc_eq, hl]
      exact hz.farR _ (by show z ≠ g; omega)
    · rw [getD_snoc_lt (by omega)]
      exact (h.brow j (by omega)).farR _ (by have := h.gt j (by omega); show bs.getD j 0 ≠ g; omega)
  · by_cases e : j = k
    · subst e
      rw [← hl, getD_snoc_eq]
      exact hg
    · rw [getD_snoc_lt (by omega)]
      exact h.gt j (by omega)
  · by_cases e : l = k
    · subst e
      rw [getD_snoc_lt (by omega), ← hl, getD_snoc_eq]
      exact hb j (by omega)
    · rw [getD_snoc_lt (by omega), getD_snoc_lt (by omega)]
      exact h.inc j l hj (by omega)
/-- A whole table. -/
def RRow (w : World) (g : Nat) (rs : List (List Bool)) : Prop := ∃ cs bs, RPart w g cs bs rs rs.length
theorem RRow.on {w w' : World} {g : Nat} {rs : List (List Bool)} (h : RRow w g rs) (hb : Below w.heap.size w w') : RRow w' g rs := by
  obtain ⟨cs, bs, h⟩ := h
  exact ⟨cs, bs, h.on hb⟩
theorem RRow.lt {w : World} {g : Nat} {rs : List (List Bool)} (h : RRow w g rs) : g < w.heap.size := by
  obtain ⟨cs, bs, h⟩ := h
  exact h.row.lt
theorem RRow.rows {w : World} {g : Nat} {rs : List (List Bool)} (h : RRow w g rs) : RowsAt w w.heap.size (some ⟨g, 0, none⟩) rs := by
  obtain ⟨cs, bs, h⟩ := h
  exact fun k hk => ⟨g, 0, rfl, h.row.lt, some ⟨bs.getD k 0, 0, none⟩, _, by rw [Nat.zero_add, h.row.cell]; exact h.cell k hk, (h.brow k hk).bools⟩

theorem Try.infoBS : (Try.prog.info? 27).map (fun i => (i.zero, i.size, i.bytes)) = some (some (.slice none 0 0), 1, 24) := by kernel_rfl

/-- The sum of a number and of the lengths of the first rows. -/
def offs (K : Nat) (rs : List (List Bool)) : Nat → Nat
  | 0 => K
  | j + 1 => offs K rs j + (rs.getD j []).length
theorem offs_mono (K : Nat) (rs : List (List Bool)) {j l : Nat} (h : j ≤ l) : offs K rs j ≤ offs K rs l := by
  induction l with
  | zero => have : j = 0 := by omega
            subst this; exact Nat.le_refl _
  | succ l ih =>
    by_cases e : j = l + 1
    · subst e; exact Nat.le_refl _
    · have := ih (by omega)
      simp only [offs]
      omega
theorem row_le (K : Nat) (rs : List (List Bool)) {k : Nat} (hk : k < rs.length) : (rs.getD k []).length ≤ offs K rs rs.length := by
  have h1 := offs_mono K rs (show k + 1 ≤ rs.length by omega)
  simp only [offs] at h1
  omega

set_option maxHeartbeats 400000 in
theorem toBoolSS_any (A : Option Addr) (cap : Nat) (rs : List (List Bool)) (w : World) (hx : RowsAt w w.heap.size A rs) (hl : rs.length ≤ 2000000) (ht : offs 0 rs rs.length ≤ 2000000) :
    Calls Try.prog 35 #[.slice A rs.length cap] w fun e w' => e = .returned (.slice (some ⟨w.heap.size, 0, none⟩) rs.length rs.length) ∧ Below w.heap.size w w' ∧ RRow w' w.heap.size rs := by
  have HX := Lib.hid hx
  have HT := Lib.hid (fun k hk => Nat.le_trans (row_le 0 rs (k := k) hk) ht)
  clear hx ht
  generalize hn : rs.length = n at *
  have HN := Lib.hid hn
  clear hn
  have hmk := fun W => run_make_row' (P := Try.prog) 41 27 (.slice none 0 0) 24 Try.underlying41 Try.infoBS rfl .i64 .i64 n (by omega) (by omega) W
  go_enter Try.func35, Try.ntmps35
  go_wp2
  clear hmk
  go_loopw [4] (fun iv wr => ∃ (k : Nat) (cs : Array Value) (bs : List Nat), k ≤ n ∧ iv = .int .i64 k ∧ Hid (RPart wr w.heap.size cs bs rs k) ∧ Below w.heap.size w wr) (fun iv _ => n - (intOf iv).toNat)
  case atStart => exact ⟨0, _, [], Nat.zero_le _, rfl, Lib.hid ⟨heap_alloc_new w _, by rw [size_madeCells, HN.out], rfl, fun j hj => absurd hj (by omega), fun j hj => absurd hj (by omega), fun j hj => absurd hj (by omega), fun j l hj hlk => absurd hlk (by omega)⟩, (Below.refl _ _).alloc (Nat.le_refl _) _⟩
  case round =>
    obtain ⟨k, cs, bs, hk, rfl, HP, hbr⟩ := hrel
    by_cases hlt : k < n
    · obtain ⟨b, off, rfl, hbl, A', cap', hcell, hbx⟩ := HX.out k (by rw [HN.out]; exact hlt)
      rw [← hbr.cell (by exact hbl)] at hcell
      have HBX := Lib.hid ((hbx.below hbr).mono hbr.size)
      have htk := HT.out k hlt
      have HG := Lib.hid (show ∀ xs, rs.getD k [] = xs → k < rs.length from fun _ _ => by rw [HN.out]; exact hlt)
      generalize hr : rs.getD k [] = r at *
      have HR := Lib.hid hr
      clear hr hbx
      go_wp2_with fail
      refine (toBoolS_any A' cap' r _ HBX.out htk).mono ?_
      rintro e w1 ⟨rfl, hb1, hx1⟩
      have HP1 := Lib.hid (HP.out.on hb1)
      have hzs : w.heap.size < wr.heap.size := HP.out.row.lt
      have hbk : ∀ j, j < k → bs.getD j 0 < wr.heap.size := fun j hj => (HP.out.brow j hj).lt
      have HP2 := Lib.hid (HP1.out.step (z := wr.heap.size) (by rw [HN.out]; exact hlt) (by rw [HR.out]; exact hx1) hzs hbk)
      rw [HR.out] at HP2
      obtain ⟨old, hc0⟩ : ∃ old, w1.cell? ⟨w.heap.size, k, none⟩ = some old := ⟨_, by rw [HP1.out.row.cell, Array.getElem?_eq_getElem (by rw [HP.out.size, HN.out]; exact hlt)]⟩
      have hf0 := HP1.out.row.frozen k
      have HB1 := hbr.trans (hb1.mono hbr.size)
      have HB2 := Lib.hid (HB1.setCell (p := ⟨w.heap.size, k, none⟩) (Nat.le_refl _) (.slice (some ⟨wr.heap.size, 0, none⟩) r.length r.length))
      clear hb1 hx1 HP HP1 hbr hbk HB1 HBX hcell
      generalize wr.heap.size = zz at *
      go_wp2
      go_roundw
      case rel => exact ⟨k + 1, _, _, by omega, by go_num, HP2, HB2.out⟩
      case measure => simp [intOf]; omega
    · obtain rfl : k = n := by omega
      go_wp2
      go_ret
      exact ⟨rfl, hbr, cs, bs, by rw [HN.out]; exact HP.out⟩

set_option maxHeartbeats 400000 in
theorem eqBoolSS_any (A A' : Option Addr) (cap cap' : Nat) (rs : List (List Bool)) (w : World) (hx : RowsAt w w.heap.size A rs) (hy : RowsAt w w.heap.size A' rs) (hl : rs.length ≤ 2000000) (ht : offs 0 rs rs.length ≤ 2000000) :
    Calls Try.prog 36 #[.slice A rs.length cap, .slice A' rs.length cap'] w fun e w' => e = .returned (.bool true) ∧ Below w.heap.size w w' := by
  have HX := Lib.hid hx
  have HY := Lib.hid hy
  have HT := Lib.hid (fun k hk => Nat.le_trans (row_le 0 rs (k := k) hk) ht)
  clear hx hy ht
  generalize hn : rs.length = n at *
  have HN := Lib.hid hn
  clear hn
  go_enter Try.func36, Try.ntmps36
  go_wp2
  go_loopw [5] (fun iv wr => ∃ (k : Nat), k ≤ n ∧ iv = .int .i64 k ∧ Below w.heap.size w wr) (fun iv _ => n - (intOf iv).toNat)
  case atStart => exact ⟨0, Nat.zero_le _, rfl, Below.refl _ _⟩
  case round =>
    obtain ⟨k, hk, rfl, hbr⟩ := hrel
    by_cases hlt : k < n
    · obtain ⟨b, off, rfl, hbl, B1, c1, hcA, hbA⟩ := HX.out k (by rw [HN.out]; exact hlt)
      obtain ⟨b', off', rfl, hbl', B2, c2, hcB, hbB⟩ := HY.out k (by rw [HN.out]; exact hlt)
      rw [← hbr.cell (by exact hbl)] at hcA
      rw [← hbr.cell (by exact hbl')] at hcB
      have HBA := Lib.hid ((hbA.below hbr).mono hbr.size)
      have HBB := Lib.hid ((hbB.below hbr).mono hbr.size)
      have htk := HT.out k hlt
      clear hbA hbB
      generalize rs.getD k [] = r at *
      have hk0 : (0 : Int) ≤ (k : Int) := Int.natCast_nonneg _
      have hk1 : (k : Int) < (n : Int) := by omega
      have hz := hbr.size
      go_wp2
      go_region_held3 (fun w' => w'.cell? ⟨b, off + k, none⟩ = some (.slice B1 r.length c1) ∧ w'.cell? ⟨b', off' + k, none⟩ = some (.slice B2 r.length c2))
        (first | go_keep | (refine ⟨?_, ?_⟩ <;> (rw [hc3 _ _ (by simp; omega)]; simp [*])))
        (first | (go_at_call 26; refine (eqBoolS_any B1 B2 c1 c2 r _ ?_ ?_ htk).mono ?_; (exact HBA.out.below (Below.refl _ wr).drew); (exact HBB.out.below (Below.refl _ wr).drew); rintro e w3 ⟨rfl, hb3⟩; obtain ⟨hc3, hf3⟩ := bcell hb3))
      clear hc3 hf3
      go_wp2
      go_roundw
      case rel => exact ⟨k + 1, by omega, by go_num, hbr.drew.trans (hb3.mono hbr.size)⟩
      case measure => simp [intOf]; omega
    · go_wp2
      go_ret
      exact ⟨rfl, hbr⟩
end Go.Proofs.Ytbhkpjcflghgbaa
