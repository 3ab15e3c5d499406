/- The contracts of comparing cells. -/
import Derived.Test.YthcpgbfghededaaEC
import Derived.Test.YthcpgbfghededaaEQ
namespace Go.Proofs.Ythcpgbfghededaa
open Go.RowKit Go.Deep Cut

set_option maxHeartbeats 800000 in
theorem eqCell_any (A A' : Option Addr) (m c c' v : Nat) (y : List Nat) (t : Nat) (r : Bool) (w : World) (hx : IntsAt w w.heap.size A (Opt.intL y)) (hy : IntsAt w w.heap.size A' (Opt.intL y)) (hm : y.length = m) (hl : m ≤ 1000) (_hv : v ≤ 1000000) (_ht : t ≤ 1000000) :
    Calls Try.prog 77 #[.agg #[.int .i64 v, .slice A m c, .int .i64 t, .bool r], .agg #[.int .i64 v, .slice A' m c', .int .i64 t, .bool r]] w fun e w' => e = .returned (.bool true) ∧ Below w.heap.size w w' := by
  have HX := Lib.hid hx
  have HY := Lib.hid hy
  have HM := Lib.hid hm
  have HW0 : Hid (Below w.heap.size w ((w.alloc (.cells #[.int .i64 v, .slice A m c, .int .i64 t, .bool r] 45)).alloc (.cells #[.int .i64 v, .slice A' m c', .int .i64 t, .bool r] 45))) := Lib.hid (((Below.refl _ _).alloc (Nat.le_refl _) _).alloc (by simp) _)
  have hr0 : Row ((w.alloc (.cells #[.int .i64 v, .slice A m c, .int .i64 t, .bool r] 45)).alloc (.cells #[.int .i64 v, .slice A' m c', .int .i64 t, .bool r] 45)) w.heap.size 45 #[.int .i64 v, .slice A m c, .int .i64 t, .bool r] := (Below.heap_alloc _ _ _ (by simp)).trans (heap_alloc_new w _)
  have hr1 : Row ((w.alloc (.cells #[.int .i64 v, .slice A m c, .int .i64 t, .bool r] 45)).alloc (.cells #[.int .i64 v, .slice A' m c', .int .i64 t, .bool r] 45)) (w.heap.size + 1) 45 #[.int .i64 v, .slice A' m c', .int .i64 t, .bool r] := by
    have h := heap_alloc_new (w.alloc (.cells #[.int .i64 v, .slice A m c, .int .i64 t, .bool r] 45)) (.cells #[.int .i64 v, .slice A' m c', .int .i64 t, .bool r] 45)
    rwa [show (w.alloc (.cells #[.int .i64 v, .slice A m c, .int .i64 t, .bool r] 45)).heap.size = w.heap.size + 1 by simp] at h
  have HR0 := Lib.hid hr0
  have HR1 := Lib.hid hr1
  clear hx hy hm hr0 hr1
  go_enter Try.func77, Try.ntmps77
  go_wp2_with fail
  generalize (w.alloc (.cells #[.int .i64 v, .slice A m c, .int .i64 t, .bool r] 45)).alloc (.cells #[.int .i64 v, .slice A' m c', .int .i64 t, .bool r] 45) = w0 at *
  refine (eqI_n A A' m c c' y _ ((HX.out.below HW0.out).mono HW0.out.size) ((HY.out.below HW0.out).mono HW0.out.size) HM.out (by omega)).mono ?_
  rintro e w1 ⟨rfl, hb1⟩
  have HR01 := Lib.hid (HR0.out.below hb1 HR0.out.lt)
  have HR11 := Lib.hid (HR1.out.below hb1 HR1.out.lt)
  have HL1 := Lib.hid (HW0.out.trans (hb1.mono HW0.out.size))
  clear hb1 HR0 HR1
  have a2 := HR01.out.cell 2
  have a3 := HR01.out.cell 3
  have b2 := HR11.out.cell 2
  have b3 := HR11.out.cell 3
  simp at a2 a3 b2 b3
  go_wp2
  go_ret
  exact ⟨rfl, HL1.out⟩
theorem Cekeep {w w' : World} {B b b' o o' : Nat} {x0 x1 x2 x3 x4 x5 x6 x7 : Value} (h : Below B w w') (h1 : b < B) (h2 : b' < B) (s : w.cell? ⟨b, o, none⟩ = some x0 ∧ w.cell? ⟨b, o + 1, none⟩ = some x1 ∧ w.cell? ⟨b, o + 2, none⟩ = some x2 ∧ w.cell? ⟨b, o + 3, none⟩ = some x3 ∧ w.cell? ⟨b', o', none⟩ = some x4 ∧ w.cell? ⟨b', o' + 1, none⟩ = some x5 ∧ w.cell? ⟨b', o' + 2, none⟩ = some x6 ∧ w.cell? ⟨b', o' + 3, none⟩ = some x7) :
    w'.cell? ⟨b, o, none⟩ = some x0 ∧ w'.cell? ⟨b, o + 1, none⟩ = some x1 ∧ w'.cell? ⟨b, o + 2, none⟩ = some x2 ∧ w'.cell? ⟨b, o + 3, none⟩ = some x3 ∧ w'.cell? ⟨b', o', none⟩ = some x4 ∧ w'.cell? ⟨b', o' + 1, none⟩ = some x5 ∧ w'.cell? ⟨b', o' + 2, none⟩ = some x6 ∧ w'.cell? ⟨b', o' + 3, none⟩ = some x7 :=
  ⟨(h.cell (by exact h1)).trans s.1, (h.cell (by exact h1)).trans s.2.1, (h.cell (by exact h1)).trans s.2.2.1, (h.cell (by exact h1)).trans s.2.2.2.1, (h.cell (by exact h2)).trans s.2.2.2.2.1, (h.cell (by exact h2)).trans s.2.2.2.2.2.1, (h.cell (by exact h2)).trans s.2.2.2.2.2.2.1, (h.cell (by exact h2)).trans s.2.2.2.2.2.2.2⟩
set_option maxHeartbeats 800000 in
theorem eqCellS_any (A A' : Option Addr) (n cap cap' : Nat) (es : List Cl) (w : World) (hx : CeIn w w.heap.size A es) (hy : CeIn w w.heap.size A' es) (hn : es.length = n) (hl : n ≤ 1000) (hr : ∀ k, k < n → (es.getD k (0, [], 0, false)).1 ≤ 1000 ∧ (es.getD k (0, [], 0, false)).2.1.length ≤ 1000 ∧ (es.getD k (0, [], 0, false)).2.2.1 ≤ 1000) :
    Calls Try.prog 40 #[.slice A n cap, .slice A' n cap'] w fun e w' => e = .returned (.bool true) ∧ Below w.heap.size w w' := by
  have HX := Lib.hid hx
  have HY := Lib.hid hy
  have HN := Lib.hid hn
  have HT := Lib.hid hr
  clear hx hy hn hr
  go_enter Try.func40, Try.ntmps40
  go_wp2
  go_loopw [5] (fun iv wr => ∃ (k : Nat), k ≤ n ∧ iv = .int .i64 k ∧ Below w.heap.size w wr) (fun iv _ => n - (intOf iv).toNat)
  case atStart => exact ⟨0, Nat.zero_le _, rfl, Below.refl _ _⟩
  case round =>
    obtain ⟨k, hk, rfl, hbr⟩ := hrel
    by_cases hlt : k < n
    · obtain ⟨b, off, rfl, hbl, B1, c1, p0, p1, p2, hbA⟩ := HX.out k (by rw [HN.out]; exact hlt)
      obtain ⟨b', off', rfl, hbl', B2, c2, r0, r1, r2, hbB⟩ := HY.out k (by rw [HN.out]; exact hlt)
      obtain ⟨t1, t2, t3⟩ := HT.out k hlt
      have HBA := Lib.hid ((hbA.below hbr).mono hbr.size)
      have HBB := Lib.hid ((hbB.below hbr).mono hbr.size)
      have hz := hbr.size
      have HS := Lib.hid (Cekeep hbr hbl hbl' ⟨p0, p1, p2.1, p2.2, r0, r1, r2.1, r2.2⟩)
      have hblr : b < wr.heap.size := by omega
      have hblr' : b' < wr.heap.size := by omega
      clear hbA hbB p0 p1 p2 r0 r1 r2
      generalize (es.getD k (0, [], 0, false)).2.2.1 = t at *
      generalize (es.getD k (0, [], 0, false)).2.2.2 = r at *
      generalize (es.getD k (0, [], 0, false)).2.1 = y at *
      generalize (es.getD k (0, [], 0, false)).1 = v at *
      obtain ⟨m, hm⟩ : ∃ m, y.length = m := ⟨_, rfl⟩
      rw [hm] at HS t2
      have HM := Lib.hid hm
      clear hm
      obtain ⟨g0, g1, g2, g3, g4, g5, g6, g7⟩ := HS.out
      have hk0 : (0 : Int) ≤ (k : Int) := Int.natCast_nonneg _
      have hk1 : (k : Int) < (n : Int) := by omega
      go_wp2
      go_region_held3 (fun w' => w'.cell? ⟨b, off + k * 4, none⟩ = some (.int .i64 (v : Nat)) ∧ w'.cell? ⟨b, off + k * 4 + 1, none⟩ = some (.slice B1 m c1) ∧ w'.cell? ⟨b, off + k * 4 + 2, none⟩ = some (.int .i64 t) ∧ w'.cell? ⟨b, off + k * 4 + 3, none⟩ = some (.bool r) ∧ w'.cell? ⟨b', off' + k * 4, none⟩ = some (.int .i64 (v : Nat)) ∧ w'.cell? ⟨b', off' + k * 4 + 1, none⟩ = some (.slice B2 m c2) ∧ w'.cell? ⟨b', off' + k * 4 + 2, none⟩ = some (.int .i64 t) ∧ w'.cell? ⟨b', off' + k * 4 + 3, none⟩ = some (.bool r))
        (first | (with_reducible assumption) | go_keep)
        (first | (go_at_call 77; refine (eqCell_any B1 B2 m c1 c2 v y t r _ ?_ ?_ HM.out (by omega) (by omega) (by omega)).mono ?_; (exact HBA.out.below (Below.refl _ wr).drew); (exact HBB.out.below (Below.refl _ wr).drew); rintro e w3 ⟨rfl, hb3⟩; have hS3 := Cekeep hb3 hblr hblr' HS.out))
      rename_i _hheld
      clear _hheld hS3 g0 g1 g2 g3 g4 g5 g6 g7
      go_wp2
      go_roundw
      case rel => exact ⟨k + 1, by omega, by go_num, hbr.drew.trans (hb3.mono hbr.size)⟩
      case measure => simp [intOf]; omega
    · go_wp2
      go_ret
      exact ⟨rfl, hbr⟩
end Go.Proofs.Ythcpgbfghededaa
