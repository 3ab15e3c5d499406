/- The contract of the reader of a code: pick answers a number in range and moves its position on. -/
import Derived.Test.YthpiddpkcmecfaaW4
import Derived.Test.YthpiddpkcmecfaaK
namespace Go.Proofs.Ythpiddpkcmecfaa
open Go.RowKit Go.Deep

theorem gb_set {w w' : World} {R : Nat} (h : w.grownBy w' (some R)) (j : Nat) (u : Value) : w.grownBy (w'.setCell ⟨R, j, none⟩ u) (some R) :=
  ⟨h.os, h.tape, h.output, by simpa [World.setCell] using h.size, fun k hk hne => (Below.heap_setCell w' ⟨R, j, none⟩ u k (by rintro rfl; exact hne rfl)).trans (h.block k hk hne)⟩
theorem gb_drewN {w w' : World} {row : Option Nat} (h : w.grownBy w' row) (n : Nat) : w.grownBy (w'.drewN n) row := ⟨h.os, h.tape, h.output, h.size, h.block⟩
theorem gb_drew {w w' : World} {row : Option Nat} (h : w.grownBy w' row) : w.grownBy w'.drew row := ⟨h.os, h.tape, h.output, h.size, h.block⟩

def BytesAt (w : World) (R : Nat) (A : Option Addr) (n : Nat) : Prop :=
  ∀ k, k < n → ∃ b off z, A = some ⟨b, off, none⟩ ∧ b ≠ R ∧ b < w.heap.size ∧ w.cell? ⟨b, off + k, none⟩ = some (.int .u8 z) ∧ 0 ≤ z ∧ z ≤ 255

def PickOut (w : World) (R : Nat) (rb : Value) (p n : Int) (e : Ending) (w' : World) : Prop :=
  ∃ v : Int, e = .returned (.int .i64 v) ∧ 0 ≤ v ∧ (v < n ∨ n < 1 ∧ v = 0) ∧ Row w' R 90 #[rb, .int .i64 (p + 1)] ∧ w.grownBy w' (some R)

theorem pick_end {w w' : World} {R : Nat} {rb : Value} {p n v : Int} (hv : 0 ≤ v) (hn : v < n ∨ n < 1 ∧ v = 0) (hR : Row w' R 90 #[rb, .int .i64 (p + 1)]) (hg : w.grownBy w' (some R)) : PickOut w R rb p n (.returned (.int .i64 v)) w' :=
  ⟨v, rfl, hv, hn, hR, hg⟩

theorem ofInt64 (a : Nat) (ha : a < 9223372036854775808) : (BitVec.ofInt 64 (a : Int)).toNat = a := by
  rw [BitVec.ofInt_natCast, BitVec.toNat_ofNat]; exact Nat.mod_eq_of_lt (by omega)
theorem xor64 (a b : Nat) (ha : a < 9223372036854775808) (hb : b < 9223372036854775808) : bits .xor .i64 (a : Int) (b : Int) = ((a ^^^ b : Nat) : Int) := by
  have hx : a ^^^ b < 2 ^ 63 := Nat.xor_lt_two_pow (by omega) (by omega)
  show IntKind.i64.wrap ((BitVec.ofInt 64 (a : Int) ^^^ BitVec.ofInt 64 (b : Int)).toNat : Int) = _
  rw [BitVec.toNat_xor, ofInt64 a ha, ofInt64 b hb, IntKind.wrap_i64]
  omega
theorem xor_some (x : Int) (h0 : 0 ≤ x) (h1 : x ≤ 1000000000) : ∃ y : Nat, bits .xor .i64 x (x / 64) = (y : Int) ∧ y < 2 ^ 62 := by
  obtain ⟨a, rfl⟩ := Int.eq_ofNat_of_zero_le h0
  refine ⟨a ^^^ (a / 64), ?_, Nat.xor_lt_two_pow (by omega) (by omega)⟩
  rw [show ((a : Int) / 64) = ((a / 64 : Nat) : Int) from by omega]
  exact xor64 a (a / 64) (by omega) (by omega)

set_option maxHeartbeats 800000 in
theorem pick_any (R : Nat) (bA : Option Addr) (bl bc : Nat) (p n : Int) (w : World) (hR : Row w R 90 #[.slice bA bl bc, .int .i64 p]) (hb : BytesAt w R bA bl) (hbl : bl ≤ 2000) (hp0 : 0 ≤ p) (hp1 : p ≤ 100000) (hn0 : -1000000 ≤ n) (hn1 : n ≤ 1000000) :
    Calls Try.prog 82 #[.pointer (some ⟨R, 0, none⟩), .int .i64 n] w (PickOut w R (.slice bA bl bc) p n) := by
  have HB := Lib.hid hb
  have q0 := hR.cell 0
  have q1 := hR.cell 1
  have f1 := hR.frozen 1
  simp at q0 q1
  have HR1 := Lib.hid (hR.set 1 (.int .i64 (p + 1)))
  simp at HR1
  have HG1 := Lib.hid (gb_set (World.grownBy.refl w (some R)) 1 (.int .i64 (p + 1)))
  clear hR hb
  by_cases hn : n < 1
  · go_enter Try.func82, Try.ntmps82
    go_wp2
    go_ret
    exact pick_end (by omega) (.inr ⟨hn, rfl⟩) HR1.out HG1.out
  · by_cases hl : bl = 0
    · subst hl
      go_enter Try.func82, Try.ntmps82
      go_wp2
      go_ret
      exact pick_end (by omega) (.inl (by omega)) HR1.out HG1.out
    · have hl0 : ((bl : Int) == 0) = false := by simp; omega
      obtain ⟨k, rfl⟩ := Int.eq_ofNat_of_zero_le hp0
      by_cases hk : k < bl
      · obtain ⟨b, off, z, rfl, hbR, hbw, hc, hz0, hz1⟩ := HB.out k hk
        have hc' : (w.setCell ⟨R, 1, none⟩ (.int .i64 ((k : Int) + 1))).cell? ⟨b, off + k, none⟩ = some (.int .u8 z) := (World.cell?_of_block (Below.heap_setCell w ⟨R, 1, none⟩ _ b hbR)).trans hc
        clear hc
        go_enter Try.func82, Try.ntmps82
        go_wp2
        go_ret
        exact pick_end (Int.emod_nonneg _ (by omega)) (.inl (Int.emod_lt_of_pos _ (by omega))) HR1.out HG1.out
      · have hm1 : k % bl < bl := Nat.mod_lt _ (by omega)
        have hm2 : (k * 7 + 3) % bl < bl := Nat.mod_lt _ (by omega)
        obtain ⟨b, off, z, rfl, hbR, hbw, hc, hz0, hz1⟩ := HB.out (k % bl) hm1
        obtain ⟨b2, off2, z2, he2, _, _, hd, hy0, hy1⟩ := HB.out ((k * 7 + 3) % bl) hm2
        injection he2 with he2
        injection he2 with e1 e2
        subst e1 e2
        have hc' : (w.setCell ⟨R, 1, none⟩ (.int .i64 ((k : Int) + 1))).cell? ⟨b, off + k % bl, none⟩ = some (.int .u8 z) := (World.cell?_of_block (Below.heap_setCell w ⟨R, 1, none⟩ _ b hbR)).trans hc
        have hd' : (w.setCell ⟨R, 1, none⟩ (.int .i64 ((k : Int) + 1))).cell? ⟨b, off + (k * 7 + 3) % bl, none⟩ = some (.int .u8 z2) := (World.cell?_of_block (Below.heap_setCell w ⟨R, 1, none⟩ _ b hbR)).trans hd
        clear hc hd
        have c0 := HR1.out.cell 0
        simp at c0
        go_enter Try.func82, Try.ntmps82
        go_wp2
        have m1 : (k : Int).tmod (bl : Int) = ((k % bl : Nat) : Int) := by rw [Int.tmod_eq_emod_of_nonneg (by omega)]; omega
        have m2 : ((k : Int) * 7 + 3).tmod (bl : Int) = (((k * 7 + 3) % bl : Nat) : Int) := by rw [Int.tmod_eq_emod_of_nonneg (by omega), show ((k : Int) * 7 + 3) = ((k * 7 + 3 : Nat) : Int) from by omega]; rfl
        have m3 : (k : Int).tdiv (bl : Int) = ((k / bl : Nat) : Int) := by rw [Int.tdiv_eq_ediv_of_nonneg (by omega)]; omega
        have hdd : k / bl ≤ k := Nat.div_le_self _ _
        generalize k % bl = qa at *
        generalize (k * 7 + 3) % bl = qb at *
        generalize k / bl = dd at *
        have hk100 : k ≤ 100000 := by omega
        have b1 : (0 : Int) ≤ (qa : Int) := by omega
        have b2 : (qa : Int) < (bl : Int) := by omega
        have b3 : (0 : Int) ≤ (qb : Int) := by omega
        have b4 : (qb : Int) < (bl : Int) := by omega
        have s0 : IntKind.i64.wrap (qa : Int) = qa := IntWalk.i64_in _ (by omega)
        have s1 : IntKind.i64.wrap (qb : Int) = qb := IntWalk.i64_in _ (by omega)
        have s2 : IntKind.i64.wrap z = z := IntWalk.i64_in _ (by omega)
        have s3 : IntKind.i64.wrap z2 = z2 := IntWalk.i64_in _ (by omega)
        have s4 : IntKind.i64.wrap (z * 131) = z * 131 := IntWalk.i64_in _ (by omega)
        have s5 : IntKind.i64.wrap (z2 * 1117) = z2 * 1117 := IntWalk.i64_in _ (by omega)
        have s6 : IntKind.i64.wrap ((k : Int) * 7) = (k : Int) * 7 := IntWalk.i64_in _ (by omega)
        have s7 : IntKind.i64.wrap ((k : Int) * 7 + 3) = (k : Int) * 7 + 3 := IntWalk.i64_in _ (by omega)
        have s8 : IntKind.i64.wrap (z * 131 + z2 * 1117) = z * 131 + z2 * 1117 := IntWalk.i64_in _ (by omega)
        have s9 : IntKind.i64.wrap ((k : Int) * 29) = (k : Int) * 29 := IntWalk.i64_in _ (by omega)
        have s10 : IntKind.i64.wrap (z * 131 + z2 * 1117 + (k : Int) * 29) = z * 131 + z2 * 1117 + (k : Int) * 29 := IntWalk.i64_in _ (by omega)
        have s11 : IntKind.i64.wrap (dd : Int) = dd := IntWalk.i64_in _ (by omega)
        have s12 : IntKind.i64.wrap ((dd : Int) * 53) = (dd : Int) * 53 := IntWalk.i64_in _ (by omega)
        have s13 : IntKind.i64.wrap (z * 131 + z2 * 1117 + (k : Int) * 29 + (dd : Int) * 53) = z * 131 + z2 * 1117 + (k : Int) * 29 + (dd : Int) * 53 := IntWalk.i64_in _ (by omega)
        generalize hw5 : w.setCell ⟨R, 1, none⟩ (.int .i64 ((k : Int) + 1)) = w5 at *
        clear hw5 q0 q1 f1
        go_quiet (fail)
        obtain ⟨x, hx, hx0, hx1⟩ : ∃ x : Int, z * 131 + z2 * 1117 + (k : Int) * 29 + (dd : Int) * 53 = x ∧ 0 ≤ x ∧ x ≤ 1000000000 := ⟨_, rfl, by omega, by omega⟩
        clear s0 s1 s2 s3 s4 s5 s6 s7 s8 s9 s10 s11 s12 s13 m1 m2 m3 b1 b2 b3 b4
        rw [hx]
        clear hx hc' hd' c0 hl0
        obtain ⟨y, hy, hy2⟩ := xor_some x hx0 hx1
        go_wp2
        go_ret
        exact pick_end (Int.emod_nonneg _ (by omega)) (.inl (Int.emod_lt_of_pos _ (by omega))) HR1.out (gb_drewN HG1.out _)
end Go.Proofs.Ythpiddpkcmecfaa
