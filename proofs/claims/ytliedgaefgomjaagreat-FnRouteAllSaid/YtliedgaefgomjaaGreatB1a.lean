/- Lists of truth values in memory. -/
import Derived.Test.YtliedgaefgomjaaGreatW3
import Derived.Test.YtliedgaefgomjaaGreatW5
import Derived.Test.YtliedgaefgomjaaGreatQA
import Derived.Laws.BitsAllLaws
namespace Go.Proofs.YtliedgaefgomjaaGreat
open Go.RowKit Go.Deep

def BoolsAt (w : World) (B : Nat) (A : Option Addr) (xs : List Bool) : Prop :=
  ∀ k, k < xs.length → ∃ b off, A = some ⟨b, off, none⟩ ∧ b < B ∧ w.cell? ⟨b, off + k, none⟩ = some (.bool (xs.getD k false))
theorem BoolsAt.below {w w' : World} {B : Nat} {A : Option Addr} {xs : List Bool} (h : BoolsAt w B A xs) (hb : Below B w w') : BoolsAt w' B A xs := fun k hk => by
  obtain ⟨b, off, e, hlt, hc⟩ := h k hk
  exact ⟨b, off, e, hlt, (hb.cell (p := ⟨b, off + k, none⟩) hlt).trans hc⟩
theorem BoolsAt.mono {w : World} {B B' : Nat} {A : Option Addr} {xs : List Bool} (h : BoolsAt w B A xs) (hb : B ≤ B') : BoolsAt w B' A xs := fun k hk => by
  obtain ⟨b, off, e, hlt, hc⟩ := h k hk
  exact ⟨b, off, e, by omega, hc⟩
theorem BoolsAt.on {w w' : World} {A : Option Addr} {xs : List Bool} (h : BoolsAt w w.heap.size A xs) (hb : Below w.heap.size w w') : BoolsAt w' w'.heap.size A xs := (h.below hb).mono hb.size
theorem BoolsAt.nil (w : World) (B : Nat) (A : Option Addr) : BoolsAt w B A [] := fun k hk => absurd hk (by simp)

def FilledB (cs : Array Value) (xs : List Bool) (k : Nat) : Prop := cs.size = xs.length ∧ ∀ j, j < k → cs[j]? = some (.bool (xs.getD j false))
theorem FilledB.start {cs : Array Value} {xs : List Bool} (h : cs.size = xs.length) : FilledB cs xs 0 := ⟨h, fun j hj => absurd hj (by omega)⟩
theorem FilledB.step {cs : Array Value} {xs : List Bool} {k : Nat} (h : FilledB cs xs k) (hk : k < xs.length) : FilledB (cs.setIfInBounds k (.bool (xs.getD k false))) xs (k + 1) := by
  refine ⟨by simpa using h.1, fun j hj => ?_⟩
  by_cases e : k = j
  · subst e
    simp [h.1, hk]
  · rw [Array.getElem?_setIfInBounds_ne e]
    exact h.2 j (by omega)
/-- Block g is just these truth values. -/
def BRow (w : World) (g : Nat) (xs : List Bool) : Prop := ∃ cs, Row w g 4 cs ∧ FilledB cs xs xs.length
theorem BRow.lt {w : World} {g : Nat} {xs : List Bool} (h : BRow w g xs) : g < w.heap.size := by
  obtain ⟨cs, hr, hf⟩ := h
  exact hr.lt
theorem BRow.below {w w' : World} {B g : Nat} {xs : List Bool} (h : BRow w g xs) (hb : Below B w w') (hg : g < B) : BRow w' g xs := by
  obtain ⟨cs, hr, hf⟩ := h
  exact ⟨cs, hr.below hb hg, hf⟩
theorem BRow.on {w w' : World} {g : Nat} {xs : List Bool} (h : BRow w g xs) (hb : Below w.heap.size w w') : BRow w' g xs := h.below hb h.lt

theorem Tryz.infoB : (Tryz.prog.info? 4).map (fun i => (i.zero, i.size, i.bytes)) = some (some (.bool false), 1, 1) := by kernel_rfl

end Go.Proofs.YtliedgaefgomjaaGreat
/- The contracts of the marks: what a law writes into memory to see whether it is shared. -/
namespace Go.Proofs.YtliedgaefgomjaaGreat
open Go.RowKit Go.Deep

/-- Only block g may have changed, and no block is new. -/
structure Only (g : Option Nat) (w w' : World) : Prop where
  grown : w.grownBy w' g
  size : w'.heap.size = w.heap.size
theorem Only.refl (g : Option Nat) (w : World) : Only g w w := ⟨World.grownBy.refl w g, rfl⟩
theorem Only.set {w w' : World} {g : Nat} (h : Only (some g) w w') (j : Nat) (u : Value) : Only (some g) w (w'.setCell ⟨g, j, none⟩ u) :=
  ⟨⟨h.grown.os, h.grown.tape, h.grown.output, by simpa [World.setCell] using h.grown.size, fun k hk hne => (Below.heap_setCell w' ⟨g, j, none⟩ u k (by rintro rfl; exact hne rfl)).trans (h.grown.block k hk hne)⟩, by simpa [World.setCell] using h.size⟩
theorem Only.row {w w' : World} {o : Option Nat} (h : Only o w w') {g : Nat} {t : TypeId} {cs : Array Value} (hr : Row w g t cs) (hne : some g ≠ o) : Row w' g t cs := (h.grown.block g hr.lt hne).trans hr
theorem Only.below {w w' : World} {o : Option Nat} {B : Nat} (h : Only o w w') (hB : ∀ g, o = some g → B ≤ g) (hs : B ≤ w.heap.size) : Below B w w' :=
  ⟨h.grown.os, h.grown.tape, h.grown.output, h.grown.size, fun k hk => h.grown.block k (by omega) (fun e => by have := hB k e.symm; omega)⟩

set_option maxHeartbeats 400000 in
theorem markI_row (g n k : Nat) (cs : Array Value) (w : World) (hr : Row w g 3 cs) (hs : cs.size = n) (hn : n ≤ 2000000) (hk : k ≤ 1000000000) :
    Calls Tryz.prog 21 #[.slice (some ⟨g, 0, none⟩) n n, .int .i64 k] w fun e w' => e = .returned (.int .i64 ((k + n : Nat) : Int)) ∧ Only (some g) w w' := by
  have HR0 := Lib.hid hr
  have HS0 := Lib.hid hs
  clear hr hs
  go_enter Tryz.func21, Tryz.ntmps21
  go_wp2
  go_loopw [1, 5] (fun kv iv wr => ∃ (i : Nat) (cs : Array Value), i ≤ n ∧ iv = .int .i64 i ∧ kv = .int .i64 ((k : Int) + i) ∧ Hid (Row wr g 3 cs) ∧ Hid (cs.size = n) ∧ Hid (Only (some g) w wr)) (fun _ iv _ => n - (intOf iv).toNat)
  case atStart => exact ⟨0, cs, Nat.zero_le _, rfl, by simp, HR0, HS0, Lib.hid (Only.refl _ _)⟩
  case round =>
    clear HR0 HS0 cs
    obtain ⟨i, cs, hi, rfl, rfl, HRow, HF, HO⟩ := hrel
    by_cases hlt : i < n
    · have hsz : i < cs.size := by rw [HF.out]; exact hlt
      have hc0 : wr.cell? ⟨g, i, none⟩ = some cs[i] := by rw [HRow.out.cell, Array.getElem?_eq_getElem hsz]
      have hf0 := HRow.out.frozen i
      have HO2 := Lib.hid (HO.out.set i (.int .i64 ((k : Int) + i)))
      have HR2 := Lib.hid (HRow.out.set i (.int .i64 ((k : Int) + i)))
      have HF2 : Hid ((cs.setIfInBounds i (.int .i64 ((k : Int) + i))).size = n) := Lib.hid (by simpa using HF.out)
      generalize cs[i] = old at *
      go_wp2
      go_roundw
      case rel => exact ⟨i + 1, _, by omega, by go_num, by go_num, HR2, HF2, HO2⟩
      case measure => simp [intOf]; omega
    · obtain rfl : i = n := by omega
      go_wp2
      go_ret
      exact ⟨rfl, HO.out⟩

set_option maxHeartbeats 400000 in
theorem markG_row (g n k : Nat) (cs : Array Value) (w : World) (hr : Row w g 113 cs) (hs : cs.size = n * 2) (hn : n ≤ 2000000) (hk : k ≤ 1000000000) :
    Calls Tryz.prog 41 #[.slice (some ⟨g, 0, none⟩) n n, .int .i64 k] w fun e w' => e = .returned (.int .i64 ((k + 2 * n : Nat) : Int)) ∧ Only (some g) w w' := by
  have HR0 := Lib.hid hr
  have HS0 := Lib.hid hs
  clear hr hs
  go_enter Tryz.func41, Tryz.ntmps41
  go_wp2
  go_loopw [1, 5] (fun kv iv wr => ∃ (i : Nat) (cs : Array Value), i ≤ n ∧ iv = .int .i64 i ∧ kv = .int .i64 ((k : Int) + 2 * i) ∧ Hid (Row wr g 113 cs) ∧ Hid (cs.size = n * 2) ∧ Hid (Only (some g) w wr)) (fun _ iv _ => n - (intOf iv).toNat)
  case atStart => exact ⟨0, cs, Nat.zero_le _, rfl, by simp, HR0, HS0, Lib.hid (Only.refl _ _)⟩
  case round =>
    clear HR0 HS0 cs
    obtain ⟨i, cs, hi, rfl, rfl, HRow, HF, HO⟩ := hrel
    by_cases hlt : i < n
    · have hsz : i * 2 + 1 < cs.size := by rw [HF.out]; omega
      have hc0 : wr.cell? ⟨g, i * 2, none⟩ = some (cs[i * 2]'(by omega)) := by rw [HRow.out.cell, Array.getElem?_eq_getElem (by omega)]
      have hc1 : wr.cell? ⟨g, i * 2 + 1, none⟩ = some cs[i * 2 + 1] := by rw [HRow.out.cell, Array.getElem?_eq_getElem hsz]
      have hf0 := HRow.out.frozen (i * 2)
      have hf1 := HRow.out.frozen (i * 2 + 1)
      have HO2 := Lib.hid ((HO.out.set (i * 2) (.int .i64 ((k : Int) + 2 * i))).set (i * 2 + 1) (.int .i64 ((k : Int) + 2 * i + 1)))
      have HR2 := Lib.hid ((HRow.out.set (i * 2) (.int .i64 ((k : Int) + 2 * i))).set (i * 2 + 1) (.int .i64 ((k : Int) + 2 * i + 1)))
      have HF2 : Hid (((cs.setIfInBounds (i * 2) (.int .i64 ((k : Int) + 2 * i))).setIfInBounds (i * 2 + 1) (.int .i64 ((k : Int) + 2 * i + 1))).size = n * 2) := Lib.hid (by simpa using HF.out)
      generalize cs[i * 2]'(by omega) = old0 at *
      generalize cs[i * 2 + 1] = old1 at *
      go_wp2
      go_roundw
      case rel => exact ⟨i + 1, _, by omega, by go_num, by go_num, HR2, HF2, HO2⟩
      case measure => simp [intOf]; omega
    · obtain rfl : i = n := by omega
      go_wp2
      go_ret
      exact ⟨ret_int (by omega), HO.out⟩
end Go.Proofs.YtliedgaefgomjaaGreat
/- The contracts of the bit set. -/
namespace Go.Proofs.YtliedgaefgomjaaGreat
open Go.RowKit Go.Deep

theorem word_bit (m v : Nat) (hm : m < 18446744073709551616) : (bits .and .u64 ((m : Int) / 2 ^ v) 1 == 1) = m.testBit v := by
  have h : (m : Int) / 2 ^ v = ((m / 2 ^ v : Nat) : Int) := by simp
  have hlt : m / 2 ^ v < 18446744073709551616 := Nat.lt_of_le_of_lt (Nat.div_le_self _ _) hm
  rw [h, show (1 : Int) = ((1 : Nat) : Int) from rfl, u64_and_nat _ 1 hlt (by omega), Nat.and_one_is_mod, Nat.testBit_eq_decide_div_mod_eq]
  rcases Nat.mod_two_eq_zero_or_one (m / 2 ^ v) with e | e <;> rw [e] <;> rfl
theorem word_or (m v : Nat) (hm : m < 18446744073709551616) (hv : v < 64) : bits .or .u64 (m : Int) (IntKind.u64.wrap (2 ^ v)) = ((m ||| 2 ^ v : Nat) : Int) := by
  have h2 : 2 ^ v < 2 ^ 64 := Nat.pow_lt_pow_right (by omega) hv
  have h3 : ((2 : Int) ^ v) = ((2 ^ v : Nat) : Int) := by simp
  have h4 : IntKind.u64.wrap ((2 : Int) ^ v) = ((2 ^ v : Nat) : Int) := by
    rw [h3]
    generalize (2 ^ v : Nat) = c at h2 ⊢
    simp only [IntKind.wrap, IntKind.bits, IntKind.signed]
    simp
    omega
  rw [h4, u64_or_nat m (2 ^ v) hm (by omega)]
theorem i64_odd (n : Nat) (hn : n < 9223372036854775808) : bits .and .i64 (n : Int) 1 = ((n % 2 : Nat) : Int) := by
  have h1 : (BitVec.ofInt 64 (n : Int)).toNat = n := by
    rw [BitVec.ofInt_natCast, BitVec.toNat_ofNat]; exact Nat.mod_eq_of_lt (by omega)
  show IntKind.i64.wrap ((BitVec.ofInt 64 (n : Int) &&& BitVec.ofInt 64 ((1 : Nat) : Int)).toNat : Int) = _
  have h2 : (BitVec.ofInt 64 ((1 : Nat) : Int)).toNat = 1 := by rfl
  rw [BitVec.toNat_and, h1, h2, Nat.and_one_is_mod, IntKind.wrap_i64]
  omega

set_option maxHeartbeats 400000 in
theorem has_any (g m v : Nat) (w : World) (hc : w.cell? ⟨g, 0, none⟩ = some (.int .u64 m)) (hv : v < 64) (hm : m < 18446744073709551616) :
    Calls Tryz.prog 48 #[.slice (some ⟨g, 0, none⟩) 1 1, .int .i64 v] w fun e w' => e = .returned (.bool (m.testBit v)) ∧ w = w' := by
  have d0 : (v : Int) / 64 = 0 := by omega
  have d1 : (v : Int) % 64 = v := by omega
  have d2 : v / 64 = 0 := by omega
  have HW := Lib.hid (word_bit m v hm)
  go_enter Tryz.func48, Tryz.ntmps48
  go_wp2
  go_ret
  exact ⟨ret_bool HW.out, rfl⟩

set_option maxHeartbeats 400000 in
theorem add_any (g m v : Nat) (t : TypeId) (w : World) (hR : Row w g t #[.int .u64 m]) (hv : v < 64) (hm : m < 18446744073709551616) :
    Calls Tryz.prog 49 #[.slice (some ⟨g, 0, none⟩) 1 1, .int .i64 v] w fun e w' => e = .returned (.tuple #[]) ∧ w' = w.setCell ⟨g, 0, none⟩ (.int .u64 (m ||| 2 ^ v : Nat)) := by
  have q0 := hR.cell 0
  have f0 := hR.frozen 0
  simp at q0
  have d0 : (v : Int) / 64 = 0 := by omega
  have d1 : (v : Int) % 64 = v := by omega
  have d2 : v / 64 = 0 := by omega
  have HW := Lib.hid (word_or m v hm hv)
  clear hR
  go_enter Tryz.func49, Tryz.ntmps49
  go_wp2
  go_end0
  exact ⟨rfl, by rw [HW.out]⟩

theorem litV_nat (L : List Bool) (n : Nat) : Circ.litV L (n : Int) = (L.getD (n / 2) false != ((n % 2 : Nat) == 1)) := by
  unfold Circ.litV
  have h1 : ((n : Int) / 2).toNat = n / 2 := by omega
  rw [h1]
  congr 1
  rcases Nat.mod_two_eq_zero_or_one n with e | e
  · rw [e, show (n : Int) % 2 = 0 by omega]; rfl
  · rw [e, show (n : Int) % 2 = 1 by omega]; rfl

theorem made_one (x : Value) : madeCells #[x] 1 = #[x] := by
  rw [← Array.toList_inj, toList_madeCells_one]
  rfl

theorem Tryz.infoU : (Tryz.prog.info? 121).map (fun i => (i.zero, i.size, i.bytes)) = some (some (.int .u64 0), 1, 8) := by kernel_rfl

set_option maxHeartbeats 400000 in
theorem newBitSet_any (n : Nat) (w : World) (h0 : 1 ≤ n) (h1 : n ≤ 64) :
    Calls Tryz.prog 47 #[.int .i64 n] w fun e w' => e = .returned (.slice (some ⟨w.heap.size, 0, none⟩) 1 1) ∧ Row w' w.heap.size 121 #[.int .u64 0] ∧ Below w.heap.size w w' := by
  have hd : ((n : Int) + 64 - 1) / 64 = 1 := by omega
  have hmk := fun W => run_make_row' (P := Tryz.prog) 87 121 (.int .u64 0) 8 Tryz.underlying87 Tryz.infoU rfl .i64 .i64 1 (by omega) (by omega) W
  simp at hmk
  go_enter Tryz.func47, Tryz.ntmps47
  go_wp2
  go_ret
  exact ⟨rfl, (by show (w.alloc _).heap[w.heap.size]? = _; rw [heap_alloc_new, made_one]), (Below.refl _ _).alloc (Nat.le_refl _) _⟩

end Go.Proofs.YtliedgaefgomjaaGreat
/- The marks on a circuit; what they leave alone. -/
namespace Go.Proofs.YtliedgaefgomjaaGreat
open Go.RowKit Go.Deep

/-- Outside the blocks from lo to hi nothing has changed. -/
structure Mid (lo hi : Nat) (w w' : World) : Prop where
  os : w'.os = w.os
  tape : w'.tape = w.tape
  output : w'.output = w.output
  size : w.heap.size ≤ w'.heap.size
  block : ∀ k, k < w.heap.size → (k < lo ∨ hi ≤ k) → w'.heap[k]? = w.heap[k]?
theorem Mid.trans {lo hi : Nat} {a b c : World} (h : Mid lo hi a b) (k : Mid lo hi b c) : Mid lo hi a c :=
  ⟨k.os.trans h.os, k.tape.trans h.tape, k.output.trans h.output, Nat.le_trans h.size k.size, fun i hi hb => (k.block i (Nat.lt_of_lt_of_le hi h.size) hb).trans (h.block i hi hb)⟩
theorem Mid.wide {lo hi lo' hi' : Nat} {w w' : World} (h : Mid lo hi w w') (h1 : lo' ≤ lo) (h2 : hi ≤ hi') : Mid lo' hi' w w' :=
  ⟨h.os, h.tape, h.output, h.size, fun k hk hb => h.block k hk (by omega)⟩
theorem Below.mid {w w' : World} {B : Nat} (h : Below B w w') (hB : w.heap.size ≤ B) (lo hi : Nat) : Mid lo hi w w' :=
  ⟨h.os, h.tape, h.output, h.size, fun k hk _ => h.block k (by omega)⟩
theorem Only.mid {w w' : World} {g lo hi : Nat} (h : Only (some g) w w') (h1 : lo ≤ g) (h2 : g < hi) : Mid lo hi w w' :=
  ⟨h.grown.os, h.grown.tape, h.grown.output, h.grown.size, fun k hk hb => h.grown.block k hk (by intro e; injection e; omega)⟩
theorem Mid.below {lo hi : Nat} {w w' : World} (h : Mid lo hi w w') (hs : lo ≤ w.heap.size) : Below lo w w' :=
  ⟨h.os, h.tape, h.output, h.size, fun k hk => h.block k (by omega) (.inl hk)⟩
theorem Mid.row {lo hi : Nat} {w w' : World} (h : Mid lo hi w w') {g : Nat} {t : TypeId} {cs : Array Value} (hr : Row w g t cs) (hg : g < lo ∨ hi ≤ g) : Row w' g t cs := (h.block g hr.lt hg).trans hr
theorem IRow.slots {w : World} {g : Nat} {xs : List Int} (h : IRow w g xs) : ∃ cs, Row w g 3 cs ∧ cs.size = xs.length := by
  obtain ⟨cs, hr, hf⟩ := h
  exact ⟨cs, hr, hf.1⟩
theorem GRow.slots {w : World} {g : Nat} {xs : List (Int × Int)} (h : GRow w g xs) : ∃ cs, Row w g 113 cs ∧ cs.size = xs.length * 2 := by
  obtain ⟨cs, hr, hf⟩ := h
  exact ⟨cs, hr, hf.1⟩

set_option maxHeartbeats 400000 in
theorem markCircuit_any (i : Int) (B g1 g2 g3 k : Nat) (ns : List Int) (gs : List (Int × Int)) (os : List Int) (w : World) (h : CircRows w B g1 g2 g3 ns gs os) (hnl : ns.length ≤ 2000000) (hgl : gs.length ≤ 2000000) (hol : os.length ≤ 2000000) (hk : k ≤ 1000) :
    Calls Tryz.prog 20 #[.agg #[.int .i64 i, .slice (some ⟨g1, 0, none⟩) ns.length ns.length, .slice (some ⟨g2, 0, none⟩) gs.length gs.length, .slice (some ⟨g3, 0, none⟩) os.length os.length], .int .i64 k] w fun e w' =>
      e = .returned (.int .i64 ((k + ns.length + 2 * gs.length + os.length : Nat) : Int)) ∧ Mid g1 (g3 + 1) w w' := by
  have h12 := h.b1
  have h23 := h.b2
  have hz3 := h.outs.lt
  obtain ⟨cs1, hr1, hs1⟩ := h.next.slots
  obtain ⟨cs2, hr2, hs2⟩ := h.gates.slots
  obtain ⟨cs3, hr3, hs3⟩ := h.outs.slots
  have hbw : Below w.heap.size w (w.alloc (.cells #[.int .i64 i, .slice (some ⟨g1, 0, none⟩) ns.length ns.length, .slice (some ⟨g2, 0, none⟩) gs.length gs.length, .slice (some ⟨g3, 0, none⟩) os.length os.length] 26)) := (Below.refl _ _).alloc (Nat.le_refl _) _
  have r0 : Row (w.alloc (.cells #[.int .i64 i, .slice (some ⟨g1, 0, none⟩) ns.length ns.length, .slice (some ⟨g2, 0, none⟩) gs.length gs.length, .slice (some ⟨g3, 0, none⟩) os.length os.length] 26)) w.heap.size 26 #[.int .i64 i, .slice (some ⟨g1, 0, none⟩) ns.length ns.length, .slice (some ⟨g2, 0, none⟩) gs.length gs.length, .slice (some ⟨g3, 0, none⟩) os.length os.length] := heap_alloc_new w _
  have HR0 := Lib.hid r0
  have HM0 := Lib.hid (Below.mid hbw (Nat.le_refl _) g1 (g3 + 1))
  have H1 := Lib.hid (hr1.below hbw hr1.lt)
  have H2 := Lib.hid (hr2.below hbw hr2.lt)
  have H3 := Lib.hid (hr3.below hbw hr3.lt)
  have S1 := Lib.hid hs1
  have S2 := Lib.hid hs2
  have S3 := Lib.hid hs3
  clear h hr1 hr2 hr3 hs1 hs2 hs3 hbw r0
  go_enter Tryz.func20, Tryz.ntmps20
  go_wp2_with fail
  refine (markI_row g1 _ k cs1 _ H1.out S1.out hnl (by omega)).mono ?_
  rintro e w1 ⟨rfl, ho1⟩
  have HR1 := Lib.hid (ho1.row HR0.out (by intro e; injection e; omega))
  have HM1 := Lib.hid (HM0.out.trans (ho1.mid (Nat.le_refl _) (by omega)))
  have H21 := Lib.hid (ho1.row H2.out (by intro e; injection e; omega))
  have H31 := Lib.hid (ho1.row H3.out (by intro e; injection e; omega))
  clear ho1 HR0 HM0 H1 H2 H3
  have q2 := HR1.out.cell 2
  simp at q2
  generalize hk1 : k + ns.length = k1 at *
  have HK1 := Lib.hid hk1
  have hk1b : k1 ≤ 3000000 := by omega
  clear hk1
  go_wp2_with fail
  refine (markG_row g2 _ k1 cs2 _ H21.out S2.out hgl (by omega)).mono ?_
  rintro e w2 ⟨rfl, ho2⟩
  have HR2 := Lib.hid (ho2.row HR1.out (by intro e; injection e; omega))
  have HM2 := Lib.hid (HM1.out.trans (ho2.mid (by omega) (by omega)))
  have H32 := Lib.hid (ho2.row H31.out (by intro e; injection e; omega))
  clear ho2 HR1 HM1 H21 H31 q2
  have q3 := HR2.out.cell 3
  simp at q3
  generalize hk2 : k1 + 2 * gs.length = k2 at *
  have HK2 := Lib.hid hk2
  have hk2b : k2 ≤ 10000000 := by omega
  clear hk2
  go_wp2_with fail
  refine (markI_row g3 _ k2 cs3 _ H32.out S3.out hol (by omega)).mono ?_
  rintro e w3 ⟨rfl, ho3⟩
  have HM3 := Lib.hid (HM2.out.trans (ho3.mid (by omega) (by omega)))
  clear ho3
  go_wp2
  go_ret
  exact ⟨ret_int (by have h1 := HK1.out; have h2 := HK2.out; omega), HM3.out⟩
end Go.Proofs.YtliedgaefgomjaaGreat
