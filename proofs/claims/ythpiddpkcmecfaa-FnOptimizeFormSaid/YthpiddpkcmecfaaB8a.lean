/- The marks on a circuit; what they leave alone. -/
import Derived.Test.YthpiddpkcmecfaaB3a
namespace Go.Proofs.Ythpiddpkcmecfaa
open Go.RowKit Go.Deep

/-- Outside the blocks from lo to hi nothing has changed. -/
structure Mid (lo hi : Nat) (w w' : World) : Prop where
  os : w'.os = w.os
  tape : w'.tape = w.tape
  output : w'.output = w.output
  size : w.heap.size ≤ w'.heap.size
  block : ∀ k, k < w.heap.size → (k < lo ∨ hi ≤ k) → w'.heap[k]? = w.heap[k]?
theorem Mid.trans {lo hi : Nat} {a b c : World} (h : Mid lo hi a b) (k : Mid lo hi b c) : Mid lo hi a c :=
  ⟨k.os.trans h.os, k.tape.trans h.tape, k.output.trans h.output, Nat.le_trans h.size k.size, fun i hi hb => (k.block i (Nat.lt_of_lt_of_le hi h.size) hb).trans (h.block i hi hb)⟩
theorem Mid.wide {lo hi lo' hi' : Nat} {w w' : World} (h : Mid lo hi w w') (h1 : lo' ≤ lo) (h2 : hi ≤ hi') : Mid lo' hi' w w' :=
  ⟨h.os, h.tape, h.output, h.size, fun k hk hb => h.block k hk (by omega)⟩
theorem Below.mid {w w' : World} {B : Nat} (h : Below B w w') (hB : w.heap.size ≤ B) (lo hi : Nat) : Mid lo hi w w' :=
  ⟨h.os, h.tape, h.output, h.size, fun k hk _ => h.block k (by omega)⟩
theorem Only.mid {w w' : World} {g lo hi : Nat} (h : Only (some g) w w') (h1 : lo ≤ g) (h2 : g < hi) : Mid lo hi w w' :=
  ⟨h.grown.os, h.grown.tape, h.grown.output, h.grown.size, fun k hk hb => h.grown.block k hk (by intro e; injection e; omega)⟩
theorem Mid.below {lo hi : Nat} {w w' : World} (h : Mid lo hi w w') (hs : lo ≤ w.heap.size) : Below lo w w' :=
  ⟨h.os, h.tape, h.output, h.size, fun k hk => h.block k (by omega) (.inl hk)⟩
theorem Mid.row {lo hi : Nat} {w w' : World} (h : Mid lo hi w w') {g : Nat} {t : TypeId} {cs : Array Value} (hr : Row w g t cs) (hg : g < lo ∨ hi ≤ g) : Row w' g t cs := (h.block g hr.lt hg).trans hr
theorem Mid.brow {lo hi : Nat} {w w' : World} (h : Mid lo hi w w') {g : Nat} {xs : List Bool} (hr : BRow w g xs) (hg : g < lo ∨ hi ≤ g) : BRow w' g xs := by
  obtain ⟨cs, hr, hf⟩ := hr
  exact ⟨cs, h.row hr hg, hf⟩
theorem Mid.bools {lo hi B : Nat} {w w' : World} (h : Mid lo hi w w') {A : Option Addr} {xs : List Bool} (hr : BoolsAt w B A xs) (hB : B ≤ lo) (hs : lo ≤ w.heap.size) : BoolsAt w' B A xs := hr.below ((h.below hs).mono hB)

theorem IRow.slots {w : World} {g : Nat} {xs : List Int} (h : IRow w g xs) : ∃ cs, Row w g 3 cs ∧ cs.size = xs.length := by
  obtain ⟨cs, hr, hf⟩ := h
  exact ⟨cs, hr, hf.1⟩
theorem GRow.slots {w : World} {g : Nat} {xs : List (Int × Int)} (h : GRow w g xs) : ∃ cs, Row w g 46 cs ∧ cs.size = xs.length * 2 := by
  obtain ⟨cs, hr, hf⟩ := h
  exact ⟨cs, hr, hf.1⟩

set_option maxHeartbeats 400000 in
theorem markCircuit_any (i : Int) (B g1 g2 g3 k : Nat) (ns : List Int) (gs : List (Int × Int)) (os : List Int) (w : World) (h : CircRows w B g1 g2 g3 ns gs os) (hnl : ns.length ≤ 2000000) (hgl : gs.length ≤ 2000000) (hol : os.length ≤ 2000000) (hk : k ≤ 1000) :
    Calls Try.prog 40 #[.agg #[.int .i64 i, .slice (some ⟨g1, 0, none⟩) ns.length ns.length, .slice (some ⟨g2, 0, none⟩) gs.length gs.length, .slice (some ⟨g3, 0, none⟩) os.length os.length], .int .i64 k] w fun e w' =>
      e = .returned (.int .i64 ((k + ns.length + 2 * gs.length + os.length : Nat) : Int)) ∧ Mid g1 (g3 + 1) w w' := by
  have h12 := h.b1
  have h23 := h.b2
  have hz3 := h.outs.lt
  obtain ⟨cs1, hr1, hs1⟩ := h.next.slots
  obtain ⟨cs2, hr2, hs2⟩ := h.gates.slots
  obtain ⟨cs3, hr3, hs3⟩ := h.outs.slots
  have hbw : Below w.heap.size w (w.alloc (.cells #[.int .i64 i, .slice (some ⟨g1, 0, none⟩) ns.length ns.length, .slice (some ⟨g2, 0, none⟩) gs.length gs.length, .slice (some ⟨g3, 0, none⟩) os.length os.length] 26)) := (Below.refl _ _).alloc (Nat.le_refl _) _
  have r0 : Row (w.alloc (.cells #[.int .i64 i, .slice (some ⟨g1, 0, none⟩) ns.length ns.length, .slice (some ⟨g2, 0, none⟩) gs.length gs.length, .slice (some ⟨g3, 0, none⟩) os.length os.length] 26)) w.heap.size 26 #[.int .i64 i, .slice (some ⟨g1, 0, none⟩) ns.length ns.length, .slice (some ⟨g2, 0, none⟩) gs.length gs.length, .slice (some ⟨g3, 0, none⟩) os.length os.length] := heap_alloc_new w _
  have HR0 := Lib.hid r0
  have HM0 := Lib.hid (Below.mid hbw (Nat.le_refl _) g1 (g3 + 1))
  have H1 := Lib.hid (hr1.below hbw hr1.lt)
  have H2 := Lib.hid (hr2.below hbw hr2.lt)
  have H3 := Lib.hid (hr3.below hbw hr3.lt)
  have S1 := Lib.hid hs1
  have S2 := Lib.hid hs2
  have S3 := Lib.hid hs3
  clear h hr1 hr2 hr3 hs1 hs2 hs3 hbw r0
  go_enter Try.func40, Try.ntmps40
  go_wp2_with fail
  refine (markI_row g1 _ k cs1 _ H1.out S1.out hnl (by omega)).mono ?_
  rintro e w1 ⟨rfl, ho1⟩
  have HR1 := Lib.hid (ho1.row HR0.out (by intro e; injection e; omega))
  have HM1 := Lib.hid (HM0.out.trans (ho1.mid (Nat.le_refl _) (by omega)))
  have H21 := Lib.hid (ho1.row H2.out (by intro e; injection e; omega))
  have H31 := Lib.hid (ho1.row H3.out (by intro e; injection e; omega))
  clear ho1 HR0 HM0 H1 H2 H3
  have q2 := HR1.out.cell 2
  simp at q2
  generalize hk1 : k + ns.length = k1 at *
  have HK1 := Lib.hid hk1
  have hk1b : k1 ≤ 3000000 := by omega
  clear hk1
  go_wp2_with fail
  refine (markG_row g2 _ k1 cs2 _ H21.out S2.out hgl (by omega)).mono ?_
  rintro e w2 ⟨rfl, ho2⟩
  have HR2 := Lib.hid (ho2.row HR1.out (by intro e; injection e; omega))
  have HM2 := Lib.hid (HM1.out.trans (ho2.mid (by omega) (by omega)))
  have H32 := Lib.hid (ho2.row H31.out (by intro e; injection e; omega))
  clear ho2 HR1 HM1 H21 H31 q2
  have q3 := HR2.out.cell 3
  simp at q3
  generalize hk2 : k1 + 2 * gs.length = k2 at *
  have HK2 := Lib.hid hk2
  have hk2b : k2 ≤ 10000000 := by omega
  clear hk2
  go_wp2_with fail
  refine (markI_row g3 _ k2 cs3 _ H32.out S3.out hol (by omega)).mono ?_
  rintro e w3 ⟨rfl, ho3⟩
  have HM3 := Lib.hid (HM2.out.trans (ho3.mid (by omega) (by omega)))
  clear ho3
  go_wp2
  go_ret
  exact ⟨ret_int (by have h1 := HK1.out; have h2 := HK2.out; omega), HM3.out⟩
end Go.Proofs.Ythpiddpkcmecfaa
