/- The law FnExactFabricReset walked. -/
import Derived.Test.YtkkkkalgfmddbaaKQ
namespace Go.Proofs.Ytkkkkalgfmddbaa
open Go.RowKit Go.Deep

set_option maxRecDepth 10000 in
set_option maxHeartbeats 1600000 in
theorem xreset_walk (w : World) : Calls Try.prog 6 #[] w fun e w' => e = .returned (.bool true) ∧ Below w.heap.size w w' := by
  have hz25 : (List.replicate 25 false).length = 25 := List.length_replicate
  go_enter Try.func6, Try.ntmps6
  go_wp2_with fail
  refine (sreset_any _).mono ?_
  rintro e w1 ⟨gw, rfl, hw1, hc1, hb1⟩
  have hg1 := hc1.lt
  have hb2 : Below w1.heap.size w1 (w1.alloc (.cells #[.slice (some ⟨gw, 0, none⟩) 25 25] 43)) := (Below.refl _ _).alloc (Nat.le_refl _) _
  have hA2 : Row (w1.alloc (.cells #[.slice (some ⟨gw, 0, none⟩) 25 25] 43)) w1.heap.size 43 #[.slice (some ⟨gw, 0, none⟩) 25 25] := heap_alloc_new w1 _
  have hz2 : (w1.alloc (.cells #[.slice (some ⟨gw, 0, none⟩) 25 25] 43)).heap.size = w1.heap.size + 1 := by simp
  have hs1 := hb1.size
  have hc2 := hc1.on hb2
  have hl2 := hb1.trans (hb2.mono hs1)
  clear hb2 hc1 hb1
  go_wp2_with fail
  generalize w1.alloc (.cells #[.slice (some ⟨gw, 0, none⟩) 25 25] 43) = w2 at *
  generalize w1.heap.size = a1 at *
  refine (ireset_any _).mono ?_
  rintro e w3 ⟨gg, rfl, hw3, hc3, hb3⟩
  have hg3 := hc3.lt
  have hb4 : Below w3.heap.size w3 (w3.alloc (.cells #[.slice (some ⟨gg, 0, none⟩) 25 25] 43)) := (Below.refl _ _).alloc (Nat.le_refl _) _
  have hB4 : Row (w3.alloc (.cells #[.slice (some ⟨gg, 0, none⟩) 25 25] 43)) w3.heap.size 43 #[.slice (some ⟨gg, 0, none⟩) 25 25] := heap_alloc_new w3 _
  have hz4 : (w3.alloc (.cells #[.slice (some ⟨gg, 0, none⟩) 25 25] 43)).heap.size = w3.heap.size + 1 := by simp
  have hs3 := hb3.size
  have hc4 := hc3.on hb4
  have hd4 := (hc2.on hb3).on hb4
  have hA4 := (hA2.below hb3 (by omega)).below hb4 (by omega)
  have hl4 := (hl2.trans (hb3.mono (by omega))).trans (hb4.mono (by omega))
  clear hb3 hb4 hc3 hc2 hA2 hl2
  have p0 := hA4.cell 0
  have q0 := hB4.cell 0
  simp at p0 q0
  have HA4 := Lib.hid hA4
  have HB4 := Lib.hid hB4
  have HC4 := Lib.hid hc4
  have HD4 := Lib.hid hd4
  have HL4 := Lib.hid hl4
  clear hA4 hB4 hc4 hd4 hl4
  go_wp2_with fail
  generalize w3.alloc (.cells #[.slice (some ⟨gg, 0, none⟩) 25 25] 43) = w4 at *
  generalize w3.heap.size = a3 at *
  refine (eqFst_any _ _ 25 _ _ _ _ hz25 HC4.out.bools HD4.out.bools (by omega)).mono ?_
  rintro e w5 ⟨rfl, hb5⟩
  have hs5 := hb5.size
  have HA5 := Lib.hid (HA4.out.below hb5 (by omega))
  have HB5 := Lib.hid (HB4.out.below hb5 (by omega))
  have HC5 := Lib.hid (HC4.out.on hb5)
  have HD5 := Lib.hid (HD4.out.on hb5)
  have HL5 := Lib.hid (HL4.out.trans (hb5.mono (by omega)))
  clear HA4 HB4 HC4 HD4 HL4 hb5 p0 q0
  have q0 := HB5.out.cell 0
  simp at q0
  go_wp2_with fail
  refine (markFst_any gg 25 1 _ w5 HC5.out hz25 (by omega) (by omega)).mono ?_
  rintro e w6 ⟨rfl, hc6, hm6⟩
  have hs6 := hm6.size
  have HA6 := Lib.hid (hm6.row HA5.out (.inl (by omega)))
  have HB6 := Lib.hid (hm6.row HB5.out (.inr (by omega)))
  have HC6 := Lib.hid hc6
  have HD6 := Lib.hid (hm6.brow HD5.out (.inl (by omega)))
  have HL6 := Lib.hid (HL5.out.trans ((hm6.below (by omega)).mono (show w.heap.size ≤ gg by omega)))
  clear HA5 HB5 HC5 HD5 HL5 hm6 hc6 q0
  have q0 := HB6.out.cell 0
  simp at q0
  go_wp2_with fail
  refine (heldFst_any gg 25 1 w6 HC6.out (by omega) (by omega)).mono ?_
  rintro e w7 ⟨rfl, hb7⟩
  have hs7 := hb7.size
  have HA7 := Lib.hid (HA6.out.below hb7 (by omega))
  have HB7 := Lib.hid (HB6.out.below hb7 (by omega))
  have HC7 := Lib.hid (HC6.out.on hb7)
  have HD7 := Lib.hid (HD6.out.on hb7)
  have HL7 := Lib.hid (HL6.out.trans (hb7.mono (by omega)))
  clear HA6 HB6 HC6 HD6 HL6 hb7 q0
  go_wp2_with fail
  refine (ireset_any _).mono ?_
  rintro e w8 ⟨gh, rfl, hw8, hc8, hb8⟩
  have hb9 : Below w8.heap.size w8 (w8.alloc (.cells #[.slice (some ⟨gh, 0, none⟩) 25 25] 43)) := (Below.refl _ _).alloc (Nat.le_refl _) _
  have hz9 : w8.heap.size ≤ (w8.alloc (.cells #[.slice (some ⟨gh, 0, none⟩) 25 25] 43)).heap.size := by simp
  have hs8 := hb8.size
  have HA9 := Lib.hid ((HA7.out.below hb8 (by omega)).below hb9 (by omega))
  have HB9 := Lib.hid ((HB7.out.below hb8 (by omega)).below hb9 (by omega))
  have HC9 := Lib.hid ((HC7.out.on hb8).on hb9)
  have HD9 := Lib.hid ((HD7.out.on hb8).on hb9)
  have HH9 := Lib.hid (hc8.on hb9)
  have HL9 := Lib.hid ((HL7.out.trans (hb8.mono (by omega))).trans (hb9.mono (by omega)))
  clear HA7 HB7 HC7 HD7 HL7 hb8 hb9 hc8
  have p0 := HA9.out.cell 0
  simp at p0
  go_wp2_with fail
  generalize w8.alloc (.cells #[.slice (some ⟨gh, 0, none⟩) 25 25] 43) = w9 at *
  generalize w8.heap.size = a8 at *
  refine (eqFst_any _ _ 25 _ _ _ _ hz25 HH9.out.bools HD9.out.bools (by omega)).mono ?_
  rintro e w10 ⟨rfl, hb10⟩
  have hs10 := hb10.size
  have HB10 := Lib.hid (HB9.out.below hb10 (by omega))
  have HC10 := Lib.hid (HC9.out.on hb10)
  have HL10 := Lib.hid (HL9.out.trans (hb10.mono (by omega)))
  clear HA9 HB9 HC9 HD9 HH9 HL9 hb10 p0
  have q0 := HB10.out.cell 0
  simp at q0
  go_wp2_with fail
  refine (heldFst_any gg 25 1 w10 HC10.out (by omega) (by omega)).mono ?_
  rintro e w11 ⟨rfl, hb11⟩
  have HL11 := Lib.hid (HL10.out.trans (hb11.mono (by omega)))
  clear HB10 HC10 HL10 hb11 q0
  go_wp2
  go_ret
  exact ⟨rfl, HL11.out⟩
end Go.Proofs.Ytkkkkalgfmddbaa
