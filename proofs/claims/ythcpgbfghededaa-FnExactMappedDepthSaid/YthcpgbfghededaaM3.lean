/- The contracts of the closure byPreference and of MinFunc over it. -/
import Derived.Test.YthcpgbfghededaaM2
namespace Go.Proofs.Ythcpgbfghededaa
open Go.RowKit Go.Deep Cut

set_option maxHeartbeats 1000000 in
theorem pref_any (A A1 A2 BA : Option Addr) (mb n m1 m2 p cap c1 c2 cp : Nat) (arr x y : List Nat) (w : World) (ha : IntsAt w w.heap.size A (Opt.intL arr)) (hx : IntsAt w w.heap.size A1 (Opt.intL x)) (hy : IntsAt w w.heap.size A2 (Opt.intL y)) (hn : arr.length = n) (hm1 : x.length = m1) (hm2 : y.length = m2) (hb1 : m1 ≤ 1000) (hb2 : m2 ≤ 1000) (hl1 : ∀ l, l ∈ x → l < n) (hl2 : ∀ l, l ∈ y → l < n) (hb : ∀ v, arr.getD v 0 ≤ 1000)
    (hk0 : w.cell? ⟨mb, 0, none⟩ = some (.slice A n cap)) (hk1 : w.cell? ⟨mb, 1, none⟩ = some (.slice BA p cp)) :
    Calls Try.prog 83 #[.slice A1 m1 c1, .slice A2 m2 c2, .pointer (some ⟨mb, 0, none⟩)] w fun e w' => e = .returned (.int .i64 (prefC arr x y)) ∧ Below w.heap.size w w' := by
  have HA := Lib.hid ha
  have HX := Lib.hid hx
  have HY := Lib.hid hy
  have HL1 := Lib.hid hl1
  have HL2 := Lib.hid hl2
  have HN := Lib.hid hn
  have HM1 := Lib.hid hm1
  have HM2 := Lib.hid hm2
  have HB := Lib.hid hb
  clear ha hx hy hl1 hl2 hb hn hm1 hm2
  go_enter Try.func83, Try.ntmps83
  go_wp2_with fail
  have hbw := (Below.refl w.heap.size w).alloc (Nat.le_refl _) (.cells #[.func (.func 85) #[.agg #[.slice A n cap, .slice BA p cp]] #[], .func (.func 86) #[] #[]] 105)
  have hr := heap_alloc_new w (.cells #[.func (.func 85) #[.agg #[.slice A n cap, .slice BA p cp]] #[], .func (.func 86) #[] #[]] 105)
  refine (byKeys_any A A1 A2 BA w.heap.size n m1 m2 p cap c1 c2 cp arr x y _ ((HA.out.below hbw).mono hbw.size) ((HX.out.below hbw).mono hbw.size) ((HY.out.below hbw).mono hbw.size) HN.out HM1.out HM2.out hb1 hb2 HL1.out HL2.out HB.out (by simp) ((Row.cell hr) 0) ((Row.cell hr) 1)).mono ?_
  rintro e w1 ⟨rfl, hb1⟩
  go_wp2
  go_ret
  exact ⟨rfl, hbw.trans (hb1.mono hbw.size)⟩
end Go.Proofs.Ythcpgbfghededaa
