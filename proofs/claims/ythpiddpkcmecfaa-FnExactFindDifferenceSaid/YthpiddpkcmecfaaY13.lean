/- The contracts of comparison and marks of a counterexample. -/
import Derived.Test.YthpiddpkcmecfaaB9
namespace Go.Proofs.Ythpiddpkcmecfaa
open Go.RowKit Go.Deep

set_option maxHeartbeats 400000 in
theorem eqCtr_any (b : Bool) (A1 A2 C1 C2 : Option Addr) (a1 a2 c1 c2 : Nat) (xs ys : List Bool) (w : World) (h1 : BoolsAt w w.heap.size A1 xs) (h2 : BoolsAt w w.heap.size A2 ys) (k1 : BoolsAt w w.heap.size C1 xs) (k2 : BoolsAt w w.heap.size C2 ys) (hx : xs.length ≤ 2000000) (hy : ys.length ≤ 2000000) :
    Calls Try.prog 42 #[.agg #[.bool b, .slice A1 xs.length a1, .slice A2 ys.length a2], .agg #[.bool b, .slice C1 xs.length c1, .slice C2 ys.length c2]] w fun e w' => e = .returned (.bool true) ∧ Below w.heap.size w w' := by
  have hb0 : Below w.heap.size w ((w.alloc (.cells #[.bool b, .slice A1 xs.length a1, .slice A2 ys.length a2] 50)).alloc (.cells #[.bool b, .slice C1 xs.length c1, .slice C2 ys.length c2] 50)) := ((Below.refl _ _).alloc (Nat.le_refl _) _).alloc (by simp) _
  have H1 := Lib.hid (h1.on hb0)
  have H2 := Lib.hid (h2.on hb0)
  have K1 := Lib.hid (k1.on hb0)
  have K2 := Lib.hid (k2.on hb0)
  have HL0 := Lib.hid hb0
  clear h1 h2 k1 k2 hb0
  go_enter Try.func42, Try.ntmps42
  go_wp2_with fail
  refine (eqBoolS_any A1 C1 a1 c1 xs _ H1.out K1.out hx).mono ?_
  rintro e w1 ⟨rfl, hb1⟩
  have HL1 := Lib.hid (HL0.out.trans (hb1.mono HL0.out.size))
  have H21 := Lib.hid (H2.out.on hb1)
  have K21 := Lib.hid (K2.out.on hb1)
  obtain ⟨hc1, hf1⟩ := bcell hb1
  go_wp2_with fail
  refine (eqBoolS_any A2 C2 a2 c2 ys _ H21.out K21.out hy).mono ?_
  rintro e w2 ⟨rfl, hb2⟩
  clear hc1 hf1
  go_wp2
  go_ret
  exact ⟨rfl, HL1.out.trans (hb2.mono HL1.out.size)⟩

/-- The marks on a pair: each list bears its own, numbered on. -/
def Marked (w : World) (lo : Nat) (A1 A2 : Option Addr) (k n m : Nat) : Prop := BPair w lo A1 A2 (mk3 k n) (mk3 (k + n) m)

theorem BSl.only {w w' : World} {lo : Nat} {A : Option Addr} {xs : List Bool} {o : Option Nat} (h : BSl w lo A xs) (ho : Only o w w') (hne : ∀ g, A = some ⟨g, 0, none⟩ → some g ≠ o) : BSl w' lo A xs := by
  rcases h with ⟨rfl, rfl⟩ | ⟨g, rfl, h1, h⟩
  · exact .inl ⟨rfl, rfl⟩
  · exact .inr ⟨g, rfl, h1, ho.brow h (hne g rfl)⟩
theorem BSl.addr {w : World} {lo : Nat} {A : Option Addr} {xs : List Bool} (h : BSl w lo A xs) : A = none ∨ ∃ g, A = some ⟨g, 0, none⟩ := by
  rcases h with ⟨rfl, rfl⟩ | ⟨g, rfl, h1, h⟩
  · exact .inl rfl
  · exact .inr ⟨g, rfl⟩

theorem BSl.lo {w : World} {lo g : Nat} {A : Option Addr} {xs : List Bool} (h : BSl w lo A xs) (hg : A = some ⟨g, 0, none⟩) : lo ≤ g := by
  rcases h with ⟨rfl, _⟩ | ⟨g', rfl, h1, _⟩
  · cases hg
  · injection hg with hg; injection hg with hg; omega
theorem BSl.lt {w : World} {lo g : Nat} {A : Option Addr} {xs : List Bool} (h : BSl w lo A xs) (hg : A = some ⟨g, 0, none⟩) : g < w.heap.size := by
  rcases h with ⟨rfl, _⟩ | ⟨g', rfl, h1, hb⟩
  · cases hg
  · injection hg with hg; injection hg with hg; subst hg; exact hb.lt
theorem BPair.lt {w : World} {lo : Nat} {A1 A2 : Option Addr} {xs ys : List Bool} (h : BPair w lo A1 A2 xs ys) : ∀ g, A1 = some ⟨g, 0, none⟩ ∨ A2 = some ⟨g, 0, none⟩ → g < w.heap.size := fun g hg => by
  rcases hg with hg | hg
  · exact h.fst.lt hg
  · exact h.snd.lt hg
theorem Only.midA {w w' : World} {A : Option Addr} {lo hi : Nat} (h : Only (A.map Addr.block) w w') (hA : ∀ g, A = some ⟨g, 0, none⟩ → lo ≤ g ∧ g < hi) (ha : A = none ∨ ∃ g, A = some ⟨g, 0, none⟩) : Mid lo hi w w' := by
  rcases ha with rfl | ⟨g, rfl⟩
  · exact ⟨h.grown.os, h.grown.tape, h.grown.output, h.grown.size, fun k hk _ => h.grown.block k hk (by simp)⟩
  · exact Only.mid (g := g) h (hA g rfl).1 (hA g rfl).2

set_option maxHeartbeats 400000 in
theorem markCtr_any (b : Bool) (A1 A2 : Option Addr) (lo n m k : Nat) (xs ys : List Bool) (w : World) (h : BPair w lo A1 A2 xs ys) (hx : xs.length = n) (hy : ys.length = m) (hn : n ≤ 2000000) (hm : m ≤ 2000000) (hk : k ≤ 1000) (hlo : lo ≤ w.heap.size) (hi : Nat) (hhi : ∀ g, A1 = some ⟨g, 0, none⟩ ∨ A2 = some ⟨g, 0, none⟩ → g < hi) :
    Calls Try.prog 43 #[.agg #[.bool b, .slice A1 n n, .slice A2 m m], .int .i64 k] w fun e w' => e = .returned (.int .i64 ((k + n + m : Nat) : Int)) ∧ Marked w' lo A1 A2 k n m ∧ Mid lo hi w w' := by
  have hb0 : Below w.heap.size w (w.alloc (.cells #[.bool b, .slice A1 n n, .slice A2 m m] 50)) := (Below.refl _ _).alloc (Nat.le_refl _) _
  have r0 : Row (w.alloc (.cells #[.bool b, .slice A1 n n, .slice A2 m m] 50)) w.heap.size 50 #[.bool b, .slice A1 n n, .slice A2 m m] := heap_alloc_new w _
  have hlo1 : lo ≤ (w.alloc (.cells #[.bool b, .slice A1 n n, .slice A2 m m] 50)).heap.size := by simp; omega
  have hold : ∀ (A : Option Addr) zs, BSl w lo A zs → ∀ g, A = some ⟨g, 0, none⟩ → g < w.heap.size := fun A zs hA g hg => by
    rcases hA with ⟨rfl, _⟩ | ⟨g', rfl, _, hb⟩
    · cases hg
    · injection hg with hg; injection hg with hg; subst hg; exact hb.lt
  have HLT1 := Lib.hid (hold A1 xs h.fst)
  have HLT2 := Lib.hid (hold A2 ys h.snd)
  clear hold
  have H := Lib.hid (h.on hb0)
  have HL0 := Lib.hid (Below.mid hb0 (Nat.le_refl _) lo hi)
  have HHI := Lib.hid hhi
  clear hhi
  have HR0 := Lib.hid r0
  have HLO1 := Lib.hid hlo1
  have HX := Lib.hid hx
  have HY := Lib.hid hy
  clear h hb0 r0 hx hy hlo1
  go_enter Try.func43, Try.ntmps43
  go_wp2_with fail
  refine (markBSl_any A1 lo n k xs _ H.out.fst HX.out hn (by omega) HLO1.out).mono ?_
  rintro e w1 ⟨rfl, hm1, hb1, ho1⟩
  have HM1 := Lib.hid hm1
  have HL1 := Lib.hid (HL0.out.trans (ho1.midA (fun g hg => ⟨hm1.lo hg, HHI.out g (.inl hg)⟩) hm1.addr))
  have H1 := Lib.hid (H.out.snd.only ho1 (fun g hg e => by
    rcases hm1.addr with h | ⟨g', h⟩
    · rw [h] at e; cases e
    · rw [h] at e; injection e with e; simp at e; subst e; exact H.out.ne _ h hg))
  have HR1 := Lib.hid (ho1.row HR0.out (fun e => by
    rcases hm1.addr with h | ⟨g', h⟩
    · rw [h] at e; cases e
    · have := HLT1.out g' h; rw [h] at e; injection e with e; simp at e; omega))
  have hlo2 : lo ≤ w1.heap.size := Nat.le_trans HLO1.out hb1.size
  have HNE := Lib.hid H.out.ne
  clear hm1 hb1 ho1 H HR0 HL0
  have q1 := HR1.out.cell 2
  simp at q1
  generalize hk1 : k + n = k1 at *
  have HK1 := Lib.hid hk1
  have hk1b : k1 ≤ 3000000 := by omega
  clear hk1
  go_wp2_with fail
  refine (markBSl_any A2 lo m k1 ys _ H1.out HY.out hm (by omega) hlo2).mono ?_
  rintro e w2 ⟨rfl, hm2, hb2, ho2⟩
  have HM2 := Lib.hid hm2
  have HL2 := Lib.hid (HL1.out.trans (ho2.midA (fun g hg => ⟨hm2.lo hg, HHI.out g (.inr hg)⟩) hm2.addr))
  have HM12 := Lib.hid (HM1.out.only ho2 (fun g hg e => by
    rcases hm2.addr with h | ⟨g', h⟩
    · rw [h] at e; cases e
    · rw [h] at e; injection e with e; simp at e; subst e; exact HNE.out _ hg h))
  clear hm2 hb2 ho2 HM1 HL1 H1 q1
  go_wp2
  go_ret
  exact ⟨ret_int (by have := HK1.out; omega), ⟨HM12.out, by rw [HK1.out]; exact HM2.out, HNE.out⟩, HL2.out⟩

set_option maxHeartbeats 400000 in
theorem heldCtr_any (b : Bool) (A1 A2 : Option Addr) (lo n m k : Nat) (w : World) (h : Marked w lo A1 A2 k n m) (hn : n ≤ 2000000) (hm : m ≤ 2000000) (hk : k ≤ 1000) :
    Calls Try.prog 44 #[.agg #[.bool b, .slice A1 n n, .slice A2 m m], .int .i64 k] w fun e w' => e = .returned (.int .i64 ((k + n + m : Nat) : Int)) ∧ Below w.heap.size w w' := by
  have hb0 : Below w.heap.size w (w.alloc (.cells #[.bool b, .slice A1 n n, .slice A2 m m] 50)) := (Below.refl _ _).alloc (Nat.le_refl _) _
  have H := Lib.hid (BPair.on h hb0)
  have HL0 := Lib.hid hb0
  clear h hb0
  go_enter Try.func44, Try.ntmps44
  go_wp2_with fail
  refine (heldBSl_any A1 lo n k _ H.out.fst hn (by omega)).mono ?_
  rintro e w1 ⟨rfl, rfl⟩
  have H2 := Lib.hid H.out.snd
  clear H
  generalize hk1 : k + n = k1 at *
  have HK1 := Lib.hid hk1
  have hk1b : k1 ≤ 3000000 := by omega
  clear hk1
  go_wp2_with fail
  refine (heldBSl_any A2 lo m k1 _ H2.out hm (by omega)).mono ?_
  rintro e w1 ⟨rfl, rfl⟩
  go_wp2
  go_ret
  exact ⟨ret_int (by have := HK1.out; omega), HL0.out⟩
end Go.Proofs.Ythpiddpkcmecfaa
