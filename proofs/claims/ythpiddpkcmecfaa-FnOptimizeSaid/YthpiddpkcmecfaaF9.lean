/- The walk of the law FnOptimize. -/
import Derived.Test.YthpiddpkcmecfaaY6
import Derived.Test.YthpiddpkcmecfaaY3
import Derived.Test.YthpiddpkcmecfaaY1
import Derived.Test.YthpiddpkcmecfaaY2
import Derived.Test.YthpiddpkcmecfaaB9
import Derived.Test.YthpiddpkcmecfaaB22
import Derived.Test.YthpiddpkcmecfaaB19
import Derived.Deep.DeepCutAuto
import Derived.Deep.CutBlock
namespace Go.Proofs.Ythpiddpkcmecfaa
open Go.RowKit Go.Deep
set_option maxRecDepth 100000

/-- The optimized circuit of a valid circuit, with the lengths of the original. -/
def OptVal (w : World) (i : Int) (ns : List Int) (gs : List (Int × Int)) (os : List Int) (e : Ending) (w' : World) : Prop :=
  ∃ (nA gA oA : Option Addr) (nc gc oc : Nat), e = .returned (.agg #[.int .i64 i, .slice nA ns.length nc, .slice gA (Opt.optG i ns gs os).length gc, .slice oA os.length oc]) ∧ CircAt w' w'.heap.size nA gA oA (Opt.optN i ns gs os) (Opt.optG i ns gs os) (Opt.optO i ns gs os) ∧ Below w.heap.size w w'
theorem OptRes.val {w w' : World} {i : Int} {ns : List Int} {gs : List (Int × Int)} {os : List Int} {e : Ending} (hv : Circ.validB i ns gs os = true) (h : OptRes w i ns gs os e w') : OptVal w i ns gs os e w' := by
  obtain ⟨a, b, c, d⟩ := Circ.z_t hv
  obtain ⟨nA, gA, oA, nc, gc, oc, he, hC, hb⟩ := h
  rw [a, b, c, d, Opt.optN_len hv, Opt.optO_len hv] at he
  rw [b, c, d] at hC
  exact ⟨nA, gA, oA, nc, gc, oc, he, hC, hb⟩
theorem sameCircuit_len (i : Int) (nA gA oA nA' gA' oA' : Option Addr) (nl ol nc gc oc nc' gc' oc' : Nat) (ns : List Int) (gs : List (Int × Int)) (os : List Int) (w : World) (hn : ns.length = nl) (ho : os.length = ol) (hc : CircAt w w.heap.size nA gA oA ns gs os)
    (hd : CircAt w w.heap.size nA' gA' oA' ns gs os) (hnl : nl ≤ 2000000) (hgl : gs.length ≤ 2000000) (hol : ol ≤ 2000000) :
    Calls Try.prog 16 #[.agg #[.int .i64 i, .slice nA nl nc, .slice gA gs.length gc, .slice oA ol oc], .agg #[.int .i64 i, .slice nA' nl nc', .slice gA' gs.length gc', .slice oA' ol oc']] w fun e w' => e = .returned (.bool true) ∧ Below w.heap.size w w' := by
  subst hn ho
  exact sameCircuit_any i nA gA oA nA' gA' oA' nc gc oc nc' gc' oc' ns gs os w hc hd hnl hgl hol
theorem valid_len (i : Int) (nA gA oA : Option Addr) (nl ol nc gc oc : Nat) (ns : List Int) (gs : List (Int × Int)) (os : List Int) (w : World) (hn : ns.length = nl) (ho : os.length = ol) (hv : Circ.validB i ns gs os = true) (hc : CircAt w w.heap.size nA gA oA ns gs os) :
    Calls Try.prog 18 #[.agg #[.int .i64 i, .slice nA nl nc, .slice gA gs.length gc, .slice oA ol oc]] w fun e w' => e = .returned (.bool true) ∧ Below w.heap.size w w' := by
  subst hn ho
  rw [← hv]
  exact valid_any i nA gA oA nc gc oc ns gs os w hc
theorem sameIf_len (i : Int) (nA gA oA nA' gA' oA' : Option Addr) (nc gc oc nl ol nc' gc' oc' : Nat) (ns : List Int) (gs : List (Int × Int)) (os ns' : List Int) (gs' : List (Int × Int)) (os' : List Int) (w : World) (hn : ns'.length = nl) (ho : os'.length = ol)
    (hs : Circ.sameIf i ns gs os i ns' gs' os' = true) (hc : CircAt w w.heap.size nA gA oA ns gs os) (hd : CircAt w w.heap.size nA' gA' oA' ns' gs' os') :
    Calls Try.prog 19 #[.agg #[.int .i64 i, .slice nA ns.length nc, .slice gA gs.length gc, .slice oA os.length oc], .agg #[.int .i64 i, .slice nA' nl nc', .slice gA' gs'.length gc', .slice oA' ol oc']] w fun e w' => e = .returned (.bool true) ∧ Below w.heap.size w w' := by
  subst hn ho
  rw [← hs]
  exact sameIf_any i nA gA oA nc gc oc ns gs os i nA' gA' oA' nc' gc' oc' ns' gs' os' w hc hd

theorem eight_on {w w' : World} {cc cx : Nat} {a0 a1 a2 a3 b0 b1 b2 b3 : Value} (hb : Below w.heap.size w w')
    (h : (w.cell? ⟨cc, 0, none⟩ = some a0 ∧ w.cell? ⟨cc, 1, none⟩ = some a1 ∧ w.cell? ⟨cc, 2, none⟩ = some a2 ∧ w.cell? ⟨cc, 3, none⟩ = some a3) ∧ w.cell? ⟨cx, 0, none⟩ = some b0 ∧ w.cell? ⟨cx, 1, none⟩ = some b1 ∧ w.cell? ⟨cx, 2, none⟩ = some b2 ∧ w.cell? ⟨cx, 3, none⟩ = some b3) :
    (w'.cell? ⟨cc, 0, none⟩ = some a0 ∧ w'.cell? ⟨cc, 1, none⟩ = some a1 ∧ w'.cell? ⟨cc, 2, none⟩ = some a2 ∧ w'.cell? ⟨cc, 3, none⟩ = some a3) ∧ w'.cell? ⟨cx, 0, none⟩ = some b0 ∧ w'.cell? ⟨cx, 1, none⟩ = some b1 ∧ w'.cell? ⟨cx, 2, none⟩ = some b2 ∧ w'.cell? ⟨cx, 3, none⟩ = some b3 := by
  have k : ∀ (a : Addr) (u : Value), w.cell? a = some u → w'.cell? a = some u := fun a u h => (hb.cell (World.block_lt_of_cell? w a h)).trans h
  exact ⟨⟨k _ _ h.1.1, k _ _ h.1.2.1, k _ _ h.1.2.2.1, k _ _ h.1.2.2.2⟩, k _ _ h.2.1, k _ _ h.2.2.1, k _ _ h.2.2.2.1, k _ _ h.2.2.2.2⟩
theorem eight_set {w : World} {cc cx P j : Nat} {u a0 a1 a2 a3 b0 b1 b2 b3 : Value} (h1 : P ≠ cc) (h2 : P ≠ cx)
    (h : (w.cell? ⟨cc, 0, none⟩ = some a0 ∧ w.cell? ⟨cc, 1, none⟩ = some a1 ∧ w.cell? ⟨cc, 2, none⟩ = some a2 ∧ w.cell? ⟨cc, 3, none⟩ = some a3) ∧ w.cell? ⟨cx, 0, none⟩ = some b0 ∧ w.cell? ⟨cx, 1, none⟩ = some b1 ∧ w.cell? ⟨cx, 2, none⟩ = some b2 ∧ w.cell? ⟨cx, 3, none⟩ = some b3) :
    ((w.setCell ⟨P, j, none⟩ u).cell? ⟨cc, 0, none⟩ = some a0 ∧ (w.setCell ⟨P, j, none⟩ u).cell? ⟨cc, 1, none⟩ = some a1 ∧ (w.setCell ⟨P, j, none⟩ u).cell? ⟨cc, 2, none⟩ = some a2 ∧ (w.setCell ⟨P, j, none⟩ u).cell? ⟨cc, 3, none⟩ = some a3) ∧ (w.setCell ⟨P, j, none⟩ u).cell? ⟨cx, 0, none⟩ = some b0 ∧ (w.setCell ⟨P, j, none⟩ u).cell? ⟨cx, 1, none⟩ = some b1 ∧ (w.setCell ⟨P, j, none⟩ u).cell? ⟨cx, 2, none⟩ = some b2 ∧ (w.setCell ⟨P, j, none⟩ u).cell? ⟨cx, 3, none⟩ = some b3 := by
  have k1 : ∀ o, (w.setCell ⟨P, j, none⟩ u).cell? ⟨cc, o, none⟩ = w.cell? ⟨cc, o, none⟩ := fun o => World.cell?_setCell_far w ⟨P, j, none⟩ ⟨cc, o, none⟩ u h1
  have k2 : ∀ o, (w.setCell ⟨P, j, none⟩ u).cell? ⟨cx, o, none⟩ = w.cell? ⟨cx, o, none⟩ := fun o => World.cell?_setCell_far w ⟨P, j, none⟩ ⟨cx, o, none⟩ u h2
  simp only [k1, k2]
  exact h
theorem eight_swap {u : World} {o o' : Obj} {cc cx : Nat} {a0 a1 a2 a3 b0 b1 b2 b3 : Value} (h1 : cc < u.heap.size) (h2 : cx < u.heap.size) (h : ((u.alloc o).cell? ⟨cc, 0, none⟩ = some a0 ∧ (u.alloc o).cell? ⟨cc, 1, none⟩ = some a1 ∧ (u.alloc o).cell? ⟨cc, 2, none⟩ = some a2 ∧ (u.alloc o).cell? ⟨cc, 3, none⟩ = some a3) ∧ (u.alloc o).cell? ⟨cx, 0, none⟩ = some b0 ∧ (u.alloc o).cell? ⟨cx, 1, none⟩ = some b1 ∧ (u.alloc o).cell? ⟨cx, 2, none⟩ = some b2 ∧ (u.alloc o).cell? ⟨cx, 3, none⟩ = some b3) : ((u.alloc o').cell? ⟨cc, 0, none⟩ = some a0 ∧ (u.alloc o').cell? ⟨cc, 1, none⟩ = some a1 ∧ (u.alloc o').cell? ⟨cc, 2, none⟩ = some a2 ∧ (u.alloc o').cell? ⟨cc, 3, none⟩ = some a3) ∧ (u.alloc o').cell? ⟨cx, 0, none⟩ = some b0 ∧ (u.alloc o').cell? ⟨cx, 1, none⟩ = some b1 ∧ (u.alloc o').cell? ⟨cx, 2, none⟩ = some b2 ∧ (u.alloc o').cell? ⟨cx, 3, none⟩ = some b3 := by
  have k1 : ∀ o off, (u.alloc o).cell? ⟨cc, off, none⟩ = u.cell? ⟨cc, off, none⟩ := fun o off => World.cell?_alloc_lt u o ⟨cc, off, none⟩ h1
  have k2 : ∀ o off, (u.alloc o).cell? ⟨cx, off, none⟩ = u.cell? ⟨cx, off, none⟩ := fun o off => World.cell?_alloc_lt u o ⟨cx, off, none⟩ h2
  simp only [k1, k2] at h ⊢
  exact h
theorem BSl.setB2 {w : World} {lo B : Nat} {A : Option Addr} {xs : List Bool} (h : BSl w lo A xs) (hB : B < lo) (j : Nat) (u : Value) : BSl (w.setCell ⟨B, j, none⟩ u) lo A xs := by
  rcases h with ⟨rfl, rfl⟩ | ⟨g, rfl, hl, h⟩
  · exact .inl ⟨rfl, rfl⟩
  · exact .inr ⟨g, rfl, hl, h.farR u (by show g ≠ B; omega)⟩
theorem step_val (m : Nat) (nA gA oA sA iA : Option Addr) (nl ol nc gc oc sc ic : Nat) (ns : List Int) (gs : List (Int × Int)) (os : List Int) (st ins : List Bool) (w : World) (hn : ns.length = nl) (ho : os.length = ol) (hv : Circ.validB (m : Int) ns gs os = true) (hst : st.length = nl) (hin : ins.length = m)
    (hc : CircAt w w.heap.size nA gA oA ns gs os) (hs : BoolsAt w w.heap.size sA st) (hi : BoolsAt w w.heap.size iA ins) :
    Calls Try.prog 20 #[.agg #[.int .i64 (m : Int), .slice nA nl nc, .slice gA gs.length gc, .slice oA ol oc], .slice sA nl sc, .slice iA m ic] w fun e w' =>
      ∃ A1 A2 : Option Addr, e = .returned (.agg #[.slice A1 ol ol, .slice A2 nl nl]) ∧ BSl w' w.heap.size A1 (Circ.outV gs os st ins) ∧ BSl w' w.heap.size A2 (Circ.outV gs ns st ins) ∧ Below w.heap.size w w' := by
  subst hn ho
  have hA : assignB (m : Int) ns gs os st.length ins.length = true := by unfold assignB; rw [hv, hst, hin]; simp
  have h := step_any (m : Int) nA gA oA sA iA nc gc oc sc ic ns gs os st ins w hc hs hi
  rw [stepV_t os hA, stepV_t ns hA, Circ.outV_len, Circ.outV_len, hst, hin] at h
  exact h.mono fun _ _ ⟨A1, A2, he, hp, hb⟩ => ⟨A1, A2, he, hp.fst, hp.snd, hb⟩
theorem rows_ok {m : Nat} {rs : List (List Bool)} (h1 : rs.length ≤ 12) (h : ∀ k, k < rs.length → (rs.getD k []).length = m) : Circ.rowsB (m : Int) rs = true ∧ ∀ r, r ∈ rs → (r.length : Int) = (m : Int) := by
  have hr : ∀ r, r ∈ rs → (r.length : Int) = (m : Int) := fun r hr => by
    obtain ⟨k, hk, e⟩ := List.getElem_of_mem hr
    have := h k hk
    simp only [List.getD_eq_getElem?_getD, List.getElem?_eq_getElem hk, Option.getD_some, e] at this
    omega
  refine ⟨?_, hr⟩
  simp only [Circ.rowsB, Circ.lensB, Bool.and_eq_true, decide_eq_true_eq, List.all_eq_true]
  exact ⟨by omega, hr⟩
theorem simulate_val (m n : Nat) (nA gA oA rA : Option Addr) (nl ol nc gc oc rc : Nat) (ns : List Int) (gs : List (Int × Int)) (os : List Int) (rs : List (List Bool)) (w : World) (hn : ns.length = nl) (ho : os.length = ol) (hr : rs.length = n) (hv : Circ.validB (m : Int) ns gs os = true) (hw : Circ.rowsB (m : Int) rs = true)
    (hc : CircAt w w.heap.size nA gA oA ns gs os) (hx : RowsAt w w.heap.size rA rs) :
    Calls Try.prog 24 #[.agg #[.int .i64 (m : Int), .slice nA nl nc, .slice gA gs.length gc, .slice oA ol oc], .slice rA n rc] w fun e w' =>
      ∃ A : Option Addr, e = .returned (.slice A n n) ∧ RowsAt w' w'.heap.size A (Circ.simV gs os ns rs (List.replicate nl false)) ∧ Below w.heap.size w w' := by
  subst hn ho hr
  have e : Circ.simulV (m : Int) ns gs os rs = Circ.simV gs os ns rs (List.replicate ns.length false) := by rw [Circ.simulV, hv, hw]; rfl
  have h40 : rs.length ≤ 40 := by simp only [Circ.rowsB, Bool.and_eq_true, decide_eq_true_eq] at hw; exact hw.1
  have h := simulate_any (m : Int) nA gA oA rA nc gc oc rc ns gs os rs w hc hx (by simp [maxLen]; omega)
  rw [e, Circ.simV_len] at h
  exact h.mono fun _ _ ⟨A, he, hs, hb⟩ => ⟨A, he, hs.rows, hb⟩

/-- Two boxes of circuits, behind what is written elsewhere. -/
theorem eight {w w' : World} {cc cx : Nat} {t : TypeId} {a0 a1 a2 a3 b0 b1 b2 b3 : Value} (hb : Below w.heap.size w w') (hr : Row w cc t #[a0, a1, a2, a3]) (hq : Row w cx t #[b0, b1, b2, b3]) (h1 : cc < w.heap.size) (h2 : cx < w.heap.size) :
    (w'.cell? ⟨cc, 0, none⟩ = some a0 ∧ w'.cell? ⟨cc, 1, none⟩ = some a1 ∧ w'.cell? ⟨cc, 2, none⟩ = some a2 ∧ w'.cell? ⟨cc, 3, none⟩ = some a3) ∧ w'.cell? ⟨cx, 0, none⟩ = some b0 ∧ w'.cell? ⟨cx, 1, none⟩ = some b1 ∧ w'.cell? ⟨cx, 2, none⟩ = some b2 ∧ w'.cell? ⟨cx, 3, none⟩ = some b3 := by
  have r := hr.below hb h1
  have q := hq.below hb h2
  exact ⟨⟨by simpa using r.cell 0, by simpa using r.cell 1, by simpa using r.cell 2, by simpa using r.cell 3⟩, by simpa using q.cell 0, by simpa using q.cell 1, by simpa using q.cell 2, by simpa using q.cell 3⟩

set_option maxHeartbeats 6400000 in
theorem foptimize_walk (A : Option Addr) (bl bc : Nat) (w : World) (hb : CodeAt w A bl) (hbl : bl ≤ bc) (hbc : bc ≤ maxLen) :
    Calls Try.prog 3 #[.slice A bl bc] w fun e w' => e = .returned (.bool true) ∧ Below w.heap.size w w' := by
  have HB := Lib.hid hb
  have HBC := Lib.hid hbc
  unfold maxLen at hbc
  clear hb
  by_cases hsz : 1048576 < bl
  · go_enter Try.func3, Try.ntmps3
    go_wp2
    go_ret
    exact ⟨rfl, Below.refl _ _⟩
  · go_enter Try.func3, Try.ntmps3
    go_wp2_with fail
    refine (drawRun_any A bl bc _ HB.out hbl HBC.out).mono ?_
    rintro e w1 ⟨i, nA, gA, oA, rA, nc, gc, oc, rc, ns, gs, os, rs, rfl, hC1, hX1, hval, hrl, hrn, hb1⟩
    obtain ⟨hi0, hi1, hnl, hgl, hol⟩ := Circ.valid_within hval
    obtain ⟨m, rfl⟩ := Int.eq_ofNat_of_zero_le hi0
    rw [Int.toNat_natCast] at hrn
    have hm4 : m ≤ 4 := by omega
    have HVAL := Lib.hid hval
    have HRN := Lib.hid hrn
    have hbB : Below w1.heap.size w1 (w1.alloc (.cells #[.int .i64 (m : Int), .slice nA ns.length nc, .slice gA gs.length gc, .slice oA os.length oc] 26)) := (Below.refl _ _).alloc (Nat.le_refl _) _
    have HC2 := Lib.hid ((hC1.below hbB).mono hbB.size)
    have HX2 := Lib.hid (hX1.on hbB)
    have HL2 := Lib.hid (hb1.trans (hbB.mono hb1.size))
    have HR2 := Lib.hid (show Row (w1.alloc (.cells #[.int .i64 (m : Int), .slice nA ns.length nc, .slice gA gs.length gc, .slice oA os.length oc] 26)) w1.heap.size 26 #[.int .i64 (m : Int), .slice nA ns.length nc, .slice gA gs.length gc, .slice oA os.length oc] from heap_alloc_new w1 _)
    clear hC1 hX1 hb1 hbB HB HBC hbc hval hrn hi0 hi1
    go_wp2_with fail
    refine (impl_opt_any (m : Int) nA gA oA nc gc oc ns gs os _ HC2.out).mono ?_
    intro e w3 hopt
    obtain ⟨xN, xG, xO, xn, xg, xo, rfl, hX3, hb3⟩ := hopt.val HVAL.out
    have HC3 := Lib.hid ((HC2.out.below hb3).mono hb3.size)
    have HX3 := Lib.hid (HX2.out.on hb3)
    have HR3 := Lib.hid (HR2.out.below hb3 HR2.out.lt)
    have HL3 := Lib.hid (HL2.out.trans (hb3.mono HL2.out.size))
    have HZV := Lib.hid (Opt.opt_valid HVAL.out)
    have HZL := Lib.hid (Opt.optN_len HVAL.out)
    have HZM := Lib.hid (Opt.optO_len HVAL.out)
    have hzl := Opt.optG_len HVAL.out
    have HSI := Lib.hid (Circ.opt_same_if HVAL.out)
    have HAG := Lib.hid (Circ.opt_agree HVAL.out)
    have HZ3 := Lib.hid hX3
    clear hb3 HC2 HX2 HR2 HL2 hX3
    generalize hzn : Opt.optN (m : Int) ns gs os = zn at *
    generalize hzg : Opt.optG (m : Int) ns gs os = zg at *
    generalize hzo : Opt.optO (m : Int) ns gs os = zo at *
    have HZN := Lib.hid hzn
    have HZG := Lib.hid hzg
    have HZO := Lib.hid hzo
    clear hzn hzg hzo
    generalize w1.heap.size = cc at *
    have hbB : Below w3.heap.size w3 (w3.alloc (.cells #[.int .i64 (m : Int), .slice xN ns.length xn, .slice xG zg.length xg, .slice xO os.length xo] 26)) := (Below.refl _ _).alloc (Nat.le_refl _) _
    have HC4 := Lib.hid ((HC3.out.below hbB).mono hbB.size)
    have HX4 := Lib.hid (HX3.out.on hbB)
    have HZ4 := Lib.hid ((HZ3.out.below hbB).mono hbB.size)
    have HR4 := Lib.hid (HR3.out.below hbB HR3.out.lt)
    have HL4 := Lib.hid (HL3.out.trans (hbB.mono HL3.out.size))
    have HQ4 := Lib.hid (show Row (w3.alloc (.cells #[.int .i64 (m : Int), .slice xN ns.length xn, .slice xG zg.length xg, .slice xO os.length xo] 26)) w3.heap.size 26 #[.int .i64 (m : Int), .slice xN ns.length xn, .slice xG zg.length xg, .slice xO os.length xo] from heap_alloc_new w3 _)
    have hcc := HR3.out.lt
    clear hbB HC3 HX3 HZ3 HR3 HL3
    go_upto_region 5 with fail
    generalize w3.alloc (.cells #[.int .i64 (m : Int), .slice xN ns.length xn, .slice xG zg.length xg, .slice xO os.length xo] 26) = w4 at *
    generalize w3.heap.size = cx at *
    have q0 := HR4.out.cell 0
    have q1 := HR4.out.cell 1
    have q2 := HR4.out.cell 2
    have q3 := HR4.out.cell 3
    have p0 := HQ4.out.cell 0
    have p1 := HQ4.out.cell 1
    have p2 := HQ4.out.cell 2
    have p3 := HQ4.out.cell 3
    simp at q0 q1 q2 q3 p0 p1 p2 p3
    have hz1 := HR4.out.lt
    have hz2 := HQ4.out.lt
    have hok : w4.drew.heap.size = w4.heap.size := rfl
    go_region_held3 (fun w' => (w'.cell? ⟨cc, 0, none⟩ = some (.int .i64 (m : Int)) ∧ w'.cell? ⟨cc, 1, none⟩ = some (.slice nA ns.length nc) ∧ w'.cell? ⟨cc, 2, none⟩ = some (.slice gA gs.length gc) ∧ w'.cell? ⟨cc, 3, none⟩ = some (.slice oA os.length oc)) ∧ w'.cell? ⟨cx, 0, none⟩ = some (.int .i64 (m : Int)) ∧ w'.cell? ⟨cx, 1, none⟩ = some (.slice xN ns.length xn) ∧ w'.cell? ⟨cx, 2, none⟩ = some (.slice xG zg.length xg) ∧ w'.cell? ⟨cx, 3, none⟩ = some (.slice xO os.length xo))
      (first | go_keep | (with_reducible exact hS5) | (with_reducible exact hS6) | (with_reducible exact hS7) | (with_reducible exact hS8))
      (first
        | (go_at_call 17; go_must (refine (spec_opt_any (m : Int) nA gA oA nc gc oc ns gs os _ ?_).mono ?_; (exact (HC4.out.below (Below.refl _ _).drew)); intro e u5 hopt5; obtain ⟨e1, e2, e3, f1, f2, f3, rfl, hC5, hb5⟩ := hopt5.val HVAL.out; clear hopt5; rw [HZG.out]; rw [HZN.out, HZG.out, HZO.out] at hC5; have hb5' := ((Below.refl _ w4).drew).trans hb5; have hz5 : w4.heap.size ≤ u5.heap.size := hb5'.size; have hS5 := eight hb5' HR4.out HQ4.out hz1 hz2))
        | (go_at_call 16; refine (sameCircuit_len (m : Int) _ _ _ e1 e2 e3 _ _ _ _ _ f1 f2 f3 zn zg zo _ HZL.out HZM.out ((HZ4.out.below hb5').mono hz5) hC5 (by omega) (by omega) (by omega)).mono ?_; rintro e u6 ⟨rfl, hb6⟩; have hb6' := hb5'.trans (hb6.mono hz5); have hz6 : w4.heap.size ≤ u6.heap.size := hb6'.size; have hS6 := eight hb6' HR4.out HQ4.out hz1 hz2)
        | (go_at_call 18; refine (valid_len (m : Int) _ _ _ _ _ _ _ _ zn zg zo _ HZL.out HZM.out HZV.out ((HZ4.out.below hb6').mono hz6)).mono ?_; rintro e u7 ⟨rfl, hb7⟩; have hb7' := hb6'.trans (hb7.mono hz6); have hz7 : w4.heap.size ≤ u7.heap.size := hb7'.size; have hS7 := eight hb7' HR4.out HQ4.out hz1 hz2)
        | (go_at_call 19; refine (sameIf_len (m : Int) nA gA oA _ _ _ nc gc oc _ _ _ _ _ ns gs os zn zg zo _ HZL.out HZM.out HSI.out ((HC4.out.below hb7').mono hz7) ((HZ4.out.below hb7').mono hz7)).mono ?_; rintro e u8 ⟨rfl, hb8⟩; have hb8' := hb7'.trans (hb8.mono hz7); have hS8 := eight hb8' HR4.out HQ4.out hz1 hz2))
    clear hS5 hS6 hS7 hS8 hb5 hb5' hb6 hb6' hb7 hb7' hb8 hC5 hz5 hz6 hz7 q0 q1 q2 q3 p0 p1 p2 p3 hok HSI HZN HZG HZO
    have HC5 := Lib.hid ((HC4.out.below hb8').mono hb8'.size)
    have HX5 := Lib.hid (HX4.out.on hb8')
    have HZ5 := Lib.hid ((HZ4.out.below hb8').mono hb8'.size)
    have HR5 := Lib.hid (HR4.out.below hb8' HR4.out.lt)
    have HQ5 := Lib.hid (HQ4.out.below hb8' HQ4.out.lt)
    have HL5 := Lib.hid (HL4.out.trans (hb8'.mono HL4.out.size))
    clear hb8' HC4 HX4 HZ4 HR4 HQ4 HL4
    generalize u8 = w5 at *
    have q0 := HR5.out.cell 0
    have q1 := HR5.out.cell 1
    have q2 := HR5.out.cell 2
    have q3 := HR5.out.cell 3
    have p0 := HQ5.out.cell 0
    have p1 := HQ5.out.cell 1
    have p2 := HQ5.out.cell 2
    have p3 := HQ5.out.cell 3
    simp at q0 q1 q2 q3 p0 p1 p2 p3
    go_wp2_with fail
    obtain ⟨N, HNE, hN, hN1⟩ : ∃ N : Nat, Hid (N = 2 ^ (m + ns.length)) ∧ wrap64 (2 ^ (m + ns.length)) = (N : Int) ∧ N ≤ 128 := by
      have h128 : 2 ^ (m + ns.length) ≤ 2 ^ 7 := Nat.pow_le_pow_right (by decide) (by omega)
      have e : ((2 : Int) ^ (m + ns.length)) = ((2 ^ (m + ns.length) : Nat) : Int) := by simp
      refine ⟨2 ^ (m + ns.length), Lib.hid rfl, ?_, by simpa using h128⟩
      rw [e]
      have key : ∀ N : Nat, N ≤ 128 → wrap64 (N : Int) = N := fun N h => IntWalk.wrap64_in _ (by omega)
      exact key _ (by simpa using h128)
    obtain ⟨HRB, HES, HOF⟩ : Hid (Circ.rowsB (m : Int) rs = true) ∧ Hid (Circ.simV zg zo zn rs (List.replicate ns.length false) = Circ.simV gs os ns rs (List.replicate ns.length false)) ∧ Hid (offs 0 (Circ.simV gs os ns rs (List.replicate ns.length false)) (Circ.simV gs os ns rs (List.replicate ns.length false)).length ≤ 2000000) := by
      obtain ⟨h1, h2⟩ := rows_ok hrl HRN.out
      have e : Circ.simulV (m : Int) ns gs os rs = Circ.simV gs os ns rs (List.replicate ns.length false) := by rw [Circ.simulV, HVAL.out, h1]; rfl
      have h3 := (simul_le (m : Int) ns gs os rs 0).2
      rw [e] at h3
      exact ⟨Lib.hid h1, Lib.hid (Circ.agree_sim HAG.out rs _ (by simp) h2).symm, Lib.hid (by omega)⟩
    go_loopw [7] (fun kv wr => ∃ (k : Nat), k ≤ N ∧ kv = .int .i64 k ∧ Hid (CircAt wr wr.heap.size nA gA oA ns gs os) ∧ Hid (CircAt wr wr.heap.size xN xG xO zn zg zo) ∧ Hid (RowsAt wr wr.heap.size rA rs) ∧ Hid (Row wr cc 26 #[.int .i64 (m : Int), .slice nA ns.length nc, .slice gA gs.length gc, .slice oA os.length oc]) ∧ Hid (Row wr cx 26 #[.int .i64 (m : Int), .slice xN ns.length xn, .slice xG zg.length xg, .slice xO os.length xo]) ∧ Hid (Below w.heap.size w wr)) (fun kv _ => ((N : Int) - intOf kv).toNat)
    case atStart => exact ⟨0, Nat.zero_le _, rfl, HC5, HZ5, HX5, HR5, HQ5, HL5⟩
    case round =>
      clear HC5 HZ5 HX5 HR5 HQ5 HL5 q0 q1 q2 q3 p0 p1 p2 p3 hopt hz1 hz2
      obtain ⟨k, hk, rfl, HC, HZ, HX, HR, HQ, HL⟩ := hrel
      by_cases hlt : k < N
      · obtain ⟨kd, hkd, hkd1⟩ : ∃ kd : Nat, (k : Int) / 2 ^ m = (kd : Int) ∧ kd ≤ k := ⟨k / 2 ^ m, shr_nat k m, Nat.div_le_self _ _⟩
        have hkd0 : (0 : Int) ≤ (k : Int) / 2 ^ m := by omega
        obtain ⟨st, HST, HSL⟩ : ∃ st, Hid (Circ.bitsN kd ns.length = st) ∧ Hid (st.length = ns.length) := ⟨_, Lib.hid rfl, Lib.hid (Circ.bitsN_len _ _)⟩
        obtain ⟨ins, HIN, HIL⟩ : ∃ ins, Hid (Circ.bitsN k m = ins) ∧ Hid (ins.length = m) := ⟨_, Lib.hid rfl, Lib.hid (Circ.bitsN_len _ _)⟩
        have HEO := Lib.hid (HAG.out st ins HSL.out (by rw [HIL.out])).1.symm
        have HEN := Lib.hid (HAG.out st ins HSL.out (by rw [HIL.out])).2.symm
        go_upto_region 11 with fail
        go_cut [8] (fun pv wx => ∃ (wz : World) (P : Nat) (A1 A2 : Option Addr), wz = wx ∧ pv = .pointer (some ⟨P, 0, none⟩) ∧ Hid (Row wx P 35 #[.slice A1 os.length os.length, .slice A2 ns.length ns.length]) ∧ Hid (BoolsAt wx wx.heap.size A1 (Circ.outV gs os st ins)) ∧ Hid (BoolsAt wx wx.heap.size A2 (Circ.outV gs ns st ins)) ∧ Hid (Below wr.heap.size wr wx))
        case first =>
          have q0 := HR.out.cell 0
          have q1 := HR.out.cell 1
          have q2 := HR.out.cell 2
          have q3 := HR.out.cell 3
          have p0 := HQ.out.cell 0
          have p1 := HQ.out.cell 1
          have p2 := HQ.out.cell 2
          have p3 := HQ.out.cell 3
          simp at q0 q1 q2 q3 p0 p1 p2 p3
          have hz1 := HR.out.lt
          have hz2 := HQ.out.lt
          have tok0 : True := trivial
          go_region_held3 (fun w' => (w'.cell? ⟨cc, 0, none⟩ = some (.int .i64 (m : Int)) ∧ w'.cell? ⟨cc, 1, none⟩ = some (.slice nA ns.length nc) ∧ w'.cell? ⟨cc, 2, none⟩ = some (.slice gA gs.length gc) ∧ w'.cell? ⟨cc, 3, none⟩ = some (.slice oA os.length oc)) ∧ w'.cell? ⟨cx, 0, none⟩ = some (.int .i64 (m : Int)) ∧ w'.cell? ⟨cx, 1, none⟩ = some (.slice xN ns.length xn) ∧ w'.cell? ⟨cx, 2, none⟩ = some (.slice xG zg.length xg) ∧ w'.cell? ⟨cx, 3, none⟩ = some (.slice xO os.length xo))
            (first | go_keep | (exact eight_on hb3 (by assumption)) | (exact eight_on hb2 (by assumption)) | (exact eight_on hb1 (by assumption)) | (exact eight_swap (by omega) (by omega) (by assumption)) | (exact eight_set (by omega) (by omega) (eight_set (by omega) (by omega) (by assumption))))
            (first
              | (have _t := tok0; go_at_call 21; refine (bits_any kd ns.length _ (by omega) (by omega)).mono ?_; rintro e u1 ⟨b1, d1, rfl, hg1, hB1, hb1⟩; rw [HST.out] at hB1; have hw1 : Below wr.heap.size wr u1 := (by first | exact (Below.refl _ wr).drew.trans hb1 | exact (((Below.refl _ wr).alloc (Nat.le_refl _) _).drew).trans (hb1.mono (by simp))); have hz1' := hw1.size; (first | (have hrq := Row.below (w := (wr.alloc (.cells #[.slice none 0 0, .slice none 0 0] 35)).drew) (heap_alloc_new wr _) hb1 (by simp)) | skip); have tokA : True := trivial; clear tok0)
              | (have _t := tokA; go_at_call 21; refine (bits_any k m _ (by omega) (by omega)).mono ?_; rintro e u2 ⟨b2, d2, rfl, hg2, hB2, hb2⟩; rw [HIN.out] at hB2; have hv2 : Below u1.heap.size u1 u2 := (by first | exact hb2 | exact ((Below.refl _ u1).alloc (Nat.le_refl _) _).trans (hb2.mono (by simp))); have hw2 := hw1.trans (hv2.mono hz1'); have hz2' := hw2.size; have hB1' := hB1.on hv2; (first | (have hrp := Row.below hrq hb2 hrq.lt; clear hrq; have hrq := hrp; clear hrp) | (have hrq := Row.below (w := u1.alloc (.cells #[.slice none 0 0, .slice none 0 0] 35)) (heap_alloc_new u1 _) hb2 (by simp)) | skip); have tokB : True := trivial; clear tokA)
              | (have _t := tokB; go_at_call 20; (first | (refine (step_val m nA gA oA (some ⟨b1, 0, none⟩) (some ⟨b2, 0, none⟩) ns.length os.length nc gc oc d1 d2 ns gs os st ins _ rfl rfl HVAL.out HSL.out HIL.out ((HC.out.below hw2).mono hz2') hB1' hB2).mono ?_) | (refine (step_val m nA gA oA (some ⟨b1, 0, none⟩) (some ⟨b2, 0, none⟩) ns.length os.length nc gc oc d1 d2 ns gs os st ins _ rfl rfl HVAL.out HSL.out HIL.out ((HC.out.below (hw2.alloc hz2' _)).mono (hw2.alloc hz2' _).size) (hB1'.on ((Below.refl _ u2).alloc (Nat.le_refl _) _)) (hB2.on ((Below.refl _ u2).alloc (Nat.le_refl _) _))).mono ?_)); rintro e u3 ⟨A1, A2, rfl, hx1, hx2, hb3⟩; have hv3 : Below u2.heap.size u2 u3 := (by first | exact hb3 | exact ((Below.refl _ u2).alloc (Nat.le_refl _) _).trans (hb3.mono (by simp))); have hw3 := hw2.trans (hv3.mono hz2'); have hz3' := hw3.size; (first | (have hrl := hrq.lt; have hrp := Row.below hrq hb3 hrl; clear hrq; have hrq := hrp; clear hrp) | (have hrl : u2.heap.size < (u2.alloc (.cells #[.slice none 0 0, .slice none 0 0] 35)).heap.size := (by simp); have hrq := Row.below (w := u2.alloc (.cells #[.slice none 0 0, .slice none 0 0] 35)) (heap_alloc_new u2 _) hb3 hrl) | skip); (first | (have x0 := hrq.cell 0; have x1 := hrq.cell 1; have g0 := hrq.frozen 0; have g1 := hrq.frozen 1; simp at x0 x1) | skip)))
          all_goals
            go_wp2_with fail
            go_meet
            first
              | (refine ⟨_, _, A1, A2, rfl, rfl, Lib.hid (heap_alloc_new u3 _), Lib.hid (hx1.bools.on ((Below.refl _ u3).alloc (Nat.le_refl _) _)), Lib.hid (hx2.bools.on ((Below.refl _ u3).alloc (Nat.le_refl _) _)), Lib.hid (hw3.alloc hz3' _)⟩; done)
              | (refine ⟨_, _, A1, A2, rfl, rfl, Lib.hid (by have h := (hrq.set 0 (.slice A1 os.length os.length)).set 1 (.slice A2 ns.length ns.length); simpa using h), Lib.hid (((hx1.setB2 hrl 0 _).setB2 hrl 1 _).bools), Lib.hid (((hx2.setB2 hrl 0 _).setB2 hrl 1 _).bools), Lib.hid ((hw3.setCell (by show wr.heap.size ≤ _; simp; try omega) _).setCell (by show wr.heap.size ≤ _; simp; try omega) _)⟩; done)
        case rest =>
          obtain ⟨wa, P, A1, A2, hwa, rfl, HP, HY1, HY2, HB1⟩ := hcut
          subst hwa
          have HC1 := Lib.hid ((HC.out.below HB1.out).mono HB1.out.size)
          have HZ1 := Lib.hid ((HZ.out.below HB1.out).mono HB1.out.size)
          have HX1 := Lib.hid (HX.out.on HB1.out)
          have HR1 := Lib.hid (HR.out.below HB1.out HR.out.lt)
          have HQ1 := Lib.hid (HQ.out.below HB1.out HQ.out.lt)
          have HL1 := Lib.hid (HL.out.trans (HB1.out.mono HL.out.size))
          clear HC HZ HX HR HQ HL HB1
          go_upto_region 12 with fail
          go_cut [9] (fun pv wx => ∃ (wz : World) (P : Nat) (A1 A2 : Option Addr), wz = wx ∧ pv = .pointer (some ⟨P, 0, none⟩) ∧ Hid (Row wx P 35 #[.slice A1 os.length os.length, .slice A2 ns.length ns.length]) ∧ Hid (BoolsAt wx wx.heap.size A1 (Circ.outV gs os st ins)) ∧ Hid (BoolsAt wx wx.heap.size A2 (Circ.outV gs ns st ins)) ∧ Hid (Below wa.heap.size wa wx))
          case first =>
            have q0 := HR1.out.cell 0
            have q1 := HR1.out.cell 1
            have q2 := HR1.out.cell 2
            have q3 := HR1.out.cell 3
            have p0 := HQ1.out.cell 0
            have p1 := HQ1.out.cell 1
            have p2 := HQ1.out.cell 2
            have p3 := HQ1.out.cell 3
            simp at q0 q1 q2 q3 p0 p1 p2 p3
            have hz1 := HR1.out.lt
            have hz2 := HQ1.out.lt
            have tok0 : True := trivial
            go_region_held3 (fun w' => (w'.cell? ⟨cc, 0, none⟩ = some (.int .i64 (m : Int)) ∧ w'.cell? ⟨cc, 1, none⟩ = some (.slice nA ns.length nc) ∧ w'.cell? ⟨cc, 2, none⟩ = some (.slice gA gs.length gc) ∧ w'.cell? ⟨cc, 3, none⟩ = some (.slice oA os.length oc)) ∧ w'.cell? ⟨cx, 0, none⟩ = some (.int .i64 (m : Int)) ∧ w'.cell? ⟨cx, 1, none⟩ = some (.slice xN ns.length xn) ∧ w'.cell? ⟨cx, 2, none⟩ = some (.slice xG zg.length xg) ∧ w'.cell? ⟨cx, 3, none⟩ = some (.slice xO os.length xo))
              (first | go_keep | (exact eight_on hb3 (by assumption)) | (exact eight_on hb2 (by assumption)) | (exact eight_on hb1 (by assumption)) | (exact eight_swap (by omega) (by omega) (by assumption)) | (exact eight_set (by omega) (by omega) (eight_set (by omega) (by omega) (by assumption))))
              (first
                | (have _t := tok0; go_at_call 21; refine (bits_any kd ns.length _ (by omega) (by omega)).mono ?_; rintro e u1 ⟨b1, d1, rfl, hg1, hB1, hb1⟩; rw [HST.out] at hB1; have hw1 : Below wa.heap.size wa u1 := (by first | exact (Below.refl _ wa).drew.trans hb1 | exact (((Below.refl _ wa).alloc (Nat.le_refl _) _).drew).trans (hb1.mono (by simp))); have hz1' := hw1.size; (first | (have hrq := Row.below (w := (wa.alloc (.cells #[.slice none 0 0, .slice none 0 0] 35)).drew) (heap_alloc_new wa _) hb1 (by simp)) | skip); have tokA : True := trivial; clear tok0)
                | (have _t := tokA; go_at_call 21; refine (bits_any k m _ (by omega) (by omega)).mono ?_; rintro e u2 ⟨b2, d2, rfl, hg2, hB2, hb2⟩; rw [HIN.out] at hB2; have hv2 : Below u1.heap.size u1 u2 := (by first | exact hb2 | exact ((Below.refl _ u1).alloc (Nat.le_refl _) _).trans (hb2.mono (by simp))); have hw2 := hw1.trans (hv2.mono hz1'); have hz2' := hw2.size; have hB1' := hB1.on hv2; (first | (have hrp := Row.below hrq hb2 hrq.lt; clear hrq; have hrq := hrp; clear hrp) | (have hrq := Row.below (w := u1.alloc (.cells #[.slice none 0 0, .slice none 0 0] 35)) (heap_alloc_new u1 _) hb2 (by simp)) | skip); have tokB : True := trivial; clear tokA)
                | (have _t := tokB; go_at_call 20; (first | (refine (step_val m xN xG xO (some ⟨b1, 0, none⟩) (some ⟨b2, 0, none⟩) ns.length os.length xn xg xo d1 d2 zn zg zo st ins _ HZL.out HZM.out HZV.out HSL.out HIL.out ((HZ1.out.below hw2).mono hz2') hB1' hB2).mono ?_) | (refine (step_val m xN xG xO (some ⟨b1, 0, none⟩) (some ⟨b2, 0, none⟩) ns.length os.length xn xg xo d1 d2 zn zg zo st ins _ HZL.out HZM.out HZV.out HSL.out HIL.out ((HZ1.out.below (hw2.alloc hz2' _)).mono (hw2.alloc hz2' _).size) (hB1'.on ((Below.refl _ u2).alloc (Nat.le_refl _) _)) (hB2.on ((Below.refl _ u2).alloc (Nat.le_refl _) _))).mono ?_)); rintro e u3 ⟨A1, A2, rfl, hx1, hx2, hb3⟩; rw [HEO.out] at hx1; rw [HEN.out] at hx2; have hv3 : Below u2.heap.size u2 u3 := (by first | exact hb3 | exact ((Below.refl _ u2).alloc (Nat.le_refl _) _).trans (hb3.mono (by simp))); have hw3 := hw2.trans (hv3.mono hz2'); have hz3' := hw3.size; (first | (have hrl := hrq.lt; have hrp := Row.below hrq hb3 hrl; clear hrq; have hrq := hrp; clear hrp) | (have hrl : u2.heap.size < (u2.alloc (.cells #[.slice none 0 0, .slice none 0 0] 35)).heap.size := (by simp); have hrq := Row.below (w := u2.alloc (.cells #[.slice none 0 0, .slice none 0 0] 35)) (heap_alloc_new u2 _) hb3 hrl) | skip); (first | (have x0 := hrq.cell 0; have x1 := hrq.cell 1; have g0 := hrq.frozen 0; have g1 := hrq.frozen 1; simp at x0 x1) | skip)))
            all_goals
              go_wp2_with fail
              go_meet
              first
                | (refine ⟨_, _, A1, A2, rfl, rfl, Lib.hid (heap_alloc_new u3 _), Lib.hid (hx1.bools.on ((Below.refl _ u3).alloc (Nat.le_refl _) _)), Lib.hid (hx2.bools.on ((Below.refl _ u3).alloc (Nat.le_refl _) _)), Lib.hid (hw3.alloc hz3' _)⟩; done)
                | (refine ⟨_, _, A1, A2, rfl, rfl, Lib.hid (by have h := (hrq.set 0 (.slice A1 os.length os.length)).set 1 (.slice A2 ns.length ns.length); simpa using h), Lib.hid (((hx1.setB2 hrl 0 _).setB2 hrl 1 _).bools), Lib.hid (((hx2.setB2 hrl 0 _).setB2 hrl 1 _).bools), Lib.hid ((hw3.setCell (by show wa.heap.size ≤ _; simp; try omega) _).setCell (by show wa.heap.size ≤ _; simp; try omega) _)⟩; done)
          case rest =>
            obtain ⟨wb, P2, D1, D2, hwb, rfl, HP2, HW1, HW2, HB2⟩ := hcut
            subst hwb
            have HC2 := Lib.hid ((HC1.out.below HB2.out).mono HB2.out.size)
            have HZ2 := Lib.hid ((HZ1.out.below HB2.out).mono HB2.out.size)
            have HX2 := Lib.hid (HX1.out.on HB2.out)
            have HR2 := Lib.hid (HR1.out.below HB2.out HR1.out.lt)
            have HQ2 := Lib.hid (HQ1.out.below HB2.out HQ1.out.lt)
            have HL2 := Lib.hid (HL1.out.trans (HB2.out.mono HL1.out.size))
            have HPb := Lib.hid (HP.out.below HB2.out HP.out.lt)
            have HY1b := Lib.hid (HY1.out.on HB2.out)
            have HY2b := Lib.hid (HY2.out.on HB2.out)
            clear HC1 HZ1 HX1 HR1 HQ1 HL1 HB2 HP HY1 HY2
            have y0 := HPb.out.cell 0
            have y1 := HPb.out.cell 1
            have z0 := HP2.out.cell 0
            have z1 := HP2.out.cell 1
            simp at y0 y1 z0 z1
            have HOL : Hid ((Circ.outV gs os st ins).length = os.length) := Lib.hid (Circ.outV_len _ _ _ _)
            have HNL : Hid ((Circ.outV gs ns st ins).length = ns.length) := Lib.hid (Circ.outV_len _ _ _ _)
            go_wp2_with fail
            refine (sameBools_len A1 D1 os.length _ _ (Circ.outV gs os st ins) _ HOL.out HY1b.out HW1.out (by omega)).mono ?_
            rintro e w7 ⟨rfl, hb7⟩
            have HC7 := Lib.hid ((HC2.out.below hb7).mono hb7.size)
            have HZ7 := Lib.hid ((HZ2.out.below hb7).mono hb7.size)
            have HX7 := Lib.hid (HX2.out.on hb7)
            have HR7 := Lib.hid (HR2.out.below hb7 HR2.out.lt)
            have HQ7 := Lib.hid (HQ2.out.below hb7 HQ2.out.lt)
            have HL7 := Lib.hid (HL2.out.trans (hb7.mono HL2.out.size))
            have HY7 := Lib.hid (HY2b.out.on hb7)
            have HW7 := Lib.hid (HW2.out.on hb7)
            have y1' := (HPb.out.below hb7 HPb.out.lt).cell 1
            have z1' := (HP2.out.below hb7 HP2.out.lt).cell 1
            simp at y1' z1'
            clear HC2 HZ2 HX2 HR2 HQ2 HL2 HPb HP2 HY1b HY2b HW1 HW2 hb7 y0 y1 z0 z1
            go_wp2_with fail
            refine (sameBools_len A2 D2 ns.length _ _ (Circ.outV gs ns st ins) _ HNL.out HY7.out HW7.out (by omega)).mono ?_
            rintro e w8 ⟨rfl, hb8⟩
            have HC8 := Lib.hid ((HC7.out.below hb8).mono hb8.size)
            have HZ8 := Lib.hid ((HZ7.out.below hb8).mono hb8.size)
            have HX8 := Lib.hid (HX7.out.on hb8)
            have HR8 := Lib.hid (HR7.out.below hb8 HR7.out.lt)
            have HQ8 := Lib.hid (HQ7.out.below hb8 HQ7.out.lt)
            have HL8 := Lib.hid (HL7.out.trans (hb8.mono HL7.out.size))
            clear HC7 HZ7 HX7 HR7 HQ7 HL7 HY7 HW7 hb8 y1' z1'
            go_wp2
            go_roundw
            case rel => exact ⟨k + 1, by omega, by go_num, HC8, HZ8, HX8, HR8, HQ8, HL8⟩
            case measure => simp [intOf]; omega
      · obtain rfl : N = k := by omega
        go_upto_region 15 with fail
        have q0 := HR.out.cell 0
        have q1 := HR.out.cell 1
        have q2 := HR.out.cell 2
        have q3 := HR.out.cell 3
        have p0 := HQ.out.cell 0
        have p1 := HQ.out.cell 1
        have p2 := HQ.out.cell 2
        have p3 := HQ.out.cell 3
        simp at q0 q1 q2 q3 p0 p1 p2 p3
        have hz1 := HR.out.lt
        have hz2 := HQ.out.lt
        have tok0 : True := trivial
        have HSL : Hid ((Circ.simV gs os ns rs (List.replicate ns.length false)).length = rs.length) := Lib.hid (Circ.simV_len _ _ _ _ _)
        have eqn : ((rs.length : Int) == (rs.length : Int)) = true := by simp
        go_region_held3 (fun w' => (w'.cell? ⟨cc, 0, none⟩ = some (.int .i64 (m : Int)) ∧ w'.cell? ⟨cc, 1, none⟩ = some (.slice nA ns.length nc) ∧ w'.cell? ⟨cc, 2, none⟩ = some (.slice gA gs.length gc) ∧ w'.cell? ⟨cc, 3, none⟩ = some (.slice oA os.length oc)) ∧ w'.cell? ⟨cx, 0, none⟩ = some (.int .i64 (m : Int)) ∧ w'.cell? ⟨cx, 1, none⟩ = some (.slice xN ns.length xn) ∧ w'.cell? ⟨cx, 2, none⟩ = some (.slice xG zg.length xg) ∧ w'.cell? ⟨cx, 3, none⟩ = some (.slice xO os.length xo))
          (first | go_keep | (exact eight_on hb4 (by assumption)) | (exact eight_on hb3 (by assumption)) | (exact eight_on hb2 (by assumption)) | (exact eight_on hb1 (by assumption)))
          (first
            | (have _t := tok0; go_at_call 24; refine (simulate_val m rs.length nA gA oA rA ns.length os.length nc gc oc rc ns gs os rs _ rfl rfl rfl HVAL.out HRB.out ?_ ?_).mono ?_; (exact HC.out.below (Below.refl _ wr).drew); (exact HX.out.on (Below.refl _ wr).drew); rintro e u1 ⟨R1, rfl, hr1, hb1⟩; have hw1 : Below wr.heap.size wr u1 := (Below.refl _ wr).drew.trans hb1; have hz1' := hw1.size; have tokA : True := trivial; clear tok0)
            | (have _t := tokA; go_at_call 24; refine (simulate_val m rs.length xN xG xO rA ns.length os.length xn xg xo rc zn zg zo rs _ HZL.out HZM.out rfl HZV.out HRB.out ((HZ.out.below hw1).mono hz1') (HX.out.on hw1)).mono ?_; rintro e u2 ⟨R2, rfl, hr2, hb2⟩; rw [HES.out] at hr2; have hr1' := hr1.on hb2; have hw2 := hw1.trans (hb2.mono hz1'); have hz2' := hw2.size; have tokB : True := trivial; clear tokA)
            | (have _t := tokB; go_at_call 23; refine (sameRows_len R1 R2 rs.length _ _ (Circ.simV gs os ns rs (List.replicate ns.length false)) _ HSL.out hr1' hr2 (by omega) HOF.out).mono ?_; rintro e u3 ⟨rfl, hb3⟩; have hw3 := hw2.trans (hb3.mono hz2'); have hz3' := hw3.size; have tokC : True := trivial; clear tokB)
            | (have _t := tokC; go_at_call 24; refine (simulate_val m rs.length nA gA oA rA ns.length os.length nc gc oc rc ns gs os rs _ rfl rfl rfl HVAL.out HRB.out ((HC.out.below hw3).mono hz3') (HX.out.on hw3)).mono ?_; rintro e u4 ⟨R4, rfl, hr4, hb4⟩; have hw4 := hw3.trans (hb4.mono hz3'); clear tokC))
        all_goals
          go_wp2
          go_ret
          exact ⟨rfl, HL.out.trans (hw4.mono HL.out.size)⟩
end Go.Proofs.Ythpiddpkcmecfaa
