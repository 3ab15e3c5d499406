/- The contract of FindDifference of the program. -/
import Derived.Test.YthpiddpkcmecfaaY9
import Derived.Test.YthpiddpkcmecfaaQB
namespace Go.Proofs.Ythpiddpkcmecfaa
open Go.RowKit Go.Shelf

set_option maxHeartbeats 400000 in
theorem assignments_any (a0 a1 a2 a3 : Value) (w : World) :
    Calls Try.prog 64 #[.agg #[a0, a1, a2, a3]] w fun e w' => e = .returned (.func (.func 98) #[] #[.pointer (some ⟨w.heap.size, 0, none⟩)]) ∧ w.alloc (.cells #[a0, a1, a2, a3] 26) = w' := by
  go_enter Try.func64, Try.ntmps64
  go_wp2
  go_ret
  exact ⟨rfl, rfl⟩

def FDOutI (w : World) (fd : Bool × List Bool × List Bool) (e : Ending) (w' : World) : Prop :=
  ∃ (A1 A2 : Option Addr), e = .returned (.agg #[.bool fd.1, .slice A1 fd.2.1.length fd.2.1.length, .slice A2 fd.2.2.length fd.2.2.length]) ∧ BPair w' w.heap.size A1 A2 fd.2.1 fd.2.2 ∧ Below w.heap.size w w'

/-- What lies in cells lies so behind a turn of what is no cells. -/
theorem Row.turn {W W' : World} {B b : Nat} {t : TypeId} {cs : Array Value} {row : Option Nat} (h : Row W b t cs) (hg : W.grownBy W' row) (hr : ∀ r, row = some r → B ≤ r ∧ ∃ o : Obj, W.heap[r]? = some o ∧ o.isCells = false) : Row W' b t cs :=
  h.grown hg (fun e => by
    obtain ⟨_, o, ho, hc⟩ := hr b e.symm
    have h' := h
    unfold Row at h'
    rw [h'] at ho
    cases ho
    cases hc)
theorem BRow.turn {W W' : World} {B b : Nat} {xs : List Bool} {row : Option Nat} (h : BRow W b xs) (hg : W.grownBy W' row) (hr : ∀ r, row = some r → B ≤ r ∧ ∃ o : Obj, W.heap[r]? = some o ∧ o.isCells = false) : BRow W' b xs := by
  obtain ⟨cs, h1, h2⟩ := h
  exact ⟨cs, h1.turn hg hr, h2⟩
theorem AsgGd.on {D m nl : Nat} {pre : List (Nat × Nat)} {x : Nat × Nat} {V V' : World} (h : AsgGd D m nl pre x V) (hb : Below V.heap.size V V') : AsgGd D m nl pre x V' := ⟨h.lt, h.d1, h.d2, h.ne, h.st.on hb, h.ins.on hb⟩
theorem AsgGd.turn {D m nl B : Nat} {pre : List (Nat × Nat)} {x : Nat × Nat} {W W' : World} {row : Option Nat} (h : AsgGd D m nl pre x W) (hg : W.grownBy W' row) (hr : ∀ r, row = some r → B ≤ r ∧ ∃ o : Obj, W.heap[r]? = some o ∧ o.isCells = false) : AsgGd D m nl pre x W' := ⟨h.lt, h.d1, h.d2, h.ne, h.st.turn hg hr, h.ins.turn hg hr⟩
/-- The counterexample lies in the result. -/
structure Found (w : World) (P lo m nl : Nat) (d : Nat → Bool) (k : Nat) (x : Nat × Nat) (W : World) : Prop where
  lt : k < 2 ^ (m + nl)
  no : ∀ y, y < k → d y = false
  yes : d k = true
  row : Row W P 50 #[.bool true, .slice (some ⟨x.1, 0, none⟩) nl nl, .slice (some ⟨x.2, 0, none⟩) m m]
  d1 : lo ≤ x.1
  d2 : lo ≤ x.2
  ne : x.1 ≠ x.2
  st : BRow W x.1 (Circ.bitsN (k / 2 ^ m) nl)
  ins : BRow W x.2 (Circ.bitsN k m)
  bel : Below w.heap.size w W
theorem Found.turn {w : World} {P lo m nl B : Nat} {d : Nat → Bool} {k : Nat} {x : Nat × Nat} {W W' : World} {row : Option Nat} (h : Found w P lo m nl d k x W) (hg : W.grownBy W' row) (hB : w.heap.size ≤ B) (hr : ∀ r, row = some r → B ≤ r ∧ ∃ o : Obj, W.heap[r]? = some o ∧ o.isCells = false) : Found w P lo m nl d k x W' :=
  ⟨h.lt, h.no, h.yes, h.row.turn hg hr, h.d1, h.d2, h.ne, h.st.turn hg hr, h.ins.turn hg hr, h.bel.grown hg h.bel.size (fun r e => Nat.le_trans hB (hr r e).1)⟩

attribute [local go_sem] Oper.semAt_some
set_option maxRecDepth 100000 in
set_option maxHeartbeats 4000000 in
theorem find_any (i : Int) (nA gA oA : Option Addr) (nc gc oc : Nat) (ns : List Int) (gs : List (Int × Int)) (os : List Int) (i' : Int) (nA' gA' oA' : Option Addr) (nc' gc' oc' : Nat) (ns' : List Int) (gs' : List (Int × Int)) (os' : List Int) (w : World) (hc : CircAt w w.heap.size nA gA oA ns gs os) (hd : CircAt w w.heap.size nA' gA' oA' ns' gs' os') :
    Calls Try.prog 32 #[.agg #[.int .i64 i, .slice nA ns.length nc, .slice gA gs.length gc, .slice oA os.length oc], .agg #[.int .i64 i', .slice nA' ns'.length nc', .slice gA' gs'.length gc', .slice oA' os'.length oc']] w (FDOutI w (Circ.fdV i ns gs os i' ns' gs' os')) := by
  have HC := Lib.hid hc
  have HD := Lib.hid hd
  clear hc hd
  have hb0 : Below w.heap.size w (((w.alloc (.cells #[.int .i64 i, .slice nA ns.length nc, .slice gA gs.length gc, .slice oA os.length oc] 26)).alloc (.cells #[.int .i64 i', .slice nA' ns'.length nc', .slice gA' gs'.length gc', .slice oA' os'.length oc'] 26)).alloc (.cells #[.bool false, .slice none 0 0, .slice none 0 0] 50)) := (((Below.refl _ _).alloc (Nat.le_refl _) _).alloc (by simp) _).alloc (by simp; omega) _
  have r1 : Row (((w.alloc (.cells #[.int .i64 i, .slice nA ns.length nc, .slice gA gs.length gc, .slice oA os.length oc] 26)).alloc (.cells #[.int .i64 i', .slice nA' ns'.length nc', .slice gA' gs'.length gc', .slice oA' os'.length oc'] 26)).alloc (.cells #[.bool false, .slice none 0 0, .slice none 0 0] 50)) w.heap.size 26 #[.int .i64 i, .slice nA ns.length nc, .slice gA gs.length gc, .slice oA os.length oc] := (Below.heap_alloc _ _ _ (by simp; omega)).trans ((Below.heap_alloc _ _ _ (by simp)).trans (heap_alloc_new w _))
  have r2 : Row (((w.alloc (.cells #[.int .i64 i, .slice nA ns.length nc, .slice gA gs.length gc, .slice oA os.length oc] 26)).alloc (.cells #[.int .i64 i', .slice nA' ns'.length nc', .slice gA' gs'.length gc', .slice oA' os'.length oc'] 26)).alloc (.cells #[.bool false, .slice none 0 0, .slice none 0 0] 50)) (w.heap.size + 1) 26 #[.int .i64 i', .slice nA' ns'.length nc', .slice gA' gs'.length gc', .slice oA' os'.length oc'] := (Below.heap_alloc _ _ _ (by simp)).trans (by
    have := heap_alloc_new (w.alloc (.cells #[.int .i64 i, .slice nA ns.length nc, .slice gA gs.length gc, .slice oA os.length oc] 26)) (.cells #[.int .i64 i', .slice nA' ns'.length nc', .slice gA' gs'.length gc', .slice oA' os'.length oc'] 26)
    simpa using this)
  have r3 : Row (((w.alloc (.cells #[.int .i64 i, .slice nA ns.length nc, .slice gA gs.length gc, .slice oA os.length oc] 26)).alloc (.cells #[.int .i64 i', .slice nA' ns'.length nc', .slice gA' gs'.length gc', .slice oA' os'.length oc'] 26)).alloc (.cells #[.bool false, .slice none 0 0, .slice none 0 0] 50)) (w.heap.size + 1 + 1) 50 #[.bool false, .slice none 0 0, .slice none 0 0] := by
    have := heap_alloc_new ((w.alloc (.cells #[.int .i64 i, .slice nA ns.length nc, .slice gA gs.length gc, .slice oA os.length oc] 26)).alloc (.cells #[.int .i64 i', .slice nA' ns'.length nc', .slice gA' gs'.length gc', .slice oA' os'.length oc'] 26)) (.cells #[.bool false, .slice none 0 0, .slice none 0 0] 50)
    simpa [Row] using this
  have HL0 := Lib.hid hb0
  have HR0 := Lib.hid r1
  have HQ0 := Lib.hid r2
  have HZ0 := Lib.hid r3
  clear hb0 r1 r2 r3
  refine (callsIn_wide (n := 3)).1 ?_
  refine callsIn_of_wp_marks Try.func32 rfl trivial ?_ rfl
  simp only [Try.ntmps32, List.size_toArray, List.length_cons, List.length_nil, Nat.reduceAdd, Nat.reduceSub, Array.replicate_succ, Array.replicate_zero, List.push_toArray, List.append_toArray, List.nil_append, List.cons_append]
  gi_wp2_with fail
  refine ⟨trivial, (callsIn_wide.2 (sameIf_any i nA gA oA nc gc oc ns gs os i' nA' gA' oA' nc' gc' oc' ns' gs' os' _ ((HC.out.below HL0.out).mono HL0.out.size) ((HD.out.below HL0.out).mono HL0.out.size))).mono ?_⟩
  rintro e w1 ⟨rfl, hb1⟩
  have HL1 := Lib.hid (HL0.out.trans (hb1.mono HL0.out.size))
  have HR1 := Lib.hid (HR0.out.below hb1 HR0.out.lt)
  have HQ1 := Lib.hid (HQ0.out.below hb1 HQ0.out.lt)
  have HZ1 := Lib.hid (HZ0.out.below hb1 HZ0.out.lt)
  clear hb1 HL0 HR0 HQ0 HZ0
  have z0 := HZ1.out.cell 0
  have z1 := HZ1.out.cell 1
  have z2 := HZ1.out.cell 2
  have y0 := HZ1.out.frozen 0
  have y1 := HZ1.out.frozen 1
  have y2 := HZ1.out.frozen 2
  simp at z0 z1 z2
  cases hs : Circ.sameIf i ns gs os i' ns' gs' os'
  · have HF := Lib.hid (Circ.fdV_f hs)
    clear hs
    gi_wp2
    have hrow := ((HZ1.out.set 0 (.bool false)).set 1 (.slice none 0 0)).set 2 (.slice none 0 0)
    have c0 := hrow.cell 0
    have c1 := hrow.cell 1
    have c2 := hrow.cell 2
    simp at c0 c1 c2
    refine ⟨.agg #[.bool false, .slice none 0 0, .slice none 0 0], by simp [results, Try.results32, go_sem, c0, c1, c2], none, none, by rw [HF.out]; rfl, ?_, ?_⟩
    · rw [HF.out]; exact ⟨.inl ⟨rfl, rfl⟩, .inl ⟨rfl, rfl⟩, fun g e => by cases e⟩
    · exact ((HL1.out.setCell (p := ⟨w.heap.size + 1 + 1, 0, none⟩) (by show w.heap.size ≤ w.heap.size + 1 + 1; omega) _).setCell (p := ⟨w.heap.size + 1 + 1, 1, none⟩) (by show w.heap.size ≤ w.heap.size + 1 + 1; omega) _).setCell (p := ⟨w.heap.size + 1 + 1, 2, none⟩) (by show w.heap.size ≤ w.heap.size + 1 + 1; omega) _
  · obtain ⟨hv, hv', hie, hne, hoe⟩ := Circ.sameIf_inv hs
    have HS := Lib.hid hs
    have HV := Lib.hid hv
    have HV' := Lib.hid hv'
    obtain ⟨hi0, hi4, hn3, hg14, ho3⟩ := Circ.valid_within hv
    subst hie
    obtain ⟨m, rfl⟩ := Int.eq_ofNat_of_zero_le hi0
    have HNE := Lib.hid hne
    have HOE := Lib.hid hoe
    clear hs hv hv' hne hoe
    have q0 := HR1.out.cell 0
    have q1 := HR1.out.cell 1
    have q2 := HR1.out.cell 2
    have q3 := HR1.out.cell 3
    simp at q0 q1 q2 q3
    gi_wp2_with fail
    refine ⟨trivial, (callsIn_wide.2 (assignments_any _ _ _ _ _)).mono ?_⟩
    rintro e w2 ⟨rfl, hw2⟩
    have hb2 : Below w1.heap.size w1 w2 := by rw [← hw2]; exact (Below.refl _ _).alloc (Nat.le_refl _) _
    have HK2 : Hid (Row w2 w1.heap.size 26 #[.int .i64 (m : Int), .slice nA ns.length nc, .slice gA gs.length gc, .slice oA os.length oc]) := Lib.hid (by rw [← hw2]; exact heap_alloc_new w1 _)
    have HL2 := Lib.hid (HL1.out.trans (hb2.mono HL1.out.size))
    have HR2 := Lib.hid (HR1.out.below hb2 HR1.out.lt)
    have HQ2 := Lib.hid (HQ1.out.below hb2 HQ1.out.lt)
    have HZ2 := Lib.hid (HZ1.out.below hb2 HZ1.out.lt)
    have HC2 := Lib.hid ((HC.out.below HL2.out).mono HL2.out.size)
    have HD2 := Lib.hid ((HD.out.below HL2.out).mono HL2.out.size)
    have hPz := HZ2.out.lt
    clear hw2 hb2 HL1 HR1 HQ1 HZ1 q0 q1 q2 q3 z0 z1 z2 y0 y1 y2
    gi_wp2
    generalize w1.heap.size = Bn at *
    obtain ⟨d, hd⟩ : ∃ d, Circ.differB m ns.length ns gs os ns' gs' os' = d := ⟨_, rfl⟩
    have HDD := Lib.hid hd
    clear hd
    refine wpIn_rangeFunc_given rfl (by omega) (gf := 98) (lb := #[.pointer (some ⟨Bn, 0, none⟩)]) rfl trivial (enters_of Try.func98 (by kernel_rfl) rfl)
      (asgSeq _ Bn w2.heap.size m nA gA oA ns.length gs.length os.length nc gc oc w2 HK2.out HK2.out.lt (Nat.le_refl _) (by omega) (by omega)) (Nat.le_refl _) (fun x => rfl)
      (fun pre W => (∀ y, y < pre.length → d y = false) ∧ Below w2.heap.size w2 W)
      (fun _ W => ∃ k x, Found w (w.heap.size + 1 + 1) w2.heap.size m ns.length d k x W)
      (fun s W W' row hs hg hr => ⟨hs.1, hs.2.grown hg hs.2.size (fun k e => (hr k e).1)⟩)
      (fun s W W' row hs hg hr => by
        obtain ⟨k, x, h⟩ := hs
        exact ⟨k, x, h.turn hg HL2.out.size hr⟩)
      ⟨fun y hy => absurd hy (by simp), Below.refl _ _⟩
      (fun pre x a' W => AsgGd w2.heap.size m ns.length pre x W ∧ ∃ Bx, w2.heap.size ≤ Bx ∧ Bx ≠ x.1 ∧ Bx ≠ x.2 ∧ Row W Bx 80 #[.slice (some ⟨x.1, 0, none⟩) ns.length ns.length, .slice (some ⟨x.2, 0, none⟩) m m] ∧
        a' = { tmps := #[.agg #[.int .i64 (m : Int), .slice nA ns.length nc, .slice gA gs.length gc, .slice oA os.length oc], .agg #[.int .i64 (m : Int), .slice nA' ns'.length nc', .slice gA' gs'.length gc', .slice oA' os'.length oc'], .pointer (some ⟨w.heap.size, 0, none⟩), .pointer (some ⟨w.heap.size + 1, 0, none⟩), .pointer (some ⟨w.heap.size + 1 + 1, 0, none⟩), .pointer (some ⟨Bx, 0, none⟩), .agg #[.int .i64 (m : Int), .slice nA ns.length nc, .slice gA gs.length gc, .slice oA os.length oc], .agg #[.int .i64 (m : Int), .slice nA' ns'.length nc', .slice gA' gs'.length gc', .slice oA' os'.length oc'], .bool true, .bool false, undef, .agg #[.int .i64 (m : Int), .slice nA ns.length nc, .slice gA gs.length gc, .slice oA os.length oc], .func (.func 98) #[] #[.pointer (some ⟨Bn, 0, none⟩)], .agg #[.slice (some ⟨x.1, 0, none⟩) ns.length ns.length, .slice (some ⟨x.2, 0, none⟩) m m], undef, undef, undef, undef, undef, undef, undef, undef, undef, undef], defers := [] })
      (fun pre x a' V V' l o h hl ho hc hg => by
        obtain ⟨h1, Bx, h2, h3, h4, h5, h6⟩ := h
        have hr : ∀ r, some l = some r → w2.heap.size ≤ r ∧ ∃ o : Obj, V.heap[r]? = some o ∧ o.isCells = false := fun r e => by cases e; exact ⟨hl, o, ho, hc⟩
        exact ⟨h1.turn hg hr, Bx, h2, h3, h4, h5.turn hg hr, h6⟩) ?assign ?body ?done ?stop
    case assign =>
      rintro l pre x W K ⟨hno, hB⟩ hgd hK
      simp only [asgV]
      gi_wp2
      have hz := hB.size
      have hx1 := hgd.st.lt
      have hx2 := hgd.ins.lt
      exact hK _ _ (KeepsOthers.alloc _ _) ((Below.refl _ W).alloc hB.size _) ⟨hno, hB.alloc hB.size _⟩ ⟨hgd.on ((Below.refl _ W).alloc (Nat.le_refl _) _), W.heap.size, hz, by omega, by omega, heap_alloc_new W _, rfl⟩
    case body =>
      rintro l pre x a' W ⟨hno, hB⟩ ⟨hgd, Bx, hBx, hBx1, hBx2, hrow, rfl⟩
      have hR := HR2.out.below hB HR2.out.lt
      have hQ := HQ2.out.below hB HQ2.out.lt
      have hZ := HZ2.out.below hB HZ2.out.lt
      have q0 := hR.cell 0
      have q1 := hR.cell 1
      have q2 := hR.cell 2
      have q3 := hR.cell 3
      have p0 := hQ.cell 0
      have p1 := hQ.cell 1
      have p2 := hQ.cell 2
      have p3 := hQ.cell 3
      have g0 := hrow.cell 0
      have g1 := hrow.cell 1
      simp at q0 q1 q2 q3 p0 p1 p2 p3 g0 g1
      have HRW := Lib.hid hrow
      have HGD := Lib.hid hgd
      have HB := Lib.hid hB
      have HZZ := Lib.hid hZ
      have HNO := Lib.hid hno
      have hx1 := hgd.d1
      have hx2 := hgd.d2
      have HA1 : Hid (assignB (m : Int) ns gs os ns.length m = true) := Lib.hid (by unfold assignB; rw [HV.out]; simp)
      have HA2 : Hid (assignB (m : Int) ns' gs' os' ns.length m = true) := Lib.hid (by unfold assignB; rw [HV'.out, HNE.out]; simp)
      have HCW := Lib.hid ((HC2.out.below hB).mono hB.size)
      have HDW := Lib.hid ((HD2.out.below hB).mono hB.size)
      clear hrow hgd hR hQ hZ hB hno
      gi_wp2_with fail
      refine ⟨trivial, (CallsIn.inRound l (callsIn_wide.2 (differFor_any (m : Int) nA gA oA nc gc oc ns gs os (m : Int) nA' gA' oA' nc' gc' oc' ns' gs' os' (some ⟨x.1, 0, none⟩) (some ⟨x.2, 0, none⟩) ns.length m ns.length m (Circ.bitsN (pre.length / 2 ^ m) ns.length) (Circ.bitsN pre.length m) W HCW.out HDW.out HGD.out.st.bools HGD.out.ins.bools (Circ.bitsN_len _ _) (Circ.bitsN_len _ _) HA1.out HA2.out _ _ rfl rfl))).mono ?_⟩
      rintro e W3 ⟨he, hb3⟩
      have hdk : (!((Circ.outV gs os (Circ.bitsN (pre.length / 2 ^ m) ns.length) (Circ.bitsN pre.length m) == Circ.outV gs' os' (Circ.bitsN (pre.length / 2 ^ m) ns.length) (Circ.bitsN pre.length m)) && (Circ.outV gs ns (Circ.bitsN (pre.length / 2 ^ m) ns.length) (Circ.bitsN pre.length m) == Circ.outV gs' ns' (Circ.bitsN (pre.length / 2 ^ m) ns.length) (Circ.bitsN pre.length m)))) = d pre.length := by rw [← HDD.out]; rfl
      rw [hdk] at he
      clear hdk
      subst he
      have HB3 := Lib.hid hb3
      have HRW3 := Lib.hid (HRW.out.below hb3 HRW.out.lt)
      have HGD3 := Lib.hid (HGD.out.on hb3)
      have HZ3 := Lib.hid (HZZ.out.below hb3 HZZ.out.lt)
      clear hb3 q0 q1 q2 q3 p0 p1 p2 p3 g0 g1
      cases hdd : d pre.length
      · have HD1 := Lib.hid hdd
        clear hdd
        gi_wp2
        exact ⟨keeps_below HB3.out, HB3.out.mono HB.out.size, fun y hy => by
          rw [List.length_append, List.length_singleton] at hy
          by_cases e : y = pre.length
          · rw [e]; exact HD1.out
          · exact HNO.out y (by omega), HB.out.trans (HB3.out.mono HB.out.size)⟩
      · have HD1 := Lib.hid hdd
        clear hdd
        have g0 := HRW3.out.cell 0
        have g1 := HRW3.out.cell 1
        have z0 := HZ3.out.cell 0
        have z1 := HZ3.out.cell 1
        have z2 := HZ3.out.cell 2
        have y0 := HZ3.out.frozen 0
        have y1 := HZ3.out.frozen 1
        have y2 := HZ3.out.frozen 2
        simp at g0 g1 z0 z1 z2
        gi_wp2
        have hlw := HL2.out.size
        refine ⟨(keeps_below HB3.out).trans (((KeepsOthers.setCell _ _ _).trans (KeepsOthers.setCell _ _ _)).trans (KeepsOthers.setCell _ _ _)), pre.length, x, HGD3.out.lt, HNO.out, HD1.out, ?_, hx1, hx2, HGD3.out.ne, ?_, ?_, ?_⟩
        · have h := ((HZ3.out.set 0 (.bool true)).set 1 (.slice (some ⟨x.1, 0, none⟩) ns.length ns.length)).set 2 (.slice (some ⟨x.2, 0, none⟩) m m)
          simpa using h
        · exact ((HGD3.out.st.far _ _ (by simp; omega)).far _ _ (by simp; omega)).far _ _ (by simp; omega)
        · exact ((HGD3.out.ins.far _ _ (by simp; omega)).far _ _ (by simp; omega)).far _ _ (by simp; omega)
        · have hbb := HL2.out.trans ((HB.out.trans (HB3.out.mono HB.out.size)).mono HL2.out.size)
          exact ((hbb.setCell (p := ⟨w.heap.size + 1 + 1, 0, none⟩) (by show w.heap.size ≤ w.heap.size + 1 + 1; omega) _).setCell (p := ⟨w.heap.size + 1 + 1, 1, none⟩) (by show w.heap.size ≤ w.heap.size + 1 + 1; omega) _).setCell (p := ⟨w.heap.size + 1 + 1, 2, none⟩) (by show w.heap.size ≤ w.heap.size + 1 + 1; omega) _
    case done =>
      rintro D xs W hDz hS ⟨hno, hB⟩ hK
      have hZ := HZ2.out.below hB HZ2.out.lt
      have HZW := Lib.hid hZ
      have z0 := hZ.cell 0
      have z1 := hZ.cell 1
      have z2 := hZ.cell 2
      have y0 := hZ.frozen 0
      have y1 := hZ.frozen 1
      have y2 := hZ.frozen 2
      simp at z0 z1 z2
      have HF : Hid (Circ.fdV (m : Int) ns gs os (m : Int) ns' gs' os' = (false, [], [])) := Lib.hid (Circ.fdV_none (fun y hy => by
        rw [Int.toNat_natCast, HDD.out]
        rw [Int.toNat_natCast] at hy
        exact hno y (by rw [hS]; exact hy)))
      have HBW := Lib.hid (HL2.out.trans (hB.mono HL2.out.size))
      have HKD := Lib.hid hK
      clear hno hB hS hZ hK
      gi_wp2
      have hK' := (((KeepsOthers.setCell W ⟨w.heap.size + 1 + 1, 0, none⟩ (.bool false)).trans (KeepsOthers.setCell _ ⟨w.heap.size + 1 + 1, 1, none⟩ (.slice none 0 0))).trans (KeepsOthers.setCell _ ⟨w.heap.size + 1 + 1, 2, none⟩ (.slice none 0 0))).same D _ HKD.out rfl
      have hrow := ((HZW.out.set 0 (.bool false)).set 1 (.slice none 0 0)).set 2 (.slice none 0 0)
      refine ⟨by simp, .inl ⟨_, _, rfl, run_takeDeferred hK', ?_⟩⟩
      have hrow5 := hrow.turn (B := 0) (grownBy_putObj' _ D (.deferred none)) (fun r e => by cases e; exact ⟨Nat.zero_le _, _, hK', rfl⟩)
      have c0 := hrow5.cell 0
      have c1 := hrow5.cell 1
      have c2 := hrow5.cell 2
      simp at c0 c1 c2
      have hlw := HL2.out.size
      refine ⟨.agg #[.bool false, .slice none 0 0, .slice none 0 0], by simp [results, Try.results32, go_sem, c0, c1, c2], none, none, by rw [HF.out]; rfl, ?_, ?_⟩
      · rw [HF.out]; exact ⟨.inl ⟨rfl, rfl⟩, .inl ⟨rfl, rfl⟩, fun g e => by cases e⟩
      · exact (((HBW.out.setCell (p := ⟨w.heap.size + 1 + 1, 0, none⟩) (by show w.heap.size ≤ w.heap.size + 1 + 1; omega) _).setCell (p := ⟨w.heap.size + 1 + 1, 1, none⟩) (by show w.heap.size ≤ w.heap.size + 1 + 1; omega) _).setCell (p := ⟨w.heap.size + 1 + 1, 2, none⟩) (by show w.heap.size ≤ w.heap.size + 1 + 1; omega) _).trans (belowK_b (w := w) (Nat.le_refl _) _ D _ _ (by omega) hK' rfl rfl)
    case stop =>
      rintro D pre W hDz _ ⟨k, x, hf⟩ hK
      have HFd := Lib.hid hf
      have HKD := Lib.hid hK
      clear hf hK
      gi_wp2
      refine ⟨by simp, .inl ⟨_, _, rfl, run_takeDeferred HKD.out, ?_⟩⟩
      have hf := HFd.out.turn (B := w.heap.size) (grownBy_putObj' _ D (.deferred none)) (Nat.le_refl _) (fun r e => by cases e; exact ⟨Nat.le_trans HL2.out.size hDz, _, HKD.out, rfl⟩)
      have c0 := hf.row.cell 0
      have c1 := hf.row.cell 1
      have c2 := hf.row.cell 2
      simp at c0 c1 c2
      have hlw := HL2.out.size
      have hF : Circ.fdV (m : Int) ns gs os (m : Int) ns' gs' os' = (true, Circ.bitsN (k / 2 ^ m) ns.length, Circ.bitsN k m) := by
        have h := Circ.fdV_some (x := k) HS.out (by rw [Int.toNat_natCast]; exact hf.lt) (fun y hy => by rw [Int.toNat_natCast, HDD.out]; exact hf.no y hy) (by rw [Int.toNat_natCast, HDD.out]; exact hf.yes)
        rwa [Int.toNat_natCast] at h
      refine ⟨.agg #[.bool true, .slice (some ⟨x.1, 0, none⟩) ns.length ns.length, .slice (some ⟨x.2, 0, none⟩) m m], by simp [results, Try.results32, go_sem, c0, c1, c2], some ⟨x.1, 0, none⟩, some ⟨x.2, 0, none⟩, by rw [hF]; simp [Circ.bitsN_len], ?_, hf.bel⟩
      rw [hF]
      have hd1 := hf.d1
      have hd2 := hf.d2
      exact ⟨.inr ⟨_, rfl, by omega, hf.st⟩, .inr ⟨_, rfl, by omega, hf.ins⟩, fun g e e' => hf.ne (by injection e with e; injection e' with e'; injection e with e; injection e' with e'; rw [e, e'])⟩
end Go.Proofs.Ythpiddpkcmecfaa
