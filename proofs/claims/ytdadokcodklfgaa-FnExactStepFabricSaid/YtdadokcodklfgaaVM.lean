/- The program's memory of the values of wires: a clock cycle. -/
import Derived.Test.YtdadokcodklfgaaVP
import Derived.Test.YtdadokcodklfgaaNC
import Derived.Test.YtdadokcodklfgaaKQ
import Derived.Deep.DeepCutAuto
namespace Go.Proofs.Ytdadokcodklfgaa
open Go.RowKit Go.Deep Cut Fz

/-- A clock cycle as an argument: tiles, pads, flip-flops, inputs. -/
structure CkP where
  TA : Option Addr
  tc : Nat
  PA : Option Addr
  pc : Nat
  RA : Option Addr
  rc : Nat
  IA : Option Addr
  ni : Nat
  ic : Nat
abbrev ckv (K : CkP) : Value := .agg #[.slice K.TA 25 K.tc, .slice K.PA 3 K.pc, .slice K.RA 25 K.rc, .slice K.IA K.ni K.ic]
structure CkIn (w : World) (S : Nat) (K : CkP) (ts : List Tl) (rs ins : List Bool) : Prop where
  tl : TlIn w S K.TA ts
  rg : BoolsAt w S K.RA rs
  inn : BoolsAt w S K.IA ins
  n1 : ts.length = 25
  n2 : rs.length = 25
  n3 : ins.length = K.ni
  ok : ∀ k, k < 25 → tlOk k (ts.getD k tl0) = true
theorem CkIn.below {w w' : World} {S : Nat} {K : CkP} {ts : List Tl} {rs ins : List Bool} (h : CkIn w S K ts rs ins) (hb : Below S w w') : CkIn w' S K ts rs ins := ⟨h.tl.below hb, h.rg.below hb, h.inn.below hb, h.n1, h.n2, h.n3, h.ok⟩
theorem CkIn.mono {w : World} {S S' : Nat} {K : CkP} {ts : List Tl} {rs ins : List Bool} (h : CkIn w S K ts rs ins) (hS : S ≤ S') : CkIn w S' K ts rs ins := ⟨h.tl.mono hS, h.rg.mono hS, h.inn.mono hS, h.n1, h.n2, h.n3, h.ok⟩
/-- What lies around while wires are asked. -/
structure EnvV (w : World) (S a1 a2 cb ab : Nat) (K : CkP) (ts : List Tl) (rs ins : List Bool) : Prop where
  rcb : Row w cb 156 #[.func (.func 117) #[ckv K] #[]]
  rab : Row w ab 149 #[askF a1 cb ab a2]
  ck : CkIn w S K ts rs ins
  ord : S ≤ cb ∧ cb < a1 ∧ a1 < a2 ∧ a2 < ab
theorem EnvV.kp {w w' : World} {S a1 a2 cb ab : Nat} {K : CkP} {ts : List Tl} {rs ins : List Bool} (h : EnvV w S a1 a2 cb ab K ts rs ins) (hk : KpM a1 a2 S w w') : EnvV w' S a1 a2 cb ab K ts rs ins := by
  obtain ⟨o2, o3, o4, o5⟩ := h.ord
  exact ⟨(hk.keep _ h.rcb.lt (by omega) (by omega)).trans h.rcb, (hk.keep _ h.rab.lt (by omega) (by omega)).trans h.rab, h.ck.below hk.below, h.ord⟩
def AskV (S a1 a2 cb ab : Nat) (K : CkP) (ts : List Tl) (rs ins : List Bool) (f : Nat) : Prop :=
  ∀ (M : List Nat) (t u : Nat) (w : World), t < 25 → u < 8 → EnvV w S a1 a2 cb ab K ts rs ins → MSt w a1 a2 M → zeros M ≤ f →
    Calls Try.prog 139 #[.agg #[.int .i64 (t : Int), .int .i64 (u : Int)], .pointer (some ⟨a1, 0, none⟩), .pointer (some ⟨cb, 0, none⟩), .pointer (some ⟨ab, 0, none⟩), .pointer (some ⟨a2, 0, none⟩)] w (MkOut a1 a2 S (memo (valA ts rs ins) (f + 1) M (t, u)) w)
def CompV (S a1 a2 cb ab : Nat) (K : CkP) (ts : List Tl) (rs ins : List Bool) (f : Nat) : Prop :=
  ∀ (M : List Nat) (t u : Nat) (w : World), t < 25 → u < 8 → EnvV w S a1 a2 cb ab K ts rs ins → MSt w a1 a2 M → zeros M ≤ f →
    Calls Try.prog 117 #[ckv K, .agg #[.int .i64 (t : Int), .int .i64 (u : Int)], askF a1 cb ab a2] w (MkOut a1 a2 S (runQ (memo (valA ts rs ins) (f + 1)) M (valA ts rs ins (t, u))) w)
set_option maxRecDepth 10000 in
set_option maxHeartbeats 1600000 in
theorem askv_step (S a1 a2 cb ab : Nat) (K : CkP) (ts : List Tl) (rs ins : List Bool) (f : Nat) (hC : ∀ f', f = f' + 1 → CompV S a1 a2 cb ab K ts rs ins f') : AskV S a1 a2 cb ab K ts rs ins f := by
  intro M t u w ht hu hE hM hz
  have hi : 8 * t + u < 200 := by omega
  have hwi : wi (t, u) = t * 8 + u := by unfold wi; omega
  obtain ⟨o2, o3, o4, o5⟩ := hE.ord
  obtain ⟨w1, hw1⟩ : ∃ w1, w1 = w.alloc (.cells #[.int .i64 (t : Int), .int .i64 (u : Int)] 152) := ⟨_, rfl⟩
  have hb1 : Below w.heap.size w w1 := by rw [hw1]; exact (Below.refl _ _).alloc (Nat.le_refl _) _
  have hX1 : Row w1 w.heap.size 152 #[.int .i64 (t : Int), .int .i64 (u : Int)] := by rw [hw1]; exact row_new w _ _
  have hz1 : w1.heap.size = w.heap.size + 1 := by rw [hw1]; simp
  have hM1 := hM.on hb1
  have hab := hE.rab.lt
  have hK1 : KpM a1 a2 S w w1 := KpM.more hb1 (by omega)
  have hE1 := hE.kp hK1
  have x0 := hX1.cell 0
  have x1 := hX1.cell 1
  simp at x0 x1
  have m1 := hM1.asked.cell (i := t * 8 + u) (by omega)
  have m2 := hM1.ans.cell (i := t * 8 + u) (by omega)
  have it0 : (0 : Int) ≤ (t : Int) := Int.natCast_nonneg _
  have it1 : (t : Int) < 25 := by omega
  have iu0 : (0 : Int) ≤ (u : Int) := Int.natCast_nonneg _
  have iu1 : (u : Int) < 8 := by omega
  by_cases h0 : M.getD (t * 8 + u) 0 = 0
  · obtain ⟨f', hf'⟩ : ∃ f', f = f' + 1 := ⟨f - 1, by have := zeros_some (M := M) (i := t * 8 + u) (by omega) h0; omega⟩
    have HC := Lib.hid (hC f' hf')
    have hzm := zeros_set (M := M) (i := t * 8 + u) hM.len (by omega) h0
    have hR : memo (valA ts rs ins) (f + 1) M (t, u) = ((runQ (memo (valA ts rs ins) (f' + 1)) (M.set (t * 8 + u) 1) (valA ts rs ins (t, u))).1, (runQ (memo (valA ts rs ins) (f' + 1)) (M.set (t * 8 + u) 1) (valA ts rs ins (t, u))).2.set (t * 8 + u) (if (runQ (memo (valA ts rs ins) (f' + 1)) (M.set (t * 8 + u) 1) (valA ts rs ins (t, u))).1 then 2 else 1)) := by
      rw [memo_new (valA ts rs ins) f M (t, u) (by rw [hwi]; exact h0), hwi, hf']
    have hone : (runQ (memo (valA ts rs ins) (f' + 1)) (M.set (t * 8 + u) 1) (valA ts rs ins (t, u))).2.getD (t * 8 + u) 0 = 1 := by
      have h5 := memo_one (valA ts rs ins) (f' + 1) M (t, u) hM.len (by rw [hwi]; omega)
      rw [hwi] at h5
      exact h5
    have hzM : zeros (M.set (t * 8 + u) 1) ≤ f' := by omega
    have m1' : w1.cell? ⟨a1, t * 8 + u, none⟩ = some (.bool false) := by rw [m1, h0]; rfl
    have HR := Lib.hid hR
    have HONE := Lib.hid hone
    have HM1 := Lib.hid hM1
    have HK1 := Lib.hid hK1
    have HE1 := Lib.hid hE1
    clear m1 m2 hM hM1 hK1 hE hE1 hR hone hC hzm hz
    go_enter Try.func139, Try.ntmps139
    go_upto_region 1 with fail
    change Code.wp _ _ _ _ (w.alloc (.cells #[.int .i64 (t : Int), .int .i64 (u : Int)] 152))
    rw [← hw1]
    clear hw1
    go_quiet (fail)
    obtain ⟨w2, hw2⟩ : ∃ w2, w2 = w1.drewN nq := ⟨_, rfl⟩
    have y0 : w2.cell? ⟨w.heap.size, 0, none⟩ = some (.int .i64 (t : Int)) := by rw [hw2]; exact x0
    have y1 : w2.cell? ⟨w.heap.size, 1, none⟩ = some (.int .i64 (u : Int)) := by rw [hw2]; exact x1
    have y2 : w2.cell? ⟨a1, t * 8 + u, none⟩ = some (.bool false) := by rw [hw2]; exact m1'
    have hd : Below w1.heap.size w1 w2 := by rw [hw2]; exact ⟨rfl, rfl, rfl, Nat.le_refl _, fun _ _ => rfl⟩
    have HM2 := Lib.hid (HM1.out.on hd)
    have hk12 : KpM a1 a2 S w1 w2 := KpM.more hd (by omega)
    have HK2 := Lib.hid (HK1.out.trans hk12)
    have HE2 := Lib.hid (HE1.out.kp hk12)
    have hz2 : w2.heap.size = w.heap.size + 1 := by rw [hw2]; exact hz1
    have hX2 := hX1.below hd (by omega)
    have f2 := HM2.out.asked.frozen (t * 8 + u)
    rw [← hw2]
    clear hw2 hd x0 x1 m1' HM1 HK1 HE1 hk12 hX1
    go_upto_region 2 with fail
    go_region_held3 (fun w' => w'.cell? ⟨w.heap.size, 0, none⟩ = some (.int .i64 (t : Int)) ∧ w'.cell? ⟨w.heap.size, 1, none⟩ = some (.int .i64 (u : Int)))
      (first | (with_reducible assumption) | (exact ⟨y0, y1⟩) | (exact ⟨(World.cell?_of_block (a := ⟨w.heap.size, 0, none⟩) (Below.heap_setCell _ _ _ _ (by show w.heap.size ≠ a1; omega))).trans y0, (World.cell?_of_block (a := ⟨w.heap.size, 1, none⟩) (Below.heap_setCell _ _ _ _ (by show w.heap.size ≠ a1; omega))).trans y1⟩) | go_keep)
      (fail)
    rename_i _hheld
    clear _hheld
    obtain ⟨w3, hw3⟩ : ∃ w3, w3 = (w2.setCell ⟨a1, t * 8 + u, none⟩ (.bool true)).drew := ⟨_, rfl⟩
    have hM3 : MSt w3 a1 a2 (M.set (t * 8 + u) 1) := by
      rw [hw3]
      exact (HM2.out.open' (by omega) (by omega) h0).on (Below.refl _ _).drew
    have hk23 : KpM a1 a2 S w2 w3 := by
      rw [hw3]
      have h5 := (KpM.refl a1 a2 S w2).set1 (by omega) (t * 8 + u) (.bool true)
      exact ⟨h5.below.drew, h5.keep⟩
    have hz3 : w3.heap.size = w.heap.size + 1 := by rw [hw3]; show (w2.setCell _ _).heap.size = _; simp [World.setCell]; exact hz2
    have hX3 : Row w3 w.heap.size 152 #[.int .i64 (t : Int), .int .i64 (u : Int)] := (hk23.keep _ (by omega) (by omega) (by omega)).trans hX2
    have hE3 := HE2.out.kp hk23
    have HK3 := Lib.hid (HK2.out.trans hk23)
    rw [← hw3]
    clear hw3 HM2 HK2 HE2 hk23 hX2 y0 y1 y2 f2 hz2
    have y0 := hX3.cell 0
    have y1 := hX3.cell 1
    simp at y0 y1
    have y2 := hE3.rcb.cell 0
    have y3 := hE3.rab.cell 0
    simp at y2 y3
    have hd3 : Below w3.heap.size w3 w3.drew := (Below.refl _ _).drew
    have HCC := Lib.hid (HC.out (M.set (t * 8 + u) 1) t u w3.drew ht hu (hE3.kp (KpM.more hd3 (by omega))) (hM3.on hd3) hzM)
    generalize runQ (memo (valA ts rs ins) (f' + 1)) (M.set (t * 8 + u) 1) (valA ts rs ins (t, u)) = r at *
    have HFR : Hid (∀ w' : World, KpM a1 a2 S w3.drew w' → w'.cell? ⟨w.heap.size, 0, none⟩ = some (.int .i64 (t : Int)) ∧ w'.cell? ⟨w.heap.size, 1, none⟩ = some (.int .i64 (u : Int)) ∧ w'.cell? ⟨cb, 0, none⟩ = some (.func (.func 117) #[ckv K] #[]) ∧ w'.cell? ⟨ab, 0, none⟩ = some (askF a1 cb ab a2)) := Lib.hid (fun w' hk => ⟨(World.cell?_of_block (a := ⟨w.heap.size, 0, none⟩) (hk.keep w.heap.size (by show w.heap.size < w3.heap.size; omega) (by omega) (by omega))).trans y0, (World.cell?_of_block (a := ⟨w.heap.size, 1, none⟩) (hk.keep w.heap.size (by show w.heap.size < w3.heap.size; omega) (by omega) (by omega))).trans y1, (World.cell?_of_block (a := ⟨cb, 0, none⟩) (hk.keep cb (by show cb < w3.heap.size; omega) (by omega) (by omega))).trans y2, (World.cell?_of_block (a := ⟨ab, 0, none⟩) (hk.keep ab (by show ab < w3.heap.size; omega) (by omega) (by omega))).trans y3⟩)
    have HX3 := Lib.hid hX3
    clear HC hE3 hM3 hX3 hd3
    go_upto_region 3 with fail
    go_region_held3 (fun w' => w'.cell? ⟨w.heap.size, 0, none⟩ = some (.int .i64 (t : Int)) ∧ w'.cell? ⟨w.heap.size, 1, none⟩ = some (.int .i64 (u : Int)) ∧ w'.cell? ⟨cb, 0, none⟩ = some (.func (.func 117) #[ckv K] #[]) ∧ w'.cell? ⟨ab, 0, none⟩ = some (askF a1 cb ab a2))
      (first | (with_reducible assumption) | (exact ⟨y0, y1, y2, y3⟩) | (exact hS6) | go_keep)
      (first | (go_at_call 117; go_fit HCC.out; rintro e w5 ⟨rfl, hm5, hk5⟩; have hS5 := HFR.out w5 hk5; have c5 := hm5.ans.cell (i := t * 8 + u) (by omega); have f5 := hm5.ans.frozen (t * 8 + u); have hS6 := HFR.out _ (hk5.set2 (by omega) (t * 8 + u) (.bool r.1))))
    rename_i _hheld
    clear _hheld
    obtain ⟨w6, hw6⟩ : ∃ w6, w6 = w5.setCell ⟨a2, t * 8 + u, none⟩ (.bool r.1) := ⟨_, rfl⟩
    have hM6 : MSt w6 a1 a2 (r.2.set (t * 8 + u) (if r.1 = true then 2 else 1)) := by
      rw [hw6]
      exact hm5.close (by omega) (by omega) HONE.out r.1
    have hk36 : KpM a1 a2 S w3 w6 := by
      rw [hw6]
      have h5 : KpM a1 a2 S w3 w5 := ⟨(Below.refl _ _).drew.trans hk5.below, hk5.keep⟩
      exact h5.set2 (by omega) (t * 8 + u) (.bool r.1)
    have hX6 : Row w6 w.heap.size 152 #[.int .i64 (t : Int), .int .i64 (u : Int)] := (hk36.keep _ (by omega) (by omega) (by omega)).trans HX3.out
    have HK6 := Lib.hid (HK3.out.trans hk36)
    have HM6 := Lib.hid hM6
    have z6 : w6.cell? ⟨a2, t * 8 + u, none⟩ = some (.bool r.1) := by
      rw [hM6.ans.cell (by omega), getD_set, if_pos ⟨rfl, by have := hM6.len; simpa using (show t * 8 + u < r.2.length by simp at this; omega)⟩]
      cases r.1 <;> rfl
    rw [← hw6]
    clear hw6 hm5 hk5 hS5 hS6 c5 f5 hM6 hk36 HX3 HFR HK3 y0 y1 y2 y3 HCC
    have y0 := hX6.cell 0
    have y1 := hX6.cell 1
    simp at y0 y1
    go_wp2
    go_quiet (fail)
    go_wp2
    go_ret
    unfold MkOut
    rw [HR.out]
    have hd : ∀ k, Below w6.heap.size w6 (w6.drewN k) := fun _ => ⟨rfl, rfl, rfl, Nat.le_refl _, fun _ _ => rfl⟩
    exact ⟨rfl, HM6.out.on (hd _), HK6.out.trans (KpM.more (hd _) (by have := HK6.out.below.size; omega))⟩
  · have hR : memo (valA ts rs ins) (f + 1) M (t, u) = (M.getD (t * 8 + u) 0 == 2, M) := by rw [← hwi]; exact memo_old _ _ _ _ (by rw [hwi]; exact h0)
    have m1' : w1.cell? ⟨a1, t * 8 + u, none⟩ = some (.bool true) := by rw [m1, bne_iff_ne.2 h0]
    have HR := Lib.hid hR
    have HM1 := Lib.hid hM1
    have HK1 := Lib.hid hK1
    clear m1 hM hM1 hK1 hE hE1 hR hX1 hC
    generalize (M.getD (t * 8 + u) 0 == 2) = q at *
    go_enter Try.func139, Try.ntmps139
    go_upto_region 1 with fail
    change Code.wp _ _ _ _ (w.alloc (.cells #[.int .i64 (t : Int), .int .i64 (u : Int)] 152))
    rw [← hw1]
    clear hw1
    go_quiet (fail)
    obtain ⟨w2, hw2⟩ : ∃ w2, w2 = w1.drewN nq := ⟨_, rfl⟩
    have y0 : w2.cell? ⟨w.heap.size, 0, none⟩ = some (.int .i64 (t : Int)) := by rw [hw2]; exact x0
    have y1 : w2.cell? ⟨w.heap.size, 1, none⟩ = some (.int .i64 (u : Int)) := by rw [hw2]; exact x1
    have y2 : w2.cell? ⟨a2, t * 8 + u, none⟩ = some (.bool q) := by rw [hw2]; exact m2
    have hd : Below w1.heap.size w1 w2 := by rw [hw2]; exact ⟨rfl, rfl, rfl, Nat.le_refl _, fun _ _ => rfl⟩
    have HM2 := Lib.hid (HM1.out.on hd)
    have HK2 := Lib.hid (HK1.out.trans (KpM.more hd (by omega)))
    rw [← hw2]
    clear hw2 hd x0 x1 m2 m1' HM1 HK1
    go_wp2
    go_quiet (fail)
    go_wp2
    go_ret
    unfold MkOut
    rw [HR.out]
    have hd : ∀ k, Below w2.heap.size w2 (w2.drewN k) := fun _ => ⟨rfl, rfl, rfl, Nat.le_refl _, fun _ _ => rfl⟩
    exact ⟨rfl, HM2.out.on (hd _), HK2.out.trans (KpM.more (hd _) (by have := HK2.out.below.size; omega))⟩
/-- What memoized answers. -/
def MemV (S : Nat) (K : CkP) (ts : List Tl) (rs ins : List Bool) (w : World) (e : Ending) (w' : World) : Prop :=
  ∃ a1 a2 cb ab : Nat, e = .returned (askF a1 cb ab a2) ∧ EnvV w' S a1 a2 cb ab K ts rs ins ∧ MSt w' a1 a2 (List.replicate 200 0) ∧ Below w.heap.size w w'
set_option maxRecDepth 10000 in
set_option maxHeartbeats 1600000 in
theorem memov_any (S : Nat) (K : CkP) (ts : List Tl) (rs ins : List Bool) (w : World) (hx : CkIn w S K ts rs ins) (hS : S ≤ w.heap.size) :
    Calls Try.prog 112 #[(.func (.func 117) #[ckv K] #[])] w (MemV S K ts rs ins w) := by
  obtain ⟨w1, hw1⟩ : ∃ w1, w1 = w.alloc (.cells #[(.func (.func 117) #[ckv K] #[])] 156) := ⟨_, rfl⟩
  have hb1 : Below w.heap.size w w1 := by rw [hw1]; exact (Below.refl _ _).alloc (Nat.le_refl _) _
  have hC1 : Row w1 w.heap.size 156 #[(.func (.func 117) #[ckv K] #[])] := by rw [hw1]; exact row_new w _ _
  have hz1 : w1.heap.size = w.heap.size + 1 := by rw [hw1]; simp
  have HB1 := Lib.hid hb1
  have HC1 := Lib.hid hC1
  have HX := Lib.hid hx
  clear hb1 hC1 hx
  go_enter Try.func112, Try.ntmps112
  go_upto_region 1 with fail
  change Code.wp _ _ _ _ (w.alloc (.cells #[(.func (.func 117) #[ckv K] #[])] 156))
  rw [← hw1]
  clear hw1
  refine wp_region_lit ?_
  refine wpList_buildTo rfl 186 #[] rfl (some 6) rfl zw200 (by kernel_rfl) ?_
  refine wpList_buildTo rfl 186 #[] rfl (some 7) rfl zw200 (by kernel_rfl) ?_
  refine Go.Great.wpList_allocTo rfl (some 3) rfl (.pointer (some ⟨w1.heap.size, 0, none⟩)) (.cells zw200 186) (by kernel_rfl) ?_
  refine Go.Great.wpList_allocTo rfl (some 4) rfl (.pointer (some ⟨(w1.alloc (.cells zw200 186)).heap.size, 0, none⟩)) (.cells zw200 186) (by kernel_rfl) ?_
  have hz2 : (w1.alloc (.cells zw200 186)).heap.size = w1.heap.size + 1 := by simp
  obtain ⟨w2, hw2⟩ : ∃ w2, w2 = (w1.alloc (.cells zw200 186)).alloc (.cells zw200 186) := ⟨_, rfl⟩
  have hA2 : Row w2 w1.heap.size 186 zw200 := by rw [hw2]; exact row_o1' w1 _ _ _
  have hB2 : Row w2 (w1.heap.size + 1) 186 zw200 := by rw [hw2]; exact row_n1 w1 _ _ _
  have hb2 : Below w1.heap.size w1 w2 := by rw [hw2]; exact ((Below.refl _ _).alloc (Nat.le_refl _) _).alloc (by simp) _
  have hz3 : w2.heap.size = w1.heap.size + 2 := by rw [hw2]; simp
  rw [hz2, ← hw2]
  clear hw2 hz2
  refine wpList_store_rowTo rfl 186 (.tmp 3) (.tmp 6) rfl rfl w1.heap.size zw200 rfl rfl 186 zw200 hA2 (by kernel_rfl) rfl (by kernel_rfl) ?_
  have hB3 : Row (w2.setRow w1.heap.size zw200) (w1.heap.size + 1) 186 zw200 := (setRow_other _ _ _ _ (by omega)).trans hB2
  refine wpList_store_rowTo rfl 186 (.tmp 4) (.tmp 7) rfl rfl (w1.heap.size + 1) zw200 rfl rfl 186 zw200 hB3 (by kernel_rfl) rfl (by kernel_rfl) ?_
  obtain ⟨w4, hw4⟩ : ∃ w4, w4 = (w2.setRow w1.heap.size zw200).setRow (w1.heap.size + 1) zw200 := ⟨_, rfl⟩
  have hA4 : Row w4 w1.heap.size 186 zw200 := by rw [hw4]; exact (setRow_other _ _ _ _ (by omega)).trans (setRow_heap _ _ _ _ _ _ hA2)
  have hB4 : Row w4 (w1.heap.size + 1) 186 zw200 := by rw [hw4]; exact setRow_heap _ _ _ _ _ _ hB3
  have hz4 : w4.heap.size = w1.heap.size + 2 := by rw [hw4, setRow_size, setRow_size, hz3]
  have hb4 : Below w1.heap.size w1 w4 := by rw [hw4]; exact below_setRow (below_setRow hb2 (Nat.le_refl _) _) (by omega) _
  rw [← hw4]
  clear hw4 hA2 hB2 hB3 hb2 hz3
  have HA4 := Lib.hid (BArr.zw hA4)
  have HB4 := Lib.hid (BArr.zw hB4)
  have HC4 := Lib.hid (HC1.out.below hb4 (by omega))
  have HL4 := Lib.hid (HB1.out.trans (hb4.mono (by omega)))
  clear hA4 hB4 hb4 HB1 HC1
  obtain ⟨w5, hw5⟩ : ∃ w5, w5 = w4.alloc (.cells #[.nilFunc] 149) := ⟨_, rfl⟩
  have hb5 : Below w4.heap.size w4 w5 := by rw [hw5]; exact (Below.refl _ _).alloc (Nat.le_refl _) _
  have hQ5 : Row w5 w4.heap.size 149 #[.nilFunc] := by rw [hw5]; exact row_new w4 _ _
  have hz5 : w4.heap.size = w.heap.size + 1 + 2 := by omega
  rw [hz5] at hQ5
  rw [hz1] at HA4 HB4
  have q0 : w5.cell? ⟨w.heap.size + 1 + 2, 0, none⟩ = some .nilFunc := hQ5.cell 0
  have fq : w5.frozen? ⟨w.heap.size + 1 + 2, 0, none⟩ = false := hQ5.frozen 0
  obtain ⟨w6, hw6⟩ : ∃ w6, w6 = w5.setCell ⟨w.heap.size + 1 + 2, 0, none⟩ (askF (w.heap.size + 1) w.heap.size (w.heap.size + 1 + 2) (w.heap.size + 1 + 1)) := ⟨_, rfl⟩
  have hQ6 : Row w6 (w.heap.size + 1 + 2) 149 #[askF (w.heap.size + 1) w.heap.size (w.heap.size + 1 + 2) (w.heap.size + 1 + 1)] := by
    rw [hw6]
    have h := hQ5.set 0 (askF (w.heap.size + 1) w.heap.size (w.heap.size + 1 + 2) (w.heap.size + 1 + 1))
    simpa using h
  have hk6 : ∀ k, k < w.heap.size + 1 + 2 → w6.heap[k]? = w4.heap[k]? := fun k hk => by
    rw [hw6]
    exact (Below.heap_setCell _ _ _ _ (by show k ≠ w.heap.size + 1 + 2; omega)).trans (hb5.block k (by omega))
  have hL6 : Below w.heap.size w w6 := by
    rw [hw6]
    exact (HL4.out.trans (hb5.mono (by omega))).setCell (p := ⟨w.heap.size + 1 + 2, 0, none⟩) (by show w.heap.size ≤ w.heap.size + 1 + 2; omega) _
  have HE6 : Hid (EnvV w6 S (w.heap.size + 1) (w.heap.size + 1 + 1) w.heap.size (w.heap.size + 1 + 2) K ts rs ins) := Lib.hid ⟨(hk6 _ (by omega)).trans HC4.out, hQ6, HX.out.below (hL6.mono hS), by omega⟩
  have HM6 : Hid (MSt w6 (w.heap.size + 1) (w.heap.size + 1 + 1) (List.replicate 200 0)) := Lib.hid ⟨List.length_replicate, (HA4.out.keep (hk6 _ (by omega))).eq (fun j hj => by rw [List.getD_eq_getElem?_getD, List.getElem?_replicate, if_pos hj]; rfl), (HB4.out.keep (hk6 _ (by omega))).eq (fun j hj => by rw [List.getD_eq_getElem?_getD, List.getElem?_replicate, if_pos hj]; rfl)⟩
  have HL6 := Lib.hid hL6
  clear hQ5 hQ6 hk6 hL6 hb5 HA4 HB4 HC4 HX
  go_upto_region 3 with fail
  change Code.wp _ _ _ _ (w4.alloc (.cells #[.nilFunc] 149))
  rw [← hw5]
  clear hw5
  go_wp2
  go_ret
  change MemV S K ts rs ins w _ (w5.setCell ⟨w.heap.size + 1 + 2, 0, none⟩ (askF (w.heap.size + 1) w.heap.size (w.heap.size + 1 + 2) (w.heap.size + 1 + 1)))
  rw [← hw6]
  exact ⟨w.heap.size + 1, w.heap.size + 1 + 1, w.heap.size, w.heap.size + 1 + 2, rfl, HE6.out, HM6.out, HL6.out⟩
end Go.Proofs.Ytdadokcodklfgaa
/- The program's values of wires: reading a track, looking up, one wire. -/
namespace Go.Proofs.Ytdadokcodklfgaa
open Go.RowKit Go.Deep Cut Fz

/-- The value of a wire, by cases. -/
theorem valA_eq (ts : List Tl) (rs ins : List Bool) (t u : Nat) : valA ts rs ins (t, u) = if (ts.getD t tl0).2.2.2.getD u 0 = 1 then (if (ts.getD t tl0).2.2.1 = true then .ans (rs.getD t false) else tabA (ts.getD t tl0).1 t (ts.getD t tl0).2.1 0 0)
  else if (ts.getD t tl0).2.2.2.getD u 0 = 0 then .ans false
  else if (ts.getD t tl0).2.2.2.getD u 0 = 6 then .ans (ins.getD (t / 5) false)
  else .ask ((nbAt t ((ts.getD t tl0).2.2.2.getD u 0)).toNat, u) .ans := rfl
/-- Reading a track. -/
def rdA (t : Nat) (z : Int) : Ask := if z = 15 then .ans false else .ask (t, z.toNat) .ans
set_option maxHeartbeats 800000 in
theorem readV_any (S a1 a2 cb ab : Nat) (K : CkP) (ts : List Tl) (rs ins : List Bool) (f : Nat) (hA : AskV S a1 a2 cb ab K ts rs ins f) (M : List Nat) (t : Nat) (z : Int) (w : World) (ht : t < 25) (hz0 : 0 ≤ z) (hz1 : z ≠ 15 → z < 8) (hE : EnvV w S a1 a2 cb ab K ts rs ins) (hM : MSt w a1 a2 M) (hz : zeros M ≤ f) :
    Calls Try.prog 118 #[.int .i64 (t : Int), .int .i64 z, askF a1 cb ab a2] w (MkOut a1 a2 S (runQ (memo (valA ts rs ins) (f + 1)) M (rdA t z)) w) := by
  have eg : ∀ args w, (callFunc 139 args).run Try.prog w = .ok (.enter 139 args) w := enters_of Try.func139 (by kernel_rfl) rfl
  obtain ⟨u, rfl⟩ := Int.eq_ofNat_of_zero_le hz0
  by_cases h15 : (u : Int) = 15
  · have hR : rdA t (u : Int) = .ans false := if_pos h15
    rw [hR]
    have HM := Lib.hid hM
    clear hA hE hM hR hz hz1
    rw [h15]
    go_enter Try.func118, Try.ntmps118
    go_wp2
    go_ret
    exact ⟨rfl, HM.out, KpM.refl _ _ _ _⟩
  · have hR : rdA t (u : Int) = .ask (t, u) .ans := if_neg h15
    rw [hR]
    have HA := Lib.hid (hA M t u w ht (by have := hz1 h15; omega) hE hM hz)
    have hne : ((u : Int) != 15) = true := by rw [bne_iff_ne]; exact h15
    have hne2 : ((u : Int) == 15) = false := by rw [beq_eq_false_iff_ne]; exact h15
    clear hA hE hM hR hz hz1
    go_enter Try.func118, Try.ntmps118
    go_wp2_with fail
    refine HA.out.mono ?_
    rintro e w2 ⟨rfl, hm2, hk2⟩
    have HM2 := Lib.hid hm2
    have HK2 := Lib.hid hk2
    clear hm2 hk2 HA
    go_wp2
    go_ret
    exact ⟨rfl, HM2.out, HK2.out⟩
theorem or_low {x k q : Nat} (hk : k < 3) (hx : x < 2 ^ k) (hq : 2 ^ k = q) : x ||| q = x + q := by
  subst hq
  match k, hk with
  | 0, _ => obtain rfl : x = 0 := by omega
            rfl
  | 1, _ => rcases (show x = 0 ∨ x = 1 by omega) with rfl | rfl <;> rfl
  | 2, _ => rcases (show x = 0 ∨ x = 1 ∨ x = 2 ∨ x = 3 by omega) with rfl | rfl | rfl | rfl <;> rfl
theorem tab_step {z : Int} (T : Int) (t k x : Nat) (zs : List Int) (g : List Nat → Wr → Bool × List Nat) (M : List Nat) : runQ g M (tabA T t (z :: zs) k x) = runQ g (runQ g M (rdA t z)).2 (tabA T t zs (k + 1) (if (runQ g M (rdA t z)).1 = true then x + 2 ^ k else x)) := by
  unfold rdA
  simp only [tabA]
  by_cases h : z = 15
  · rw [if_pos h, if_pos h]; simp [runQ]
  · rw [if_neg h, if_neg h]; rfl
theorem drop_int (zs : List Int) {k : Nat} (hk : k < zs.length) : zs.drop k = zs.getD k 0 :: zs.drop (k + 1) := by
  rw [List.getD_eq_getElem?_getD, List.getElem?_eq_getElem hk, List.drop_eq_getElem_cons hk]
  rfl
theorem runQ_rd_kp (c : Wr → Ask) (f : Nat) (q : Ask) (M : List Nat) : Kp M (runQ (memo c f) M q).2 := runQ_kp (memo_kp c f) q M
set_option maxRecDepth 10000 in
set_option maxHeartbeats 1600000 in
theorem lookV_any (S a1 a2 cb ab : Nat) (K : CkP) (ts : List Tl) (rs ins : List Bool) (f : Nat) (hA : AskV S a1 a2 cb ab K ts rs ins f) (M : List Nat) (t T c1 c2 m2 : Nat) (A1 A2 : Option Addr) (r : Bool) (zs : List Int) (w : World) (ht : t < 25) (hT : T < 256) (hzl : zs.length = 3) (hzs : ∀ k, k < 3 → 0 ≤ zs.getD k 0 ∧ (zs.getD k 0 ≠ 15 → zs.getD k 0 < 8)) (hzA : IntsAt w S A1 zs)
    (hE : EnvV w S a1 a2 cb ab K ts rs ins) (hM : MSt w a1 a2 M) (hz : zeros M ≤ f) :
    Calls Try.prog 120 #[.int .i64 (t : Int), .agg #[.int .i64 (T : Int), .slice A1 3 c1, .bool r, .slice A2 m2 c2], askF a1 cb ab a2] w (MkOut a1 a2 S (runQ (memo (valA ts rs ins) (f + 1)) M (tabA (T : Int) t zs 0 0)) w) := by
  obtain ⟨w1, hw1⟩ : ∃ w1, w1 = w.alloc (.cells #[.int .i64 (T : Int), .slice A1 3 c1, .bool r, .slice A2 m2 c2] 33) := ⟨_, rfl⟩
  have hb1 : Below w.heap.size w w1 := by rw [hw1]; exact (Below.refl _ _).alloc (Nat.le_refl _) _
  have hX1 : Row w1 w.heap.size 33 #[.int .i64 (T : Int), .slice A1 3 c1, .bool r, .slice A2 m2 c2] := by rw [hw1]; exact row_new w _ _
  obtain ⟨o2, o3, o4, o5⟩ := hE.ord
  have hab := hE.rab.lt
  have hSw : S ≤ w.heap.size := by omega
  have hK1 : KpM a1 a2 S w w1 := KpM.more hb1 hSw
  have HA := Lib.hid hA
  have HE1 := Lib.hid (hE.kp hK1)
  have HM1 := Lib.hid (hM.on hb1)
  have HK1 := Lib.hid hK1
  have HX1 := Lib.hid hX1
  have HZ := Lib.hid hzA
  have HZS := Lib.hid hzs
  have HZL := Lib.hid hzl
  have x0 := hX1.cell 0
  have x1 := hX1.cell 1
  simp at x0 x1
  have hsz1 := hX1.lt
  clear hA hE hM hK1 hX1 hzA hzs hb1
  go_enter Try.func120, Try.ntmps120
  go_upto_region 2 with fail
  change Code.wp _ _ _ _ (w.alloc (.cells #[.int .i64 (T : Int), .slice A1 3 c1, .bool r, .slice A2 m2 c2] 33))
  rw [← hw1]
  clear hw1
  go_wp2_with fail
  clear x0 x1
  go_loopw [7, 13] (fun xv iv wr => ∃ (k x : Nat) (Mk : List Nat), k ≤ 3 ∧ iv = .int .i64 k ∧ xv = .int .i64 x ∧ x < 8 ∧ Hid (x < 2 ^ k) ∧ Hid (runQ (memo (valA ts rs ins) (f + 1)) M (tabA (T : Int) t zs 0 0) = runQ (memo (valA ts rs ins) (f + 1)) Mk (tabA (T : Int) t (zs.drop k) k x)) ∧ Hid (MSt wr a1 a2 Mk) ∧ Hid (Kp M Mk) ∧ Hid (KpM a1 a2 S w1 wr)) (fun _ iv _ => 3 - (intOf iv).toNat)
  case atStart => exact ⟨0, 0, M, by omega, rfl, rfl, by omega, Lib.hid (by decide), Lib.hid rfl, HM1, Lib.hid (Kp.refl M), Lib.hid (KpM.refl _ _ _ _)⟩
  case round =>
    clear HM1
    obtain ⟨k, x, Mk, hk, rfl, rfl, hx8, HXK, HQ, HMk, HKp, HKw⟩ := hrel
    have hX := HX1.out
    have hXr : Row wr w.heap.size 33 #[.int .i64 (T : Int), .slice A1 3 c1, .bool r, .slice A2 m2 c2] := (HKw.out.keep _ hsz1 (by omega) (by omega)).trans hX
    by_cases hlt : k < 3
    · obtain ⟨b, off, rfl, hbl, hc⟩ := (HZ.out.below HK1.out.below) k (by rw [HZL.out]; exact hlt)
      have hcr := (HKw.out.below.cell (p := ⟨b, off + k, none⟩) hbl).trans hc
      have HZK := Lib.hid (HZS.out k hlt)
      have HTS := Lib.hid (tab_step (z := zs.getD k 0) (T : Int) t k x (zs.drop (k + 1)) (memo (valA ts rs ins) (f + 1)) Mk)
      have HDR := Lib.hid (drop_int zs (k := k) (by rw [hzl]; exact hlt))
      have HKQ := Lib.hid (runQ_rd_kp (valA ts rs ins) (f + 1) (rdA t (zs.getD k 0)) Mk)
      have HRD := Lib.hid (readV_any S a1 a2 cb ab K ts rs ins f HA.out Mk t (zs.getD k 0) wr ht HZK.out.1 HZK.out.2 (HE1.out.kp HKw.out) HMk.out (Nat.le_trans (zeros_kp HKp.out) hz))
      generalize zs.getD k 0 = z at *
      generalize runQ (memo (valA ts rs ins) (f + 1)) Mk (rdA t z) = q at *
      obtain ⟨p, hp⟩ : ∃ p : Nat, 2 ^ k = p := ⟨_, rfl⟩
      have hpi : (2 : Int) ^ k = (p : Int) := by rw [← hp]; simp
      have hp4 : p ≤ 4 := by rw [← hp]; exact Nat.le_trans (Nat.pow_le_pow_right (by omega) (show k ≤ 2 by omega)) (by omega)
      have hxp : x < p := by rw [← hp]; exact HXK.out
      have hor := i64_or_n x p (by omega) (by omega)
      rw [or_low hlt HXK.out hp] at hor
      have HP2 : Hid (2 ^ (k + 1) = 2 * p) := Lib.hid (by rw [Nat.pow_succ, hp]; omega)
      have HPK : Hid (2 ^ k = p) := Lib.hid hp
      clear hc hp
      go_wp2_with fail
      refine HRD.out.mono ?_
      rintro e w2 ⟨rfl, hm2, hk2⟩
      have HM2 := Lib.hid hm2
      have HK2 := Lib.hid (HKw.out.trans hk2)
      clear hm2 hk2 HRD hcr HMk HKw hXr hX
      have HKp2 := Lib.hid (HKp.out.trans HKQ.out)
      obtain ⟨b0, M2⟩ := q
      cases b0
      · have HQ2 := Lib.hid (HQ.out.trans ((congrArg _ (congrArg (fun l => tabA (T : Int) t l k x) HDR.out)).trans HTS.out))
        go_wp2
        go_roundw
        case rel => exact ⟨k + 1, x, M2, by omega, by go_num, rfl, hx8, Lib.hid (by rw [HP2.out]; omega), HQ2, HM2, HKp2, HK2⟩
        case measure => simp [intOf]; omega
      · have HQ2 := Lib.hid (HQ.out.trans ((congrArg _ (congrArg (fun l => tabA (T : Int) t l k x) HDR.out)).trans HTS.out))
        simp only [if_true] at HQ2
        rw [HPK.out] at HQ2
        go_wp2
        go_roundw
        case rel => exact ⟨k + 1, x + p, M2, by omega, by go_num, by go_num, by omega, Lib.hid (by rw [HP2.out]; omega), HQ2, HM2, HKp2, HK2⟩
        case measure => simp [intOf]; omega
    · obtain rfl : k = 3 := by omega
      have x0 := hXr.cell 0
      simp at x0
      have HE : Hid (runQ (memo (valA ts rs ins) (f + 1)) M (tabA (T : Int) t zs 0 0) = (T.testBit x, Mk)) := Lib.hid (by
        rw [HQ.out, List.drop_eq_nil_of_le (by rw [hzl]; exact Nat.le_refl _)]
        simp only [tabA, runQ, tb_bit])
      have hib := int_bit T x (by omega)
      obtain ⟨tb, htb⟩ : ∃ tb, T.testBit x = tb := ⟨_, rfl⟩
      rw [htb] at hib HE
      clear htb HQ hX hXr
      go_wp2
      go_ret
      rw [HE.out]
      exact ⟨rfl, HMk.out, HK1.out.trans HKw.out⟩
end Go.Proofs.Ytdadokcodklfgaa
/- The program's value of one wire, while others are asked. -/
namespace Go.Proofs.Ytdadokcodklfgaa
open Go.RowKit Go.Deep Cut Fz

set_option maxRecDepth 10000 in
set_option maxHeartbeats 3200000 in
theorem compv_step (S a1 a2 cb ab : Nat) (K : CkP) (ts : List Tl) (rs ins : List Bool) (f : Nat) (hA : AskV S a1 a2 cb ab K ts rs ins f) : CompV S a1 a2 cb ab K ts rs ins f := by
  intro M t u w ht hu hE hM hz
  have eg : ∀ args w, (callFunc 139 args).run Try.prog w = .ok (.enter 139 args) w := enters_of Try.func139 (by kernel_rfl) rfl
  obtain ⟨o2, o3, o4, o5⟩ := hE.ord
  have hab := hE.rab.lt
  have hSw : S ≤ w.heap.size := by omega
  have hok := hE.ck.ok t ht
  obtain ⟨b, off, hTA, hbl, A1, c1, A2, c2, ⟨p0, p1, p2, p3⟩, ⟨hA1, hA2⟩, hc1, hc2⟩ := hE.ck.tl t (by rw [hE.ck.n1]; exact ht)
  obtain ⟨rb, ro, hRA, hrbl, hrc⟩ := hE.ck.rg t (by rw [hE.ck.n2]; exact ht)
  have hins := hE.ck.inn
  have hn3 := hE.ck.n3
  obtain ⟨TA, tc, PA, pc, RA, rc, IA, ni, ic⟩ := K
  simp only at hTA hRA hins hn3
  subst hTA hRA
  obtain ⟨⟨v0, v1⟩, ⟨l1, f1⟩, l2, f2⟩ := tlOk_fit hok
  have hsel := tlOk_sel hok
  have hsrc := tlOk_src hok hu
  rw [valA_eq]
  obtain ⟨b2, o6, rfl, hb2l, hcd⟩ := hA2 u (by omega)
  clear hok f1 f2
  generalize (ts.getD t tl0).2.2.2.getD u 0 = d at *
  rw [l1] at p1
  rw [l2] at p3
  generalize (ts.getD t tl0).2.2.2 = y at *
  generalize (ts.getD t tl0).2.2.1 = r at *
  generalize (ts.getD t tl0).2.1 = x at *
  generalize (ts.getD t tl0).1 = v at *
  obtain ⟨T, rfl⟩ := Int.eq_ofNat_of_zero_le v0
  obtain ⟨w1, hw1⟩ : ∃ w1, w1 = (w.alloc (.cells #[.slice (some ⟨b, off, none⟩) 25 tc, .slice PA 3 pc, .slice (some ⟨rb, ro, none⟩) 25 rc, .slice IA ni ic] 115)).alloc (.cells #[.int .i64 (t : Int), .int .i64 (u : Int)] 152) := ⟨_, rfl⟩
  have hb1 : Below w.heap.size w w1 := by rw [hw1]; exact ((Below.refl _ _).alloc (Nat.le_refl _) _).alloc (by simp) _
  have hK1 : Row w1 w.heap.size 115 #[.slice (some ⟨b, off, none⟩) 25 tc, .slice PA 3 pc, .slice (some ⟨rb, ro, none⟩) 25 rc, .slice IA ni ic] := by rw [hw1]; exact row_o1' w _ _ _
  have hW1 : Row w1 (w.heap.size + 1) 152 #[.int .i64 (t : Int), .int .i64 (u : Int)] := by rw [hw1]; exact row_n1 w _ _ _
  have hz1 : w1.heap.size = w.heap.size + 2 := by rw [hw1]; simp
  have q0 := (hb1.cell (p := ⟨b, off + t * 4, none⟩) (Nat.lt_of_lt_of_le hbl hSw)).trans p0
  have q1 := (hb1.cell (p := ⟨b, off + t * 4 + 1, none⟩) (Nat.lt_of_lt_of_le hbl hSw)).trans p1
  have q2 := (hb1.cell (p := ⟨b, off + t * 4 + 2, none⟩) (Nat.lt_of_lt_of_le hbl hSw)).trans p2
  have q3 := (hb1.cell (p := ⟨b, off + t * 4 + 3, none⟩) (Nat.lt_of_lt_of_le hbl hSw)).trans p3
  have k0 := hK1.cell 0
  have x0 := hW1.cell 0
  have x1 := hW1.cell 1
  simp at k0 x0 x1
  obtain ⟨w2, hw2⟩ : ∃ w2, w2 = w1.alloc (.cells #[.int .i64 (T : Int), .slice A1 3 c1, .bool r, .slice (some ⟨b2, o6, none⟩) 8 c2] 33) := ⟨_, rfl⟩
  have hb2 : Below w1.heap.size w1 w2 := by rw [hw2]; exact (Below.refl _ _).alloc (Nat.le_refl _) _
  have hT2 : Row w2 w1.heap.size 33 #[.int .i64 (T : Int), .slice A1 3 c1, .bool r, .slice (some ⟨b2, o6, none⟩) 8 c2] := by rw [hw2]; exact row_new w1 _ _
  have hW2 := hW1.below hb2 (by omega)
  have hK2 := hK1.below hb2 (by omega)
  have hB2 : Below w.heap.size w w2 := hb1.trans (hb2.mono (by omega))
  have HB2 := Lib.hid hB2
  have y0 := hW2.cell 0
  have y1 := hW2.cell 1
  have t0 := hT2.cell 0
  have t1 := hT2.cell 1
  have t2 := hT2.cell 2
  have t3 := hT2.cell 3
  have k1 := hK2.cell 2
  have k2 := hK2.cell 3
  simp at y0 y1 t0 t1 t2 t3 k1 k2
  rw [hz1] at t0 t1 t2 t3
  have d2 := (hB2.cell (p := ⟨b2, o6 + u, none⟩) (Nat.lt_of_lt_of_le hb2l hSw)).trans hcd
  have r2 := (hB2.cell (p := ⟨rb, ro + t, none⟩) (Nat.lt_of_lt_of_le hrbl hSw)).trans hrc
  have hKw : KpM a1 a2 S w w2 := KpM.more hB2 hSw
  have HK2 := Lib.hid hKw
  have HE2 := Lib.hid (hE.kp hKw)
  have HM2 := Lib.hid (hM.on hB2)
  have HA1 := Lib.hid hA1
  have HSEL := Lib.hid hsel
  have HSRC := Lib.hid hsrc
  have HL1 := Lib.hid l1
  have HA := Lib.hid hA
  have HIN := Lib.hid hins
  have HN3 := Lib.hid hn3
  have hz2 : w1.heap.size < w2.heap.size := hT2.lt
  have hMz := hz
  clear hb1 hK1 hW1 hb2 hT2 hW2 hK2 hcd hrc p0 p1 p2 p3 hA1 hA2 hsel hsrc l1 l2 hE hM hB2 hKw hA hins hn3 hz
  have iu0 : (0 : Int) ≤ (u : Int) := Int.natCast_nonneg _
  have iu1 : (u : Int) < 8 := by omega
  have it0 : (0 : Int) ≤ (t : Int) := Int.natCast_nonneg _
  have it1 : (t : Int) < 25 := by omega
  go_enter Try.func117, Try.ntmps117
  go_upto_region 1 with fail
  change Code.wp _ _ _ _ ((w.alloc (.cells #[.slice (some ⟨b, off, none⟩) 25 tc, .slice PA 3 pc, .slice (some ⟨rb, ro, none⟩) 25 rc, .slice IA ni ic] 115)).alloc (.cells #[.int .i64 (t : Int), .int .i64 (u : Int)] 152))
  rw [← hw1]
  clear hw1
  go_upto_region 2 with fail
  change Code.wp _ _ _ _ (w1.alloc (.cells #[.int .i64 (T : Int), .slice A1 3 c1, .bool r, .slice (some ⟨b2, o6, none⟩) 8 c2] 33))
  rw [← hw2]
  clear hw2 q0 q1 q2 q3 k0 x0 x1
  have hzw : w.heap.size + 2 < w2.heap.size := by omega
  by_cases h0 : d = 0
  · subst h0
    rw [if_neg (by decide), if_pos rfl]
    go_wp2
    go_ret
    exact ⟨rfl, HM2.out, HK2.out⟩
  by_cases h6 : d = 6
  · subst h6
    rw [if_neg (by decide), if_neg (by decide), if_pos rfl]
    by_cases hr : t / 5 < ni
    · obtain ⟨ib, io, rfl, hibl, hic⟩ := HIN.out (t / 5) (by rw [HN3.out]; exact hr)
      have i2 := (HB2.out.cell (p := ⟨ib, io + t / 5, none⟩) (Nat.lt_of_lt_of_le hibl hSw)).trans hic
      generalize ins.getD (t / 5) false = iv at *
      have hdv : (t : Int) / 5 = ((t / 5 : Nat) : Int) := by omega
      have hdt : (t : Int).tdiv 5 = ((t / 5 : Nat) : Int) := by rw [Int.tdiv_eq_ediv_of_nonneg it0]; exact hdv
      have hlt2 : ((t / 5 : Nat) : Int) < (ni : Int) := by omega
      generalize t / 5 = q at *
      clear hic
      go_wp2
      go_ret
      exact ⟨rfl, HM2.out, HK2.out⟩
    · have hge : ins.getD (t / 5) false = false := by
        rw [List.getD_eq_getElem?_getD, List.getElem?_eq_none (by rw [HN3.out]; omega)]; rfl
      generalize ins.getD (t / 5) false = iv at *
      subst hge
      have hdv : (t : Int) / 5 = ((t / 5 : Nat) : Int) := by omega
      have hdt : (t : Int).tdiv 5 = ((t / 5 : Nat) : Int) := by rw [Int.tdiv_eq_ediv_of_nonneg it0]; exact hdv
      have hnl : ¬ ((t / 5 : Nat) : Int) < (ni : Int) := by omega
      have hq : t / 5 < 5 := by omega
      generalize t / 5 = q at *
      go_wp2
      go_ret
      exact ⟨rfl, HM2.out, HK2.out⟩
  by_cases h1 : d = 1
  · subst h1
    rw [if_pos rfl]
    cases r
    · rw [if_neg (by decide)]
      have HLU := Lib.hid (lookV_any S a1 a2 cb ab _ ts rs ins f HA.out M t T c1 c2 8 A1 (some ⟨b2, o6, none⟩) false x w2 ht (by omega) HL1.out (fun k hk => ⟨(HSEL.out k (by rw [HL1.out]; exact hk)).1, (HSEL.out k (by rw [HL1.out]; exact hk)).2.2⟩) (HA1.out.below (HK2.out.below)) HE2.out HM2.out hMz)
      go_wp2_with fail
      refine HLU.out.mono ?_
      rintro e w3 ⟨rfl, hm3, hk3⟩
      have HM3 := Lib.hid hm3
      have HK3 := Lib.hid (HK2.out.trans hk3)
      clear hm3 hk3 HLU
      go_wp2
      go_ret
      exact ⟨rfl, HM3.out, HK3.out⟩
    · rw [if_pos rfl]
      go_wp2
      go_ret
      exact ⟨rfl, HM2.out, HK2.out⟩
  · obtain ⟨n0, n1⟩ := nb_ok ht HSRC.out h0 h1 h6
    have HNB := Lib.hid (nbAt_any t d w2.drew ht)
    have e0 : (d == 0) = false := by rw [beq_eq_false_iff_ne]; exact h0
    have e1 : (d == 1) = false := by rw [beq_eq_false_iff_ne]; exact h1
    have e6 : (d == 6) = false := by rw [beq_eq_false_iff_ne]; exact h6
    rw [if_neg h1, if_neg h0, if_neg h6]
    obtain ⟨nb, hnb⟩ : ∃ nb : Nat, nbAt t d = nb := ⟨(nbAt t d).toNat, by omega⟩
    have hnb25 : nb < 25 := by omega
    rw [hnb] at HNB
    have HNE : Hid ((nbAt t d).toNat = nb) := Lib.hid (by rw [hnb, Int.toNat_natCast])
    have HAK : Hid (∀ w' : World, Below w2.heap.size w2.drew w' → Calls Try.prog 139 #[.agg #[.int .i64 (nb : Int), .int .i64 (u : Int)], .pointer (some ⟨a1, 0, none⟩), .pointer (some ⟨cb, 0, none⟩), .pointer (some ⟨ab, 0, none⟩), .pointer (some ⟨a2, 0, none⟩)] w' (MkOut a1 a2 S (memo (valA ts rs ins) (f + 1) M (nb, u)) w')) := Lib.hid (fun w' hb => by
      have hk : KpM a1 a2 S w2 w' := KpM.more ((Below.refl _ _).drew.trans hb) (by omega)
      exact HA.out M nb u w' hnb25 hu (HE2.out.kp hk) (HM2.out.on ((Below.refl _ _).drew.trans hb)) hMz)
    have HFR : Hid (∀ w' : World, Below w2.heap.size w2.drew w' → w'.cell? ⟨w.heap.size + 1, 0, none⟩ = some (.int .i64 (t : Int)) ∧ w'.cell? ⟨w.heap.size + 1, 1, none⟩ = some (.int .i64 (u : Int))) := Lib.hid (fun w' hb => ⟨(hb.cell (p := ⟨w.heap.size + 1, 0, none⟩) (by show w.heap.size + 1 < w2.heap.size; omega)).trans y0, (hb.cell (p := ⟨w.heap.size + 1, 1, none⟩) (by show w.heap.size + 1 < w2.heap.size; omega)).trans y1⟩)
    clear hnb n0 n1 HSRC HE2 HM2 HA
    have HRQ : Hid (runQ (memo (valA ts rs ins) (f + 1)) M (Ask.ask (nb, u) Ask.ans) = memo (valA ts rs ins) (f + 1) M (nb, u)) := Lib.hid rfl
    generalize memo (valA ts rs ins) (f + 1) M (nb, u) = q at *
    go_upto_region 4 with fail
    go_region_held3 (fun w' => w'.cell? ⟨w.heap.size + 1, 0, none⟩ = some (.int .i64 (t : Int)) ∧ w'.cell? ⟨w.heap.size + 1, 1, none⟩ = some (.int .i64 (u : Int)))
      (first | (with_reducible assumption) | (exact ⟨y0, y1⟩) | go_keep)
      (first | (go_at_call 142; go_fit HNB.out; rintro e w3 ⟨rfl, hb3⟩; have hS3 := HFR.out w3 hb3; have hAK := HAK.out w3 hb3) | (go_at_call 139; go_fit hAK; rintro e w4 ⟨rfl, hm4, hk4⟩; have hS4 : w4.cell? ⟨w.heap.size + 1, 0, none⟩ = some (.int .i64 (t : Int)) ∧ w4.cell? ⟨w.heap.size + 1, 1, none⟩ = some (.int .i64 (u : Int)) := ⟨(World.cell?_of_block (a := ⟨w.heap.size + 1, 0, none⟩) (hk4.keep (w.heap.size + 1) (Nat.lt_of_lt_of_le (show w.heap.size + 1 < w2.heap.size by omega) hb3.size) (by omega) (by omega))).trans hS3.1, (World.cell?_of_block (a := ⟨w.heap.size + 1, 1, none⟩) (hk4.keep (w.heap.size + 1) (Nat.lt_of_lt_of_le (show w.heap.size + 1 < w2.heap.size by omega) hb3.size) (by omega) (by omega))).trans hS3.2⟩))
    all_goals
      have HM4 := Lib.hid hm4
      have HK4 := Lib.hid (HK2.out.trans (⟨((Below.refl _ _).drew.trans hb3).mono (show S ≤ w2.heap.size by omega) |>.trans hk4.below, fun j hj h1 h2 => (hk4.keep j (Nat.lt_of_lt_of_le hj hb3.size) h1 h2).trans (hb3.block j hj)⟩ : KpM a1 a2 S w2 w4))
      clear hm4 hk4 hS4 hb3 hS3 hAK HAK HFR HNB
      rename_i _hheld
      clear _hheld
      go_wp2
      go_ret
      rw [HNE.out, HRQ.out]
      exact ⟨rfl, HM4.out, HK4.out⟩
end Go.Proofs.Ytdadokcodklfgaa
/- The model's values of wires. -/
namespace Go.Proofs.Ytdadokcodklfgaa
open Go.RowKit Go.Deep Cut Fz

abbrev kcv (K : CkP) : Value := .agg #[.slice K.TA 25 K.tc, .slice K.PA 3 K.pc]
abbrev scv (K : CkP) : Value := .agg #[.slice K.RA 25 K.rc]
/-- What the model answers for a wire. -/
def WireC (K : CkP) (ts : List Tl) (rs ins : List Bool) (V : Wr → Bool) (t u : Nat) : Prop := ∀ w : World, CkIn w w.heap.size K ts rs ins →
  Calls Try.prog 108 #[kcv K, scv K, .slice K.IA K.ni K.ic, .int .i64 (t : Int), .int .i64 (u : Int)] w fun e w' => e = .returned (.bool (V (t, u))) ∧ Below w.heap.size w w'
theorem ptab_step {z : Int} (T : Int) (t k x : Nat) (zs : List Int) (V : Wr → Bool) : runP V (tabA T t (z :: zs) k x) = runP V (tabA T t zs (k + 1) (if (decide (z ≠ 15) && V (t, z.toNat)) = true then x + 2 ^ k else x)) := by
  simp only [tabA]
  by_cases h : z = 15
  · rw [if_pos h, show decide (z ≠ 15) = false from decide_eq_false (fun c => c h)]; simp
  · rw [if_neg h, show decide (z ≠ 15) = true from decide_eq_true h]; rfl
set_option maxRecDepth 10000 in
set_option maxHeartbeats 1600000 in
theorem stab_any (K : CkP) (ts : List Tl) (rs ins : List Bool) (V : Wr → Bool) (t : Nat) (w : World) (ht : t < 25) (hC : CkIn w w.heap.size K ts rs ins) (hW : ∀ k, k < 3 → (ts.getD t tl0).2.1.getD k 0 ≠ 15 → WireC K ts rs ins V t ((ts.getD t tl0).2.1.getD k 0).toNat) :
    Calls Try.prog 109 #[kcv K, scv K, .slice K.IA K.ni K.ic, .int .i64 (t : Int)] w fun e w' => e = .returned (.bool (runP V (lutA ts t))) ∧ Below w.heap.size w w' := by
  have hok := hC.ok t ht
  obtain ⟨b, off, hTA, hbl, A1, c1, A2, c2, ⟨p0, p1, p2, p3⟩, ⟨hA1, hA2⟩, hc1, hc2⟩ := hC.tl t (by rw [hC.n1]; exact ht)
  obtain ⟨⟨v0, v1⟩, ⟨l1, f1⟩, l2, f2⟩ := tlOk_fit hok
  have hsel := tlOk_sel hok
  unfold lutA
  obtain ⟨w1, hw1⟩ : ∃ w1, w1 = (w.alloc (.cells #[.slice K.TA 25 K.tc, .slice K.PA 3 K.pc] 26)).alloc (.cells #[.slice K.RA 25 K.rc] 50) := ⟨_, rfl⟩
  have hb1 : Below w.heap.size w w1 := by rw [hw1]; exact ((Below.refl _ _).alloc (Nat.le_refl _) _).alloc (by simp) _
  have hK1 : Row w1 w.heap.size 26 #[.slice K.TA 25 K.tc, .slice K.PA 3 K.pc] := by rw [hw1]; exact row_o1' w _ _ _
  have hS1 : Row w1 (w.heap.size + 1) 50 #[.slice K.RA 25 K.rc] := by rw [hw1]; exact row_n1 w _ _ _
  have hz1 : w1.heap.size = w.heap.size + 2 := by rw [hw1]; simp
  have HC1 := Lib.hid (hC.below hb1)
  have HW := Lib.hid hW
  have HB1 := Lib.hid hb1
  have HK1 := Lib.hid hK1
  have HS1 := Lib.hid hS1
  have HSEL := Lib.hid hsel
  have HL1 := Lib.hid l1
  have hl1 := l1
  rw [l1] at p1
  clear hC hW hb1 hK1 hS1 hsel hok f1 f2 l2 hA2 p3 p2
  obtain ⟨TA, tc, PA, pc, RA, rc, IA, ni, ic⟩ := K
  simp only at hTA
  subst hTA
  simp only at *
  generalize (ts.getD t tl0).2.1 = zs at *
  generalize (ts.getD t tl0).1 = v at *
  obtain ⟨T, rfl⟩ := Int.eq_ofNat_of_zero_le v0
  have HA1 := Lib.hid hA1
  clear hA1
  go_enter Try.func109, Try.ntmps109
  go_upto_region 1 with fail
  change Code.wp _ _ _ _ ((w.alloc (.cells #[.slice (some ⟨b, off, none⟩) 25 tc, .slice PA 3 pc] 26)).alloc (.cells #[.slice RA 25 rc] 50))
  rw [← hw1]
  clear hw1
  go_wp2
  go_loopw [9, 10] (fun xv iv wr => ∃ (k x : Nat), k ≤ 3 ∧ iv = .int .i64 k ∧ xv = .int .i64 x ∧ x < 8 ∧ Hid (x < 2 ^ k) ∧ Hid (runP V (tabA (T : Int) t zs 0 0) = runP V (tabA (T : Int) t (zs.drop k) k x)) ∧ Hid (Below w1.heap.size w1 wr)) (fun _ iv _ => 3 - (intOf iv).toNat)
  case atStart => exact ⟨0, 0, by omega, rfl, rfl, by omega, Lib.hid (by decide), Lib.hid rfl, Lib.hid (Below.refl _ _)⟩
  case round =>
    obtain ⟨k, x, hk, rfl, rfl, hx8, HXK, HQ, HBr⟩ := hrel
    have hBw := HB1.out.trans (HBr.out.mono (show w.heap.size ≤ w1.heap.size by omega))
    have hKr := HK1.out.below HBr.out (by omega)
    have hSr := HS1.out.below HBr.out (by omega)
    have k0 := hKr.cell 0
    have k1 := hKr.cell 1
    have s0 := hSr.cell 0
    simp at k0 k1 s0
    have q0 := (hBw.cell (p := ⟨b, off + t * 4, none⟩) hbl).trans p0
    have q1 := (hBw.cell (p := ⟨b, off + t * 4 + 1, none⟩) hbl).trans p1
    have it0 : (0 : Int) ≤ (t : Int) := Int.natCast_nonneg _
    have it1 : (t : Int) < 25 := by omega
    by_cases hlt : k < 3
    · obtain ⟨b1, o1, rfl, hb1l, hc⟩ := HA1.out k (by rw [HL1.out]; exact hlt)
      have hcr := (hBw.cell (p := ⟨b1, o1 + k, none⟩) hb1l).trans hc
      have HZK := Lib.hid (HSEL.out k (by rw [HL1.out]; exact hlt))
      have HWK := Lib.hid (HW.out k hlt)
      have HTS := Lib.hid (ptab_step (z := zs.getD k 0) (T : Int) t k x (zs.drop (k + 1)) V)
      have HDR := Lib.hid (drop_int zs (k := k) (by rw [hl1]; exact hlt))
      generalize zs.getD k 0 = z at *
      obtain ⟨u, rfl⟩ := Int.eq_ofNat_of_zero_le HZK.out.1
      rw [Int.toNat_natCast] at HTS HWK
      obtain ⟨p, hp⟩ : ∃ p : Nat, 2 ^ k = p := ⟨_, rfl⟩
      have hpi : (2 : Int) ^ k = (p : Int) := by rw [← hp]; simp
      have hp4 : p ≤ 4 := by rw [← hp]; exact Nat.le_trans (Nat.pow_le_pow_right (by omega) (show k ≤ 2 by omega)) (by omega)
      have hxp : x < p := by rw [← hp]; exact HXK.out
      have HP2 : Hid (2 ^ (k + 1) = 2 * p) := Lib.hid (by rw [Nat.pow_succ, hp]; omega)
      have HPK : Hid (2 ^ k = p) := Lib.hid hp
      clear hc hp hKr hSr
      have HQ2 := Lib.hid (HQ.out.trans ((congrArg (fun l => runP V (tabA (T : Int) t l k x)) HDR.out).trans HTS.out))
      clear HQ HDR HTS
      by_cases h15 : (u : Int) = 15
      · have HQ3 : Hid (runP V (tabA (T : Int) t zs 0 0) = runP V (tabA (T : Int) t (zs.drop (k + 1)) (k + 1) x)) := Lib.hid (by rw [HQ2.out, show decide ((u : Int) ≠ 15) = false from decide_eq_false (fun c => c h15)]; rfl)
        clear HQ2 HWK
        have hu15 : u = 15 := by omega
        subst hu15
        go_wp2
        go_roundw
        case rel => exact ⟨k + 1, x, by omega, by go_num, rfl, hx8, Lib.hid (by rw [HP2.out]; omega), HQ3, HBr⟩
        case measure => simp [intOf]; omega
      · have hne : ((u : Int) != 15) = true := by rw [bne_iff_ne]; exact h15
        have hne2 : ((u : Int) == 15) = false := by rw [beq_eq_false_iff_ne]; exact h15
        have HWW := Lib.hid (HWK.out h15 wr ((HC1.out.below (HBr.out.mono (by omega))).mono (Nat.le_trans (by omega) HBr.out.size)))
        rw [show decide ((u : Int) ≠ 15) = true from decide_eq_true h15, Bool.true_and] at HQ2
        clear HWK
        generalize V (t, u) = vb at *
        go_wp2_with fail
        refine HWW.out.mono ?_
        rintro e w2 ⟨rfl, hb2⟩
        have HB2 := Lib.hid (HBr.out.trans (hb2.mono HBr.out.size))
        clear hb2 HWW k0 k1 s0 q0 q1 hcr HBr hBw
        cases vb
        · rw [if_neg (by decide)] at HQ2
          go_wp2
          go_roundw
          case rel => exact ⟨k + 1, x, by omega, by go_num, rfl, hx8, Lib.hid (by rw [HP2.out]; omega), HQ2, HB2⟩
          case measure => simp [intOf]; omega
        · rw [if_pos rfl, HPK.out] at HQ2
          go_wp2
          go_roundw
          case rel => exact ⟨k + 1, x + p, by omega, by go_num, by go_num, by omega, Lib.hid (by rw [HP2.out]; omega), HQ2, HB2⟩
          case measure => simp [intOf]; omega
    · obtain rfl : k = 3 := by omega
      have HE : Hid (runP V (tabA (T : Int) t zs 0 0) = T.testBit x) := Lib.hid (by
        rw [HQ.out, List.drop_eq_nil_of_le (by rw [hl1]; exact Nat.le_refl _)]
        simp only [tabA, runP, tb_bit])
      have htb := tb_bit T x
      have htm : (((T : Int) / 2 ^ x).tmod 2 == 1) = T.testBit x := by
        rw [Int.tmod_eq_emod_of_nonneg (by
          have h1 : ((T : Int) / 2 ^ x) = ((T / 2 ^ x : Nat) : Int) := by simp
          rw [h1]; exact Int.natCast_nonneg _)]
        exact htb
      clear htb HQ hKr hSr
      generalize T.testBit x = tb at *
      go_wp2
      go_ret
      rw [HE.out]
      exact ⟨rfl, hBw⟩
set_option maxRecDepth 10000 in
set_option maxHeartbeats 3200000 in
theorem swire_all (K : CkP) (ts : List Tl) (rs ins : List Bool) (V : Wr → Bool) (hV : ∀ x, WrOk x → V x = runP V (valA ts rs ins x)) {n : Nat} {x : Wr} (hx : Wf ts n x) : WrOk x → WireC K ts rs ins V x.1 x.2 := by
  induction hx with
  | mk n x _ ih =>
  intro hxo w hC
  obtain ⟨t, u⟩ := x
  have ht : t < 25 := hxo.1
  have hu : u < 8 := hxo.2
  rw [hV (t, u) hxo]
  obtain ⟨vb, hvb⟩ : ∃ vb, runP V (valA ts rs ins (t, u)) = vb := ⟨_, rfl⟩
  rw [hvb]
  simp only
  have hok := hC.ok t ht
  obtain ⟨b, off, hTA, hbl, A1, c1, A2, c2, ⟨p0, p1, p2, p3⟩, ⟨hA1, hA2⟩, hc1, hc2⟩ := hC.tl t (by rw [hC.n1]; exact ht)
  obtain ⟨rb, ro, hRA, hrbl, hrc⟩ := hC.rg t (by rw [hC.n2]; exact ht)
  obtain ⟨⟨v0, v1⟩, ⟨l1, f1⟩, l2, f2⟩ := tlOk_fit hok
  have hsel := tlOk_sel hok
  have hsrc := tlOk_src hok hu
  have hTAB : (ts.getD t tl0).2.2.2.getD u 0 = 1 → (ts.getD t tl0).2.2.1 = false → ∀ w, CkIn w w.heap.size K ts rs ins → Calls Try.prog 109 #[kcv K, scv K, .slice K.IA K.ni K.ic, .int .i64 (t : Int)] w fun e w' => e = .returned (.bool (runP V (lutA ts t))) ∧ Below w.heap.size w w' := fun e1 e2 w hC => by
    refine stab_any K ts rs ins V t w ht hC fun k hk h15 => ?_
    have hm : (t, ((ts.getD t tl0).2.1.getD k 0).toNat) ∈ srcs ts (t, u) := by
      unfold srcs
      simp only
      rw [if_pos e1, if_neg (by rw [e2]; simp)]
      exact List.mem_map.2 ⟨(ts.getD t tl0).2.1.getD k 0, List.mem_filter.2 ⟨memD0 (d := 0) (by rw [l1]; exact hk), decide_eq_true h15⟩, rfl⟩
    have h8 := (hsel k (by rw [l1]; exact hk))
    exact ih _ hm ⟨ht, by have := h8.2.2 h15; have := h8.1; show ((ts.getD t tl0).2.1.getD k 0).toNat < 8; omega⟩
  have hNBR : ∀ d, (ts.getD t tl0).2.2.2.getD u 0 = d → d ≠ 0 → d ≠ 1 → d ≠ 6 → WireC K ts rs ins V (nbAt t d).toNat u := fun d e h0 h1 h6 => by
    subst e
    obtain ⟨n0, n1⟩ := nb_ok ht hsrc h0 h1 h6
    refine ih ((nbAt t ((ts.getD t tl0).2.2.2.getD u 0)).toNat, u) ?_ ⟨by show (nbAt t _).toNat < 25; omega, hu⟩
    unfold srcs
    simp only
    rw [if_neg h1, if_neg (by omega)]
    exact List.mem_singleton.2 rfl
  rw [valA_eq] at hvb
  obtain ⟨b2, o6, hA2e, hb2l, hcd⟩ := hA2 u (by rw [l2]; exact hu)
  rw [l1] at p1
  rw [l2] at p3
  obtain ⟨w1, hw1⟩ : ∃ w1, w1 = (w.alloc (.cells #[.slice K.TA 25 K.tc, .slice K.PA 3 K.pc] 26)).alloc (.cells #[.slice K.RA 25 K.rc] 50) := ⟨_, rfl⟩
  have hb1 : Below w.heap.size w w1 := by rw [hw1]; exact ((Below.refl _ _).alloc (Nat.le_refl _) _).alloc (by simp) _
  have hK1 : Row w1 w.heap.size 26 #[.slice K.TA 25 K.tc, .slice K.PA 3 K.pc] := by rw [hw1]; exact row_o1' w _ _ _
  have hS1 : Row w1 (w.heap.size + 1) 50 #[.slice K.RA 25 K.rc] := by rw [hw1]; exact row_n1 w _ _ _
  have hz1 : w1.heap.size = w.heap.size + 2 := by rw [hw1]; simp
  have HC1 := Lib.hid ((hC.below hb1).mono hb1.size)
  have HIN := Lib.hid (hC.inn.below hb1)
  have HN3 := Lib.hid hC.n3
  have HB1 := Lib.hid hb1
  have HTAB := Lib.hid hTAB
  have HNBR := Lib.hid hNBR
  have HSRC := Lib.hid hsrc
  have k0 := hK1.cell 0
  have k1 := hK1.cell 1
  have s0 := hS1.cell 0
  simp at k0 k1 s0
  have q0 := (hb1.cell (p := ⟨b, off + t * 4, none⟩) hbl).trans p0
  have q1 := (hb1.cell (p := ⟨b, off + t * 4 + 1, none⟩) hbl).trans p1
  have q2 := (hb1.cell (p := ⟨b, off + t * 4 + 2, none⟩) hbl).trans p2
  have q3 := (hb1.cell (p := ⟨b, off + t * 4 + 3, none⟩) hbl).trans p3
  have d2 := (hb1.cell (p := ⟨b2, o6 + u, none⟩) hb2l).trans hcd
  have r2 := (hb1.cell (p := ⟨rb, ro + t, none⟩) hrbl).trans hrc
  clear hC hb1 hK1 hS1 hsel hsrc hok f1 f2 hA1 hA2 p0 p1 p2 p3 hcd hrc hTAB hNBR l1 l2 ih
  obtain ⟨TA, tc, PA, pc, RA, rc, IA, ni, ic⟩ := K
  simp only at hTA hRA HN3 HIN k0 k1 s0 hw1
  subst hTA hRA hA2e
  have HLU : Hid (lutA ts t = tabA (ts.getD t tl0).1 t (ts.getD t tl0).2.1 0 0) := Lib.hid rfl
  generalize (ts.getD t tl0).2.2.2.getD u 0 = d at *
  generalize (ts.getD t tl0).2.2.2 = y at *
  generalize (ts.getD t tl0).2.2.1 = r at *
  generalize (ts.getD t tl0).2.1 = zs at *
  generalize (ts.getD t tl0).1 = v at *
  have iu0 : (0 : Int) ≤ (u : Int) := Int.natCast_nonneg _
  have iu1 : (u : Int) < 8 := by omega
  have it0 : (0 : Int) ≤ (t : Int) := Int.natCast_nonneg _
  have it1 : (t : Int) < 25 := by omega
  go_enter Try.func108, Try.ntmps108
  go_upto_region 1 with fail
  change Code.wp _ _ _ _ ((w.alloc (.cells #[.slice (some ⟨b, off, none⟩) 25 tc, .slice PA 3 pc] 26)).alloc (.cells #[.slice (some ⟨rb, ro, none⟩) 25 rc] 50))
  rw [← hw1]
  clear hw1
  by_cases h0 : d = 0
  · subst h0
    rw [if_neg (by decide), if_pos rfl] at hvb
    simp only [runP] at hvb
    subst hvb
    go_wp2
    go_ret
    exact ⟨rfl, HB1.out⟩
  by_cases h6 : d = 6
  · subst h6
    rw [if_neg (by decide), if_neg (by decide), if_pos rfl] at hvb
    simp only [runP] at hvb
    have hdv : (t : Int) / 5 = ((t / 5 : Nat) : Int) := by omega
    have hdt : (t : Int).tdiv 5 = ((t / 5 : Nat) : Int) := by rw [Int.tdiv_eq_ediv_of_nonneg it0]; exact hdv
    by_cases hr : t / 5 < ni
    · obtain ⟨ib, io, rfl, hibl, i2⟩ := HIN.out (t / 5) (by rw [HN3.out]; exact hr)
      generalize ins.getD (t / 5) false = iv at *
      subst hvb
      have hlt2 : ((t / 5 : Nat) : Int) < (ni : Int) := by omega
      generalize t / 5 = q at *
      go_wp2
      go_ret
      exact ⟨rfl, HB1.out⟩
    · have hge : ins.getD (t / 5) false = false := by
        rw [List.getD_eq_getElem?_getD, List.getElem?_eq_none (by rw [HN3.out]; omega)]; rfl
      rw [hge] at hvb
      subst hvb
      clear hge
      have hnl : ¬ ((t / 5 : Nat) : Int) < (ni : Int) := by omega
      have hq : t / 5 < 5 := by omega
      generalize t / 5 = q at *
      go_wp2
      go_ret
      exact ⟨rfl, HB1.out⟩
  by_cases h1 : d = 1
  · subst h1
    rw [if_pos rfl] at hvb
    cases r
    · rw [if_neg (by decide), ← HLU.out] at hvb
      have HTT := Lib.hid (HTAB.out rfl rfl w1 HC1.out)
      rw [hvb] at HTT
      clear hvb
      go_wp2_with fail
      refine HTT.out.mono ?_
      rintro e w3 ⟨rfl, hb3⟩
      have HB3 := Lib.hid (HB1.out.trans (hb3.mono HB1.out.size))
      clear hb3 HTT
      go_wp2
      go_ret
      exact ⟨rfl, HB3.out⟩
    · rw [if_pos rfl] at hvb
      simp only [runP] at hvb
      subst hvb
      go_wp2
      go_ret
      exact ⟨rfl, HB1.out⟩
  · obtain ⟨n0, n1⟩ := nb_ok ht HSRC.out h0 h1 h6
    have HNB := Lib.hid (snb_any t d w1.drew ht)
    have e0 : (d == 0) = false := by rw [beq_eq_false_iff_ne]; exact h0
    have e1 : (d == 1) = false := by rw [beq_eq_false_iff_ne]; exact h1
    have e6 : (d == 6) = false := by rw [beq_eq_false_iff_ne]; exact h6
    rw [if_neg h1, if_neg h0, if_neg h6] at hvb
    simp only [runP] at hvb
    have HWC := Lib.hid (HNBR.out d rfl h0 h1 h6 w1.drew (HC1.out.below (Below.refl _ _).drew))
    obtain ⟨nb, hnb⟩ : ∃ nb : Nat, nbAt t d = nb := ⟨(nbAt t d).toNat, by omega⟩
    rw [hnb] at HNB HWC hvb
    rw [Int.toNat_natCast] at HWC hvb
    rw [hvb] at HWC
    clear hnb n0 n1 HSRC HTAB HNBR hvb
    go_upto_region 10 with fail
    go_region_held3 (fun w' => w'.cell? ⟨w.heap.size, 0, none⟩ = some (.slice (some ⟨b, off, none⟩) 25 tc) ∧ w'.cell? ⟨w.heap.size, 1, none⟩ = some (.slice PA 3 pc) ∧ w'.cell? ⟨w.heap.size + 1, 0, none⟩ = some (.slice (some ⟨rb, ro, none⟩) 25 rc))
      (first | (with_reducible assumption) | (exact ⟨k0, k1, s0⟩) | go_keep)
      (first
        | (go_at_call 97; go_fit HNB.out; rintro e w4 ⟨rfl, rfl⟩)
        | (go_at_call 108; go_fit HWC.out; rintro e w5 ⟨rfl, hb5⟩; have hS5 := And.intro ((hb5.cell (p := ⟨w.heap.size, 0, none⟩) (by show w.heap.size < w1.heap.size; omega)).trans k0) (And.intro ((hb5.cell (p := ⟨w.heap.size, 1, none⟩) (by show w.heap.size < w1.heap.size; omega)).trans k1) ((hb5.cell (p := ⟨w.heap.size + 1, 0, none⟩) (by show w.heap.size + 1 < w1.heap.size; omega)).trans s0))))
    rename_i _hheld
    clear _hheld
    have HB5 := Lib.hid (HB1.out.trans (((Below.refl w1.heap.size w1).drew.trans hb5).mono HB1.out.size))
    clear hb5 hS5 HWC HNB
    go_wp2
    go_ret
    exact ⟨rfl, HB5.out⟩
end Go.Proofs.Ytdadokcodklfgaa
/- The model's step of the fabric. -/
namespace Go.Proofs.Ytdadokcodklfgaa
open Go.RowKit Go.Deep Cut Fz

/-- A list of truth values in memory of the call's own. -/
def BlAt (w : World) (B : Nat) (xs : List Bool) (A : Option Addr) (cap : Nat) : Prop := w.ownsRow B 4 1 (.slice A xs.length cap) xs.length (bvs xs)
theorem BlAt.ltA {w : World} {B cap : Nat} {xs : List Bool} {A : Option Addr} (h : BlAt w B xs A cap) : ∀ g, A.map (·.block) = some g → B ≤ g ∧ g < w.heap.size := own_ltA h
theorem BlAt.keep {w w' : World} {B cap : Nat} {xs : List Bool} {A : Option Addr} (h : BlAt w B xs A cap) (hk : ∀ b, B ≤ b → b < w.heap.size → A.map (·.block) = some b → w'.heap[b]? = w.heap[b]?) : BlAt w' B xs A cap :=
  own_keepA h (fun g e => by obtain ⟨h1, h2⟩ := h.ltA g (by rw [e]; rfl); exact hk g h1 h2 (by rw [e]; rfl))
theorem BlAt.on {w w' : World} {B cap : Nat} {xs : List Bool} {A : Option Addr} (h : BlAt w B xs A cap) (hb : Below w.heap.size w w') : BlAt w' B xs A cap := h.keep (fun b _ h2 _ => hb.block b h2)
theorem BlAt.nil (w : World) (B : Nat) : BlAt w B [] none 0 := World.ownsRow_nil _ _ _ _
theorem BlAt.set {w : World} {B cap : Nat} {xs : List Bool} {A : Option Addr} (h : BlAt w B xs A cap) (p : Addr) (hp : p.block < B) (u : Value) : BlAt (w.setCell p u) B xs A cap := h.keep (fun b h1 _ _ => Below.heap_setCell _ _ _ _ (by omega))
theorem BlAt.low {w : World} {B B' cap : Nat} {xs : List Bool} {A : Option Addr} (h : BlAt w B xs A cap) (hb : B' ≤ B) : BlAt w B' xs A cap := own_mono h hb
theorem BlAt.bools {w : World} {B cap : Nat} {xs : List Bool} {A : Option Addr} (h : BlAt w B xs A cap) : BoolsAt w w.heap.size A xs := fun k hk => by
  rcases h.2 with ⟨hv, h0⟩ | ⟨g', cap', cur, hv, h1, h2, h3⟩
  · omega
  · injection hv with e1
    subst e1
    exact own_bools (n := xs.length) h rfl k hk
section
variable {ops : Array Oper} {rest : List Oper} {o : Oper} {a : Act} {Q : Exit → Act → World → Prop}
/-- One more truth value. -/
theorem wpList_pushBl (hgd : o.guard = none) (s x' : Operand) (ho : o.op = .call { callee := .builtin .append, args := #[s, x'], argTypes := #[45, 45] })
    (wr : World) (B cap n : Nat) (A : Option Addr) (xs : List Bool) (hev : a.eval s = .slice A n cap) (hn : xs.length = n) (h : BlAt wr B xs A cap) (hnb : n ≤ 1000) (hB : B ≤ wr.heap.size)
    (v : Bool) (hx' : a.eval x' = .slice (some ⟨wr.heap.size, 0, none⟩) 1 1)
    (cont : ∀ g' cap' w5, BlAt w5 B (xs ++ [v]) (some ⟨g', 0, none⟩) cap' → Below B wr w5 → (∀ b, b < wr.heap.size → NotB A b → w5.heap[b]? = wr.heap[b]?) → (A = some ⟨g', 0, none⟩ ∨ wr.heap.size < g') → wpList Try.prog ops Q rest (a.put o.dst (.slice (some ⟨g', 0, none⟩) (n + 1) cap')) w5) :
    wpList Try.prog ops Q (o :: rest) a (wr.alloc (.cells #[.bool v] 4)) := by
  subst hn
  obtain ⟨i0, hi0, hz0, hz1, hz2⟩ := info_split Try.infoB
  refine wpList_append_kept _ hgd s x' 45 ho B 4 i0 _ 1 1 Try.underlying45 hi0 hz0 hz1 hz2 rfl (by omega) (.slice A xs.length cap) xs.length (bvs xs) hev (World.ownsRow.alloc h _) ⟨wr.heap.size, 0, none⟩ 1 1 [.bool v] hx' rfl (World.news_of_block (cs := #[.bool v]) (t := 4) (fr := (0, 0)) (heap_alloc_new wr _)) (by simp [Value.oneCell']) (by omega) (by simp [maxLen]; omega) (by omega) (by simp; omega) _ rfl ?_
  intro g' cap' w5 hown5 hgr5 hat5 hlt5 hkept5
  refine cont g' cap' w5 (by unfold BlAt; rw [List.length_append, List.length_singleton, bvs_append]; exact hown5) (below_alloc_grownA hgr5 hB (fun g e => (own_ltA h g e).1)) (offA_grown hgr5) ?_
  rcases hat5 with h1 | h1
  · left
    exact own_addr h h1
  · right; simp at h1; omega
theorem step_pushBl {K : Act → World → Prop} {E : Prop} (hgd : o.guard = none) (s x' : Operand) (ho : o.op = .call { callee := .builtin .append, args := #[s, x'], argTypes := #[45, 45] })
    (wr : World) (B cap n : Nat) (A : Option Addr) (xs : List Bool) (hev : a.eval s = .slice A n cap) (hn : xs.length = n) (h : BlAt wr B xs A cap) (hnb : n ≤ 1000) (hB : B ≤ wr.heap.size)
    (v : Bool) (hx' : a.eval x' = .slice (some ⟨wr.heap.size, 0, none⟩) 1 1)
    (cont : ∀ g' cap' w5, BlAt w5 B (xs ++ [v]) (some ⟨g', 0, none⟩) cap' → Below B wr w5 → (∀ b, b < wr.heap.size → NotB A b → w5.heap[b]? = wr.heap[b]?) → (A = some ⟨g', 0, none⟩ ∨ wr.heap.size < g') → K (a.put o.dst (.slice (some ⟨g', 0, none⟩) (n + 1) cap')) w5) :
    if Region.wanted o (yielded ops a.tmps) = true then Oper.wp Try.prog o a (wr.alloc (.cells #[.bool v] 4)) K Q else E := by
  subst hn
  obtain ⟨i0, hi0, hz0, hz1, hz2⟩ := info_split Try.infoB
  refine step_append_kept _ hgd s x' 45 ho B 4 i0 _ 1 1 Try.underlying45 hi0 hz0 hz1 hz2 rfl (by omega) (.slice A xs.length cap) xs.length (bvs xs) hev (World.ownsRow.alloc h _) ⟨wr.heap.size, 0, none⟩ 1 1 [.bool v] hx' rfl (World.news_of_block (cs := #[.bool v]) (t := 4) (fr := (0, 0)) (heap_alloc_new wr _)) (by simp [Value.oneCell']) (by omega) (by simp [maxLen]; omega) (by omega) (by simp; omega) _ rfl ?_
  intro g' cap' w5 hown5 hgr5 hat5 hlt5 hkept5
  refine cont g' cap' w5 (by unfold BlAt; rw [List.length_append, List.length_singleton, bvs_append]; exact hown5) (below_alloc_grownA hgr5 hB (fun g e => (own_ltA h g e).1)) (offA_grown hgr5) ?_
  rcases hat5 with h1 | h1
  · left
    exact own_addr h h1
  · right; simp at h1; omega
end
/-- What the model's step answers. -/
def SStOut (o r : List Bool) (w : World) (e : Ending) (w' : World) : Prop := ∃ (A1 A2 : Option Addr) (c1 c2 : Nat), e = .returned (.agg #[.slice A1 o.length c1, .slice A2 r.length c2]) ∧ BlAt w' w.heap.size o A1 c1 ∧ BlAt w' w.heap.size r A2 c2 ∧ Below w.heap.size w w'
/-- The boxes of the model's step. -/
structure SBox (w wr : World) (K : CkP) (A1 : Option Addr) (n1 c1 : Nat) (A2 : Option Addr) (n2 c2 : Nat) : Prop where
  k : Row wr w.heap.size 26 #[.slice K.TA 25 K.tc, .slice K.PA 3 K.pc]
  s : Row wr (w.heap.size + 1) 50 #[.slice K.RA 25 K.rc]
  r0 : Row wr (w.heap.size + 2) 52 #[.slice none 0 0, .slice none 0 0]
  r1 : Row wr (w.heap.size + 3) 52 #[.slice A1 n1 c1, .slice A2 n2 c2]
theorem SBox.on {w wr wr' : World} {K : CkP} {A1 A2 : Option Addr} {n1 c1 n2 c2 : Nat} (h : SBox w wr K A1 n1 c1 A2 n2 c2) (hk : ∀ b, b < w.heap.size + 4 → wr'.heap[b]? = wr.heap[b]?) : SBox w wr' K A1 n1 c1 A2 n2 c2 := ⟨(hk _ (by omega)).trans h.k, (hk _ (by omega)).trans h.s, (hk _ (by omega)).trans h.r0, (hk _ (by omega)).trans h.r1⟩
theorem SBox.set1 {w wr : World} {K : CkP} {A1 A2 : Option Addr} {n1 c1 n2 c2 : Nat} (h : SBox w wr K A1 n1 c1 A2 n2 c2) (A : Option Addr) (n' c' : Nat) : SBox w (wr.setCell ⟨w.heap.size + 3, 0, none⟩ (.slice A n' c')) K A n' c' A2 n2 c2 := ⟨(Below.heap_setCell _ _ _ _ (by simp)).trans h.k, (Below.heap_setCell _ _ _ _ (by simp)).trans h.s, (Below.heap_setCell _ _ _ _ (by simp)).trans h.r0, h.r1.set 0 _⟩
theorem SBox.set2 {w wr : World} {K : CkP} {A1 A2 : Option Addr} {n1 c1 n2 c2 : Nat} (h : SBox w wr K A1 n1 c1 A2 n2 c2) (A : Option Addr) (n' c' : Nat) : SBox w (wr.setCell ⟨w.heap.size + 3, 1, none⟩ (.slice A n' c')) K A1 n1 c1 A n' c' := ⟨(Below.heap_setCell _ _ _ _ (by simp)).trans h.k, (Below.heap_setCell _ _ _ _ (by simp)).trans h.s, (Below.heap_setCell _ _ _ _ (by simp)).trans h.r0, h.r1.set 1 _⟩
theorem SBox.mk0 (w : World) (K : CkP) : SBox w ((((w.alloc (.cells #[.slice K.TA 25 K.tc, .slice K.PA 3 K.pc] 26)).alloc (.cells #[.slice K.RA 25 K.rc] 50)).alloc (.cells #[.slice none 0 0, .slice none 0 0] 52)).alloc (.cells #[.slice none 0 0, .slice none 0 0] 52)) K none 0 0 none 0 0 := by
  obtain ⟨wa, ha⟩ : ∃ wa, wa = w.alloc (.cells #[.slice K.TA 25 K.tc, .slice K.PA 3 K.pc] 26) := ⟨_, rfl⟩
  have za : wa.heap.size = w.heap.size + 1 := by rw [ha]; simp
  have ra : Row wa w.heap.size 26 #[.slice K.TA 25 K.tc, .slice K.PA 3 K.pc] := by rw [ha]; exact row_new w _ _
  rw [← ha]
  obtain ⟨wb, hb⟩ : ∃ wb, wb = wa.alloc (.cells #[.slice K.RA 25 K.rc] 50) := ⟨_, rfl⟩
  have zb : wb.heap.size = w.heap.size + 2 := by rw [hb]; simp; omega
  have rb : Row wb (w.heap.size + 1) 50 #[.slice K.RA 25 K.rc] := by rw [hb, ← za]; exact row_new wa _ _
  have kb : ∀ b, b < wa.heap.size → wb.heap[b]? = wa.heap[b]? := fun b h => by rw [hb]; exact Below.heap_alloc _ _ _ h
  rw [← hb]
  obtain ⟨wc, hc⟩ : ∃ wc, wc = wb.alloc (.cells #[.slice none 0 0, .slice none 0 0] 52) := ⟨_, rfl⟩
  have zc : wc.heap.size = w.heap.size + 3 := by rw [hc]; simp; omega
  have rc : Row wc (w.heap.size + 2) 52 #[.slice none 0 0, .slice none 0 0] := by rw [hc, ← zb]; exact row_new wb _ _
  have kc : ∀ b, b < wb.heap.size → wc.heap[b]? = wb.heap[b]? := fun b h => by rw [hc]; exact Below.heap_alloc _ _ _ h
  rw [← hc]
  have rd : Row (wc.alloc (.cells #[.slice none 0 0, .slice none 0 0] 52)) (w.heap.size + 3) 52 #[.slice none 0 0, .slice none 0 0] := by rw [← zc]; exact row_new wc _ _
  have kd : ∀ b, b < wc.heap.size → (wc.alloc (.cells #[.slice none 0 0, .slice none 0 0] 52)).heap[b]? = wc.heap[b]? := fun b h => Below.heap_alloc _ _ _ h
  clear ha hb hc
  exact ⟨(kd _ (by omega)).trans ((kc _ (by omega)).trans ((kb _ (by omega)).trans ra)), (kd _ (by omega)).trans ((kc _ (by omega)).trans rb), (kd _ (by omega)).trans rc, rd⟩
theorem outsF_take (V : Wr → Bool) (ps : List Pd) {k : Nat} (hk : k < 3) : (outsF V ps).take (k + 1) = (outsF V ps).take k ++ [outF V (ps.getD k pd0) k] := by
  rw [take_tl (outsF V ps) false (by rw [outsF_len]; exact hk), outsF_at V ps hk]
theorem regsF_take (V : Wr → Bool) (ts : List Tl) {k : Nat} (hk : k < 25) : (regsF V ts).take (k + 1) = (regsF V ts).take k ++ [regF V ts k] := by
  rw [take_tl (regsF V ts) false (by rw [regsF_len]; exact hk), regsF_at V ts hk]
/-- What the pads read is a track or nothing. -/
def PsOk (ps : List Pd) : Prop := ∀ o, o < 3 → 0 ≤ (ps.getD o pd0).1 ∧ ((ps.getD o pd0).1 ≠ 15 → (ps.getD o pd0).1 < 8)
end Go.Proofs.Ytdadokcodklfgaa
/- The program's step of the fabric. -/
namespace Go.Proofs.Ytdadokcodklfgaa
open Go.RowKit Go.Deep Cut Fz

theorem askv_all (S a1 a2 cb ab : Nat) (K : CkP) (ts : List Tl) (rs ins : List Bool) : ∀ f, AskV S a1 a2 cb ab K ts rs ins f
  | 0 => askv_step S a1 a2 cb ab K ts rs ins 0 (fun f' h => by omega)
  | f + 1 => askv_step S a1 a2 cb ab K ts rs ins (f + 1) (fun f' h => by
    obtain rfl : f' = f := by omega
    exact compv_step S a1 a2 cb ab K ts rs ins f' (askv_all S a1 a2 cb ab K ts rs ins f'))
/-- What is known in the memory is right. -/
def Known (V : Wr → Bool) (M : List Nat) : Prop := M.length = 200 ∧ ∀ y, WrOk y → M.getD (wi y) 0 ≠ 0 → (M.getD (wi y) 0 == 2) = V y
theorem Known.right {ts : List Tl} {V : Wr → Bool} {M : List Nat} (h : Known V M) (x : Wr) : Right ts V M x := fun y hy _ e => h.2 y hy e
theorem Known.zero (V : Wr → Bool) : Known V (List.replicate 200 0) := ⟨List.length_replicate, fun y _ e => by
  exfalso
  apply e
  rw [List.getD_eq_getElem?_getD, List.getElem?_replicate]
  split <;> rfl⟩
theorem Known.next {V : Wr → Bool} {M M' : List Nat} (h : Known V M) (hk : Kp M M') (hn : News V M M') : Known V M' := ⟨hk.1.trans h.1, fun y hy e => by
  by_cases h0 : M.getD (wi y) 0 = 0
  · exact hn y hy h0 e
  · rw [hk.2 _ h0]; exact h.2 y hy h0⟩
/-- All that asking needs to be right. -/
structure Sound (ts : List Tl) (rs ins : List Bool) (V : Wr → Bool) : Prop where
  val : ∀ x, WrOk x → V x = runP V (valA ts rs ins x)
  wf : ∃ N, ∀ x, WrOk x → Wf ts N x
  src : ∀ x, WrOk x → ∀ y ∈ srcs ts x, WrOk y
theorem Sound.run {ts : List Tl} {rs ins : List Bool} {V : Wr → Bool} (h : Sound ts rs ins V) {q : Ask} {S : List Wr} (hq : AskIn S q) (hS : ∀ y ∈ S, WrOk y) {M : List Nat} (hM : Known V M) : (runQ (memo (valA ts rs ins) 201) M q).1 = runP V q ∧ Known V (runQ (memo (valA ts rs ins) 201) M q).2 := by
  obtain ⟨N, hw⟩ := h.wf
  have hz : zeros M ≤ 200 := zeros_le M
  obtain ⟨h1, h2⟩ := runQ_val (ts := ts) (V := V) (c := valA ts rs ins) (f := 200) (S := S) (fun M y hy hl hz hr => memo_val h.src hw (valA_in ts rs ins) h.val 200 M y (hS y hy) hl hz hr) hq M hM.1 hz (fun x _ => hM.right x)
  exact ⟨h1, hM.next (runQ_kp (memo_kp _ _) _ _) h2⟩
theorem rdA_in (t : Nat) (z : Int) : AskIn (if z = 15 then [] else [(t, z.toNat)]) (rdA t z) := by
  unfold rdA
  by_cases h : z = 15
  · rw [if_pos h, if_pos h]; exact .ans _
  · rw [if_neg h, if_neg h]; exact .ask _ _ (by simp) fun b => .ans b
theorem rdA_val (V : Wr → Bool) (t : Nat) (z : Int) : runP V (rdA t z) = (decide (z ≠ 15) && V (t, z.toNat)) := by
  unfold rdA
  by_cases h : z = 15
  · rw [if_pos h, show decide (z ≠ 15) = false from decide_eq_false (fun c => c h)]; rfl
  · rw [if_neg h, show decide (z ≠ 15) = true from decide_eq_true h]; rfl
theorem rdA_sound {ts : List Tl} {rs ins : List Bool} {V : Wr → Bool} (h : Sound ts rs ins V) {t : Nat} {z : Int} (ht : t < 25) (hz : z ≠ 15 → z.toNat < 8) {M : List Nat} (hM : Known V M) : (runQ (memo (valA ts rs ins) 201) M (rdA t z)).1 = (decide (z ≠ 15) && V (t, z.toNat)) ∧ Known V (runQ (memo (valA ts rs ins) 201) M (rdA t z)).2 := by
  rw [← rdA_val]
  refine h.run (rdA_in t z) (fun y hy => ?_) hM
  by_cases h15 : z = 15
  · rw [if_pos h15] at hy; cases hy
  · rw [if_neg h15] at hy
    obtain rfl := List.mem_singleton.1 hy
    exact ⟨ht, hz h15⟩
theorem lut_sound {ts : List Tl} {rs ins : List Bool} {V : Wr → Bool} (h : Sound ts rs ins V) {t : Nat} (ht : t < 25) (hok : tlOk t (ts.getD t tl0) = true) {M : List Nat} (hM : Known V M) : (runQ (memo (valA ts rs ins) 201) M (lutA ts t)).1 = runP V (lutA ts t) ∧ Known V (runQ (memo (valA ts rs ins) 201) M (lutA ts t)).2 := by
  refine h.run (S := ((ts.getD t tl0).2.1.filter fun z => decide (z ≠ 15)).map fun z => (t, z.toNat)) (tabA_in _ _ _ _ _ _ fun z hz hn => List.mem_map.2 ⟨z, List.mem_filter.2 ⟨hz, decide_eq_true hn⟩, rfl⟩) (fun y hy => ?_) hM
  obtain ⟨z, hz, rfl⟩ := List.mem_map.1 hy
  obtain ⟨h1, h2⟩ := List.mem_filter.1 hz
  obtain ⟨k, hk, e⟩ := List.mem_iff_getElem.1 h1
  have h8 := tlOk_sel hok k hk
  rw [show (ts.getD t tl0).2.1.getD k 0 = z by rw [List.getD_eq_getElem?_getD, List.getElem?_eq_getElem hk]; exact e] at h8
  exact ⟨ht, by have := h8.2.2 (of_decide_eq_true h2); have := h8.1; show z.toNat < 8; omega⟩
end Go.Proofs.Ytdadokcodklfgaa
