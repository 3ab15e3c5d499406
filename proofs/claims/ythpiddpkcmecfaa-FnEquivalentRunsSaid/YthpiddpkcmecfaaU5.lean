/- What is known of the memory while the model rebuilds a circuit, and how each step hands it on. -/
import Derived.Test.YthpiddpkcmecfaaU4
import Derived.Test.YthpiddpkcmecfaaT7
namespace Go.Proofs.Ythpiddpkcmecfaa
open Go.RowKit Go.Deep Go.Maps Go.WideMaps
set_option maxRecDepth 100000

theorem sand_any (a c base f nl nc gl gc ol oc : Nat) (i : Int) (nA gA oA : Option Addr) (x : List Opt.G) (w : World)
    (hG : w.ownsRow base 46 2 (.slice gA gl gc) x.length (gvs (Opt.intG x))) (hgl : x.length = gl) (hb : base ≤ w.heap.size) (h1 : a < 1000000) (h2 : c < 1000000)
    (hi0 : 0 ≤ i) (hi4 : i ≤ 4) (hnl : nl ≤ 3) (hgb : gl ≤ 1000) (hf : 1 + i + (nl : Int) = f) :
    Calls Try.prog 92 #[.agg #[.int .i64 i, .slice nA nl nc, .slice gA gl gc, .slice oA ol oc], .int .i64 a, .int .i64 c] w (SAndOut w base i (.slice nA nl nc) (.slice oA ol oc) (Opt.and3 f x a c)) := by
  rw [and3_mm]
  cases hs : (simpl (min a c) (max a c)).2 with
  | true =>
    rw [and3_t (by omega) hs]
    exact sand_t a c (min a c) (max a c) (by omega) base f nl nc gl gc ol oc i nA gA oA x w hG hs (by omega) (by omega)
  | false => exact sand_f a c (min a c) (max a c) (by omega) base f nl nc gl gc ol oc i nA gA oA x w hG hgl hb hs (by omega) (by omega) hi0 hi4 hnl hgb hf

structure SB (w0 w : World) (B X U : Nat) (i : Int) (vN vG vO vM : Value) (u : List Bool) (ns : List Nat) (gs : List Opt.G) (os m : List Nat) : Prop where
  cir : Row w X 26 #[.int .i64 i, vN, vG, vO]
  us : BRow w U u
  next : w.ownsRow B 3 1 vN ns.length (ivs (Opt.intL ns))
  gates : w.ownsRow B 46 2 vG gs.length (gvs (Opt.intG gs))
  outs : w.ownsRow B 3 1 vO os.length (ivs (Opt.intL os))
  mp : w.ownsRow B 3 1 vM m.length (ivs (Opt.intL m))
  nm : vN.ownBlock = none ∨ vN.ownBlock ≠ vM.ownBlock
  no : vN.ownBlock = none ∨ vN.ownBlock ≠ vO.ownBlock
  om : vO.ownBlock = none ∨ vO.ownBlock ≠ vM.ownBlock
  low : Below B w0 w
  XB : B ≤ X
  UB : B ≤ U
  sz : B ≤ w.heap.size
theorem own_shape {w : World} {base : Nat} {v : Value} {x : List Opt.G} (h : w.ownsRow base 46 2 v x.length (gvs (Opt.intG x))) : ∃ A cap, v = .slice A x.length cap := by
  rw [← Opt.intG_len x] at h
  obtain ⟨A, cap, e, _⟩ := own_gatesAt h
  exact ⟨A, cap, by rw [e, Opt.intG_len]⟩
theorem ap_symm {a b : Option Nat} (h : a = none ∨ a ≠ b) : b = none ∨ b ≠ a := by
  rcases h with rfl | h
  · cases b <;> simp
  · exact .inr (fun e => h e.symm)
theorem Below.none {w w' : World} {B : Nat} (hb : Below B w w') (hB : w.heap.size ≤ B) : w.grownBy w' none := ⟨hb.os, hb.tape, hb.output, hb.size, fun k hk _ => hb.block k (by omega)⟩
theorem brow_ne {w : World} {g base size n : Nat} {e : TypeId} {u : List Bool} {v : Value} {xs : List Value} (h : BRow w g u) (h' : w.ownsRow base e size v n xs) (hne : 4 ≠ e := by decide) : some g ≠ v.ownBlock := by
  obtain ⟨cs, hr, _⟩ := h
  exact own_ne88 hr h' hne
theorem low_grown {w0 w w' : World} {B : Nat} {o : Option Nat} (h : Below B w0 w) (hg : w.grownBy w' o) (hs : B ≤ w.heap.size) (ho : ∀ k, o = some k → B ≤ k) : Below B w0 w' :=
  h.trans ⟨hg.os, hg.tape, hg.output, hg.size, fun k hk => hg.block k (by omega) (fun e => by have := ho k e.symm; omega)⟩
section
variable {w0 w : World} {B X U : Nat} {i : Int} {vN vG vO vM : Value} {u : List Bool} {ns : List Nat} {gs : List Opt.G} {os m : List Nat}
theorem SB.kept (h : SB w0 w B X U i vN vG vO vM u ns gs os m) {w' : World} (hb : Below w.heap.size w w') : SB w0 w' B X U i vN vG vO vM u ns gs os m := by
  have hg := Below.none hb (Nat.le_refl _)
  exact ⟨h.cir.below hb h.cir.lt, h.us.below hb h.us.lt, own_below' h.next hb, own_below' h.gates hb, own_below' h.outs hb, own_below' h.mp hb, h.nm, h.no, h.om, low_grown h.low hg h.sz (fun k e => by cases e), h.XB, h.UB, Nat.le_trans h.sz hb.size⟩
theorem SB.alloc (h : SB w0 w B X U i vN vG vO vM u ns gs os m) (o : Obj) : SB w0 (w.alloc o) B X U i vN vG vO vM u ns gs os m := h.kept ((Below.refl _ _).alloc (Nat.le_refl _) o)
theorem SB.drewN (h : SB w0 w B X U i vN vG vO vM u ns gs os m) (n : Nat) : SB w0 (w.drewN n) B X U i vN vG vO vM u ns gs os m :=
  ⟨h.cir, h.us, h.next, h.gates, h.outs, h.mp, h.nm, h.no, h.om, below_drewN h.low n, h.XB, h.UB, h.sz⟩
theorem SB.drew (h : SB w0 w B X U i vN vG vO vM u ns gs os m) : SB w0 w.drew B X U i vN vG vO vM u ns gs os m := h.drewN 1
theorem intL_snoc (m : List Nat) (z : Nat) : ivs (Opt.intL (m ++ [z])) = ivs (Opt.intL m) ++ [.int .i64 (z : Int)] := by simp [ivs, Opt.intL]
theorem ap_new {v v' : Value} {g base e size n : Nat} {xs : List Value} (h : v.ownBlock = none ∨ v.ownBlock ≠ v'.ownBlock) (ho : w.ownsRow base e size v n xs) (hat : v'.ownBlock = some g ∨ w.heap.size ≤ g) : v.ownBlock = none ∨ v.ownBlock ≠ some g := by
  rcases hat with e1 | e1
  · rw [← e1]; exact h
  · right
    intro e2
    have := (ho.lt g e2).2
    omega
/-- An append to the names. -/
theorem SB.appM (h : SB w0 w B X U i vN vG vO vM u ns gs os m) {w' : World} {g cap z : Nat} (ho : w'.ownsRow B 3 1 (.slice (some ⟨g, 0, none⟩) (m.length + 1) cap) (m.length + 1) (ivs (Opt.intL m) ++ [.int .i64 (z : Int)])) (hg : w.grownBy w' vM.ownBlock) (hat : vM.ownBlock = some g ∨ w.heap.size ≤ g) :
    SB w0 w' B X U i vN vG vO (.slice (some ⟨g, 0, none⟩) (m.length + 1) cap) u ns gs os (m ++ [z]) := by
  refine ⟨h.cir.grown hg (own_ne88 h.cir h.mp), h.us.grown hg (brow_ne h.us h.mp), h.next.kept hg h.nm, h.gates.kept hg (own_ne h.gates h.mp (by decide)), h.outs.kept hg h.om, ?_, ap_new h.nm h.next hat, h.no, ap_new h.om h.outs hat, low_grown h.low hg h.sz (fun k e => (h.mp.lt k e).1), h.XB, h.UB, Nat.le_trans h.sz hg.size⟩
  rw [List.length_append, List.length_singleton, intL_snoc]
  exact ho
theorem own_setX {v : Value} {base e size n j : Nat} {xs : List Value} {t : TypeId} {cs : Array Value} (h : w.ownsRow base e size v n xs) (hX : Row w X t cs) (hne : t ≠ e) (z : Value) : (w.setCell ⟨X, j, none⟩ z).ownsRow base e size v n xs :=
  h.kept (row := some X) (((Only.refl (some X) w).set j z).grown) (.inr (fun e1 => own_ne88 hX h hne e1.symm))
theorem SB.setX (h : SB w0 w B X U i vN vG vO vM u ns gs os m) (j : Nat) (z : Value) {vN' vG' vO' : Value} (hr : Row (w.setCell ⟨X, j, none⟩ z) X 26 #[.int .i64 i, vN', vG', vO']) (hN : vN' = vN) (hG : vG' = vG) (hO : vO' = vO) : SB w0 (w.setCell ⟨X, j, none⟩ z) B X U i vN' vG' vO' vM u ns gs os m := by
  subst hN hG hO
  have hUX : U ≠ X := by
    intro e
    subst e
    obtain ⟨cs, hr, _⟩ := h.us
    have h1 := h.cir
    unfold Row at hr h1
    rw [hr] at h1
    injection h1 with h1
    injection h1 with _ h2
    exact absurd h2 (by decide)
  have hg := ((Only.refl (some X) w).set j z).grown
  refine ⟨hr, h.us.grown hg (by intro e; injection e; omega), own_setX h.next h.cir (by decide) z, own_setX h.gates h.cir (by decide) z, own_setX h.outs h.cir (by decide) z, own_setX h.mp h.cir (by decide) z, h.nm, h.no, h.om, low_grown h.low hg h.sz (fun k e => by injection e with e; have := h.XB; omega), h.XB, h.UB, by simpa [World.setCell] using h.sz⟩
/-- The gates' slice changed in the circuit. -/
theorem SB.putG (h : SB w0 w B X U i vN vG vO vM u ns gs os m) {vG' : Value} {gs' : List Opt.G} (ho : w.ownsRow B 46 2 vG' gs'.length (gvs (Opt.intG gs'))) : SB w0 (w.setCell ⟨X, 2, none⟩ vG') B X U i vN vG' vO vM u ns gs' os m := by
  have hr := h.cir.set 2 vG'
  simp at hr
  have hg := ((Only.refl (some X) w).set 2 vG').grown
  have hUX : U ≠ X := by
    intro e
    subst e
    obtain ⟨cs, hr, _⟩ := h.us
    have h1 := h.cir
    unfold Row at hr h1
    rw [hr] at h1
    injection h1 with h1
    injection h1 with _ h2
    exact absurd h2 (by decide)
  refine ⟨hr, h.us.grown hg (by intro e; injection e; omega), own_setX h.next h.cir (by decide) vG', own_setX ho h.cir (by decide) vG', own_setX h.outs h.cir (by decide) vG', own_setX h.mp h.cir (by decide) vG', h.nm, h.no, h.om, low_grown h.low hg h.sz (fun k e => by injection e with e; have := h.XB; omega), h.XB, h.UB, by simpa [World.setCell] using h.sz⟩
/-- An append to the gates, before it is stored. -/
theorem SB.growG (h : SB w0 w B X U i vN vG vO vM u ns gs os m) {w' : World} (hg : w.grownBy w' vG.ownBlock) : Row w' X 26 #[.int .i64 i, vN, vG, vO] ∧ BRow w' U u ∧ w'.ownsRow B 3 1 vN ns.length (ivs (Opt.intL ns)) ∧ w'.ownsRow B 3 1 vO os.length (ivs (Opt.intL os)) ∧ w'.ownsRow B 3 1 vM m.length (ivs (Opt.intL m)) ∧ Below B w0 w' :=
  ⟨h.cir.grown hg (own_ne88 h.cir h.gates), h.us.grown hg (brow_ne h.us h.gates), h.next.kept hg (own_ne h.next h.gates (by decide)), h.outs.kept hg (own_ne h.outs h.gates (by decide)), h.mp.kept hg (own_ne h.mp h.gates (by decide)), low_grown h.low hg h.sz (fun k e => (h.gates.lt k e).1)⟩
theorem SB.appG (h : SB w0 w B X U i vN vG vO vM u ns gs os m) {w' : World} {g cap a c : Nat} (ho : w'.ownsRow B 46 2 (.slice (some ⟨g, 0, none⟩) (gs.length + 1) cap) (gs.length + 1) (gvs (Opt.intG gs) ++ [.int .i64 (a : Int), .int .i64 (c : Int)])) (hg : w.grownBy w' vG.ownBlock) :
    SB w0 (w'.setCell ⟨X, 2, none⟩ (.slice (some ⟨g, 0, none⟩) (gs.length + 1) cap)) B X U i vN (.slice (some ⟨g, 0, none⟩) (gs.length + 1) cap) vO vM u ns (gs ++ [(a, c)]) os m := by
  obtain ⟨r1, r2, r3, r4, r5, r6⟩ := h.growG hg
  have ho' : w'.ownsRow B 46 2 (.slice (some ⟨g, 0, none⟩) (gs.length + 1) cap) (gs ++ [(a, c)]).length (gvs (Opt.intG (gs ++ [(a, c)]))) := by
    rw [List.length_append, List.length_singleton, intG_snoc]
    exact ho
  have hr := r1.set 2 (.slice (some ⟨g, 0, none⟩) (gs.length + 1) cap)
  simp at hr
  have hg2 := ((Only.refl (some X) w').set 2 (.slice (some ⟨g, 0, none⟩) (gs.length + 1) cap)).grown
  have hUX : some U ≠ some X := by
    intro e
    injection e with e
    subst e
    obtain ⟨cs, hr, _⟩ := r2
    unfold Row at hr r1
    rw [hr] at r1
    injection r1 with h1
    injection h1 with _ h2
    exact absurd h2 (by decide)
  have hs : B ≤ w'.heap.size := Nat.le_trans h.sz hg.size
  exact ⟨hr, r2.grown hg2 hUX, own_setX r3 r1 (by decide) _, own_setX ho' r1 (by decide) _, own_setX r4 r1 (by decide) _, own_setX r5 r1 (by decide) _, h.nm, h.no, h.om, low_grown r6 hg2 hs (fun k e => by injection e with e; have := h.XB; omega), h.XB, h.UB, by simpa [World.setCell] using hs⟩
theorem SB.appO (h : SB w0 w B X U i vN vG vO vM u ns gs os m) {w' : World} {g cap z : Nat} (ho : w'.ownsRow B 3 1 (.slice (some ⟨g, 0, none⟩) (os.length + 1) cap) (os.length + 1) (ivs (Opt.intL os) ++ [.int .i64 (z : Int)])) (hg : w.grownBy w' vO.ownBlock) (hat : vO.ownBlock = some g ∨ w.heap.size ≤ g) :
    SB w0 (w'.setCell ⟨X, 3, none⟩ (.slice (some ⟨g, 0, none⟩) (os.length + 1) cap)) B X U i vN vG (.slice (some ⟨g, 0, none⟩) (os.length + 1) cap) vM u ns gs (os ++ [z]) m := by
  have r1 := h.cir.grown hg (own_ne88 h.cir h.outs)
  have r2 := h.us.grown hg (brow_ne h.us h.outs)
  have r3 := h.next.kept hg h.no
  have r4 := h.gates.kept hg (own_ne h.gates h.outs (by decide))
  have r5 := h.mp.kept hg (ap_symm h.om)
  have r6 := low_grown h.low hg h.sz (fun k e => (h.outs.lt k e).1)
  have ho' : w'.ownsRow B 3 1 (.slice (some ⟨g, 0, none⟩) (os.length + 1) cap) (os ++ [z]).length (ivs (Opt.intL (os ++ [z]))) := by
    rw [List.length_append, List.length_singleton, intL_snoc]
    exact ho
  have hr := r1.set 3 (.slice (some ⟨g, 0, none⟩) (os.length + 1) cap)
  simp at hr
  have hg2 := ((Only.refl (some X) w').set 3 (.slice (some ⟨g, 0, none⟩) (os.length + 1) cap)).grown
  have hUX : some U ≠ some X := by
    intro e
    injection e with e
    subst e
    obtain ⟨cs, hr, _⟩ := r2
    unfold Row at hr r1
    rw [hr] at r1
    injection r1 with h1
    injection h1 with _ h2
    exact absurd h2 (by decide)
  have hs : B ≤ w'.heap.size := Nat.le_trans h.sz hg.size
  have hm : some g ≠ vM.ownBlock := by
    have := ap_new (ap_symm h.om) h.mp hat
    rcases this with e | e
    · rw [e]; simp
    · exact fun e1 => e e1.symm
  exact ⟨hr, r2.grown hg2 hUX, own_setX r3 r1 (by decide) _, own_setX r4 r1 (by decide) _, own_setX ho' r1 (by decide) _, own_setX r5 r1 (by decide) _, h.nm, ap_new h.no h.next hat, .inr hm, low_grown r6 hg2 hs (fun k e => by injection e with e; have := h.XB; omega), h.XB, h.UB, by simpa [World.setCell] using hs⟩
theorem SB.other (h : SB w0 w B X U i vN vG vO vM u ns gs os m) {Y j : Nat} {cs : Array Value} {z : Value} (hY : Row w Y 26 cs) (hYX : Y ≠ X) (hYB : B ≤ Y) : SB w0 (w.setCell ⟨Y, j, none⟩ z) B X U i vN vG vO vM u ns gs os m := by
  have hUY : U ≠ Y := by
    intro e
    subst e
    obtain ⟨cs, hr, _⟩ := h.us
    unfold Row at hr hY
    rw [hr] at hY
    injection hY with h1
    injection h1 with _ h2
    exact absurd h2 (by decide)
  have hg := ((Only.refl (some Y) w).set j z).grown
  exact ⟨h.cir.grown hg (by intro e; injection e; omega), h.us.grown hg (by intro e; injection e; omega), own_setX h.next hY (by decide) z, own_setX h.gates hY (by decide) z, own_setX h.outs hY (by decide) z, own_setX h.mp hY (by decide) z, h.nm, h.no, h.om, low_grown h.low hg h.sz (fun k e => by injection e with e; omega), h.XB, h.UB, by simpa [World.setCell] using h.sz⟩
/-- The circuit taken over from another one: only its gates differ. -/
theorem SB.take (h : SB w0 w B X U i vN vG vO vM u ns gs os m) {vG' : Value} {gs' : List Opt.G} (ho : w.ownsRow B 46 2 vG' gs'.length (gvs (Opt.intG gs'))) :
    SB w0 ((((w.setCell ⟨X, 0, none⟩ (.int .i64 i)).setCell ⟨X, 1, none⟩ vN).setCell ⟨X, 2, none⟩ vG').setCell ⟨X, 3, none⟩ vO) B X U i vN vG' vO vM u ns gs' os m := by
  have r0 := h.cir.set 0 (.int .i64 i)
  simp at r0
  have s0 := h.setX 0 (.int .i64 i) r0 rfl rfl rfl
  have o0 := own_setX (j := 0) ho h.cir (by decide) (.int .i64 i)
  have r1 := s0.cir.set 1 vN
  simp at r1
  have s1 := s0.setX 1 vN r1 rfl rfl rfl
  have o1 := own_setX (j := 1) o0 s0.cir (by decide) vN
  have s2 := s1.putG o1
  have r3 := s2.cir.set 3 vO
  simp at r3
  exact s2.setX 3 vO r3 rfl rfl rfl
/-- Another circuit filled. -/
theorem SB.fill (h : SB w0 w B X U i vN vG vO vM u ns gs os m) {Y : Nat} {cs : Array Value} {vG' : Value} {gs' : List Opt.G} (hY : Row w Y 26 cs) (hc : cs.size = 4) (hYX : Y ≠ X) (hYB : B ≤ Y) (ho : w.ownsRow B 46 2 vG' gs'.length (gvs (Opt.intG gs'))) :
    SB w0 ((((w.setCell ⟨Y, 0, none⟩ (.int .i64 i)).setCell ⟨Y, 1, none⟩ vN).setCell ⟨Y, 2, none⟩ vG').setCell ⟨Y, 3, none⟩ vO) B X U i vN vG vO vM u ns gs os m ∧
    ((((w.setCell ⟨Y, 0, none⟩ (.int .i64 i)).setCell ⟨Y, 1, none⟩ vN).setCell ⟨Y, 2, none⟩ vG').setCell ⟨Y, 3, none⟩ vO).ownsRow B 46 2 vG' gs'.length (gvs (Opt.intG gs')) ∧
    Row ((((w.setCell ⟨Y, 0, none⟩ (.int .i64 i)).setCell ⟨Y, 1, none⟩ vN).setCell ⟨Y, 2, none⟩ vG').setCell ⟨Y, 3, none⟩ vO) Y 26 #[.int .i64 i, vN, vG', vO] := by
  have h0 := hY.set 0 (.int .i64 i)
  have h1 := h0.set 1 vN
  have h2 := h1.set 2 vG'
  have h3 := h2.set 3 vO
  refine ⟨(((h.other hY hYX hYB).other h0 hYX hYB).other h1 hYX hYB).other h2 hYX hYB, own_setX (own_setX (own_setX (own_setX ho hY (by decide) _) h0 (by decide) _) h1 (by decide) _) h2 (by decide) _, ?_⟩
  have e : (((cs.setIfInBounds 0 (.int .i64 i)).setIfInBounds 1 vN).setIfInBounds 2 vG').setIfInBounds 3 vO = #[.int .i64 i, vN, vG', vO] := by
    obtain ⟨l⟩ := cs
    match l, hc with
    | [_, _, _, _], _ => simp
  rw [e] at h3
  exact h3
theorem keep7 {W W' : World} {n X H b o1 o2 : Nat} {v0 v1 v2 v3 v4 v5 v6 : Value} (hb : Below n W W') (hX : X < n) (hH : H < n) (hbn : b < n) (a0 : W.cell? ⟨X, 0, none⟩ = some v0) (a1 : W.cell? ⟨X, 1, none⟩ = some v1) (a2 : W.cell? ⟨X, 2, none⟩ = some v2) (a3 : W.cell? ⟨X, 3, none⟩ = some v3) (a4 : W.cell? ⟨H, 2, none⟩ = some v4) (a5 : W.cell? ⟨b, o1, none⟩ = some v5) (a6 : W.cell? ⟨b, o2, none⟩ = some v6) :
    W'.cell? ⟨X, 0, none⟩ = some v0 ∧ W'.cell? ⟨X, 1, none⟩ = some v1 ∧ W'.cell? ⟨X, 2, none⟩ = some v2 ∧ W'.cell? ⟨X, 3, none⟩ = some v3 ∧ W'.cell? ⟨H, 2, none⟩ = some v4 ∧ W'.cell? ⟨b, o1, none⟩ = some v5 ∧ W'.cell? ⟨b, o2, none⟩ = some v6 :=
  ⟨(hb.cell (p := ⟨X, 0, none⟩) hX).trans a0, (hb.cell (p := ⟨X, 1, none⟩) hX).trans a1, (hb.cell (p := ⟨X, 2, none⟩) hX).trans a2, (hb.cell (p := ⟨X, 3, none⟩) hX).trans a3, (hb.cell (p := ⟨H, 2, none⟩) hH).trans a4, (hb.cell (p := ⟨b, o1, none⟩) hbn).trans a5, (hb.cell (p := ⟨b, o2, none⟩) hbn).trans a6⟩
theorem SB.names (h : SB w0 w B X U i vN vG vO vM u ns gs os m) {gm cap n : Nat} (hv : vM = .slice (some ⟨gm, 0, none⟩) n cap) (hn : m.length = n) : IntsAt w w.heap.size (some ⟨gm, 0, none⟩) (Opt.intL m) := by
  have := h.mp
  rw [hv, hn] at this
  exact own_ints this (by rw [Opt.intL_len, hn])
theorem ivs_set (ns : List Nat) (j z : Nat) : ivs (Opt.intL (ns.set j z)) = (ivs (Opt.intL ns)).set j (.int .i64 (z : Int)) := by simp [ivs, Opt.intL, List.map_set]
theorem own_cell {base n cap g j z : Nat} {ns : List Nat} (h : w.ownsRow base 3 1 (.slice (some ⟨g, 0, none⟩) n cap) n (ivs (Opt.intL ns))) (_hj : j < n) (hn : ns.length = n) : (w.setCell ⟨g, j, none⟩ (.int .i64 (z : Int))).ownsRow base 3 1 (.slice (some ⟨g, 0, none⟩) n cap) n (ivs (Opt.intL (ns.set j z))) := by
  refine ⟨by rw [ivs_len, Opt.intL_len, List.length_set, hn]; omega, .inr ?_⟩
  rcases h.2 with ⟨e, _⟩ | ⟨g', cap', cur, e, h1, h2, h3, h4, h5, h6⟩
  · cases e
  · injection e with e1 _ e3
    injection e1 with e1
    injection e1 with e1
    subst e1 e3
    refine ⟨g, cap, cur.setIfInBounds j (.int .i64 (z : Int)), rfl, h1, ?_, h3, h4, by simpa using h5, ?_⟩
    · simp [World.setCell, Array.getElem?_modify, h2]
    · rw [ivs_set, ← h6, Array.toList_setIfInBounds, List.take_set]
/-- A next state written. -/
theorem SB.setN {g cap : Nat} (h : SB w0 w B X U i (.slice (some ⟨g, 0, none⟩) ns.length cap) vG vO vM u ns gs os m) {j : Nat} (hj : j < ns.length) (z : Nat) :
    SB w0 (w.setCell ⟨g, j, none⟩ (.int .i64 (z : Int))) B X U i (.slice (some ⟨g, 0, none⟩) ns.length cap) vG vO vM u (ns.set j z) gs os m := by
  have hg := ((Only.refl (some g) w).set j (.int .i64 (z : Int))).grown
  have e1 : (Value.slice (some ⟨g, 0, none⟩) ns.length cap).ownBlock = some g := rfl
  have hno := h.no
  have hnm := h.nm
  rw [e1] at hno hnm
  have hb := (h.next.lt g rfl).1
  refine ⟨h.cir.grown hg (by rw [← e1]; exact own_ne88 h.cir h.next), h.us.grown hg (by rw [← e1]; exact brow_ne h.us h.next), ?_, h.gates.kept hg (by rw [← e1]; exact own_ne h.gates h.next (by decide)), h.outs.kept hg (ap_symm hno), h.mp.kept hg (ap_symm hnm), h.nm, h.no, h.om, low_grown h.low hg h.sz (fun k e => by injection e with e; omega), h.XB, h.UB, by simpa [World.setCell] using h.sz⟩
  have := own_cell (z := z) h.next hj rfl
  rwa [List.length_set]
theorem SB.setN' {g cap n : Nat} (h : SB w0 w B X U i (.slice (some ⟨g, 0, none⟩) n cap) vG vO vM u ns gs os m) (hn : ns.length = n) {j : Nat} (hj : j < n) (z : Nat) :
    SB w0 (w.setCell ⟨g, j, none⟩ (.int .i64 (z : Int))) B X U i (.slice (some ⟨g, 0, none⟩) n cap) vG vO vM u (ns.set j z) gs os m := by
  subst hn
  exact h.setN hj z
/-- The row of a slice of the call's own. -/
theorem own_row {g base e size n n' cap : Nat} {xs : List Value} (h : w.ownsRow base e size (.slice (some ⟨g, 0, none⟩) n' cap) n xs) : ∃ cur, Row w g e cur := by
  rcases h.2 with ⟨e, _⟩ | ⟨g', cap', cur, e, h1, h2, _⟩
  · cases e
  · injection e with e1
    injection e1 with e1
    injection e1 with e1
    subst e1
    exact ⟨cur, h2⟩
theorem SB.nextCell {g cap n : Nat} (h : SB w0 w B X U i (.slice (some ⟨g, 0, none⟩) n cap) vG vO vM u ns gs os m) (hn : ns.length = n) {j : Nat} (hj : j < n) : ∃ old, w.cell? ⟨g, j, none⟩ = some old := by
  have h1 := h.next
  rw [hn] at h1
  have h2 := h1.cellAt j (by omega)
  have h3 : j < (ivs (Opt.intL ns)).length := by rw [ivs_len, Opt.intL_len, hn]; exact hj
  exact ⟨_, h2.trans (List.getElem?_eq_getElem h3)⟩
/-- The next states behind j of them. -/
def nsj (m ns : List Nat) (j : Nat) : List Nat := (ns.take j).map (Opt.mapL m) ++ ns.drop j
theorem nsj_len (m ns : List Nat) (j : Nat) (hj : j ≤ ns.length) : (nsj m ns j).length = ns.length := by simp [nsj]; omega
theorem nsj_step (m ns : List Nat) (j : Nat) (hj : j < ns.length) : nsj m ns (j + 1) = (nsj m ns j).set j (Opt.mapL m (ns.getD j 0)) := by
  unfold nsj
  have hl : ((ns.take j).map (Opt.mapL m)).length = j := by simp; omega
  have e0 : ns.drop j = ns[j] :: ns.drop (j + 1) := List.drop_eq_getElem_cons hj
  rw [e0, List.set_append_right _ _ (by omega), hl, Nat.sub_self, List.set_cons_zero, List.take_succ_eq_append_getElem hj, List.map_append, List.append_assoc]
  simp [List.getD_eq_getElem?_getD, hj]
end
end Go.Proofs.Ythpiddpkcmecfaa
