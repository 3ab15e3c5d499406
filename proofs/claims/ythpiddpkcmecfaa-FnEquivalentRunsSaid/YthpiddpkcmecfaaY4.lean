/- The contract of the draw of two circuits. -/
import Derived.Test.YthpiddpkcmecfaaE6
import Derived.Test.YthpiddpkcmecfaaB12
import Derived.Test.YthpiddpkcmecfaaB1a
import Derived.StillTailTactics
import Derived.Deep.RegionLaw
import Derived.Deep.DeepCutAuto
import Derived.Deep.CutBlock
namespace Go.Proofs.Ythpiddpkcmecfaa
open Go.RowKit Go.Deep
set_option maxRecDepth 100000

/-- What is known while two circuits are drawn. -/
structure PD (w w' : World) (R D ca : Nat) (rb : Value) (p i : Int) (nA gA oA : Option Addr) (nc gc oc : Nat) (ns : List Int) (gs : List (Int × Int)) (os : List Int) : Prop where
  row : Row w' R 90 #[rb, .int .i64 p]
  d1 : Row w' D 26 #[.int .i64 0, .slice none 0 0, .slice none 0 0, .slice none 0 0]
  d2 : Row w' (D + 1) 26 #[.int .i64 0, .slice none 0 0, .slice none 0 0, .slice none 0 0]
  a : Row w' ca 26 #[.int .i64 i, .slice nA ns.length nc, .slice gA gs.length gc, .slice oA os.length oc]
  circ : CircIn w' (D + 2) ca nA gA oA ns gs os
  gr : w.grownBy w' (some R)
  Rl : R < D
  hD : D = w.heap.size
  hca : D + 2 ≤ ca
section
variable {w w' w'' : World} {R D ca : Nat} {rb : Value} {p i : Int} {nA gA oA : Option Addr} {nc gc oc : Nat} {ns : List Int} {gs : List (Int × Int)} {os : List Int}
theorem gb_trans {a b c : World} {o o' : Option Nat} (h : a.grownBy b o) (k : b.grownBy c o') (hk : ∀ j, o' = some j → o = some j ∨ a.heap.size ≤ j) : a.grownBy c o :=
  ⟨k.os.trans h.os, k.tape.trans h.tape, k.output.trans h.output, Nat.le_trans h.size k.size, fun j hj hne => (k.block j (Nat.lt_of_lt_of_le hj h.size) (fun e => by
    rcases hk j e.symm with h1 | h1
    · exact hne h1.symm
    · omega)).trans (h.block j hj hne)⟩
theorem PD.other (h : PD w w' R D ca rb p i nA gA oA nc gc oc ns gs os) {o : Option Nat} (hg : w'.grownBy w'' o) (ho : ∀ k, o = some k → ca < k) : PD w w'' R D ca rb p i nA gA oA nc gc oc ns gs os := by
  have h1 := h.Rl
  have h2 := h.hca
  have h3 := h.hD
  exact ⟨h.row.grown hg (fun e => by have := ho _ e.symm; omega), h.d1.grown hg (fun e => by have := ho _ e.symm; omega), h.d2.grown hg (fun e => by have := ho _ e.symm; omega), h.a.grown hg (fun e => by have := ho _ e.symm; omega), h.circ.grown hg (fun k e => by have := ho _ e; omega), gb_trans h.gr hg (fun k e => by have := ho _ e; right; omega), h1, h3, h2⟩
theorem PD.below (h : PD w w' R D ca rb p i nA gA oA nc gc oc ns gs os) (hb : Below w'.heap.size w' w'') : PD w w'' R D ca rb p i nA gA oA nc gc oc ns gs os :=
  h.other (o := none) ⟨hb.os, hb.tape, hb.output, hb.size, fun k hk _ => hb.block k hk⟩ (fun k e => by cases e)
theorem PD.pick (h : PD w w' R D ca rb p i nA gA oA nc gc oc ns gs os) (hg : w'.grownBy w'' (some R)) {p' : Int} (hr : Row w'' R 90 #[rb, .int .i64 p']) : PD w w'' R D ca rb p' i nA gA oA nc gc oc ns gs os := by
  have h1 := h.Rl
  have h2 := h.hca
  have h3 := h.hD
  exact ⟨hr, h.d1.grown hg (fun e => by injection e; omega), h.d2.grown hg (fun e => by injection e; omega), h.a.grown hg (fun e => by injection e; omega), h.circ.grown hg (fun k e => by injection e; omega), gb_trans h.gr hg (fun k e => .inl e), h1, h3, h2⟩
theorem PD.set (h : PD w w' R D ca rb p i nA gA oA nc gc oc ns gs os) {c : Nat} (hc : ca < c) (j : Nat) (u : Value) : PD w (w'.setCell ⟨c, j, none⟩ u) R D ca rb p i nA gA oA nc gc oc ns gs os :=
  h.other (o := some c) ((Only.refl (some c) w').set j u).grown (fun k e => by injection e with e; omega)
end
def PairOut (w : World) (R : Nat) (e : Ending) (w' : World) : Prop :=
  ∃ (i : Int) (nA gA oA : Option Addr) (nc gc oc : Nat) (ns : List Int) (gs : List (Int × Int)) (os : List Int) (i' : Int) (nA' gA' oA' : Option Addr) (nc' gc' oc' : Nat) (ns' : List Int) (gs' : List (Int × Int)) (os' : List Int),
    e = .returned (.tuple #[.agg #[.int .i64 i, .slice nA ns.length nc, .slice gA gs.length gc, .slice oA os.length oc], .agg #[.int .i64 i', .slice nA' ns'.length nc', .slice gA' gs'.length gc', .slice oA' os'.length oc']]) ∧
    CircAt w' w'.heap.size nA gA oA ns gs os ∧ CircAt w' w'.heap.size nA' gA' oA' ns' gs' os' ∧ ns.length ≤ 10 ∧ gs.length ≤ 20 ∧ os.length ≤ 10 ∧ ns'.length ≤ 10 ∧ gs'.length ≤ 20 ∧ os'.length ≤ 10 ∧ w.grownBy w' (some R) ∧ (FreshA w.heap.size nA ∧ FreshA w.heap.size gA ∧ FreshA w.heap.size oA) ∧ FreshA w.heap.size nA' ∧ FreshA w.heap.size gA' ∧ FreshA w.heap.size oA'
/-- The second circuit, behind the switch. -/
def SecondC (wx : World) (D _ca cb : Nat) : Prop :=
  ∃ (i' : Int) (nA' gA' oA' : Option Addr) (nc' gc' oc' : Nat) (ns' : List Int) (gs' : List (Int × Int)) (os' : List Int), Row wx cb 26 #[.int .i64 i', .slice nA' ns'.length nc', .slice gA' gs'.length gc', .slice oA' os'.length oc'] ∧ CircAt wx wx.heap.size nA' gA' oA' ns' gs' os' ∧ FreshA (D + 2) nA' ∧ FreshA (D + 2) gA' ∧ FreshA (D + 2) oA' ∧ ns'.length ≤ 10 ∧ gs'.length ≤ 20 ∧ os'.length ≤ 10

theorem eightP {w : World} {cc cx P j : Nat} {u a0 a1 a2 a3 b0 b1 b2 b3 : Value} (h1 : P ≠ cc) (h2 : P ≠ cx) (h : (w.cell? ⟨cc, 0, none⟩ = some a0 ∧ w.cell? ⟨cc, 1, none⟩ = some a1 ∧ w.cell? ⟨cc, 2, none⟩ = some a2 ∧ w.cell? ⟨cc, 3, none⟩ = some a3) ∧ w.cell? ⟨cx, 0, none⟩ = some b0 ∧ w.cell? ⟨cx, 1, none⟩ = some b1 ∧ w.cell? ⟨cx, 2, none⟩ = some b2 ∧ w.cell? ⟨cx, 3, none⟩ = some b3) : ((w.setCell ⟨P, j, none⟩ u).cell? ⟨cc, 0, none⟩ = some a0 ∧ (w.setCell ⟨P, j, none⟩ u).cell? ⟨cc, 1, none⟩ = some a1 ∧ (w.setCell ⟨P, j, none⟩ u).cell? ⟨cc, 2, none⟩ = some a2 ∧ (w.setCell ⟨P, j, none⟩ u).cell? ⟨cc, 3, none⟩ = some a3) ∧ (w.setCell ⟨P, j, none⟩ u).cell? ⟨cx, 0, none⟩ = some b0 ∧ (w.setCell ⟨P, j, none⟩ u).cell? ⟨cx, 1, none⟩ = some b1 ∧ (w.setCell ⟨P, j, none⟩ u).cell? ⟨cx, 2, none⟩ = some b2 ∧ (w.setCell ⟨P, j, none⟩ u).cell? ⟨cx, 3, none⟩ = some b3 := by
  have k1 : ∀ o, (w.setCell ⟨P, j, none⟩ u).cell? ⟨cc, o, none⟩ = w.cell? ⟨cc, o, none⟩ := fun o => World.cell?_setCell_far w ⟨P, j, none⟩ ⟨cc, o, none⟩ u h1
  have k2 : ∀ o, (w.setCell ⟨P, j, none⟩ u).cell? ⟨cx, o, none⟩ = w.cell? ⟨cx, o, none⟩ := fun o => World.cell?_setCell_far w ⟨P, j, none⟩ ⟨cx, o, none⟩ u h2
  simp only [k1, k2]
  exact h
/-- What the model's optimization answers lies in new memory. -/
def FreshC (w : World) (e : Ending) (w' : World) : Prop :=
  ∃ (i' : Int) (nA' gA' oA' : Option Addr) (nc' gc' oc' : Nat) (ns' : List Int) (gs' : List (Int × Int)) (os' : List Int), e = .returned (.agg #[.int .i64 i', .slice nA' ns'.length nc', .slice gA' gs'.length gc', .slice oA' os'.length oc']) ∧ CircAt w' w'.heap.size nA' gA' oA' ns' gs' os' ∧ FreshA w.heap.size nA' ∧ FreshA w.heap.size gA' ∧ FreshA w.heap.size oA' ∧ ns'.length ≤ 10 ∧ gs'.length ≤ 20 ∧ os'.length ≤ 10 ∧ Below w.heap.size w w'
theorem spec_opt_fresh (i : Int) (nA gA oA : Option Addr) (nc gc oc : Nat) (ns : List Int) (gs : List (Int × Int)) (os : List Int) (w : World) (hc : CircAt w w.heap.size nA gA oA ns gs os) :
    Calls Try.prog 17 #[.agg #[.int .i64 i, .slice nA ns.length nc, .slice gA gs.length gc, .slice oA os.length oc]] w (FreshC w) := by
  cases hv : Circ.validB i ns gs os
  · exact (spec_opt_f i nA gA oA nc gc oc ns gs os w hc hv).mono fun _ _ ⟨he, hb⟩ => ⟨0, none, none, none, 0, 0, 0, [], [], [], he, ⟨fun k hk => absurd hk (by simp), fun k hk => absurd hk (by simp), fun k hk => absurd hk (by simp), by simp, by simp, by simp⟩, fun _ _ e => (by cases e), fun _ _ e => (by cases e), fun _ _ e => (by cases e), by simp, by simp, by simp, hb⟩
  · obtain ⟨_, _, hn, hg, ho⟩ := Circ.valid_within hv
    have h1 := Opt.optN_len hv
    have h2 := Opt.optG_len hv
    have h3 := Opt.optO_len hv
    refine (spec_opt_t i nA gA oA nc gc oc ns gs os w hc hv).mono fun _ _ ⟨a, b, c, d, e, f, he, hC, f1, f2, f3, hb⟩ => ⟨i, a, b, c, d, e, f, Opt.optN i ns gs os, Opt.optG i ns gs os, Opt.optO i ns gs os, ?_, hC, f1, f2, f3, by omega, by omega, by omega, hb⟩
    rw [he, h1, h3]
    simp [Opt.optG, Opt.intG]
theorem own_gatesB {w : World} {base g n cap : Nat} {gs : List (Int × Int)} (h : w.ownsRow base 46 2 (.slice (some ⟨g, 0, none⟩) gs.length cap) n (gvs gs)) : GatesAt w w.heap.size (some ⟨g, 0, none⟩) gs := by
  have hn : n = gs.length := by have := h.1; rw [gvs_len] at this; omega
  subst hn
  obtain ⟨A, c, e, hg, _⟩ := own_gatesAt h
  injection e with e1 e2 e3
  subst e1
  exact hg
theorem GatesAt.setA {w : World} {g k : Nat} {gs : List (Int × Int)} (h : GatesAt w w.heap.size (some ⟨g, 0, none⟩) gs) (hk : k < gs.length) (x : Int) : GatesAt (w.setCell ⟨g, k * 2, none⟩ (.int .i64 x)) (w.setCell ⟨g, k * 2, none⟩ (.int .i64 x)).heap.size (some ⟨g, 0, none⟩) (gs.set k (x, (gs.getD k (0, 0)).2)) := fun j hj => by
  rw [List.length_set] at hj
  obtain ⟨b, off, e, hlt, h1, h2⟩ := h j hj
  injection e with e
  injection e with e1 e2
  subst e1 e2
  refine ⟨g, 0, rfl, by simpa using hlt, ?_, ?_⟩
  · by_cases e : j = k
    · subst e
      rw [Nat.zero_add] at h1 ⊢
      rw [World.cell?_setCell_same' _ _ _ (by rw [h1]; rfl)]
      simp [List.getD_eq_getElem?_getD, hj]
    · rw [World.cell?_setCell_other _ _ _ _ (by intro h; injection h; omega), h1]
      simp [List.getD_eq_getElem?_getD, Ne.symm e]
  · rw [World.cell?_setCell_other _ _ _ _ (by intro h; injection h; omega), h2]
    by_cases e : j = k
    · subst e; simp [List.getD_eq_getElem?_getD, hj]
    · simp [List.getD_eq_getElem?_getD, Ne.symm e]
theorem GatesAt.setB {w : World} {g k : Nat} {gs : List (Int × Int)} (h : GatesAt w w.heap.size (some ⟨g, 0, none⟩) gs) (hk : k < gs.length) (x : Int) : GatesAt (w.setCell ⟨g, k * 2 + 1, none⟩ (.int .i64 x)) (w.setCell ⟨g, k * 2 + 1, none⟩ (.int .i64 x)).heap.size (some ⟨g, 0, none⟩) (gs.set k ((gs.getD k (0, 0)).1, x)) := fun j hj => by
  rw [List.length_set] at hj
  obtain ⟨b, off, e, hlt, h1, h2⟩ := h j hj
  injection e with e
  injection e with e1 e2
  subst e1 e2
  refine ⟨g, 0, rfl, by simpa using hlt, ?_, ?_⟩
  · rw [World.cell?_setCell_other _ _ _ _ (by intro h; injection h; omega), h1]
    by_cases e : j = k
    · subst e; simp [List.getD_eq_getElem?_getD, hj]
    · simp [List.getD_eq_getElem?_getD, Ne.symm e]
  · by_cases e : j = k
    · subst e
      rw [Nat.zero_add] at h2 ⊢
      rw [World.cell?_setCell_same' _ _ _ (by rw [h2]; rfl)]
      simp [List.getD_eq_getElem?_getD, hj]
    · rw [World.cell?_setCell_other _ _ _ _ (by intro h; injection h; omega), h2]
      simp [List.getD_eq_getElem?_getD, Ne.symm e]
theorem CircIn.drewn {w : World} {lo hi : Nat} {nA gA oA : Option Addr} {ns : List Int} {gs : List (Int × Int)} {os : List Int} (h : CircIn w lo hi nA gA oA ns gs os) : CircAt w.drew w.drew.heap.size nA gA oA ns gs os := h.at'.below (Below.refl _ _).drew
theorem CircIn.low8 {w : World} {D hi : Nat} {nA gA oA : Option Addr} {ns : List Int} {gs : List (Int × Int)} {os : List Int} (h : CircIn w (D + 2) hi nA gA oA ns gs os) (a0 a1 a2 a3 b0 b1 b2 b3 : Value) : CircIn ((((((((w.setCell ⟨D, 0, none⟩ a0).setCell ⟨D, 1, none⟩ a1).setCell ⟨D, 2, none⟩ a2).setCell ⟨D, 3, none⟩ a3).setCell ⟨D + 1, 0, none⟩ b0).setCell ⟨D + 1, 1, none⟩ b1).setCell ⟨D + 1, 2, none⟩ b2).setCell ⟨D + 1, 3, none⟩ b3) (D + 2) hi nA gA oA ns gs os := by
  have l : ∀ {v : World} (c j : Nat) (u : Value), c < D + 2 → CircIn v (D + 2) hi nA gA oA ns gs os → CircIn (v.setCell ⟨c, j, none⟩ u) (D + 2) hi nA gA oA ns gs os := fun {v} c j u hc k => k.grown ((Only.refl (some c) v).set j u).grown (fun k e => by injection e with e; omega)
  exact l _ _ _ (by omega) (l _ _ _ (by omega) (l _ _ _ (by omega) (l _ _ _ (by omega) (l _ _ _ (by omega) (l _ _ _ (by omega) (l _ _ _ (by omega) (l _ _ _ (by omega) h)))))))
theorem Row.res8 {w : World} {D : Nat} {t : TypeId} {z0 z1 z2 z3 y0 y1 y2 y3 : Value} (h1 : Row w D t #[z0, z1, z2, z3]) (h2 : Row w (D + 1) t #[y0, y1, y2, y3]) (a0 a1 a2 a3 b0 b1 b2 b3 : Value) :
    Row ((((((((w.setCell ⟨D, 0, none⟩ a0).setCell ⟨D, 1, none⟩ a1).setCell ⟨D, 2, none⟩ a2).setCell ⟨D, 3, none⟩ a3).setCell ⟨D + 1, 0, none⟩ b0).setCell ⟨D + 1, 1, none⟩ b1).setCell ⟨D + 1, 2, none⟩ b2).setCell ⟨D + 1, 3, none⟩ b3).drew D t #[a0, a1, a2, a3] ∧ Row ((((((((w.setCell ⟨D, 0, none⟩ a0).setCell ⟨D, 1, none⟩ a1).setCell ⟨D, 2, none⟩ a2).setCell ⟨D, 3, none⟩ a3).setCell ⟨D + 1, 0, none⟩ b0).setCell ⟨D + 1, 1, none⟩ b1).setCell ⟨D + 1, 2, none⟩ b2).setCell ⟨D + 1, 3, none⟩ b3).drew (D + 1) t #[b0, b1, b2, b3] := by
  have k1 := (((h1.set 0 a0).set 1 a1).set 2 a2).set 3 a3
  have k2 := (((h2.far (p := ⟨D, 0, none⟩) (by show D + 1 ≠ D; omega) a0).far (p := ⟨D, 1, none⟩) (by show D + 1 ≠ D; omega) a1).far (p := ⟨D, 2, none⟩) (by show D + 1 ≠ D; omega) a2).far (p := ⟨D, 3, none⟩) (by show D + 1 ≠ D; omega) a3
  generalize (((w.setCell ⟨D, 0, none⟩ a0).setCell ⟨D, 1, none⟩ a1).setCell ⟨D, 2, none⟩ a2).setCell ⟨D, 3, none⟩ a3 = v at *
  have m1 := (((k1.far (p := ⟨D + 1, 0, none⟩) (by show D ≠ D + 1; omega) b0).far (p := ⟨D + 1, 1, none⟩) (by show D ≠ D + 1; omega) b1).far (p := ⟨D + 1, 2, none⟩) (by show D ≠ D + 1; omega) b2).far (p := ⟨D + 1, 3, none⟩) (by show D ≠ D + 1; omega) b3
  have m2 := (((k2.set 0 b0).set 1 b1).set 2 b2).set 3 b3
  generalize (((v.setCell ⟨D + 1, 0, none⟩ b0).setCell ⟨D + 1, 1, none⟩ b1).setCell ⟨D + 1, 2, none⟩ b2).setCell ⟨D + 1, 3, none⟩ b3 = u at *
  have e1 : ∀ {b : Nat} {cs : Array Value}, Row u b t cs → Row u.drew b t cs := fun h => h
  refine ⟨e1 ?_, e1 ?_⟩
  · simpa using m1
  · simpa using m2
/-- The second circuit while its gates are turned. -/
structure PB (w : World) (ca g1 cap1 : Nat) (i : Int) (nA oA : Option Addr) (nc oc nl gl ol : Nat) (gs2 : List (Int × Int)) : Prop where
  row : Row w (ca + 1) 26 #[.int .i64 i, .slice nA nl nc, .slice (some ⟨g1, 0, none⟩) gl cap1, .slice oA ol oc]
  gates : GatesAt w w.heap.size (some ⟨g1, 0, none⟩) gs2
  blk : ∃ cur, Row w g1 46 cur
  lt : ca + 1 < g1
  len : gs2.length = gl
section
variable {w w' : World} {ca g1 cap1 : Nat} {i : Int} {nA oA : Option Addr} {nc oc nl gl ol : Nat} {gs2 : List (Int × Int)}
theorem PB.grown (h : PB w ca g1 cap1 i nA oA nc oc nl gl ol gs2) {o : Option Nat} (hg : w.grownBy w' o) (h1 : some (ca + 1) ≠ o) (h2 : some g1 ≠ o) : PB w' ca g1 cap1 i nA oA nc oc nl gl ol gs2 := by
  obtain ⟨cur, hc⟩ := h.blk
  exact ⟨h.row.grown hg h1, h.gates.grownR hg (fun b off e _ he => by injection e with e; injection e with e; rw [← e] at he; exact h2 he), ⟨cur, hc.grown hg h2⟩, h.lt, h.len⟩
theorem PB.setA (h : PB w ca g1 cap1 i nA oA nc oc nl gl ol gs2) {k : Nat} (hk : k < gl) (x : Int) : PB (w.setCell ⟨g1, k * 2, none⟩ (.int .i64 x)) ca g1 cap1 i nA oA nc oc nl gl ol (gs2.set k (x, (gs2.getD k (0, 0)).2)) := by
  obtain ⟨cur, hc⟩ := h.blk
  have hl := h.lt
  exact ⟨h.row.far (p := ⟨g1, k * 2, none⟩) (by show ca + 1 ≠ g1; omega) _, h.gates.setA (by rw [h.len]; exact hk) x, ⟨_, hc.set (k * 2) (.int .i64 x)⟩, hl, by simp [h.len]⟩
theorem PB.setB (h : PB w ca g1 cap1 i nA oA nc oc nl gl ol gs2) {k : Nat} (hk : k < gl) (x : Int) : PB (w.setCell ⟨g1, k * 2 + 1, none⟩ (.int .i64 x)) ca g1 cap1 i nA oA nc oc nl gl ol (gs2.set k ((gs2.getD k (0, 0)).1, x)) := by
  obtain ⟨cur, hc⟩ := h.blk
  have hl := h.lt
  exact ⟨h.row.far (p := ⟨g1, k * 2 + 1, none⟩) (by show ca + 1 ≠ g1; omega) _, h.gates.setB (by rw [h.len]; exact hk) x, ⟨_, hc.set (k * 2 + 1) (.int .i64 x)⟩, hl, by simp [h.len]⟩
theorem PB.drewn (h : PB w ca g1 cap1 i nA oA nc oc nl gl ol gs2) : PB w.drew ca g1 cap1 i nA oA nc oc nl gl ol gs2 := h.grown (o := none) (gb_drew (World.grownBy.refl w none)) (by simp) (by simp)
theorem PB.frozen (h : PB w ca g1 cap1 i nA oA nc oc nl gl ol gs2) (j : Nat) : w.frozen? ⟨g1, j, none⟩ = false := by
  obtain ⟨cur, hc⟩ := h.blk
  exact hc.frozen j
theorem PB.cells (h : PB w ca g1 cap1 i nA oA nc oc nl gl ol gs2) {k : Nat} (hk : k < gl) : w.cell? ⟨g1, k * 2, none⟩ = some (.int .i64 (gs2.getD k (0, 0)).1) ∧ w.cell? ⟨g1, k * 2 + 1, none⟩ = some (.int .i64 (gs2.getD k (0, 0)).2) := by
  obtain ⟨b, off, e, _, h1, h2⟩ := h.gates k (by rw [h.len]; exact hk)
  injection e with e
  injection e with e1 e2
  subst e1 e2
  simp only [Nat.zero_add] at h1 h2
  exact ⟨h1, h2⟩
theorem PD.drewn {u : World} {R D : Nat} {rb : Value} {p : Int} {gA : Option Addr} {gc : Nat} {ns : List Int} {gs : List (Int × Int)} {os : List Int} (h : PD u w R D ca rb p i nA gA oA nc gc oc ns gs os) : PD u w.drew R D ca rb p i nA gA oA nc gc oc ns gs os :=
  h.other (o := none) (gb_drew (World.grownBy.refl w none)) (fun k e => by cases e)
theorem PB.second {u : World} {R : Nat} {rb : Value} {p : Int} {gA : Option Addr} {gc : Nat} {ns : List Int} {gs : List (Int × Int)} {os : List Int} (h : PB w ca g1 cap1 i nA oA nc oc ns.length gl os.length gs2) (hP : PD u w R u.heap.size ca rb p i nA gA oA nc gc oc ns gs os) (hn : ns.length ≤ 10) (hg : gl ≤ 20) (ho : os.length ≤ 10) : SecondC w u.heap.size ca (ca + 1) := by
  have h1 := h.lt
  have h2 := hP.hca
  have h3 := h.row
  rw [← h.len] at h3 hg
  exact ⟨i, nA, some ⟨g1, 0, none⟩, oA, nc, cap1, oc, ns, gs2, os, h3, ⟨hP.circ.at'.next, h.gates, hP.circ.at'.outs, hP.circ.at'.nl, by simp [maxLen]; omega, hP.circ.at'.ol⟩, hP.circ.f1, fun b off e => by injection e with e; injection e with e; omega, hP.circ.f3, hn, hg, ho⟩
end

/-- A circuit that lies from lo on, behind a store into a block below. -/
theorem CircIn.low {w : World} {lo hi c : Nat} {nA gA oA : Option Addr} {ns : List Int} {gs : List (Int × Int)} {os : List Int} (h : CircIn w lo hi nA gA oA ns gs os) (hc : c < lo) (j : Nat) (u : Value) : CircIn (w.setCell ⟨c, j, none⟩ u) lo hi nA gA oA ns gs os :=
  h.grown ((Only.refl (some c) w).set j u).grown (fun k e => by injection e with e; omega)

set_option maxHeartbeats 8000000 in
theorem pair_any (R : Nat) (bA : Option Addr) (bl bc : Nat) (p : Int) (w : World) (hR : Row w R 90 #[.slice bA bl bc, .int .i64 p]) (hb : BytesAt w R bA bl) (hbl : bl ≤ 2000) (hp0 : 0 ≤ p) (hp1 : p ≤ 1000) :
    Calls Try.prog 63 #[.pointer (some ⟨R, 0, none⟩)] w (PairOut w R) := by
  have HBY := Lib.hid hb
  have hRl := hR.lt
  have hga : w.grownBy ((w.alloc (.cells #[.int .i64 0, .slice none 0 0, .slice none 0 0, .slice none 0 0] 26)).alloc (.cells #[.int .i64 0, .slice none 0 0, .slice none 0 0, .slice none 0 0] 26)) (some R) := gb_alloc (gb_alloc (World.grownBy.refl w (some R)) _) _
  have HR0 := Lib.hid ((hR.alloc (.cells #[.int .i64 0, .slice none 0 0, .slice none 0 0, .slice none 0 0] 26)).alloc (.cells #[.int .i64 0, .slice none 0 0, .slice none 0 0, .slice none 0 0] 26))
  have HD1 := Lib.hid (show Row ((w.alloc (.cells #[.int .i64 0, .slice none 0 0, .slice none 0 0, .slice none 0 0] 26)).alloc (.cells #[.int .i64 0, .slice none 0 0, .slice none 0 0, .slice none 0 0] 26)) w.heap.size 26 #[.int .i64 0, .slice none 0 0, .slice none 0 0, .slice none 0 0] from (Below.heap_alloc _ _ _ (by simp)).trans (heap_alloc_new w _))
  have HD2 := Lib.hid (show Row ((w.alloc (.cells #[.int .i64 0, .slice none 0 0, .slice none 0 0, .slice none 0 0] 26)).alloc (.cells #[.int .i64 0, .slice none 0 0, .slice none 0 0, .slice none 0 0] 26)) (w.heap.size + 1) 26 #[.int .i64 0, .slice none 0 0, .slice none 0 0, .slice none 0 0] from by
    have := heap_alloc_new (w.alloc (.cells #[.int .i64 0, .slice none 0 0, .slice none 0 0, .slice none 0 0] 26)) (.cells #[.int .i64 0, .slice none 0 0, .slice none 0 0, .slice none 0 0] 26)
    simpa [Row] using this)
  have HG0 := Lib.hid hga
  have hz0 : ((w.alloc (.cells #[.int .i64 0, .slice none 0 0, .slice none 0 0, .slice none 0 0] 26)).alloc (.cells #[.int .i64 0, .slice none 0 0, .slice none 0 0, .slice none 0 0] 26)).heap.size = w.heap.size + 2 := by simp
  have HZ0 := Lib.hid hz0
  clear hR hb hga hz0
  obtain ⟨i31, hi31, hz31, hs31, ht31⟩ := info_parts Try.info31
  have HI31 := Lib.hid hi31
  have HZ31 := Lib.hid hz31
  have HS31 := Lib.hid hs31
  have HT31 := Lib.hid ht31
  clear hi31 hz31 hs31 ht31
  go_enter Try.func63, Try.ntmps63
  go_wp2_with fail
  refine (circuit_any R bA bl bc p 16 _ HR0.out (HBY.out.grown HG0.out) hbl hp0 (by omega) (by omega) (by omega)).mono ?_
  rintro e w2 ⟨i, nA, gA, oA, nc, gc, oc, ns, gs, os, p', rfl, hC, hn, hg, ho, hi0, hi1, hp2, hp3, hrow2, hgr, f1, f2, f3, hcap⟩
  generalize (w.alloc (.cells #[.int .i64 0, .slice none 0 0, .slice none 0 0, .slice none 0 0] 26)).alloc (.cells #[.int .i64 0, .slice none 0 0, .slice none 0 0, .slice none 0 0] 26) = w1 at *
  rw [HZ0.out] at f1 f2 f3
  have hs2 : w.heap.size + 2 ≤ w2.heap.size := by have := hgr.size; rw [HZ0.out] at this; exact this
  have hP : PD w (w2.alloc (.cells #[.int .i64 i, .slice nA ns.length nc, .slice gA gs.length gc, .slice oA os.length oc] 26)) R w.heap.size w2.heap.size (.slice bA bl bc) p' i nA gA oA nc gc oc ns gs os :=
    ⟨hrow2.alloc _, (HD1.out.grown hgr (by intro x; injection x; omega)).alloc _, (HD2.out.grown hgr (by intro x; injection x; omega)).alloc _, heap_alloc_new w2 _, (CircIn.of hC f1 f2 f3).grown (gb_alloc (World.grownBy.refl w2 none) _) (fun k hk => by cases hk), gb_alloc (gb_trans HG0.out hgr (fun k e => .inl e)) _, hRl, rfl, hs2⟩
  have HP2 := Lib.hid (hP.below ((Below.refl _ _).alloc (Nat.le_refl _) (.cells #[.int .i64 i, .slice nA ns.length nc, .slice gA gs.length gc, .slice oA os.length oc] 26)))
  have HB2 : Hid (Row ((w2.alloc (.cells #[.int .i64 i, .slice nA ns.length nc, .slice gA gs.length gc, .slice oA os.length oc] 26)).alloc (.cells #[.int .i64 i, .slice nA ns.length nc, .slice gA gs.length gc, .slice oA os.length oc] 26)) (w2.heap.size + 1) 26 #[.int .i64 i, .slice nA ns.length nc, .slice gA gs.length gc, .slice oA os.length oc]) := Lib.hid (by
    have := heap_alloc_new (w2.alloc (.cells #[.int .i64 i, .slice nA ns.length nc, .slice gA gs.length gc, .slice oA os.length oc] 26)) (.cells #[.int .i64 i, .slice nA ns.length nc, .slice gA gs.length gc, .slice oA os.length oc] 26)
    simpa [Row] using this)
  clear hP hC hrow2 hgr f1 f2 f3 HR0 HD1 HD2 HG0 HZ0
  go_wp2_with fail
  generalize (w2.alloc (.cells #[.int .i64 i, .slice nA ns.length nc, .slice gA gs.length gc, .slice oA os.length oc] 26)).alloc (.cells #[.int .i64 i, .slice nA ns.length nc, .slice gA gs.length gc, .slice oA os.length oc] 26) = w3 at *
  generalize w2.heap.size = ca at *
  refine (pick_any R bA bl bc p' 4 _ HP2.out.row (HBY.out.grown HP2.out.gr) hbl (by omega) (by omega) (by omega) (by omega)).mono ?_
  rintro e w4 ⟨v, rfl, hv0, hv1, hr4, hg4⟩
  have HP4 := Lib.hid (HP2.out.pick hg4 hr4)
  have HB4 := Lib.hid (HB2.out.grown hg4 (by intro x; injection x; omega))
  clear hr4 hg4 HP2 HB2
  go_upto_block 0 with fail
  go_cut [] (fun wx => ∃ (wz : World) (q : Int), wz = wx ∧ Hid (PD w wx R w.heap.size ca (.slice bA bl bc) q i nA gA oA nc gc oc ns gs os) ∧ Hid (SecondC wx w.heap.size ca (ca + 1)))
  case first =>
    have hcl := HB4.out.lt
    by_cases h0 : v = 0
    · subst h0
      go_wp2_with fail
      refine (circuit_any R bA bl bc (p' + 1) 16 _ HP4.out.row (HBY.out.grown HP4.out.gr) hbl (by omega) (by omega) (by omega) (by omega)).mono ?_
      rintro e w5 ⟨i', nA', gA', oA', nc', gc', oc', ns', gs', os', p5, rfl, hC, hn', hg', ho', hi0', hi1', hp2', hp3', hrow5, hgr, f1, f2, f3, hcap'⟩
      have HP5 := Lib.hid (HP4.out.pick hgr hrow5)
      have HB5 := Lib.hid (HB4.out.grown hgr (by intro x; injection x; omega))
      have HC5 := Lib.hid (CircIn.of hC f1 f2 f3)
      clear hC hrow5 hgr f1 f2 f3 HP4 HB4
      have q0 := HB5.out.cell 0
      have q1 := HB5.out.cell 1
      have q2 := HB5.out.cell 2
      have q3 := HB5.out.cell 3
      have g0 := HB5.out.frozen 0
      have g1 := HB5.out.frozen 1
      have g2 := HB5.out.frozen 2
      have g3 := HB5.out.frozen 3
      simp at q0 q1 q2 q3
      go_wp2
      go_meet
      have hC := (((HC5.out.low (c := ca + 1) hcl 0 (.int .i64 i')).low (c := ca + 1) hcl 1 (.slice nA' ns'.length nc')).low (c := ca + 1) hcl 2 (.slice gA' gs'.length gc')).low (c := ca + 1) hcl 3 (.slice oA' os'.length oc')
      have hD2 : w.heap.size + 2 ≤ w4.heap.size := by omega
      refine ⟨_, p5, rfl, Lib.hid ((((HP5.out.set (Nat.lt_succ_self ca) 0 _).set (Nat.lt_succ_self ca) 1 _).set (Nat.lt_succ_self ca) 2 _).set (Nat.lt_succ_self ca) 3 _), Lib.hid ⟨i', nA', gA', oA', nc', gc', oc', ns', gs', os', ?_, hC.at', fun b off e => Nat.le_trans hD2 (hC.f1 b off e), fun b off e => Nat.le_trans hD2 (hC.f2 b off e), fun b off e => Nat.le_trans hD2 (hC.f3 b off e), hn', hg', ho'⟩⟩
      have h := (((HB5.out.set 0 (.int .i64 i')).set 1 (.slice nA' ns'.length nc')).set 2 (.slice gA' gs'.length gc')).set 3 (.slice oA' os'.length oc')
      simpa using h
    · by_cases h1 : v = 1
      · subst h1
        have a0 := HP4.out.a.cell 0
        have a1 := HP4.out.a.cell 1
        have a2 := HP4.out.a.cell 2
        have a3 := HP4.out.a.cell 3
        simp at a0 a1 a2 a3
        go_wp2_with fail
        refine (spec_opt_fresh i nA gA oA nc gc oc ns gs os _ HP4.out.circ.at').mono ?_
        rintro e w5 ⟨i', nA', gA', oA', nc', gc', oc', ns', gs', os', rfl, hC, f1, f2, f3, hn', hg', ho', hb5⟩
        have HP5 := Lib.hid (HP4.out.below hb5)
        have HB5 := Lib.hid (HB4.out.below hb5 HB4.out.lt)
        have HC5 := Lib.hid (CircIn.of hC f1 f2 f3)
        clear hC hb5 f1 f2 f3 HP4 HB4 a0 a1 a2 a3
        have q0 := HB5.out.cell 0
        have q1 := HB5.out.cell 1
        have q2 := HB5.out.cell 2
        have q3 := HB5.out.cell 3
        have g0 := HB5.out.frozen 0
        have g1 := HB5.out.frozen 1
        have g2 := HB5.out.frozen 2
        have g3 := HB5.out.frozen 3
        simp at q0 q1 q2 q3
        go_wp2
        go_meet
        have hC := (((HC5.out.low (c := ca + 1) hcl 0 (.int .i64 i')).low (c := ca + 1) hcl 1 (.slice nA' ns'.length nc')).low (c := ca + 1) hcl 2 (.slice gA' gs'.length gc')).low (c := ca + 1) hcl 3 (.slice oA' os'.length oc')
        have hD2 : w.heap.size + 2 ≤ w4.heap.size := by omega
        refine ⟨_, p' + 1, rfl, Lib.hid ((((HP5.out.set (Nat.lt_succ_self ca) 0 _).set (Nat.lt_succ_self ca) 1 _).set (Nat.lt_succ_self ca) 2 _).set (Nat.lt_succ_self ca) 3 _), Lib.hid ⟨i', nA', gA', oA', nc', gc', oc', ns', gs', os', ?_, hC.at', fun b off e => Nat.le_trans hD2 (hC.f1 b off e), fun b off e => Nat.le_trans hD2 (hC.f2 b off e), fun b off e => Nat.le_trans hD2 (hC.f3 b off e), hn', hg', ho'⟩⟩
        have h := (((HB5.out.set 0 (.int .i64 i')).set 1 (.slice nA' ns'.length nc')).set 2 (.slice gA' gs'.length gc')).set 3 (.slice oA' os'.length oc')
        simpa using h
      · have hv2 : (v == 0) = false := by simpa using h0
        have hv3 : (v == 1) = false := by simpa using h1
        have hbE : Below w4.heap.size w4 (w4.alloc (.cells #[] 46)) := (Below.refl _ _).alloc (Nat.le_refl _) _
        have HPE := Lib.hid (HP4.out.below hbE)
        have HBE := Lib.hid (HB4.out.below hbE HB4.out.lt)
        have OE := Lib.hid (show (w4.alloc (.cells #[] 46)).ownsRow w4.heap.size 46 2 (.slice (some ⟨w4.heap.size, 0, none⟩) 0 0) 0 [] from by
          have h := World.ownsRow_lit (base := w4.heap.size) (e := 46) (size := 2) w4 #[] 0 (Nat.le_refl _) (by simp [maxLen]) (by simp)
          simpa using h)
        have GE := Lib.hid HPE.out.circ.at'.gates
        clear hbE HP4 HB4
        have a2 := HPE.out.a.cell 2
        simp at a2
        have hcan : ca ≠ w4.heap.size := by omega
        by_cases hgl : 0 < gs.length
        · go_wp2_with (at_builtin; refine wpList_append_src _ rfl (.tmp 12) (.tmp 14) 24 rfl w4.heap.size 46 i31 _ 2 16 Try.underlying24 HI31.out HZ31.out HS31.out HT31.out rfl (by omega) w4.heap.size 0 0 [] rfl OE.out gA gs.length gc (gvs gs) rfl (by rw [gvs_len]) (gates_src GE.out) (gvs_one _) (by simp [maxLen]; omega) (by omega) (by simp) _ rfl ?_; intro g1 cap1 w7 hown1 hgr1 hat1; have HP7 := Lib.hid (HPE.out.other hgr1 (fun k e => by injection e with e; omega)); have HB7 := Lib.hid (HBE.out.grown hgr1 (by intro x; injection x; omega)); have g1b : w4.heap.size ≤ g1 := (hown1.lt g1 rfl).1; simp only [Nat.zero_add, List.nil_append] at hown1; have O7 := Lib.hid hown1; have b2 := HB7.out.cell 2; have f2 := HB7.out.frozen 2; simp at b2; obtain ⟨cur1, hcur1⟩ := own_row hown1; have G7 := Lib.hid (own_gatesB hown1); have K7 := Lib.hid hcur1; clear hown1 hgr1 hat1 HPE HBE OE GE hcur1 O7)
          have HP8 := Lib.hid (HP7.out.set (Nat.lt_succ_self ca) 2 (.slice (some ⟨g1, 0, none⟩) gs.length cap1))
          have HB8 : Hid (PB (w7.setCell ⟨ca + 1, 2, none⟩ (.slice (some ⟨g1, 0, none⟩) gs.length cap1)) ca g1 cap1 i nA oA nc oc ns.length gs.length os.length gs) := Lib.hid ⟨by have h := HB7.out.set 2 (.slice (some ⟨g1, 0, none⟩) gs.length cap1); simpa using h, G7.out.grownR ((Only.refl (some (ca + 1)) w7).set 2 _).grown (fun b off e _ he => by injection e with e; injection e with e; injection he with he; omega), ⟨cur1, K7.out.far (p := ⟨ca + 1, 2, none⟩) (by show g1 ≠ ca + 1; omega) _⟩, by omega, rfl⟩
          clear HP7 HB7 G7 K7 b2 f2
          generalize w7.setCell ⟨ca + 1, 2, none⟩ (.slice (some ⟨g1, 0, none⟩) gs.length cap1) = w8 at *
          refine (pick_any R bA bl bc (p' + 1) gs.length _ HP8.out.row (HBY.out.grown HP8.out.gr) hbl (by omega) (by omega) (by omega) (by omega)).mono ?_
          rintro e w9 ⟨v9, rfl, hv90, hv91, hr9, hg9⟩
          have HP9 := Lib.hid (HP8.out.pick hg9 hr9)
          have HB9 := Lib.hid (HB8.out.grown hg9 (by intro x; injection x; omega) (by intro x; injection x; omega))
          obtain ⟨k, rfl⟩ := Int.eq_ofNat_of_zero_le hv90
          have hkl : k < gs.length := by omega
          clear hr9 hg9 HP8 HB8 hv90 hv91
          go_wp2_with fail
          refine (pick_any R bA bl bc (p' + 1 + 1) 2 _ HP9.out.row (HBY.out.grown HP9.out.gr) hbl (by omega) (by omega) (by omega) (by omega)).mono ?_
          rintro e w10 ⟨v10, rfl, hv100, hv101, hr10, hg10⟩
          have HP10 := Lib.hid (HP9.out.pick hg10 hr10)
          have HB10 := Lib.hid (HB9.out.grown hg10 (by intro x; injection x; omega) (by intro x; injection x; omega))
          clear hr10 hg10 HP9 HB9
          have b2 := HB10.out.row.cell 2
          simp at b2
          obtain ⟨x0, x1⟩ := HB10.out.cells hkl
          have f0 := HB10.out.frozen (k * 2)
          have f1 := HB10.out.frozen (k * 2 + 1)
          generalize (gs.getD k (0, 0)).1 = ga at *
          generalize (gs.getD k (0, 0)).2 = gb at *
          by_cases hz : v10 = 0
          · subst hz
            go_upto_region 8 with fail
            go_still_tail 12, (by kernel_rfl)
            have HP11 := Lib.hid HP10.out.drewn
            have HB11 := Lib.hid HB10.out.drewn
            clear HP10 HB10 b2 x0 x1 f0 f1
            change wpList _ _ _ _ _ w10.drew
            generalize w10.drew = w11 at *
            obtain ⟨x0, x1⟩ := HB11.out.cells hkl
            have f0 := HB11.out.frozen (k * 2)
            have f1 := HB11.out.frozen (k * 2 + 1)
            go_wp2
            go_meet
            exact ⟨_, _, rfl, Lib.hid (HP11.out.set (by omega) (k * 2) _), Lib.hid ((HB11.out.setA hkl _).second (HP11.out.set (by omega) (k * 2) _) hn hg ho)⟩
          · have hz1 : (v10 == 0) = false := by simpa using hz
            go_upto_region 9 with fail
            go_still_tail 17, (by kernel_rfl)
            have HP11 := Lib.hid HP10.out.drewn
            have HB11 := Lib.hid HB10.out.drewn
            clear HP10 HB10 b2 x0 x1 f0 f1
            change wpList _ _ _ _ _ w10.drew
            generalize w10.drew = w11 at *
            obtain ⟨x0, x1⟩ := HB11.out.cells hkl
            have f0 := HB11.out.frozen (k * 2)
            have f1 := HB11.out.frozen (k * 2 + 1)
            go_wp2
            go_meet
            have h2 := (HB11.out.setA hkl gb).setB hkl ga
            exact ⟨_, _, rfl, Lib.hid ((HP11.out.set (by omega) (k * 2) _).set (by omega) (k * 2 + 1) _), Lib.hid (h2.second ((HP11.out.set (by omega) (k * 2) _).set (by omega) (k * 2 + 1) _) hn hg ho)⟩
        · go_wp2_with (at_builtin; refine wpList_append_src _ rfl (.tmp 12) (.tmp 14) 24 rfl w4.heap.size 46 i31 _ 2 16 Try.underlying24 HI31.out HZ31.out HS31.out HT31.out rfl (by omega) w4.heap.size 0 0 [] rfl OE.out gA gs.length gc (gvs gs) rfl (by rw [gvs_len]) (gates_src GE.out) (gvs_one _) (by simp [maxLen]; omega) (by omega) (by simp) _ rfl ?_; intro g1 cap1 w7 hown1 hgr1 hat1; have HP7 := Lib.hid (HPE.out.other hgr1 (fun k e => by injection e with e; omega)); have HB7 := Lib.hid (HBE.out.grown hgr1 (by intro x; injection x; omega)); have g1b : w4.heap.size ≤ g1 := (hown1.lt g1 rfl).1; simp only [Nat.zero_add, List.nil_append] at hown1; have O7 := Lib.hid hown1; have b2 := HB7.out.cell 2; have f2 := HB7.out.frozen 2; simp at b2; obtain ⟨cur1, hcur1⟩ := own_row hown1; have G7 := Lib.hid (own_gatesB hown1); have K7 := Lib.hid hcur1; clear hown1 hgr1 hat1 HPE HBE OE GE hcur1 O7)
          have HP8 := Lib.hid (HP7.out.set (Nat.lt_succ_self ca) 2 (.slice (some ⟨g1, 0, none⟩) gs.length cap1))
          have HB8 : Hid (PB (w7.setCell ⟨ca + 1, 2, none⟩ (.slice (some ⟨g1, 0, none⟩) gs.length cap1)) ca g1 cap1 i nA oA nc oc ns.length gs.length os.length gs) := Lib.hid ⟨by have h := HB7.out.set 2 (.slice (some ⟨g1, 0, none⟩) gs.length cap1); simpa using h, G7.out.grownR ((Only.refl (some (ca + 1)) w7).set 2 _).grown (fun b off e _ he => by injection e with e; injection e with e; injection he with he; omega), ⟨cur1, K7.out.far (p := ⟨ca + 1, 2, none⟩) (by show g1 ≠ ca + 1; omega) _⟩, by omega, rfl⟩
          clear HP7 HB7 G7 K7 b2 f2
          go_meet
          exact ⟨_, p' + 1, rfl, HP8, Lib.hid (HB8.out.second HP8.out hn hg ho)⟩
  case rest =>
    obtain ⟨wx, q, hwx, HP, HS⟩ := hcut
    subst hwx
    obtain ⟨i', nA', gA', oA', nc', gc', oc', ns', gs', os', HRB, HCB, HF1, HF2, HF3, hn', hg', ho'⟩ : ∃ (i' : Int) (nA' gA' oA' : Option Addr) (nc' gc' oc' : Nat) (ns' : List Int) (gs' : List (Int × Int)) (os' : List Int), Hid (Row wx (ca + 1) 26 #[.int .i64 i', .slice nA' ns'.length nc', .slice gA' gs'.length gc', .slice oA' os'.length oc']) ∧ Hid (CircAt wx wx.heap.size nA' gA' oA' ns' gs' os') ∧ Hid (FreshA (w.heap.size + 2) nA') ∧ Hid (FreshA (w.heap.size + 2) gA') ∧ Hid (FreshA (w.heap.size + 2) oA') ∧ ns'.length ≤ 10 ∧ gs'.length ≤ 20 ∧ os'.length ≤ 10 := by
      obtain ⟨i', nA', gA', oA', nc', gc', oc', ns', gs', os', h1, h2, h3, h4, h5, h6, h7, h8⟩ := HS.out
      exact ⟨i', nA', gA', oA', nc', gc', oc', ns', gs', os', Lib.hid h1, Lib.hid h2, Lib.hid h3, Lib.hid h4, Lib.hid h5, h6, h7, h8⟩
    clear HS HP4 HB4
    have a0 := HP.out.a.cell 0
    have a1 := HP.out.a.cell 1
    have a2 := HP.out.a.cell 2
    have a3 := HP.out.a.cell 3
    have b0 := HRB.out.cell 0
    have b1 := HRB.out.cell 1
    have b2 := HRB.out.cell 2
    have b3 := HRB.out.cell 3
    have d0 := HP.out.d1.cell 0
    have d1 := HP.out.d1.cell 1
    have d2 := HP.out.d1.cell 2
    have d3 := HP.out.d1.cell 3
    have e0 := HP.out.d2.cell 0
    have e1 := HP.out.d2.cell 1
    have e2 := HP.out.d2.cell 2
    have e3 := HP.out.d2.cell 3
    have f0 := HP.out.d1.frozen 0
    have f1 := HP.out.d1.frozen 1
    have f2 := HP.out.d1.frozen 2
    have f3 := HP.out.d1.frozen 3
    have g0 := HP.out.d2.frozen 0
    have g1 := HP.out.d2.frozen 1
    have g2 := HP.out.d2.frozen 2
    have g3 := HP.out.d2.frozen 3
    simp at a0 a1 a2 a3 b0 b1 b2 b3 d0 d1 d2 d3 e0 e1 e2 e3
    have hn1 : w.heap.size ≠ ca := by omega
    have hn2 : w.heap.size ≠ ca + 1 := by omega
    have hn3 : w.heap.size + 1 ≠ ca := by omega
    have hn4 : w.heap.size + 1 ≠ ca + 1 := by omega
    go_upto_region 14 with fail
    go_region_held3 (fun w' => (w'.cell? ⟨ca, 0, none⟩ = some (.int .i64 i) ∧ w'.cell? ⟨ca, 1, none⟩ = some (.slice nA ns.length nc) ∧ w'.cell? ⟨ca, 2, none⟩ = some (.slice gA gs.length gc) ∧ w'.cell? ⟨ca, 3, none⟩ = some (.slice oA os.length oc)) ∧ w'.cell? ⟨ca + 1, 0, none⟩ = some (.int .i64 i') ∧ w'.cell? ⟨ca + 1, 1, none⟩ = some (.slice nA' ns'.length nc') ∧ w'.cell? ⟨ca + 1, 2, none⟩ = some (.slice gA' gs'.length gc') ∧ w'.cell? ⟨ca + 1, 3, none⟩ = some (.slice oA' os'.length oc'))
      (first | go_keep | (exact eightP hn1 hn2 (eightP hn1 hn2 (eightP hn1 hn2 (eightP hn1 hn2 (by assumption))))) | (exact eightP hn3 hn4 (eightP hn3 hn4 (eightP hn3 hn4 (eightP hn3 hn4 (by assumption))))))
      (fail)
    go_wp2
    have hA : CircAt ((((((((wx.setCell ⟨w.heap.size, 0, none⟩ (.int .i64 i)).setCell ⟨w.heap.size, 1, none⟩ (.slice nA ns.length nc)).setCell ⟨w.heap.size, 2, none⟩ (.slice gA gs.length gc)).setCell ⟨w.heap.size, 3, none⟩ (.slice oA os.length oc)).setCell ⟨w.heap.size + 1, 0, none⟩ (.int .i64 i')).setCell ⟨w.heap.size + 1, 1, none⟩ (.slice nA' ns'.length nc')).setCell ⟨w.heap.size + 1, 2, none⟩ (.slice gA' gs'.length gc')).setCell ⟨w.heap.size + 1, 3, none⟩ (.slice oA' os'.length oc')).drew ((((((((wx.setCell ⟨w.heap.size, 0, none⟩ (.int .i64 i)).setCell ⟨w.heap.size, 1, none⟩ (.slice nA ns.length nc)).setCell ⟨w.heap.size, 2, none⟩ (.slice gA gs.length gc)).setCell ⟨w.heap.size, 3, none⟩ (.slice oA os.length oc)).setCell ⟨w.heap.size + 1, 0, none⟩ (.int .i64 i')).setCell ⟨w.heap.size + 1, 1, none⟩ (.slice nA' ns'.length nc')).setCell ⟨w.heap.size + 1, 2, none⟩ (.slice gA' gs'.length gc')).setCell ⟨w.heap.size + 1, 3, none⟩ (.slice oA' os'.length oc')).drew.heap.size nA gA oA ns gs os := (HP.out.circ.low8 _ _ _ _ _ _ _ _).drewn
    have hB : CircAt ((((((((wx.setCell ⟨w.heap.size, 0, none⟩ (.int .i64 i)).setCell ⟨w.heap.size, 1, none⟩ (.slice nA ns.length nc)).setCell ⟨w.heap.size, 2, none⟩ (.slice gA gs.length gc)).setCell ⟨w.heap.size, 3, none⟩ (.slice oA os.length oc)).setCell ⟨w.heap.size + 1, 0, none⟩ (.int .i64 i')).setCell ⟨w.heap.size + 1, 1, none⟩ (.slice nA' ns'.length nc')).setCell ⟨w.heap.size + 1, 2, none⟩ (.slice gA' gs'.length gc')).setCell ⟨w.heap.size + 1, 3, none⟩ (.slice oA' os'.length oc')).drew ((((((((wx.setCell ⟨w.heap.size, 0, none⟩ (.int .i64 i)).setCell ⟨w.heap.size, 1, none⟩ (.slice nA ns.length nc)).setCell ⟨w.heap.size, 2, none⟩ (.slice gA gs.length gc)).setCell ⟨w.heap.size, 3, none⟩ (.slice oA os.length oc)).setCell ⟨w.heap.size + 1, 0, none⟩ (.int .i64 i')).setCell ⟨w.heap.size + 1, 1, none⟩ (.slice nA' ns'.length nc')).setCell ⟨w.heap.size + 1, 2, none⟩ (.slice gA' gs'.length gc')).setCell ⟨w.heap.size + 1, 3, none⟩ (.slice oA' os'.length oc')).drew.heap.size nA' gA' oA' ns' gs' os' := ((CircIn.of HCB.out HF1.out HF2.out HF3.out).low8 _ _ _ _ _ _ _ _).drewn
    have hG : w.grownBy ((((((((wx.setCell ⟨w.heap.size, 0, none⟩ (.int .i64 i)).setCell ⟨w.heap.size, 1, none⟩ (.slice nA ns.length nc)).setCell ⟨w.heap.size, 2, none⟩ (.slice gA gs.length gc)).setCell ⟨w.heap.size, 3, none⟩ (.slice oA os.length oc)).setCell ⟨w.heap.size + 1, 0, none⟩ (.int .i64 i')).setCell ⟨w.heap.size + 1, 1, none⟩ (.slice nA' ns'.length nc')).setCell ⟨w.heap.size + 1, 2, none⟩ (.slice gA' gs'.length gc')).setCell ⟨w.heap.size + 1, 3, none⟩ (.slice oA' os'.length oc')).drew (some R) := gb_drew (gb_trans (gb_trans (gb_trans (gb_trans (gb_trans (gb_trans (gb_trans (gb_trans HP.out.gr ((Only.refl (some w.heap.size) _).set 0 (.int .i64 i)).grown (fun k e => by injection e with e; right; omega)) ((Only.refl (some w.heap.size) _).set 1 (.slice nA ns.length nc)).grown (fun k e => by injection e with e; right; omega)) ((Only.refl (some w.heap.size) _).set 2 (.slice gA gs.length gc)).grown (fun k e => by injection e with e; right; omega)) ((Only.refl (some w.heap.size) _).set 3 (.slice oA os.length oc)).grown (fun k e => by injection e with e; right; omega)) ((Only.refl (some (w.heap.size + 1)) _).set 0 (.int .i64 i')).grown (fun k e => by injection e with e; right; omega)) ((Only.refl (some (w.heap.size + 1)) _).set 1 (.slice nA' ns'.length nc')).grown (fun k e => by injection e with e; right; omega)) ((Only.refl (some (w.heap.size + 1)) _).set 2 (.slice gA' gs'.length gc')).grown (fun k e => by injection e with e; right; omega)) ((Only.refl (some (w.heap.size + 1)) _).set 3 (.slice oA' os'.length oc')).grown (fun k e => by injection e with e; right; omega))
    obtain ⟨rD, rE⟩ := HP.out.d1.res8 HP.out.d2 (.int .i64 i) (.slice nA ns.length nc) (.slice gA gs.length gc) (.slice oA os.length oc) (.int .i64 i') (.slice nA' ns'.length nc') (.slice gA' gs'.length gc') (.slice oA' os'.length oc')
    generalize ((((((((wx.setCell ⟨w.heap.size, 0, none⟩ (.int .i64 i)).setCell ⟨w.heap.size, 1, none⟩ (.slice nA ns.length nc)).setCell ⟨w.heap.size, 2, none⟩ (.slice gA gs.length gc)).setCell ⟨w.heap.size, 3, none⟩ (.slice oA os.length oc)).setCell ⟨w.heap.size + 1, 0, none⟩ (.int .i64 i')).setCell ⟨w.heap.size + 1, 1, none⟩ (.slice nA' ns'.length nc')).setCell ⟨w.heap.size + 1, 2, none⟩ (.slice gA' gs'.length gc')).setCell ⟨w.heap.size + 1, 3, none⟩ (.slice oA' os'.length oc')).drew = W at *
    have c0 := rD.cell 0
    have c1 := rD.cell 1
    have c2 := rD.cell 2
    have c3 := rD.cell 3
    have x0 := rE.cell 0
    have x1 := rE.cell 1
    have x2 := rE.cell 2
    have x3 := rE.cell 3
    simp at c0 c1 c2 c3 x0 x1 x2 x3
    exact bodyPost_ret (v := .tuple #[.agg #[.int .i64 i, .slice nA ns.length nc, .slice gA gs.length gc, .slice oA os.length oc], .agg #[.int .i64 i', .slice nA' ns'.length nc', .slice gA' gs'.length gc', .slice oA' os'.length oc']]) (by simp [results, Try.results63, go_sem, c0, c1, c2, c3, x0, x1, x2, x3]) rfl ⟨i, nA, gA, oA, nc, gc, oc, ns, gs, os, i', nA', gA', oA', nc', gc', oc', ns', gs', os', rfl, hA, hB, hn, hg, ho, hn', hg', ho', hG, ⟨(fun b off e => by have := HP.out.circ.f1 b off e; omega), (fun b off e => by have := HP.out.circ.f2 b off e; omega), (fun b off e => by have := HP.out.circ.f3 b off e; omega)⟩, (fun b off e => by have := HF1.out b off e; omega), (fun b off e => by have := HF2.out b off e; omega), (fun b off e => by have := HF3.out b off e; omega)⟩
end Go.Proofs.Ythpiddpkcmecfaa
