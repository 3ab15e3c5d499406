/- What the contract of the model's rebuilding needs. -/
import Derived.Test.YthpiddpkcmecfaaU5
import Derived.Test.YthpiddpkcmecfaaR5a
import Derived.Deep.RegionLaw
import Derived.Deep.DeepCutAuto
import Derived.Deep.LoopGhost
import Derived.Deep.CutBlock
namespace Go.Proofs.Ythpiddpkcmecfaa
open Go.RowKit Go.Deep Go.Maps Go.WideMaps
set_option maxRecDepth 100000


def SBOut (w : World) (i : Int) (nl ol : Nat) (r : Opt.C) (e : Ending) (w' : World) : Prop :=
  ∃ (nA gA oA : Option Addr) (nc gc oc : Nat), e = .returned (.agg #[.int .i64 i, .slice nA nl nc, .slice gA r.gs.length gc, .slice oA ol oc]) ∧ CircAt w' w'.heap.size nA gA oA (Opt.intL r.ns) (Opt.intG r.gs) (Opt.intL r.os) ∧ FreshA w.heap.size nA ∧ FreshA w.heap.size gA ∧ FreshA w.heap.size oA ∧ Below w.heap.size w w'

theorem cells_alloc {w1 w2 : World} {B H : Nat} {v0 v1 : Value} (hb : Below B w1 w2) (hH : H < B) (hs : B ≤ w2.heap.size) (q0 : w1.cell? ⟨H, 0, none⟩ = some v0) (q1 : w1.cell? ⟨H, 1, none⟩ = some v1) (o : Obj) :
    (w2.alloc o).cell? ⟨H, 0, none⟩ = some v0 ∧ (w2.alloc o).cell? ⟨H, 1, none⟩ = some v1 :=
  ⟨(World.cell?_alloc_lt w2 o ⟨H, 0, none⟩ (show H < w2.heap.size by omega)).trans ((hb.cell (p := ⟨H, 0, none⟩) hH).trans q0), (World.cell?_alloc_lt w2 o ⟨H, 1, none⟩ (show H < w2.heap.size by omega)).trans ((hb.cell (p := ⟨H, 1, none⟩) hH).trans q1)⟩

theorem cells_set {w1 w2 : World} {B H X : Nat} {v0 v1 a b c d : Value} (hb : Below B w1 w2) (hH : H < B) (hX : B ≤ X) (q0 : w1.cell? ⟨H, 0, none⟩ = some v0) (q1 : w1.cell? ⟨H, 1, none⟩ = some v1) :
    ((((w2.setCell ⟨X, 0, none⟩ a).setCell ⟨X, 1, none⟩ b).setCell ⟨X, 2, none⟩ c).setCell ⟨X, 3, none⟩ d).cell? ⟨H, 0, none⟩ = some v0 ∧ ((((w2.setCell ⟨X, 0, none⟩ a).setCell ⟨X, 1, none⟩ b).setCell ⟨X, 2, none⟩ c).setCell ⟨X, 3, none⟩ d).cell? ⟨H, 1, none⟩ = some v1 := by
  have hbb : Below B w1 ((((w2.setCell ⟨X, 0, none⟩ a).setCell ⟨X, 1, none⟩ b).setCell ⟨X, 2, none⟩ c).setCell ⟨X, 3, none⟩ d) := by
    refine Below.setCell (Below.setCell (Below.setCell (Below.setCell hb ?_ _) ?_ _) ?_ _) ?_ _ <;> exact hX
  exact ⟨(hbb.cell (p := ⟨H, 0, none⟩) hH).trans q0, (hbb.cell (p := ⟨H, 1, none⟩) hH).trans q1⟩
theorem built_f_bd {f : Nat} {gs : List (Opt.G × Bool)} (k : Nat) (hk : k ≤ gs.length) : (∀ v, (Opt.built false f (gs.take k)).2.getD v 0 < 2 * (f + k) + 2) ∧ (Opt.built false f (gs.take k)).1.length ≤ k := by
  induction k with
  | zero =>
    refine ⟨fun v => ?_, by simp [Opt.built]⟩
    show (Opt.evens f).getD v 0 < _
    by_cases hv : v < f
    · rw [Opt.evens_get hv]; omega
    · rw [List.getD_eq_getElem?_getD, List.getElem?_eq_none (by rw [Opt.evens_len]; omega)]
      simp
  | succ k ih =>
    obtain ⟨h1, h2⟩ := ih (by omega)
    have hl := built_len (f := f) (gs := gs) false k (by omega)
    rw [Opt.built_snoc _ _ _ _ (by omega)]
    have app : ∀ z, z < 2 * (f + (k + 1)) + 2 → ∀ v, ((Opt.built false f (gs.take k)).2 ++ [z]).getD v 0 < 2 * (f + (k + 1)) + 2 := fun z hz v => by
      by_cases hv : v < (Opt.built false f (gs.take k)).2.length
      · rw [Opt.getD_app_lt hv]
        have := h1 v
        omega
      · by_cases he : v = (Opt.built false f (gs.take k)).2.length
        · subst he
          rw [Opt.getD_app_eq]; exact hz
        · rw [List.getD_eq_getElem?_getD, List.getElem?_eq_none (by simp; omega)]
          simp
    unfold Opt.bstep
    split
    · rw [if_neg (by simp)]
      exact ⟨app _ (by omega), by simp; omega⟩
    · exact ⟨app 0 (by omega), by simp only []; omega⟩
/-- The circuit that is being rebuilt, at its beginning. -/
structure SI (w0 w : World) (B X U g1 cap1 nl : Nat) (i : Int) (u : List Bool) (ns : List Nat) : Prop where
  cir : Row w X 26 #[.int .i64 i, .slice (some ⟨g1, 0, none⟩) nl cap1, .slice none 0 0, .slice none 0 0]
  us : BRow w U u
  next : w.ownsRow B 3 1 (.slice (some ⟨g1, 0, none⟩) nl cap1) nl (ivs (Opt.intL ns))
  low : Below B w0 w
  XB : B ≤ X
  UB : B ≤ U
  sz : B ≤ w.heap.size
theorem SI.start {w0 w : World} {B X U g1 cap1 nl : Nat} {i : Int} {u : List Bool} {ns : List Nat} (h : SI w0 w B X U g1 cap1 nl i u ns) (hn : ns.length = nl) :
    SB w0 (w.alloc (.cells #[] 3)) B X U i (.slice (some ⟨g1, 0, none⟩) nl cap1) (.slice none 0 0) (.slice none 0 0) (.slice (some ⟨w.heap.size, 0, none⟩) 0 0) u ns [] [] [] := by
  have hOM := World.ownsRow_lit (base := B) (e := 3) (size := 1) w #[] 0 h.sz (by simp [maxLen]) (by simp)
  have hlt := (h.next.lt g1 rfl).2
  subst hn
  have ha : Below w.heap.size w (w.alloc (.cells #[] 3)) := (Below.refl _ _).alloc (Nat.le_refl _) _
  exact ⟨h.cir.alloc _, h.us.below ha h.us.lt, h.next.alloc _, World.ownsRow_nil _ _ _ _, World.ownsRow_nil _ _ _ _, hOM, .inr (by simp [Value.ownBlock]; omega), .inr (by simp [Value.ownBlock]), .inl rfl, h.low.alloc h.sz _, h.XB, h.UB, by have := h.sz; simp; omega⟩
theorem SI.ofAlloc {w0 w1 w2 : World} {B U g1 cap1 nl : Nat} {i : Int} {u : List Bool} {ns : List Nat} (hL : Below B w0 w1) (hU : BRow w1 U u) (hz : B ≤ w1.heap.size) (hb : Below w1.heap.size w1 w2) (ho : w2.ownsRow w1.heap.size 3 1 (.slice (some ⟨g1, 0, none⟩) nl cap1) nl (ivs (Opt.intL ns))) (hUB : B ≤ U) :
    SI w0 (w2.alloc (.cells #[.int .i64 i, .slice (some ⟨g1, 0, none⟩) nl cap1, .slice none 0 0, .slice none 0 0] 26)) B w2.heap.size U g1 cap1 nl i u ns := by
  have hs := hb.size
  have ha : Below w2.heap.size w2 (w2.alloc (.cells #[.int .i64 i, .slice (some ⟨g1, 0, none⟩) nl cap1, .slice none 0 0, .slice none 0 0] 26)) := (Below.refl _ _).alloc (Nat.le_refl _) _
  have hU2 := hU.below hb hU.lt
  exact ⟨heap_alloc_new w2 _, hU2.below ha hU2.lt, own_mono' (ho.alloc _) hz, (hL.trans (hb.mono hz)).alloc (by omega) _, by omega, hUB, by simp; omega⟩
theorem SI.ofSet {w0 w1 w2 : World} {B X U g1 cap1 nl : Nat} {i : Int} {u : List Bool} {ns : List Nat} (hL : Below B w0 w1) (hU : BRow w1 U u) (hz : B ≤ w1.heap.size) (hb : Below w1.heap.size w1 w2) (ho : w2.ownsRow w1.heap.size 3 1 (.slice (some ⟨g1, 0, none⟩) nl cap1) nl (ivs (Opt.intL ns))) (hUB : B ≤ U)
    (hX : Row w2 X 26 #[.int .i64 0, .slice none 0 0, .slice none 0 0, .slice none 0 0]) (hXB : w1.heap.size ≤ X) :
    SI w0 ((((w2.setCell ⟨X, 0, none⟩ (.int .i64 i)).setCell ⟨X, 1, none⟩ (.slice (some ⟨g1, 0, none⟩) nl cap1)).setCell ⟨X, 2, none⟩ (.slice none 0 0)).setCell ⟨X, 3, none⟩ (.slice none 0 0)) B X U g1 cap1 nl i u ns := by
  have hs := hb.size
  have hq := (((hX.set 0 (.int .i64 i)).set 1 (.slice (some ⟨g1, 0, none⟩) nl cap1)).set 2 (.slice none 0 0)).set 3 (.slice none 0 0)
  simp at hq
  have hbb : Below w1.heap.size w1 ((((w2.setCell ⟨X, 0, none⟩ (.int .i64 i)).setCell ⟨X, 1, none⟩ (.slice (some ⟨g1, 0, none⟩) nl cap1)).setCell ⟨X, 2, none⟩ (.slice none 0 0)).setCell ⟨X, 3, none⟩ (.slice none 0 0)) := by
    refine Below.setCell (Below.setCell (Below.setCell (Below.setCell hb ?_ _) ?_ _) ?_ _) ?_ _ <;> exact hXB
  refine ⟨hq, hU.below hbb hU.lt, ?_, hL.trans (hbb.mono hz), by omega, hUB, by simp [World.setCell]; omega⟩
  have r0 := own_setX (j := 0) ho hX (by decide) (.int .i64 i)
  have h0 := hX.set 0 (.int .i64 i)
  have r1 := own_setX (j := 1) r0 h0 (by decide) (.slice (some ⟨g1, 0, none⟩) nl cap1)
  have h1 := h0.set 1 (.slice (some ⟨g1, 0, none⟩) nl cap1)
  have r2 := own_setX (j := 2) r1 h1 (by decide) (.slice none 0 0)
  have h2 := h1.set 2 (.slice none 0 0)
  exact own_mono' (own_setX (j := 3) r2 h2 (by decide) (.slice none 0 0)) hz

theorem SB.growO {w0 w : World} {B X U : Nat} {i : Int} {vN vG vO vM : Value} {u : List Bool} {ns : List Nat} {gs : List Opt.G} {os m : List Nat} (h : SB w0 w B X U i vN vG vO vM u ns gs os m) {w' : World} (hg : w.grownBy w' vO.ownBlock) : Row w' X 26 #[.int .i64 i, vN, vG, vO] ∧ Below B w0 w' :=
  ⟨h.cir.grown hg (own_ne88 h.cir h.outs), low_grown h.low hg h.sz (fun k e => (h.outs.lt k e).1)⟩

end Go.Proofs.Ythpiddpkcmecfaa
