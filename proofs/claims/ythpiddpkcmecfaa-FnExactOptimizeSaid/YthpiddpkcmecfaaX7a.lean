/- What the exact law of Optimize needs: comparison, and what marks leave alone. -/
import Derived.Test.YthpiddpkcmecfaaE6
import Derived.Test.YthpiddpkcmecfaaE3
import Derived.Test.YthpiddpkcmecfaaW6
namespace Go.Proofs.Ythpiddpkcmecfaa
open Go.RowKit Go.Deep
set_option maxRecDepth 100000

theorem eqCircuit_len (i : Int) (nA gA oA nA' gA' oA' : Option Addr) (nl nc gl gc ol oc nc' gc' oc' : Nat) (ns : List Int) (gs : List (Int × Int)) (os : List Int) (w : World) (hc : CircAt w w.heap.size nA gA oA ns gs os)
    (hd : CircAt w w.heap.size nA' gA' oA' ns gs os) (hn : ns.length = nl) (hg : gs.length = gl) (ho : os.length = ol) (hnl : nl ≤ 2000000) (hgl : gl ≤ 2000000) (hol : ol ≤ 2000000) :
    Calls Try.prog 39 #[.agg #[.int .i64 i, .slice nA nl nc, .slice gA gl gc, .slice oA ol oc], .agg #[.int .i64 i, .slice nA' nl nc', .slice gA' gl gc', .slice oA' ol oc']] w fun e w' => e = .returned (.bool true) ∧ Below w.heap.size w w' := by
  subst hn hg ho
  exact eqCircuit_any i nA gA oA nA' gA' oA' nc gc oc nc' gc' oc' ns gs os w hc hd hnl hgl hol
theorem Mid.circAt {lo hi B : Nat} {w w' : World} (h : Mid lo hi w w') {nA gA oA : Option Addr} {ns : List Int} {gs : List (Int × Int)} {os : List Int} (hr : CircAt w B nA gA oA ns gs os) (hB : B ≤ lo) (hs : lo ≤ w.heap.size) : CircAt w' B nA gA oA ns gs os := hr.below ((h.below hs).mono hB)
/-- A row of one's own at or beyond hi stays. -/
theorem Mid.own {lo hi base e size n : Nat} {w w' : World} {v : Value} {xs : List Value} (h : Mid lo hi w w') (ho : w.ownsRow base e size v n xs) (hb : hi ≤ base) : w'.ownsRow base e size v n xs := by
  refine ⟨ho.1, ?_⟩
  rcases ho.2 with h1 | ⟨g, cap, cur, e1, h2, h3, h4⟩
  · exact .inl h1
  · exact .inr ⟨g, cap, cur, e1, h2, (h.block g (ho.lt g (by rw [e1]; rfl)).2 (.inr (by omega))).trans h3, h4⟩
theorem Mid.ownC {lo hi g1 g3 : Nat} {w w' : World} {vG : Value} {c : Opt.C} (h : Mid lo hi w w') (ho : Own w hi g1 g3 vG c) : Own w' hi g1 g3 vG c := by
  have h1 := ho.b1
  have h3 := ho.b3
  obtain ⟨cs1, r1, f1⟩ := ho.next
  obtain ⟨cs3, r3, f3⟩ := ho.outs
  exact ⟨⟨cs1, h.row r1 (by omega), f1⟩, h.own ho.gates (Nat.le_refl _), ⟨cs3, h.row r3 (by omega), f3⟩, h1, h3⟩
theorem Own.on {w w' : World} {B g1 g3 : Nat} {vG : Value} {c : Opt.C} (h : Own w B g1 g3 vG c) (hb : Below w.heap.size w w') : Own w' B g1 g3 vG c :=
  ⟨h.next.below hb h.next.lt, own_below' h.gates hb, h.outs.below hb h.outs.lt, h.b1, h.b3⟩
theorem Own.top {w : World} {B g1 g3 : Nat} {vG : Value} {c : Opt.C} (h : Own w B g1 g3 vG c) : g3 < w.heap.size ∧ ∀ g, vG.ownBlock = some g → g < w.heap.size := ⟨h.outs.lt, fun g e => (h.gates.lt g e).2⟩
theorem Own.at {w : World} {B g1 g3 gl cap : Nat} {A : Option Addr} {c : Opt.C} (h : Own w B g1 g3 (.slice A gl cap) c) (hg : c.gs.length = gl) (h1 : c.ns.length ≤ 1000) (h2 : c.gs.length ≤ 1000) (h3 : c.os.length ≤ 1000) :
    CircAt w w.heap.size (some ⟨g1, 0, none⟩) A (some ⟨g3, 0, none⟩) (Opt.intL c.ns) (Opt.intG c.gs) (Opt.intL c.os) := by
  obtain ⟨A', cap', e, hC⟩ := h.circ (by unfold maxLen; omega) (by unfold maxLen; omega) (by unfold maxLen; omega)
  injection e with e
  subst e
  exact hC

theorem eqZero_any (w : World) : Calls Try.prog 39 #[.agg #[.int .i64 0, .slice none 0 0, .slice none 0 0, .slice none 0 0], .agg #[.int .i64 0, .slice none 0 0, .slice none 0 0, .slice none 0 0]] w fun e w' => e = .returned (.bool true) ∧ Below w.heap.size w w' :=
  eqCircuit_any 0 none none none none none none 0 0 0 0 0 0 [] [] [] w ⟨fun k hk => absurd hk (by simp), fun k hk => absurd hk (by simp), fun k hk => absurd hk (by simp), by simp, by simp, by simp⟩ ⟨fun k hk => absurd hk (by simp), fun k hk => absurd hk (by simp), fun k hk => absurd hk (by simp), by simp, by simp, by simp⟩ (by simp) (by simp) (by simp)

end Go.Proofs.Ythpiddpkcmecfaa
