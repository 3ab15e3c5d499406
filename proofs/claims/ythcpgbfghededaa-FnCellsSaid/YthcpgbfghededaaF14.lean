/- The contract of determined. -/
import Derived.Test.YthcpgbfghededaaC5
import Derived.Test.YthcpgbfghededaaQD
import Derived.Test.YthcpgbfghededaaB9
import Derived.Test.YthcpgbfghededaaY2
import Derived.Deep.DeepCutAuto
import Derived.Deep.CutBlock
namespace Go.Proofs.Ythcpgbfghededaa
open Go.RowKit Go.Deep Cut

theorem evalVars_n (i : Int) (nA gA oA sA iA : Option Addr) (nc gc oc sc ic nl ml : Nat) (ns : List Int) (gs : List (Int × Int)) (os : List Int) (st ins : List Bool) (w : World) (hc : CircAt w w.heap.size nA gA oA ns gs os)
    (hs : BoolsAt w w.heap.size sA st) (hin : BoolsAt w w.heap.size iA ins) (hsl : st.length = nl) (hil : ins.length = ml) (hv : assignB i ns gs os nl ml = true) :
    Calls Try.prog 18 #[.agg #[.int .i64 i, .slice nA ns.length nc, .slice gA gs.length gc, .slice oA os.length oc], .slice sA nl sc, .slice iA ml ic] w fun e w' =>
      ∃ g : Nat, e = .returned (.slice (some ⟨g, 0, none⟩) (Circ.valsOf gs st ins).length (Circ.valsOf gs st ins).length) ∧ w.heap.size ≤ g ∧ BRow w' g (Circ.valsOf gs st ins) ∧ Below w.heap.size w w' := by
  subst hsl hil
  exact evalVars_t i nA gA oA sA iA nc gc oc sc ic ns gs os st ins w hc hs hin hv
/-- What the cells of 'seen' say. -/
def SeenC (T : List Bool → Bool) (n : Nat) (cs : Array Value) : Prop := cs.size = 2 ^ n ∧ ∀ a, a < 2 ^ n → ∃ s : Nat, cs[a]? = some (.int .i64 (s : Int)) ∧ (s = 0 ∨ ∃ bs : List Bool, bs.length = n ∧ num bs = a ∧ s = if T bs then 2 else 1)
theorem SeenC.at {T : List Bool → Bool} {n : Nat} {cs : Array Value} (h : SeenC T n cs) {bs : List Bool} (hb : bs.length = n) : ∃ s : Nat, cs[num bs]? = some (.int .i64 (s : Int)) ∧ (s = 0 ∨ s = if T bs then 2 else 1) := by
  obtain ⟨s, h1, h2⟩ := h.2 (num bs) (by rw [← hb]; exact num_lt bs)
  refine ⟨s, h1, ?_⟩
  rcases h2 with h2 | ⟨bs', h3, h4, h5⟩
  · exact .inl h2
  · rw [num_inj (by rw [h3, hb]) h4] at h5
    exact .inr h5
theorem SeenC.set {T : List Bool → Bool} {n : Nat} {cs : Array Value} (h : SeenC T n cs) {bs : List Bool} (hb : bs.length = n) {s : Nat} (hs : s = if T bs then 2 else 1) : SeenC T n (cs.setIfInBounds (num bs) (.int .i64 (s : Int))) := by
  refine ⟨by simpa using h.1, fun a ha => ?_⟩
  by_cases e : num bs = a
  · subst e
    refine ⟨s, ?_, .inr ⟨bs, hb, rfl, hs⟩⟩
    have := h.1
    rw [Array.getElem?_setIfInBounds, if_pos rfl, if_pos (by omega)]
  · rw [Array.getElem?_setIfInBounds_ne e]
    exact h.2 a ha
theorem evalVars_k (m Z : Nat) (nA gA oA sA iA : Option Addr) (nc gc oc sc ic : Nat) (ns : List Int) (gs : List (Int × Int)) (os : List Int) (st ins : List Bool) (w : World) (hsl : st.length = ns.length) (hil : ins.length = m) (hv : Circ.validB (m : Int) ns gs os = true) (hz : Z = 1 + m + ns.length + gs.length) (hc : CircAt w w.heap.size nA gA oA ns gs os)
    (hs : BoolsAt w w.heap.size sA st) (hin : BoolsAt w w.heap.size iA ins) :
    Calls Try.prog 18 #[.agg #[.int .i64 (m : Int), .slice nA ns.length nc, .slice gA gs.length gc, .slice oA os.length oc], .slice sA ns.length sc, .slice iA m ic] w fun e w' =>
      ∃ g : Nat, e = .returned (.slice (some ⟨g, 0, none⟩) Z Z) ∧ w.heap.size ≤ g ∧ BRow w' g (Circ.valsOf gs st ins) ∧ Below w.heap.size w w' := by
  subst hz
  have h := evalVars_n (m : Int) nA gA oA sA iA nc gc oc sc ic ns.length m ns gs os st ins w hc hs hin hsl hil (by unfold assignB; rw [hv]; simp)
  rw [Circ.valsOf_len, hsl, hil] at h
  exact h
theorem four_on {w w' : World} {cc : Nat} {a0 a1 a2 a3 : Value} (hb : Below w.heap.size w w')
    (h : w.cell? ⟨cc, 0, none⟩ = some a0 ∧ w.cell? ⟨cc, 1, none⟩ = some a1 ∧ w.cell? ⟨cc, 2, none⟩ = some a2 ∧ w.cell? ⟨cc, 3, none⟩ = some a3) :
    w'.cell? ⟨cc, 0, none⟩ = some a0 ∧ w'.cell? ⟨cc, 1, none⟩ = some a1 ∧ w'.cell? ⟨cc, 2, none⟩ = some a2 ∧ w'.cell? ⟨cc, 3, none⟩ = some a3 := by
  have k : ∀ (a : Addr) (u : Value), w.cell? a = some u → w'.cell? a = some u := fun a u h => (hb.cell (World.block_lt_of_cell? w a h)).trans h
  exact ⟨k _ _ h.1, k _ _ h.2.1, k _ _ h.2.2.1, k _ _ h.2.2.2⟩
theorem map_take_snoc (x : List Nat) (val : Nat → Bool) (k : Nat) (hk : k < x.length) : (x.take (k + 1)).map val = (x.take k).map val ++ [val (x.getD k 0)] := by
  rw [take_succ_getD x k 0 hk, List.map_append]; rfl

end Go.Proofs.Ythcpgbfghededaa
