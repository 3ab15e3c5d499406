/- The walk of the law FnCuts. -/
import Derived.Test.YtgllpnilnaggeaaF14
import Derived.Test.YtgllpnilnaggeaaR7
import Derived.Test.YtgllpnilnaggeaaYs
import Derived.Test.YtgllpnilnaggeaaZa
import Derived.Test.YtgllpnilnaggeaaCD
import Derived.Deep.DeepCutAuto
import Derived.Deep.CutBlock
namespace Go.Proofs.Ytgllpnilnaggeaa
open Go.RowKit Go.Deep Cut
set_option maxRecDepth 100000

theorem AllAt.cutsN {w : World} {B g cap : Nat} {cs : List Cs} {HH : List (List Value)} (h : AllAt w B cs HH g cap) : CutsAt w w.heap.size (some ⟨g, 0, none⟩) cs := by
  have hg := h.gb
  obtain ⟨hs, h1, h2⟩ := h
  exact own_cuts h1 h2 (fun b hb => hb.2.1) hg.2
theorem ListIn.at3 {w : World} {S : Nat → Prop} {A : Option Addr} {xs : Cs} {B : Nat} (h : ListIn w S A xs) (hS : ∀ b, S b → b < B) : ListAt w B A xs := h.kept (fun _ _ => rfl) hS
/-- All cuts, if the circuit is valid. -/
def cutsV (i : Int) (ns : List Int) (gs : List (Int × Int)) (os : List Int) : List Cs := if Circ.validB i ns gs os = true then cuts (Opt.fst i ns) (Opt.natG gs) else []
theorem icuts_any (i : Int) (nA gA oA : Option Addr) (nc gc oc : Nat) (ns : List Int) (gs : List (Int × Int)) (os : List Int) (w : World) (hc : CircAt w w.heap.size nA gA oA ns gs os) :
    Calls Try.prog 10 #[.agg #[.int .i64 i, .slice nA ns.length nc, .slice gA gs.length gc, .slice oA os.length oc]] w fun e w' => ∃ (A : Option Addr) (cap : Nat), e = .returned (.slice A (cutsV i ns gs os).length cap) ∧ CutsAt w' w'.heap.size A (cutsV i ns gs os) ∧ Below w.heap.size w w' := by
  unfold cutsV
  cases hv : Circ.validB i ns gs os
  · refine (icuts_f i nA gA oA nc gc oc ns gs os w hc hv).mono ?_
    rintro e w' ⟨⟨A, cap, rfl⟩, hb⟩
    exact ⟨A, cap, rfl, fun k hk => absurd hk (by simp), hb⟩
  · refine (icuts_t i nA gA oA nc gc oc ns gs os w hc hv).mono ?_
    rintro e w' ⟨g, cap, HH, rfl, hx, _, hb⟩
    refine ⟨some ⟨g, 0, none⟩, cap, ?_, hx.cutsN, hb⟩
    rw [if_pos rfl, cuts_len]
theorem scuts_any (i : Int) (nA gA oA : Option Addr) (nc gc oc : Nat) (ns : List Int) (gs : List (Int × Int)) (os : List Int) (w : World) (hc : CircAt w w.heap.size nA gA oA ns gs os) :
    Calls Try.prog 11 #[.agg #[.int .i64 i, .slice nA ns.length nc, .slice gA gs.length gc, .slice oA os.length oc]] w fun e w' => ∃ (A : Option Addr) (cap : Nat), e = .returned (.slice A (cutsV i ns gs os).length cap) ∧ CutsAt w' w'.heap.size A (cutsV i ns gs os) ∧ Below w.heap.size w w' := by
  unfold cutsV
  cases hv : Circ.validB i ns gs os
  · refine (scuts_f i nA gA oA nc gc oc ns gs os w hc hv).mono ?_
    rintro e w' ⟨⟨A, cap, rfl⟩, hb⟩
    exact ⟨A, cap, rfl, fun k hk => absurd hk (by simp), hb⟩
  · refine (scuts_t i nA gA oA nc gc oc ns gs os w hc hv).mono ?_
    rintro e w' ⟨g, cap, HH, rfl, hx, hb⟩
    refine ⟨some ⟨g, 0, none⟩, cap, ?_, hx.cutsN, hb⟩
    rw [if_pos rfl, cuts_len]
/-- What is known of the cuts of one variable. -/
structure CutK (f : Nat) (gs : List Opt.G) (k : Nat) (L : Cs) : Prop where
  len : L.length ≤ 9
  pos : 0 < L.length
  fit : ∀ j, j < L.length → (L.getD j []).length ≤ 3
  sa : ∀ j, j < L.length → SA (L.getD j [])
  lt : ∀ j, j < L.length → ∀ l, l ∈ L.getD j [] → l < f + gs.length
  det : ∀ j, j < L.length → Det f gs k (L.getD j [])
  last : 0 < k → L.getD (L.length - 1) [] = [k]
theorem cutK {f : Nat} {gs : List Opt.G} (hf : 0 < f) (hg : Opt.ordered f gs) (k : Nat) (hk : k < f + gs.length) : CutK f gs k ((cuts f gs).getD k []) := by
  have G := cuts_gd hf hg k hk
  refine ⟨G.len, List.length_pos_of_mem G.own, fun j hj => G.fit _ (getD_memC hj), fun j hj => G.sa _ (getD_memC hj), fun j hj l hl => ?_, fun j hj => cuts_det hg k hk _ (getD_memC hj), fun h0 => ?_⟩
  · have := G.le _ (getD_memC hj) l hl; omega
  · rcases cuts_last hg k hk with h | h
    · rw [h]; unfold Cut.own; rw [if_neg (by omega)]
    · omega
theorem cutsV_bd {i : Int} {ns : List Int} {gs : List (Int × Int)} {os : List Int} : (cutsV i ns gs os).length ≤ 22 ∧ ∀ k, k < (cutsV i ns gs os).length → ((cutsV i ns gs os).getD k []).length ≤ 9 ∧ ∀ j, j < ((cutsV i ns gs os).getD k []).length → (((cutsV i ns gs os).getD k []).getD j []).length ≤ 3 := by
  unfold cutsV
  cases hv : Circ.validB i ns gs os
  · exact ⟨by simp, fun k hk => absurd hk (by simp)⟩
  · rw [if_pos rfl, cuts_len]
    obtain ⟨h0, h1⟩ := Opt.natC_ok hv
    obtain ⟨hi0, hi4, hn3, hg14, ho3⟩ := Circ.valid_within hv
    have hgl : (Opt.natG gs).length = gs.length := Opt.natG_len gs
    refine ⟨by unfold Opt.fst; omega, fun k hk => ?_⟩
    have K := cutK h0 h1.ord k hk
    exact ⟨K.len, K.fit⟩
end Go.Proofs.Ytgllpnilnaggeaa
