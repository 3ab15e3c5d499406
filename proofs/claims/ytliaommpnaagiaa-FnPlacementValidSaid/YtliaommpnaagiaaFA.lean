/- MapLuts of any circuit, both sides; contains. -/
import Derived.Test.YtliaommpnaagiaaN4
import Derived.Test.YtliaommpnaagiaaN7
import Derived.Test.YtliaommpnaagiaaQD
namespace Go.Proofs.Ytliaommpnaagiaa
open Go.RowKit Go.Deep Cut

/-- The lookup tables of any circuit. -/
def mapV (i : Int) (ns : List Int) (gs : List (Int × Int)) (os : List Int) : List Lt := if Circ.validB i ns gs os = true then lutsV (Opt.fst i ns) (Opt.natG gs) (Opt.natL ns) (Opt.natL os) else []
theorem imap_v (i : Int) (nA gA oA : Option Addr) (nc gc oc : Nat) (ns : List Int) (gs : List (Int × Int)) (os : List Int) (w : World) (hc : CircAt w w.heap.size nA gA oA ns gs os) (hgc : gs.length ≤ gc) :
    Calls Try.prog 44 #[.agg #[.int .i64 i, .slice nA ns.length nc, .slice gA gs.length gc, .slice oA os.length oc]] w fun e w' => ∃ (A : Option Addr) (cap : Nat), e = .returned (.slice A (mapV i ns gs os).length cap) ∧ LuIn w' w'.heap.size A (mapV i ns gs os) ∧ Below w.heap.size w w' := by
  cases hv : Circ.validB i ns gs os
  · refine (imap_f i nA gA oA nc gc oc ns gs os w hv hc).mono ?_
    rintro e w' ⟨⟨A, cap, rfl⟩, hb⟩
    unfold mapV
    rw [hv, if_neg (by simp)]
    exact ⟨A, cap, rfl, fun k hk => absurd hk (by simp), hb⟩
  · refine (imap_t i nA gA oA nc gc oc ns gs os w hv hc hgc).mono ?_
    rintro e w' ⟨g, cap, hs, rfl, hu, _, hb⟩
    unfold mapV
    rw [hv, if_pos rfl]
    exact ⟨some ⟨g, 0, none⟩, cap, rfl, hu.read, hb⟩
theorem mapV_k {i : Int} {ns : List Int} {gs : List (Int × Int)} {os : List Int} (hv : Circ.validB i ns gs os = true) : LutK (Opt.fst i ns) (Opt.natG gs) (Opt.natL ns) (Opt.natL os) (mapV i ns gs os) := by
  obtain ⟨k0, k1⟩ := Opt.natC_ok hv
  unfold mapV
  rw [hv, if_pos rfl]
  exact lutsV_k k0 k1.ord (fun r hr => k1.root r hr)
theorem mapV_f {i : Int} {ns : List Int} {gs : List (Int × Int)} {os : List Int} (hv : Circ.validB i ns gs os = false) : mapV i ns gs os = [] := by
  unfold mapV
  rw [hv, if_neg (by simp)]
theorem mapV_bd (i : Int) (ns : List Int) (gs : List (Int × Int)) (os : List Int) : (mapV i ns gs os).length ≤ 14 ∧ ∀ k, k < (mapV i ns gs os).length → ((mapV i ns gs os).getD k (0, [], 0)).1 ≤ 22 ∧ ((mapV i ns gs os).getD k (0, [], 0)).2.1.length ≤ 3 ∧ ((mapV i ns gs os).getD k (0, [], 0)).2.2 < 256 := by
  cases hv : Circ.validB i ns gs os
  · rw [mapV_f hv]; exact ⟨by simp, fun k hk => absurd hk (by simp)⟩
  · have K := mapV_k hv
    obtain ⟨h0, h1, h2, h3, h4⟩ := Circ.valid_within hv
    have hgl : (Opt.natG gs).length = gs.length := Opt.natG_len gs
    have hf : Opt.fst i ns ≤ 8 := by unfold Opt.fst; omega
    exact ⟨by have := K.len; omega, fun k hk => by have := K.bd k hk; omega⟩

end Go.Proofs.Ytliaommpnaagiaa
