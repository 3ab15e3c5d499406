/- A code (a slice of bytes) that comes in as an argument is opened to its cells. -/
import Derived.Test.YtkkkkalgfmddbaaO
import Derived.Test.YtkkkkalgfmddbaaR1
namespace Go.Proofs.Ytkkkkalgfmddbaa
open Go.ChangeShapes Go.WideShapes Go.ChangeAt Go.RowKit Go.Deep Go.Joins

theorem byte_wf {n : Int} (h : (Lit.int .u8 n).wf = true) : 0 ≤ n ∧ n ≤ 255 := by
  have := bounds_u8 h
  omega

theorem open_code {H : Type} {enc : TypeId × Value → H} {P : Program} {W : World} {base : Nat} {held : Bool} {t e : TypeId} {fuel : Nat} {A : Option Addr} {n c : Nat} {x : DataW H × List MemPlace} (ht : P.underlying t = some (.slice e)) (he : P.underlying e = some (.int .u8)) (hc : P.cellsOf e = 1)
    (h : DataW.trod enc P W base (fun _ => true) held fuel t [.slice A n c] = some x) : CodeAt W A n ∧ n ≤ c ∧ c ≤ maxLen := by
  rcases open_ints ht he hc h with ⟨hcs, _⟩ | ⟨a, len, cap, zs, hcs, _, hl, hm, hz, _, hcell, hwz⟩
  · simp at hcs
    obtain ⟨rfl, rfl, rfl⟩ := hcs
    exact ⟨fun k hk => absurd hk (by omega), Nat.le_refl _, by simp⟩
  · simp at hcs hz
    obtain ⟨rfl, rfl, rfl⟩ := hcs
    refine ⟨fun k hk => ?_, hl, hm⟩
    obtain ⟨b, off, rfl, hb⟩ := addr_of (hcell 0 (by omega))
    have hcl := hcell k (by omega)
    rw [add_flat] at hcl
    have hk' : k < zs.length := by omega
    have hw := byte_wf (hwz zs[k] (List.getElem_mem hk'))
    have e : zs.getD k 0 = zs[k] := by simp [List.getD_eq_getElem?_getD, hk']
    rw [e] at hcl
    exact ⟨b, off, _, rfl, hb, hcl, hw.1, hw.2⟩
end Go.Proofs.Ytkkkkalgfmddbaa
