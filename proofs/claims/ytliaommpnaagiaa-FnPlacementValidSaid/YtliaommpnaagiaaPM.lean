/- The model's placer. -/
import Derived.Test.YtliaommpnaagiaaWL
namespace Plc
/-- The first k mapped. -/
def mapK (h : Nat → Nat) (p : List Nat) (k : Nat) : List Nat := (p.take k).map h ++ p.drop k
theorem mapK_len (h : Nat → Nat) (p : List Nat) (k : Nat) : (mapK h p k).length = p.length := by
  unfold mapK
  rw [List.length_append, List.length_map, List.length_take, List.length_drop]
  omega
theorem mapK_zero (h : Nat → Nat) (p : List Nat) : mapK h p 0 = p := by simp [mapK]
theorem mapK_all (h : Nat → Nat) (p : List Nat) : mapK h p p.length = p.map h := by simp [mapK]
theorem mapK_at {h : Nat → Nat} {p : List Nat} {k : Nat} (hk : k < p.length) : (mapK h p k).getD k 0 = p.getD k 0 := by
  unfold mapK
  simp only [List.getD_eq_getElem?_getD]
  rw [List.getElem?_append_right (by rw [List.length_map, List.length_take]; omega), List.length_map, List.length_take, List.getElem?_drop]
  congr 2
  omega
theorem mapK_succ {h : Nat → Nat} {p : List Nat} {k : Nat} (hk : k < p.length) : mapK h p (k + 1) = (mapK h p k).set k (h (p.getD k 0)) := by
  have e : p.getD k 0 = p[k] := by simp [List.getD_eq_getElem?_getD, hk]
  refine List.ext_getElem? (fun j => ?_)
  unfold mapK
  rw [e]
  by_cases hj : j = k
  · subst hj
    rw [List.getElem?_set_self (by simp; omega), List.getElem?_append_left (by simp; omega)]
    simp [hk]
  · rw [List.getElem?_set_ne (fun x => hj x.symm)]
    by_cases hlt : j < k
    · rw [List.getElem?_append_left (by simp; omega), List.getElem?_append_left (by simp; omega)]
      simp [hlt, show j < k + 1 by omega]
    · rw [List.getElem?_append_right (by simp; omega), List.getElem?_append_right (by simp; omega)]
      simp only [List.length_map, List.length_take, List.getElem?_drop]
      congr 1
      omega
theorem tryP_mapK (p : List Nat) (i t : Nat) : (mapK (fun x => if x = t then p.getD i 0 else x) p p.length).set i t = tryP p i t := by rw [mapK_all]; rfl
end Plc
namespace Go.Proofs.Ytliaommpnaagiaa
open Go.RowKit Go.Deep Cut Plc

theorem intL_set (p : List Nat) (k v : Nat) : ivs (Opt.intL (p.set k v)) = (ivs (Opt.intL p)).set k (.int .i64 (v : Int)) := by
  unfold ivs Opt.intL
  rw [List.map_set, List.map_set]
theorem TimesAt.put {w : World} {s g cap : Nat} {xs : List Nat} (h : TimesAt w s xs g cap) (k v : Nat) : TimesAt (w.setCell ⟨g, k, none⟩ (.int .i64 (v : Int))) s (xs.set k v) g cap := by
  unfold TimesAt
  rw [intL_set, List.length_set]
  exact (World.ownsRow.stored h k _).1
theorem TimesAt.row {w : World} {s g cap : Nat} {xs : List Nat} (h : TimesAt w s xs g cap) {k : Nat} (hk : k < xs.length) : w.cell? ⟨g, k, none⟩ = some (.int .i64 (xs.getD k 0 : Nat)) ∧ w.frozen? ⟨g, k, none⟩ = false := by
  refine ⟨?_, World.ownsRow.frozenAt h k⟩
  obtain ⟨b, off, e, _, hc⟩ := h.ints k (by rw [Opt.intL_len]; exact hk)
  injection e with e
  injection e with e1 e2
  subst e1 e2
  rw [Nat.zero_add, Opt.intL_at] at hc
  exact hc
theorem TimesAt.lower {w : World} {s s' g cap : Nat} {xs : List Nat} (h : TimesAt w s xs g cap) (hs : s' ≤ s) : TimesAt w s' xs g cap := own_low2 (n := xs.length) h hs

/-- What the placer answers, as naturals. -/
def placeN (m n N : Nat) (ou : List Nat) (ce : List Ce) : List Nat := sweepsP (costP m (N - 1) ou ce) n (List.range n) 3

/-- What Place answers of any circuit. -/
def placeV (i : Int) (ns : List Int) (gs : List (Int × Int)) (os : List Int) : List Nat := if Circ.validB i ns gs os = true then placeN i.toNat (cellsV i ns gs os).length (Opt.fst i ns + gs.length) (Opt.natL os) (cellsV i ns gs os) else []
theorem placeV_ok {i : Int} {ns : List Int} {gs : List (Int × Int)} {os : List Int} (hv : Circ.validB i ns gs os = true) : Pl (cellsV i ns gs os).length (placeV i ns gs os) ∧ costV i ns gs os (placeV i ns gs os) ≤ costV i ns gs os (List.range (cellsV i ns gs os).length) := by
  have h := (cellsV_lim hv).1
  unfold placeV placeN costV
  rw [if_pos hv]
  exact sweepsP_ok (start_ok (by omega)) 3

end Go.Proofs.Ytliaommpnaagiaa
