/- The pins of nets: plain facts, and the memory of a list of rows of pins that grow one by one. -/
import Derived.Test.YtdadokcodklfgaaQP
import Derived.Test.YtdadokcodklfgaaB9
import Derived.Deep.DeepCutAuto
import Derived.Test.YtdadokcodklfgaaNS
import Derived.Deep.DrawnRows
namespace Plc
abbrev Pn := Int × Int
def addPin (ps : List (List Pn)) (u : Nat) (y : Pn) : List (List Pn) := ps.set u (ps.getD u [] ++ [y])
theorem addPin_at {ps : List (List Pn)} {u : Nat} (y : Pn) (hu : u < ps.length) (v : Nat) : (addPin ps u y).getD v [] = if v = u then ps.getD u [] ++ [y] else ps.getD v [] := by
  unfold addPin
  simp only [List.getD_eq_getElem?_getD]
  by_cases e : v = u
  · subst e
    rw [List.getElem?_set_self hu, if_pos rfl]
    rfl
  · rw [List.getElem?_set_ne (fun h => e h.symm), if_neg e]
theorem addPin_mem {ps : List (List Pn)} {u : Nat} {y : Pn} (hu : u < ps.length) (v : Nat) (x : Pn) : x ∈ (addPin ps u y).getD v [] ↔ x ∈ ps.getD v [] ∨ (v = u ∧ x = y) := by
  rw [addPin_at y hu]
  by_cases e : v = u
  · subst e
    rw [if_pos rfl, List.mem_append, List.mem_singleton]
    simp
  · rw [if_neg e]
    simp [e]
/-- What the rows hold. -/
def Pins (ps : List (List Pn)) (R : Nat → Pn → Prop) : Prop := ∀ v x, x ∈ ps.getD v [] ↔ R v x
theorem Pins.nil (n : Nat) : Pins (List.replicate n []) (fun _ _ => False) := fun v x => by
  have e : (List.replicate n ([] : List Pn)).getD v [] = [] := by
    simp only [List.getD_eq_getElem?_getD, List.getElem?_replicate]
    split <;> rfl
  rw [e]
  simp
theorem Pins.add {ps : List (List Pn)} {R R' : Nat → Pn → Prop} (h : Pins ps R) {u : Nat} {y : Pn} (hu : u < ps.length) (hR : ∀ v x, R' v x ↔ R v x ∨ (v = u ∧ x = y)) : Pins (addPin ps u y) R' := fun v x => by rw [addPin_mem hu, h v x, hR]
def inP (k : Nat) : Pn := (-1, ((k * 5 : Nat) : Int))
def ceP (k : Nat) : Pn := ((k : Nat), 0)
def ouP (k : Nat) : Pn := (-1, ((k * 5 + 4 : Nat) : Int))
def r1 (k v : Nat) (x : Pn) : Prop := ∃ t, t < k ∧ v = 1 + t ∧ x = inP t
def r2 (ce : List Ce) (k v : Nat) (x : Pn) : Prop := ∃ t, t < k ∧ v = (ce.getD t (0, [], 0, false)).1 ∧ x = ceP t
def r3 (ce : List Ce) (k v : Nat) (x : Pn) : Prop := ∃ t, t < k ∧ v ∈ (ce.getD t (0, [], 0, false)).2.1 ∧ x = ceP t
def r3y (y : List Nat) (k j v : Nat) (x : Pn) : Prop := ∃ t, t < j ∧ v = y.getD t 0 ∧ x = ceP k
def r4 (os : List Nat) (k v : Nat) (x : Pn) : Prop := ∃ t, t < k ∧ v = os.getD t 0 / 2 ∧ v ≠ 0 ∧ x = ouP t
theorem ex_succ {P : Nat → Prop} {k : Nat} : (∃ t, t < k + 1 ∧ P t) ↔ (∃ t, t < k ∧ P t) ∨ P k := by
  constructor
  · rintro ⟨t, ht, h⟩
    by_cases e : t = k
    · subst e; exact .inr h
    · exact .inl ⟨t, by omega, h⟩
  · rintro (⟨t, ht, h⟩ | h)
    · exact ⟨t, by omega, h⟩
    · exact ⟨k, by omega, h⟩
theorem r1_succ (k v : Nat) (x : Pn) : r1 (k + 1) v x ↔ r1 k v x ∨ (v = 1 + k ∧ x = inP k) := ex_succ
theorem r2_succ (ce : List Ce) (k v : Nat) (x : Pn) : r2 ce (k + 1) v x ↔ r2 ce k v x ∨ (v = (ce.getD k (0, [], 0, false)).1 ∧ x = ceP k) := ex_succ
theorem r3y_succ (y : List Nat) (k j v : Nat) (x : Pn) : r3y y k (j + 1) v x ↔ r3y y k j v x ∨ (v = y.getD j 0 ∧ x = ceP k) := ex_succ
theorem r3_succ (ce : List Ce) (k v : Nat) (x : Pn) : r3 ce (k + 1) v x ↔ r3 ce k v x ∨ r3y (ce.getD k (0, [], 0, false)).2.1 k (ce.getD k (0, [], 0, false)).2.1.length v x := by
  unfold r3
  rw [ex_succ]
  apply or_congr Iff.rfl
  unfold r3y
  generalize (ce.getD k (0, [], 0, false)).2.1 = y
  rw [List.mem_iff_getElem]
  constructor
  · rintro ⟨⟨t, ht, e⟩, h⟩
    exact ⟨t, ht, by simp [List.getD_eq_getElem?_getD, ht, e], h⟩
  · rintro ⟨t, ht, e, h⟩
    exact ⟨⟨t, ht, by rw [e]; simp [List.getD_eq_getElem?_getD, ht]⟩, h⟩
theorem r4_succ (os : List Nat) (k v : Nat) (x : Pn) : r4 os (k + 1) v x ↔ r4 os k v x ∨ (v = os.getD k 0 / 2 ∧ v ≠ 0 ∧ x = ouP k) := ex_succ
/-- All pins of a circuit's nets. -/
def pinR (m : Nat) (ce : List Ce) (os : List Nat) (v : Nat) (x : Pn) : Prop := ((r1 m v x ∨ r2 ce ce.length v x) ∨ r3 ce ce.length v x) ∨ r4 os os.length v x
/-- The pins of a net, in the order in which they are laid. -/
def pl1 : Nat → Nat → List Pn
  | 0, _ => []
  | k + 1, v => pl1 k v ++ if v = 1 + k then [inP k] else []
def pl2 (ce : List Ce) : Nat → Nat → List Pn
  | 0, _ => []
  | k + 1, v => pl2 ce k v ++ if v = (ce.getD k (0, [], 0, false)).1 then [ceP k] else []
def pl3y (y : List Nat) (c : Nat) : Nat → Nat → List Pn
  | 0, _ => []
  | j + 1, v => pl3y y c j v ++ if v = y.getD j 0 then [ceP c] else []
def pl3 (ce : List Ce) : Nat → Nat → List Pn
  | 0, _ => []
  | k + 1, v => pl3 ce k v ++ pl3y (ce.getD k (0, [], 0, false)).2.1 k (ce.getD k (0, [], 0, false)).2.1.length v
def pl4 (os : List Nat) : Nat → Nat → List Pn
  | 0, _ => []
  | k + 1, v => pl4 os k v ++ if v = os.getD k 0 / 2 ∧ v ≠ 0 then [ouP k] else []
theorem pl2_succ (ce : List Ce) (k v : Nat) : pl2 ce (k + 1) v = pl2 ce k v ++ if v = (ce.getD k (0, [], 0, false)).1 then [ceP k] else [] := rfl
theorem pl3y_succ (y : List Nat) (c j v : Nat) : pl3y y c (j + 1) v = pl3y y c j v ++ if v = y.getD j 0 then [ceP c] else [] := rfl
theorem pl3_succ (ce : List Ce) (k v : Nat) : pl3 ce (k + 1) v = pl3 ce k v ++ pl3y (ce.getD k (0, [], 0, false)).2.1 k (ce.getD k (0, [], 0, false)).2.1.length v := rfl
theorem pl4_succ (os : List Nat) (k v : Nat) : pl4 os (k + 1) v = pl4 os k v ++ if v = os.getD k 0 / 2 ∧ v ≠ 0 then [ouP k] else [] := rfl
def pinL (m : Nat) (ce : List Ce) (os : List Nat) (v : Nat) : List Pn := ((pl1 m v ++ pl2 ce ce.length v) ++ pl3 ce ce.length v) ++ pl4 os os.length v
def PinsL (ps : List (List Pn)) (F : Nat → List Pn) : Prop := ∀ v, ps.getD v [] = F v
theorem PinsL.nil (n : Nat) : PinsL (List.replicate n []) (fun _ => []) := fun v => by
  simp only [List.getD_eq_getElem?_getD, List.getElem?_replicate]
  split <;> rfl
theorem PinsL.add {ps : List (List Pn)} {F F' : Nat → List Pn} (h : PinsL ps F) {u : Nat} {y : Pn} (hu : u < ps.length) (hF : ∀ v, F' v = F v ++ if v = u then [y] else []) : PinsL (addPin ps u y) F' := fun v => by
  rw [addPin_at y hu, hF v]
  by_cases e : v = u
  · rw [if_pos e, if_pos e, h u, e]
  · rw [if_neg e, if_neg e, h v, List.append_nil]
theorem mem_if {c : Prop} [Decidable c] {x y : Pn} : x ∈ (if c then [y] else []) ↔ c ∧ x = y := by
  split
  · next h => simp [h]
  · next h => simp [h]
theorem pl1_mem (v : Nat) (x : Pn) : ∀ k, x ∈ pl1 k v ↔ r1 k v x
  | 0 => ⟨fun h => (List.not_mem_nil h).elim, fun ⟨t, h, _⟩ => by omega⟩
  | k + 1 => by rw [r1_succ, ← pl1_mem v x k]; show x ∈ _ ++ _ ↔ _; rw [List.mem_append, mem_if]
theorem pl2_mem (ce : List Ce) (v : Nat) (x : Pn) : ∀ k, x ∈ pl2 ce k v ↔ r2 ce k v x
  | 0 => ⟨fun h => (List.not_mem_nil h).elim, fun ⟨t, h, _⟩ => by omega⟩
  | k + 1 => by rw [r2_succ, ← pl2_mem ce v x k, pl2_succ, List.mem_append, mem_if]
theorem pl3y_mem (y : List Nat) (c v : Nat) (x : Pn) : ∀ k, x ∈ pl3y y c k v ↔ r3y y c k v x
  | 0 => ⟨fun h => (List.not_mem_nil h).elim, fun ⟨t, h, _⟩ => by omega⟩
  | k + 1 => by rw [r3y_succ, ← pl3y_mem y c v x k, pl3y_succ, List.mem_append, mem_if]
theorem pl3_mem (ce : List Ce) (v : Nat) (x : Pn) : ∀ k, x ∈ pl3 ce k v ↔ r3 ce k v x
  | 0 => ⟨fun h => (List.not_mem_nil h).elim, fun ⟨t, h, _⟩ => by omega⟩
  | k + 1 => by rw [r3_succ, ← pl3_mem ce v x k, pl3_succ, List.mem_append, pl3y_mem]
theorem pl4_mem (os : List Nat) (v : Nat) (x : Pn) : ∀ k, x ∈ pl4 os k v ↔ r4 os k v x
  | 0 => ⟨fun h => (List.not_mem_nil h).elim, fun ⟨t, h, _⟩ => by omega⟩
  | k + 1 => by rw [r4_succ, ← pl4_mem os v x k, pl4_succ, List.mem_append, mem_if, and_assoc]
theorem pinL_mem (m : Nat) (ce : List Ce) (os : List Nat) (v : Nat) (x : Pn) : x ∈ pinL m ce os v ↔ pinR m ce os v x := by
  unfold pinL pinR
  rw [List.mem_append, List.mem_append, List.mem_append, pl1_mem, pl2_mem, pl3_mem, pl4_mem]
theorem PinsL.pins {ps : List (List Pn)} {m : Nat} {ce : List Ce} {os : List Nat} (h : PinsL ps (pinL m ce os)) : Pins ps (pinR m ce os) := fun v x => by rw [h v, pinL_mem]
end Plc
namespace Go.Proofs.Ytdadokcodklfgaa
open Go.RowKit Go.Deep Cut Plc

end Go.Proofs.Ytdadokcodklfgaa
/- Lengths of nets: pin.tile, netLength, l7Dist. -/
namespace Plc
/-- The tile of a pin; what a fit pin is; how long a net is. -/
def tileP (pl : List Nat) (x : Pn) : Nat := if x.1 = -1 then x.2.toNat else pl.getD x.1.toNat 0
end Plc
namespace Go.Proofs.Ytdadokcodklfgaa
open Go.RowKit Go.Deep Cut Plc

end Go.Proofs.Ytdadokcodklfgaa
/- netPins. -/
namespace Go.Proofs.Ytdadokcodklfgaa
open Go.RowKit Go.Deep Cut Plc

/-- A load that is carried out where it comes up, not ahead of the calls beside it. -/
def lateLd (t : TypeId) (o : Operand) : Op := Op.load t o
theorem lateLd_of (t : TypeId) (o : Operand) : Op.load t o = lateLd t o := rfl
@[go_sem] theorem lateLd_run (t : TypeId) (o : Operand) : lateLd t o = Op.load t o := rfl
section
variable {ops : Array Oper} {o : Oper} {a : Act} {Q : Exit → Act → World → Prop}
end

end Go.Proofs.Ytdadokcodklfgaa
