/- The pins of nets: plain facts, and the memory of a list of rows of pins that grow one by one. -/
import Derived.Test.YtliaommpnaagiaaQP
import Derived.Test.YtliaommpnaagiaaR1
import Derived.Deep.DeepCutAuto
import Derived.Test.YtliaommpnaagiaaNS
import Derived.Deep.DrawnRows
namespace Plc
abbrev Pn := Int × Int
def addPin (ps : List (List Pn)) (u : Nat) (y : Pn) : List (List Pn) := ps.set u (ps.getD u [] ++ [y])
theorem addPin_len (ps : List (List Pn)) (u : Nat) (y : Pn) : (addPin ps u y).length = ps.length := by simp [addPin]
theorem addPin_at {ps : List (List Pn)} {u : Nat} (y : Pn) (hu : u < ps.length) (v : Nat) : (addPin ps u y).getD v [] = if v = u then ps.getD u [] ++ [y] else ps.getD v [] := by
  unfold addPin
  simp only [List.getD_eq_getElem?_getD]
  by_cases e : v = u
  · subst e
    rw [List.getElem?_set_self hu, if_pos rfl]
    rfl
  · rw [List.getElem?_set_ne (fun h => e h.symm), if_neg e]
theorem addPin_mem {ps : List (List Pn)} {u : Nat} {y : Pn} (hu : u < ps.length) (v : Nat) (x : Pn) : x ∈ (addPin ps u y).getD v [] ↔ x ∈ ps.getD v [] ∨ (v = u ∧ x = y) := by
  rw [addPin_at y hu]
  by_cases e : v = u
  · subst e
    rw [if_pos rfl, List.mem_append, List.mem_singleton]
    simp
  · rw [if_neg e]
    simp [e]
/-- What the rows hold. -/
def Pins (ps : List (List Pn)) (R : Nat → Pn → Prop) : Prop := ∀ v x, x ∈ ps.getD v [] ↔ R v x
theorem Pins.nil (n : Nat) : Pins (List.replicate n []) (fun _ _ => False) := fun v x => by
  have e : (List.replicate n ([] : List Pn)).getD v [] = [] := by
    simp only [List.getD_eq_getElem?_getD, List.getElem?_replicate]
    split <;> rfl
  rw [e]
  simp
theorem Pins.add {ps : List (List Pn)} {R R' : Nat → Pn → Prop} (h : Pins ps R) {u : Nat} {y : Pn} (hu : u < ps.length) (hR : ∀ v x, R' v x ↔ R v x ∨ (v = u ∧ x = y)) : Pins (addPin ps u y) R' := fun v x => by rw [addPin_mem hu, h v x, hR]
theorem Pins.iff {ps : List (List Pn)} {R R' : Nat → Pn → Prop} (h : Pins ps R) (hR : ∀ v x, R' v x ↔ R v x) : Pins ps R' := fun v x => by rw [h v x, hR]
def inP (k : Nat) : Pn := (-1, ((k * 5 : Nat) : Int))
def ceP (k : Nat) : Pn := ((k : Nat), 0)
def ouP (k : Nat) : Pn := (-1, ((k * 5 + 4 : Nat) : Int))
def r1 (k v : Nat) (x : Pn) : Prop := ∃ t, t < k ∧ v = 1 + t ∧ x = inP t
def r2 (ce : List Ce) (k v : Nat) (x : Pn) : Prop := ∃ t, t < k ∧ v = (ce.getD t (0, [], 0, false)).1 ∧ x = ceP t
def r3 (ce : List Ce) (k v : Nat) (x : Pn) : Prop := ∃ t, t < k ∧ v ∈ (ce.getD t (0, [], 0, false)).2.1 ∧ x = ceP t
def r3y (y : List Nat) (k j v : Nat) (x : Pn) : Prop := ∃ t, t < j ∧ v = y.getD t 0 ∧ x = ceP k
def r4 (os : List Nat) (k v : Nat) (x : Pn) : Prop := ∃ t, t < k ∧ v = os.getD t 0 / 2 ∧ v ≠ 0 ∧ x = ouP t
theorem ex_succ {P : Nat → Prop} {k : Nat} : (∃ t, t < k + 1 ∧ P t) ↔ (∃ t, t < k ∧ P t) ∨ P k := by
  constructor
  · rintro ⟨t, ht, h⟩
    by_cases e : t = k
    · subst e; exact .inr h
    · exact .inl ⟨t, by omega, h⟩
  · rintro (⟨t, ht, h⟩ | h)
    · exact ⟨t, by omega, h⟩
    · exact ⟨k, by omega, h⟩
theorem r1_succ (k v : Nat) (x : Pn) : r1 (k + 1) v x ↔ r1 k v x ∨ (v = 1 + k ∧ x = inP k) := ex_succ
theorem r2_succ (ce : List Ce) (k v : Nat) (x : Pn) : r2 ce (k + 1) v x ↔ r2 ce k v x ∨ (v = (ce.getD k (0, [], 0, false)).1 ∧ x = ceP k) := ex_succ
theorem r3y_succ (y : List Nat) (k j v : Nat) (x : Pn) : r3y y k (j + 1) v x ↔ r3y y k j v x ∨ (v = y.getD j 0 ∧ x = ceP k) := ex_succ
theorem r3_succ (ce : List Ce) (k v : Nat) (x : Pn) : r3 ce (k + 1) v x ↔ r3 ce k v x ∨ r3y (ce.getD k (0, [], 0, false)).2.1 k (ce.getD k (0, [], 0, false)).2.1.length v x := by
  unfold r3
  rw [ex_succ]
  apply or_congr Iff.rfl
  unfold r3y
  generalize (ce.getD k (0, [], 0, false)).2.1 = y
  rw [List.mem_iff_getElem]
  constructor
  · rintro ⟨⟨t, ht, e⟩, h⟩
    exact ⟨t, ht, by simp [List.getD_eq_getElem?_getD, ht, e], h⟩
  · rintro ⟨t, ht, e, h⟩
    exact ⟨⟨t, ht, by rw [e]; simp [List.getD_eq_getElem?_getD, ht]⟩, h⟩
theorem r4_succ (os : List Nat) (k v : Nat) (x : Pn) : r4 os (k + 1) v x ↔ r4 os k v x ∨ (v = os.getD k 0 / 2 ∧ v ≠ 0 ∧ x = ouP k) := ex_succ
theorem r_zero {P : Nat → Prop} : (∃ t, t < 0 ∧ P t) ↔ False := ⟨fun ⟨t, h, _⟩ => by omega, fun h => h.elim⟩
/-- All pins of a circuit's nets. -/
def pinR (m : Nat) (ce : List Ce) (os : List Nat) (v : Nat) (x : Pn) : Prop := ((r1 m v x ∨ r2 ce ce.length v x) ∨ r3 ce ce.length v x) ∨ r4 os os.length v x
end Plc
namespace Go.Proofs.Ytliaommpnaagiaa
open Go.RowKit Go.Deep Cut Plc

theorem own_kept {w w' : World} {B e z n : Nat} {v : Value} {xs : List Value} (h : w.ownsRow B e z v n xs) (hk : ∀ b, v.ownBlock = some b → w'.heap[b]? = w.heap[b]?) : w'.ownsRow B e z v n xs := by
  refine ⟨h.1, ?_⟩
  rcases h.2 with hn | ⟨g, cap, cur, rfl, hb, hgg, rest⟩
  · exact .inl hn
  · exact .inr ⟨g, cap, cur, rfl, hb, (hk g rfl).trans hgg, rest⟩

end Go.Proofs.Ytliaommpnaagiaa
/- Lengths of nets: pin.tile, netLength, l7Dist. -/
namespace Plc
theorem lo_take (f : Nat → Nat) (s : Nat) (ys : List Nat) {k : Nat} (hk : k < ys.length) : lo f s (ys.take (k + 1)) = min (lo f s (ys.take k)) (f (ys.getD k 0)) := by
  rw [List.take_succ_eq_append_getElem hk, lo_snoc]
  simp [List.getD_eq_getElem?_getD, hk]
theorem hi_take (f : Nat → Nat) (s : Nat) (ys : List Nat) {k : Nat} (hk : k < ys.length) : hi f s (ys.take (k + 1)) = max (hi f s (ys.take k)) (f (ys.getD k 0)) := by
  rw [List.take_succ_eq_append_getElem hk, hi_snoc]
  simp [List.getD_eq_getElem?_getD, hk]
theorem dist_first {t : Nat} (r : List Nat) (ht : t ≤ 24) : dist (t :: r) = hi (· / 5) (t / 5) r - lo (· / 5) (t / 5) r + (hi (· % 5) (t % 5) r - lo (· % 5) (t % 5) r) := by
  unfold dist
  rw [if_neg (by simp)]
  have e1 : hi (· / 5) 0 (t :: r) = hi (· / 5) (t / 5) r := by show hi (· / 5) (max 0 (t / 5)) r = _; rw [Nat.zero_max]
  have e2 : hi (· % 5) 0 (t :: r) = hi (· % 5) (t % 5) r := by show hi (· % 5) (max 0 (t % 5)) r = _; rw [Nat.zero_max]
  have e3 : lo (· / 5) 5 (t :: r) = lo (· / 5) (t / 5) r := by show lo (· / 5) (min 5 (t / 5)) r = _; rw [Nat.min_eq_right (by omega)]
  have e4 : lo (· % 5) 5 (t :: r) = lo (· % 5) (t % 5) r := by show lo (· % 5) (min 5 (t % 5)) r = _; rw [Nat.min_eq_right (by omega)]
  rw [e1, e2, e3, e4]
theorem lo_hi (f : Nat → Nat) (s : Nat) (r : List Nat) : lo f s r ≤ hi f s r := Nat.le_trans (lo_le f r s).1 (hi_ge f r s).1
/-- The tile of a pin; what a fit pin is; how long a net is. -/
def tileP (pl : List Nat) (x : Pn) : Nat := if x.1 = -1 then x.2.toNat else pl.getD x.1.toNat 0
def okPin (n : Nat) (x : Pn) : Prop := (x.1 = -1 ∧ 0 ≤ x.2 ∧ x.2 ≤ 24) ∨ (0 ≤ x.1 ∧ x.1 < n)
theorem tileP_le {n : Nat} {pl : List Nat} {x : Pn} (h : okPin n x) (ht : ∀ j, j < n → pl.getD j 0 ≤ 24) : tileP pl x ≤ 24 := by
  unfold tileP
  rcases h with ⟨h1, h2, h3⟩ | ⟨h1, h2⟩
  · rw [if_pos h1]; omega
  · rw [if_neg (by omega)]; exact ht _ (by omega)
def lenP (pl : List Nat) (xs : List Pn) : Nat := dist (xs.map (tileP pl))
end Plc
namespace Go.Proofs.Ytliaommpnaagiaa
open Go.RowKit Go.Deep Cut Plc

/-- The model's half perimeter. -/
theorem dist_nil : dist [] = 0 := rfl
end Go.Proofs.Ytliaommpnaagiaa
/- netPins. -/
namespace Go.Proofs.Ytliaommpnaagiaa
open Go.RowKit Go.Deep Cut Plc

/-- A load that is carried out where it comes up, not ahead of the calls beside it. -/
def lateLd (t : TypeId) (o : Operand) : Op := Op.load t o
theorem lateLd_of (t : TypeId) (o : Operand) : Op.load t o = lateLd t o := rfl
@[go_sem] theorem lateLd_run (t : TypeId) (o : Operand) : lateLd t o = Op.load t o := rfl
theorem ret_pin {a b : Int} {a' b' : Int} (h : a = a') (h2 : b = b') : Ending.returned (.agg #[.int .i64 a, .int .i64 b]) = .returned (.agg #[.int .i64 a', .int .i64 b']) := by rw [h, h2]

theorem grown_off {w0 w5 : World} {o : Obj} {r : Option Nat} (hgr : (w0.alloc o).grownBy w5 r) : ∀ b, b < w0.heap.size → some b ≠ r → w5.heap[b]? = w0.heap[b]? := fun b h1 h2 => by
  have h := hgr.block b (by simp; omega) h2
  rw [h]
  exact (World.grownBy_alloc w0 o none).block b h1 (by simp)
section
variable {ops : Array Oper} {o : Oper} {a : Act} {Q : Exit → Act → World → Prop}
end

end Go.Proofs.Ytliaommpnaagiaa
