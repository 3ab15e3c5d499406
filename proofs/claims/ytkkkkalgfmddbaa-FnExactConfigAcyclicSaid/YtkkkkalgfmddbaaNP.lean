/- The pins of nets: plain facts, and the memory of a list of rows of pins that grow one by one. -/
import Derived.Test.YtkkkkalgfmddbaaQP
import Derived.Test.YtkkkkalgfmddbaaR1
import Derived.Deep.DeepCutAuto
import Derived.Test.YtkkkkalgfmddbaaNS
import Derived.Deep.DrawnRows
namespace Plc
abbrev Pn := Int × Int
def addPin (ps : List (List Pn)) (u : Nat) (y : Pn) : List (List Pn) := ps.set u (ps.getD u [] ++ [y])
theorem addPin_len (ps : List (List Pn)) (u : Nat) (y : Pn) : (addPin ps u y).length = ps.length := by simp [addPin]
theorem addPin_at {ps : List (List Pn)} {u : Nat} (y : Pn) (hu : u < ps.length) (v : Nat) : (addPin ps u y).getD v [] = if v = u then ps.getD u [] ++ [y] else ps.getD v [] := by
  unfold addPin
  simp only [List.getD_eq_getElem?_getD]
  by_cases e : v = u
  · subst e
    rw [List.getElem?_set_self hu, if_pos rfl]
    rfl
  · rw [List.getElem?_set_ne (fun h => e h.symm), if_neg e]
theorem addPin_mem {ps : List (List Pn)} {u : Nat} {y : Pn} (hu : u < ps.length) (v : Nat) (x : Pn) : x ∈ (addPin ps u y).getD v [] ↔ x ∈ ps.getD v [] ∨ (v = u ∧ x = y) := by
  rw [addPin_at y hu]
  by_cases e : v = u
  · subst e
    rw [if_pos rfl, List.mem_append, List.mem_singleton]
    simp
  · rw [if_neg e]
    simp [e]
/-- What the rows hold. -/
def Pins (ps : List (List Pn)) (R : Nat → Pn → Prop) : Prop := ∀ v x, x ∈ ps.getD v [] ↔ R v x
theorem Pins.nil (n : Nat) : Pins (List.replicate n []) (fun _ _ => False) := fun v x => by
  have e : (List.replicate n ([] : List Pn)).getD v [] = [] := by
    simp only [List.getD_eq_getElem?_getD, List.getElem?_replicate]
    split <;> rfl
  rw [e]
  simp
theorem Pins.add {ps : List (List Pn)} {R R' : Nat → Pn → Prop} (h : Pins ps R) {u : Nat} {y : Pn} (hu : u < ps.length) (hR : ∀ v x, R' v x ↔ R v x ∨ (v = u ∧ x = y)) : Pins (addPin ps u y) R' := fun v x => by rw [addPin_mem hu, h v x, hR]
theorem Pins.iff {ps : List (List Pn)} {R R' : Nat → Pn → Prop} (h : Pins ps R) (hR : ∀ v x, R' v x ↔ R v x) : Pins ps R' := fun v x => by rw [h v x, hR]
def inP (k : Nat) : Pn := (-1, ((k * 5 : Nat) : Int))
def ceP (k : Nat) : Pn := ((k : Nat), 0)
def ouP (k : Nat) : Pn := (-1, ((k * 5 + 4 : Nat) : Int))
def r1 (k v : Nat) (x : Pn) : Prop := ∃ t, t < k ∧ v = 1 + t ∧ x = inP t
def r2 (ce : List Ce) (k v : Nat) (x : Pn) : Prop := ∃ t, t < k ∧ v = (ce.getD t (0, [], 0, false)).1 ∧ x = ceP t
def r3 (ce : List Ce) (k v : Nat) (x : Pn) : Prop := ∃ t, t < k ∧ v ∈ (ce.getD t (0, [], 0, false)).2.1 ∧ x = ceP t
def r3y (y : List Nat) (k j v : Nat) (x : Pn) : Prop := ∃ t, t < j ∧ v = y.getD t 0 ∧ x = ceP k
def r4 (os : List Nat) (k v : Nat) (x : Pn) : Prop := ∃ t, t < k ∧ v = os.getD t 0 / 2 ∧ v ≠ 0 ∧ x = ouP t
theorem ex_succ {P : Nat → Prop} {k : Nat} : (∃ t, t < k + 1 ∧ P t) ↔ (∃ t, t < k ∧ P t) ∨ P k := by
  constructor
  · rintro ⟨t, ht, h⟩
    by_cases e : t = k
    · subst e; exact .inr h
    · exact .inl ⟨t, by omega, h⟩
  · rintro (⟨t, ht, h⟩ | h)
    · exact ⟨t, by omega, h⟩
    · exact ⟨k, by omega, h⟩
theorem r1_succ (k v : Nat) (x : Pn) : r1 (k + 1) v x ↔ r1 k v x ∨ (v = 1 + k ∧ x = inP k) := ex_succ
theorem r2_succ (ce : List Ce) (k v : Nat) (x : Pn) : r2 ce (k + 1) v x ↔ r2 ce k v x ∨ (v = (ce.getD k (0, [], 0, false)).1 ∧ x = ceP k) := ex_succ
theorem r3y_succ (y : List Nat) (k j v : Nat) (x : Pn) : r3y y k (j + 1) v x ↔ r3y y k j v x ∨ (v = y.getD j 0 ∧ x = ceP k) := ex_succ
theorem r3_succ (ce : List Ce) (k v : Nat) (x : Pn) : r3 ce (k + 1) v x ↔ r3 ce k v x ∨ r3y (ce.getD k (0, [], 0, false)).2.1 k (ce.getD k (0, [], 0, false)).2.1.length v x := by
  unfold r3
  rw [ex_succ]
  apply or_congr Iff.rfl
  unfold r3y
  generalize (ce.getD k (0, [], 0, false)).2.1 = y
  rw [List.mem_iff_getElem]
  constructor
  · rintro ⟨⟨t, ht, e⟩, h⟩
    exact ⟨t, ht, by simp [List.getD_eq_getElem?_getD, ht, e], h⟩
  · rintro ⟨t, ht, e, h⟩
    exact ⟨⟨t, ht, by rw [e]; simp [List.getD_eq_getElem?_getD, ht]⟩, h⟩
theorem r4_succ (os : List Nat) (k v : Nat) (x : Pn) : r4 os (k + 1) v x ↔ r4 os k v x ∨ (v = os.getD k 0 / 2 ∧ v ≠ 0 ∧ x = ouP k) := ex_succ
theorem r_zero {P : Nat → Prop} : (∃ t, t < 0 ∧ P t) ↔ False := ⟨fun ⟨t, h, _⟩ => by omega, fun h => h.elim⟩
/-- All pins of a circuit's nets. -/
def pinR (m : Nat) (ce : List Ce) (os : List Nat) (v : Nat) (x : Pn) : Prop := ((r1 m v x ∨ r2 ce ce.length v x) ∨ r3 ce ce.length v x) ∨ r4 os os.length v x
/-- The pins of a net, in the order in which they are laid. -/
def pl1 : Nat → Nat → List Pn
  | 0, _ => []
  | k + 1, v => pl1 k v ++ if v = 1 + k then [inP k] else []
def pl2 (ce : List Ce) : Nat → Nat → List Pn
  | 0, _ => []
  | k + 1, v => pl2 ce k v ++ if v = (ce.getD k (0, [], 0, false)).1 then [ceP k] else []
def pl3y (y : List Nat) (c : Nat) : Nat → Nat → List Pn
  | 0, _ => []
  | j + 1, v => pl3y y c j v ++ if v = y.getD j 0 then [ceP c] else []
def pl3 (ce : List Ce) : Nat → Nat → List Pn
  | 0, _ => []
  | k + 1, v => pl3 ce k v ++ pl3y (ce.getD k (0, [], 0, false)).2.1 k (ce.getD k (0, [], 0, false)).2.1.length v
def pl4 (os : List Nat) : Nat → Nat → List Pn
  | 0, _ => []
  | k + 1, v => pl4 os k v ++ if v = os.getD k 0 / 2 ∧ v ≠ 0 then [ouP k] else []
theorem pl2_succ (ce : List Ce) (k v : Nat) : pl2 ce (k + 1) v = pl2 ce k v ++ if v = (ce.getD k (0, [], 0, false)).1 then [ceP k] else [] := rfl
theorem pl3y_succ (y : List Nat) (c j v : Nat) : pl3y y c (j + 1) v = pl3y y c j v ++ if v = y.getD j 0 then [ceP c] else [] := rfl
theorem pl3_succ (ce : List Ce) (k v : Nat) : pl3 ce (k + 1) v = pl3 ce k v ++ pl3y (ce.getD k (0, [], 0, false)).2.1 k (ce.getD k (0, [], 0, false)).2.1.length v := rfl
theorem pl4_succ (os : List Nat) (k v : Nat) : pl4 os (k + 1) v = pl4 os k v ++ if v = os.getD k 0 / 2 ∧ v ≠ 0 then [ouP k] else [] := rfl
def pinL (m : Nat) (ce : List Ce) (os : List Nat) (v : Nat) : List Pn := ((pl1 m v ++ pl2 ce ce.length v) ++ pl3 ce ce.length v) ++ pl4 os os.length v
def PinsL (ps : List (List Pn)) (F : Nat → List Pn) : Prop := ∀ v, ps.getD v [] = F v
theorem PinsL.nil (n : Nat) : PinsL (List.replicate n []) (fun _ => []) := fun v => by
  simp only [List.getD_eq_getElem?_getD, List.getElem?_replicate]
  split <;> rfl
theorem PinsL.add {ps : List (List Pn)} {F F' : Nat → List Pn} (h : PinsL ps F) {u : Nat} {y : Pn} (hu : u < ps.length) (hF : ∀ v, F' v = F v ++ if v = u then [y] else []) : PinsL (addPin ps u y) F' := fun v => by
  rw [addPin_at y hu, hF v]
  by_cases e : v = u
  · rw [if_pos e, if_pos e, h u, e]
  · rw [if_neg e, if_neg e, h v, List.append_nil]
theorem PinsL.iff {ps : List (List Pn)} {F F' : Nat → List Pn} (h : PinsL ps F) (hF : ∀ v, F' v = F v) : PinsL ps F' := fun v => by rw [h v, hF v]
theorem mem_if {c : Prop} [Decidable c] {x y : Pn} : x ∈ (if c then [y] else []) ↔ c ∧ x = y := by
  split
  · next h => simp [h]
  · next h => simp [h]
theorem pl1_mem (v : Nat) (x : Pn) : ∀ k, x ∈ pl1 k v ↔ r1 k v x
  | 0 => ⟨fun h => (List.not_mem_nil h).elim, fun ⟨t, h, _⟩ => by omega⟩
  | k + 1 => by rw [r1_succ, ← pl1_mem v x k]; show x ∈ _ ++ _ ↔ _; rw [List.mem_append, mem_if]
theorem pl2_mem (ce : List Ce) (v : Nat) (x : Pn) : ∀ k, x ∈ pl2 ce k v ↔ r2 ce k v x
  | 0 => ⟨fun h => (List.not_mem_nil h).elim, fun ⟨t, h, _⟩ => by omega⟩
  | k + 1 => by rw [r2_succ, ← pl2_mem ce v x k, pl2_succ, List.mem_append, mem_if]
theorem pl3y_mem (y : List Nat) (c v : Nat) (x : Pn) : ∀ k, x ∈ pl3y y c k v ↔ r3y y c k v x
  | 0 => ⟨fun h => (List.not_mem_nil h).elim, fun ⟨t, h, _⟩ => by omega⟩
  | k + 1 => by rw [r3y_succ, ← pl3y_mem y c v x k, pl3y_succ, List.mem_append, mem_if]
theorem pl3_mem (ce : List Ce) (v : Nat) (x : Pn) : ∀ k, x ∈ pl3 ce k v ↔ r3 ce k v x
  | 0 => ⟨fun h => (List.not_mem_nil h).elim, fun ⟨t, h, _⟩ => by omega⟩
  | k + 1 => by rw [r3_succ, ← pl3_mem ce v x k, pl3_succ, List.mem_append, pl3y_mem]
theorem pl4_mem (os : List Nat) (v : Nat) (x : Pn) : ∀ k, x ∈ pl4 os k v ↔ r4 os k v x
  | 0 => ⟨fun h => (List.not_mem_nil h).elim, fun ⟨t, h, _⟩ => by omega⟩
  | k + 1 => by rw [r4_succ, ← pl4_mem os v x k, pl4_succ, List.mem_append, mem_if, and_assoc]
theorem pinL_mem (m : Nat) (ce : List Ce) (os : List Nat) (v : Nat) (x : Pn) : x ∈ pinL m ce os v ↔ pinR m ce os v x := by
  unfold pinL pinR
  rw [List.mem_append, List.mem_append, List.mem_append, pl1_mem, pl2_mem, pl3_mem, pl4_mem]
theorem PinsL.pins {ps : List (List Pn)} {m : Nat} {ce : List Ce} {os : List Nat} (h : PinsL ps (pinL m ce os)) : Pins ps (pinR m ce os) := fun v x => by rw [h v, pinL_mem]
end Plc
namespace Go.Proofs.Ytkkkkalgfmddbaa
open Go.RowKit Go.Deep Cut Plc

theorem own_kept {w w' : World} {B e z n : Nat} {v : Value} {xs : List Value} (h : w.ownsRow B e z v n xs) (hk : ∀ b, v.ownBlock = some b → w'.heap[b]? = w.heap[b]?) : w'.ownsRow B e z v n xs := by
  refine ⟨h.1, ?_⟩
  rcases h.2 with hn | ⟨g, cap, cur, rfl, hb, hgg, rest⟩
  · exact .inl hn
  · exact .inr ⟨g, cap, cur, rfl, hb, (hk g rfl).trans hgg, rest⟩

end Go.Proofs.Ytkkkkalgfmddbaa
/- Lengths of nets: pin.tile, netLength, l7Dist. -/
namespace Plc
theorem lo_take (f : Nat → Nat) (s : Nat) (ys : List Nat) {k : Nat} (hk : k < ys.length) : lo f s (ys.take (k + 1)) = min (lo f s (ys.take k)) (f (ys.getD k 0)) := by
  rw [List.take_succ_eq_append_getElem hk, lo_snoc]
  simp [List.getD_eq_getElem?_getD, hk]
theorem hi_take (f : Nat → Nat) (s : Nat) (ys : List Nat) {k : Nat} (hk : k < ys.length) : hi f s (ys.take (k + 1)) = max (hi f s (ys.take k)) (f (ys.getD k 0)) := by
  rw [List.take_succ_eq_append_getElem hk, hi_snoc]
  simp [List.getD_eq_getElem?_getD, hk]
theorem dist_first {t : Nat} (r : List Nat) (ht : t ≤ 24) : dist (t :: r) = hi (· / 5) (t / 5) r - lo (· / 5) (t / 5) r + (hi (· % 5) (t % 5) r - lo (· % 5) (t % 5) r) := by
  unfold dist
  rw [if_neg (by simp)]
  have e1 : hi (· / 5) 0 (t :: r) = hi (· / 5) (t / 5) r := by show hi (· / 5) (max 0 (t / 5)) r = _; rw [Nat.zero_max]
  have e2 : hi (· % 5) 0 (t :: r) = hi (· % 5) (t % 5) r := by show hi (· % 5) (max 0 (t % 5)) r = _; rw [Nat.zero_max]
  have e3 : lo (· / 5) 5 (t :: r) = lo (· / 5) (t / 5) r := by show lo (· / 5) (min 5 (t / 5)) r = _; rw [Nat.min_eq_right (by omega)]
  have e4 : lo (· % 5) 5 (t :: r) = lo (· % 5) (t % 5) r := by show lo (· % 5) (min 5 (t % 5)) r = _; rw [Nat.min_eq_right (by omega)]
  rw [e1, e2, e3, e4]
theorem lo_hi (f : Nat → Nat) (s : Nat) (r : List Nat) : lo f s r ≤ hi f s r := Nat.le_trans (lo_le f r s).1 (hi_ge f r s).1
/-- The tile of a pin; what a fit pin is; how long a net is. -/
def tileP (pl : List Nat) (x : Pn) : Nat := if x.1 = -1 then x.2.toNat else pl.getD x.1.toNat 0
def okPin (n : Nat) (x : Pn) : Prop := (x.1 = -1 ∧ 0 ≤ x.2 ∧ x.2 ≤ 24) ∨ (0 ≤ x.1 ∧ x.1 < n)
theorem tileP_le {n : Nat} {pl : List Nat} {x : Pn} (h : okPin n x) (ht : ∀ j, j < n → pl.getD j 0 ≤ 24) : tileP pl x ≤ 24 := by
  unfold tileP
  rcases h with ⟨h1, h2, h3⟩ | ⟨h1, h2⟩
  · rw [if_pos h1]; omega
  · rw [if_neg (by omega)]; exact ht _ (by omega)
def lenP (pl : List Nat) (xs : List Pn) : Nat := dist (xs.map (tileP pl))
end Plc
namespace Go.Proofs.Ytkkkkalgfmddbaa
open Go.RowKit Go.Deep Cut Plc

/-- The model's half perimeter. -/
theorem dist_nil : dist [] = 0 := rfl
set_option maxRecDepth 10000 in
set_option maxHeartbeats 1000000 in
theorem l7Dist_any (A : Option Addr) (n c : Nat) (ts : List Nat) (w : World) (hx : IntsAt w w.heap.size A (Opt.intL ts)) (hn : ts.length = n) (hnb : n ≤ 1000) (ht : ∀ j, j < n → ts.getD j 0 ≤ 24) :
    Calls Try.prog 169 #[.slice A n c] w fun e w' => e = .returned (.int .i64 (dist ts : Nat)) ∧ w = w' := by
  have HX := Lib.hid hx
  have HN := Lib.hid hn
  have HT := Lib.hid ht
  clear hx hn ht
  by_cases hn0 : n = 0
  · subst hn0
    have HE : Hid (dist ts = 0) := Lib.hid (by rw [List.eq_nil_of_length_eq_zero HN.out]; rfl)
    go_enter Try.func169, Try.ntmps169
    go_wp2
    go_ret
    exact ⟨ret_int (by rw [HE.out]; rfl), rfl⟩
  · have HE : Hid (dist ts = hi (· / 5) 0 (ts.take n) - lo (· / 5) 5 (ts.take n) + (hi (· % 5) 0 (ts.take n) - lo (· % 5) 5 (ts.take n))) := Lib.hid (by
      rw [List.take_of_length_le (by rw [HN.out]; exact Nat.le_refl _)]
      unfold dist
      rw [if_neg (by intro e; rw [e] at HN; exact hn0 HN.out.symm)])
    have A1 : Hid (lo (· / 5) 5 (ts.take 0) = 5) := Lib.hid (by simp [lo])
    have A2 : Hid (hi (· / 5) 0 (ts.take 0) = 0) := Lib.hid (by simp [hi])
    have A3 : Hid (lo (· % 5) 5 (ts.take 0) = 5) := Lib.hid (by simp [lo])
    have A4 : Hid (hi (· % 5) 0 (ts.take 0) = 0) := Lib.hid (by simp [hi])
    go_enter Try.func169, Try.ntmps169
    go_wp2
    go_loop [3, 4, 5, 6, 7] (fun t1 t2 t3 t4 iv => ∃ (k a1 a2 a3 a4 : Nat), k ≤ n ∧ iv = .int .i64 k ∧ t1 = .int .i64 a1 ∧ t2 = .int .i64 a2 ∧ t3 = .int .i64 a3 ∧ t4 = .int .i64 a4 ∧ a1 ≤ 5 ∧ a2 ≤ 5 ∧ a3 ≤ 5 ∧ a4 ≤ 5 ∧ Hid (lo (· / 5) 5 (ts.take k) = a1) ∧ Hid (hi (· / 5) 0 (ts.take k) = a2) ∧ Hid (lo (· % 5) 5 (ts.take k) = a3) ∧ Hid (hi (· % 5) 0 (ts.take k) = a4)) (fun _ _ _ _ iv => n - (intOf iv).toNat)
    case atStart => exact ⟨0, 5, 0, 5, 0, Nat.zero_le _, rfl, rfl, rfl, rfl, rfl, by omega, by omega, by omega, by omega, A1, A2, A3, A4⟩
    case round =>
      clear A1 A2 A3 A4
      obtain ⟨k, a1, a2, a3, a4, hk, rfl, rfl, rfl, rfl, rfl, b1, b2, b3, b4, A1, A2, A3, A4⟩ := hrel
      by_cases hlt : k < n
      · obtain ⟨b, off, rfl, hbl, hc⟩ := HX.out k (by rw [Opt.intL_len, HN.out]; exact hlt)
        rw [Opt.intL_at] at hc
        have h24 := HT.out k hlt
        have B1 := Lib.hid (lo_take (· / 5) 5 ts (k := k) (by rw [HN.out]; exact hlt))
        have B2 := Lib.hid (hi_take (· / 5) 0 ts (k := k) (by rw [HN.out]; exact hlt))
        have B3 := Lib.hid (lo_take (· % 5) 5 ts (k := k) (by rw [HN.out]; exact hlt))
        have B4 := Lib.hid (hi_take (· % 5) 0 ts (k := k) (by rw [HN.out]; exact hlt))
        rw [A1.out] at B1
        rw [A2.out] at B2
        rw [A3.out] at B3
        rw [A4.out] at B4
        clear A1 A2 A3 A4
        generalize ts.getD k 0 = tk at *
        obtain ⟨p1, hp1⟩ : ∃ p1, tk / 5 = p1 := ⟨_, rfl⟩
        obtain ⟨p2, hp2⟩ : ∃ p2, tk % 5 = p2 := ⟨_, rfl⟩
        have e1 : (tk : Int).tdiv 5 = (p1 : Int) := by rw [Int.tdiv_eq_ediv_of_nonneg (by omega)]; omega
        have e2 : (tk : Int).tmod 5 = (p2 : Int) := by rw [Int.tmod_eq_emod_of_nonneg (by omega)]; omega
        have hq4 : p1 ≤ 4 := by omega
        have hr4 : p2 ≤ 4 := by omega
        replace B1 : Hid (lo (· / 5) 5 (ts.take (k + 1)) = min a1 p1) := Lib.hid (by rw [B1.out]; show min a1 (tk / 5) = _; rw [hp1])
        replace B2 : Hid (hi (· / 5) 0 (ts.take (k + 1)) = max a2 p1) := Lib.hid (by rw [B2.out]; show max a2 (tk / 5) = _; rw [hp1])
        replace B3 : Hid (lo (· % 5) 5 (ts.take (k + 1)) = min a3 p2) := Lib.hid (by rw [B3.out]; show min a3 (tk % 5) = _; rw [hp2])
        replace B4 : Hid (hi (· % 5) 0 (ts.take (k + 1)) = max a4 p2) := Lib.hid (by rw [B4.out]; show max a4 (tk % 5) = _; rw [hp2])
        have hk0 : (0 : Int) ≤ (k : Int) := Int.natCast_nonneg _
        have hk1 : (k : Int) < (n : Int) := by omega
        clear hp1 hp2
        go_upto_region 9 with fail
        have m1 : (if p1 < a1 then (p1 : Int) else (a1 : Int)) = ((min a1 p1 : Nat) : Int) := by split <;> omega
        have m2 : (if a2 < p1 then (p1 : Int) else (a2 : Int)) = ((max a2 p1 : Nat) : Int) := by split <;> omega
        have m3 : (if p2 < a3 then (p2 : Int) else (a3 : Int)) = ((min a3 p2 : Nat) : Int) := by split <;> omega
        have m4 : (if a4 < p2 then (p2 : Int) else (a4 : Int)) = ((max a4 p2 : Nat) : Int) := by split <;> omega
        have x1 : min (a1 : Int) (p1 : Int) = ((min a1 p1 : Nat) : Int) := by omega
        have x2 : max (a2 : Int) (p1 : Int) = ((max a2 p1 : Nat) : Int) := by omega
        have x3 : min (a3 : Int) (p2 : Int) = ((min a3 p2 : Nat) : Int) := by omega
        have x4 : max (a4 : Int) (p2 : Int) = ((max a4 p2 : Nat) : Int) := by omega
        first
          | rw [x1, x2, x3, x4]
          | rw [m1, m2, m3, m4]
        clear x1 x2 x3 x4
        have n1 : min a1 p1 ≤ 5 := by omega
        have n2 : max a2 p1 ≤ 5 := by omega
        have n3 : min a3 p2 ≤ 5 := by omega
        have n4 : max a4 p2 ≤ 5 := by omega
        clear m1 m2 m3 m4
        generalize min a1 p1 = c1 at *
        generalize max a2 p1 = c2 at *
        generalize min a3 p2 = c3 at *
        generalize max a4 p2 = c4 at *
        go_wp2
        go_round
        case rel => exact ⟨k + 1, c1, c2, c3, c4, by omega, by go_num, rfl, rfl, rfl, rfl, n1, n2, n3, n4, B1, B2, B3, B4⟩
        case measure => simp [intOf]; omega
      · obtain rfl : k = n := by omega
        have HF : Hid (dist ts = a2 - a1 + (a4 - a3)) := Lib.hid (by rw [HE.out, A1.out, A2.out, A3.out, A4.out])
        have hle1 : a1 ≤ a2 := by
          have h1 := HT.out 0 (by omega)
          have hm : ts.getD 0 0 ∈ ts.take k := by
            rw [List.take_of_length_le (by rw [HN.out]; exact Nat.le_refl _), List.getD_eq_getElem?_getD, List.getElem?_eq_getElem (by rw [HN.out]; omega)]
            exact List.getElem_mem _
          have h2 := (lo_le (· / 5) (ts.take k) 5).2 _ hm
          have h3 := (hi_ge (· / 5) (ts.take k) 0).2 _ hm
          rw [A1.out] at h2
          rw [A2.out] at h3
          exact Nat.le_trans h2 h3
        have hle2 : a3 ≤ a4 := by
          have hm : ts.getD 0 0 ∈ ts.take k := by
            rw [List.take_of_length_le (by rw [HN.out]; exact Nat.le_refl _), List.getD_eq_getElem?_getD, List.getElem?_eq_getElem (by rw [HN.out]; omega)]
            exact List.getElem_mem _
          have h2 := (lo_le (· % 5) (ts.take k) 5).2 _ hm
          have h3 := (hi_ge (· % 5) (ts.take k) 0).2 _ hm
          rw [A3.out] at h2
          rw [A4.out] at h3
          exact Nat.le_trans h2 h3
        clear A1 A2 A3 A4
        go_wp2
        go_ret
        exact ⟨ret_int (by rw [HF.out]; omega), rfl⟩
end Go.Proofs.Ytkkkkalgfmddbaa
/- netPins. -/
namespace Go.Proofs.Ytkkkkalgfmddbaa
open Go.RowKit Go.Deep Cut Plc

/-- A load that is carried out where it comes up, not ahead of the calls beside it. -/
def lateLd (t : TypeId) (o : Operand) : Op := Op.load t o
theorem lateLd_of (t : TypeId) (o : Operand) : Op.load t o = lateLd t o := rfl
@[go_sem] theorem lateLd_run (t : TypeId) (o : Operand) : lateLd t o = Op.load t o := rfl
theorem Try.infoPn : (Try.prog.info? 167).map (fun i => (i.zero, i.size, i.bytes)) = some (some (.agg #[.int .i64 0, .int .i64 0]), 2, 16) := by kernel_rfl
theorem ret_pin {a b : Int} {a' b' : Int} (h : a = a') (h2 : b = b') : Ending.returned (.agg #[.int .i64 a, .int .i64 b]) = .returned (.agg #[.int .i64 a', .int .i64 b']) := by rw [h, h2]

set_option maxHeartbeats 400000 in
theorem ouPin_any (k : Nat) (w : World) (hk : k ≤ 1000) : Calls Try.prog 131 #[.int .i64 k] w fun e w' => e = .returned (.agg #[.int .i64 (ouP k).1, .int .i64 (ouP k).2]) ∧ Below w.heap.size w w' := by
  go_enter Try.func131, Try.ntmps131
  go_wp2
  exact bodyPost_ret (v := .agg #[.int .i64 (-1), .int .i64 ((k : Int) * 5 + 5 - 1)]) (by simp [results, Try.results131, go_sem]) rfl ⟨ret_pin rfl (by show (k : Int) * 5 + 5 - 1 = ((k * 5 + 4 : Nat) : Int); omega), (Below.refl _ _).alloc (Nat.le_refl _) _⟩

theorem grown_off {w0 w5 : World} {o : Obj} {r : Option Nat} (hgr : (w0.alloc o).grownBy w5 r) : ∀ b, b < w0.heap.size → some b ≠ r → w5.heap[b]? = w0.heap[b]? := fun b h1 h2 => by
  have h := hgr.block b (by simp; omega) h2
  rw [h]
  exact (World.grownBy_alloc w0 o none).block b h1 (by simp)
section
variable {ops : Array Oper} {o : Oper} {a : Act} {Q : Exit → Act → World → Prop}
end

end Go.Proofs.Ytkkkkalgfmddbaa
