/- The pins of nets: plain facts, and the memory of a list of rows of pins that grow one by one. -/
import Derived.Test.YtliedgaefgomjaaGreatQP
import Derived.Test.YtliedgaefgomjaaGreatR1
import Derived.Deep.DeepCutAuto
import Derived.Test.YtliedgaefgomjaaGreatNS
import Derived.Deep.DrawnRows
namespace Plc
abbrev Pn := Int × Int
def addPin (ps : List (List Pn)) (u : Nat) (y : Pn) : List (List Pn) := ps.set u (ps.getD u [] ++ [y])
theorem addPin_len (ps : List (List Pn)) (u : Nat) (y : Pn) : (addPin ps u y).length = ps.length := by simp [addPin]
theorem addPin_at {ps : List (List Pn)} {u : Nat} (y : Pn) (hu : u < ps.length) (v : Nat) : (addPin ps u y).getD v [] = if v = u then ps.getD u [] ++ [y] else ps.getD v [] := by
  unfold addPin
  simp only [List.getD_eq_getElem?_getD]
  by_cases e : v = u
  · subst e
    rw [List.getElem?_set_self hu, if_pos rfl]
    rfl
  · rw [List.getElem?_set_ne (fun h => e h.symm), if_neg e]
theorem addPin_mem {ps : List (List Pn)} {u : Nat} {y : Pn} (hu : u < ps.length) (v : Nat) (x : Pn) : x ∈ (addPin ps u y).getD v [] ↔ x ∈ ps.getD v [] ∨ (v = u ∧ x = y) := by
  rw [addPin_at y hu]
  by_cases e : v = u
  · subst e
    rw [if_pos rfl, List.mem_append, List.mem_singleton]
    simp
  · rw [if_neg e]
    simp [e]
/-- What the rows hold. -/
def Pins (ps : List (List Pn)) (R : Nat → Pn → Prop) : Prop := ∀ v x, x ∈ ps.getD v [] ↔ R v x
theorem Pins.nil (n : Nat) : Pins (List.replicate n []) (fun _ _ => False) := fun v x => by
  have e : (List.replicate n ([] : List Pn)).getD v [] = [] := by
    simp only [List.getD_eq_getElem?_getD, List.getElem?_replicate]
    split <;> rfl
  rw [e]
  simp
theorem Pins.add {ps : List (List Pn)} {R R' : Nat → Pn → Prop} (h : Pins ps R) {u : Nat} {y : Pn} (hu : u < ps.length) (hR : ∀ v x, R' v x ↔ R v x ∨ (v = u ∧ x = y)) : Pins (addPin ps u y) R' := fun v x => by rw [addPin_mem hu, h v x, hR]
theorem Pins.iff {ps : List (List Pn)} {R R' : Nat → Pn → Prop} (h : Pins ps R) (hR : ∀ v x, R' v x ↔ R v x) : Pins ps R' := fun v x => by rw [h v x, hR]
def inP (k : Nat) : Pn := (-1, ((k * 5 : Nat) : Int))
def ceP (k : Nat) : Pn := ((k : Nat), 0)
def ouP (k : Nat) : Pn := (-1, ((k * 5 + 4 : Nat) : Int))
def r1 (k v : Nat) (x : Pn) : Prop := ∃ t, t < k ∧ v = 1 + t ∧ x = inP t
def r2 (ce : List Ce) (k v : Nat) (x : Pn) : Prop := ∃ t, t < k ∧ v = (ce.getD t (0, [], 0, false)).1 ∧ x = ceP t
def r3 (ce : List Ce) (k v : Nat) (x : Pn) : Prop := ∃ t, t < k ∧ v ∈ (ce.getD t (0, [], 0, false)).2.1 ∧ x = ceP t
def r3y (y : List Nat) (k j v : Nat) (x : Pn) : Prop := ∃ t, t < j ∧ v = y.getD t 0 ∧ x = ceP k
def r4 (os : List Nat) (k v : Nat) (x : Pn) : Prop := ∃ t, t < k ∧ v = os.getD t 0 / 2 ∧ v ≠ 0 ∧ x = ouP t
theorem ex_succ {P : Nat → Prop} {k : Nat} : (∃ t, t < k + 1 ∧ P t) ↔ (∃ t, t < k ∧ P t) ∨ P k := by
  constructor
  · rintro ⟨t, ht, h⟩
    by_cases e : t = k
    · subst e; exact .inr h
    · exact .inl ⟨t, by omega, h⟩
  · rintro (⟨t, ht, h⟩ | h)
    · exact ⟨t, by omega, h⟩
    · exact ⟨k, by omega, h⟩
theorem r1_succ (k v : Nat) (x : Pn) : r1 (k + 1) v x ↔ r1 k v x ∨ (v = 1 + k ∧ x = inP k) := ex_succ
theorem r2_succ (ce : List Ce) (k v : Nat) (x : Pn) : r2 ce (k + 1) v x ↔ r2 ce k v x ∨ (v = (ce.getD k (0, [], 0, false)).1 ∧ x = ceP k) := ex_succ
theorem r3y_succ (y : List Nat) (k j v : Nat) (x : Pn) : r3y y k (j + 1) v x ↔ r3y y k j v x ∨ (v = y.getD j 0 ∧ x = ceP k) := ex_succ
theorem r3_succ (ce : List Ce) (k v : Nat) (x : Pn) : r3 ce (k + 1) v x ↔ r3 ce k v x ∨ r3y (ce.getD k (0, [], 0, false)).2.1 k (ce.getD k (0, [], 0, false)).2.1.length v x := by
  unfold r3
  rw [ex_succ]
  apply or_congr Iff.rfl
  unfold r3y
  generalize (ce.getD k (0, [], 0, false)).2.1 = y
  rw [List.mem_iff_getElem]
  constructor
  · rintro ⟨⟨t, ht, e⟩, h⟩
    exact ⟨t, ht, by simp [List.getD_eq_getElem?_getD, ht, e], h⟩
  · rintro ⟨t, ht, e, h⟩
    exact ⟨⟨t, ht, by rw [e]; simp [List.getD_eq_getElem?_getD, ht]⟩, h⟩
theorem r4_succ (os : List Nat) (k v : Nat) (x : Pn) : r4 os (k + 1) v x ↔ r4 os k v x ∨ (v = os.getD k 0 / 2 ∧ v ≠ 0 ∧ x = ouP k) := ex_succ
/-- All pins of a circuit's nets. -/
def pinR (m : Nat) (ce : List Ce) (os : List Nat) (v : Nat) (x : Pn) : Prop := ((r1 m v x ∨ r2 ce ce.length v x) ∨ r3 ce ce.length v x) ∨ r4 os os.length v x
/-- The pins of a net, in the order in which they are laid. -/
def pl1 : Nat → Nat → List Pn
  | 0, _ => []
  | k + 1, v => pl1 k v ++ if v = 1 + k then [inP k] else []
def pl2 (ce : List Ce) : Nat → Nat → List Pn
  | 0, _ => []
  | k + 1, v => pl2 ce k v ++ if v = (ce.getD k (0, [], 0, false)).1 then [ceP k] else []
def pl3y (y : List Nat) (c : Nat) : Nat → Nat → List Pn
  | 0, _ => []
  | j + 1, v => pl3y y c j v ++ if v = y.getD j 0 then [ceP c] else []
def pl3 (ce : List Ce) : Nat → Nat → List Pn
  | 0, _ => []
  | k + 1, v => pl3 ce k v ++ pl3y (ce.getD k (0, [], 0, false)).2.1 k (ce.getD k (0, [], 0, false)).2.1.length v
def pl4 (os : List Nat) : Nat → Nat → List Pn
  | 0, _ => []
  | k + 1, v => pl4 os k v ++ if v = os.getD k 0 / 2 ∧ v ≠ 0 then [ouP k] else []
theorem pl2_succ (ce : List Ce) (k v : Nat) : pl2 ce (k + 1) v = pl2 ce k v ++ if v = (ce.getD k (0, [], 0, false)).1 then [ceP k] else [] := rfl
theorem pl3y_succ (y : List Nat) (c j v : Nat) : pl3y y c (j + 1) v = pl3y y c j v ++ if v = y.getD j 0 then [ceP c] else [] := rfl
theorem pl3_succ (ce : List Ce) (k v : Nat) : pl3 ce (k + 1) v = pl3 ce k v ++ pl3y (ce.getD k (0, [], 0, false)).2.1 k (ce.getD k (0, [], 0, false)).2.1.length v := rfl
theorem pl4_succ (os : List Nat) (k v : Nat) : pl4 os (k + 1) v = pl4 os k v ++ if v = os.getD k 0 / 2 ∧ v ≠ 0 then [ouP k] else [] := rfl
def pinL (m : Nat) (ce : List Ce) (os : List Nat) (v : Nat) : List Pn := ((pl1 m v ++ pl2 ce ce.length v) ++ pl3 ce ce.length v) ++ pl4 os os.length v
def PinsL (ps : List (List Pn)) (F : Nat → List Pn) : Prop := ∀ v, ps.getD v [] = F v
theorem PinsL.nil (n : Nat) : PinsL (List.replicate n []) (fun _ => []) := fun v => by
  simp only [List.getD_eq_getElem?_getD, List.getElem?_replicate]
  split <;> rfl
theorem PinsL.add {ps : List (List Pn)} {F F' : Nat → List Pn} (h : PinsL ps F) {u : Nat} {y : Pn} (hu : u < ps.length) (hF : ∀ v, F' v = F v ++ if v = u then [y] else []) : PinsL (addPin ps u y) F' := fun v => by
  rw [addPin_at y hu, hF v]
  by_cases e : v = u
  · rw [if_pos e, if_pos e, h u, e]
  · rw [if_neg e, if_neg e, h v, List.append_nil]
theorem PinsL.iff {ps : List (List Pn)} {F F' : Nat → List Pn} (h : PinsL ps F) (hF : ∀ v, F' v = F v) : PinsL ps F' := fun v => by rw [h v, hF v]
theorem mem_if {c : Prop} [Decidable c] {x y : Pn} : x ∈ (if c then [y] else []) ↔ c ∧ x = y := by
  split
  · next h => simp [h]
  · next h => simp [h]
theorem pl1_mem (v : Nat) (x : Pn) : ∀ k, x ∈ pl1 k v ↔ r1 k v x
  | 0 => ⟨fun h => (List.not_mem_nil h).elim, fun ⟨t, h, _⟩ => by omega⟩
  | k + 1 => by rw [r1_succ, ← pl1_mem v x k]; show x ∈ _ ++ _ ↔ _; rw [List.mem_append, mem_if]
theorem pl2_mem (ce : List Ce) (v : Nat) (x : Pn) : ∀ k, x ∈ pl2 ce k v ↔ r2 ce k v x
  | 0 => ⟨fun h => (List.not_mem_nil h).elim, fun ⟨t, h, _⟩ => by omega⟩
  | k + 1 => by rw [r2_succ, ← pl2_mem ce v x k, pl2_succ, List.mem_append, mem_if]
theorem pl3y_mem (y : List Nat) (c v : Nat) (x : Pn) : ∀ k, x ∈ pl3y y c k v ↔ r3y y c k v x
  | 0 => ⟨fun h => (List.not_mem_nil h).elim, fun ⟨t, h, _⟩ => by omega⟩
  | k + 1 => by rw [r3y_succ, ← pl3y_mem y c v x k, pl3y_succ, List.mem_append, mem_if]
theorem pl3_mem (ce : List Ce) (v : Nat) (x : Pn) : ∀ k, x ∈ pl3 ce k v ↔ r3 ce k v x
  | 0 => ⟨fun h => (List.not_mem_nil h).elim, fun ⟨t, h, _⟩ => by omega⟩
  | k + 1 => by rw [r3_succ, ← pl3_mem ce v x k, pl3_succ, List.mem_append, pl3y_mem]
theorem pl4_mem (os : List Nat) (v : Nat) (x : Pn) : ∀ k, x ∈ pl4 os k v ↔ r4 os k v x
  | 0 => ⟨fun h => (List.not_mem_nil h).elim, fun ⟨t, h, _⟩ => by omega⟩
  | k + 1 => by rw [r4_succ, ← pl4_mem os v x k, pl4_succ, List.mem_append, mem_if, and_assoc]
theorem pinL_mem (m : Nat) (ce : List Ce) (os : List Nat) (v : Nat) (x : Pn) : x ∈ pinL m ce os v ↔ pinR m ce os v x := by
  unfold pinL pinR
  rw [List.mem_append, List.mem_append, List.mem_append, pl1_mem, pl2_mem, pl3_mem, pl4_mem]
theorem PinsL.pins {ps : List (List Pn)} {m : Nat} {ce : List Ce} {os : List Nat} (h : PinsL ps (pinL m ce os)) : Pins ps (pinR m ce os) := fun v x => by rw [h v, pinL_mem]
end Plc
namespace Go.Proofs.YtliedgaefgomjaaGreat
open Go.RowKit Go.Deep Cut Plc

theorem own_kept {w w' : World} {B e z n : Nat} {v : Value} {xs : List Value} (h : w.ownsRow B e z v n xs) (hk : ∀ b, v.ownBlock = some b → w'.heap[b]? = w.heap[b]?) : w'.ownsRow B e z v n xs := by
  refine ⟨h.1, ?_⟩
  rcases h.2 with hn | ⟨g, cap, cur, rfl, hb, hgg, rest⟩
  · exact .inl hn
  · exact .inr ⟨g, cap, cur, rfl, hb, (hk g rfl).trans hgg, rest⟩

structure NetsAt (w : World) (B g N b : Nat) (ps : List (List Pn)) (hs : Array Value) : Prop where
  row : Row w g 64 hs
  sz : hs.size = N
  len : ps.length = N
  hB : B ≤ g
  own : ∀ v, v < N → ∃ h : Value, hs[v]? = some h ∧ w.ownsRow B 92 2 h (ps.getD v []).length (gvs (ps.getD v []))
  off : ∀ (v : Nat) (h : Value), hs[v]? = some h → h.ownBlock = none ∨ h.ownBlock ≠ some g
  apart : ∀ (v u : Nat) (h h' : Value), v ≠ u → hs[v]? = some h → hs[u]? = some h' → h.ownBlock = none ∨ h.ownBlock ≠ h'.ownBlock
  bd : ∀ v, (ps.getD v []).length ≤ b
theorem NetsAt.lt {w : World} {B g N b : Nat} {ps : List (List Pn)} {hs : Array Value} (h : NetsAt w B g N b ps hs) : g < w.heap.size := h.row.lt
theorem NetsAt.keep {w w' : World} {B g N b : Nat} {ps : List (List Pn)} {hs : Array Value} (h : NetsAt w B g N b ps hs) (hk : ∀ x, B ≤ x → x < w.heap.size → w'.heap[x]? = w.heap[x]?) : NetsAt w' B g N b ps hs :=
  { h with
    row := (hk g h.hB h.row.lt).trans h.row
    own := fun v hv => by
      obtain ⟨x, h1, h2⟩ := h.own v hv
      exact ⟨x, h1, own_kept h2 (fun y hy => hk y (h2.lt y hy).1 (h2.lt y hy).2)⟩ }
theorem NetsAt.below {w w' : World} {B g N b : Nat} {ps : List (List Pn)} {hs : Array Value} (h : NetsAt w B g N b ps hs) (hb : Below w.heap.size w w') : NetsAt w' B g N b ps hs := h.keep (fun x _ hx => hb.block x hx)
theorem NetsAt.more {w : World} {B g N b b' : Nat} {ps : List (List Pn)} {hs : Array Value} (h : NetsAt w B g N b ps hs) (hb : b ≤ b') : NetsAt w B g N b' ps hs := { h with bd := fun v => Nat.le_trans (h.bd v) hb }
theorem NetsAt.lower {w : World} {B B' g N b : Nat} {ps : List (List Pn)} {hs : Array Value} (h : NetsAt w B g N b ps hs) (hb : B' ≤ B) : NetsAt w B' g N b ps hs :=
  { h with
    hB := Nat.le_trans hb h.hB
    own := fun v hv => by
      obtain ⟨x, h1, h2⟩ := h.own v hv
      exact ⟨x, h1, h2.1, h2.2.imp id (fun ⟨q, cap, cur, e, hb', rest⟩ => ⟨q, cap, cur, e, Nat.le_trans hb hb', rest⟩)⟩ }
/-- Rows that hold nothing. -/
theorem NetsAt.made (w : World) (N : Nat) : NetsAt (w.alloc (.cells (madeCells #[.slice none 0 0] N) 64)) w.heap.size w.heap.size N 0 (List.replicate N []) (madeCells #[.slice none 0 0] N) := by
  have hg : ∀ (v : Nat) (h : Value), (madeCells #[.slice none 0 0] N)[v]? = some h → h = .slice none 0 0 := fun v h e => by
    have e2 : (madeCells #[.slice none 0 0] N).toList[v]? = some h := by rw [Array.getElem?_toList]; exact e
    rw [toList_madeCells_one, List.getElem?_replicate] at e2
    split at e2
    · injection e2 with e2; exact e2.symm
    · cases e2
  have hps : ∀ v, (List.replicate N ([] : List Pn)).getD v [] = [] := fun v => by
    simp only [List.getD_eq_getElem?_getD, List.getElem?_replicate]
    split <;> rfl
  refine ⟨heap_alloc_new w _, by rw [size_madeCells], by simp, Nat.le_refl _, fun v hv => ⟨.slice none 0 0, ?_, ?_⟩, fun v h e => .inl (by rw [hg v h e]; rfl), fun v u h h' _ e _ => .inl (by rw [hg v h e]; rfl), fun v => by rw [hps]; exact Nat.le_refl _⟩
  · rw [← Array.getElem?_toList, toList_madeCells_one, List.getElem?_replicate, if_pos hv]
  · rw [hps]; exact World.ownsRow_nil _ _ _ _
/-- One more pin on one net: appended, then stored. -/
theorem NetsAt.push {w1 w2 : World} {B g N b : Nat} {ps : List (List Pn)} {hs : Array Value} (h : NetsAt w1 B g N b ps hs) {v n : Nat} (hv : v < N) {h0 : Value} (he : hs[v]? = some h0) (hn : (ps.getD v []).length = n) (y1 y2 : Int) {g' cap' : Nat}
    (hown : w2.ownsRow B 92 2 (.slice (some ⟨g', 0, none⟩) (n + 1) cap') (n + 1) (gvs (ps.getD v []) ++ [.int .i64 y1, .int .i64 y2])) (hg : w1.grownBy w2 h0.ownBlock) (hat : h0.ownBlock = some g' ∨ g' = w1.heap.size) :
    NetsAt (w2.setCell ⟨g, v, none⟩ (.slice (some ⟨g', 0, none⟩) (n + 1) cap')) B g N (b + 1) (addPin ps v (y1, y2)) (hs.setIfInBounds v (.slice (some ⟨g', 0, none⟩) (n + 1) cap')) := by
  have hgl := h.row.lt
  have hvs : v < hs.size := by rw [h.sz]; exact hv
  have hne : g' ≠ g := by
    rcases hat with e | e
    · intro e2
      subst e2
      rcases h.off v h0 he with e3 | e3
      · rw [e] at e3; cases e3
      · exact e3 e
    · omega
  have hkeep : ∀ x, x < w1.heap.size → h0.ownBlock = none ∨ h0.ownBlock ≠ some x → x ≠ g → (w2.setCell ⟨g, v, none⟩ (.slice (some ⟨g', 0, none⟩) (n + 1) cap')).heap[x]? = w1.heap[x]? := fun x hx h1 h2 => by
    rw [Below.heap_setCell w2 ⟨g, v, none⟩ _ x h2]
    refine hg.block x hx ?_
    rcases h1 with h1 | h1
    · rw [h1]; simp
    · exact fun e => h1 e.symm
  have hget : ∀ u, (hs.setIfInBounds v (.slice (some ⟨g', 0, none⟩) (n + 1) cap'))[u]? = if u = v then some (.slice (some ⟨g', 0, none⟩) (n + 1) cap') else hs[u]? := fun u => by
    rw [Array.getElem?_setIfInBounds]
    by_cases e : v = u
    · subst e; simp [hvs]
    · rw [if_neg e, if_neg (fun x => e x.symm)]
  have hvl : v < ps.length := by rw [h.len]; exact hv
  refine ⟨?_, by rw [Array.size_setIfInBounds]; exact h.sz, by rw [addPin_len]; exact h.len, h.hB, fun u hu => ?_, fun u x hx => ?_, fun u t x x' hut hx hx' => ?_, fun u => ?_⟩
  · have hr : Row w2 g 64 hs := (hg.block g hgl (by
      rcases h.off v h0 he with e | e
      · rw [e]; simp
      · exact fun x => e x.symm)).trans h.row
    exact hr.set v _
  · rw [hget]
    by_cases e : u = v
    · subst e
      refine ⟨_, if_pos rfl, ?_⟩
      rw [addPin_at _ hvl, if_pos rfl, List.length_append, hn, gvs_append]
      exact own_kept hown (fun x hx => by
        have : g' = x := by simpa [Value.ownBlock] using hx
        subst this
        exact Below.heap_setCell w2 ⟨g, u, none⟩ _ g' hne)
    · rw [if_neg e]
      obtain ⟨x, h1, h2⟩ := h.own u hu
      refine ⟨x, h1, ?_⟩
      rw [addPin_at _ hvl, if_neg e]
      refine own_kept h2 (fun y hy => hkeep y (h2.lt y hy).2 ?_ ?_)
      · rcases h.apart v u h0 x (fun z => e z.symm) he h1 with a | a
        · exact .inl a
        · right; rw [hy] at a; exact a
      · intro e2
        subst e2
        rcases h.off u x h1 with a | a
        · rw [a] at hy; cases hy
        · exact a hy
  · rw [hget] at hx
    split at hx
    · injection hx with hx
      subst hx
      right
      simp [Value.ownBlock]
      exact hne
    · exact h.off u x hx
  · have hnew : ∀ s z, s ≠ v → hs[s]? = some z → z.ownBlock = none ∨ z.ownBlock ≠ some g' := fun s z hs' hz => by
      rcases hat with a | a
      · rcases h.apart s v z h0 hs' hz he with c | c
        · exact .inl c
        · right; rw [a] at c; exact c
      · by_cases hsN : s < N
        · obtain ⟨z', h1, h2⟩ := h.own s hsN
          rw [hz] at h1
          injection h1 with h1
          subst h1
          cases hb : z.ownBlock with
          | none => exact .inl rfl
          | some y =>
            have := (h2.lt y hb).2
            right
            intro e
            injection e with e
            omega
        · rw [Array.getElem?_eq_none (by rw [h.sz]; omega)] at hz
          cases hz
    rw [hget] at hx hx'
    by_cases e1 : u = v
    · subst e1
      rw [if_pos rfl] at hx
      rw [if_neg (fun e => hut e.symm)] at hx'
      injection hx with hx
      subst hx
      rcases hnew t x' (fun e => hut e.symm) hx' with a | a
      · right; rw [a]; simp [Value.ownBlock]
      · right; exact fun e => a e.symm
    · rw [if_neg e1] at hx
      by_cases e2 : t = v
      · subst e2
        rw [if_pos rfl] at hx'
        injection hx' with hx'
        subst hx'
        exact hnew u x e1 hx
      · rw [if_neg e2] at hx'
        exact h.apart u t x x' hut hx hx'
  · rw [addPin_at _ hvl]
    have := h.bd u
    have := h.bd v
    split
    · rw [List.length_append, List.length_singleton]; omega
    · omega
/-- What a row reads. -/
theorem NetsAt.read {w : World} {B g N b : Nat} {ps : List (List Pn)} {hs : Array Value} (h : NetsAt w B g N b ps hs) {v : Nat} (hv : v < N) : ∃ (A : Option Addr) (cap : Nat), hs[v]? = some (.slice A (ps.getD v []).length cap) ∧ (ps.getD v []).length ≤ cap ∧ GatesAt w w.heap.size A (ps.getD v []) := by
  obtain ⟨x, h1, h2⟩ := h.own v hv
  rcases h2.2 with ⟨rfl, h0⟩ | ⟨q, cap, cur, rfl, _, _, hc, _⟩
  · refine ⟨none, 0, by rw [h1, h0], by omega, fun k hk => ?_⟩
    omega
  · refine ⟨_, cap, h1, hc, fun k hk => ⟨q, 0, rfl, (h2.lt q rfl).2, ?_, ?_⟩⟩
    · rw [Nat.zero_add, h2.cellAt (k * 2) (by omega)]; exact (gvs_get _ k hk).1
    · rw [Nat.zero_add, h2.cellAt (k * 2 + 1) (by omega)]; exact (gvs_get _ k hk).2
end Go.Proofs.YtliedgaefgomjaaGreat
/- Lengths of nets: pin.tile, netLength, l7Dist. -/
namespace Plc
/-- The tile of a pin; what a fit pin is; how long a net is. -/
def tileP (pl : List Nat) (x : Pn) : Nat := if x.1 = -1 then x.2.toNat else pl.getD x.1.toNat 0
def okPin (n : Nat) (x : Pn) : Prop := (x.1 = -1 ∧ 0 ≤ x.2 ∧ x.2 ≤ 24) ∨ (0 ≤ x.1 ∧ x.1 < n)
theorem tileP_le {n : Nat} {pl : List Nat} {x : Pn} (h : okPin n x) (ht : ∀ j, j < n → pl.getD j 0 ≤ 24) : tileP pl x ≤ 24 := by
  unfold tileP
  rcases h with ⟨h1, h2, h3⟩ | ⟨h1, h2⟩
  · rw [if_pos h1]; omega
  · rw [if_neg (by omega)]; exact ht _ (by omega)
end Plc
namespace Go.Proofs.YtliedgaefgomjaaGreat
open Go.RowKit Go.Deep Cut Plc

set_option maxHeartbeats 400000 in
theorem tile_any (A : Option Addr) (n cap : Nat) (a b : Int) (pl : List Nat) (w : World) (hx : IntsAt w w.heap.size A (Opt.intL pl)) (hn : pl.length = n) (hok : okPin n (a, b)) (_hnb : n ≤ 1000) :
    Calls Tryz.prog 55 #[.agg #[.int .i64 a, .int .i64 b], .slice A n cap] w fun e w' => e = .returned (.int .i64 (tileP pl (a, b) : Nat)) ∧ Below w.heap.size w w' := by
  have hB : Below w.heap.size w (w.alloc (.cells #[.int .i64 a, .int .i64 b] 92)) := (Below.refl _ _).alloc (Nat.le_refl _) _
  have HB := Lib.hid hB
  rcases hok with ⟨h1, h2, h3⟩ | ⟨h1, h2⟩
  · have HE : Hid (tileP pl (a, b) = b.toNat) := Lib.hid (by unfold tileP; rw [if_pos h1])
    obtain ⟨v, hv⟩ : ∃ v : Nat, b = v := ⟨b.toNat, by omega⟩
    have e1 : a = -1 := h1
    subst e1
    subst hv
    clear hB h1 h2 h3 hx
    go_enter Tryz.func55, Tryz.ntmps55
    go_wp2
    go_ret
    exact ⟨ret_int (by rw [HE.out]; omega), HB.out⟩
  · obtain ⟨v, hv⟩ : ∃ v : Nat, a = v := ⟨a.toNat, by have : (0 : Int) ≤ a := h1; omega⟩
    subst hv
    have hvn : v < n := by have : (v : Int) < n := h2; omega
    have HE : Hid (tileP pl ((v : Int), b) = pl.getD v 0) := Lib.hid (by unfold tileP; rw [if_neg (by show ¬ ((v : Int) = -1); omega)]; rfl)
    obtain ⟨bl, off, rfl, hbl, hc⟩ := hx v (by rw [Opt.intL_len, hn]; exact hvn)
    rw [Opt.intL_at] at hc
    have hc2 := (hB.cell (p := ⟨bl, off + v, none⟩) hbl).trans hc
    have hne : ((v : Int) == -1) = false := by rw [beq_eq_false_iff_ne]; omega
    have hk0 : (0 : Int) ≤ (v : Int) := Int.natCast_nonneg _
    have hk1 : (v : Int) < (n : Int) := by omega
    clear hB h1 h2 hx hc
    generalize pl.getD v 0 = z at *
    go_enter Tryz.func55, Tryz.ntmps55
    go_wp2
    go_ret
    exact ⟨ret_int (by rw [HE.out]), HB.out⟩

end Go.Proofs.YtliedgaefgomjaaGreat
/- netPins. -/
namespace Go.Proofs.YtliedgaefgomjaaGreat
open Go.RowKit Go.Deep Cut Plc

/-- A load that is carried out where it comes up, not ahead of the calls beside it. -/
def lateLd (t : TypeId) (o : Operand) : Op := Op.load t o
theorem lateLd_of (t : TypeId) (o : Operand) : Op.load t o = lateLd t o := rfl
@[go_sem] theorem lateLd_run (t : TypeId) (o : Operand) : lateLd t o = Op.load t o := rfl
theorem Tryz.infoPn : (Tryz.prog.info? 92).map (fun i => (i.zero, i.size, i.bytes)) = some (some (.agg #[.int .i64 0, .int .i64 0]), 2, 16) := by kernel_rfl
theorem Tryz.infoPns : (Tryz.prog.info? 64).map (fun i => (i.zero, i.size, i.bytes)) = some (some (.slice none 0 0), 1, 24) := by kernel_rfl
theorem ret_pin {a b : Int} {a' b' : Int} (h : a = a') (h2 : b = b') : Ending.returned (.agg #[.int .i64 a, .int .i64 b]) = .returned (.agg #[.int .i64 a', .int .i64 b']) := by rw [h, h2]

set_option maxHeartbeats 400000 in
theorem inPin_any (k : Nat) (w : World) (hk : k ≤ 1000) : Calls Tryz.prog 50 #[.int .i64 k] w fun e w' => e = .returned (.agg #[.int .i64 (inP k).1, .int .i64 (inP k).2]) ∧ Below w.heap.size w w' := by
  go_enter Tryz.func50, Tryz.ntmps50
  go_wp2
  exact bodyPost_ret (v := .agg #[.int .i64 (-1), .int .i64 ((k : Int) * 5)]) (by simp [results, Tryz.results50, go_sem]) rfl ⟨ret_pin rfl (by show (k : Int) * 5 = ((k * 5 : Nat) : Int); omega), (Below.refl _ _).alloc (Nat.le_refl _) _⟩
set_option maxHeartbeats 400000 in
theorem cePin_any (k : Nat) (w : World) (_hk : k ≤ 1000) : Calls Tryz.prog 51 #[.int .i64 k] w fun e w' => e = .returned (.agg #[.int .i64 (ceP k).1, .int .i64 (ceP k).2]) ∧ Below w.heap.size w w' := by
  go_enter Tryz.func51, Tryz.ntmps51
  go_wp2
  exact bodyPost_ret (v := .agg #[.int .i64 (k : Int), .int .i64 0]) (by simp [results, Tryz.results51, go_sem]) rfl ⟨rfl, (Below.refl _ _).alloc (Nat.le_refl _) _⟩
set_option maxHeartbeats 400000 in
theorem ouPin_any (k : Nat) (w : World) (hk : k ≤ 1000) : Calls Tryz.prog 53 #[.int .i64 k] w fun e w' => e = .returned (.agg #[.int .i64 (ouP k).1, .int .i64 (ouP k).2]) ∧ Below w.heap.size w w' := by
  go_enter Tryz.func53, Tryz.ntmps53
  go_wp2
  exact bodyPost_ret (v := .agg #[.int .i64 (-1), .int .i64 ((k : Int) * 5 + 5 - 1)]) (by simp [results, Tryz.results53, go_sem]) rfl ⟨ret_pin rfl (by show (k : Int) * 5 + 5 - 1 = ((k * 5 + 4 : Nat) : Int); omega), (Below.refl _ _).alloc (Nat.le_refl _) _⟩

theorem grown_off {w0 w5 : World} {o : Obj} {r : Option Nat} (hgr : (w0.alloc o).grownBy w5 r) : ∀ b, b < w0.heap.size → some b ≠ r → w5.heap[b]? = w0.heap[b]? := fun b h1 h2 => by
  have h := hgr.block b (by simp; omega) h2
  rw [h]
  exact (World.grownBy_alloc w0 o none).block b h1 (by simp)
section
variable {ops : Array Oper} {o : Oper} {a : Act} {Q : Exit → Act → World → Prop}
/-- A pin is appended to a row; it is stored afterwards. -/
theorem step_pushPin {K : Act → World → Prop} {E : Prop} (hgd : o.guard = none) (s x : Operand) (ho : o.op = .call { callee := .builtin .append, args := #[s, x], argTypes := #[64, 64] })
    (wr : World) (B g N b v n : Nat) (ps : List (List Pn)) (hs : Array Value) (h : NetsAt wr B g N b ps hs) (hB : B ≤ wr.heap.size) (hv : v < N) (h0 : Value) (he : hs[v]? = some h0) (hn : (ps.getD v []).length = n) (hnb : b ≤ 100000) (y1 y2 : Int) (hev : a.eval s = h0) (hx : a.eval x = .slice (some ⟨wr.heap.size, 0, none⟩) 1 1)
    (cont : ∀ g' cap' w5, NetsAt (w5.setCell ⟨g, v, none⟩ (.slice (some ⟨g', 0, none⟩) (n + 1) cap')) B g N (b + 1) (addPin ps v (y1, y2)) (hs.setIfInBounds v (.slice (some ⟨g', 0, none⟩) (n + 1) cap')) → w5.cell? ⟨g, v, none⟩ = some h0 → w5.frozen? ⟨g, v, none⟩ = false → Below B wr w5 → (∀ b, b < wr.heap.size → some b ≠ h0.ownBlock → w5.heap[b]? = wr.heap[b]?) → K (a.put o.dst (.slice (some ⟨g', 0, none⟩) (n + 1) cap')) w5) :
    if Region.wanted o (yielded ops a.tmps) = true then Oper.wp Tryz.prog o a (wr.alloc (.cells #[.int .i64 y1, .int .i64 y2] 92)) K Q else E := by
  obtain ⟨i0, hi0, hz0, hz1, hz2⟩ := info_split Tryz.infoPn
  obtain ⟨h', he', hown⟩ := h.own v hv
  rw [he] at he'
  injection he' with he'
  subst he'
  have hbd := h.bd v
  have hgl := h.row.lt
  rw [hn] at hown hbd
  refine step_append_kept _ hgd s x 64 ho B 92 i0 _ 2 16 Tryz.underlying64 hi0 hz0 hz1 hz2 rfl (by omega) h0 n _ hev (hown.alloc _) ⟨wr.heap.size, 0, none⟩ 1 1 [.int .i64 y1, .int .i64 y2] hx rfl (World.news_of_block (cs := #[.int .i64 y1, .int .i64 y2]) (t := 92) (fr := (0, 0)) (heap_alloc_new wr _)) (by simp [Value.oneCell']) (by omega) (by simp [maxLen]; omega) (by omega) (by simp; omega) _ rfl ?_
  intro g' cap' w5 hown5 hgr5 hat5 hlt5 hkept5
  have hne : some g ≠ h0.ownBlock := by
    rcases h.off v h0 he with e | e
    · rw [e]; simp
    · exact fun x => e x.symm
  have hrow : Row w5 g 64 hs := (grown_off hgr5 g hgl hne).trans h.row
  have hcell : w5.cell? ⟨g, v, none⟩ = some h0 := (hrow.cell v).trans he
  refine cont g' cap' w5 ?_ hcell (hrow.frozen v) ?_ (grown_off hgr5)
  · have hal : NetsAt (wr.alloc (.cells #[.int .i64 y1, .int .i64 y2] 92)) B g N b ps hs := h.below ((Below.refl _ _).alloc (Nat.le_refl _) _)
    exact hal.push hv he hn y1 y2 hown5 hgr5 hat5
  · exact Below.grown ((Below.refl _ _).alloc hB _) hgr5 (by simp; omega) (fun c hc => (hown.lt c hc).1)
end

set_option maxRecDepth 10000 in
set_option maxHeartbeats 1000000 in
theorem netPinsL_any (m f N n cc nl nc gc oc : Nat) (nA gA oA AC : Option Addr) (ns : List Int) (gs : List (Int × Int)) (os : List Int) (ou : List Nat) (ce : List Cl) (w : World) (hc : CircAt w w.heap.size nA gA oA ns gs os) (hU : CeIn w w.heap.size AC ce)
    (hnl : ns.length = nl) (hf : f = 1 + m + nl) (hN : N = f + gs.length) (hm : m ≤ 4) (hnl3 : nl ≤ 3) (hg14 : gs.length ≤ 14) (ho3 : os.length ≤ 100) (hn : ce.length = n) (hn17 : n ≤ 17)
    (hnet : ∀ k, k < n → (ce.getD k (0, [], 0, false)).1 < N) (hin : ∀ k, k < n → ∀ j, j < (ce.getD k (0, [], 0, false)).2.1.length → (ce.getD k (0, [], 0, false)).2.1.getD j 0 < N) (hil : ∀ k, k < n → (ce.getD k (0, [], 0, false)).2.1.length ≤ 1000)
    (hou : ou.length = os.length) (hov : ∀ k, k < os.length → os.getD k 0 = ((ou.getD k 0 : Nat) : Int) ∧ ou.getD k 0 / 2 < N) :
    Calls Tryz.prog 26 #[.agg #[.int .i64 (m : Int), .slice nA nl nc, .slice gA gs.length gc, .slice oA os.length oc], .slice AC n cc] w fun e w' => ∃ (g : Nat) (ps : List (List Pn)) (hs : Array Value), e = .returned (.slice (some ⟨g, 0, none⟩) N N) ∧ NetsAt w' w.heap.size g N 20000 ps hs ∧ PinsL ps (pinL m ce ou) ∧ Below w.heap.size w w' := by
  have HB0 := Lib.hid (Boxed.new w (m : Int) nA gA oA nl nc gs.length gc os.length oc 26)
  have hbw : Below w.heap.size w (w.alloc (.cells #[.int .i64 (m : Int), .slice nA nl nc, .slice gA gs.length gc, .slice oA os.length oc] 26)) := (Below.refl _ _).alloc (Nat.le_refl _) _
  have hlt0 : w.heap.size < (w.alloc (.cells #[.int .i64 (m : Int), .slice nA nl nc, .slice gA gs.length gc, .slice oA os.length oc] 26)).heap.size := by simp
  have HC := Lib.hid ((hc.below hbw).mono hbw.size)
  have HU := Lib.hid ((hU.below hbw).mono hbw.size)
  have HL0 := Lib.hid hbw
  have HNE := Lib.hid hN
  have HFE := Lib.hid hf
  have HCN := Lib.hid hn
  have HNT := Lib.hid hnet
  have HIN := Lib.hid hin
  have HIL := Lib.hid hil
  have HOV := Lib.hid hov
  have HOL := Lib.hid hou
  have hN25 : N ≤ 25 := by omega
  have hfN : f ≤ N := by omega
  have hf1 : 1 + m ≤ f := by omega
  have hmk := fun W => run_make_row' (P := Tryz.prog) 62 64 (.slice none 0 0) 24 Tryz.underlying62 Tryz.infoPns rfl .i64 .i64 N (by omega) (by omega) W
  have s1 : IntKind.i64.wrap (1 + (m : Int) + (nl : Int) + (gs.length : Int)) = (N : Int) := by rw [show 1 + (m : Int) + (nl : Int) + (gs.length : Int) = (N : Int) by omega]; exact IntWalk.i64_in _ (by omega)
  clear hc hU hbw hn hnet hin hil hov hou hN hf hnl
  go_enter Tryz.func26, Tryz.ntmps26
  go_upto_region 1 with fail
  generalize w.alloc (.cells #[.int .i64 (m : Int), .slice nA nl nc, .slice gA gs.length gc, .slice oA os.length oc] 26) = w0 at *
  have q0 := HB0.out.c0
  have q1 := HB0.out.c1
  have q2 := HB0.out.c2
  have q3 := HB0.out.c3
  go_region_held3 (fun w' => w'.cell? ⟨w.heap.size, 0, none⟩ = some (.int .i64 (m : Int)) ∧ w'.cell? ⟨w.heap.size, 1, none⟩ = some (.slice nA nl nc) ∧ w'.cell? ⟨w.heap.size, 2, none⟩ = some (.slice gA gs.length gc) ∧ w'.cell? ⟨w.heap.size, 3, none⟩ = some (.slice oA os.length oc)) (first | go_keep | (refine ⟨?_, ?_, ?_, ?_⟩ <;> (rw [hc3 _ _ (by simp; omega)]; simp [*])))
        (first | (go_at_call 35; refine (firstGate_any _ _ _ _ _ _ _ _ _ _ _ ?_ ?_ ?_).mono ?_; (omega); (omega); (omega); rintro e w3 ⟨rfl, hb3⟩; obtain ⟨hc3, hf3⟩ := bcell hb3))
  clear hmk s1 hc3 hf3 q0 q1 q2 q3
  have hb3' : Below w0.heap.size w0 w3 := (Below.refl _ w0).drew.trans hb3
  clear hb3
  have HX3 := Lib.hid hb3'
  have hz3 := hb3'.size
  have HN4 := Lib.hid (NetsAt.made w3 N)
  have HX4 : Hid (Below w0.heap.size w0 (w3.alloc (.cells (madeCells #[.slice none 0 0] N) 64))) := Lib.hid (hb3'.alloc hz3 _)
  have HP4 : Hid (PinsL (List.replicate N []) (pl1 0)) := Lib.hid ((PinsL.nil N).iff (fun _ => rfl))
  rename_i _hheld
  clear _hheld hb3'
  generalize w3.alloc (.cells (madeCells #[.slice none 0 0] N) 64) = w4 at *
  generalize w3.heap.size = g at *
  have HQ : Hid (w.heap.size < w0.heap.size) := Lib.hid hlt0
  have HB4 := Lib.hid (HB0.out.below HX4.out hlt0)
  have q0 := HB4.out.c0
  clear HX3
  go_upto_region 3 with fail
  go_loopw [25] (fun iv wr => ∃ (k : Nat) (ps : List (List Pn)) (hs : Array Value), k ≤ m ∧ iv = .int .i64 k ∧ Hid (NetsAt wr g g N k ps hs) ∧ Hid (PinsL ps (pl1 k)) ∧ Hid (Below w0.heap.size w0 wr)) (fun iv _ => m - (intOf iv).toNat)
  case atStart => exact ⟨0, _, _, Nat.zero_le _, rfl, HN4, HP4, HX4⟩
  case round =>
    clear HN4 HP4 HX4 q0 HB4 w4 w3
    obtain ⟨k, ps, hs, hk, rfl, HN, HP, HX⟩ := hrel
    by_cases hlt : k < m
    · obtain ⟨h0, he, hown⟩ := HN.out.own (1 + k) (by omega)
      obtain ⟨n0, hn0⟩ : ∃ n0, (ps.getD (1 + k) []).length = n0 := ⟨_, rfl⟩
      have HN0 := Lib.hid hn0
      have HE := Lib.hid he
      have hcN := (HN.out.row.cell (1 + k)).trans he
      have hPL : Hid (1 + k < ps.length) := Lib.hid (by rw [HN.out.len]; omega)
      have hgz := HN.out.lt
      have i1 : (0 : Int) ≤ 1 + (k : Int) := by omega
      have i2 : 1 + (k : Int) < (N : Int) := by omega
      have i3 : (1 + (k : Int)).toNat = 1 + k := by omega
      have i4 : IntKind.i64.wrap (1 + (k : Int)) = 1 + (k : Int) := IntWalk.i64_in _ (by omega)
      clear hown hn0 he
      go_upto_region 5 with fail
      go_region_law (first
        | (refine step_pushPin (by rfl) _ _ (by rfl) w5 g g N k (1 + k) n0 ps hs HN5.out (by omega) (by omega) h0 HE.out HN0.out (by omega) (inP k).1 (inP k).2 (by simp [Act.eval]) (by simp [Act.eval]) ?_; intro g' cap' w6 hN6 hc6 hf6 hb6 hk6)
        | (go_simp; go_at_call 50; refine (inPin_any k _ (by omega)).mono ?_; rintro e w5 ⟨rfl, hb5⟩; have HN5 := Lib.hid ((HN.out.keep (w' := wr.drew) (fun _ _ _ => rfl)).below hb5); have hz5 : wr.heap.size ≤ w5.heap.size := hb5.size; have c5 := (HN5.out.row.cell (1 + k)).trans HE.out; have ca := fun o => (World.cell?_alloc_lt w5 o ⟨g, 1 + k, none⟩ HN5.out.lt).trans c5))
      all_goals
        have HX7 := Lib.hid ((((HX.out.drew).trans (hb5.mono HX.out.size)).trans (hb6.mono hz3)).setCell (p := ⟨g, 1 + k, none⟩) hz3 (.slice (some ⟨g', 0, none⟩) (n0 + 1) cap'))
        have HN7 := Lib.hid hN6
        have HP7 := Lib.hid (HP.out.add (F' := pl1 (k + 1)) hPL.out (fun _ => rfl))
        clear hN6 hc6 hf6 hk6 hb5 hb6 c5 ca hcN i1 i2 i3 i4 HN5
        generalize w6.setCell ⟨g, 1 + k, none⟩ (.slice (some ⟨g', 0, none⟩) (n0 + 1) cap') = w7 at *
        go_wp2
        go_roundw
        case rel => exact ⟨k + 1, _, _, by omega, by go_num, HN7, HP7, HX7⟩
        case measure => simp [intOf]; omega
    · obtain rfl : k = m := by omega
      have HP2 : Hid (PinsL ps (fun v => pl1 k v ++ pl2 ce 0 v)) := Lib.hid (HP.out.iff (fun _ => List.append_nil _))
      clear HP
      go_upto_region 8 with fail
      go_loopw [44] (fun iv wr => ∃ (j : Nat) (ps : List (List Pn)) (hs : Array Value), j ≤ n ∧ iv = .int .i64 j ∧ Hid (NetsAt wr g g N (k + j) ps hs) ∧ Hid (PinsL ps (fun v => pl1 k v ++ pl2 ce j v)) ∧ Hid (Below w0.heap.size w0 wr)) (fun iv _ => n - (intOf iv).toNat)
      case atStart => exact ⟨0, _, _, Nat.zero_le _, rfl, HN, HP2, HX⟩
      case round =>
        clear HN HP2 HX
        obtain ⟨j, ps, hs, hj, rfl, HN, HP, HX⟩ := hrel
        by_cases hlt : j < n
        · obtain ⟨b, off, rfl, hbl, A', c', l0, l1, ⟨l2, l3⟩, hlf⟩ := HU.out j (by rw [HCN.out]; exact hlt)
          have l0 := (HX.out.cell (p := ⟨b, off + j * 4, none⟩) hbl).trans l0
          have l1 := (HX.out.cell (p := ⟨b, off + j * 4 + 1, none⟩) hbl).trans l1
          have l2 := (HX.out.cell (p := ⟨b, off + j * 4 + 2, none⟩) hbl).trans l2
          have l3 := (HX.out.cell (p := ⟨b, off + j * 4 + 3, none⟩) hbl).trans l3
          have hvN := HNT.out j hlt
          have HST := Lib.hid (fun v => pl2_succ ce j v)
          generalize (ce.getD j (0, [], 0, false)).2.2.1 = t at *
          generalize (ce.getD j (0, [], 0, false)).2.2.2 = r at *
          generalize (ce.getD j (0, [], 0, false)).2.1 = y at *
          generalize (ce.getD j (0, [], 0, false)).1 = v at *
          obtain ⟨yl, hyl⟩ : ∃ yl, y.length = yl := ⟨_, rfl⟩
          rw [hyl] at l1
          clear hlf hyl
          go_upto_region 10 with fail
          clear l0 l1 l2 l3
          have hb5 : Below wr.heap.size wr (wr.alloc (.cells #[.int .i64 v, .slice A' yl c', .int .i64 t, .bool r] 45)) := (Below.refl _ _).alloc (Nat.le_refl _) _
          have hr5 : Row (wr.alloc (.cells #[.int .i64 v, .slice A' yl c', .int .i64 t, .bool r] 45)) wr.heap.size 45 #[.int .i64 v, .slice A' yl c', .int .i64 t, .bool r] := heap_alloc_new wr _
          have HN1 := Lib.hid (HN.out.below hb5)
          have HX1 := Lib.hid (HX.out.trans (hb5.mono HX.out.size))
          obtain ⟨h0, he, hown⟩ := HN.out.own v hvN
          have hgq := HN.out.lt
          have hqo : some wr.heap.size ≠ h0.ownBlock := fun e => by
            have := (hown.lt _ e.symm).2
            omega
          generalize wr.alloc (.cells #[.int .i64 v, .slice A' yl c', .int .i64 t, .bool r] 45) = wb at *
          clear hown
          generalize wr.heap.size = q at *
          have p0 := hr5.cell 0
          simp at p0
          have hqz := hr5.lt
          clear hb5 hr5 HN HX
          obtain ⟨n0, hn0⟩ : ∃ n0, (ps.getD v []).length = n0 := ⟨_, rfl⟩
          have HN0 := Lib.hid hn0
          have HE := Lib.hid he
          have hcN := (HN1.out.row.cell v).trans he
          have hPL : Hid (v < ps.length) := Lib.hid (by rw [HN1.out.len]; omega)
          have hgz := HN1.out.lt
          have i1 : (0 : Int) ≤ (v : Int) := by omega
          have i2 : (v : Int) < (N : Int) := by omega
          clear hn0 he
          rw [lateLd_of 64 (.tmp 55)]
          go_region_held3 (fun w' => w'.cell? ⟨q, 0, none⟩ = some (.int .i64 v)) (first | (with_reducible assumption) | go_keep | (rw [hc5' _ _ (by simp; omega)]; exact p0) | (with_reducible exact p7 _))
            (first
            | (refine step_pushPin (by rfl) _ _ (by rfl) w5 g g N (k + j) v n0 ps hs HN5.out (by omega) (by omega) h0 HE.out HN0.out (by omega) (ceP j).1 (ceP j).2 (by simp [Act.eval]) (by simp [Act.eval]) ?_; intro g' cap' w6 hN6 hc6 hf6 hb6 hk6; have p6 := (World.cell?_of_block (a := ⟨q, 0, none⟩) (hk6 q (by omega) hqo)).trans p5; have p7 := fun u => (World.cell?_of_block (a := ⟨q, 0, none⟩) (Below.heap_setCell w6 ⟨g, v, none⟩ u q (by simp; omega))).trans p6)
            | (go_at_call 51; refine (cePin_any j _ (by omega)).mono ?_; rintro e w5 ⟨rfl, hb5⟩; have HN5 := Lib.hid ((HN1.out.keep (w' := wb.drew) (fun _ _ _ => rfl)).below hb5); have hz5 : wb.heap.size ≤ w5.heap.size := hb5.size; have c5 := (HN5.out.row.cell v).trans HE.out; have ca := fun o => (World.cell?_alloc_lt w5 o ⟨g, v, none⟩ HN5.out.lt).trans c5; obtain ⟨hc5', _⟩ := bcell hb5; have p5 := (hb5.cell (p := ⟨q, 0, none⟩) (by simp; omega)).trans p0))
          all_goals
            have HX7 := Lib.hid ((((HX1.out.drew).trans (hb5.mono HX1.out.size)).trans (hb6.mono hz3)).setCell (p := ⟨g, v, none⟩) hz3 (.slice (some ⟨g', 0, none⟩) (n0 + 1) cap'))
            have HN7 := Lib.hid hN6
            have HP7 := Lib.hid (HP.out.add (F' := fun v => pl1 k v ++ pl2 ce (j + 1) v) hPL.out (fun v => by rw [HST.out v]; exact (List.append_assoc _ _ _).symm))
            rename_i _hheld10
            clear _hheld10 hN6 hc6 hf6 hk6 hb5 hb6 c5 ca hcN i1 i2 HN5 p0 p5 p6 p7 hc5'
            generalize w6.setCell ⟨g, v, none⟩ (.slice (some ⟨g', 0, none⟩) (n0 + 1) cap') = w7 at *
            go_wp2
            go_roundw
            case rel => exact ⟨j + 1, _, _, by omega, by go_num, HN7, HP7, HX7⟩
            case measure => simp [intOf]; omega
        · obtain rfl : j = n := by omega
          have HP3 : Hid (PinsL ps (fun v => (pl1 k v ++ pl2 ce j v) ++ pl3 ce 0 v)) := Lib.hid (HP.out.iff (fun _ => List.append_nil _))
          have HN3 := Lib.hid (HN.out.more (b' := 100) (by omega))
          clear HP HN
          go_upto_region 13 with fail
          go_loopw [65] (fun iv wr => ∃ (a : Nat) (ps : List (List Pn)) (hs : Array Value), a ≤ j ∧ iv = .int .i64 a ∧ Hid (NetsAt wr g g N (100 + 1000 * a) ps hs) ∧ Hid (PinsL ps (fun v => (pl1 k v ++ pl2 ce j v) ++ pl3 ce a v)) ∧ Hid (Below w0.heap.size w0 wr)) (fun iv _ => j - (intOf iv).toNat)
          case atStart => exact ⟨0, _, _, Nat.zero_le _, rfl, HN3, HP3, HX⟩
          case round =>
            clear HN3 HP3 HX
            obtain ⟨a, ps, hs, ha, rfl, HN, HP, HX⟩ := hrel
            by_cases hlt : a < j
            · obtain ⟨b, off, rfl, hbl, A', c', l0, l1, ⟨l2, l3⟩, hlf⟩ := HU.out a (by rw [HCN.out]; exact hlt)
              have l0 := (HX.out.cell (p := ⟨b, off + a * 4, none⟩) hbl).trans l0
              have l1 := (HX.out.cell (p := ⟨b, off + a * 4 + 1, none⟩) hbl).trans l1
              have l2 := (HX.out.cell (p := ⟨b, off + a * 4 + 2, none⟩) hbl).trans l2
              have l3 := (HX.out.cell (p := ⟨b, off + a * 4 + 3, none⟩) hbl).trans l3
              have hyb := HIL.out a hlt
              have HYI := Lib.hid (HIN.out a hlt)
              have HST := Lib.hid (fun v => pl3_succ ce a v)
              have HLF := Lib.hid hlf
              generalize (ce.getD a (0, [], 0, false)).2.2.1 = t at *
              generalize (ce.getD a (0, [], 0, false)).2.2.2 = r at *
              generalize (ce.getD a (0, [], 0, false)).2.1 = y at *
              generalize (ce.getD a (0, [], 0, false)).1 = v at *
              obtain ⟨yl, hyl⟩ : ∃ yl, y.length = yl := ⟨_, rfl⟩
              rw [hyl] at l1 hyb HYI HST
              have HYL := Lib.hid hyl
              clear hlf hyl
              go_upto_region 15 with fail
              clear l0 l1 l2 l3
              have hb5 : Below wr.heap.size wr (wr.alloc (.cells #[.int .i64 v, .slice A' yl c', .int .i64 t, .bool r] 45)) := (Below.refl _ _).alloc (Nat.le_refl _) _
              have hr5 : Row (wr.alloc (.cells #[.int .i64 v, .slice A' yl c', .int .i64 t, .bool r] 45)) wr.heap.size 45 #[.int .i64 v, .slice A' yl c', .int .i64 t, .bool r] := heap_alloc_new wr _
              have HN1 := Lib.hid (HN.out.below hb5)
              have HX1 := Lib.hid (HX.out.trans (hb5.mono HX.out.size))
              generalize wr.alloc (.cells #[.int .i64 v, .slice A' yl c', .int .i64 t, .bool r] 45) = wb at *
              generalize wr.heap.size = q at *
              have p1 := hr5.cell 1
              simp at p1
              clear hb5 hr5 HN HX
              have HPa : Hid (PinsL ps (fun v => ((pl1 k v ++ pl2 ce j v) ++ pl3 ce a v) ++ pl3y y a 0 v)) := Lib.hid (HP.out.iff (fun _ => List.append_nil _))
              clear HP
              go_upto_region 16 with fail
              clear p1
              go_loopw [73] (fun iv wr => ∃ (d : Nat) (ps : List (List Pn)) (hs : Array Value), d ≤ yl ∧ iv = .int .i64 d ∧ Hid (NetsAt wr g g N (100 + 1000 * a + d) ps hs) ∧ Hid (PinsL ps (fun v => ((pl1 k v ++ pl2 ce j v) ++ pl3 ce a v) ++ pl3y y a d v)) ∧ Hid (Below w0.heap.size w0 wr)) (fun iv _ => yl - (intOf iv).toNat)
              case atStart => exact ⟨0, _, _, Nat.zero_le _, rfl, HN1, HPa, HX1⟩
              case round =>
                clear HN1 HPa HX1
                obtain ⟨d, ps, hs, hd, rfl, HN, HP, HX⟩ := hrel
                by_cases hltd : d < yl
                · obtain ⟨bb, oo, rfl, hbb, hcy⟩ := HLF.out d (by rw [Opt.intL_len, HYL.out]; exact hltd)
                  rw [Opt.intL_at] at hcy
                  have hcy := (HX.out.cell (p := ⟨bb, oo + d, none⟩) hbb).trans hcy
                  have huN := HYI.out d hltd
                  have HSY := Lib.hid (fun v => pl3y_succ y a d v)
                  generalize y.getD d 0 = u at *
                  obtain ⟨h0, he, hown⟩ := HN.out.own u huN
                  obtain ⟨n0, hn0⟩ : ∃ n0, (ps.getD u []).length = n0 := ⟨_, rfl⟩
                  have HN0 := Lib.hid hn0
                  have HE := Lib.hid he
                  have hcN := (HN.out.row.cell u).trans he
                  have hPL : Hid (u < ps.length) := Lib.hid (by rw [HN.out.len]; omega)
                  have hgz := HN.out.lt
                  have i1 : (0 : Int) ≤ (u : Int) := by omega
                  have i2 : (u : Int) < (N : Int) := by omega
                  clear hown hn0 he
                  go_upto_region 18 with fail
                  clear hcy
                  go_region_law (first
                    | (refine step_pushPin (by rfl) _ _ (by rfl) w5 g g N (100 + 1000 * a + d) u n0 ps hs HN5.out (by omega) (by omega) h0 HE.out HN0.out (by omega) (ceP a).1 (ceP a).2 (by simp [Act.eval]) (by simp [Act.eval]) ?_; intro g' cap' w6 hN6 hc6 hf6 hb6 hk6)
                    | (go_simp; go_at_call 51; refine (cePin_any a _ (by omega)).mono ?_; rintro e w5 ⟨rfl, hb5⟩; have HN5 := Lib.hid ((HN.out.keep (w' := wr.drew) (fun _ _ _ => rfl)).below hb5); have hz5 : wr.heap.size ≤ w5.heap.size := hb5.size; have c5 := (HN5.out.row.cell u).trans HE.out; have ca := fun o => (World.cell?_alloc_lt w5 o ⟨g, u, none⟩ HN5.out.lt).trans c5))
                  all_goals
                    have HX7 := Lib.hid ((((HX.out.drew).trans (hb5.mono HX.out.size)).trans (hb6.mono hz3)).setCell (p := ⟨g, u, none⟩) hz3 (.slice (some ⟨g', 0, none⟩) (n0 + 1) cap'))
                    have HN7 := Lib.hid hN6
                    have HP7 := Lib.hid (HP.out.add (F' := fun v => ((pl1 k v ++ pl2 ce j v) ++ pl3 ce a v) ++ pl3y y a (d + 1) v) hPL.out (fun v => by rw [HSY.out v]; exact (List.append_assoc _ _ _).symm))
                    clear hN6 hc6 hf6 hk6 hb5 hb6 c5 ca hcN i1 i2 HN5
                    generalize w6.setCell ⟨g, u, none⟩ (.slice (some ⟨g', 0, none⟩) (n0 + 1) cap') = w7 at *
                    go_wp2
                    go_roundw
                    case rel => exact ⟨d + 1, _, _, by omega, by go_num, HN7, HP7, HX7⟩
                    case measure => simp [intOf]; omega
                · obtain rfl : d = yl := by omega
                  have HN8 := Lib.hid (HN.out.more (b' := 100 + 1000 * (a + 1)) (by omega))
                  have HP8 := Lib.hid (HP.out.iff (F' := fun v => (pl1 k v ++ pl2 ce j v) ++ pl3 ce (a + 1) v) (fun v => by rw [HST.out v]; exact (List.append_assoc _ _ _).symm))
                  clear HN HP
                  go_wp2
                  go_roundw
                  case rel => exact ⟨a + 1, _, _, by omega, by go_num, HN8, HP8, HX⟩
                  case measure => simp [intOf]; omega
            · obtain rfl : a = j := by omega
              have HP4 : Hid (PinsL ps (fun v => ((pl1 k v ++ pl2 ce a v) ++ pl3 ce a v) ++ pl4 ou 0 v)) := Lib.hid (HP.out.iff (fun _ => List.append_nil _))
              have HN4 := Lib.hid (HN.out.more (b' := 18000) (by omega))
              have HB4 := Lib.hid (HB0.out.below HX.out hlt0)
              have q3 := HB4.out.c3
              clear HP HN
              go_upto_region 22 with fail
              clear q3 HB4
              go_loopw [93] (fun iv wr => ∃ (z : Nat) (ps : List (List Pn)) (hs : Array Value), z ≤ os.length ∧ iv = .int .i64 z ∧ Hid (NetsAt wr g g N (18000 + z) ps hs) ∧ Hid (PinsL ps (fun v => ((pl1 k v ++ pl2 ce a v) ++ pl3 ce a v) ++ pl4 ou z v)) ∧ Hid (Below w0.heap.size w0 wr)) (fun iv _ => os.length - (intOf iv).toNat)
              case atStart => exact ⟨0, _, _, Nat.zero_le _, rfl, HN4, HP4, HX⟩
              case round =>
                clear HN4 HP4 HX
                obtain ⟨z, ps, hs, hz, rfl, HN, HP, HX⟩ := hrel
                by_cases hltz : z < os.length
                · obtain ⟨b, off, rfl, hbl, hcell⟩ := HC.out.outs z hltz
                  have hcell := (HX.out.cell (p := ⟨b, off + z, none⟩) hbl).trans hcell
                  obtain ⟨ho1, ho2⟩ := HOV.out z hltz
                  have HSZ := Lib.hid (fun v => pl4_succ ou z v)
                  rw [ho1] at hcell
                  clear ho1
                  generalize ou.getD z 0 = l at *
                  have hl2 : ((l : Nat) : Int) / 2 = ((l / 2 : Nat) : Int) := by omega
                  have HL2 := Lib.hid hl2
                  clear hl2
                  go_wp2_with fail
                  refine (var_any _ _).mono ?_
                  rintro e w9 ⟨rfl, hw9⟩
                  obtain rfl := hw9
                  rw [HL2.out]
                  clear hcell HL2
                  generalize l / 2 = u at *
                  by_cases hu0 : u = 0
                  · subst hu0
                    have HP7 := Lib.hid (HP.out.iff (F' := fun v => ((pl1 k v ++ pl2 ce a v) ++ pl3 ce a v) ++ pl4 ou (z + 1) v) (fun v => by rw [HSZ.out v, if_neg (fun h => h.2 h.1), List.append_nil]))
                    have HN7 := Lib.hid (HN.out.more (b' := 18000 + (z + 1)) (by omega))
                    clear HN HP
                    go_wp2
                    go_roundw
                    case rel => exact ⟨z + 1, _, _, by omega, by go_num, HN7, HP7, HX⟩
                    case measure => simp [intOf]; omega
                  · have hne : (((u : Nat) : Int) != 0) = true := by simp; omega
                    obtain ⟨h0, he, hown⟩ := HN.out.own u ho2
                    obtain ⟨n0, hn0⟩ : ∃ n0, (ps.getD u []).length = n0 := ⟨_, rfl⟩
                    have HN0 := Lib.hid hn0
                    have HE := Lib.hid he
                    have hcN := (HN.out.row.cell u).trans he
                    have hPL : Hid (u < ps.length) := Lib.hid (by rw [HN.out.len]; omega)
                    have HU0 := Lib.hid hu0
                    have hgz := HN.out.lt
                    have i1 : (0 : Int) ≤ (u : Int) := by omega
                    have i2 : (u : Int) < (N : Int) := by omega
                    clear hown hn0 he hu0
                    go_upto_region 26 with fail
                    clear hne
                    go_region_law (first
                      | (refine step_pushPin (by rfl) _ _ (by rfl) w5 g g N (18000 + z) u n0 ps hs HN5.out (by omega) (by omega) h0 HE.out HN0.out (by omega) (ouP z).1 (ouP z).2 (by simp [Act.eval]) (by simp [Act.eval]) ?_; intro g' cap' w6 hN6 hc6 hf6 hb6 hk6)
                      | (go_simp; go_at_call 53; refine (ouPin_any z _ (by omega)).mono ?_; rintro e w5 ⟨rfl, hb5⟩; have HN5 := Lib.hid ((HN.out.keep (w' := wr.drew) (fun _ _ _ => rfl)).below hb5); have hz5 : wr.heap.size ≤ w5.heap.size := hb5.size; have c5 := (HN5.out.row.cell u).trans HE.out; have ca := fun o => (World.cell?_alloc_lt w5 o ⟨g, u, none⟩ HN5.out.lt).trans c5))
                    all_goals
                      have HX7 := Lib.hid ((((HX.out.drew).trans (hb5.mono HX.out.size)).trans (hb6.mono hz3)).setCell (p := ⟨g, u, none⟩) hz3 (.slice (some ⟨g', 0, none⟩) (n0 + 1) cap'))
                      have HN7 := Lib.hid hN6
                      have HP7 := Lib.hid (HP.out.add (F' := fun v => ((pl1 k v ++ pl2 ce a v) ++ pl3 ce a v) ++ pl4 ou (z + 1) v) hPL.out (fun v => by
                        have hu := HU0.out
                        rw [HSZ.out v, ← List.append_assoc]
                        congr 1
                        by_cases e : v = u
                        · rw [if_pos e, if_pos ⟨e, by omega⟩]
                        · rw [if_neg e, if_neg (fun h => e h.1)]))
                      clear hN6 hc6 hf6 hk6 hb5 hb6 c5 ca hcN i1 i2 HN5
                      generalize w6.setCell ⟨g, u, none⟩ (.slice (some ⟨g', 0, none⟩) (n0 + 1) cap') = w7 at *
                      go_wp2
                      go_roundw
                      case rel => exact ⟨z + 1, _, _, by omega, by go_num, HN7, HP7, HX7⟩
                      case measure => simp [intOf]; omega
                · obtain rfl : z = os.length := by omega
                  have HPF : Hid (PinsL ps (pinL k ce ou)) := Lib.hid (by
                    have h := HP.out
                    rw [← HOL.out] at h
                    have e := HCN.out
                    unfold pinL
                    rw [e]
                    exact h)
                  have HNF := Lib.hid ((HN.out.lower (B' := w.heap.size) (by omega)).more (b' := 20000) (by omega))
                  go_wp2
                  go_ret
                  exact ⟨g, ps, hs, rfl, HNF.out, HPF.out, HL0.out.trans (HX.out.mono HL0.out.size)⟩

end Go.Proofs.YtliedgaefgomjaaGreat
