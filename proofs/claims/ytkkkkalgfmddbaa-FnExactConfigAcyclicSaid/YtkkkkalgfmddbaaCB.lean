/- The contract of the library's concatenation of two slices. -/
import Derived.Test.YtkkkkalgfmddbaaC4
import Derived.Shelf.Spec.SlicesGrow
import Derived.Lib.OwnBridge
import Derived.Shelf.Spec.SlicesInsert
import Derived.Lib.AppendZerosOnto
namespace Go.Proofs.Ytkkkkalgfmddbaa
open Go.RowKit Go.Deep Cut
def CatOut (w : World) (xs ys : List Nat) (e : Ending) (w' : World) : Prop :=
  (xs = [] ∧ ys = [] ∧ e = .returned (.slice none 0 0) ∧ Below w.heap.size w w') ∨
  (∃ g cap, e = .returned (.slice (some ⟨g, 0, none⟩) (xs.length + ys.length) cap) ∧ w'.ownsRow w.heap.size 3 1 (.slice (some ⟨g, 0, none⟩) (xs.length + ys.length) cap) (xs.length + ys.length) (ivs (Opt.intL (xs ++ ys))) ∧ Below w.heap.size w w')
/-- The lengths, and the lists, of the first k of two. -/
def pre2 (a b k : Nat) : Nat := if k = 0 then 0 else if k = 1 then a else a + b
def preL (xs ys : List Nat) (k : Nat) : List Nat := if k = 0 then [] else if k = 1 then xs else xs ++ ys
theorem ints_src {w : World} {B : Nat} {A : Option Addr} {x : List Nat} (h : IntsAt w B A (Opt.intL x)) : ∀ j u, (ivs (Opt.intL x))[j]? = some u → ∃ ad, A = some ad ∧ w.cell? (ad.add j) = some u := by
  intro j u hu
  have hj : j < (Opt.intL x).length := by
    have := (List.getElem?_eq_some_iff.1 hu).1
    rwa [ivs_len] at this
  obtain ⟨b, off, e, _, hc⟩ := h j hj
  rw [ivs_get hj] at hu
  injection hu with hu
  exact ⟨_, e, by rw [← hu, Addr.add_lit]; exact hc⟩
theorem ivs_one (x : List Int) : ∀ u ∈ ivs x, u.oneCell' = true := by
  intro u hu
  simp [ivs] at hu
  obtain ⟨a, _, rfl⟩ := hu
  rfl
theorem ivsI_append (a b : List Nat) : ivs (Opt.intL (a ++ b)) = ivs (Opt.intL a) ++ ivs (Opt.intL b) := by simp [ivs, Opt.intL]

end Go.Proofs.Ytkkkkalgfmddbaa
/- The contract of the program's union of two cuts. -/
namespace Go.Proofs.Ytkkkkalgfmddbaa
open Go.RowKit Go.Deep Cut Go.Lib Go.Sort

structure CUp (d : Array Int) (m : Nat) : Prop where
  up : (compactUpTo d m).Pairwise (· < ·)
  mem : ∀ z, z ∈ compactUpTo d m ↔ ∃ j, j < m ∧ z = d[j]!
  le : ∀ z, z ∈ compactUpTo d m → 0 < m → z ≤ d[m - 1]!
theorem CUp.all (d : Array Int) (hs : ∀ i, i + 1 < d.size → d[i]! ≤ d[i + 1]!) : ∀ m, m ≤ d.size → CUp d m
  | 0, _ => ⟨by simp [compactUpTo], fun z => by simp [compactUpTo], fun z hz => by simp [compactUpTo] at hz⟩
  | m + 1, hm => by
    have ih := CUp.all d hs m (by omega)
    have hst : 0 < m → d[m - 1]! ≤ d[m]! := fun h => by
      have := hs (m - 1) (by omega)
      rwa [show m - 1 + 1 = m by omega] at this
    by_cases hk : keeps d m = true
    · have e : compactUpTo d (m + 1) = compactUpTo d m ++ [d[m]!] := by rw [compactUpTo_succ, if_pos hk]
      have hne : 0 < m → d[m]! ≠ d[m - 1]! := fun h => by
        simp [keeps] at hk
        rcases hk with h0 | h0
        · omega
        · exact h0
      refine ⟨?_, fun z => ?_, fun z hz _ => ?_⟩
      · rw [e, List.pairwise_append]
        refine ⟨ih.up, by simp, fun a ha b hb => ?_⟩
        simp at hb
        subst hb
        have hpos : 0 < m := by
          obtain ⟨j, hj, _⟩ := (ih.mem a).1 ha
          omega
        have h1 := ih.le a ha hpos
        have h2 := hst hpos
        have h3 := hne hpos
        omega
      · rw [e, List.mem_append, ih.mem]
        constructor
        · rintro (⟨j, hj, e⟩ | h)
          · exact ⟨j, by omega, e⟩
          · simp at h; exact ⟨m, by omega, h⟩
        · rintro ⟨j, hj, ez⟩
          by_cases h : j < m
          · exact .inl ⟨j, h, ez⟩
          · obtain rfl : j = m := by omega
            exact .inr (by simp [ez])
      · rw [e, List.mem_append] at hz
        rw [Nat.add_sub_cancel]
        rcases hz with h | h
        · have hpos : 0 < m := by
            obtain ⟨j, hj, _⟩ := (ih.mem z).1 h
            omega
          have h1 := ih.le z h hpos
          have h2 := hst hpos
          omega
        · simp at h; omega
    · have e : compactUpTo d (m + 1) = compactUpTo d m := by rw [compactUpTo_succ, if_neg hk, List.append_nil]
      have hm0 : 0 < m := by
        rcases Nat.eq_zero_or_pos m with h | h
        · exact absurd (by simp [keeps, h]) hk
        · exact h
      have heq : d[m]! = d[m - 1]! := by
        simp [keeps] at hk
        exact hk.2
      refine ⟨by rw [e]; exact ih.up, fun z => ?_, fun z hz _ => ?_⟩
      · rw [e, ih.mem]
        constructor
        · rintro ⟨j, hj, e⟩
          exact ⟨j, by omega, e⟩
        · rintro ⟨j, hj, ez⟩
          by_cases h : j < m
          · exact ⟨j, h, ez⟩
          · obtain rfl : j = m := by omega
            exact ⟨j - 1, by omega, by rw [ez, heq]⟩
      · rw [e] at hz
        rw [Nat.add_sub_cancel, heq]
        exact ih.le z hz hm0
theorem compact_sorted (l : List Int) (h : l.Pairwise (· ≤ ·)) : (Lib.compact l).Pairwise (· < ·) ∧ ∀ z, z ∈ Lib.compact l ↔ z ∈ l := by
  have hc := CUp.all l.toArray (fun i hi => by
    have hi' : i + 1 < l.length := by simpa using hi
    have := List.pairwise_iff_getElem.1 h i (i + 1) (by omega) hi' (by omega)
    simpa [getElem!_pos, hi', show i < l.length by omega] using this) l.length (by simp)
  refine ⟨hc.up, fun z => ?_⟩
  show z ∈ compactUpTo l.toArray l.length ↔ _
  rw [hc.mem, List.mem_iff_getElem]
  constructor
  · rintro ⟨j, hj, e⟩
    exact ⟨j, hj, by simpa [getElem!_pos, hj] using e.symm⟩
  · rintro ⟨j, hj, e⟩
    exact ⟨j, hj, by simpa [getElem!_pos, hj] using e.symm⟩
theorem union_eq {xs ys : List Nat} (hx : SA xs) (hy : SA ys) : Lib.compact ((Opt.intL (xs ++ ys)).mergeSort fun x y => decide (x ≤ y)) = Opt.intL (merge xs ys) := by
  have hs : ((Opt.intL (xs ++ ys)).mergeSort fun x y => decide (x ≤ y)).Pairwise (· ≤ ·) := by
    have := List.pairwise_mergeSort (le := fun (x y : Int) => decide (x ≤ y)) (fun a b c h1 h2 => by simp at h1 h2 ⊢; omega) (fun a b => by simp; omega) (Opt.intL (xs ++ ys))
    exact this.imp (fun h => by simpa using h)
  obtain ⟨h1, h2⟩ := compact_sorted _ hs
  refine sai_ext h1 (intL_sa (merge_sa xs ys hx hy)) (fun z => ?_)
  rw [h2, List.mem_mergeSort]
  simp only [Opt.intL, List.mem_map]
  constructor
  · rintro ⟨a, ha, e⟩
    exact ⟨a, (merge_mem _ _ _).2 (List.mem_append.1 ha), e⟩
  · rintro ⟨a, ha, e⟩
    exact ⟨a, List.mem_append.2 ((merge_mem _ _ _).1 ha), e⟩
/-- The blocks from B on. -/
def From (w : World) (B b : Nat) : Prop := B ≤ b ∧ b < w.heap.size
def UnOut (w : World) (xs ys : List Nat) (e : Ending) (w' : World) : Prop := ∃ A cap, e = .returned (.slice A (merge xs ys).length cap) ∧ LeafIn w' (From w' w.heap.size) A (merge xs ys) ∧ Below w.heap.size w w'
theorem own_grow {w : World} {B e n : Nat} {v : Value} {hs : List Value} (h : w.ownsRow B e 1 v n hs) (os : Array Obj) : (grow w os).ownsRow B e 1 v n hs := by
  refine ⟨h.1, ?_⟩
  rcases h.2 with h | ⟨g, cap, cur, hv, h1, h2, h3⟩
  · exact .inl h
  · refine .inr ⟨g, cap, cur, hv, h1, ?_, h3⟩
    have hlt := (Array.getElem?_eq_some_iff.1 h2).1
    show (w.heap ++ os)[g]? = _
    rw [Array.getElem?_append_left hlt]
    exact h2
theorem below_grow' {B : Nat} {w0 w : World} (h : Below B w0 w) (hB : B ≤ w.heap.size) (os : Array Obj) : Below B w0 (grow w os) :=
  ⟨h.os, h.tape, h.output, by have := h.size; show _ ≤ (w.heap ++ os).size; simp; omega, fun k hk => by
    show (w.heap ++ os)[k]? = _
    rw [Array.getElem?_append_left (by omega)]
    exact h.block k hk⟩

end Go.Proofs.Ytkkkkalgfmddbaa
/- The contracts of the library's comparison of lists, and of its search among sorted lists. -/
namespace Cut
/-- The order of lists: negative, zero or positive. -/
def lexC : List Nat → List Nat → Int
  | [], [] => 0
  | [], _ :: _ => -1
  | _ :: _, [] => 1
  | x :: xs, y :: ys => if x < y then -1 else if y < x then 1 else lexC xs ys
theorem lexC_lt {x y : Nat} (xs ys : List Nat) (h : x < y) : lexC (x :: xs) (y :: ys) = -1 := by rw [lexC, if_pos h]
theorem lexC_gt {x y : Nat} (xs ys : List Nat) (h : y < x) : lexC (x :: xs) (y :: ys) = 1 := by rw [lexC, if_neg (by omega), if_pos h]
theorem lexC_same (x : Nat) (xs ys : List Nat) : lexC (x :: xs) (x :: ys) = lexC xs ys := by rw [lexC, if_neg (by omega), if_neg (by omega)]
theorem lexC_eq : ∀ (a b : List Nat), lexC a b = 0 ↔ a = b
  | [], [] => by simp [lexC]
  | [], _ :: _ => by simp [lexC]
  | _ :: _, [] => by simp [lexC]
  | x :: xs, y :: ys => by
    rcases Nat.lt_trichotomy x y with h | h | h
    · rw [lexC_lt _ _ h]; simp; omega
    · subst h; rw [lexC_same, lexC_eq xs ys]; simp
    · rw [lexC_gt _ _ h]; simp; omega
theorem lexC_anti : ∀ (a b : List Nat), lexC b a = - lexC a b
  | [], [] => by simp [lexC]
  | [], _ :: _ => by simp [lexC]
  | _ :: _, [] => by simp [lexC]
  | x :: xs, y :: ys => by
    rcases Nat.lt_trichotomy x y with h | h | h
    · rw [lexC_lt _ _ h, lexC_gt _ _ h]; rfl
    · subst h; rw [lexC_same, lexC_same]; exact lexC_anti xs ys
    · rw [lexC_gt _ _ h, lexC_lt _ _ h]
theorem lexC_trans : ∀ (a b c : List Nat), lexC a b < 0 → lexC b c < 0 → lexC a c < 0
  | [], [], c, h, _ => by simp [lexC] at h
  | _ :: _, [], c, h, _ => by simp [lexC] at h
  | [], _ :: _, [], _, h => by simp [lexC] at h
  | [], _ :: _, _ :: _, _, _ => by simp [lexC]
  | _ :: _, _ :: _, [], _, h => by simp [lexC] at h
  | x :: xs, y :: ys, z :: zs, h1, h2 => by
    rcases Nat.lt_trichotomy x y with h | h | h
    · rcases Nat.lt_trichotomy y z with h' | h' | h'
      · rw [lexC_lt _ _ (by omega)]; decide
      · subst h'; rw [lexC_lt _ _ h]; decide
      · rw [lexC_gt _ _ h'] at h2; omega
    · subst h
      rcases Nat.lt_trichotomy x z with h' | h' | h'
      · rw [lexC_lt _ _ h']; decide
      · subst h'
        rw [lexC_same] at h1 h2 ⊢
        exact lexC_trans xs ys zs h1 h2
      · rw [lexC_gt _ _ h'] at h2; omega
    · rw [lexC_gt _ _ h] at h1; omega
/-- Strictly sorted. -/
def LS (K : Cs) : Prop := ∀ i j, i < j → j < K.length → lexC (K.getD i []) (K.getD j []) < 0
/-- How many lists precede x; whether x is there. -/
structure Pos (K : Cs) (x : List Nat) (p : Nat) : Prop where
  le : p ≤ K.length
  lo : ∀ t, t < p → lexC (K.getD t []) x < 0
  hi : ∀ t, p ≤ t → t < K.length → 0 ≤ lexC (K.getD t []) x
theorem Pos.found {K : Cs} {x : List Nat} {p : Nat} (h : Pos K x p) (hs : LS K) : (p < K.length ∧ lexC (K.getD p []) x = 0) ↔ x ∈ K := by
  constructor
  · rintro ⟨h1, h2⟩
    rw [lexC_eq] at h2
    rw [← h2, List.getD_eq_getElem?_getD, List.getElem?_eq_getElem h1]
    exact List.getElem_mem h1
  · intro hm
    obtain ⟨t, ht, e⟩ := List.mem_iff_getElem.1 hm
    have e' : K.getD t [] = x := by rw [List.getD_eq_getElem?_getD, List.getElem?_eq_getElem ht]; exact e
    have h0 : lexC (K.getD t []) x = 0 := by rw [e', lexC_eq]
    have hpt : p ≤ t := by
      rcases Nat.lt_or_ge t p with h1 | h1
      · have := h.lo t h1; omega
      · exact h1
    rcases Nat.lt_or_ge p t with h1 | h1
    · have h2 := hs p t h1 ht
      rw [e'] at h2
      have := h.hi p (Nat.le_refl _) (by omega)
      omega
    · obtain rfl : p = t := by omega
      exact ⟨ht, h0⟩
theorem getD_ins {α : Type} (K : List α) (x d : α) (p t : Nat) (hp : p ≤ K.length) : (K.take p ++ [x] ++ K.drop p).getD t d = if t < p then K.getD t d else if t = p then x else K.getD (t - 1) d := by
  simp only [List.getD_eq_getElem?_getD, List.append_assoc]
  split
  · next h => rw [List.getElem?_append_left (by simp; omega), List.getElem?_take, if_pos h]
  · next h =>
    rw [List.getElem?_append_right (by simp; omega)]
    have e : (K.take p).length = p := by simp; omega
    rw [e]
    split
    · next h2 => subst h2; simp
    · next h2 =>
      obtain ⟨q, hq⟩ : ∃ q, t - p = q + 1 := ⟨t - p - 1, by omega⟩
      rw [hq]
      simp
      congr 2
      omega
theorem Pos.ins {K : Cs} {x : List Nat} {p : Nat} (h : Pos K x p) (hs : LS K) (hx : x ∉ K) : LS (K.take p ++ [x] ++ K.drop p) := by
  intro i j hij hj
  have hp := h.le
  have hl : (K.take p ++ [x] ++ K.drop p).length = K.length + 1 := by simp; omega
  rw [hl] at hj
  have hgt : ∀ t, p ≤ t → t < K.length → lexC x (K.getD t []) < 0 := fun t h1 h2 => by
    have h3 := h.hi t h1 h2
    have h4 : lexC (K.getD t []) x ≠ 0 := fun e => by
      rw [lexC_eq] at e
      apply hx
      rw [← e, List.getD_eq_getElem?_getD, List.getElem?_eq_getElem h2]
      exact List.getElem_mem h2
    rw [lexC_anti (K.getD t []) x]
    omega
  rw [getD_ins K x [] p i hp, getD_ins K x [] p j hp]
  by_cases h1 : j < p
  · rw [if_pos (by omega), if_pos h1]; exact hs i j hij (by omega)
  · rw [if_neg h1]
    by_cases h2 : j = p
    · rw [if_pos h2, if_pos (by omega)]; exact h.lo i (by omega)
    · rw [if_neg h2]
      by_cases h3 : i < p
      · rw [if_pos h3]; exact hs i (j - 1) (by omega) (by omega)
      · rw [if_neg h3]
        by_cases h4 : i = p
        · rw [if_pos h4]; exact hgt (j - 1) (by omega) (by omega)
        · rw [if_neg h4]; exact hs (i - 1) (j - 1) (by omega) (by omega)
theorem ins_mem {K : Cs} {x : List Nat} {p : Nat} (z : List Nat) : z ∈ K.take p ++ [x] ++ K.drop p ↔ z ∈ K ∨ z = x := by
  have : z ∈ K ↔ z ∈ K.take p ∨ z ∈ K.drop p := by rw [← List.mem_append, List.take_append_drop]
  simp only [List.mem_append, List.mem_singleton, this]
  constructor
  · rintro ((h | h) | h)
    · exact .inl (.inl h)
    · exact .inr h
    · exact .inl (.inr h)
  · rintro ((h | h) | h)
    · exact .inl (.inl h)
    · exact .inr h
    · exact .inl (.inr h)
end Cut
namespace Go.Proofs.Ytkkkkalgfmddbaa
open Go.RowKit Go.Deep Cut

theorem lex_end {xs ys : List Nat} {i : Nat} (hi : i < xs.length) (hj : ys.length ≤ i) : lexC (xs.drop i) (ys.drop i) = 1 := by
  rw [drop_get hi, List.drop_of_length_le hj]; rfl
theorem lex_at {xs ys : List Nat} {i : Nat} (hi : i < xs.length) (hj : i < ys.length) : lexC (xs.drop i) (ys.drop i) = if xs.getD i 0 < ys.getD i 0 then -1 else if ys.getD i 0 < xs.getD i 0 then 1 else lexC (xs.drop (i + 1)) (ys.drop (i + 1)) := by
  rw [drop_get hi, drop_get hj, lexC]
theorem lex_fin {xs ys : List Nat} {i : Nat} (hi : xs.length ≤ i) : lexC (xs.drop i) (ys.drop i) = if i < ys.length then -1 else 0 := by
  rw [List.drop_of_length_le hi]
  split
  · next h => rw [drop_get h]; rfl
  · next h => rw [List.drop_of_length_le (by omega)]; rfl

end Go.Proofs.Ytkkkkalgfmddbaa
/- The contract of the library's search among sorted lists. -/
namespace Go.Proofs.Ytkkkkalgfmddbaa
open Go.RowKit Go.Deep Cut

def SrOut (w : World) (K : Cs) (x : List Nat) (e : Ending) (w' : World) : Prop := (∃ p, Pos K x p ∧ e = .returned (.tuple #[.int .i64 (p : Int), .bool (decide (x ∈ K))])) ∧ w = w'
theorem tuple_ret {a b : Int} {c d : Bool} (h1 : a = b) (h2 : c = d) : Ending.returned (.tuple #[.int .i64 a, .bool c]) = .returned (.tuple #[.int .i64 b, .bool d]) := by rw [h1, h2]

end Go.Proofs.Ytkkkkalgfmddbaa
/- The contract of the library's insertion of one list among sorted lists. -/
namespace Go.Proofs.Ytkkkkalgfmddbaa
open Go.RowKit Go.Deep Cut

def setL (cs : Array Value) (o : Nat) : List Value → Array Value
  | [] => cs
  | v :: r => setL (cs.setIfInBounds o v) (o + 1) r
theorem setL_size : ∀ (vs : List Value) (cs : Array Value) (o : Nat), (setL cs o vs).size = cs.size
  | [], _, _ => rfl
  | v :: r, cs, o => by rw [setL, setL_size r]; simp
theorem setL_get : ∀ (vs : List Value) (cs : Array Value) (o j : Nat), j < cs.size → (setL cs o vs)[j]? = if o ≤ j ∧ j < o + vs.length then vs[j - o]? else cs[j]?
  | [], cs, o, j, hj => by
    rw [setL, if_neg (by simp)]
  | v :: r, cs, o, j, hj => by
    rw [setL, setL_get r _ _ _ (by simpa using hj)]
    by_cases h1 : j = o
    · subst h1
      rw [if_neg (by omega), if_pos (by simp)]
      simp [hj]
    · by_cases h2 : o + 1 ≤ j ∧ j < o + 1 + r.length
      · rw [if_pos h2, if_pos (by simp; omega), show j - o = (j - (o + 1)) + 1 by omega]
        rfl
      · rw [if_neg h2, if_neg (by simp; omega), Array.getElem?_setIfInBounds_ne (by omega)]
theorem Row.setCells {b : Nat} {t : TypeId} : ∀ (vs : List Value) {w : World} {cs : Array Value} (o : Nat), Row w b t cs → Row (w.setCells b o vs) b t (setL cs o vs)
  | [], _, _, _, h => h
  | v :: r, w, cs, o, h => by
    rw [World.setCells, setL]
    exact Row.setCells r (o + 1) (h.set o v)
theorem below_setCells {B b : Nat} {w0 : World} (hb : B ≤ b) : ∀ (vs : List Value) {w : World} (o : Nat), Below B w0 w → Below B w0 (w.setCells b o vs)
  | [], _, _, h => h
  | v :: r, w, o, h => by
    rw [World.setCells]
    exact below_setCells hb r (o + 1) (h.setCell (p := ⟨b, o, none⟩) hb v)
theorem heap_setCells {b k : Nat} (hk : k ≠ b) : ∀ (vs : List Value) (w : World) (o : Nat), (w.setCells b o vs).heap[k]? = w.heap[k]?
  | [], _, _ => rfl
  | v :: r, w, o => by
    rw [World.setCells, heap_setCells hk r]
    exact Below.heap_setCell w ⟨b, o, none⟩ v k (by exact hk)
theorem size_setCells' (b : Nat) : ∀ (vs : List Value) (w : World) (o : Nat), (w.setCells b o vs).heap.size = w.heap.size
  | [], _, _ => rfl
  | v :: r, w, o => by
    rw [World.setCells, size_setCells' b r]
    simp [World.setCell]
/-- The cells with one more among them. -/
def insV (hs : List Value) (i : Nat) (v : Value) : List Value := hs.take i ++ [v] ++ hs.drop i
theorem insV_len {hs : List Value} {i : Nat} (v : Value) (hi : i ≤ hs.length) : (insV hs i v).length = hs.length + 1 := by unfold insV; simp; omega
theorem insV_get {hs : List Value} {i j : Nat} (v : Value) (hi : i ≤ hs.length) : (insV hs i v)[j]? = if j < i then hs[j]? else if j = i then some v else hs[j - 1]? := by
  unfold insV
  simp only [List.append_assoc]
  split
  · next h => rw [List.getElem?_append_left (by simp; omega), List.getElem?_take, if_pos h]
  · next h =>
    rw [List.getElem?_append_right (by simp; omega)]
    have e : (hs.take i).length = i := by simp; omega
    rw [e]
    split
    · next h2 => subst h2; simp
    · next h2 =>
      obtain ⟨q, hq⟩ : ∃ q, j - i = q + 1 := ⟨j - i - 1, by omega⟩
      rw [hq]
      simp
      congr 1
      omega
theorem own_of_row {W : World} {B b cap n : Nat} {t : TypeId} {cs : Array Value} {xs : List Value} (h : Row W b t cs) (hB : B ≤ b) (hs : cs.size = cap) (hn : n ≤ cap) (hm : cap ≤ maxLen) (hx : xs.length = n) (hc : ∀ j, j < n → cs[j]? = xs[j]?) : W.ownsRow B t 1 (.slice (some ⟨b, 0, none⟩) n cap) n xs := by
  refine ⟨by omega, .inr ⟨b, cap, cs, rfl, hB, h, hn, hm, by omega, ?_⟩⟩
  apply List.ext_getElem?
  intro j
  rw [List.getElem?_take, Array.getElem?_toList]
  by_cases hj : j < n
  · rw [if_pos (by omega), hc j hj]
  · rw [if_neg (by omega), List.getElem?_eq_none (by omega)]
/-- Headers with one more among them. -/
theorem Hdrs.ins {w : World} {S : Nat → Prop} {hs : List Value} {K : Cs} {i : Nat} (h : Hdrs w S hs K) (hi : i ≤ K.length) {A : Option Addr} {x : List Nat} {cap : Nat} (hx : LeafIn w S A x) : Hdrs w S (insV hs i (.slice A x.length cap)) (K.take i ++ [x] ++ K.drop i) := by
  have hl := h.1
  refine ⟨by rw [insV_len _ (by omega)]; simp; omega, fun k hk => ?_⟩
  have hk' : k < K.length + 1 := by simp at hk; omega
  rw [getD_ins K x [] i k hi, insV_get _ (by omega)]
  by_cases h1 : k < i
  · rw [if_pos h1, if_pos h1]
    exact h.2 k (by omega)
  · rw [if_neg h1, if_neg h1]
    by_cases h2 : k = i
    · rw [if_pos h2, if_pos h2]
      exact ⟨A, cap, rfl, hx⟩
    · rw [if_neg h2, if_neg h2]
      exact h.2 (k - 1) (by omega)
/-- What an insertion leaves. -/
def InsOut (w : World) (B b n i : Nat) (_ : Cs) (hs : List Value) (A : Option Addr) (x : List Nat) (c : Nat) (e : Ending) (w' : World) : Prop :=
  ∃ b' cap', e = .returned (.slice (some ⟨b', 0, none⟩) (n + 1) cap') ∧ w'.ownsRow B 31 1 (.slice (some ⟨b', 0, none⟩) (n + 1) cap') (n + 1) (insV hs i (.slice A x.length c)) ∧ Below B w w' ∧ (∀ k, k < w.heap.size → k ≠ b → w'.heap[k]? = w.heap[k]?) ∧ (b' = b ∨ w.heap.size ≤ b')

theorem insV_end {hs : List Value} {n : Nat} (v : Value) (h : hs.length = n) : insV hs n v = hs ++ [v] := by
  unfold insV
  rw [List.take_of_length_le (by omega), List.drop_of_length_le (by omega), List.append_nil]
theorem append_as {P : Program} {t t' e : TypeId} (ht : P.underlying t = some (.slice e)) (ht' : P.underlying t' = some (.slice e)) (ty : TypeId) (v x : Value) (w : World) :
    (Builtin.append_ #[t, t'] ty #[v, x]).run P w = (Builtin.append_ #[t', t'] ty #[v, x]).run P w := by
  simp [Builtin.append_, run_underlying ht, run_underlying ht']
theorem own_parts {w : World} {B b n cap : Nat} {t : TypeId} {hs : List Value} (h : w.ownsRow B t 1 (.slice (some ⟨b, 0, none⟩) n cap) n hs) : ∃ cur, Row w b t cur ∧ B ≤ b ∧ n ≤ cap ∧ cap ≤ maxLen ∧ cur.size = cap ∧ hs.length = n ∧ ∀ j, j < n → cur[j]? = hs[j]? := by
  have hl := h.1
  rcases h.2 with ⟨h, _⟩ | ⟨g', cap', cur, hv, h1, h2, h3, h4, h5, h6⟩
  · cases h
  · injection hv with e1 _ e3
    injection e1 with e1
    injection e1 with e1
    subst e1 e3
    refine ⟨cur, h2, h1, h3, h4, by omega, by omega, fun j hj => ?_⟩
    rw [← h6, List.getElem?_take, if_pos (by omega), Array.getElem?_toList]

end Go.Proofs.Ytkkkkalgfmddbaa
/- The contract of the program's insertion into sorted lists. -/
namespace Go.Proofs.Ytkkkkalgfmddbaa
open Go.RowKit Go.Deep Cut

theorem ListIn.at2 {w : World} {S : Nat → Prop} {A : Option Addr} {xs : Cs} {B : Nat} (h : ListIn w S A xs) (hS : ∀ b, S b → b < B) : ListAt w B A xs := h.kept (fun _ _ => rfl) hS
theorem IntsIn.at2 {w : World} {S : Nat → Prop} {A : Option Addr} {xs : List Int} {B : Nat} (h : IntsIn w S A xs) (hS : ∀ b, S b → b < B) : IntsAt w B A xs := h.kept (fun _ _ => rfl) hS
theorem getD_memC {xs : Cs} {k : Nat} (hk : k < xs.length) : xs.getD k [] ∈ xs := by
  rw [List.getD_eq_getElem?_getD, List.getElem?_eq_getElem hk]
  exact List.getElem_mem hk
theorem Hdrs.one {w : World} {S : Nat → Prop} {hs : List Value} {K : Cs} (h : Hdrs w S hs K) : ∀ v ∈ hs, v.oneCell' = true := fun v hv => by
  obtain ⟨k, hk, e⟩ := List.mem_iff_getElem.1 hv
  obtain ⟨A, cap, e2, _⟩ := h.2 k (by have := h.1; omega)
  rw [List.getElem?_eq_getElem hk] at e2
  injection e2 with e2
  rw [← e, e2]
  rfl
theorem Row.ne {w : World} {a b : Nat} {t t' : TypeId} {cs cs' : Array Value} (h : Row w a t cs) (h' : Row w b t' cs') (ht : t ≠ t') : a ≠ b := fun e => by
  subst e
  unfold Row at h h'
  rw [h] at h'
  injection h' with h'
  injection h' with _ h'
  exact ht h'
/-- Lists lie elsewhere than a block of another type. -/
theorem LeafIn.off {w : World} {S T : Nat → Prop} {A : Option Addr} {x : List Nat} {g : Nat} {t : TypeId} {cs : Array Value} (h : LeafIn w S A x) (hg : Row w g t cs) (ht : t ≠ 3) (hT : ∀ b, S b → b ≠ g → T b) : LeafIn w T A x := by
  rcases h with h | ⟨b, cs', e, hs, hr, hc⟩
  · exact .inl h
  · exact .inr ⟨b, cs', e, hT b hs (hr.ne hg (Ne.symm ht)), hr, hc⟩
theorem Hdrs.off {w : World} {S T : Nat → Prop} {hs : List Value} {K : Cs} {g : Nat} {t : TypeId} {cs : Array Value} (h : Hdrs w S hs K) (hg : Row w g t cs) (ht : t ≠ 3) (hT : ∀ b, S b → b ≠ g → T b) : Hdrs w T hs K := ⟨h.1, fun k hk => by
  obtain ⟨A, cap, e, hx⟩ := h.2 k hk
  exact ⟨A, cap, e, hx.off hg ht hT⟩⟩
theorem LstAt.row {w : World} {B g cap : Nat} {xs : Cs} {hs : List Value} (h : LstAt w B xs hs g cap) : ∃ cur, Row w g 31 cur := by
  obtain ⟨cur, hr, _⟩ := own_parts h.1
  exact ⟨cur, hr⟩
/-- A list of lists beside which another block has turned. -/
theorem LstAt.beside {w w' : World} {B g cap g2 : Nat} {xs : Cs} {hs : List Value} {t : TypeId} {cs : Array Value} (h : LstAt w B xs hs g cap) (hne : g ≠ g2) (h2 : Row w g2 t cs) (ht : t ≠ 3) (hsame : ∀ b, b < w.heap.size → b ≠ g2 → w'.heap[b]? = w.heap[b]?) (hsz : w.heap.size ≤ w'.heap.size) : LstAt w' B xs hs g cap :=
  ⟨ownsRow_keep h.1 (hsame g h.gb.2 hne), (h.2.off (T := fun b => Off w B g b ∧ b ≠ g2) h2 ht (fun _ h1 h2 => ⟨h1, h2⟩)).kept (fun b hb => hsame b hb.1.2.1 hb.2) (fun b hb => Off.on hsz b hb.1)⟩
theorem LeafIn.beside {w w' : World} {S T : Nat → Prop} {A : Option Addr} {x : List Nat} {g2 : Nat} {t : TypeId} {cs : Array Value} (h : LeafIn w S A x) (h2 : Row w g2 t cs) (ht : t ≠ 3) (hS : ∀ b, S b → b < w.heap.size) (hsame : ∀ b, b < w.heap.size → b ≠ g2 → w'.heap[b]? = w.heap[b]?) (hT : ∀ b, S b → T b) : LeafIn w' T A x :=
  (h.off (T := fun b => S b ∧ b ≠ g2) h2 ht (fun _ h1 h2 => ⟨h1, h2⟩)).kept (fun b hb => hsame b (hS b hb.1) hb.2) (fun b hb => hT b hb.1)

end Go.Proofs.Ytkkkkalgfmddbaa
