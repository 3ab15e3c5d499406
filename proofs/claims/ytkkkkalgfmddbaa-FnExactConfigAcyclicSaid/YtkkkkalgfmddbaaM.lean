/- Plain mathematics of circuits: literals, lists of literals and of gates, validity; no program. -/
namespace Circ
def litOk (v cnt : Int) : Bool := decide (0 ≤ v ∧ v < 2 * cnt)
theorem litOk_t {v cnt : Int} (h1 : 0 ≤ v) (h2 : v < 2 * cnt) : litOk v cnt = true := by simp [litOk, h1, h2]
theorem litOk_f {v cnt : Int} (h : v < 0 ∨ 2 * cnt ≤ v) : litOk v cnt = false := by
  simp [litOk]; omega
theorem litOk_inv {v cnt : Int} (h : litOk v cnt = true) : 0 ≤ v ∧ v < 2 * cnt := by simpa [litOk] using h
theorem litOk_finv {v cnt : Int} (h : litOk v cnt = false) : v < 0 ∨ 2 * cnt ≤ v := by
  simp [litOk] at h; omega
def litsOk (xs : List Int) (cnt : Int) : Bool := xs.all fun x => litOk x cnt
def gatesOk : List (Int × Int) → Int → Bool
  | [], _ => true
  | g :: r, f => litOk g.1 f && litOk g.2 f && gatesOk r (f + 1)
theorem litsOk_snoc (xs : List Int) (k : Nat) (cnt : Int) (hk : k < xs.length) : litsOk (xs.take (k + 1)) cnt = (litsOk (xs.take k) cnt && litOk (xs.getD k 0) cnt) := by
  unfold litsOk
  rw [List.take_succ_eq_append_getElem hk, List.all_append]
  simp only [List.getD_eq_getElem?_getD, List.getElem?_eq_getElem hk, List.all_cons, List.all_nil, Bool.and_true, Option.getD_some]
theorem litsOk_f {xs : List Int} {k : Nat} {cnt : Int} (hk : k < xs.length) (h : litOk (xs.getD k 0) cnt = false) : litsOk xs cnt = false := by
  unfold litsOk
  rw [List.all_eq_false]
  refine ⟨xs[k], List.getElem_mem hk, ?_⟩
  simpa [List.getD_eq_getElem?_getD, hk] using h
theorem litsOk_all {xs : List Int} {k : Nat} {cnt : Int} (hk : xs.length ≤ k) (h : litsOk (xs.take k) cnt = true) : litsOk xs cnt = true := by
  rwa [List.take_of_length_le hk] at h
theorem gatesOk_append (xs ys : List (Int × Int)) (f : Int) : gatesOk (xs ++ ys) f = (gatesOk xs f && gatesOk ys (f + xs.length)) := by
  induction xs generalizing f with
  | nil => simp [gatesOk]
  | cons g r ih =>
    simp only [List.cons_append, gatesOk, ih, List.length_cons, Bool.and_assoc]
    have e : f + 1 + (r.length : Int) = f + ((r.length + 1 : Nat) : Int) := by omega
    rw [e]
theorem gatesOk_snoc (gs : List (Int × Int)) (k : Nat) (f : Int) (hk : k < gs.length) :
    gatesOk (gs.take (k + 1)) f = (gatesOk (gs.take k) f && (litOk (gs.getD k (0, 0)).1 (f + k) && litOk (gs.getD k (0, 0)).2 (f + k))) := by
  rw [List.take_succ_eq_append_getElem hk, gatesOk_append]
  have e : ((gs.take k).length : Int) = k := by simp; omega
  simp only [gatesOk, e, List.getD_eq_getElem?_getD, List.getElem?_eq_getElem hk, Option.getD_some, Bool.and_true]
theorem gatesOk_f {gs : List (Int × Int)} {k : Nat} {f : Int} (hk : k < gs.length) (h : (litOk (gs.getD k (0, 0)).1 (f + k) && litOk (gs.getD k (0, 0)).2 (f + k)) = false) : gatesOk gs f = false := by
  have h1 := gatesOk_snoc gs k f hk
  rw [h, Bool.and_false] at h1
  have h2 := gatesOk_append (gs.take (k + 1)) (gs.drop (k + 1)) f
  rw [List.take_append_drop, h1, Bool.false_and] at h2
  exact h2
theorem gatesOk_all {gs : List (Int × Int)} {k : Nat} {f : Int} (hk : gs.length ≤ k) (h : gatesOk (gs.take k) f = true) : gatesOk gs f = true := by
  rwa [List.take_of_length_le hk] at h
def withinB (inp : Int) (nl gl ol : Nat) : Bool := decide (0 ≤ inp ∧ inp ≤ 4 ∧ nl ≤ 3 ∧ gl ≤ 14 ∧ ol ≤ 3)
def validB (inp : Int) (ns : List Int) (gs : List (Int × Int)) (os : List Int) : Bool :=
  withinB inp ns.length gs.length os.length && gatesOk gs (1 + inp + ns.length) && litsOk ns (1 + inp + ns.length + gs.length) && litsOk os (1 + inp + ns.length + gs.length)
theorem within_inv {inp : Int} {nl gl ol : Nat} (h : withinB inp nl gl ol = true) : 0 ≤ inp ∧ inp ≤ 4 ∧ nl ≤ 3 ∧ gl ≤ 14 ∧ ol ≤ 3 := by simpa [withinB] using h
theorem within_t {inp : Int} {nl gl ol : Nat} (h : 0 ≤ inp ∧ inp ≤ 4 ∧ nl ≤ 3 ∧ gl ≤ 14 ∧ ol ≤ 3) : withinB inp nl gl ol = true := by simpa [withinB] using h
theorem within_f {inp : Int} {nl gl ol : Nat} (h : ¬ (0 ≤ inp ∧ inp ≤ 4 ∧ nl ≤ 3 ∧ gl ≤ 14 ∧ ol ≤ 3)) : withinB inp nl gl ol = false := by simpa [withinB] using h
def inB (a lo hi : Int) : Bool := decide (lo ≤ a ∧ a ≤ hi)
theorem in_t {a lo hi : Int} (h : lo ≤ a) (h' : a ≤ hi) : inB a lo hi = true := by simp [inB, h, h']
theorem in_f {a lo hi : Int} (h : a < lo ∨ hi < a) : inB a lo hi = false := by simp [inB]; omega
theorem in_tinv {a lo hi : Int} (h : inB a lo hi = true) : lo ≤ a ∧ a ≤ hi := by simpa [inB] using h
theorem in_finv {a lo hi : Int} (h : inB a lo hi = false) : a < lo ∨ hi < a := by simp [inB] at h; omega
def twoOk (a b c : Int) : Bool := litOk a c && litOk b c
theorem lits_two (a b c : Int) : litsOk [a, b] c = twoOk a b c := by simp [litsOk, twoOk]
theorem gatesOk_snoc2 (gs : List (Int × Int)) (k : Nat) (f : Int) (hk : k < gs.length) :
    gatesOk (gs.take (k + 1)) f = (gatesOk (gs.take k) f && twoOk (gs.getD k (0, 0)).1 (gs.getD k (0, 0)).2 (f + k)) := gatesOk_snoc gs k f hk
theorem gatesOk_f2 {gs : List (Int × Int)} {k : Nat} {f : Int} (hk : k < gs.length) (h : twoOk (gs.getD k (0, 0)).1 (gs.getD k (0, 0)).2 (f + k) = false) : gatesOk gs f = false := gatesOk_f hk h
def varCountZ (i : Int) (ns : List Int) (gs : List (Int × Int)) (os : List Int) : Int := if validB i ns gs os = true then 1 + i + ns.length + gs.length else 0
theorem varCount_t {i : Int} {ns : List Int} {gs : List (Int × Int)} {os : List Int} (h : validB i ns gs os = true) : varCountZ i ns gs os = 1 + i + ns.length + gs.length := by rw [varCountZ, if_pos h]
theorem varCount_f {i : Int} {ns : List Int} {gs : List (Int × Int)} {os : List Int} (h : validB i ns gs os = false) : varCountZ i ns gs os = 0 := by rw [varCountZ, if_neg (by rw [h]; decide)]
theorem valid_within {i : Int} {ns : List Int} {gs : List (Int × Int)} {os : List Int} (h : validB i ns gs os = true) : 0 ≤ i ∧ i ≤ 4 ∧ ns.length ≤ 3 ∧ gs.length ≤ 14 ∧ os.length ≤ 3 := by
  unfold validB at h
  simp only [Bool.and_eq_true] at h
  exact within_inv h.1.1.1
theorem valid_gates {i : Int} {ns : List Int} {gs : List (Int × Int)} {os : List Int} (h : validB i ns gs os = true) : gatesOk gs (1 + i + ns.length) = true := by
  unfold validB at h
  simp only [Bool.and_eq_true] at h
  exact h.1.1.2
theorem valid_next {i : Int} {ns : List Int} {gs : List (Int × Int)} {os : List Int} (h : validB i ns gs os = true) : litsOk ns (1 + i + ns.length + gs.length) = true := by
  unfold validB at h
  simp only [Bool.and_eq_true] at h
  exact h.1.2
theorem valid_outs {i : Int} {ns : List Int} {gs : List (Int × Int)} {os : List Int} (h : validB i ns gs os = true) : litsOk os (1 + i + ns.length + gs.length) = true := by
  unfold validB at h
  simp only [Bool.and_eq_true] at h
  exact h.2
theorem litsOk_get {xs : List Int} {c : Int} (h : litsOk xs c = true) {k : Nat} (hk : k < xs.length) : 0 ≤ xs.getD k 0 ∧ xs.getD k 0 < 2 * c := by
  unfold litsOk at h
  rw [List.all_eq_true] at h
  have := h xs[k] (List.getElem_mem hk)
  simpa [List.getD_eq_getElem?_getD, hk] using litOk_inv this
theorem gatesOk_get {gs : List (Int × Int)} {f : Int} (h : gatesOk gs f = true) {k : Nat} (hk : k < gs.length) : litOk (gs.getD k (0, 0)).1 (f + k) = true ∧ litOk (gs.getD k (0, 0)).2 (f + k) = true := by
  cases h1 : litOk (gs.getD k (0, 0)).1 (f + k) with
  | false => rw [gatesOk_f hk (by rw [h1]; rfl)] at h; cases h
  | true =>
    cases h2 : litOk (gs.getD k (0, 0)).2 (f + k) with
    | false => rw [gatesOk_f hk (by rw [h1, h2]; rfl)] at h; cases h
    | true => exact ⟨rfl, rfl⟩
end Circ
