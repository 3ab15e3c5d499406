/- Plain mathematics of equivalence: an optimized circuit has the values of the original one; assignments by number; the first difference of two circuits; no program. -/
import Derived.Test.YthpiddpkcmecfaaQ5
import Derived.Test.YthpiddpkcmecfaaV
namespace Opt
open Circ
section
variable {i : Int} {ns : List Int} {gs : List (Int × Int)} {os : List Int}
theorem litV_litB (l : List Bool) (x : Int) (h : 0 ≤ x) : litV l x = litB (fun v => l.getD v false) x.toNat := by
  unfold litV litB
  have e1 : (x / 2).toNat = x.toNat / 2 := by omega
  have e2 : (x % 2 == 1) = (x.toNat % 2 == 1) := by
    rw [Bool.eq_iff_iff, beq_iff_eq, beq_iff_eq]; omega
  rw [e1, e2]
theorem sem_vals {f : Nat} (st ins : List Bool) (hf : f = 1 + ins.length + st.length) (h : gatesOk gs f = true) : Sem f (natG gs) (fun v => (valsOf gs st ins).getD v false) := by
  have hl : (false :: (ins ++ st)).length = f := by simp; omega
  refine ⟨?_, fun k hk => ?_⟩
  · show (vals gs _).getD 0 false = false
    rw [vals_low _ _ _ (by simp)]; rfl
  · rw [natG_len] at hk
    obtain ⟨a, b⟩ := gatesOk_get h hk
    have a' := litOk_inv a
    have b' := litOk_inv b
    have := vals_at gs k (false :: (ins ++ st)) hk (by rw [hl]; exact h)
    rw [hl] at this
    rw [natG_at]
    show (vals gs _).getD (f + k) false = _
    rw [this, litV_litB _ _ a'.1, litV_litB _ _ b'.1]
    rfl
theorem opt_out (h : validB i ns gs os = true) (st ins : List Bool) (hs : st.length = ns.length) (hi : (ins.length : Int) = i) (xs : List Int) (hx : ∀ x, x ∈ natL xs → x ∈ (natC ns gs os).roots) (hx0 : ∀ x, x ∈ xs → 0 ≤ x) :
    outV (optG i ns gs os) (intL ((natL xs).map (lits (fst i ns) (natC ns gs os)))) st ins = outV gs xs st ins := by
  obtain ⟨hf0, hk⟩ := natC_ok h
  have hw := valid_within h
  have hf : fst i ns = 1 + ins.length + st.length := by unfold fst; omega
  have hfi : (fst i ns : Int) = 1 + i + ns.length := by unfold fst; omega
  have hS := sem_vals (f := fst i ns) st ins hf (by rw [hfi]; exact valid_gates h)
  have ho := valid_gates (opt_valid h)
  rw [optN_len h] at ho
  have hY := sem_vals (f := fst i ns) st ins hf (gs := optG i ns gs os) (by rw [hfi]; exact ho)
  have hY' : Sem (fst i ns) (opt (fst i ns) (natC ns gs os)).gs (fun v => (valsOf (optG i ns gs os) st ins).getD v false) := by
    have e : natG (optG i ns gs os) = (opt (fst i ns) (natC ns gs os)).gs := nat_intG _
    rw [← e]; exact hY
  have hb : ∀ w, w < fst i ns → (valsOf (optG i ns gs os) st ins).getD w false = (valsOf gs st ins).getD w false := by
    intro w hw
    have hl : w < (false :: (ins ++ st)).length := by simp; omega
    show (vals _ _).getD w false = (vals _ _).getD w false
    rw [vals_low _ _ _ hl, vals_low _ _ _ hl]
  unfold outV litsV intL natL
  rw [List.map_map, List.map_map, List.map_map]
  refine List.map_congr_left (fun x hxm => ?_)
  have h0 := hx0 x hxm
  have hr := hx x.toNat (by unfold natL; exact List.mem_map.mpr ⟨x, hxm, rfl⟩)
  have := opt_sem hf0 hk hS hY' hb hr
  rw [litV_litB _ x h0, ← this]
  show litV _ ((lits _ _ x.toNat : Nat) : Int) = _
  rw [litV_litB _ _ (by omega)]
  rfl
theorem optO_eq : optO i ns gs os = intL ((natL os).map (lits (fst i ns) (natC ns gs os))) := by
  show intL (opt _ _).os = _
  rw [opt_os]; rfl
theorem optN_eq : optN i ns gs os = intL ((natL ns).map (lits (fst i ns) (natC ns gs os))) := by
  show intL (opt _ _).ns = _
  rw [opt_ns]; rfl
/-- The optimized circuit computes the same outputs. -/
theorem opt_outs (h : validB i ns gs os = true) (st ins : List Bool) (hs : st.length = ns.length) (hi : (ins.length : Int) = i) : outV (optG i ns gs os) (optO i ns gs os) st ins = outV gs os st ins := by
  rw [optO_eq]
  exact opt_out h st ins hs hi os (fun x hx => List.mem_append_left _ hx) (fun x hx => (litsOk_mem (valid_outs h) hx).1)
/-- The optimized circuit computes the same next state. -/
theorem opt_next (h : validB i ns gs os = true) (st ins : List Bool) (hs : st.length = ns.length) (hi : (ins.length : Int) = i) : outV (optG i ns gs os) (optN i ns gs os) st ins = outV gs ns st ins := by
  rw [optN_eq]
  exact opt_out h st ins hs hi ns (fun x hx => List.mem_append_right _ hx) (fun x hx => (litsOk_mem (valid_next h) hx).1)
end
end Opt
namespace Circ
/-- The n low-order bits of a number, the lowest first. -/
def bitsN (x n : Nat) : List Bool := (List.range n).map fun j => x / 2 ^ j % 2 == 1
theorem bitsN_len (x n : Nat) : (bitsN x n).length = n := by simp [bitsN]
theorem bitsN_get (x n j : Nat) (hj : j < n) : (bitsN x n).getD j false = (x / 2 ^ j % 2 == 1) := by simp [bitsN, List.getD_eq_getElem?_getD, hj]
theorem bitsN_snoc (x n : Nat) : bitsN x (n + 1) = bitsN x n ++ [x / 2 ^ n % 2 == 1] := by simp [bitsN, List.range_succ]
theorem bitsN_take (x n k : Nat) (hk : k ≤ n) : (bitsN x n).take k = bitsN x k := by
  unfold bitsN
  rw [← List.map_take, List.take_range, Nat.min_eq_left hk]
/-- A number with given low-order bits. -/
def numB : List Bool → Nat
  | [] => 0
  | b :: r => (if b = true then 1 else 0) + 2 * numB r
theorem numB_lt (l : List Bool) : numB l < 2 ^ l.length := by
  induction l with
  | nil => simp [numB]
  | cons b r ih => simp only [numB, List.length_cons, Nat.pow_succ]; split <;> omega
theorem bitsN_cons (b : Bool) (m n : Nat) : bitsN ((if b = true then 1 else 0) + 2 * m) (n + 1) = b :: bitsN m n := by
  unfold bitsN
  rw [List.range_succ_eq_map, List.map_cons, List.map_map]
  congr 1
  · cases b <;> simp
  · refine List.map_congr_left (fun j _ => ?_)
    show (((if b = true then 1 else 0) + 2 * m) / 2 ^ (j + 1) % 2 == 1) = (m / 2 ^ j % 2 == 1)
    have e : ((if b = true then 1 else 0) + 2 * m) / 2 ^ (j + 1) = m / 2 ^ j := by
      rw [Nat.pow_succ, Nat.mul_comm (2 ^ j) 2, ← Nat.div_div_eq_div_mul]
      congr 1
      cases b <;> simp <;> omega
    rw [e]
theorem bits_num (l : List Bool) : bitsN (numB l) l.length = l := by
  induction l with
  | nil => rfl
  | cons b r ih =>
    rw [numB, List.length_cons, bitsN_cons, ih]
theorem bitsN_mod (x n c : Nat) : bitsN (x + 2 ^ n * c) n = bitsN x n := by
  unfold bitsN
  refine List.map_congr_left (fun j hj => ?_)
  have hj := List.mem_range.mp hj
  have e : (x + 2 ^ n * c) / 2 ^ j = x / 2 ^ j + 2 * (2 ^ (n - j - 1) * c) := by
    have : 2 ^ n * c = 2 ^ j * (2 * (2 ^ (n - j - 1) * c)) := by
      rw [← Nat.mul_assoc 2, ← Nat.pow_succ', ← Nat.mul_assoc, ← Nat.pow_add]
      congr 2; omega
    rw [this, Nat.add_mul_div_left _ _ (Nat.two_pow_pos j)]
  rw [e]
  have : (x / 2 ^ j + 2 * (2 ^ (n - j - 1) * c)) % 2 = x / 2 ^ j % 2 := by omega
  rw [this]
/-- Every assignment has a number. -/
theorem num_ex (ins st : List Bool) : ∃ x, x < 2 ^ (ins.length + st.length) ∧ bitsN x ins.length = ins ∧ bitsN (x / 2 ^ ins.length) st.length = st := by
  refine ⟨numB ins + 2 ^ ins.length * numB st, ?_, ?_, ?_⟩
  · have h1 := numB_lt ins
    have h2 := numB_lt st
    rw [Nat.pow_add]
    have : 2 ^ ins.length * (numB st + 1) ≤ 2 ^ ins.length * 2 ^ st.length := Nat.mul_le_mul_left _ h2
    rw [Nat.mul_add, Nat.mul_one] at this
    omega
  · rw [bitsN_mod, bits_num]
  · rw [Nat.add_mul_div_left _ _ (Nat.two_pow_pos _), Nat.div_eq_of_lt (numB_lt ins), Nat.zero_add, bits_num]
/-- The two circuits compute different outputs or a different next state for the assignment with this number. -/
def differB (i nl : Nat) (ns : List Int) (gs : List (Int × Int)) (os ns' : List Int) (gs' : List (Int × Int)) (os' : List Int) (x : Nat) : Bool :=
  !((outV gs os (bitsN (x / 2 ^ i) nl) (bitsN x i) == outV gs' os' (bitsN (x / 2 ^ i) nl) (bitsN x i)) && (outV gs ns (bitsN (x / 2 ^ i) nl) (bitsN x i) == outV gs' ns' (bitsN (x / 2 ^ i) nl) (bitsN x i)))
def firstD (i nl : Nat) (ns : List Int) (gs : List (Int × Int)) (os ns' : List Int) (gs' : List (Int × Int)) (os' : List Int) : Option Nat :=
  (List.range (2 ^ (i + nl))).find? (differB i nl ns gs os ns' gs' os')
def sameIf (i : Int) (ns : List Int) (gs : List (Int × Int)) (os : List Int) (i' : Int) (ns' : List Int) (gs' : List (Int × Int)) (os' : List Int) : Bool :=
  validB i ns gs os && validB i' ns' gs' os' && decide (i = i') && decide (ns.length = ns'.length) && decide (os.length = os'.length)
theorem sameIf_inv {i : Int} {ns : List Int} {gs : List (Int × Int)} {os : List Int} {i' : Int} {ns' : List Int} {gs' : List (Int × Int)} {os' : List Int} (h : sameIf i ns gs os i' ns' gs' os' = true) :
    validB i ns gs os = true ∧ validB i' ns' gs' os' = true ∧ i = i' ∧ ns.length = ns'.length ∧ os.length = os'.length := by
  unfold sameIf at h
  simp only [Bool.and_eq_true, decide_eq_true_eq] at h
  exact ⟨h.1.1.1.1, h.1.1.1.2, h.1.1.2, h.1.2, h.2⟩
theorem sameIf_mk {i : Int} {ns : List Int} {gs : List (Int × Int)} {os : List Int} {i' : Int} {ns' : List Int} {gs' : List (Int × Int)} {os' : List Int} (h1 : validB i ns gs os = true) (h2 : validB i' ns' gs' os' = true) (h3 : i = i') (h4 : ns.length = ns'.length) (h5 : os.length = os'.length) :
    sameIf i ns gs os i' ns' gs' os' = true := by
  unfold sameIf
  simp only [Bool.and_eq_true, decide_eq_true_eq]
  exact ⟨⟨⟨⟨h1, h2⟩, h3⟩, h4⟩, h5⟩
theorem sameIf_symm (i : Int) (ns : List Int) (gs : List (Int × Int)) (os : List Int) (i' : Int) (ns' : List Int) (gs' : List (Int × Int)) (os' : List Int) : sameIf i ns gs os i' ns' gs' os' = sameIf i' ns' gs' os' i ns gs os := by
  rw [Bool.eq_iff_iff]
  constructor
  · intro h
    obtain ⟨a, b, c, d, e⟩ := sameIf_inv h
    exact sameIf_mk b a c.symm d.symm e.symm
  · intro h
    obtain ⟨a, b, c, d, e⟩ := sameIf_inv h
    exact sameIf_mk b a c.symm d.symm e.symm
theorem sameIf_self (i : Int) (ns : List Int) (gs : List (Int × Int)) (os : List Int) : sameIf i ns gs os i ns gs os = validB i ns gs os := by
  cases h : validB i ns gs os
  · unfold sameIf; rw [h]; rfl
  · exact sameIf_mk h h rfl rfl rfl
/-- No difference. -/
def noDiff (i : Int) (ns : List Int) (gs : List (Int × Int)) (os ns' : List Int) (gs' : List (Int × Int)) (os' : List Int) : Bool := (firstD i.toNat ns.length ns gs os ns' gs' os').isNone
def equivB (i : Int) (ns : List Int) (gs : List (Int × Int)) (os : List Int) (i' : Int) (ns' : List Int) (gs' : List (Int × Int)) (os' : List Int) : Bool :=
  sameIf i ns gs os i' ns' gs' os' && noDiff i ns gs os ns' gs' os'
theorem noDiff_iff {i : Int} {ns : List Int} {gs : List (Int × Int)} {os ns' : List Int} {gs' : List (Int × Int)} {os' : List Int} :
    noDiff i ns gs os ns' gs' os' = true ↔ ∀ x, x < 2 ^ (i.toNat + ns.length) → differB i.toNat ns.length ns gs os ns' gs' os' x = false := by
  unfold noDiff firstD
  rw [Option.isNone_iff_eq_none, List.find?_eq_none]
  simp
theorem differB_f {i nl : Nat} {ns : List Int} {gs : List (Int × Int)} {os ns' : List Int} {gs' : List (Int × Int)} {os' : List Int} {x : Nat} :
    differB i nl ns gs os ns' gs' os' x = false ↔ outV gs os (bitsN (x / 2 ^ i) nl) (bitsN x i) = outV gs' os' (bitsN (x / 2 ^ i) nl) (bitsN x i) ∧ outV gs ns (bitsN (x / 2 ^ i) nl) (bitsN x i) = outV gs' ns' (bitsN (x / 2 ^ i) nl) (bitsN x i) := by
  unfold differB
  simp only [Bool.not_eq_false', Bool.and_eq_true, beq_iff_eq]
/-- The two circuits agree for every state and all inputs. -/
def Agree (i : Int) (ns : List Int) (gs : List (Int × Int)) (os ns' : List Int) (gs' : List (Int × Int)) (os' : List Int) : Prop :=
  ∀ st ins : List Bool, st.length = ns.length → (ins.length : Int) = i → outV gs os st ins = outV gs' os' st ins ∧ outV gs ns st ins = outV gs' ns' st ins
theorem agree_iff {i : Int} {ns : List Int} {gs : List (Int × Int)} {os ns' : List Int} {gs' : List (Int × Int)} {os' : List Int} (hi : 0 ≤ i) :
    noDiff i ns gs os ns' gs' os' = true ↔ Agree i ns gs os ns' gs' os' := by
  rw [noDiff_iff]
  constructor
  · intro h st ins hs hin
    obtain ⟨x, hx, e1, e2⟩ := num_ex ins st
    have hn : i.toNat = ins.length := by omega
    have := h x (by rw [hn, ← hs]; exact hx)
    rw [differB_f, hn, ← hs, e1, e2] at this
    exact this
  · intro h x _
    rw [differB_f]
    exact h _ _ (bitsN_len _ _) (by rw [bitsN_len]; omega)
theorem Agree.symm {i : Int} {ns : List Int} {gs : List (Int × Int)} {os ns' : List Int} {gs' : List (Int × Int)} {os' : List Int} (h : Agree i ns gs os ns' gs' os') (hl : ns.length = ns'.length) : Agree i ns' gs' os' ns gs os :=
  fun st ins hs hi => by
    obtain ⟨a, b⟩ := h st ins (by omega) hi
    exact ⟨a.symm, b.symm⟩
theorem equivB_iff {i : Int} {ns : List Int} {gs : List (Int × Int)} {os : List Int} {i' : Int} {ns' : List Int} {gs' : List (Int × Int)} {os' : List Int} :
    equivB i ns gs os i' ns' gs' os' = true ↔ sameIf i ns gs os i' ns' gs' os' = true ∧ Agree i ns gs os ns' gs' os' := by
  unfold equivB
  rw [Bool.and_eq_true]
  constructor
  · rintro ⟨a, b⟩
    exact ⟨a, (agree_iff (valid_within (sameIf_inv a).1).1).1 b⟩
  · rintro ⟨a, b⟩
    exact ⟨a, (agree_iff (valid_within (sameIf_inv a).1).1).2 b⟩
theorem equivB_symm (i : Int) (ns : List Int) (gs : List (Int × Int)) (os : List Int) (i' : Int) (ns' : List Int) (gs' : List (Int × Int)) (os' : List Int) : equivB i ns gs os i' ns' gs' os' = equivB i' ns' gs' os' i ns gs os := by
  rw [Bool.eq_iff_iff, equivB_iff, equivB_iff, sameIf_symm]
  constructor
  · rintro ⟨a, b⟩
    obtain ⟨_, _, e, f, _⟩ := sameIf_inv a
    subst e
    exact ⟨a, b.symm f.symm⟩
  · rintro ⟨a, b⟩
    obtain ⟨_, _, e, f, _⟩ := sameIf_inv a
    subst e
    exact ⟨a, b.symm f⟩
theorem equivB_self (i : Int) (ns : List Int) (gs : List (Int × Int)) (os : List Int) : equivB i ns gs os i ns gs os = validB i ns gs os := by
  rw [Bool.eq_iff_iff, equivB_iff, sameIf_self]
  exact ⟨fun h => h.1, fun h => ⟨h, fun _ _ _ _ => ⟨rfl, rfl⟩⟩⟩
section
variable {i : Int} {ns : List Int} {gs : List (Int × Int)} {os : List Int}
open Opt
theorem opt_agree (h : validB i ns gs os = true) : Agree i ns gs os (optN i ns gs os) (optG i ns gs os) (optO i ns gs os) :=
  fun st ins hs hi => ⟨(opt_outs h st ins hs hi).symm, (opt_next h st ins hs hi).symm⟩
theorem opt_same_if (h : validB i ns gs os = true) : sameIf i ns gs os i (optN i ns gs os) (optG i ns gs os) (optO i ns gs os) = true :=
  sameIf_mk h (opt_valid h) rfl (optN_len h).symm (optO_len h).symm
theorem opt_equiv (h : validB i ns gs os = true) : equivB i ns gs os i (optN i ns gs os) (optG i ns gs os) (optO i ns gs os) = true :=
  equivB_iff.2 ⟨opt_same_if h, opt_agree h⟩
theorem opt_both {i' : Int} {ns' : List Int} {gs' : List (Int × Int)} {os' : List Int} (h : validB i ns gs os = true) (h' : validB i' ns' gs' os' = true) :
    equivB i (optN i ns gs os) (optG i ns gs os) (optO i ns gs os) i' (optN i' ns' gs' os') (optG i' ns' gs' os') (optO i' ns' gs' os') = equivB i ns gs os i' ns' gs' os' := by
  rw [Bool.eq_iff_iff, equivB_iff, equivB_iff]
  have A := opt_agree h
  have A' := opt_agree h'
  constructor
  · rintro ⟨a, b⟩
    obtain ⟨_, _, e, f, g⟩ := sameIf_inv a
    subst e
    rw [optN_len h, optN_len h'] at f
    rw [optO_len h, optO_len h'] at g
    refine ⟨sameIf_mk h h' rfl f g, fun st ins hs hi => ?_⟩
    have h1 := A st ins hs hi
    have h2 := b st ins (by rw [optN_len h]; exact hs) hi
    have h3 := A' st ins (by omega) hi
    exact ⟨(h1.1.trans h2.1).trans h3.1.symm, (h1.2.trans h2.2).trans h3.2.symm⟩
  · rintro ⟨a, b⟩
    obtain ⟨_, _, e, f, g⟩ := sameIf_inv a
    subst e
    refine ⟨sameIf_mk (opt_valid h) (opt_valid h') rfl (by rw [optN_len h, optN_len h']; exact f) (by rw [optO_len h, optO_len h']; exact g), fun st ins hs hi => ?_⟩
    rw [optN_len h] at hs
    have h1 := A st ins hs hi
    have h2 := b st ins hs hi
    have h3 := A' st ins (by omega) hi
    exact ⟨(h1.1.symm.trans h2.1).trans h3.1, (h1.2.symm.trans h2.2).trans h3.2⟩
end
/-- Circuits that agree have equal simulations. -/
theorem agree_sim {i : Int} {ns : List Int} {gs : List (Int × Int)} {os ns' : List Int} {gs' : List (Int × Int)} {os' : List Int} (h : Agree i ns gs os ns' gs' os') :
    ∀ (rs : List (List Bool)) (st : List Bool), st.length = ns.length → (∀ r, r ∈ rs → (r.length : Int) = i) → simV gs os ns rs st = simV gs' os' ns' rs st := by
  intro rs
  induction rs with
  | nil => intro st _ _; rfl
  | cons r rs ih =>
    intro st hs hr
    obtain ⟨a, b⟩ := h st r hs (hr r (by simp))
    rw [simV, simV, a, ← b]
    rw [ih _ (outV_len _ _ _ _) (fun q hq => hr q (by simp [hq]))]
end Circ
