/- The contracts of EvalVars and Step of the program. -/
import Derived.Test.YtkkkkalgfmddbaaB4
import Derived.Test.YtkkkkalgfmddbaaB1a
import Derived.Test.YtkkkkalgfmddbaaK
import Derived.Test.YtkkkkalgfmddbaaR1
namespace Go.Proofs.Ytkkkkalgfmddbaa
open Go.RowKit Go.Deep

/-- A slice that is nil and empty, or a block of its own from lo on. -/
def BSl (w : World) (lo : Nat) (A : Option Addr) (xs : List Bool) : Prop := (A = none ∧ xs = []) ∨ ∃ g, A = some ⟨g, 0, none⟩ ∧ lo ≤ g ∧ BRow w g xs
theorem BSl.bools {w : World} {lo : Nat} {A : Option Addr} {xs : List Bool} (h : BSl w lo A xs) : BoolsAt w w.heap.size A xs := by
  rcases h with ⟨rfl, rfl⟩ | ⟨g, rfl, _, h⟩
  · exact BoolsAt.nil _ _ _
  · exact h.bools
theorem BSl.on {w w' : World} {lo : Nat} {A : Option Addr} {xs : List Bool} (h : BSl w lo A xs) (hb : Below w.heap.size w w') : BSl w' lo A xs := by
  rcases h with ⟨rfl, rfl⟩ | ⟨g, rfl, hl, h⟩
  · exact .inl ⟨rfl, rfl⟩
  · exact .inr ⟨g, rfl, hl, h.on hb⟩
def evalV (i : Int) (ns : List Int) (gs : List (Int × Int)) (os : List Int) (st ins : List Bool) : List Bool := if assignB i ns gs os st.length ins.length = true then Circ.valsOf gs st ins else []
theorem evalV_t {i : Int} {ns : List Int} {gs : List (Int × Int)} {os : List Int} {st ins : List Bool} (h : assignB i ns gs os st.length ins.length = true) : evalV i ns gs os st ins = Circ.valsOf gs st ins := if_pos h
theorem evalV_f {i : Int} {ns : List Int} {gs : List (Int × Int)} {os : List Int} {st ins : List Bool} (h : assignB i ns gs os st.length ins.length = false) : evalV i ns gs os st ins = [] := if_neg (by rw [h]; decide)
theorem evalV_le {i : Int} {ns : List Int} {gs : List (Int × Int)} {os : List Int} (st ins : List Bool) : (evalV i ns gs os st ins).length ≤ 22 := by
  cases h : assignB i ns gs os st.length ins.length
  · rw [evalV_f h]; simp
  · rw [evalV_t h, Circ.valsOf_len]
    obtain ⟨hv, h1, h2⟩ := assign_inv h
    obtain ⟨a0, a1, a2, a3, a4⟩ := Circ.valid_within hv
    omega

end Go.Proofs.Ytkkkkalgfmddbaa
/- The marks on a result. -/
namespace Go.Proofs.Ytkkkkalgfmddbaa
open Go.RowKit Go.Deep

theorem Mid.bsl {lo hi : Nat} {w w' : World} (h : Mid lo hi w w') {A : Option Addr} {xs : List Bool} (hr : BSl w hi A xs) : BSl w' hi A xs := by
  rcases hr with ⟨rfl, rfl⟩ | ⟨g, rfl, hl, hr⟩
  · exact .inl ⟨rfl, rfl⟩
  · exact .inr ⟨g, rfl, hl, h.brow hr (.inr hl)⟩
theorem BSl.mono {w : World} {lo lo' : Nat} {A : Option Addr} {xs : List Bool} (h : BSl w lo A xs) (hl : lo' ≤ lo) : BSl w lo' A xs := by
  rcases h with ⟨rfl, rfl⟩ | ⟨g, rfl, h1, h⟩
  · exact .inl ⟨rfl, rfl⟩
  · exact .inr ⟨g, rfl, by omega, h⟩

theorem markBSl_any (A : Option Addr) (lo n k : Nat) (xs : List Bool) (w : World) (h : BSl w lo A xs) (hx : xs.length = n) (hn : n ≤ 2000000) (hk : k ≤ 1000000000) (hlo : lo ≤ w.heap.size) :
    Calls Try.prog 43 #[.slice A n n, .int .i64 k] w fun e w' => e = .returned (.int .i64 ((k + n : Nat) : Int)) ∧ BSl w' lo A (mk3 k n) ∧ Below lo w w' ∧ Only (A.map Addr.block) w w' := by
  rcases h with ⟨rfl, rfl⟩ | ⟨g, rfl, hl, cs, hr, hf⟩
  · simp at hx
    subst hx
    exact (markB_nil (k : Int) w).mono fun _ _ ⟨he, hw⟩ => by
      subst hw
      exact ⟨he, .inl ⟨rfl, rfl⟩, Below.refl _ _, Only.refl _ _⟩
  · subst hx
    exact (markB_row g xs.length k cs w hr hf.1 hn hk).mono fun _ _ ⟨he, hb, ho⟩ => ⟨he, .inr ⟨g, rfl, hl, hb⟩, ho.below (fun _ e => by injection e; omega) hlo, ho⟩
theorem heldBSl_any (A : Option Addr) (lo n k : Nat) (w : World) (h : BSl w lo A (mk3 k n)) (hn : n ≤ 2000000) (hk : k ≤ 1000000000) :
    Calls Try.prog 76 #[.slice A n n, .int .i64 k] w fun e w' => e = .returned (.int .i64 ((k + n : Nat) : Int)) ∧ w = w' := by
  rcases h with ⟨rfl, h⟩ | ⟨g, rfl, hl, hb⟩
  · have : n = 0 := by have := congrArg List.length h; simpa [mk3_len] using this
    subst this
    exact heldB_nil (k : Int) w
  · exact heldB_row g n k w hb hn hk

end Go.Proofs.Ytkkkkalgfmddbaa
/- The contracts of the model's values of all variables. -/
namespace Go.Proofs.Ytkkkkalgfmddbaa
open Go.RowKit Go.Deep

def bvs (xs : List Bool) : List Value := xs.map Value.bool
theorem bvs_len (xs : List Bool) : (bvs xs).length = xs.length := by simp [bvs]
theorem bvs_get {xs : List Bool} {k : Nat} (hk : k < xs.length) : (bvs xs)[k]? = some (.bool (xs.getD k false)) := by
  simp [bvs, List.getD_eq_getElem?_getD, hk]
theorem bvs_append (a b : List Bool) : bvs (a ++ b) = bvs a ++ bvs b := by simp [bvs]
theorem bvs_one (xs : List Bool) : ∀ u ∈ bvs xs, u.oneCell' = true := by
  intro u hu
  simp only [bvs, List.mem_map] at hu
  obtain ⟨n, _, rfl⟩ := hu
  rfl
theorem bools_src {w : World} {B : Nat} {A : Option Addr} {xs : List Bool} (h : BoolsAt w B A xs) : ∀ j u, (bvs xs)[j]? = some u → ∃ ad, A = some ad ∧ w.cell? (ad.add j) = some u := by
  intro j u hu
  have hj : j < xs.length := by have := (List.getElem?_eq_some_iff.1 hu).1; rwa [bvs_len] at this
  obtain ⟨b, off, e, _, hc⟩ := h j hj
  rw [bvs_get hj] at hu
  injection hu with hu
  subst hu
  exact ⟨_, e, by rw [← hc]; unfold Addr.add; split <;> simp_all⟩
theorem own_bools {w : World} {base g n cap : Nat} {xs : List Bool} (h : w.ownsRow base 4 1 (.slice (some ⟨g, 0, none⟩) n cap) n (bvs xs)) (hn : xs.length = n) : BoolsAt w w.heap.size (some ⟨g, 0, none⟩) xs := fun k hk => by
  refine ⟨g, 0, rfl, (h.lt g rfl).2, ?_⟩
  rw [Nat.zero_add, h.cellAt k (by omega)]
  exact bvs_get hk

end Go.Proofs.Ytkkkkalgfmddbaa
/- The contracts of one clock cycle of the program. -/
namespace Go.Proofs.Ytkkkkalgfmddbaa
open Go.RowKit Go.Deep

theorem lits_ok {xs : List Int} {c : Int} (h : Circ.litsOk xs c = true) (hc : c ≤ 60) : ∀ k, k < xs.length → 0 ≤ xs.getD k 0 ∧ xs.getD k 0 < 128 := fun k hk => by
  have := Circ.litsOk_get h hk
  omega

def StepOut (w : World) (L : List Bool) (ns os : List Int) (e : Ending) (w' : World) : Prop :=
  ∃ z1 z2 : Nat, e = .returned (.agg #[.slice (some ⟨z1, 0, none⟩) os.length os.length, .slice (some ⟨z2, 0, none⟩) ns.length ns.length]) ∧ w.heap.size ≤ z1 ∧ z1 < z2 ∧ BRow w' z1 (Circ.litsV L os) ∧ BRow w' z2 (Circ.litsV L ns) ∧ Below w.heap.size w w'

theorem BRow.far {w : World} {g : Nat} {xs : List Bool} (h : BRow w g xs) (p : Addr) (u : Value) (hp : g ≠ p.block) : BRow (w.setCell p u) g xs := by
  obtain ⟨cs, hr, hf⟩ := h
  exact ⟨cs, hr.far hp u, hf⟩

/-- The outputs, or the next state, of one clock cycle: of an invalid assignment the empty list. -/
def stepV (i : Int) (ns : List Int) (gs : List (Int × Int)) (os : List Int) (st ins : List Bool) (xs : List Int) : List Bool := if assignB i ns gs os st.length ins.length = true then Circ.outV gs xs st ins else []
theorem stepV_t {i : Int} {ns : List Int} {gs : List (Int × Int)} {os : List Int} {st ins : List Bool} (xs : List Int) (h : assignB i ns gs os st.length ins.length = true) : stepV i ns gs os st ins xs = Circ.outV gs xs st ins := if_pos h
theorem stepV_f {i : Int} {ns : List Int} {gs : List (Int × Int)} {os : List Int} {st ins : List Bool} (xs : List Int) (h : assignB i ns gs os st.length ins.length = false) : stepV i ns gs os st ins xs = [] := if_neg (by rw [h]; decide)
theorem stepV_le {i : Int} {ns : List Int} {gs : List (Int × Int)} {os : List Int} (st ins : List Bool) (xs : List Int) (hx : xs.length ≤ 2000000) : (stepV i ns gs os st ins xs).length ≤ 2000000 := by
  cases h : assignB i ns gs os st.length ins.length
  · rw [stepV_f xs h]; simp
  · rw [stepV_t xs h, Circ.outV_len]; exact hx

/-- Two slices, each nil and empty or a block of its own. -/
structure BPair (w : World) (lo : Nat) (A1 A2 : Option Addr) (xs ys : List Bool) : Prop where
  fst : BSl w lo A1 xs
  snd : BSl w lo A2 ys
  ne : ∀ g, A1 = some ⟨g, 0, none⟩ → A2 ≠ some ⟨g, 0, none⟩
theorem BPair.on {w w' : World} {lo : Nat} {A1 A2 : Option Addr} {xs ys : List Bool} (h : BPair w lo A1 A2 xs ys) (hb : Below w.heap.size w w') : BPair w' lo A1 A2 xs ys := ⟨h.fst.on hb, h.snd.on hb, h.ne⟩
theorem Mid.bpair {lo hi : Nat} {w w' : World} (h : Mid lo hi w w') {A1 A2 : Option Addr} {xs ys : List Bool} (hr : BPair w hi A1 A2 xs ys) : BPair w' hi A1 A2 xs ys := ⟨h.bsl hr.fst, h.bsl hr.snd, hr.ne⟩

end Go.Proofs.Ytkkkkalgfmddbaa
