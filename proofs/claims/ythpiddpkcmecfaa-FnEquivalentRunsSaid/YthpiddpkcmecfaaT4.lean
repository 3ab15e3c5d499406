/- The gate builder in memory: its gates, and its map from operands to literals. -/
import Derived.Test.YthpiddpkcmecfaaT3
import Derived.Test.YthpiddpkcmecfaaR1
import Derived.Maps.OwnSet
import Derived.DeepKeys4
import Derived.WideKeyPair
namespace Go.Proofs.Ythpiddpkcmecfaa
open Go.RowKit Go.Deep Go.Maps Go.WideMaps

theorem Try.laidOut : laidOutB Try.prog = true := by kernel_rfl
theorem Try.rowP : (125 : TypeId) < Try.prog.types.size := of_decide_eq_true (by kernel_rfl)
theorem Try.cellsP : Try.prog.cellsOf 125 = 2 := by kernel_rfl
theorem Try.arrP : ArrKey Try.prog 125 101 2 := ⟨Try.underlying125, by kernel_rfl, by kernel_rfl, Try.cellsP⟩
theorem Try.wideP : (match Try.prog.underlying 125 with | some (.array _ _) | some (.struct _) => true | _ => false) = true := by rw [Try.underlying125]
set_option maxRecDepth 100000 in
theorem Try.lawP : Keyed Try.prog 125 := Keyed.of_law (deep_law_laid Try.laidOut (m := 2) (by omega) Try.rowP (by kernel_rfl) Try.wideP)
theorem Try.zeroL (w : World) : (zeroValue 101).run Try.prog w = .ok (.int .i64 0) w := by kernel_rfl
set_option maxRecDepth 100000 in
theorem Try.typesPos : ∃ m, Try.prog.types.size = m + 1 := ⟨_, (Nat.succ_pred_eq_of_pos (Nat.lt_of_le_of_lt (Nat.zero_le _) Try.rowP)).symm⟩

theorem wf_nat {n : Nat} (h : n < 1000000) : (Lit.int .i64 (n : Int)).wf = true := WalkArith.wf_i64 (by omega)

/-- The key of a pair of operands. -/
def kl (g : Opt.G) : Lit := .string (keyBytes [.int .i64 (g.1 : Int), .int .i64 (g.2 : Int)])
theorem keyOf_kl {a b : Nat} (ha : a < 1000000) (hb : b < 1000000) : keyOf Try.prog 125 (.agg #[.int .i64 (a : Int), .int .i64 (b : Int)]) = some (kl (a, b)) :=
  keyOf_pair Try.arrP Try.underlying101 Try.typesPos (wf_nat ha) (wf_nat hb)
def Sm (g : Opt.G) : Prop := g.1 < 1000000 ∧ g.2 < 1000000
theorem kl_inj {g h : Opt.G} (hg : Sm g) (hh : Sm h) (e : kl g = kl h) : g = h := by
  have h1 := keyOf_kl hg.1 hg.2
  have h2 := keyOf_kl hh.1 hh.2
  have e' : kl (h.1, h.2) = kl (g.1, g.2) := e.symm
  rw [e'] at h2
  have := Try.lawP.inj h1 h2
  simp at this
  exact Prod.ext (by have := this.1; omega) (by have := this.2; omega)
theorem kl_key (g : Opt.G) : WideAt.IsKeyLit (kl g) := trivial

def dictFrom (f : Nat) (D : DataW Unit) : Nat → List Opt.G → DataW Unit
  | _, [] => D
  | j, g :: r => dictFrom f (D.put (kl g) (.lit (.int .i64 ((2 * (f + j) : Nat) : Int)))) (j + 1) r
/-- What the builder's map holds. -/
def dict (f : Nat) (x : List Opt.G) : DataW Unit := dictFrom f (.map []) 0 x
theorem dictFrom_snoc (f : Nat) (D : DataW Unit) (j : Nat) (x : List Opt.G) (g : Opt.G) : dictFrom f D j (x ++ [g]) = (dictFrom f D j x).put (kl g) (.lit (.int .i64 ((2 * (f + (j + x.length)) : Nat) : Int))) := by
  induction x generalizing D j with
  | nil => rfl
  | cons h r ih =>
    show dictFrom f _ (j + 1) (r ++ [g]) = _
    rw [ih]
    show _ = (dictFrom f _ (j + 1) r).put _ _
    rw [List.length_cons, show j + 1 + r.length = j + (r.length + 1) by omega]
theorem dict_snoc (f : Nat) (x : List Opt.G) (g : Opt.G) : dict f (x ++ [g]) = (dict f x).put (kl g) (.lit (.int .i64 ((2 * (f + x.length) : Nat) : Int))) := by
  unfold dict
  rw [dictFrom_snoc, Nat.zero_add]
theorem dictFrom_isMap (f : Nat) (D : DataW Unit) (j : Nat) (x : List Opt.G) (h : IsMap D) : IsMap (dictFrom f D j x) := by
  induction x generalizing D j with
  | nil => exact h
  | cons g r ih => exact ih _ _ (h.put _ _)
theorem dict_isMap (f : Nat) (x : List Opt.G) : IsMap (dict f x) := dictFrom_isMap f _ 0 x isMap_empty
theorem idx_snoc (x : List Opt.G) (h g : Opt.G) : Opt.idx (x ++ [h]) g = if Opt.idx x g < x.length then Opt.idx x g else if h = g then x.length else x.length + 1 := by
  induction x with
  | nil =>
    show (if h = g then 0 else 0 + 1) = _
    simp
  | cons y r ih =>
    show (if y = g then 0 else Opt.idx (r ++ [h]) g + 1) = if (if y = g then 0 else Opt.idx r g + 1) < (y :: r).length then (if y = g then 0 else Opt.idx r g + 1) else if h = g then (y :: r).length else (y :: r).length + 1
    by_cases e : y = g
    · rw [if_pos e, if_pos e, if_pos (by simp)]
    · rw [if_neg e, if_neg e, ih, List.length_cons]
      by_cases e2 : Opt.idx r g < r.length
      · rw [if_pos e2, if_pos (by omega)]
      · have e3 : ¬ (Opt.idx r g + 1 < r.length + 1) := by omega
        simp only [e2, e3, if_false]
        split <;> rfl
theorem list_snoc {α : Type} (P : List α → Prop) (h0 : P []) (h1 : ∀ x a, P x → P (x ++ [a])) (x : List α) : P x := by
  have key : ∀ y : List α, P y.reverse := fun y => by
    induction y with
    | nil => exact h0
    | cons a r ih => rw [List.reverse_cons]; exact h1 _ _ ih
  have := key x.reverse
  rwa [List.reverse_reverse] at this
theorem dict_has (f : Nat) (g : Opt.G) (hg : Sm g) (x : List Opt.G) : (∀ h, h ∈ x → Sm h) → Maps.has (dict f x) (kl g) = decide (Opt.idx x g < x.length) := by
  refine list_snoc (fun x => (∀ h, h ∈ x → Sm h) → Maps.has (dict f x) (kl g) = decide (Opt.idx x g < x.length)) (fun _ => rfl) (fun x a ih hs => ?_) x
  have ih' := ih (fun h hh => hs h (by simp [hh]))
  rw [dict_snoc, idx_snoc, List.length_append, List.length_singleton]
  by_cases e : a = g
  · subst e
    rw [has_put_same (dict_isMap f x) (kl_key _), if_pos rfl]
    symm
    rw [decide_eq_true_eq]
    split <;> omega
  · rw [has_put_other (fun e' => e (kl_inj (hs a (by simp)) hg e'.symm)), ih', if_neg e]
    by_cases e2 : Opt.idx x g < x.length
    · rw [if_pos e2, decide_eq_true e2, decide_eq_true (by omega)]
    · rw [if_neg e2, decide_eq_false e2, decide_eq_false (by omega)]
theorem dict_at (f : Nat) (g : Opt.G) (hg : Sm g) (z : DataW Unit) (x : List Opt.G) : (∀ h, h ∈ x → Sm h) → (∀ j l, j < l → l < x.length → Opt.at_ x j ≠ Opt.at_ x l) → Opt.idx x g < x.length → (dict f x).atKey (kl g) z = .lit (.int .i64 ((2 * (f + Opt.idx x g) : Nat) : Int)) := by
  refine list_snoc (fun x => (∀ h, h ∈ x → Sm h) → (∀ j l, j < l → l < x.length → Opt.at_ x j ≠ Opt.at_ x l) → Opt.idx x g < x.length → (dict f x).atKey (kl g) z = .lit (.int .i64 ((2 * (f + Opt.idx x g) : Nat) : Int))) (fun _ _ h => by simp [Opt.idx] at h) (fun x a ih hs hd hi => ?_) x
  rw [dict_snoc]
  by_cases e : a = g
  · subst e
    have hn : ¬ Opt.idx x a < x.length := fun h => by
      have h1 := Opt.idx_at h
      refine hd (Opt.idx x a) x.length h (by simp) ?_
      rw [Opt.at_lt h, Opt.at_eq, h1]
    rw [atKey_put_same (dict_isMap f x) (kl_key _), idx_snoc, if_neg hn, if_pos rfl]
  · rw [idx_snoc, if_neg e] at hi
    have hl : Opt.idx x g < x.length := by
      by_cases h : Opt.idx x g < x.length
      · exact h
      · rw [if_neg h] at hi; simp at hi
    rw [atKey_put_other (fun e' => e (kl_inj (hs a (by simp)) hg e'.symm)), idx_snoc, if_pos hl]
    refine ih (fun h hh => hs h (by simp [hh])) (fun j l hjl hl2 => ?_) hl
    have := hd j l hjl (by simp; omega)
    rwa [Opt.at_lt (by omega), Opt.at_lt hl2] at this

/-- The builder: its struct in block p, its map in block b, its gates in a row from block base on. -/
structure Bld (w : World) (base p b f : Nat) (vG : Value) (x : List Opt.G) : Prop where
  row : Row w p 106 #[.int .i64 f, vG, .map (some b)]
  gates : w.ownsRow base 46 2 vG x.length (gvs (Opt.intG x))
  map : w.ownsMap Try.prog 125 (plainElem Try.prog 101) b x.length (dict f x)
  bp : b < p
  pb : p < base
  sz : base ≤ w.heap.size
/-- Only the builder's blocks, the block o and new ones may have changed. -/
structure Buts (p b : Nat) (o : Option Nat) (w w' : World) : Prop where
  os : w'.os = w.os
  tape : w'.tape = w.tape
  output : w'.output = w.output
  size : w.heap.size ≤ w'.heap.size
  block : ∀ k, k < w.heap.size → k ≠ p → k ≠ b → some k ≠ o → w'.heap[k]? = w.heap[k]?
theorem Buts.refl (p b : Nat) (o : Option Nat) (w : World) : Buts p b o w w := ⟨rfl, rfl, rfl, Nat.le_refl _, fun _ _ _ _ _ => rfl⟩
theorem Buts.of_below {p b B : Nat} {o : Option Nat} {w w' : World} (h : Below B w w') (hB : w.heap.size ≤ B) : Buts p b o w w' := ⟨h.os, h.tape, h.output, h.size, fun k hk _ _ _ => h.block k (by omega)⟩
theorem Buts.trans {p b : Nat} {o : Option Nat} {w w' w'' : World} (h : Buts p b o w w') (k : Buts p b o w' w'') : Buts p b o w w'' :=
  ⟨k.os.trans h.os, k.tape.trans h.tape, k.output.trans h.output, Nat.le_trans h.size k.size, fun i hi h1 h2 h3 => (k.block i (Nat.lt_of_lt_of_le hi h.size) h1 h2 h3).trans (h.block i hi h1 h2 h3)⟩
theorem Buts.of_grown {p b : Nat} {o : Option Nat} {w w' : World} (h : w.grownBy w' o) : Buts p b o w w' := ⟨h.os, h.tape, h.output, h.size, fun k hk _ _ h3 => h.block k hk h3⟩
theorem Buts.of_grownb {p b : Nat} {o : Option Nat} {w w' : World} (h : w.grownBy w' (some b)) : Buts p b o w w' := ⟨h.os, h.tape, h.output, h.size, fun k hk _ h2 _ => h.block k hk (by intro e; injection e; omega)⟩
theorem Buts.setp {p b : Nat} {o : Option Nat} {w w' : World} (h : Buts p b o w w') (j : Nat) (u : Value) : Buts p b o w (w'.setCell ⟨p, j, none⟩ u) :=
  ⟨h.os, h.tape, h.output, by simpa [World.setCell] using h.size, fun k hk h1 h2 h3 => (Below.heap_setCell w' ⟨p, j, none⟩ u k h1).trans (h.block k hk h1 h2 h3)⟩
theorem Buts.below {p b B : Nat} {o : Option Nat} {w w' : World} (h : Buts p b o w w') (hp : B ≤ p) (hb : B ≤ b) (ho : ∀ k, o = some k → B ≤ k) (hs : B ≤ w.heap.size) : Below B w w' :=
  ⟨h.os, h.tape, h.output, h.size, fun k hk => h.block k (by omega) (by omega) (by omega) (fun e => by have := ho k e.symm; omega)⟩
theorem Buts.row {p b : Nat} {o : Option Nat} {w w' : World} (h : Buts p b o w w') {g : Nat} {t : TypeId} {cs : Array Value} (hr : Row w g t cs) (h1 : g ≠ p) (h2 : g ≠ b) (h3 : some g ≠ o) : Row w' g t cs := (h.block g hr.lt h1 h2 h3).trans hr

theorem Bld.below {w w' : World} {base p b f : Nat} {vG : Value} {x : List Opt.G} (h : Bld w base p b f vG x) (hb : Below w.heap.size w w') : Bld w' base p b f vG x := by
  have hg : w.grownBy w' none := ⟨hb.os, hb.tape, hb.output, hb.size, fun k hk _ => hb.block k hk⟩
  exact ⟨h.row.below hb h.row.lt, h.gates.kept hg (by cases vG.ownBlock <;> simp), h.map.kept hg (by simp), h.bp, h.pb, Nat.le_trans h.sz hb.size⟩

set_option maxHeartbeats 400000 in
theorem newBuilder_any (f : Nat) (w : World) :
    Calls Try.prog 86 #[.int .i64 f] w fun e w' => e = .returned (.pointer (some ⟨w.heap.size + 1, 0, none⟩)) ∧ Bld w' (w.heap.size + 2) (w.heap.size + 1) w.heap.size f (.slice none 0 0) [] ∧ Below w.heap.size w w' := by
  have hmm := @run_makeMap Try.prog
  go_enter Try.func86, Try.ntmps86
  go_wp2
  go_ret
  refine ⟨rfl, ⟨?_, ?_, ?_, by omega, by omega, by simp⟩, ?_⟩
  · have := heap_alloc_new (w.alloc (.map #[] 0)) (.cells #[.int .i64 f, .slice none 0 0, .map (some w.heap.size)] 106)
    simpa [Row] using this
  · exact World.ownsRow_nil _ _ _ _
  · exact (World.ownsMap_made w _ _ _).alloc _
  · exact ((Below.refl _ _).alloc (Nat.le_refl _) _).alloc (by simp) _
end Go.Proofs.Ythpiddpkcmecfaa
