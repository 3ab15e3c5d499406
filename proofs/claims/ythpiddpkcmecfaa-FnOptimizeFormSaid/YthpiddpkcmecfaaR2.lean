/- What is known of the memory while a circuit is drawn, and how each step hands it on. -/
import Derived.Test.YthpiddpkcmecfaaR1
import Derived.Test.YthpiddpkcmecfaaW5
import Derived.Test.YthpiddpkcmecfaaI
namespace Go.Proofs.Ythpiddpkcmecfaa
open Go.RowKit Go.Deep

def gvs : List (Int × Int) → List Value
  | [] => []
  | g :: r => .int .i64 g.1 :: .int .i64 g.2 :: gvs r
theorem gvs_len (gs : List (Int × Int)) : (gvs gs).length = gs.length * 2 := by
  induction gs with
  | nil => rfl
  | cons g r ih => simp [gvs, ih]; omega
theorem gvs_append (a b : List (Int × Int)) : gvs (a ++ b) = gvs a ++ gvs b := by
  induction a with
  | nil => rfl
  | cons g r ih => simp [gvs, ih]
theorem gvs_get (gs : List (Int × Int)) (k : Nat) (hk : k < gs.length) : (gvs gs)[k * 2]? = some (.int .i64 (gs.getD k (0, 0)).1) ∧ (gvs gs)[k * 2 + 1]? = some (.int .i64 (gs.getD k (0, 0)).2) := by
  induction gs generalizing k with
  | nil => simp at hk
  | cons g r ih =>
    cases k with
    | zero => simp [gvs]
    | succ k =>
      have h := ih k (by simpa using hk)
      have e1 : (k + 1) * 2 = k * 2 + 1 + 1 := by omega
      rw [e1]
      simpa [gvs] using h
theorem gvs_one (gs : List (Int × Int)) : ∀ u ∈ gvs gs, u.oneCell' = true := by
  induction gs with
  | nil => simp [gvs]
  | cons g r ih =>
    intro u hu
    simp only [gvs, List.mem_cons] at hu
    rcases hu with rfl | rfl | hu
    · rfl
    · rfl
    · exact ih u hu
theorem ivs_append (a b : List Int) : ivs (a ++ b) = ivs a ++ ivs b := by simp [ivs]

theorem own_intsAt {w : World} {base : Nat} {v : Value} {xs : List Int} (h : w.ownsRow base 3 1 v xs.length (ivs xs)) : ∃ (A : Option Addr) (cap : Nat), v = .slice A xs.length cap ∧ IntsAt w w.heap.size A xs ∧ (∀ b off, A = some ⟨b, off, none⟩ → base ≤ b) := by
  rcases h.2 with ⟨rfl, h0⟩ | ⟨g, cap, cur, rfl, hb, _⟩
  · have : xs = [] := List.eq_nil_of_length_eq_zero h0
    subst this
    exact ⟨none, 0, rfl, fun k hk => absurd hk (by simp), fun _ _ h => by cases h⟩
  · exact ⟨_, cap, rfl, own_ints h rfl, fun b off e => by injection e with e; injection e with e1; omega⟩
theorem own_gatesAt {w : World} {base : Nat} {v : Value} {gs : List (Int × Int)} (h : w.ownsRow base 46 2 v gs.length (gvs gs)) : ∃ (A : Option Addr) (cap : Nat), v = .slice A gs.length cap ∧ GatesAt w w.heap.size A gs ∧ (∀ b off, A = some ⟨b, off, none⟩ → base ≤ b) ∧ gs.length ≤ cap := by
  rcases h.2 with ⟨rfl, h0⟩ | ⟨g, cap, cur, rfl, hb, _, hcap, _⟩
  · have : gs = [] := List.eq_nil_of_length_eq_zero h0
    subst this
    exact ⟨none, 0, rfl, fun k hk => absurd hk (by simp), (fun _ _ h => by cases h), by simp⟩
  · refine ⟨_, cap, rfl, fun k hk => ⟨g, 0, rfl, (h.lt g rfl).2, ?_, ?_⟩, (fun b off e => by injection e with e; injection e with e1; omega), hcap⟩
    · rw [Nat.zero_add, h.cellAt (k * 2) (by omega)]; exact (gvs_get gs k hk).1
    · rw [Nat.zero_add, h.cellAt (k * 2 + 1) (by omega)]; exact (gvs_get gs k hk).2

/-- Rows of different element types do not share a block. -/
theorem own_ne {w : World} {base e e' size size' n n' : Nat} {v v' : Value} {xs xs' : List Value} (h : w.ownsRow base e size v n xs) (h' : w.ownsRow base e' size' v' n' xs') (hne : e ≠ e') : v.ownBlock = none ∨ v.ownBlock ≠ v'.ownBlock := by
  rcases h.2 with ⟨rfl, _⟩ | ⟨g, cap, cur, rfl, _, hg, _⟩
  · exact .inl rfl
  · right
    rcases h'.2 with ⟨rfl, _⟩ | ⟨g', cap', cur', rfl, _, hg', _⟩
    · simp [Value.ownBlock]
    · intro e1
      have : g = g' := by simpa [Value.ownBlock] using e1
      subst this
      rw [hg] at hg'
      injection hg' with hg'
      injection hg' with _ ht
      exact hne ht
theorem own_low {w : World} {base e size n : Nat} {v : Value} {xs : List Value} (h : w.ownsRow base e size v n xs) {R : Nat} (hR : R < base) : some R ≠ v.ownBlock := by
  intro e1
  have := (h.lt R e1.symm).1
  omega

structure Drawn (w0 wr : World) (R D C base : Nat) (rb : Value) (p i : Int) (vN vG vO : Value) (ns : List Int) (gs : List (Int × Int)) (os : List Int) : Prop where
  row : Row wr R 90 #[rb, .int .i64 p]
  res : Row wr D 26 #[.int .i64 0, .slice none 0 0, .slice none 0 0, .slice none 0 0]
  cir : Row wr C 26 #[.int .i64 i, vN, vG, vO]
  next : wr.ownsRow base 3 1 vN ns.length (ivs ns)
  gates : wr.ownsRow base 46 2 vG gs.length (gvs gs)
  outs : wr.ownsRow base 3 1 vO os.length (ivs os)
  apart : vN.ownBlock = none ∨ vN.ownBlock ≠ vO.ownBlock
  grown : w0.grownBy wr (some R)
  hR : R < w0.heap.size
  hD : w0.heap.size ≤ D
  hDC : D < C
  hC : C < base
  hB : base ≤ wr.heap.size

section
variable {w0 wr : World} {R D C base : Nat} {rb : Value} {p i : Int} {vN vG vO : Value} {ns : List Int} {gs : List (Int × Int)} {os : List Int}

theorem Drawn.pick (h : Drawn w0 wr R D C base rb p i vN vG vO ns gs os) {w' : World} {p' : Int} (hr : Row w' R 90 #[rb, .int .i64 p']) (hg : wr.grownBy w' (some R)) : Drawn w0 w' R D C base rb p' i vN vG vO ns gs os := by
  have h1 := h.hR
  have h2 := h.hD
  have h3 := h.hDC
  have h4 := h.hC
  have hne : ∀ {e size n : Nat} {v : Value} {xs : List Value}, wr.ownsRow base e size v n xs → v.ownBlock = none ∨ v.ownBlock ≠ some R := fun ho => .inr (fun e => own_low ho (by omega) e.symm)
  exact ⟨hr, h.res.grown hg (by intro e; injection e; omega), h.cir.grown hg (by intro e; injection e; omega), h.next.kept hg (hne h.next), h.gates.kept hg (hne h.gates), h.outs.kept hg (hne h.outs), h.apart, h.grown.trans hg, h1, h2, h3, h4, Nat.le_trans h.hB hg.size⟩
theorem Drawn.drew (h : Drawn w0 wr R D C base rb p i vN vG vO ns gs os) : Drawn w0 wr.drew R D C base rb p i vN vG vO ns gs os :=
  ⟨h.row, h.res, h.cir, h.next.drew, h.gates.drew, h.outs.drew, h.apart, gb_drew h.grown, h.hR, h.hD, h.hDC, h.hC, h.hB⟩
theorem gb_alloc {w w' : World} {row : Option Nat} (h : w.grownBy w' row) (o : Obj) : w.grownBy (w'.alloc o) row :=
  ⟨h.os, h.tape, h.output, Nat.le_trans h.size (by simp), fun k hk hne => (Below.heap_alloc w' o k (Nat.lt_of_lt_of_le hk h.size)).trans (h.block k hk hne)⟩
theorem Row.alloc {w : World} {g : Nat} {t : TypeId} {cs : Array Value} (h : Row w g t cs) (o : Obj) : Row (w.alloc o) g t cs := (Below.heap_alloc w o g h.lt).trans h
theorem Drawn.alloc (h : Drawn w0 wr R D C base rb p i vN vG vO ns gs os) (o : Obj) : Drawn w0 (wr.alloc o) R D C base rb p i vN vG vO ns gs os :=
  ⟨h.row.alloc o, h.res.alloc o, h.cir.alloc o, h.next.alloc o, h.gates.alloc o, h.outs.alloc o, h.apart, gb_alloc h.grown o, h.hR, h.hD, h.hDC, h.hC, by have := h.hB; simp; omega⟩
theorem own_setC {w : World} {e size n : Nat} {v : Value} {xs : List Value} (h : w.ownsRow base e size v n xs) (hC : C < base) (j : Nat) (u : Value) : (w.setCell ⟨C, j, none⟩ u).ownsRow base e size v n xs :=
  ownsRow_setCell_below h (a := ⟨C, j, none⟩) hC u
theorem gb_setNew {w w' : World} {row : Option Nat} (h : w.grownBy w' row) {g : Nat} (hg : w.heap.size ≤ g) (j : Nat) (u : Value) : w.grownBy (w'.setCell ⟨g, j, none⟩ u) row :=
  ⟨h.os, h.tape, h.output, by simpa [World.setCell] using h.size, fun k hk hne => (Below.heap_setCell w' ⟨g, j, none⟩ u k (by simp; omega)).trans (h.block k hk hne)⟩
theorem Drawn.setI (h : Drawn w0 wr R D C base rb p i vN vG vO ns gs os) (i' : Int) : Drawn w0 (wr.setCell ⟨C, 0, none⟩ (.int .i64 i')) R D C base rb p i' vN vG vO ns gs os := by
  have h1 := h.hR
  have h2 := h.hD
  have h3 := h.hDC
  have h4 := h.hC
  have hc := h.cir.set 0 (.int .i64 i')
  simp at hc
  exact ⟨h.row.far (by simp; omega) _, h.res.far (by simp; omega) _, hc, own_setC h.next h4 0 _, own_setC h.gates h4 0 _, own_setC h.outs h4 0 _, h.apart, gb_setNew h.grown (by omega) 0 _, h1, h2, h3, h4, by simpa [World.setCell] using h.hB⟩
/-- What an append has grown is a row of the call's own: everything else stays. -/
theorem gb_own {w w' : World} {row : Option Nat} (h : w0.grownBy w (some R)) (hg : w.grownBy w' row) (hrow : ∀ k, row = some k → w0.heap.size ≤ k) : w0.grownBy w' (some R) :=
  ⟨hg.os.trans h.os, hg.tape.trans h.tape, hg.output.trans h.output, Nat.le_trans h.size hg.size, fun k hk hne => (hg.block k (Nat.lt_of_lt_of_le hk h.size) (fun e => by have := hrow k e.symm; omega)).trans (h.block k hk hne)⟩
theorem Drawn.appG (h : Drawn w0 wr R D C base rb p i vN vG vO ns gs os) {w' : World} {g cap : Nat} {more : List (Int × Int)} (ho : w'.ownsRow base 46 2 (.slice (some ⟨g, 0, none⟩) (gs.length + more.length) cap) (gs.length + more.length) (gvs gs ++ gvs more)) (hg : wr.grownBy w' vG.ownBlock) :
    Drawn w0 (w'.setCell ⟨C, 2, none⟩ (.slice (some ⟨g, 0, none⟩) (gs.length + more.length) cap)) R D C base rb p i vN (.slice (some ⟨g, 0, none⟩) (gs.length + more.length) cap) vO ns (gs ++ more) os := by
  have h1 := h.hR
  have h2 := h.hD
  have h3 := h.hDC
  have h4 := h.hC
  have hc := (h.cir.grown hg (own_low h.gates h4)).set 2 (.slice (some ⟨g, 0, none⟩) (gs.length + more.length) cap)
  simp at hc
  refine ⟨(h.row.grown hg (own_low h.gates (by omega))).far (by simp; omega) _, (h.res.grown hg (own_low h.gates (by omega))).far (by simp; omega) _, hc, own_setC (h.next.kept hg (own_ne h.next h.gates (by decide))) h4 2 _, ?_, own_setC (h.outs.kept hg (own_ne h.outs h.gates (by decide))) h4 2 _, h.apart,
    gb_setNew (gb_own h.grown hg (fun k hk => by have := (h.gates.lt k hk).1; omega)) (by omega) 2 _, h1, h2, h3, h4, ?_⟩
  · rw [List.length_append, gvs_append]; exact own_setC ho h4 2 _
  · have := h.hB; have := hg.size; simp [World.setCell]; omega
theorem Drawn.appN (h : Drawn w0 wr R D C base rb p i vN vG vO ns gs os) {w' : World} {g cap : Nat} {more : List Int} (ho : w'.ownsRow base 3 1 (.slice (some ⟨g, 0, none⟩) (ns.length + more.length) cap) (ns.length + more.length) (ivs ns ++ ivs more)) (hg : wr.grownBy w' vN.ownBlock) (hat : vN.ownBlock = some g ∨ g = wr.heap.size) :
    Drawn w0 (w'.setCell ⟨C, 1, none⟩ (.slice (some ⟨g, 0, none⟩) (ns.length + more.length) cap)) R D C base rb p i (.slice (some ⟨g, 0, none⟩) (ns.length + more.length) cap) vG vO (ns ++ more) gs os := by
  have h1 := h.hR
  have h2 := h.hD
  have h3 := h.hDC
  have h4 := h.hC
  have hc := (h.cir.grown hg (own_low h.next h4)).set 1 (.slice (some ⟨g, 0, none⟩) (ns.length + more.length) cap)
  simp at hc
  have hap : vO.ownBlock = none ∨ vO.ownBlock ≠ vN.ownBlock := by
    rcases h.apart with e | e
    · rw [e]; cases vO.ownBlock <;> simp
    · exact .inr (fun x => e x.symm)
  refine ⟨(h.row.grown hg (own_low h.next (by omega))).far (by simp; omega) _, (h.res.grown hg (own_low h.next (by omega))).far (by simp; omega) _, hc, ?_, own_setC (h.gates.kept hg (own_ne h.gates h.next (by decide))) h4 1 _, own_setC (h.outs.kept hg hap) h4 1 _, ?_,
    gb_setNew (gb_own h.grown hg (fun k hk => by have := (h.next.lt k hk).1; omega)) (by omega) 1 _, h1, h2, h3, h4, ?_⟩
  · rw [List.length_append, ivs_append]; exact own_setC ho h4 1 _
  · right
    show some g ≠ vO.ownBlock
    rcases hat with e | e
    · rw [← e]
      rcases hap with x | x
      · rw [x, e]; simp
      · exact fun y => x y.symm
    · intro x
      have := (h.outs.lt g x.symm).2
      omega
  · have := h.hB; have := hg.size; simp [World.setCell]; omega
theorem Drawn.appO (h : Drawn w0 wr R D C base rb p i vN vG vO ns gs os) {w' : World} {g cap : Nat} {more : List Int} (ho : w'.ownsRow base 3 1 (.slice (some ⟨g, 0, none⟩) (os.length + more.length) cap) (os.length + more.length) (ivs os ++ ivs more)) (hg : wr.grownBy w' vO.ownBlock) (hat : vO.ownBlock = some g ∨ g = wr.heap.size) :
    Drawn w0 (w'.setCell ⟨C, 3, none⟩ (.slice (some ⟨g, 0, none⟩) (os.length + more.length) cap)) R D C base rb p i vN vG (.slice (some ⟨g, 0, none⟩) (os.length + more.length) cap) ns gs (os ++ more) := by
  have h1 := h.hR
  have h2 := h.hD
  have h3 := h.hDC
  have h4 := h.hC
  have hc := (h.cir.grown hg (own_low h.outs h4)).set 3 (.slice (some ⟨g, 0, none⟩) (os.length + more.length) cap)
  simp at hc
  refine ⟨(h.row.grown hg (own_low h.outs (by omega))).far (by simp; omega) _, (h.res.grown hg (own_low h.outs (by omega))).far (by simp; omega) _, hc, own_setC (h.next.kept hg h.apart) h4 3 _, own_setC (h.gates.kept hg (own_ne h.gates h.outs (by decide))) h4 3 _, ?_, ?_,
    gb_setNew (gb_own h.grown hg (fun k hk => by have := (h.outs.lt k hk).1; omega)) (by omega) 3 _, h1, h2, h3, h4, ?_⟩
  · rw [List.length_append, ivs_append]; exact own_setC ho h4 3 _
  · rcases h.apart with e | e
    · exact .inl e
    · right
      show vN.ownBlock ≠ some g
      rcases hat with x | x
      · rw [← x]; exact e
      · intro y
        have := (h.next.lt g y).2
        omega
  · have := h.hB; have := hg.size; simp [World.setCell]; omega
end
end Go.Proofs.Ythpiddpkcmecfaa
