/- Memory of routing: a queue that is cut at its head, a list of hops, the wires. -/
import Derived.Test.YtliedgaefgomjaaGreatQX
import Derived.ArgAppend
import Derived.Test.YtliedgaefgomjaaGreatM6
import Derived.Deep.DeepCutAuto
import Derived.BigRegion
import Derived.Test.YtliedgaefgomjaaGreatPM
import Derived.Deep.LoopGhost
import Derived.Laws.Rows
import Derived.Great.BuildSlice
import Derived.Great.Walk
import Derived.Deep.WholeRow
namespace Go.Proofs.YtliedgaefgomjaaGreat
open Go.RowKit Go.Deep Cut Plc Rt

/-- A row of integers of the call's own, wherever in its block it begins. -/
def QAt (w : World) (B : Nat) (v : Value) (xs : List Nat) : Prop :=
  (v = .slice none 0 0 ∧ xs = []) ∨ ∃ (g off cap : Nat) (cur : Array Value), v = .slice (some ⟨g, off, none⟩) xs.length cap ∧ B ≤ g ∧ Row w g 3 cur ∧ xs.length ≤ cap ∧ off + cap ≤ cur.size ∧ cap ≤ maxLen ∧ ∀ j, j < xs.length → cur[off + j]? = some (.int .i64 (xs.getD j 0 : Nat))
theorem QAt.keep {w w' : World} {B : Nat} {v : Value} {xs : List Nat} (h : QAt w B v xs) (hk : ∀ b, B ≤ b → b < w.heap.size → w'.heap[b]? = w.heap[b]?) : QAt w' B v xs := by
  rcases h with h | ⟨g, off, cap, cur, h1, h2, h3, h4⟩
  · exact .inl h
  · exact .inr ⟨g, off, cap, cur, h1, h2, (hk g h2 h3.lt).trans h3, h4⟩
theorem QAt.slice {w : World} {B : Nat} {v : Value} {xs : List Nat} (h : QAt w B v xs) : ∃ (A : Option Addr) (cap : Nat), v = .slice A xs.length cap := by
  rcases h with ⟨h, e⟩ | ⟨g, off, cap, cur, h1, _⟩
  · subst e; exact ⟨none, 0, h⟩
  · exact ⟨_, _, h1⟩
theorem qat_own {w : World} {B B' n : Nat} {v : Value} {xs : List Nat} (h : w.ownsRow B' 3 1 v n (ivs (Opt.intL xs))) (hn : xs.length = n) (hB : B ≤ B') : QAt w B v xs := by
  subst hn
  rcases h.2 with ⟨hv, h0⟩ | ⟨g, cap, cur, hv, h1, h2, h3, h4, h5, h6⟩
  · have : xs = [] := List.eq_nil_of_length_eq_zero h0
    exact .inl ⟨hv, this⟩
  · refine .inr ⟨g, 0, cap, cur, hv, Nat.le_trans hB h1, h2, h3, by omega, h4, fun j hj => ?_⟩
    have e : (ivs (Opt.intL xs))[j]? = some (.int .i64 ((Opt.intL xs).getD j 0)) := ivs_get (by rw [Opt.intL_len]; exact hj)
    rw [Opt.intL_at, ← h6, List.getElem?_take, if_pos (by omega), Array.getElem?_toList] at e
    rw [Nat.zero_add]
    exact e
theorem ivs_snocN (xs : List Nat) (y : Nat) : ivs (Opt.intL (xs ++ [y])) = ivs (Opt.intL xs) ++ [.int .i64 (y : Int)] := by simp [ivs, Opt.intL]
theorem run_push_q (w : World) (B : Nat) (v : Value) (xs : List Nat) (y : Nat) (ty : TypeId) (h : QAt w B v xs) (hB : B ≤ w.heap.size) (hl : xs.length ≤ 1000) :
    ∃ v' w', (Builtin.append_ #[23, 23] ty #[v, .slice (some ⟨w.heap.size, 0, none⟩) 1 1]).run Tryz.prog (w.alloc (.cells #[.int .i64 (y : Int)] 3)) = .ok v' w' ∧ QAt w' B v' (xs ++ [y]) ∧ Below B w w' ∧ ∀ z, z < w.heap.size → v.ownBlock ≠ some z → v'.ownBlock ≠ some z ∧ w'.heap[z]? = w.heap[z]? := by
  obtain ⟨i0, hi0, hz0, hz1, hz2⟩ := info_split Tryz.info3
  have hz : (w.alloc (.cells #[.int .i64 (y : Int)] 3)).heap.size = w.heap.size + 1 := by simp
  have hba : Below B w (w.alloc (.cells #[.int .i64 (y : Int)] 3)) := (Below.refl B w).alloc hB _
  have hnews := World.news_of_block (cs := #[.int .i64 (y : Int)]) (t := 3) (fr := (0, 0)) (heap_alloc_new w (.cells #[.int .i64 (y : Int)] 3))
  have h1 : ∀ u ∈ [Value.int .i64 (y : Int)], u.oneCell' = true := by simp [Value.oneCell']
  rcases h with ⟨rfl, rfl⟩ | ⟨g, off, cap, cur, rfl, h2, h3, h4, h5, h6, h7⟩
  · obtain ⟨g', cap', w', hr, k2, k3, k4, _, _⟩ := run_append_kept (P := Tryz.prog) _ 23 ty B 3 i0 (.int .i64 0) 1 8 Tryz.underlying23 hi0 hz0 hz1 hz2 rfl (by omega) (.slice none 0 0) 0 [] (World.ownsRow_nil (w.alloc (.cells #[.int .i64 (y : Int)] 3)) B 3 1) ⟨w.heap.size, 0, none⟩ 1 1 [.int .i64 (y : Int)] rfl hnews h1 (by omega) (by simp [maxLen]) (by omega) (by omega)
    exact ⟨_, w', hr, qat_own (xs := [] ++ [y]) k2 rfl (Nat.le_refl _), hba.grown k3 (by omega) (fun j hj => by simp [Value.ownBlock] at hj), fun z hz2 _ => ⟨fun e => by
      rcases k4 with k4 | k4
      · simp [Value.ownBlock] at k4
      · simp [Value.ownBlock] at e
        omega, (k3.block z (by omega) (by simp [Value.ownBlock])).trans (Below.heap_alloc w _ z hz2)⟩⟩
  · have hra := h3.alloc (.cells #[.int .i64 (y : Int)] 3)
    by_cases hroom : xs.length + 1 ≤ cap
    · have hin : off + xs.length < cur.size := by omega
      have hr := run_append_room_cells (P := Tryz.prog) (w.alloc (.cells #[.int .i64 (y : Int)] 3)) 23 ty 3 i0 Tryz.underlying23 hi0 g off xs.length cap ⟨w.heap.size, 0, none⟩ 1 1 [.int .i64 (y : Int)] (by rw [hz1]; rfl) hnews h1 hroom
        (fun j hj => by
          have e : j = 0 := by simpa using hj
          subst e
          rw [hra.cell, hz1, Nat.mul_one, Nat.add_zero, Array.getElem?_eq_getElem hin]
          rfl)
        (fun j hj => hra.frozen _)
      rw [hz1, Nat.mul_one] at hr
      refine ⟨_, _, hr, .inr ⟨g, off, cap, cur.setIfInBounds (off + xs.length) (.int .i64 (y : Int)), by rw [List.length_append]; rfl, h2, hra.set (off + xs.length) _, by rw [List.length_append]; exact hroom, by rw [Array.size_setIfInBounds]; exact h5, h6, fun j hj => ?_⟩, hba.setCell (p := ⟨g, off + xs.length, none⟩) h2 _, fun z hz2 hne => ⟨hne, (Below.heap_setCell _ ⟨g, off + xs.length, none⟩ _ z (fun e => hne (by rw [e]; rfl))).trans (Below.heap_alloc w _ z hz2)⟩⟩
      rw [Array.getElem?_setIfInBounds]
      by_cases e : j = xs.length
      · subst e
        rw [if_pos rfl, if_pos hin, Circ.getD_app_at _ _ _ _ rfl]
      · rw [List.length_append, List.length_singleton] at hj
        rw [if_neg (by omega), Circ.getD_app_lt _ _ _ _ (by omega)]
        exact h7 j (by omega)
    · obtain ⟨v', w', hr, k2, k3⟩ := run_append_arg_grows (P := Tryz.prog) (w.alloc (.cells #[.int .i64 (y : Int)] 3)) 23 ty 3 i0 (.int .i64 0) 1 8 Tryz.underlying23 hi0 hz0 hz1 hz2 rfl (by omega) ⟨g, off, none⟩ xs.length cap (ivs (Opt.intL xs)) (by rw [ivs_len, Opt.intL_len, Nat.mul_one]) (fun j u hu => by
          have hj : j < xs.length := by
            have := (List.getElem?_eq_some_iff.1 hu).1
            rw [ivs_len, Opt.intL_len] at this
            exact this
          have e : (ivs (Opt.intL xs))[j]? = some (.int .i64 ((Opt.intL xs).getD j 0)) := ivs_get (by rw [Opt.intL_len]; exact hj)
          rw [hu, Opt.intL_at] at e
          have e := Option.some.inj e
          subst e
          have := hra.cell (off + j)
          rw [h7 j hj] at this
          rw [Addr.add_lit]
          exact this) ⟨w.heap.size, 0, none⟩ 1 1 [.int .i64 (y : Int)] rfl hnews (by omega) (by simp [maxLen]; omega) (by omega)
      rw [← ivs_snocN] at k2
      exact ⟨v', w', hr, qat_own k2 (by rw [List.length_append]; rfl) (by omega), hba.grown k3 (by omega) (fun j hj => by cases hj), fun z hz2 _ => ⟨fun e => by
        have := (World.ownsRow.lt k2 z e).1
        omega, (k3.block z (by omega) (by simp)).trans (Below.heap_alloc w _ z hz2)⟩⟩
section
variable {ops : Array Oper} {rest : List Oper} {o : Oper} {a : Act} {Q : Exit → Act → World → Prop}
theorem wpList_pushQ (hgd : o.guard = none) (s x : Operand) (ho : o.op = .call { callee := .builtin .append, args := #[s, x], argTypes := #[23, 23] })
    (w : World) (B : Nat) (v : Value) (xs : List Nat) (hev : a.eval s = v) (h : QAt w B v xs) (hB : B ≤ w.heap.size) (hl : xs.length ≤ 1000) (y : Nat) (hx : a.eval x = .slice (some ⟨w.heap.size, 0, none⟩) 1 1)
    (cont : ∀ v' w', QAt w' B v' (xs ++ [y]) → Below B w w' → (∀ z, z < w.heap.size → v.ownBlock ≠ some z → v'.ownBlock ≠ some z ∧ w'.heap[z]? = w.heap[z]?) → wpList Tryz.prog ops Q rest (a.put o.dst v') w') :
    wpList Tryz.prog ops Q (o :: rest) a (w.alloc (.cells #[.int .i64 (y : Int)] 3)) :=
  wpList_plain hgd fun _ hK => by
    obtain ⟨v', w', hr, h2, h3, h4⟩ := run_push_q w B v xs y o.type h hB hl
    unfold Oper.wp execOp
    simp only [ho, resolve, invoke, builtin, Sem.run_bind, Sem.run_pure, Result.andThen_ok, List.map_toArray, List.map_cons, List.map_nil, hev, hx, hr]
    exact hK _ _ (cont v' w' h2 h3 h4)
end

/-- A list of hops of the call's own. -/
def hpI (hs : List Hp) : List (Int × Int) := hs.map fun h => ((h.1 : Int), h.2)
theorem hpI_len (hs : List Hp) : (hpI hs).length = hs.length := by simp [hpI]
theorem hpI_at (hs : List Hp) (k : Nat) : (hpI hs).getD k (0, 0) = (((hs.getD k (0, 0)).1 : Int), (hs.getD k (0, 0)).2) := by
  unfold hpI
  simp only [List.getD_eq_getElem?_getD, List.getElem?_map]
  cases hs[k]? <;> rfl
def HAt (w : World) (B : Nat) (hs : List Hp) (g cap : Nat) : Prop := w.ownsRow B 38 2 (.slice (some ⟨g, 0, none⟩) hs.length cap) hs.length (gvs (hpI hs))
theorem HAt.gb {w : World} {B g cap : Nat} {hs : List Hp} (h : HAt w B hs g cap) : B ≤ g ∧ g < w.heap.size := World.ownsRow.lt h g rfl
theorem HAt.keep {w w' : World} {B g cap : Nat} {hs : List Hp} (h : HAt w B hs g cap) (hg : w'.heap[g]? = w.heap[g]?) : HAt w' B hs g cap := own_keepE h hg
theorem HAt.on {w w' : World} {B g cap : Nat} {hs : List Hp} (h : HAt w B hs g cap) (hb : Below w.heap.size w w') : HAt w' B hs g cap := h.keep (hb.block g h.gb.2)
theorem HAt.lower {w : World} {B B' g cap : Nat} {hs : List Hp} (h : HAt w B hs g cap) (hb : B' ≤ B) : HAt w B' hs g cap := ⟨h.1, h.2.imp id fun ⟨g, cap, cur, h1, h2, h3⟩ => ⟨g, cap, cur, h1, Nat.le_trans hb h2, h3⟩⟩
theorem HAt.read {w : World} {B g cap : Nat} {hs : List Hp} (h : HAt w B hs g cap) : GatesAt w w.heap.size (some ⟨g, 0, none⟩) (hpI hs) := fun k hk => by
  rw [hpI_len] at hk
  have h1 := h.cellAt (k * 2) (by omega)
  have h2 := h.cellAt (k * 2 + 1) (by omega)
  obtain ⟨e1, e2⟩ := gvs_get (hpI hs) k (by rw [hpI_len]; exact hk)
  refine ⟨g, 0, rfl, h.gb.2, ?_, ?_⟩
  · rw [Nat.zero_add, h1]; exact e1
  · rw [Nat.zero_add, h2]; exact e2
theorem HAt.cap {w : World} {B g cap : Nat} {hs : List Hp} (h : HAt w B hs g cap) : hs.length ≤ cap ∧ cap ≤ maxLen := by
  rcases h.2 with ⟨hv, _⟩ | ⟨g', cap', cur, hv, _, _, h3, h4, _⟩
  · cases hv
  · injection hv with _ _ e
    subst e
    exact ⟨h3, h4⟩
theorem Tryz.infoHop : (Tryz.prog.info? 38).map (fun i => (i.zero, i.size, i.bytes)) = some (some (.agg #[.int .i64 0, .int .i64 0]), 2, 16) := by kernel_rfl
theorem hpI_app (a b : List Hp) : hpI (a ++ b) = hpI a ++ hpI b := by simp [hpI]
theorem hops_src {w : World} {B : Nat} {A : Option Addr} {gs : List (Int × Int)} (h : GatesAt w B A gs) : ∀ j u, (gvs gs)[j]? = some u → ∃ ad, A = some ad ∧ w.cell? (ad.add j) = some u := by
  intro j u hu
  have hj : j < gs.length * 2 := by
    have := (List.getElem?_eq_some_iff.1 hu).1
    rwa [gvs_len] at this
  obtain ⟨b, off, e, _, hc, hd⟩ := h (j / 2) (by omega)
  obtain ⟨e1, e2⟩ := gvs_get gs (j / 2) (by omega)
  refine ⟨_, e, ?_⟩
  rw [Addr.add_lit]
  rcases Nat.mod_two_eq_zero_or_one j with m | m
  · have ej : j = j / 2 * 2 := by omega
    rw [← ej] at e1 hc
    rw [hu] at e1
    injection e1 with e1
    rw [hc, e1]
  · have ej : j = j / 2 * 2 + 1 := by omega
    have e2' : (gvs gs)[j]? = some (.int .i64 (gs.getD (j / 2) (0, 0)).2) := by rw [← e2, ← ej]
    rw [hu] at e2'
    injection e2' with e2'
    rw [show off + j = off + j / 2 * 2 + 1 by omega, hd, e2']
section
variable {ops : Array Oper} {rest : List Oper} {o : Oper} {a : Act} {Q : Exit → Act → World → Prop}
/-- One hop more. -/
theorem wpList_pushH (hgd : o.guard = none) (s x : Operand) (ho : o.op = .call { callee := .builtin .append, args := #[s, x], argTypes := #[34, 34] })
    (wr : World) (B g cap n : Nat) (hs : List Hp) (hev : a.eval s = .slice (some ⟨g, 0, none⟩) n cap) (hn : hs.length = n) (h : HAt wr B hs g cap) (hnb : n ≤ 1000)
    (t : Nat) (u : Int) (hx : a.eval x = .slice (some ⟨wr.heap.size, 0, none⟩) 1 1)
    (cont : ∀ g' cap' w5, HAt w5 B (hs ++ [(t, u)]) g' cap' → Below B wr w5 → (∀ b, b < wr.heap.size → b ≠ g → w5.heap[b]? = wr.heap[b]?) → (g' = g ∨ wr.heap.size < g') → wpList Tryz.prog ops Q rest (a.put o.dst (.slice (some ⟨g', 0, none⟩) (n + 1) cap')) w5) :
    wpList Tryz.prog ops Q (o :: rest) a (wr.alloc (.cells #[.int .i64 (t : Int), .int .i64 u] 38)) := by
  subst hn
  obtain ⟨i0, hi0, hz0, hz1, hz2⟩ := info_split Tryz.infoHop
  obtain ⟨hB, hgl⟩ := h.gb
  refine wpList_append_kept _ hgd s x 34 ho B 38 i0 _ 2 16 Tryz.underlying34 hi0 hz0 hz1 hz2 rfl (by omega) (.slice (some ⟨g, 0, none⟩) hs.length cap) hs.length (gvs (hpI hs)) hev (World.ownsRow.alloc h _) ⟨wr.heap.size, 0, none⟩ 1 1 [.int .i64 (t : Int), .int .i64 u] hx rfl (World.news_of_block (cs := #[.int .i64 (t : Int), .int .i64 u]) (t := 38) (fr := (0, 0)) (heap_alloc_new wr _)) (by simp [Value.oneCell']) (by omega) (by simp [maxLen]; omega) (by omega) (by simp; omega) _ rfl ?_
  intro g' cap' w5 hown5 hgr5 hat5 hlt5 hkept5
  refine cont g' cap' w5 ?_ (below_alloc_grown hgr5 (by omega) hB) (off_grown hgr5) ?_
  · unfold HAt
    have e : gvs (hpI (hs ++ [(t, u)])) = gvs (hpI hs) ++ [.int .i64 (t : Int), .int .i64 u] := by rw [hpI_app, gvs_append]; rfl
    rw [e, List.length_append, List.length_singleton]
    exact hown5
  · rcases hat5 with h1 | h1
    · left; simp [Value.ownBlock] at h1; omega
    · right; simp at h1; omega
/-- A list of hops behind another. -/
theorem wpList_appendH (hgd : o.guard = none) (s x : Operand) (ho : o.op = .call { callee := .builtin .append, args := #[s, x], argTypes := #[34, 34] })
    (wr : World) (B g cap n : Nat) (hs : List Hp) (hev : a.eval s = .slice (some ⟨g, 0, none⟩) n cap) (hn : hs.length = n) (h : HAt wr B hs g cap) (hnb : n ≤ 1000)
    (A : Option Addr) (m c : Nat) (ks : List Hp) (hx : a.eval x = .slice A m c) (hm : ks.length = m) (hmb : m ≤ 1000) (hk : GatesAt wr wr.heap.size A (hpI ks))
    (cont : ∀ g' cap' w5, HAt w5 B (hs ++ ks) g' cap' → Below B wr w5 → (∀ b, b < wr.heap.size → b ≠ g → w5.heap[b]? = wr.heap[b]?) → (g' = g ∨ wr.heap.size ≤ g') → wpList Tryz.prog ops Q rest (a.put o.dst (.slice (some ⟨g', 0, none⟩) (n + m) cap')) w5) :
    wpList Tryz.prog ops Q (o :: rest) a wr := by
  subst hn hm
  obtain ⟨i0, hi0, hz0, hz1, hz2⟩ := info_split Tryz.infoHop
  obtain ⟨hB, hgl⟩ := h.gb
  refine wpList_append_src _ hgd s x 34 ho B 38 i0 _ 2 16 Tryz.underlying34 hi0 hz0 hz1 hz2 rfl (by omega) g cap hs.length (gvs (hpI hs)) hev h A ks.length c (gvs (hpI ks)) hx (by rw [gvs_len, hpI_len]) (hops_src hk) (gvs_one _) (by simp [maxLen]; omega) (by omega) (by omega) _ rfl ?_
  intro g' cap' w5 hown5 hgr5 hat5
  refine cont g' cap' w5 ?_ (Below.grown (Below.refl B wr) hgr5 (by omega) (fun k hk => by injection hk; omega)) (fun b h1 h2 => hgr5.block b h1 (fun e => h2 (by injection e))) ?_
  · unfold HAt
    rw [hpI_app, gvs_append, List.length_append]
    exact hown5
  · rcases hat5 with h1 | h1
    · exact .inl h1
    · exact .inr (by omega)
end

theorem rmap_set2 {α : Type} (f : Nat → α) (m k : Nat) (v : α) : ((List.range m).map f).set k v = (List.range m).map (fun j => if j = k then v else f j) := by
  refine List.ext_getElem (by simp) (fun j h1 h2 => ?_)
  rw [List.getElem_set]
  simp only [List.getElem_map, List.getElem_range]
  by_cases e : k = j
  · rw [if_pos e, if_pos e.symm]
  · rw [if_neg e, if_neg (fun x => e x.symm)]
/-- The wires. -/
def wRow (B : List (List Bool)) : Array Value := ((List.range 200).map fun i => Value.bool ((B.getD (i % 8) []).getD (i / 8) false)).toArray
theorem wRow_at (B : List (List Bool)) {v t : Nat} (hv : v < 25) (ht : t < 8) : (wRow B)[v * 8 + t]? = some (.bool ((B.getD t []).getD v false)) := by
  unfold wRow
  rw [List.getElem?_toArray, List.getElem?_map, List.getElem?_range (by omega)]
  show some (Value.bool ((B.getD ((v * 8 + t) % 8) []).getD ((v * 8 + t) / 8) false)) = _
  rw [show (v * 8 + t) % 8 = t by omega, show (v * 8 + t) / 8 = v by omega]
theorem wRow_zero : wRow (List.replicate 8 (List.replicate 25 false)) = (List.replicate 200 (Value.bool false)).toArray := by
  unfold wRow
  refine congrArg List.toArray ?_
  rw [List.eq_replicate_iff]
  refine ⟨by rw [List.length_map, List.length_range], fun b hb => ?_⟩
  obtain ⟨j, hj, rfl⟩ := List.mem_map.1 hb
  have h3 : j < 200 := List.mem_range.1 hj
  simp only [List.getD_eq_getElem?_getD, List.getElem?_replicate]
  rw [if_pos (by omega)]
  show Value.bool (((List.replicate 25 false)[j / 8]?).getD false) = _
  rw [List.getElem?_replicate, if_pos (by omega)]
  rfl
theorem wRow_set {B : List (List Bool)} (h : Bok B) {v t : Nat} (hv : v < 25) (ht : t < 8) : (wRow B).setIfInBounds (v * 8 + t) (.bool true) = wRow (B.set t ((B.getD t []).set v true)) := by
  unfold wRow
  rw [List.setIfInBounds_toArray, rmap_set2]
  congr 1
  refine List.map_congr_left (fun j hj => ?_)
  have hj2 : j < 200 := List.mem_range.1 hj
  show (if j = v * 8 + t then Value.bool true else _) = Value.bool (((B.set t ((B.getD t []).set v true)).getD (j % 8) []).getD (j / 8) false)
  rw [set_at B [] t (j % 8) _ (by rw [h.1]; exact ht)]
  by_cases e : j = v * 8 + t
  · rw [if_pos e, if_pos (by omega), set_at _ false v _ _ (by rw [h.2 t ht]; exact hv), if_pos (by omega)]
  · rw [if_neg e]
    by_cases e2 : j % 8 = t
    · rw [if_pos e2, set_at _ false v _ _ (by rw [h.2 t ht]; exact hv), if_neg (by omega), e2]
    · rw [if_neg e2]
/-- The wires in memory. -/
def WAt (w : World) (W : Nat) (B : List (List Bool)) : Prop := Row w W 61 (wRow B)
end Go.Proofs.YtliedgaefgomjaaGreat
/- The walks of routing's small functions: neighbours, the queue. -/
namespace Go.Proofs.YtliedgaefgomjaaGreat
open Go.RowKit Go.Deep Cut Plc Rt

theorem TimesAt.made0 (w : World) (B : Nat) (hB : B ≤ w.heap.size) : TimesAt (w.alloc (.cells #[] 3)) B [] w.heap.size 0 := World.ownsRow_lit (base := B) (e := 3) (size := 1) w #[] 0 hB (by simp [maxLen]) (by simp)

set_option maxRecDepth 10000 in
set_option maxHeartbeats 2000000 in
theorem neigh_any (t : Nat) (w : World) (ht : t < 25) :
    Calls Tryz.prog 89 #[.int .i64 (t : Int)] w fun e w' => ∃ g cap : Nat, e = .returned (.slice (some ⟨g, 0, none⟩) (nbrs t).length cap) ∧ TimesAt w' w.heap.size (nbrs t) g cap ∧ Below w.heap.size w w' := by
  have HT0 := Lib.hid (TimesAt.made0 w w.heap.size (Nat.le_refl _))
  have HX0 : Hid (Below w.heap.size w (w.alloc (.cells #[] 3))) := Lib.hid ((Below.refl _ _).alloc (Nat.le_refl _) _)
  obtain ⟨A1, h1⟩ : ∃ A1, (if 5 ≤ t then [t - 5] else ([] : List Nat)) = A1 := ⟨_, rfl⟩
  obtain ⟨A2, h2⟩ : ∃ A2, A1 ++ (if 0 < t % 5 then [t - 1] else ([] : List Nat)) = A2 := ⟨_, rfl⟩
  obtain ⟨A3, h3⟩ : ∃ A3, A2 ++ (if t % 5 < 4 then [t + 1] else ([] : List Nat)) = A3 := ⟨_, rfl⟩
  obtain ⟨A4, h4⟩ : ∃ A4, A3 ++ (if t < 20 then [t + 5] else ([] : List Nat)) = A4 := ⟨_, rfl⟩
  have HN : Hid (nbrs t = A4) := Lib.hid (by rw [← h4, ← h3, ← h2, ← h1]; rfl)
  have H1 : Hid (([] : List Nat) ++ (if 5 ≤ t then [t - 5] else ([] : List Nat)) = A1) := Lib.hid h1
  have H2 := Lib.hid h2
  have H3 := Lib.hid h3
  have H4 := Lib.hid h4
  clear h1 h2 h3 h4
  rw [HN.out]
  have L0 : Hid (([] : List Nat).length = 0) := Lib.hid rfl
  obtain ⟨r, hr0⟩ : ∃ r, t / 5 = r := ⟨_, rfl⟩
  obtain ⟨c, hc0⟩ : ∃ c, t % 5 = c := ⟨_, rfl⟩
  have d1 : (t : Int) / 5 = (r : Int) := by omega
  have e1 : (t : Int).tdiv 5 = (r : Int) := by rw [Int.tdiv_eq_ediv_of_nonneg (by omega)]; omega
  have d2 : (t : Int) % 5 = (c : Int) := by omega
  have e2 : (t : Int).tmod 5 = (c : Int) := by rw [Int.tmod_eq_emod_of_nonneg (by omega)]; omega
  have HR0 := Lib.hid hr0
  have HC0 := Lib.hid hc0
  clear hr0 hc0
  go_enter Tryz.func89, Tryz.ntmps89
  go_upto_if 12 with fail
  generalize hq0 : w.alloc (.cells #[] 3) = w0 at *
  clear hq0
  obtain ⟨g0, hg0⟩ : ∃ g0, w.heap.size = g0 := ⟨_, rfl⟩
  have HG0 := Lib.hid hg0
  rw [hg0] at HT0
  have HT0 : Hid (TimesAt w0 w.heap.size [] g0 0) := Lib.hid (by rw [hg0]; exact HT0.out)
  rw [hg0]
  clear hg0
  go_cut [5] (fun sv wx => ∃ (wz : World) (g cap n : Nat), wz = wx ∧ sv = .slice (some ⟨g, 0, none⟩) n cap ∧ n ≤ 1 ∧ Hid (A1.length = n) ∧ Hid (TimesAt wx w.heap.size A1 g cap) ∧ Hid (Below w.heap.size w wx))
  case first =>
    by_cases hc : 5 ≤ t
    · have HE : Hid ([] ++ [t - 5] = A1) := Lib.hid (by rw [← H1.out, if_pos hc])
      have hv : (t : Int) - 5 = ((t - 5 : Nat) : Int) := by omega
      have HV := Lib.hid hv
      have hr : (0 : Int) < (r : Int) := by have := HR0.out; omega
      clear hv
      go_wp2_with (at_builtin; refine wpList_pushT rfl (.tmp 13) (.tmp 16) rfl _ w.heap.size g0 0 0 [] rfl L0.out HT0.out (by omega) (t - 5) _ HV.out rfl ?_)
      intro g' cap' w7 hT7 hb7 _ _
      replace hT7 : TimesAt w7 w.heap.size A1 g' cap' := by
        rw [← HE.out]
        exact hT7
      go_wp2_with fail
      go_meet
      exact ⟨w7, g', cap', 0 + 1, rfl, rfl, by omega, Lib.hid (by rw [← HE.out, List.length_append, L0.out]; rfl), Lib.hid hT7, Lib.hid (HX0.out.trans hb7)⟩
    · have HE : Hid ([] = A1) := Lib.hid (by rw [← H1.out, if_neg hc, List.append_nil])
      have hr : ¬ (0 : Int) < (r : Int) := by have := HR0.out; omega
      go_wp2_with fail
      go_meet
      exact ⟨w0, g0, 0, 0, rfl, rfl, by omega, Lib.hid (by rw [← HE.out, L0.out]), Lib.hid (by rw [← HE.out]; exact HT0.out), HX0⟩
  case rest =>
    obtain ⟨w1, g1, c1, n1, hw1, rfl, hn1, L1, HT1, HX1⟩ := hcut
    obtain rfl := hw1
    clear HT0 L0 HX0 H1
    go_upto_if 19 with fail
    go_cut [5] (fun sv wx => ∃ (wz : World) (g cap n : Nat), wz = wx ∧ sv = .slice (some ⟨g, 0, none⟩) n cap ∧ n ≤ 2 ∧ Hid (A2.length = n) ∧ Hid (TimesAt wx w.heap.size A2 g cap) ∧ Hid (Below w.heap.size w wx))
    case first =>
      by_cases hc : 0 < t % 5
      · have HE : Hid (A1 ++ [t - 1] = A2) := Lib.hid (by rw [← H2.out, if_pos hc])
        have hv : (t : Int) - 1 = ((t - 1 : Nat) : Int) := by omega
        have HV := Lib.hid hv
        have hr : (0 : Int) < (c : Int) := by have := HC0.out; omega
        clear hv
        go_wp2_with (at_builtin; refine wpList_pushT rfl (.tmp 20) (.tmp 23) rfl _ w.heap.size g1 c1 n1 A1 rfl L1.out HT1.out (by omega) (t - 1) _ HV.out rfl ?_)
        intro g' cap' w7 hT7 hb7 _ _
        replace hT7 : TimesAt w7 w.heap.size A2 g' cap' := by
          rw [← HE.out]
          exact hT7
        go_wp2_with fail
        go_meet
        exact ⟨w7, g', cap', n1 + 1, rfl, rfl, by omega, Lib.hid (by rw [← HE.out, List.length_append, L1.out]; rfl), Lib.hid hT7, Lib.hid (HX1.out.trans hb7)⟩
      · have HE : Hid (A1 = A2) := Lib.hid (by rw [← H2.out, if_neg hc, List.append_nil])
        have hr : ¬ (0 : Int) < (c : Int) := by have := HC0.out; omega
        go_wp2_with fail
        go_meet
        exact ⟨w1, g1, c1, n1, rfl, rfl, by omega, Lib.hid (by rw [← HE.out, L1.out]), Lib.hid (by rw [← HE.out]; exact HT1.out), HX1⟩
    case rest =>
      obtain ⟨w2, g2, c2, n2, hw2, rfl, hn2, L2, HT2, HX2⟩ := hcut
      obtain rfl := hw2
      clear HT1 L1 HX1 H2
      go_upto_if 26 with fail
      go_cut [5] (fun sv wx => ∃ (wz : World) (g cap n : Nat), wz = wx ∧ sv = .slice (some ⟨g, 0, none⟩) n cap ∧ n ≤ 3 ∧ Hid (A3.length = n) ∧ Hid (TimesAt wx w.heap.size A3 g cap) ∧ Hid (Below w.heap.size w wx))
      case first =>
        by_cases hc : t % 5 < 4
        · have HE : Hid (A2 ++ [t + 1] = A3) := Lib.hid (by rw [← H3.out, if_pos hc])
          have hv : (t : Int) + 1 = ((t + 1 : Nat) : Int) := by omega
          have HV := Lib.hid hv
          have hr : (c : Int) < 4 := by have := HC0.out; omega
          clear hv
          go_wp2_with (at_builtin; refine wpList_pushT rfl (.tmp 27) (.tmp 30) rfl _ w.heap.size g2 c2 n2 A2 rfl L2.out HT2.out (by omega) (t + 1) _ HV.out rfl ?_)
          intro g' cap' w7 hT7 hb7 _ _
          replace hT7 : TimesAt w7 w.heap.size A3 g' cap' := by
            rw [← HE.out]
            exact hT7
          go_wp2_with fail
          go_meet
          exact ⟨w7, g', cap', n2 + 1, rfl, rfl, by omega, Lib.hid (by rw [← HE.out, List.length_append, L2.out]; rfl), Lib.hid hT7, Lib.hid (HX2.out.trans hb7)⟩
        · have HE : Hid (A2 = A3) := Lib.hid (by rw [← H3.out, if_neg hc, List.append_nil])
          have hr : ¬ (c : Int) < 4 := by have := HC0.out; omega
          go_wp2_with fail
          go_meet
          exact ⟨w2, g2, c2, n2, rfl, rfl, by omega, Lib.hid (by rw [← HE.out, L2.out]), Lib.hid (by rw [← HE.out]; exact HT2.out), HX2⟩
      case rest =>
        obtain ⟨w3, g3, c3, n3, hw3, rfl, hn3, L3, HT3, HX3⟩ := hcut
        obtain rfl := hw3
        clear HT2 L2 HX2 H3
        go_upto_if 33 with fail
        go_cut [5] (fun sv wx => ∃ (wz : World) (g cap n : Nat), wz = wx ∧ sv = .slice (some ⟨g, 0, none⟩) n cap ∧ n ≤ 4 ∧ Hid (A4.length = n) ∧ Hid (TimesAt wx w.heap.size A4 g cap) ∧ Hid (Below w.heap.size w wx))
        case first =>
          by_cases hc : t < 20
          · have HE : Hid (A3 ++ [t + 5] = A4) := Lib.hid (by rw [← H4.out, if_pos hc])
            have hv : (t : Int) + 5 = ((t + 5 : Nat) : Int) := by omega
            have HV := Lib.hid hv
            have hr : (r : Int) < 4 := by have := HR0.out; omega
            clear hv
            go_wp2_with (at_builtin; refine wpList_pushT rfl (.tmp 34) (.tmp 37) rfl _ w.heap.size g3 c3 n3 A3 rfl L3.out HT3.out (by omega) (t + 5) _ HV.out rfl ?_)
            intro g' cap' w7 hT7 hb7 _ _
            replace hT7 : TimesAt w7 w.heap.size A4 g' cap' := by
              rw [← HE.out]
              exact hT7
            go_wp2_with fail
            go_meet
            exact ⟨w7, g', cap', n3 + 1, rfl, rfl, by omega, Lib.hid (by rw [← HE.out, List.length_append, L3.out]; rfl), Lib.hid hT7, Lib.hid (HX3.out.trans hb7)⟩
          · have HE : Hid (A3 = A4) := Lib.hid (by rw [← H4.out, if_neg hc, List.append_nil])
            have hr : ¬ (r : Int) < 4 := by have := HR0.out; omega
            go_wp2_with fail
            go_meet
            exact ⟨w3, g3, c3, n3, rfl, rfl, by omega, Lib.hid (by rw [← HE.out, L3.out]), Lib.hid (by rw [← HE.out]; exact HT3.out), HX3⟩
        case rest =>
          obtain ⟨w4, g4, c4, n4, hw4, rfl, hn4, L4, HT4, HX4⟩ := hcut
          obtain rfl := hw4
          clear HT3 L3 HX3 H4
          go_wp2
          go_ret
          exact ⟨g4, c4, ret_slice L4.out.symm, HT4.out, HX4.out⟩

set_option maxRecDepth 10000 in
set_option maxHeartbeats 2000000 in
theorem l8Next_any (t : Nat) (w : World) (ht : t < 25) :
    Calls Tryz.prog 106 #[.int .i64 (t : Int)] w fun e w' => ∃ g cap : Nat, e = .returned (.slice (some ⟨g, 0, none⟩) (nbrs t).length cap) ∧ TimesAt w' w.heap.size (nbrs t) g cap ∧ Below w.heap.size w w' := by
  have HT0 := Lib.hid (TimesAt.made0 w w.heap.size (Nat.le_refl _))
  have HX0 : Hid (Below w.heap.size w (w.alloc (.cells #[] 3))) := Lib.hid ((Below.refl _ _).alloc (Nat.le_refl _) _)
  obtain ⟨A1, h1⟩ : ∃ A1, (if 5 ≤ t then [t - 5] else ([] : List Nat)) = A1 := ⟨_, rfl⟩
  obtain ⟨A2, h2⟩ : ∃ A2, A1 ++ (if 0 < t % 5 then [t - 1] else ([] : List Nat)) = A2 := ⟨_, rfl⟩
  obtain ⟨A3, h3⟩ : ∃ A3, A2 ++ (if t % 5 < 4 then [t + 1] else ([] : List Nat)) = A3 := ⟨_, rfl⟩
  obtain ⟨A4, h4⟩ : ∃ A4, A3 ++ (if t < 20 then [t + 5] else ([] : List Nat)) = A4 := ⟨_, rfl⟩
  have HN : Hid (nbrs t = A4) := Lib.hid (by rw [← h4, ← h3, ← h2, ← h1]; rfl)
  have H1 : Hid (([] : List Nat) ++ (if 5 ≤ t then [t - 5] else ([] : List Nat)) = A1) := Lib.hid h1
  have H2 := Lib.hid h2
  have H3 := Lib.hid h3
  have H4 := Lib.hid h4
  clear h1 h2 h3 h4
  rw [HN.out]
  have L0 : Hid (([] : List Nat).length = 0) := Lib.hid rfl
  obtain ⟨c, hc0⟩ : ∃ c, t % 5 = c := ⟨_, rfl⟩
  have d2 : (t : Int) % 5 = (c : Int) := by omega
  have e2 : (t : Int).tmod 5 = (c : Int) := by rw [Int.tmod_eq_emod_of_nonneg (by omega)]; omega
  have HC0 := Lib.hid hc0
  clear hc0
  go_enter Tryz.func106, Tryz.ntmps106
  go_upto_if 6 with fail
  generalize hq0 : w.alloc (.cells #[] 3) = w0 at *
  clear hq0
  obtain ⟨g0, hg0⟩ : ∃ g0, w.heap.size = g0 := ⟨_, rfl⟩
  have HG0 := Lib.hid hg0
  rw [hg0] at HT0
  have HT0 : Hid (TimesAt w0 w.heap.size [] g0 0) := Lib.hid (by rw [hg0]; exact HT0.out)
  rw [hg0]
  clear hg0
  go_cut [3] (fun sv wx => ∃ (wz : World) (g cap n : Nat), wz = wx ∧ sv = .slice (some ⟨g, 0, none⟩) n cap ∧ n ≤ 1 ∧ Hid (A1.length = n) ∧ Hid (TimesAt wx w.heap.size A1 g cap) ∧ Hid (Below w.heap.size w wx))
  case first =>
    by_cases hc : 5 ≤ t
    · have HE : Hid ([] ++ [t - 5] = A1) := Lib.hid (by rw [← H1.out, if_pos hc])
      have hv : (t : Int) - 5 = ((t - 5 : Nat) : Int) := by omega
      have HV := Lib.hid hv
      have hr : (5 : Int) ≤ (t : Int) := by omega
      clear hv
      go_wp2_with (at_builtin; refine wpList_pushT rfl (.tmp 7) (.tmp 10) rfl _ w.heap.size g0 0 0 [] rfl L0.out HT0.out (by omega) (t - 5) _ HV.out rfl ?_)
      intro g' cap' w7 hT7 hb7 _ _
      replace hT7 : TimesAt w7 w.heap.size A1 g' cap' := by
        rw [← HE.out]
        exact hT7
      go_wp2_with fail
      go_meet
      exact ⟨w7, g', cap', 0 + 1, rfl, rfl, by omega, Lib.hid (by rw [← HE.out, List.length_append, L0.out]; rfl), Lib.hid hT7, Lib.hid (HX0.out.trans hb7)⟩
    · have HE : Hid ([] = A1) := Lib.hid (by rw [← H1.out, if_neg hc, List.append_nil])
      have hr : ¬ (5 : Int) ≤ (t : Int) := by omega
      go_wp2_with fail
      go_meet
      exact ⟨w0, g0, 0, 0, rfl, rfl, by omega, Lib.hid (by rw [← HE.out, L0.out]), Lib.hid (by rw [← HE.out]; exact HT0.out), HX0⟩
  case rest =>
    obtain ⟨w1, g1, c1, n1, hw1, rfl, hn1, L1, HT1, HX1⟩ := hcut
    obtain rfl := hw1
    clear HT0 L0 HX0 H1
    go_upto_if 14 with fail
    go_cut [3] (fun sv wx => ∃ (wz : World) (g cap n : Nat), wz = wx ∧ sv = .slice (some ⟨g, 0, none⟩) n cap ∧ n ≤ 2 ∧ Hid (A2.length = n) ∧ Hid (TimesAt wx w.heap.size A2 g cap) ∧ Hid (Below w.heap.size w wx))
    case first =>
      by_cases hc : 0 < t % 5
      · have HE : Hid (A1 ++ [t - 1] = A2) := Lib.hid (by rw [← H2.out, if_pos hc])
        have hv : (t : Int) - 1 = ((t - 1 : Nat) : Int) := by omega
        have HV := Lib.hid hv
        have hr : (0 : Int) < (c : Int) := by have := HC0.out; omega
        clear hv
        go_wp2_with (at_builtin; refine wpList_pushT rfl (.tmp 15) (.tmp 18) rfl _ w.heap.size g1 c1 n1 A1 rfl L1.out HT1.out (by omega) (t - 1) _ HV.out rfl ?_)
        intro g' cap' w7 hT7 hb7 _ _
        replace hT7 : TimesAt w7 w.heap.size A2 g' cap' := by
          rw [← HE.out]
          exact hT7
        go_wp2_with fail
        go_meet
        exact ⟨w7, g', cap', n1 + 1, rfl, rfl, by omega, Lib.hid (by rw [← HE.out, List.length_append, L1.out]; rfl), Lib.hid hT7, Lib.hid (HX1.out.trans hb7)⟩
      · have HE : Hid (A1 = A2) := Lib.hid (by rw [← H2.out, if_neg hc, List.append_nil])
        have hr : ¬ (0 : Int) < (c : Int) := by have := HC0.out; omega
        go_wp2_with fail
        go_meet
        exact ⟨w1, g1, c1, n1, rfl, rfl, by omega, Lib.hid (by rw [← HE.out, L1.out]), Lib.hid (by rw [← HE.out]; exact HT1.out), HX1⟩
    case rest =>
      obtain ⟨w2, g2, c2, n2, hw2, rfl, hn2, L2, HT2, HX2⟩ := hcut
      obtain rfl := hw2
      clear HT1 L1 HX1 H2
      go_upto_if 22 with fail
      go_cut [3] (fun sv wx => ∃ (wz : World) (g cap n : Nat), wz = wx ∧ sv = .slice (some ⟨g, 0, none⟩) n cap ∧ n ≤ 3 ∧ Hid (A3.length = n) ∧ Hid (TimesAt wx w.heap.size A3 g cap) ∧ Hid (Below w.heap.size w wx))
      case first =>
        by_cases hc : t % 5 < 4
        · have HE : Hid (A2 ++ [t + 1] = A3) := Lib.hid (by rw [← H3.out, if_pos hc])
          have hv : (t : Int) + 1 = ((t + 1 : Nat) : Int) := by omega
          have HV := Lib.hid hv
          have hr : (c : Int) < 4 := by have := HC0.out; omega
          clear hv
          go_wp2_with (at_builtin; refine wpList_pushT rfl (.tmp 23) (.tmp 26) rfl _ w.heap.size g2 c2 n2 A2 rfl L2.out HT2.out (by omega) (t + 1) _ HV.out rfl ?_)
          intro g' cap' w7 hT7 hb7 _ _
          replace hT7 : TimesAt w7 w.heap.size A3 g' cap' := by
            rw [← HE.out]
            exact hT7
          go_wp2_with fail
          go_meet
          exact ⟨w7, g', cap', n2 + 1, rfl, rfl, by omega, Lib.hid (by rw [← HE.out, List.length_append, L2.out]; rfl), Lib.hid hT7, Lib.hid (HX2.out.trans hb7)⟩
        · have HE : Hid (A2 = A3) := Lib.hid (by rw [← H3.out, if_neg hc, List.append_nil])
          have hr : ¬ (c : Int) < 4 := by have := HC0.out; omega
          go_wp2_with fail
          go_meet
          exact ⟨w2, g2, c2, n2, rfl, rfl, by omega, Lib.hid (by rw [← HE.out, L2.out]), Lib.hid (by rw [← HE.out]; exact HT2.out), HX2⟩
      case rest =>
        obtain ⟨w3, g3, c3, n3, hw3, rfl, hn3, L3, HT3, HX3⟩ := hcut
        obtain rfl := hw3
        clear HT2 L2 HX2 H3
        go_upto_if 29 with fail
        go_cut [3] (fun sv wx => ∃ (wz : World) (g cap n : Nat), wz = wx ∧ sv = .slice (some ⟨g, 0, none⟩) n cap ∧ n ≤ 4 ∧ Hid (A4.length = n) ∧ Hid (TimesAt wx w.heap.size A4 g cap) ∧ Hid (Below w.heap.size w wx))
        case first =>
          by_cases hc : t < 20
          · have HE : Hid (A3 ++ [t + 5] = A4) := Lib.hid (by rw [← H4.out, if_pos hc])
            have hv : (t : Int) + 5 = ((t + 5 : Nat) : Int) := by omega
            have HV := Lib.hid hv
            have hr : (t : Int) < 20 := by omega
            clear hv
            go_wp2_with (at_builtin; refine wpList_pushT rfl (.tmp 30) (.tmp 33) rfl _ w.heap.size g3 c3 n3 A3 rfl L3.out HT3.out (by omega) (t + 5) _ HV.out rfl ?_)
            intro g' cap' w7 hT7 hb7 _ _
            replace hT7 : TimesAt w7 w.heap.size A4 g' cap' := by
              rw [← HE.out]
              exact hT7
            go_wp2_with fail
            go_meet
            exact ⟨w7, g', cap', n3 + 1, rfl, rfl, by omega, Lib.hid (by rw [← HE.out, List.length_append, L3.out]; rfl), Lib.hid hT7, Lib.hid (HX3.out.trans hb7)⟩
          · have HE : Hid (A3 = A4) := Lib.hid (by rw [← H4.out, if_neg hc, List.append_nil])
            have hr : ¬ (t : Int) < 20 := by omega
            go_wp2_with fail
            go_meet
            exact ⟨w3, g3, c3, n3, rfl, rfl, by omega, Lib.hid (by rw [← HE.out, L3.out]), Lib.hid (by rw [← HE.out]; exact HT3.out), HX3⟩
        case rest =>
          obtain ⟨w4, g4, c4, n4, hw4, rfl, hn4, L4, HT4, HX4⟩ := hcut
          obtain rfl := hw4
          clear HT3 L3 HX3 H4
          go_wp2
          go_ret
          exact ⟨g4, c4, ret_slice L4.out.symm, HT4.out, HX4.out⟩

/-- The queue, in its variable. -/
def QV (w : World) (Q : Nat) (xs : List Nat) : Prop := ∃ v, Row w Q 139 #[v] ∧ QAt w (Q + 1) v xs
theorem QV.keep {w w' : World} {Q : Nat} {xs : List Nat} (h : QV w Q xs) (hk : ∀ b, Q ≤ b → b < w.heap.size → w'.heap[b]? = w.heap[b]?) : QV w' Q xs := by
  obtain ⟨v, h1, h2⟩ := h
  exact ⟨v, (hk Q (Nat.le_refl _) h1.lt).trans h1, h2.keep (fun b hb hlt => hk b (by omega) hlt)⟩
/-- The queue's row is not the block z. -/
def QN (w : World) (Q z : Nat) : Prop := ∀ v, w.cell? ⟨Q, 0, none⟩ = some v → v.ownBlock ≠ some z
theorem QAt.blk {w : World} {B z : Nat} {v : Value} {xs : List Nat} (h : QAt w B v xs) (e : v.ownBlock = some z) : B ≤ z ∧ z < w.heap.size := by
  rcases h with ⟨h, _⟩ | ⟨g, off, cap, cur, h, h2, h3, _⟩
  · subst h; cases e
  · subst h
    injection e with e
    have e : g = z := e
    subst e
    exact ⟨h2, h3.lt⟩
theorem QV.qn {w w' : World} {Q z : Nat} {xs : List Nat} (h : QV w Q xs) (hb : Below w.heap.size w w') (hz : w.heap.size ≤ z) : QN w' Q z := fun v hv e => by
  obtain ⟨u, h1, h2⟩ := h
  have h3 := (h1.below hb h1.lt).cell 0
  rw [hv] at h3
  have h3 : v = u := Option.some.inj (by simpa using h3)
  subst h3
  have := (h2.blk e).2
  omega
theorem QV.lt {w : World} {Q : Nat} {xs : List Nat} (h : QV w Q xs) : Q < w.heap.size := by
  obtain ⟨v, h1, _⟩ := h
  exact h1.lt

set_option maxHeartbeats 1000000 in
theorem qadd_any (Q t : Nat) (xs : List Nat) (w : World) (h : QV w Q xs) (hl : xs.length ≤ 1000) :
    Calls Tryz.prog 86 #[.pointer (some ⟨Q, 0, none⟩), .int .i64 (t : Int)] w fun e w' => e = .returned (.tuple #[]) ∧ QV w' Q (xs ++ [t]) ∧ Below Q w w' ∧ ∀ z, Q < z → z < w.heap.size → QN w Q z → QN w' Q z ∧ w'.heap[z]? = w.heap[z]? := by
  obtain ⟨v, h1, h2⟩ := h
  have HR := Lib.hid h1
  have HQ := Lib.hid h2
  have q0 := h1.cell 0
  simp at q0
  have hQ := h1.lt
  clear h1 h2
  go_enter Tryz.func86, Tryz.ntmps86
  go_wp2_with (at_builtin; refine wpList_pushQ rfl (.tmp 8) (.tmp 10) rfl w (Q + 1) v xs rfl HQ.out (by omega) hl t rfl ?_)
  intro v' w' hq' hb' hz'
  obtain ⟨A', cap', rfl⟩ := hq'.slice
  obtain ⟨n', hn'⟩ : ∃ n', (xs ++ [t]).length = n' := ⟨_, rfl⟩
  rw [hn'] at hq' hz'
  rw [hn']
  clear hn'
  have HR' := Lib.hid (HR.out.below hb' (by omega))
  have q1 := HR'.out.cell 0
  simp at q1
  have f1 := HR'.out.frozen 0
  have HQ' : Hid (QV (w'.setCell ⟨Q, 0, none⟩ (.slice A' n' cap')) Q (xs ++ [t])) := Lib.hid ⟨.slice A' n' cap', (by have := HR'.out.set 0 (.slice A' n' cap'); simpa using this), hq'.keep (fun b hb _ => Below.heap_setCell w' ⟨Q, 0, none⟩ _ b (by show b ≠ Q; omega))⟩
  have HZ' : Hid (∀ z, Q < z → z < w.heap.size → QN w Q z → QN (w'.setCell ⟨Q, 0, none⟩ (.slice A' n' cap')) Q z ∧ (w'.setCell ⟨Q, 0, none⟩ (.slice A' n' cap')).heap[z]? = w.heap[z]?) := Lib.hid (fun z hz1 hz2 hn => by
    obtain ⟨k1, k2⟩ := hz' z hz2 (hn v q0)
    refine ⟨fun u hu => ?_, (Below.heap_setCell w' ⟨Q, 0, none⟩ _ z (by show z ≠ Q; omega)).trans k2⟩
    rw [World.cell?_setCell_same _ _ _ q1] at hu
    injection hu with hu
    subst hu
    exact k1)
  have HB' : Hid (Below Q w (w'.setCell ⟨Q, 0, none⟩ (.slice A' n' cap'))) := Lib.hid ((hb'.mono (show Q ≤ Q + 1 by omega)).setCell (p := ⟨Q, 0, none⟩) (Nat.le_refl Q) _)
  clear hq' hb' q0 hz'
  go_wp2_with fail
  go_end0
  exact ⟨rfl, HQ'.out, HB'.out, HZ'.out⟩

set_option maxHeartbeats 1000000 in
theorem qempty_any (Q : Nat) (xs : List Nat) (b : Bool) (w : World) (h : QV w Q xs) (hb : decide (xs.length = 0) = b) :
    Calls Tryz.prog 87 #[.pointer (some ⟨Q, 0, none⟩)] w fun e w' => e = .returned (.bool b) ∧ w = w' := by
  obtain ⟨v, h1, h2⟩ := h
  obtain ⟨A, cap, rfl⟩ := h2.slice
  have q0 := h1.cell 0
  simp at q0
  obtain ⟨n, hn⟩ : ∃ n, xs.length = n := ⟨_, rfl⟩
  rw [hn] at q0 hb
  have HB := Lib.hid hb
  clear h1 h2 hn hb
  go_enter Tryz.func87, Tryz.ntmps87
  go_wp2
  go_ret
  exact ⟨ret_bool (by rw [← HB.out]; by_cases e : n = 0 <;> simp [e]), rfl⟩

set_option maxHeartbeats 1000000 in
theorem qtake_any (Q t : Nat) (r : List Nat) (w : World) (h : QV w Q (t :: r)) :
    Calls Tryz.prog 88 #[.pointer (some ⟨Q, 0, none⟩)] w fun e w' => e = .returned (.int .i64 (t : Int)) ∧ QV w' Q r ∧ Below Q w w' := by
  obtain ⟨v, h1, h2⟩ := h
  rcases h2 with ⟨_, h2⟩ | ⟨g, off, cap, cur, rfl, h2, h3, h4, h5, h6, h7⟩
  · cases h2
  have q0 := h1.cell 0
  simp at q0
  have f0 := h1.frozen 0
  have hg0 := (h3.cell (off + 0)).trans (h7 0 (by simp))
  rw [Nat.add_zero] at hg0
  have e0 : (t :: r).getD 0 0 = t := rfl
  rw [e0] at hg0
  obtain ⟨n, hn⟩ : ∃ n, r.length = n := ⟨_, rfl⟩
  rw [hn] at q0
  have h4' : n + 1 ≤ cap := by simpa [hn] using h4
  have hqg : Q < g := h2
  have HR := Lib.hid h1
  have hQ := h1.lt
  by_cases hcap : cap = 1
  · subst hcap
    obtain rfl : n = 0 := by omega
    obtain rfl : r = [] := List.eq_nil_of_length_eq_zero hn
    have HQ' : Hid (QV (w.setCell ⟨Q, 0, none⟩ (.slice (some ⟨g, off, none⟩) 0 0)) Q []) := Lib.hid ⟨_, (by have := h1.set 0 (.slice (some ⟨g, off, none⟩) 0 0); simpa using this), .inr ⟨g, off, 0, cur, rfl, h2, h3.far (p := ⟨Q, 0, none⟩) (by show g ≠ Q; omega) _, Nat.le_refl _, by omega, by simp [maxLen], fun j hj => by simp at hj⟩⟩
    have HB' : Hid (Below Q w (w.setCell ⟨Q, 0, none⟩ (.slice (some ⟨g, off, none⟩) 0 0))) := Lib.hid ((Below.refl Q w).setCell (p := ⟨Q, 0, none⟩) (Nat.le_refl _) _)
    clear h1 h3 h7 h4 e0
    go_enter Tryz.func88, Tryz.ntmps88
    go_wp2
    go_ret
    exact ⟨rfl, HQ'.out, HB'.out⟩
  · have HQ' : Hid (QV (w.setCell ⟨Q, 0, none⟩ (.slice (some ⟨g, off + 1, none⟩) n (cap - 1))) Q r) := Lib.hid ⟨_, (by have := h1.set 0 (.slice (some ⟨g, off + 1, none⟩) n (cap - 1)); simpa using this), .inr ⟨g, off + 1, cap - 1, cur, by rw [hn], h2, h3.far (p := ⟨Q, 0, none⟩) (by show g ≠ Q; omega) _, by omega, by omega, by omega, fun j hj => by
      have := h7 (j + 1) (by simp; omega)
      rw [show off + (j + 1) = off + 1 + j by omega] at this
      exact this⟩⟩
    have HB' : Hid (Below Q w (w.setCell ⟨Q, 0, none⟩ (.slice (some ⟨g, off + 1, none⟩) n (cap - 1)))) := Lib.hid ((Below.refl Q w).setCell (p := ⟨Q, 0, none⟩) (Nat.le_refl _) _)
    clear h1 h3 h7 h4 e0
    have hc1 : 1 ≤ cap := by omega
    have hc2 : ¬ cap - 1 = 0 := by omega
    have hc3 : ¬ (cap : Int) - 1 = 0 := by omega
    go_enter Tryz.func88, Tryz.ntmps88
    go_wp2
    go_ret
    exact ⟨rfl, HQ'.out, HB'.out⟩
end Go.Proofs.YtliedgaefgomjaaGreat
/- The walks of routing: a list of hops turned round; the way back. -/
namespace Rt
theorem rmap_at3 {α : Type} (f : Nat → α) (d : α) {m j : Nat} (h : j < m) : ((List.range m).map f).getD j d = f j := by
  rw [List.getD_eq_getElem?_getD, List.getElem?_eq_getElem (by simpa using h)]
  simp
/-- The k outermost on either side changed. -/
def rvK (xs : List Hp) (k : Nat) : List Hp := (List.range xs.length).map fun m => if m < k ∨ xs.length - k ≤ m then xs.getD (xs.length - 1 - m) (0, 0) else xs.getD m (0, 0)
theorem rvK_len (xs : List Hp) (k : Nat) : (rvK xs k).length = xs.length := by simp [rvK]
theorem rvK_at {xs : List Hp} {k m : Nat} (hm : m < xs.length) : (rvK xs k).getD m (0, 0) = if m < k ∨ xs.length - k ≤ m then xs.getD (xs.length - 1 - m) (0, 0) else xs.getD m (0, 0) := rmap_at3 _ _ hm
theorem list_ext_getD {a b : List Hp} (hl : a.length = b.length) (h : ∀ m, m < a.length → a.getD m (0, 0) = b.getD m (0, 0)) : a = b := by
  refine List.ext_getElem hl (fun m h1 h2 => ?_)
  have := h m h1
  simpa [List.getD_eq_getElem?_getD, h1, h2] using this
theorem rvK_zero (xs : List Hp) : rvK xs 0 = xs := list_ext_getD (rvK_len xs 0) (fun m hm => by
  rw [rvK_len] at hm
  rw [rvK_at hm, if_neg (by omega)])
theorem rev_at {xs : List Hp} {m : Nat} (hm : m < xs.length) : xs.reverse.getD m (0, 0) = xs.getD (xs.length - 1 - m) (0, 0) := by
  simp only [List.getD_eq_getElem?_getD]
  rw [List.getElem?_reverse hm]
theorem rvK_all {xs : List Hp} {k : Nat} (hk : xs.length ≤ 2 * k + 1) : rvK xs k = xs.reverse := list_ext_getD (by rw [rvK_len, List.length_reverse]) (fun m hm => by
  rw [rvK_len] at hm
  rw [rvK_at hm, rev_at hm]
  by_cases e : m < k ∨ xs.length - k ≤ m
  · rw [if_pos e]
  · rw [if_neg e, show xs.length - 1 - m = m by omega])
theorem rvK_succ {xs : List Hp} {k : Nat} (hk : 2 * k + 1 < xs.length) : rvK xs (k + 1) = ((rvK xs k).set k (xs.getD (xs.length - 1 - k) (0, 0))).set (xs.length - 1 - k) (xs.getD k (0, 0)) := list_ext_getD (by rw [List.length_set, List.length_set, rvK_len, rvK_len]) (fun m hm => by
  rw [rvK_len] at hm
  rw [rvK_at hm, set_at _ _ _ _ _ (by rw [List.length_set, rvK_len]; omega), set_at _ _ _ _ _ (by rw [rvK_len]; omega), rvK_at hm]
  by_cases e1 : m = xs.length - 1 - k
  · rw [if_pos (by omega), if_pos e1, show xs.length - 1 - m = k by omega]
  · rw [if_neg e1]
    by_cases e2 : m = k
    · rw [if_pos (by omega), if_pos e2, e2]
    · rw [if_neg e2]
      by_cases e3 : m < k ∨ xs.length - k ≤ m
      · rw [if_pos e3, if_pos (by omega)]
      · rw [if_neg e3, if_neg (by omega)])
theorem rvK_mid {xs : List Hp} {k : Nat} (hk : 2 * k + 1 < xs.length) : (rvK xs k).getD k (0, 0) = xs.getD k (0, 0) ∧ (rvK xs k).getD (xs.length - 1 - k) (0, 0) = xs.getD (xs.length - 1 - k) (0, 0) := by
  refine ⟨?_, ?_⟩
  · rw [rvK_at (by omega), if_neg (by omega)]
  · rw [rvK_at (by omega), if_neg (by omega)]
end Rt
namespace Go.Proofs.YtliedgaefgomjaaGreat
open Go.RowKit Go.Deep Cut Plc Rt

theorem gvs_set (l : List (Int × Int)) : ∀ (k : Nat) (a b : Int), gvs (l.set k (a, b)) = ((gvs l).set (k * 2) (.int .i64 a)).set (k * 2 + 1) (.int .i64 b) := by
  induction l with
  | nil => intro k a b; rfl
  | cons x r ih =>
    intro k a b
    cases k with
    | zero => rfl
    | succ k =>
      have e : (k + 1) * 2 = k * 2 + 1 + 1 := by omega
      rw [e]
      show Value.int .i64 x.1 :: Value.int .i64 x.2 :: gvs (r.set k (a, b)) = _
      rw [ih k a b]
      rfl
theorem hpI_set (l : List Hp) (k t : Nat) (u : Int) : hpI (l.set k (t, u)) = (hpI l).set k ((t : Int), u) := by
  unfold hpI
  rw [List.map_set]
/-- A hop written over. -/
theorem HAt.put {w : World} {B g cap : Nat} {hs : List Hp} (h : HAt w B hs g cap) (k t : Nat) (u : Int) : HAt ((w.setCell ⟨g, k * 2, none⟩ (.int .i64 (t : Int))).setCell ⟨g, k * 2 + 1, none⟩ (.int .i64 u)) B (hs.set k (t, u)) g cap := by
  unfold HAt
  rw [hpI_set, gvs_set, List.length_set]
  exact (World.ownsRow.stored ((World.ownsRow.stored h (k * 2) (.int .i64 (t : Int))).1) (k * 2 + 1) (.int .i64 u)).1
theorem HAt.cells {w : World} {B g cap : Nat} {hs : List Hp} (h : HAt w B hs g cap) {k : Nat} (hk : k < hs.length) : w.cell? ⟨g, k * 2, none⟩ = some (.int .i64 ((hs.getD k (0, 0)).1 : Nat)) ∧ w.cell? ⟨g, k * 2 + 1, none⟩ = some (.int .i64 (hs.getD k (0, 0)).2) ∧ w.frozen? ⟨g, k * 2, none⟩ = false ∧ w.frozen? ⟨g, k * 2 + 1, none⟩ = false := by
  obtain ⟨b, off, e, _, h1, h2⟩ := h.read k (by rw [hpI_len]; exact hk)
  injection e with e
  injection e with e1 e2
  subst e1 e2
  rw [Nat.zero_add, hpI_at] at h1
  rw [Nat.zero_add, hpI_at] at h2
  exact ⟨h1, h2, World.ownsRow.frozenAt h _, World.ownsRow.frozenAt h _⟩

set_option maxRecDepth 10000 in
set_option maxHeartbeats 2000000 in
theorem revH_any (B g cap n : Nat) (xs : List Hp) (w : World) (h : HAt w B xs g cap) (hn : xs.length = n) (hnb : n ≤ 1000) :
    Calls Tryz.prog 104 #[.slice (some ⟨g, 0, none⟩) n cap] w fun e w' => e = .returned (.tuple #[]) ∧ HAt w' B xs.reverse g cap ∧ Below g w w' := by
  have HA0 : Hid (HAt w B (rvK xs 0) g cap) := Lib.hid (by rw [rvK_zero]; exact h)
  have HN := Lib.hid hn
  have HX0 := Lib.hid (Below.refl g w)
  clear h hn
  go_enter Tryz.func104, Tryz.ntmps104
  go_upto_region 1 with fail
  go_loopw [2, 3] (fun iv jv wr => ∃ k : Nat, 2 * k ≤ n + 1 ∧ iv = .int .i64 k ∧ jv = .int .i64 ((n : Int) - 1 - (k : Int)) ∧ Hid (HAt wr B (rvK xs k) g cap) ∧ Hid (Below g w wr)) (fun iv _ _ => n - (intOf iv).toNat)
  case atStart => exact ⟨0, by omega, rfl, by simp, HA0, HX0⟩
  case round =>
    clear HA0 HX0
    obtain ⟨k, hk, rfl, rfl, HA, HX⟩ := hrel
    by_cases hlt : 2 * k + 1 < n
    · obtain ⟨j, hj⟩ : ∃ j, n - 1 - k = j := ⟨_, rfl⟩
      have hjv : (n : Int) - 1 - (k : Int) = (j : Int) := by omega
      have hkj : k < j := by omega
      obtain ⟨m1, m2⟩ := rvK_mid (xs := xs) (k := k) (by rw [HN.out]; exact hlt)
      obtain ⟨a1, a2, a3, a4⟩ := HA.out.cells (k := k) (by rw [rvK_len, HN.out]; omega)
      obtain ⟨b1, b2, b3, b4⟩ := HA.out.cells (k := j) (by rw [rvK_len, HN.out]; omega)
      rw [m1] at a1 a2
      rw [HN.out, hj] at m2
      rw [m2] at b1 b2
      have HS := Lib.hid (rvK_succ (xs := xs) (k := k) (by rw [HN.out]; exact hlt))
      rw [HN.out, hj] at HS
      generalize (xs.getD k (0, 0)) = p at *
      generalize (xs.getD j (0, 0)) = q at *
      obtain ⟨p1, p2⟩ := p
      obtain ⟨q1, q2⟩ := q
      simp only at a1 a2 b1 b2
      clear m1 m2
      rw [hjv]
      have HJ := Lib.hid hjv
      have HJ2 := Lib.hid hj
      clear hjv hj
      have HA2 := Lib.hid ((HA.out.put k q1 q2).put j p1 p2)
      rw [← HS.out] at HA2
      have HX2 := Lib.hid ((((HX.out.setCell (p := ⟨g, k * 2, none⟩) (Nat.le_refl g) (.int .i64 (q1 : Int))).setCell (p := ⟨g, k * 2 + 1, none⟩) (Nat.le_refl g) (.int .i64 q2)).setCell (p := ⟨g, j * 2, none⟩) (Nat.le_refl g) (.int .i64 (p1 : Int))).setCell (p := ⟨g, j * 2 + 1, none⟩) (Nat.le_refl g) (.int .i64 p2))
      have hk0 : (0 : Int) ≤ (k : Int) := Int.natCast_nonneg _
      have hk1 : (k : Int) < (n : Int) := by omega
      have hj0 : (0 : Int) ≤ (j : Int) := Int.natCast_nonneg _
      have hj1 : (j : Int) < (n : Int) := by have := HJ2.out; omega
      go_upto_region 3 with fail
      go_region
      replace HA2 := Lib.hid (HA2.out.keep (w' := ((((wr.setCell ⟨g, k * 2, none⟩ (.int .i64 (q1 : Int))).setCell ⟨g, k * 2 + 1, none⟩ (.int .i64 q2)).setCell ⟨g, j * 2, none⟩ (.int .i64 (p1 : Int))).setCell ⟨g, j * 2 + 1, none⟩ (.int .i64 p2)).drew) rfl)
      replace HX2 := Lib.hid HX2.out.drew
      clear a1 a2 a3 a4 b1 b2 b3 b4 HA HX
      generalize ((((wr.setCell ⟨g, k * 2, none⟩ (.int .i64 (q1 : Int))).setCell ⟨g, k * 2 + 1, none⟩ (.int .i64 q2)).setCell ⟨g, j * 2, none⟩ (.int .i64 (p1 : Int))).setCell ⟨g, j * 2 + 1, none⟩ (.int .i64 p2)).drew = w2 at *
      have HJV : Hid ((j : Int) - 1 = (n : Int) - 1 - ((k + 1 : Nat) : Int)) := Lib.hid (by have := HJ2.out; omega)
      go_wp2
      go_roundw
      case rel => exact ⟨k + 1, by omega, by go_num, by rw [HJV.out], HA2, HX2⟩
      case measure => simp [intOf]; omega
    · go_wp2_with fail
      go_end0
      exact ⟨rfl, by rw [← rvK_all (k := k) (by rw [HN.out]; omega)]; exact HA.out, HX.out⟩

/-- The cells of an array of 25 integers. -/
def arr (fr : List Int) : Array Value := (ivs (frP fr)).toArray
theorem arr_at {fr : List Int} (hl : fr.length = 25) {v : Nat} (hv : v < 25) : (arr fr)[v]? = some (.int .i64 (if fr.getD v 0 = -2 then 0 else fr.getD v 0)) := by
  unfold arr
  rw [List.getElem?_toArray, ← frP_at]
  exact ivs_get (by rw [frP_len]; omega)
theorem arr_size {fr : List Int} (hl : fr.length = 25) : (arr fr).size = 25 := by
  unfold arr
  rw [List.size_toArray, ivs_len, frP_len, hl]
theorem arr_set (fr : List Int) (v : Nat) {x : Int} (hx : x ≠ -2) : (arr fr).setIfInBounds v (.int .i64 x) = arr (fr.set v x) := by
  unfold arr
  rw [List.setIfInBounds_toArray, frP_set fr v hx]
  congr 1
  unfold ivs
  rw [List.map_set]
theorem HAt.made (w : World) (B : Nat) (hB : B ≤ w.heap.size) : HAt (w.alloc (.cells #[] 38)) B [] w.heap.size 0 := World.ownsRow_lit (base := B) (e := 38) (size := 2) w #[] 0 hB (by simp [maxLen]) (by simp)

/-- How long a slice is. -/
def lenS : Value → Nat
  | .slice _ n _ => n
  | _ => 0

set_option maxRecDepth 10000 in
set_option maxHeartbeats 2000000 in
theorem hopsTo_any (busy : List Bool) (ts : List Nat) (s : St) (goal j0 : Nat) (w : World) (hI : Inv busy ts s) (hj : j0 < s.2.length) (hg : s.2.getD j0 0 = goal) :
    Calls Tryz.prog 90 #[.int .i64 (goal : Int), .agg (arr s.1)] w fun e w' => ∃ g cap : Nat, e = .returned (.slice (some ⟨g, 0, none⟩) (pathTo s.1 26 goal).length cap) ∧ HAt w' w.heap.size (pathTo s.1 26 goal) g cap ∧ Below w.heap.size w w' := by
  have HI := Lib.hid hI
  have hq := hI.q25
  have HP : Hid (pathTo s.1 26 goal ++ ([] : List Hp).reverse = pathTo s.1 26 goal) := Lib.hid (by simp)
  obtain ⟨P, hP⟩ : ∃ P, pathTo s.1 26 goal = P := ⟨_, rfl⟩
  rw [hP]
  rw [hP] at HP
  have HPE := Lib.hid hP
  have HJ := Lib.hid hj
  have HG := Lib.hid hg
  clear hI hj hg hP
  have hr0 : Row (w.alloc (.cells (arr s.1) 137)) w.heap.size 137 (arr s.1) := heap_alloc_new w _
  have hb0 : Below w.heap.size w (w.alloc (.cells (arr s.1) 137)) := (Below.refl _ _).alloc (Nat.le_refl _) _
  have hz1 : (w.alloc (.cells (arr s.1) 137)).heap.size = w.heap.size + 1 := by simp
  go_enter Tryz.func90, Tryz.ntmps90
  go_upto_region 3 with fail
  generalize w.alloc (.cells (arr s.1) 137) = w1 at *
  have HA0 : Hid (HAt (w1.alloc (.cells #[] 38)) w1.heap.size [] w1.heap.size 0) := Lib.hid (HAt.made w1 w1.heap.size (Nat.le_refl _))
  have hb1 : Below w1.heap.size w1 (w1.alloc (.cells #[] 38)) := (Below.refl _ _).alloc (Nat.le_refl _) _
  have HR := Lib.hid (hr0.below hb1 (by omega))
  have HX := Lib.hid (hb0.trans (hb1.mono (by omega)))
  generalize hw2 : w1.alloc (.cells #[] 38) = w2 at *
  generalize hB : w1.heap.size = B at *
  have HL0 : Hid (([] : List Hp).length = 0) := Lib.hid rfl
  have HXX := Lib.hid (Below.refl B w2)
  rw [← hz1]
  have HBz : Hid (w.heap.size + 1 = B) := Lib.hid hz1.symm
  have hwB : w.heap.size < B := by omega
  clear hr0 hb0 hb1 hw2 hB hz1
  go_loopw [5, 6] (fun hv tv wr => ∃ (j t : Nat) (acc : List Hp) (g cap n : Nat), tv = .int .i64 t ∧ hv = .slice (some ⟨g, 0, none⟩) n cap ∧ n + j ≤ 25 ∧ Hid (j < s.2.length) ∧ Hid (s.2.getD j 0 = t) ∧ Hid (acc.length = n) ∧ Hid (HAt wr B acc g cap) ∧ Hid (pathTo s.1 26 t ++ acc.reverse = P) ∧ Hid (Below B w2 wr)) (fun hv _ _ => 26 - lenS hv)
  case atStart => exact ⟨j0, goal, [], B, 0, 0, rfl, rfl, by have := HJ.out; omega, HJ, HG, HL0, HA0, Lib.hid (by rw [HPE.out]; exact HP.out), HXX⟩
  case round =>
    clear HA0 HXX HL0 HP HJ HG
    obtain ⟨j, t, acc, g, cap, n, rfl, rfl, hnj, HJ, HG, HN, HA, HP, HXr⟩ := hrel
    have ht25 : t < 25 := by have h := HI.out.lt (s.2.getD j 0) (Rt.memD HJ.out); rw [HG.out] at h; exact h
    have hf2 : s.1.getD t 0 ≠ -2 := (HI.out.mem t ht25).1 (by have h : s.2.getD j 0 ∈ s.2 := Rt.memD HJ.out; rw [HG.out] at h; exact h)
    have hcell := ((HR.out.below HXr.out hwB).cell t).trans (arr_at HI.out.len ht25)
    rw [if_neg hf2] at hcell
    have ht0 : (0 : Int) ≤ (t : Int) := Int.natCast_nonneg _
    have ht1 : (t : Int) < 25 := by omega
    by_cases hne : s.1.getD t 0 = -1
    · have HE := Lib.hid (path_end (f := 26) hne)
      rw [hne] at hcell
      clear hne hf2
      go_wp2_with fail
      refine (revH_any B g cap n acc _ HA.out HN.out (by omega)).mono ?_
      rintro e w3 ⟨rfl, ha3, hb3⟩
      have HPF : Hid (acc.reverse = P) := Lib.hid (by have h := HP.out; rw [HE.out, List.nil_append] at h; exact h)
      rw [HPF.out] at ha3
      have hgB := HA.out.gb
      have HA3 := Lib.hid (ha3.lower (show w.heap.size ≤ B by omega))
      have HX3 := Lib.hid (HX.out.trans ((HXr.out.trans (hb3.mono hgB.1)).mono (show w.heap.size ≤ B by omega)))
      have HLN : Hid (P.length = n) := Lib.hid (by rw [← HPF.out, List.length_reverse, HN.out])
      clear ha3 hb3 hcell
      go_wp2
      go_ret
      exact ⟨g, cap, ret_slice HLN.out.symm, HA3.out, HX3.out⟩
    · obtain ⟨u, j', e1, hu, hj', hq', hpath⟩ := back_step HI.out HJ.out HG.out hne
      rw [e1] at hcell
      have HQ' := Lib.hid hq'
      have HPA := Lib.hid hpath
      have hune : ((u : Int) != -1) = true := by rw [bne_iff_ne]; omega
      have hjl : Hid (j' < s.2.length) := Lib.hid (by have := HJ.out; omega)
      clear hne hf2 e1 hq' hpath
      go_wp2_with (at_builtin; refine wpList_pushH rfl (.tmp 16) (.tmp 22) rfl wr B g cap n acc rfl HN.out HA.out (by omega) t (u : Int) rfl ?_)
      intro g' cap' w5 ha5 hb5 _ _
      have HA5 := Lib.hid ha5
      have HX5 := Lib.hid (HXr.out.trans hb5)
      have hcell5 := ((HR.out.below HX5.out hwB).cell t).trans (((HR.out.below HXr.out hwB).cell t).symm.trans hcell)
      have HN5 : Hid ((acc ++ [(t, (u : Int))]).length = n + 1) := Lib.hid (by rw [List.length_append, HN.out]; rfl)
      have HP5 : Hid (pathTo s.1 26 u ++ (acc ++ [(t, (u : Int))]).reverse = P) := Lib.hid (by
        have h := HP.out
        rw [HPA.out, List.append_assoc] at h
        rw [List.reverse_append]
        exact h)
      clear ha5 hb5 hcell HA HP HPA hune
      go_wp2
      go_roundw
      case rel => exact ⟨j', u, _, g', cap', n + 1, rfl, rfl, by omega, hjl, HQ', HN5, HA5, HP5, HX5⟩
      case measure => simp [lenS]; omega
end Go.Proofs.YtliedgaefgomjaaGreat
/- The walks of routing: the search. -/
namespace Go.Proofs.YtliedgaefgomjaaGreat
open Go.RowKit Go.Deep Cut Plc Rt

/-- A search in memory: what was seen, from where each tile was reached, the queue. -/
structure SrAt (w : World) (bb S F Q m : Nat) (fr : List Int) (rest : List Nat) : Prop where
  s : Row w S 87 #[.slice (some ⟨bb, 0, none⟩) 1 1]
  b : Row w bb 121 #[.int .u64 m]
  f : Row w F 137 (arr fr)
  q : QV w Q rest
  seen : Seen m fr
  len : fr.length = 25
  o1 : bb < S
  o2 : S < F
  o3 : F < Q
theorem SrAt.keep {w w' : World} {bb S F Q m : Nat} {fr : List Int} {rest : List Nat} (h : SrAt w bb S F Q m fr rest) (hk : ∀ b, b < w.heap.size → w'.heap[b]? = w.heap[b]?) : SrAt w' bb S F Q m fr rest :=
  { h with s := (hk S h.s.lt).trans h.s, b := (hk bb h.b.lt).trans h.b, f := (hk F h.f.lt).trans h.f, q := h.q.keep (fun b _ hb => hk b hb) }
theorem SrAt.on {w w' : World} {bb S F Q m : Nat} {fr : List Int} {rest : List Nat} (h : SrAt w bb S F Q m fr rest) (hb : Below w.heap.size w w') : SrAt w' bb S F Q m fr rest := h.keep (fun b h1 => hb.block b h1)

set_option maxRecDepth 10000 in
set_option maxHeartbeats 1000000 in
theorem visit_any (bb S F Q m t : Nat) (x : Int) (fr : List Int) (rest : List Nat) (w : World) (h : SrAt w bb S F Q m fr rest) (ht : t < 25) (hx : x ≠ -2) (hl : rest.length ≤ 1000) :
    Calls Tryz.prog 85 #[.int .i64 (t : Int), .int .i64 x, .pointer (some ⟨S, 0, none⟩), .pointer (some ⟨F, 0, none⟩), .pointer (some ⟨Q, 0, none⟩)] w fun e w' => e = .returned (.tuple #[]) ∧ (∃ m', SrAt w' bb S F Q m' (fr.set t x) (rest ++ [t])) ∧ Below bb w w' ∧ ∀ z, Q < z → z < w.heap.size → QN w Q z → QN w' Q z ∧ w'.heap[z]? = w.heap[z]? := by
  have HS := Lib.hid h
  have s0 := h.s.cell 0
  simp at s0
  have o1 := h.o1
  have o2 := h.o2
  have o3 := h.o3
  have hm := h.seen.1
  have HSE := Lib.hid (h.seen.add h.len ht hx)
  have HX := Lib.hid hx
  clear h hx
  go_enter Tryz.func85, Tryz.ntmps85
  go_wp2_with fail
  refine (add_any bb m t _ w HS.out.b (by omega) (by omega)).mono ?_
  rintro e w1 ⟨rfl, rfl⟩
  have HB1 : Hid (Row (w.setCell ⟨bb, 0, none⟩ (.int .u64 (m ||| 2 ^ t : Nat))) bb 121 #[.int .u64 (m ||| 2 ^ t : Nat)]) := Lib.hid (by have := HS.out.b.set 0 (.int .u64 (m ||| 2 ^ t : Nat)); simpa using this)
  have HS1 := Lib.hid (HS.out.s.far (p := ⟨bb, 0, none⟩) (show S ≠ bb by omega) (.int .u64 (m ||| 2 ^ t : Nat)))
  have HF1 := Lib.hid (HS.out.f.far (p := ⟨bb, 0, none⟩) (show F ≠ bb by omega) (.int .u64 (m ||| 2 ^ t : Nat)))
  have HQ1 := Lib.hid (HS.out.q.keep (w' := w.setCell ⟨bb, 0, none⟩ (.int .u64 (m ||| 2 ^ t : Nat))) (fun b hb _ => Below.heap_setCell w ⟨bb, 0, none⟩ _ b (by show b ≠ bb; omega)))
  have HX1 : Hid (Below bb w (w.setCell ⟨bb, 0, none⟩ (.int .u64 (m ||| 2 ^ t : Nat)))) := Lib.hid ((Below.refl bb w).setCell (p := ⟨bb, 0, none⟩) (Nat.le_refl bb) _)
  have HLE := Lib.hid HS.out.len
  have HZ1 : Hid (∀ z, Q < z → z < w.heap.size → QN w Q z → QN (w.setCell ⟨bb, 0, none⟩ (.int .u64 (m ||| 2 ^ t : Nat))) Q z ∧ (w.setCell ⟨bb, 0, none⟩ (.int .u64 (m ||| 2 ^ t : Nat))).heap[z]? = w.heap[z]?) := Lib.hid (fun z hz1 _ hn => ⟨fun u hu => hn u (by rw [← hu]; exact (World.cell?_of_block (a := ⟨Q, 0, none⟩) (Below.heap_setCell w ⟨bb, 0, none⟩ _ Q (by show Q ≠ bb; omega))).symm), Below.heap_setCell w ⟨bb, 0, none⟩ _ z (by show z ≠ bb; omega)⟩)
  have hz1 : (w.setCell ⟨bb, 0, none⟩ (.int .u64 (m ||| 2 ^ t : Nat))).heap.size = w.heap.size := by simp
  clear HS s0
  generalize w.setCell ⟨bb, 0, none⟩ (.int .u64 (m ||| 2 ^ t : Nat)) = w1 at *
  generalize m ||| 2 ^ t = m' at *
  have f0 := (HF1.out.cell t).trans (arr_at HLE.out ht)
  have f1 := HF1.out.frozen t
  have ht0 : (0 : Int) ≤ (t : Int) := Int.natCast_nonneg _
  have ht1 : (t : Int) < 25 := by omega
  generalize (if fr.getD t 0 = -2 then 0 else fr.getD t 0) = old at *
  have HF2 : Hid (Row (w1.setCell ⟨F, t, none⟩ (.int .i64 x)) F 137 (arr (fr.set t x))) := Lib.hid (by
    have h := HF1.out.set t (.int .i64 x)
    rw [arr_set fr t HX.out] at h
    exact h)
  have HB2 := Lib.hid (HB1.out.far (p := ⟨F, t, none⟩) (show bb ≠ F by omega) (.int .i64 x))
  have HS2 := Lib.hid (HS1.out.far (p := ⟨F, t, none⟩) (show S ≠ F by omega) (.int .i64 x))
  have HQ2 := Lib.hid (HQ1.out.keep (w' := w1.setCell ⟨F, t, none⟩ (.int .i64 x)) (fun b hb _ => Below.heap_setCell w1 ⟨F, t, none⟩ _ b (by show b ≠ F; omega)))
  have HX2 : Hid (Below bb w (w1.setCell ⟨F, t, none⟩ (.int .i64 x))) := Lib.hid (HX1.out.setCell (p := ⟨F, t, none⟩) (show bb ≤ F by omega) _)
  have HZ2 : Hid (∀ z, Q < z → z < w.heap.size → QN w Q z → QN (w1.setCell ⟨F, t, none⟩ (.int .i64 x)) Q z ∧ (w1.setCell ⟨F, t, none⟩ (.int .i64 x)).heap[z]? = w.heap[z]?) := Lib.hid (fun z hz1 hz2 hn => by
    obtain ⟨k1, k2⟩ := HZ1.out z hz1 hz2 hn
    exact ⟨fun u hu => k1 u (by rw [← hu]; exact (World.cell?_of_block (a := ⟨Q, 0, none⟩) (Below.heap_setCell w1 ⟨F, t, none⟩ _ Q (by show Q ≠ F; omega))).symm), (Below.heap_setCell w1 ⟨F, t, none⟩ _ z (by show z ≠ F; omega)).trans k2⟩)
  have hz2 : (w1.setCell ⟨F, t, none⟩ (.int .i64 x)).heap.size = w.heap.size := by simp [hz1]
  clear HF1 HB1 HS1 HQ1 HX1 HZ1 hz1
  go_wp2_with fail
  generalize w1.setCell ⟨F, t, none⟩ (.int .i64 x) = w2 at *
  refine (qadd_any Q t rest w2 HQ2.out hl).mono ?_
  rintro e w3 ⟨rfl, hq3, hb3, hz3⟩
  have HB3 := Lib.hid (HB2.out.below hb3 (by omega))
  have HS3 := Lib.hid (HS2.out.below hb3 (by omega))
  have HF3 := Lib.hid (HF2.out.below hb3 (by omega))
  have HQ3 := Lib.hid hq3
  have HX3 := Lib.hid (HX2.out.trans (hb3.mono (by omega)))
  have HZ3 : Hid (∀ z, Q < z → z < w.heap.size → QN w Q z → QN w3 Q z ∧ w3.heap[z]? = w.heap[z]?) := Lib.hid (fun z hz1 hzz hn => by
    obtain ⟨k1, k2⟩ := HZ2.out z hz1 hzz hn
    obtain ⟨k3, k4⟩ := hz3 z hz1 (by omega) k1
    exact ⟨k3, k4.trans k2⟩)
  clear hq3 hb3 hz3 HZ2 hz2
  go_wp2_with fail
  go_end0
  exact ⟨rfl, ⟨m', HS3.out, HB3.out, HF3.out, HQ3.out, HSE.out, by rw [List.length_set]; exact HLE.out, o1, o2, o3⟩, HX3.out, HZ3.out⟩

/-- What path answers. -/
def PathOut (BS : Nat) (o : Option (List Hp)) (e : Ending) (w' : World) : Prop := match o with
  | none => e = .returned (.tuple #[.slice none 0 0, .bool false])
  | some P => ∃ g cap : Nat, e = .returned (.tuple #[.slice (some ⟨g, 0, none⟩) P.length cap, .bool true]) ∧ HAt w' BS P g cap
theorem SrAt.start {w : World} {bb S F Q : Nat} (hs : Row w S 87 #[.slice (some ⟨bb, 0, none⟩) 1 1]) (hb : Row w bb 121 #[.int .u64 0]) (hf : Row w F 137 (arr (List.replicate 25 (-2)))) (hq : Row w Q 139 #[.slice none 0 0]) (o1 : bb < S) (o2 : S < F) (o3 : F < Q) : SrAt w bb S F Q 0 (Rt.start []).1 [] :=
  ⟨hs, hb, hf, ⟨_, hq, .inl ⟨rfl, rfl⟩⟩, Seen.zero, start_len [], o1, o2, o3⟩
/-- 25 zeros. -/
def z25 : Array Value := (List.replicate 25 (Value.int .i64 0)).toArray
theorem arr_zero : arr (List.replicate 25 (-2)) = z25 := by
  unfold arr
  rw [frP_zero]
  rfl

set_option maxRecDepth 10000 in
set_option maxHeartbeats 4000000 in
theorem path_any (W track l c goal p : Nat) (A : Option Addr) (B : List (List Bool)) (busy : List Bool) (hs : List Hp) (w : World) (hW : WAt w W B) (hB : Bok B) (ht : track < 8) (hbu : B.getD track [] = busy) (hT : Tree busy p hs) (hA : GatesAt w w.heap.size A (hpI hs)) (hl : hs.length = l) (hlc : l ≤ c) (_hcm : c ≤ maxLen) (hg : goal < 25) :
    Calls Tryz.prog 73 #[.pointer (some ⟨W, 0, none⟩), .int .i64 (track : Int), .slice A l c, .int .i64 (goal : Int)] w fun e w' => PathOut w.heap.size (pathP busy hs goal) e w' ∧ Below w.heap.size w w' := by
  unfold maxLen at _hcm
  have eg : ∀ args w, (callFunc 85 args).run Tryz.prog w = .ok (.enter 85 args) w := enters_of Tryz.func85 (by kernel_rfl) rfl
  have HW := Lib.hid hW
  have HB := Lib.hid hB
  have HBU := Lib.hid hbu
  have HT := Lib.hid hT
  have HA := Lib.hid hA
  have HL := Lib.hid hl
  have hl25 := hT.len
  rw [hl] at hl25
  have hWz := hW.lt
  clear hW hB hbu hT hA hl
  go_enter Tryz.func73, Tryz.ntmps73
  go_wp2_with fail
  refine (newBitSet_any 25 _ (by omega) (by omega)).mono ?_
  rintro e w1 ⟨rfl, hr1, hb1⟩
  go_upto_region 2 with fail
  have hb2 : Below w1.heap.size w1 (w1.alloc (.cells #[.slice (some ⟨w.heap.size, 0, none⟩) 1 1] 87)) := (Below.refl _ _).alloc (Nat.le_refl _) _
  have hz2 : (w1.alloc (.cells #[.slice (some ⟨w.heap.size, 0, none⟩) 1 1] 87)).heap.size = w1.heap.size + 1 := by simp
  have hs2 : Row (w1.alloc (.cells #[.slice (some ⟨w.heap.size, 0, none⟩) 1 1] 87)) w1.heap.size 87 #[.slice (some ⟨w.heap.size, 0, none⟩) 1 1] := heap_alloc_new w1 _
  generalize w1.alloc (.cells #[.slice (some ⟨w.heap.size, 0, none⟩) 1 1] 87) = w2 at *
  refine wp_region_lit ?_
  refine wpList_buildTo rfl 137 #[] rfl (some 20) rfl z25 (by kernel_rfl) ?_
  refine Go.Great.wpList_allocTo rfl (some 11) rfl (.pointer (some ⟨w2.heap.size, 0, none⟩)) (.cells z25 137) (by kernel_rfl) ?_
  refine wpList_store_rowTo rfl 137 (.tmp 11) (.tmp 20) rfl rfl w2.heap.size z25 rfl rfl 137 z25 (heap_alloc_new w2 _) (by kernel_rfl) rfl (by kernel_rfl) ?_
  rw [World.setRow_alloc_new]
  go_upto_region 6 with fail
  obtain ⟨S, hS⟩ : ∃ S, w1.heap.size = S := ⟨_, rfl⟩
  rw [hS] at hb2 hz2 hs2
  rw [hS]
  have hbs : w.heap.size < S := by have := hr1.lt; omega
  have hz3 : (w2.alloc (.cells z25 137)).heap.size = S + 1 + 1 := by simp [hz2]
  have hb3 : Below w2.heap.size w2 (w2.alloc (.cells z25 137)) := (Below.refl _ _).alloc (Nat.le_refl _) _
  have hf3 : Row (w2.alloc (.cells z25 137)) (S + 1) 137 z25 := by
    have h := heap_alloc_new w2 (.cells z25 137)
    rw [hz2] at h
    exact h
  generalize w2.alloc (.cells z25 137) = w3 at *
  have hb4 : Below w3.heap.size w3 (w3.alloc (.cells #[.slice none 0 0] 139)) := (Below.refl _ _).alloc (Nat.le_refl _) _
  have hq4 : Row (w3.alloc (.cells #[.slice none 0 0] 139)) (S + 1 + 1) 139 #[.slice none 0 0] := by
    have h := heap_alloc_new w3 (.cells #[.slice none 0 0] 139)
    rw [hz3] at h
    exact h
  generalize w3.alloc (.cells #[.slice none 0 0] 139) = w4 at *
  have hf4 := hf3.below hb4 (by omega)
  rw [← arr_zero] at hf4
  have hb24 := hb3.trans (hb4.mono (show w2.heap.size ≤ w3.heap.size by omega))
  have hb14 := hb2.trans (hb24.mono (show S ≤ w2.heap.size by omega))
  have HS0 : Hid (SrAt w4 w.heap.size S (S + 1) (S + 1 + 1) 0 (Rt.start ((tiles hs).take 0)).1 ((tiles hs).take 0)) := Lib.hid (SrAt.start (hs2.below hb24 (by omega)) (hr1.below hb14 hbs) hf4 hq4 hbs (by omega) (by omega))
  have HX0 : Hid (Below w.heap.size w w4) := Lib.hid (hb1.trans (hb14.mono (by omega)))
  have HTL : Hid ((tiles hs).length = l) := Lib.hid (by unfold tiles; rw [List.length_map, HL.out])
  have HTK : Hid (∀ k, k < l → (tiles hs).take (k + 1) = (tiles hs).take k ++ [(hs.getD k (0, 0)).1] ∧ (hs.getD k (0, 0)).1 < 25) := Lib.hid (fun k hk => by
    have hk2 : k < hs.length := by rw [HL.out]; exact hk
    have hk3 : k < (tiles hs).length := by rw [HTL.out]; exact hk
    have e : (tiles hs)[k] = (hs.getD k (0, 0)).1 := by simp [tiles, List.getD_eq_getElem?_getD, hk2]
    refine ⟨by rw [List.take_succ_eq_append_getElem hk3, e], ?_⟩
    rw [← e]
    exact (HT.out.nodup.2 _ (List.getElem_mem hk3)).1)
  clear hr1 hb1 hb2 hs2 hb3 hf3 hb4 hq4 hf4 hb24 hb14 hz2 hz3 hS
  generalize hts : tiles hs = ts at *
  have HTS := Lib.hid hts
  clear hts w1 w2 w3
  go_loopw [25] (fun iv wr => ∃ (k m : Nat), k ≤ l ∧ iv = .int .i64 k ∧ Hid (SrAt wr w.heap.size S (S + 1) (S + 1 + 1) m (Rt.start (ts.take k)).1 (ts.take k)) ∧ Hid (Below w.heap.size w wr)) (fun iv _ => l - (intOf iv).toNat)
  case atStart => exact ⟨0, 0, Nat.zero_le _, rfl, HS0, HX0⟩
  case round =>
    clear HS0 HX0
    obtain ⟨k, m, hk, rfl, HS, HX⟩ := hrel
    by_cases hlt : k < l
    · obtain ⟨b, off, rfl, hbl, hc0, hc1⟩ := HA.out k (by rw [hpI_len, HL.out]; exact hlt)
      rw [hpI_at] at hc0 hc1
      have hc0 := (HX.out.cell (p := ⟨b, off + k * 2, none⟩) hbl).trans hc0
      have hc1 := (HX.out.cell (p := ⟨b, off + k * 2 + 1, none⟩) hbl).trans hc1
      obtain ⟨e1, e2⟩ := HTK.out k hlt
      have HE1 := Lib.hid e1
      simp only at hc0 hc1
      generalize (hs.getD k (0, 0)).1 = t at *
      generalize (hs.getD k (0, 0)).2 = x at *
      have hk0 : (0 : Int) ≤ (k : Int) := Int.natCast_nonneg _
      have hk1 : (k : Int) < (l : Int) := by omega
      clear e1
      go_upto_region 8 with fail
      have hb5 : Below wr.heap.size wr (wr.alloc (.cells #[.int .i64 (t : Int), .int .i64 x] 38)) := (Below.refl _ _).alloc (Nat.le_refl _) _
      have hr5 : Row (wr.alloc (.cells #[.int .i64 (t : Int), .int .i64 x] 38)) wr.heap.size 38 #[.int .i64 (t : Int), .int .i64 x] := heap_alloc_new wr _
      have HS5 := Lib.hid (HS.out.on hb5)
      have HX5 := Lib.hid (HX.out.trans (hb5.mono HX.out.size))
      generalize wr.alloc (.cells #[.int .i64 (t : Int), .int .i64 x] 38) = w5 at *
      generalize wr.heap.size = q5 at *
      have z0 := hr5.cell 0
      simp at z0
      clear hb5 hr5 hc0 hc1 HS HX
      have hlk : (ts.take k).length ≤ 1000 := by rw [List.length_take, HTL.out]; omega
      go_wp2_with (go_at_fn 85; refine (visit_any w.heap.size S (S + 1) (S + 1 + 1) m t (-1) _ _ w5 HS5.out e2 (by omega) hlk).mono ?_; rintro e w6 ⟨rfl, ⟨m', hs6⟩, hb6, _⟩)
      have HS6 : Hid (SrAt w6 w.heap.size S (S + 1) (S + 1 + 1) m' (Rt.start (ts.take (k + 1))).1 (ts.take (k + 1))) := Lib.hid (by
        rw [HE1.out, start_snoc]
        exact hs6)
      have HX6 := Lib.hid (HX5.out.trans hb6)
      clear hs6 hb6 HS5 HX5 z0
      go_roundw
      case rel => exact ⟨k + 1, m', by omega, by go_num, HS6, HX6⟩
      case measure => simp [intOf]; omega
    · obtain rfl : k = l := by omega
      have HI0 : Hid (Inv busy ts (Rt.start ts)) := Lib.hid (by have h := HT.out.inv; rw [HTS.out] at h; exact h)
      have HS1 : Hid (SrAt wr w.heap.size S (S + 1) (S + 1 + 1) m (Rt.start ts).1 ((Rt.start ts).2.drop 0)) := Lib.hid (by
        have h := HS.out
        rw [List.take_of_length_le (by rw [HTL.out]; exact Nat.le_refl _)] at h
        exact h)
      clear HS HTK
      obtain ⟨SF, hSF⟩ : ∃ SF, search busy goal 26 0 (Rt.start ts) = SF := ⟨_, rfl⟩
      have HSF : Hid (search busy goal (26 - 0) 0 (Rt.start ts) = SF) := Lib.hid hSF
      have HIF : Hid (Inv busy ts SF) := Lib.hid (by rw [← hSF]; exact (search_ok 26 0 _ HI0.out).1)
      have HPP : Hid (pathP busy hs goal = if SF.1.getD goal 0 = -2 then none else some (pathTo SF.1 26 goal)) := Lib.hid (by unfold pathP; rw [HTS.out, hSF])
      have HLZ : Hid (0 ≤ (Rt.start ts).2.length) := Lib.hid (Nat.zero_le _)
      clear hSF
      go_upto_region 10 with fail
      go_loopg [] 26 (fun gk wr => ∃ (k m : Nat) (s : St), gk + k = 26 ∧ Hid (Inv busy ts s) ∧ Hid (k ≤ s.2.length) ∧ Hid (search busy goal (26 - k) k s = SF) ∧ Hid (SrAt wr w.heap.size S (S + 1) (S + 1 + 1) m s.1 (s.2.drop k)) ∧ Hid (Below w.heap.size w wr))
      case atStart => exact ⟨0, m, Rt.start ts, rfl, HI0, HLZ, HSF, HS1, HX⟩
      case round =>
        clear HI0 HLZ HSF HS1 HX
        obtain ⟨k, m, s, hgk, HI, HKL, HSE, HS, HX⟩ := hrel
        have hq25 := HI.out.q25
        have s0 := HS.out.s.cell 0
        simp at s0
        have hmb := HS.out.seen.1
        have hbc := HS.out.b.cell 0
        simp at hbc
        have HMG : Hid (m.testBit goal = decide (s.1.getD goal 0 ≠ -2)) := Lib.hid (HS.out.seen.2 goal hg)
        by_cases hgo : k < s.2.length ∧ s.1.getD goal 0 = -2
        · obtain ⟨hke, hgf⟩ := hgo
          have HM0 : Hid (m.testBit goal = false) := Lib.hid (by rw [HMG.out]; simp; exact hgf)
          have hd : s.2.drop k = s.2.getD k 0 :: s.2.drop (k + 1) := by
            rw [List.drop_eq_getElem_cons hke]
            simp [List.getD_eq_getElem?_getD, hke]
          obtain ⟨u, hu⟩ : ∃ u, s.2.getD k 0 = u := ⟨_, rfl⟩
          have hu25 : u < 25 := by rw [← hu]; exact HI.out.lt _ (Rt.memD hke)
          have HGO : Hid (search busy goal (26 - (k + 1)) (k + 1) (expand busy u (nbrs u) s) = SF) := Lib.hid (by
            have h := HSE.out
            rw [show 26 - k = 26 - (k + 1) + 1 by omega, search_go ⟨hke, hgf⟩, hu] at h
            exact h)
          have HEX : Hid (∀ vs, (∀ v, v ∈ vs → v ∈ nbrs u) → Inv busy ts (expand busy u vs s) ∧ Grows s (expand busy u vs s)) := Lib.hid (fun vs hvs => by
            have h := expand_ok HI.out hke vs (by rw [hu]; exact hvs)
            rw [hu] at h
            exact h)
          have HQ0 : Hid (QV wr (S + 1 + 1) (u :: s.2.drop (k + 1))) := Lib.hid (by have h := HS.out.q; rw [hd, hu] at h; exact h)
          have hemp : decide ((s.2.drop k).length = 0) = false := by rw [List.length_drop]; simp; omega
          have HEM := Lib.hid hemp
          have HKE := Lib.hid hke
          clear hd hu hemp hke hgf HSE HMG
          go_upto_region 11 with (first
            | (go_at_call 87; refine (qempty_any (S + 1 + 1) _ false wr HS.out.q HEM.out).mono ?_; rintro e w' ⟨rfl, rfl⟩)
            | (go_at_call 48; refine (has_any w.heap.size m goal wr hbc (by omega) (by omega)).mono ?_; rintro e w' ⟨rfl, rfl⟩; rw [HM0.out]))
          go_wp2_with fail
          refine (qtake_any (S + 1 + 1) u _ wr HQ0.out).mono ?_
          rintro e w5 ⟨rfl, hq5, hb5⟩
          have HS5 : Hid (SrAt w5 w.heap.size S (S + 1) (S + 1 + 1) m s.1 (s.2.drop (k + 1))) := Lib.hid { HS.out with s := HS.out.s.below hb5 (by omega), b := HS.out.b.below hb5 (by omega), f := HS.out.f.below hb5 (by omega), q := hq5 }
          have HX5 := Lib.hid (HX.out.trans (hb5.mono (by omega)))
          clear hq5 hb5 HS HX s0 hbc HM0 HQ0 HEM
          go_wp2_with fail
          refine (neigh_any u w5 hu25).mono ?_
          rintro e w6 ⟨gN, capN, rfl, ht6, hb6⟩
          have hgN := ht6.gb
          have HN6 := Lib.hid (HS5.out.q.qn hb6 hgN.1)
          have hQg : S + 1 + 1 < gN := by have := HS5.out.q.lt; omega
          have HS6 := Lib.hid (HS5.out.on hb6)
          have HX6 := Lib.hid (HX5.out.trans (hb6.mono HX5.out.size))
          have HT6 := Lib.hid ht6
          have hwg : w.heap.size ≤ gN := by have := HX5.out.size; omega
          have HT6 := Lib.hid (ht6.lower (s' := w.heap.size) HX5.out.size)
          have hg6 : gN < w6.heap.size := hgN.2
          clear ht6 hb6 HS5 HX5 hgN
          have HNL : Hid (∀ v, v ∈ nbrs u → v < 25) := Lib.hid (fun v hv => nbrs_lt hu25 hv)
          have HEX0 : Hid (expand busy u ((nbrs u).take 0) s = s) := Lib.hid rfl
          have hnl4 := nbrs_len u
          generalize hns : nbrs u = ns at *
          have HNS := Lib.hid hns
          clear hns
          obtain ⟨nl, hnl⟩ : ∃ nl, ns.length = nl := ⟨_, rfl⟩
          have HNN := Lib.hid hnl
          rw [hnl] at hnl4 ⊢
          clear hnl
          go_upto_region 13 with fail
          go_loopw [46] (fun iv wr => ∃ (i m : Nat) (s' : St), i ≤ nl ∧ iv = .int .i64 i ∧ gN < wr.heap.size ∧ Hid (expand busy u (ns.take i) s = s') ∧ Hid (SrAt wr w.heap.size S (S + 1) (S + 1 + 1) m s'.1 (s'.2.drop (k + 1))) ∧ Hid (TimesAt wr w.heap.size ns gN capN) ∧ Hid (QN wr (S + 1 + 1) gN) ∧ Hid (Below w.heap.size w wr)) (fun iv _ => nl - (intOf iv).toNat)
          case atStart => exact ⟨0, m, s, Nat.zero_le _, rfl, hg6, HEX0, HS6, HT6, HN6, HX6⟩
          case round =>
            clear HS6 HT6 HN6 HX6 hg6 HEX0
            obtain ⟨i, m, s', hi, rfl, hgw, HE, HS, HT, HQN, HX⟩ := hrel
            have HEI := Lib.hid (HEX.out (ns.take i) (fun v hv => List.mem_of_mem_take hv))
            rw [HE.out] at HEI
            have hk2 : k + 1 ≤ s'.2.length := by
              obtain ⟨r, hr⟩ := HEI.out.2.q
              have := HKE.out
              rw [hr, List.length_append]
              omega
            by_cases hlt : i < nl
            · have hil : i < ns.length := by rw [HNN.out]; exact hlt
              obtain ⟨hcv, _⟩ := HT.out.row (k := i) hil
              have hvm : ns.getD i 0 ∈ ns := by simp [List.getD_eq_getElem?_getD, hil]
              have hv25 := HNL.out _ hvm
              have HEV : Hid (expand busy u (ns.take (i + 1)) s = Rt.visit busy u s' (ns.getD i 0)) := Lib.hid (by
                rw [List.take_succ_eq_append_getElem hil, expand_snoc, HE.out]
                simp [List.getD_eq_getElem?_getD, hil])
              generalize ns.getD i 0 = v at *
              have hwc := ((HW.out.below HX.out hWz).cell (v * 8 + track)).trans (wRow_at B hv25 ht)
              rw [HBU.out] at hwc
              have hs0 := HS.out.s.cell 0
              simp at hs0
              have hbc := HS.out.b.cell 0
              simp at hbc
              have hmb := HS.out.seen.1
              have HMV : Hid (m.testBit v = decide (s'.1.getD v 0 ≠ -2)) := Lib.hid (HS.out.seen.2 v hv25)
              have hv0 : (0 : Int) ≤ (v : Int) := Int.natCast_nonneg _
              have hv1 : (v : Int) < 25 := by omega
              have ht0 : (0 : Int) ≤ (track : Int) := Int.natCast_nonneg _
              have ht1 : (track : Int) < 8 := by omega
              have hi0 : (0 : Int) ≤ (i : Int) := Int.natCast_nonneg _
              have hi1 : (i : Int) < (nl : Int) := by omega
              clear hvm
              by_cases hf : s'.1.getD v 0 = -2
              · have HM0 : Hid (m.testBit v = false) := Lib.hid (by rw [HMV.out]; simp; exact hf)
                by_cases hbv : busy.getD v false = true
                · rw [hbv] at hwc
                  have HE2 : Hid (expand busy u (ns.take (i + 1)) s = s') := Lib.hid (by rw [HEV.out]; unfold Rt.visit; rw [if_neg (fun x => by rw [hbv] at x; exact absurd x.2 (by simp))])
                  clear hf hbv HEV HMV
                  go_wp2_with ((go_at_call 48; refine (has_any w.heap.size m v wr hbc (by omega) (by omega)).mono ?_; rintro e w' ⟨rfl, rfl⟩; rw [HM0.out]))
                  clear hwc hs0 hbc hcv
                  go_roundw
                  case rel => exact ⟨i + 1, m, s', by omega, by go_num, hgw, HE2, HS, HT, HQN, HX⟩
                  case measure => simp [intOf]; omega
                · have hbv : busy.getD v false = false := by simpa using hbv
                  rw [hbv] at hwc
                  have HE2 : Hid (expand busy u (ns.take (i + 1)) s = (s'.1.set v (u : Int), s'.2 ++ [v])) := Lib.hid (by rw [HEV.out]; unfold Rt.visit; rw [if_pos ⟨hf, hbv⟩])
                  have HLR : Hid ((s'.2.drop (k + 1)).length ≤ 1000) := Lib.hid (by have := HEI.out.1.q25; rw [List.length_drop]; omega)
                  have HDA : Hid (s'.2.drop (k + 1) ++ [v] = (s'.2 ++ [v]).drop (k + 1)) := Lib.hid (by rw [List.drop_append_of_le_length hk2])
                  clear hf hbv HEV HMV
                  go_upto_region 16 with ((go_at_call 48; refine (has_any w.heap.size m v wr hbc (by omega) (by omega)).mono ?_; rintro e w' ⟨rfl, rfl⟩; rw [HM0.out]))
                  clear hwc hs0 hbc hcv
                  go_wp2_with (go_at_fn 85; refine (visit_any w.heap.size S (S + 1) (S + 1 + 1) m v (u : Int) _ _ wr HS.out hv25 (by omega) HLR.out).mono ?_; rintro e w7 ⟨rfl, ⟨m', hs7⟩, hb7, hz7⟩)
                  obtain ⟨k1, k2⟩ := hz7 gN hQg hgw HQN.out
                  rw [HDA.out] at hs7
                  have HS7 := Lib.hid hs7
                  have HX7 := Lib.hid (HX.out.trans hb7)
                  have HT7 := Lib.hid (HT.out.keep (w' := w7) k2)
                  have HN7 := Lib.hid k1
                  have hg7 : gN < w7.heap.size := HT7.out.gb.2
                  clear hs7 hb7 hz7 k1 k2 HS HX HT HQN
                  go_roundw
                  case rel => exact ⟨i + 1, m', _, by omega, by go_num, hg7, HE2, HS7, HT7, HN7, HX7⟩
                  case measure => simp [intOf]; omega
              · have HM0 : Hid (m.testBit v = true) := Lib.hid (by rw [HMV.out]; simp; exact hf)
                have HE2 : Hid (expand busy u (ns.take (i + 1)) s = s') := Lib.hid (by rw [HEV.out]; unfold Rt.visit; rw [if_neg (fun x => hf x.1)])
                clear hf HEV HMV hwc
                go_wp2_with ((go_at_call 48; refine (has_any w.heap.size m v wr hbc (by omega) (by omega)).mono ?_; rintro e w' ⟨rfl, rfl⟩; rw [HM0.out]))
                clear hs0 hbc hcv
                go_roundw
                case rel => exact ⟨i + 1, m, s', by omega, by go_num, hgw, HE2, HS, HT, HQN, HX⟩
                case measure => simp [intOf]; omega
            · obtain rfl : i = nl := by omega
              have HEE : Hid (expand busy u ns s = s') := Lib.hid (by
                have h := HE.out
                rw [List.take_of_length_le (by rw [HNN.out]; exact Nat.le_refl _)] at h
                exact h)
              have HGO2 : Hid (search busy goal (26 - (k + 1)) (k + 1) s' = SF) := Lib.hid (by rw [← HEE.out]; exact HGO.out)
              have HI2 := Lib.hid HEI.out.1
              have HK2 := Lib.hid hk2
              have hkl := HKE.out
              clear HE HEI HEE HGO HEX hk2
              go_wp2_with fail
              go_roundg (gk - 1)
              case measure => omega
              case rel => exact ⟨k + 1, m, s', by omega, HI2, HK2, HGO2, HS, HX⟩
        · have HSS : Hid (s = SF) := Lib.hid (by have h := HSE.out; rw [search_stop hgo] at h; exact h)
          rw [HSS.out] at HS HMG
          have hmg : ∃ em sg, decide ((s.2.drop k).length = 0) = em ∧ m.testBit goal = sg ∧ (em = true ∨ sg = true) := by
            refine ⟨_, _, rfl, rfl, ?_⟩
            rw [HMG.out]
            by_cases hke : k < s.2.length
            · exact .inr (by rw [← HSS.out]; simp; exact fun e => hgo ⟨hke, e⟩)
            · exact .inl (by rw [List.length_drop]; simp; omega)
          obtain ⟨em, sg, h1, h2, h3⟩ := hmg
          rw [HSS.out] at h1
          have HEM := Lib.hid h1
          have HSG := Lib.hid h2
          clear h1 h2 hgo HSE HKL HI HSS
          have hways : em = true ∨ (em = false ∧ sg = true) := by
            cases em
            · rcases h3 with h3 | h3
              · cases h3
              · exact .inr ⟨rfl, h3⟩
            · exact .inl rfl
          clear h3
          have HMF : Hid (SF.1.getD goal 0 = -2 → m.testBit goal = false) := Lib.hid (fun hf => by rw [HMG.out]; simp; exact hf)
          have HMT : Hid (SF.1.getD goal 0 ≠ -2 → m.testBit goal = true) := Lib.hid (fun hf => by rw [HMG.out]; simp; exact hf)
          clear HMG
          have HFR := Lib.hid HS.out.f
          rcases hways with rfl | ⟨rfl, rfl⟩
          · go_upto_region 18 with (go_at_call 87; refine (qempty_any (S + 1 + 1) _ true wr HS.out.q HEM.out).mono ?_; rintro e w' ⟨rfl, rfl⟩)
            by_cases hf : SF.1.getD goal 0 = -2
            · have HPN : Hid (pathP busy hs goal = none) := Lib.hid (by rw [HPP.out, if_pos hf])
              have HM0 := Lib.hid (HMF.out hf)
              clear hf HMT HMF HSG
              go_wp2_with (go_at_call 48; refine (has_any w.heap.size m goal wr hbc (by omega) (by omega)).mono ?_; rintro e w' ⟨rfl, rfl⟩; rw [HM0.out])
              go_ret2
              exact ⟨by rw [HPN.out]; rfl, HX.out⟩
            · have HPS : Hid (pathP busy hs goal = some (pathTo SF.1 26 goal)) := Lib.hid (by rw [HPP.out, if_neg hf])
              have HM0 := Lib.hid (HMT.out hf)
              obtain ⟨jg, hjg, hgq⟩ := search_end HIF.out hg hf
              have HJG := Lib.hid hjg
              have HGQ := Lib.hid hgq
              clear hf hjg hgq HMT HMF HSG
              go_upto_region 20 with (go_at_call 48; refine (has_any w.heap.size m goal wr hbc (by omega) (by omega)).mono ?_; rintro e w' ⟨rfl, rfl⟩; rw [HM0.out])
              go_wp2_with (refine wpList_load_row rfl 137 _ rfl (S + 1) rfl 137 (arr SF.1) (0, 0) _ HFR.out Tryz.underlying137 rfl (by rw [arr_size HIF.out.len]; kernel_rfl) ?_)
              refine (hopsTo_any busy ts SF goal jg wr HIF.out HJG.out HGQ.out).mono ?_
              rintro e w9 ⟨g9, c9, rfl, ha9, hb9⟩
              have HA9 := Lib.hid (ha9.lower (B' := w.heap.size) HX.out.size)
              have HX9 := Lib.hid (HX.out.trans (hb9.mono HX.out.size))
              clear ha9 hb9
              go_wp2
              go_ret2
              exact ⟨by rw [HPS.out]; exact ⟨g9, c9, rfl, HA9.out⟩, HX9.out⟩
          · go_upto_region 18 with (first
              | (go_at_call 87; refine (qempty_any (S + 1 + 1) _ false wr HS.out.q HEM.out).mono ?_; rintro e w' ⟨rfl, rfl⟩)
              | (go_at_call 48; refine (has_any w.heap.size m goal wr hbc (by omega) (by omega)).mono ?_; rintro e w' ⟨rfl, rfl⟩; rw [HSG.out]))
            by_cases hf : SF.1.getD goal 0 = -2
            · have HPN : Hid (pathP busy hs goal = none) := Lib.hid (by rw [HPP.out, if_pos hf])
              have HM0 := Lib.hid (HMF.out hf)
              clear hf HMT HMF HSG
              go_wp2_with (go_at_call 48; refine (has_any w.heap.size m goal wr hbc (by omega) (by omega)).mono ?_; rintro e w' ⟨rfl, rfl⟩; rw [HM0.out])
              go_ret2
              exact ⟨by rw [HPN.out]; rfl, HX.out⟩
            · have HPS : Hid (pathP busy hs goal = some (pathTo SF.1 26 goal)) := Lib.hid (by rw [HPP.out, if_neg hf])
              have HM0 := Lib.hid (HMT.out hf)
              obtain ⟨jg, hjg, hgq⟩ := search_end HIF.out hg hf
              have HJG := Lib.hid hjg
              have HGQ := Lib.hid hgq
              clear hf hjg hgq HMT HMF HSG
              go_upto_region 20 with (go_at_call 48; refine (has_any w.heap.size m goal wr hbc (by omega) (by omega)).mono ?_; rintro e w' ⟨rfl, rfl⟩; rw [HM0.out])
              go_wp2_with (refine wpList_load_row rfl 137 _ rfl (S + 1) rfl 137 (arr SF.1) (0, 0) _ HFR.out Tryz.underlying137 rfl (by rw [arr_size HIF.out.len]; kernel_rfl) ?_)
              refine (hopsTo_any busy ts SF goal jg wr HIF.out HJG.out HGQ.out).mono ?_
              rintro e w9 ⟨g9, c9, rfl, ha9, hb9⟩
              have HA9 := Lib.hid (ha9.lower (B' := w.heap.size) HX.out.size)
              have HX9 := Lib.hid (HX.out.trans (hb9.mono HX.out.size))
              clear ha9 hb9
              go_wp2
              go_ret2
              exact ⟨by rw [HPS.out]; exact ⟨g9, c9, rfl, HA9.out⟩, HX9.out⟩
end Go.Proofs.YtliedgaefgomjaaGreat
