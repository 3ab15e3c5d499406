/- Memory of routing: a queue that is cut at its head, a list of hops, the wires. -/
import Derived.Test.YtkkkkalgfmddbaaQX
import Derived.ArgAppend
import Derived.Test.YtkkkkalgfmddbaaM6
import Derived.Deep.DeepCutAuto
import Derived.BigRegion
import Derived.Test.YtkkkkalgfmddbaaPM
import Derived.Deep.LoopGhost
import Derived.Laws.Rows
import Derived.Great.BuildSlice
import Derived.Great.Walk
import Derived.Deep.WholeRow
namespace Go.Proofs.Ytkkkkalgfmddbaa
open Go.RowKit Go.Deep Cut Plc Rt

/-- A row of integers of the call's own, wherever in its block it begins. -/
def QAt (w : World) (B : Nat) (v : Value) (xs : List Nat) : Prop :=
  (v = .slice none 0 0 ∧ xs = []) ∨ ∃ (g off cap : Nat) (cur : Array Value), v = .slice (some ⟨g, off, none⟩) xs.length cap ∧ B ≤ g ∧ Row w g 3 cur ∧ xs.length ≤ cap ∧ off + cap ≤ cur.size ∧ cap ≤ maxLen ∧ ∀ j, j < xs.length → cur[off + j]? = some (.int .i64 (xs.getD j 0 : Nat))
theorem QAt.keep {w w' : World} {B : Nat} {v : Value} {xs : List Nat} (h : QAt w B v xs) (hk : ∀ b, B ≤ b → b < w.heap.size → w'.heap[b]? = w.heap[b]?) : QAt w' B v xs := by
  rcases h with h | ⟨g, off, cap, cur, h1, h2, h3, h4⟩
  · exact .inl h
  · exact .inr ⟨g, off, cap, cur, h1, h2, (hk g h2 h3.lt).trans h3, h4⟩
theorem QAt.slice {w : World} {B : Nat} {v : Value} {xs : List Nat} (h : QAt w B v xs) : ∃ (A : Option Addr) (cap : Nat), v = .slice A xs.length cap := by
  rcases h with ⟨h, e⟩ | ⟨g, off, cap, cur, h1, _⟩
  · subst e; exact ⟨none, 0, h⟩
  · exact ⟨_, _, h1⟩
theorem qat_own {w : World} {B B' n : Nat} {v : Value} {xs : List Nat} (h : w.ownsRow B' 3 1 v n (ivs (Opt.intL xs))) (hn : xs.length = n) (hB : B ≤ B') : QAt w B v xs := by
  subst hn
  rcases h.2 with ⟨hv, h0⟩ | ⟨g, cap, cur, hv, h1, h2, h3, h4, h5, h6⟩
  · have : xs = [] := List.eq_nil_of_length_eq_zero h0
    exact .inl ⟨hv, this⟩
  · refine .inr ⟨g, 0, cap, cur, hv, Nat.le_trans hB h1, h2, h3, by omega, h4, fun j hj => ?_⟩
    have e : (ivs (Opt.intL xs))[j]? = some (.int .i64 ((Opt.intL xs).getD j 0)) := ivs_get (by rw [Opt.intL_len]; exact hj)
    rw [Opt.intL_at, ← h6, List.getElem?_take, if_pos (by omega), Array.getElem?_toList] at e
    rw [Nat.zero_add]
    exact e
theorem ivs_snocN (xs : List Nat) (y : Nat) : ivs (Opt.intL (xs ++ [y])) = ivs (Opt.intL xs) ++ [.int .i64 (y : Int)] := by simp [ivs, Opt.intL]
theorem run_push_q (w : World) (B : Nat) (v : Value) (xs : List Nat) (y : Nat) (ty : TypeId) (h : QAt w B v xs) (hB : B ≤ w.heap.size) (hl : xs.length ≤ 1000) :
    ∃ v' w', (Builtin.append_ #[31, 31] ty #[v, .slice (some ⟨w.heap.size, 0, none⟩) 1 1]).run Try.prog (w.alloc (.cells #[.int .i64 (y : Int)] 3)) = .ok v' w' ∧ QAt w' B v' (xs ++ [y]) ∧ Below B w w' ∧ ∀ z, z < w.heap.size → v.ownBlock ≠ some z → v'.ownBlock ≠ some z ∧ w'.heap[z]? = w.heap[z]? := by
  obtain ⟨i0, hi0, hz0, hz1, hz2⟩ := info_split Try.info3
  have hz : (w.alloc (.cells #[.int .i64 (y : Int)] 3)).heap.size = w.heap.size + 1 := by simp
  have hba : Below B w (w.alloc (.cells #[.int .i64 (y : Int)] 3)) := (Below.refl B w).alloc hB _
  have hnews := World.news_of_block (cs := #[.int .i64 (y : Int)]) (t := 3) (fr := (0, 0)) (heap_alloc_new w (.cells #[.int .i64 (y : Int)] 3))
  have h1 : ∀ u ∈ [Value.int .i64 (y : Int)], u.oneCell' = true := by simp [Value.oneCell']
  rcases h with ⟨rfl, rfl⟩ | ⟨g, off, cap, cur, rfl, h2, h3, h4, h5, h6, h7⟩
  · obtain ⟨g', cap', w', hr, k2, k3, k4, _, _⟩ := run_append_kept (P := Try.prog) _ 31 ty B 3 i0 (.int .i64 0) 1 8 Try.underlying31 hi0 hz0 hz1 hz2 rfl (by omega) (.slice none 0 0) 0 [] (World.ownsRow_nil (w.alloc (.cells #[.int .i64 (y : Int)] 3)) B 3 1) ⟨w.heap.size, 0, none⟩ 1 1 [.int .i64 (y : Int)] rfl hnews h1 (by omega) (by simp [maxLen]) (by omega) (by omega)
    exact ⟨_, w', hr, qat_own (xs := [] ++ [y]) k2 rfl (Nat.le_refl _), hba.grown k3 (by omega) (fun j hj => by simp [Value.ownBlock] at hj), fun z hz2 _ => ⟨fun e => by
      rcases k4 with k4 | k4
      · simp [Value.ownBlock] at k4
      · simp [Value.ownBlock] at e
        omega, (k3.block z (by omega) (by simp [Value.ownBlock])).trans (Below.heap_alloc w _ z hz2)⟩⟩
  · have hra := h3.alloc (.cells #[.int .i64 (y : Int)] 3)
    by_cases hroom : xs.length + 1 ≤ cap
    · have hin : off + xs.length < cur.size := by omega
      have hr := run_append_room_cells (P := Try.prog) (w.alloc (.cells #[.int .i64 (y : Int)] 3)) 31 ty 3 i0 Try.underlying31 hi0 g off xs.length cap ⟨w.heap.size, 0, none⟩ 1 1 [.int .i64 (y : Int)] (by rw [hz1]; rfl) hnews h1 hroom
        (fun j hj => by
          have e : j = 0 := by simpa using hj
          subst e
          rw [hra.cell, hz1, Nat.mul_one, Nat.add_zero, Array.getElem?_eq_getElem hin]
          rfl)
        (fun j hj => hra.frozen _)
      rw [hz1, Nat.mul_one] at hr
      refine ⟨_, _, hr, .inr ⟨g, off, cap, cur.setIfInBounds (off + xs.length) (.int .i64 (y : Int)), by rw [List.length_append]; rfl, h2, hra.set (off + xs.length) _, by rw [List.length_append]; exact hroom, by rw [Array.size_setIfInBounds]; exact h5, h6, fun j hj => ?_⟩, hba.setCell (p := ⟨g, off + xs.length, none⟩) h2 _, fun z hz2 hne => ⟨hne, (Below.heap_setCell _ ⟨g, off + xs.length, none⟩ _ z (fun e => hne (by rw [e]; rfl))).trans (Below.heap_alloc w _ z hz2)⟩⟩
      rw [Array.getElem?_setIfInBounds]
      by_cases e : j = xs.length
      · subst e
        rw [if_pos rfl, if_pos hin, Circ.getD_app_at _ _ _ _ rfl]
      · rw [List.length_append, List.length_singleton] at hj
        rw [if_neg (by omega), Circ.getD_app_lt _ _ _ _ (by omega)]
        exact h7 j (by omega)
    · obtain ⟨v', w', hr, k2, k3⟩ := run_append_arg_grows (P := Try.prog) (w.alloc (.cells #[.int .i64 (y : Int)] 3)) 31 ty 3 i0 (.int .i64 0) 1 8 Try.underlying31 hi0 hz0 hz1 hz2 rfl (by omega) ⟨g, off, none⟩ xs.length cap (ivs (Opt.intL xs)) (by rw [ivs_len, Opt.intL_len, Nat.mul_one]) (fun j u hu => by
          have hj : j < xs.length := by
            have := (List.getElem?_eq_some_iff.1 hu).1
            rw [ivs_len, Opt.intL_len] at this
            exact this
          have e : (ivs (Opt.intL xs))[j]? = some (.int .i64 ((Opt.intL xs).getD j 0)) := ivs_get (by rw [Opt.intL_len]; exact hj)
          rw [hu, Opt.intL_at] at e
          have e := Option.some.inj e
          subst e
          have := hra.cell (off + j)
          rw [h7 j hj] at this
          rw [Addr.add_lit]
          exact this) ⟨w.heap.size, 0, none⟩ 1 1 [.int .i64 (y : Int)] rfl hnews (by omega) (by simp [maxLen]; omega) (by omega)
      rw [← ivs_snocN] at k2
      exact ⟨v', w', hr, qat_own k2 (by rw [List.length_append]; rfl) (by omega), hba.grown k3 (by omega) (fun j hj => by cases hj), fun z hz2 _ => ⟨fun e => by
        have := (World.ownsRow.lt k2 z e).1
        omega, (k3.block z (by omega) (by simp)).trans (Below.heap_alloc w _ z hz2)⟩⟩
section
variable {ops : Array Oper} {rest : List Oper} {o : Oper} {a : Act} {Q : Exit → Act → World → Prop}
theorem wpList_pushQ (hgd : o.guard = none) (s x : Operand) (ho : o.op = .call { callee := .builtin .append, args := #[s, x], argTypes := #[31, 31] })
    (w : World) (B : Nat) (v : Value) (xs : List Nat) (hev : a.eval s = v) (h : QAt w B v xs) (hB : B ≤ w.heap.size) (hl : xs.length ≤ 1000) (y : Nat) (hx : a.eval x = .slice (some ⟨w.heap.size, 0, none⟩) 1 1)
    (cont : ∀ v' w', QAt w' B v' (xs ++ [y]) → Below B w w' → (∀ z, z < w.heap.size → v.ownBlock ≠ some z → v'.ownBlock ≠ some z ∧ w'.heap[z]? = w.heap[z]?) → wpList Try.prog ops Q rest (a.put o.dst v') w') :
    wpList Try.prog ops Q (o :: rest) a (w.alloc (.cells #[.int .i64 (y : Int)] 3)) :=
  wpList_plain hgd fun _ hK => by
    obtain ⟨v', w', hr, h2, h3, h4⟩ := run_push_q w B v xs y o.type h hB hl
    unfold Oper.wp execOp
    simp only [ho, resolve, invoke, builtin, Sem.run_bind, Sem.run_pure, Result.andThen_ok, List.map_toArray, List.map_cons, List.map_nil, hev, hx, hr]
    exact hK _ _ (cont v' w' h2 h3 h4)
end

/-- A list of hops of the call's own. -/
def hpI (hs : List Hp) : List (Int × Int) := hs.map fun h => ((h.1 : Int), h.2)
theorem hpI_len (hs : List Hp) : (hpI hs).length = hs.length := by simp [hpI]
theorem hpI_at (hs : List Hp) (k : Nat) : (hpI hs).getD k (0, 0) = (((hs.getD k (0, 0)).1 : Int), (hs.getD k (0, 0)).2) := by
  unfold hpI
  simp only [List.getD_eq_getElem?_getD, List.getElem?_map]
  cases hs[k]? <;> rfl
def HAt (w : World) (B : Nat) (hs : List Hp) (g cap : Nat) : Prop := w.ownsRow B 203 2 (.slice (some ⟨g, 0, none⟩) hs.length cap) hs.length (gvs (hpI hs))
theorem HAt.gb {w : World} {B g cap : Nat} {hs : List Hp} (h : HAt w B hs g cap) : B ≤ g ∧ g < w.heap.size := World.ownsRow.lt h g rfl
theorem HAt.keep {w w' : World} {B g cap : Nat} {hs : List Hp} (h : HAt w B hs g cap) (hg : w'.heap[g]? = w.heap[g]?) : HAt w' B hs g cap := own_keepE h hg
theorem HAt.on {w w' : World} {B g cap : Nat} {hs : List Hp} (h : HAt w B hs g cap) (hb : Below w.heap.size w w') : HAt w' B hs g cap := h.keep (hb.block g h.gb.2)
theorem HAt.lower {w : World} {B B' g cap : Nat} {hs : List Hp} (h : HAt w B hs g cap) (hb : B' ≤ B) : HAt w B' hs g cap := ⟨h.1, h.2.imp id fun ⟨g, cap, cur, h1, h2, h3⟩ => ⟨g, cap, cur, h1, Nat.le_trans hb h2, h3⟩⟩
theorem HAt.read {w : World} {B g cap : Nat} {hs : List Hp} (h : HAt w B hs g cap) : GatesAt w w.heap.size (some ⟨g, 0, none⟩) (hpI hs) := fun k hk => by
  rw [hpI_len] at hk
  have h1 := h.cellAt (k * 2) (by omega)
  have h2 := h.cellAt (k * 2 + 1) (by omega)
  obtain ⟨e1, e2⟩ := gvs_get (hpI hs) k (by rw [hpI_len]; exact hk)
  refine ⟨g, 0, rfl, h.gb.2, ?_, ?_⟩
  · rw [Nat.zero_add, h1]; exact e1
  · rw [Nat.zero_add, h2]; exact e2
theorem HAt.cap {w : World} {B g cap : Nat} {hs : List Hp} (h : HAt w B hs g cap) : hs.length ≤ cap ∧ cap ≤ maxLen := by
  rcases h.2 with ⟨hv, _⟩ | ⟨g', cap', cur, hv, _, _, h3, h4, _⟩
  · cases hv
  · injection hv with _ _ e
    subst e
    exact ⟨h3, h4⟩
theorem Try.infoHop : (Try.prog.info? 203).map (fun i => (i.zero, i.size, i.bytes)) = some (some (.agg #[.int .i64 0, .int .i64 0]), 2, 16) := by kernel_rfl
theorem hpI_app (a b : List Hp) : hpI (a ++ b) = hpI a ++ hpI b := by simp [hpI]
theorem hops_src {w : World} {B : Nat} {A : Option Addr} {gs : List (Int × Int)} (h : GatesAt w B A gs) : ∀ j u, (gvs gs)[j]? = some u → ∃ ad, A = some ad ∧ w.cell? (ad.add j) = some u := by
  intro j u hu
  have hj : j < gs.length * 2 := by
    have := (List.getElem?_eq_some_iff.1 hu).1
    rwa [gvs_len] at this
  obtain ⟨b, off, e, _, hc, hd⟩ := h (j / 2) (by omega)
  obtain ⟨e1, e2⟩ := gvs_get gs (j / 2) (by omega)
  refine ⟨_, e, ?_⟩
  rw [Addr.add_lit]
  rcases Nat.mod_two_eq_zero_or_one j with m | m
  · have ej : j = j / 2 * 2 := by omega
    rw [← ej] at e1 hc
    rw [hu] at e1
    injection e1 with e1
    rw [hc, e1]
  · have ej : j = j / 2 * 2 + 1 := by omega
    have e2' : (gvs gs)[j]? = some (.int .i64 (gs.getD (j / 2) (0, 0)).2) := by rw [← e2, ← ej]
    rw [hu] at e2'
    injection e2' with e2'
    rw [show off + j = off + j / 2 * 2 + 1 by omega, hd, e2']
section
variable {ops : Array Oper} {rest : List Oper} {o : Oper} {a : Act} {Q : Exit → Act → World → Prop}
/-- One hop more. -/
theorem wpList_pushH (hgd : o.guard = none) (s x : Operand) (ho : o.op = .call { callee := .builtin .append, args := #[s, x], argTypes := #[197, 197] })
    (wr : World) (B g cap n : Nat) (hs : List Hp) (hev : a.eval s = .slice (some ⟨g, 0, none⟩) n cap) (hn : hs.length = n) (h : HAt wr B hs g cap) (hnb : n ≤ 1000)
    (t : Nat) (u : Int) (hx : a.eval x = .slice (some ⟨wr.heap.size, 0, none⟩) 1 1)
    (cont : ∀ g' cap' w5, HAt w5 B (hs ++ [(t, u)]) g' cap' → Below B wr w5 → (∀ b, b < wr.heap.size → b ≠ g → w5.heap[b]? = wr.heap[b]?) → (g' = g ∨ wr.heap.size < g') → wpList Try.prog ops Q rest (a.put o.dst (.slice (some ⟨g', 0, none⟩) (n + 1) cap')) w5) :
    wpList Try.prog ops Q (o :: rest) a (wr.alloc (.cells #[.int .i64 (t : Int), .int .i64 u] 203)) := by
  subst hn
  obtain ⟨i0, hi0, hz0, hz1, hz2⟩ := info_split Try.infoHop
  obtain ⟨hB, hgl⟩ := h.gb
  refine wpList_append_kept _ hgd s x 197 ho B 203 i0 _ 2 16 Try.underlying197 hi0 hz0 hz1 hz2 rfl (by omega) (.slice (some ⟨g, 0, none⟩) hs.length cap) hs.length (gvs (hpI hs)) hev (World.ownsRow.alloc h _) ⟨wr.heap.size, 0, none⟩ 1 1 [.int .i64 (t : Int), .int .i64 u] hx rfl (World.news_of_block (cs := #[.int .i64 (t : Int), .int .i64 u]) (t := 203) (fr := (0, 0)) (heap_alloc_new wr _)) (by simp [Value.oneCell']) (by omega) (by simp [maxLen]; omega) (by omega) (by simp; omega) _ rfl ?_
  intro g' cap' w5 hown5 hgr5 hat5 hlt5 hkept5
  refine cont g' cap' w5 ?_ (below_alloc_grown hgr5 (by omega) hB) (off_grown hgr5) ?_
  · unfold HAt
    have e : gvs (hpI (hs ++ [(t, u)])) = gvs (hpI hs) ++ [.int .i64 (t : Int), .int .i64 u] := by rw [hpI_app, gvs_append]; rfl
    rw [e, List.length_append, List.length_singleton]
    exact hown5
  · rcases hat5 with h1 | h1
    · left; simp [Value.ownBlock] at h1; omega
    · right; simp at h1; omega
/-- A list of hops behind another. -/
theorem wpList_appendH (hgd : o.guard = none) (s x : Operand) (ho : o.op = .call { callee := .builtin .append, args := #[s, x], argTypes := #[197, 197] })
    (wr : World) (B g cap n : Nat) (hs : List Hp) (hev : a.eval s = .slice (some ⟨g, 0, none⟩) n cap) (hn : hs.length = n) (h : HAt wr B hs g cap) (hnb : n ≤ 1000)
    (A : Option Addr) (m c : Nat) (ks : List Hp) (hx : a.eval x = .slice A m c) (hm : ks.length = m) (hmb : m ≤ 1000) (hk : GatesAt wr wr.heap.size A (hpI ks))
    (cont : ∀ g' cap' w5, HAt w5 B (hs ++ ks) g' cap' → Below B wr w5 → (∀ b, b < wr.heap.size → b ≠ g → w5.heap[b]? = wr.heap[b]?) → (g' = g ∨ wr.heap.size ≤ g') → wpList Try.prog ops Q rest (a.put o.dst (.slice (some ⟨g', 0, none⟩) (n + m) cap')) w5) :
    wpList Try.prog ops Q (o :: rest) a wr := by
  subst hn hm
  obtain ⟨i0, hi0, hz0, hz1, hz2⟩ := info_split Try.infoHop
  obtain ⟨hB, hgl⟩ := h.gb
  refine wpList_append_src _ hgd s x 197 ho B 203 i0 _ 2 16 Try.underlying197 hi0 hz0 hz1 hz2 rfl (by omega) g cap hs.length (gvs (hpI hs)) hev h A ks.length c (gvs (hpI ks)) hx (by rw [gvs_len, hpI_len]) (hops_src hk) (gvs_one _) (by simp [maxLen]; omega) (by omega) (by omega) _ rfl ?_
  intro g' cap' w5 hown5 hgr5 hat5
  refine cont g' cap' w5 ?_ (Below.grown (Below.refl B wr) hgr5 (by omega) (fun k hk => by injection hk; omega)) (fun b h1 h2 => hgr5.block b h1 (fun e => h2 (by injection e))) ?_
  · unfold HAt
    rw [hpI_app, gvs_append, List.length_append]
    exact hown5
  · rcases hat5 with h1 | h1
    · exact .inl h1
    · exact .inr (by omega)
end

theorem rmap_set2 {α : Type} (f : Nat → α) (m k : Nat) (v : α) : ((List.range m).map f).set k v = (List.range m).map (fun j => if j = k then v else f j) := by
  refine List.ext_getElem (by simp) (fun j h1 h2 => ?_)
  rw [List.getElem_set]
  simp only [List.getElem_map, List.getElem_range]
  by_cases e : k = j
  · rw [if_pos e, if_pos e.symm]
  · rw [if_neg e, if_neg (fun x => e x.symm)]
/-- The wires. -/
def wRow (B : List (List Bool)) : Array Value := ((List.range 200).map fun i => Value.bool ((B.getD (i % 8) []).getD (i / 8) false)).toArray
theorem wRow_at (B : List (List Bool)) {v t : Nat} (hv : v < 25) (ht : t < 8) : (wRow B)[v * 8 + t]? = some (.bool ((B.getD t []).getD v false)) := by
  unfold wRow
  rw [List.getElem?_toArray, List.getElem?_map, List.getElem?_range (by omega)]
  show some (Value.bool ((B.getD ((v * 8 + t) % 8) []).getD ((v * 8 + t) / 8) false)) = _
  rw [show (v * 8 + t) % 8 = t by omega, show (v * 8 + t) / 8 = v by omega]
theorem wRow_zero : wRow (List.replicate 8 (List.replicate 25 false)) = (List.replicate 200 (Value.bool false)).toArray := by
  unfold wRow
  refine congrArg List.toArray ?_
  rw [List.eq_replicate_iff]
  refine ⟨by rw [List.length_map, List.length_range], fun b hb => ?_⟩
  obtain ⟨j, hj, rfl⟩ := List.mem_map.1 hb
  have h3 : j < 200 := List.mem_range.1 hj
  simp only [List.getD_eq_getElem?_getD, List.getElem?_replicate]
  rw [if_pos (by omega)]
  show Value.bool (((List.replicate 25 false)[j / 8]?).getD false) = _
  rw [List.getElem?_replicate, if_pos (by omega)]
  rfl
theorem wRow_set {B : List (List Bool)} (h : Bok B) {v t : Nat} (hv : v < 25) (ht : t < 8) : (wRow B).setIfInBounds (v * 8 + t) (.bool true) = wRow (B.set t ((B.getD t []).set v true)) := by
  unfold wRow
  rw [List.setIfInBounds_toArray, rmap_set2]
  congr 1
  refine List.map_congr_left (fun j hj => ?_)
  have hj2 : j < 200 := List.mem_range.1 hj
  show (if j = v * 8 + t then Value.bool true else _) = Value.bool (((B.set t ((B.getD t []).set v true)).getD (j % 8) []).getD (j / 8) false)
  rw [set_at B [] t (j % 8) _ (by rw [h.1]; exact ht)]
  by_cases e : j = v * 8 + t
  · rw [if_pos e, if_pos (by omega), set_at _ false v _ _ (by rw [h.2 t ht]; exact hv), if_pos (by omega)]
  · rw [if_neg e]
    by_cases e2 : j % 8 = t
    · rw [if_pos e2, set_at _ false v _ _ (by rw [h.2 t ht]; exact hv), if_neg (by omega), e2]
    · rw [if_neg e2]
/-- The wires in memory. -/
def WAt (w : World) (W : Nat) (B : List (List Bool)) : Prop := Row w W 158 (wRow B)
end Go.Proofs.Ytkkkkalgfmddbaa
/- The walks of routing's small functions: neighbours, the queue. -/
namespace Go.Proofs.Ytkkkkalgfmddbaa
open Go.RowKit Go.Deep Cut Plc Rt

theorem TimesAt.made0 (w : World) (B : Nat) (hB : B ≤ w.heap.size) : TimesAt (w.alloc (.cells #[] 3)) B [] w.heap.size 0 := World.ownsRow_lit (base := B) (e := 3) (size := 1) w #[] 0 hB (by simp [maxLen]) (by simp)

set_option maxRecDepth 10000 in
set_option maxHeartbeats 2000000 in
theorem neigh_any (t : Nat) (w : World) (ht : t < 25) :
    Calls Try.prog 150 #[.int .i64 (t : Int)] w fun e w' => ∃ g cap : Nat, e = .returned (.slice (some ⟨g, 0, none⟩) (nbrs t).length cap) ∧ TimesAt w' w.heap.size (nbrs t) g cap ∧ Below w.heap.size w w' := by
  have HT0 := Lib.hid (TimesAt.made0 w w.heap.size (Nat.le_refl _))
  have HX0 : Hid (Below w.heap.size w (w.alloc (.cells #[] 3))) := Lib.hid ((Below.refl _ _).alloc (Nat.le_refl _) _)
  obtain ⟨A1, h1⟩ : ∃ A1, (if 5 ≤ t then [t - 5] else ([] : List Nat)) = A1 := ⟨_, rfl⟩
  obtain ⟨A2, h2⟩ : ∃ A2, A1 ++ (if 0 < t % 5 then [t - 1] else ([] : List Nat)) = A2 := ⟨_, rfl⟩
  obtain ⟨A3, h3⟩ : ∃ A3, A2 ++ (if t % 5 < 4 then [t + 1] else ([] : List Nat)) = A3 := ⟨_, rfl⟩
  obtain ⟨A4, h4⟩ : ∃ A4, A3 ++ (if t < 20 then [t + 5] else ([] : List Nat)) = A4 := ⟨_, rfl⟩
  have HN : Hid (nbrs t = A4) := Lib.hid (by rw [← h4, ← h3, ← h2, ← h1]; rfl)
  have H1 : Hid (([] : List Nat) ++ (if 5 ≤ t then [t - 5] else ([] : List Nat)) = A1) := Lib.hid h1
  have H2 := Lib.hid h2
  have H3 := Lib.hid h3
  have H4 := Lib.hid h4
  clear h1 h2 h3 h4
  rw [HN.out]
  have L0 : Hid (([] : List Nat).length = 0) := Lib.hid rfl
  obtain ⟨r, hr0⟩ : ∃ r, t / 5 = r := ⟨_, rfl⟩
  obtain ⟨c, hc0⟩ : ∃ c, t % 5 = c := ⟨_, rfl⟩
  have d1 : (t : Int) / 5 = (r : Int) := by omega
  have e1 : (t : Int).tdiv 5 = (r : Int) := by rw [Int.tdiv_eq_ediv_of_nonneg (by omega)]; omega
  have d2 : (t : Int) % 5 = (c : Int) := by omega
  have e2 : (t : Int).tmod 5 = (c : Int) := by rw [Int.tmod_eq_emod_of_nonneg (by omega)]; omega
  have HR0 := Lib.hid hr0
  have HC0 := Lib.hid hc0
  clear hr0 hc0
  go_enter Try.func150, Try.ntmps150
  go_upto_if 12 with fail
  generalize hq0 : w.alloc (.cells #[] 3) = w0 at *
  clear hq0
  obtain ⟨g0, hg0⟩ : ∃ g0, w.heap.size = g0 := ⟨_, rfl⟩
  have HG0 := Lib.hid hg0
  rw [hg0] at HT0
  have HT0 : Hid (TimesAt w0 w.heap.size [] g0 0) := Lib.hid (by rw [hg0]; exact HT0.out)
  rw [hg0]
  clear hg0
  go_cut [5] (fun sv wx => ∃ (wz : World) (g cap n : Nat), wz = wx ∧ sv = .slice (some ⟨g, 0, none⟩) n cap ∧ n ≤ 1 ∧ Hid (A1.length = n) ∧ Hid (TimesAt wx w.heap.size A1 g cap) ∧ Hid (Below w.heap.size w wx))
  case first =>
    by_cases hc : 5 ≤ t
    · have HE : Hid ([] ++ [t - 5] = A1) := Lib.hid (by rw [← H1.out, if_pos hc])
      have hv : (t : Int) - 5 = ((t - 5 : Nat) : Int) := by omega
      have HV := Lib.hid hv
      have hr : (0 : Int) < (r : Int) := by have := HR0.out; omega
      clear hv
      go_wp2_with (at_builtin; refine wpList_pushT rfl (.tmp 13) (.tmp 16) rfl _ w.heap.size g0 0 0 [] rfl L0.out HT0.out (by omega) (t - 5) _ HV.out rfl ?_)
      intro g' cap' w7 hT7 hb7 _ _
      replace hT7 : TimesAt w7 w.heap.size A1 g' cap' := by
        rw [← HE.out]
        exact hT7
      go_wp2_with fail
      go_meet
      exact ⟨w7, g', cap', 0 + 1, rfl, rfl, by omega, Lib.hid (by rw [← HE.out, List.length_append, L0.out]; rfl), Lib.hid hT7, Lib.hid (HX0.out.trans hb7)⟩
    · have HE : Hid ([] = A1) := Lib.hid (by rw [← H1.out, if_neg hc, List.append_nil])
      have hr : ¬ (0 : Int) < (r : Int) := by have := HR0.out; omega
      go_wp2_with fail
      go_meet
      exact ⟨w0, g0, 0, 0, rfl, rfl, by omega, Lib.hid (by rw [← HE.out, L0.out]), Lib.hid (by rw [← HE.out]; exact HT0.out), HX0⟩
  case rest =>
    obtain ⟨w1, g1, c1, n1, hw1, rfl, hn1, L1, HT1, HX1⟩ := hcut
    obtain rfl := hw1
    clear HT0 L0 HX0 H1
    go_upto_if 19 with fail
    go_cut [5] (fun sv wx => ∃ (wz : World) (g cap n : Nat), wz = wx ∧ sv = .slice (some ⟨g, 0, none⟩) n cap ∧ n ≤ 2 ∧ Hid (A2.length = n) ∧ Hid (TimesAt wx w.heap.size A2 g cap) ∧ Hid (Below w.heap.size w wx))
    case first =>
      by_cases hc : 0 < t % 5
      · have HE : Hid (A1 ++ [t - 1] = A2) := Lib.hid (by rw [← H2.out, if_pos hc])
        have hv : (t : Int) - 1 = ((t - 1 : Nat) : Int) := by omega
        have HV := Lib.hid hv
        have hr : (0 : Int) < (c : Int) := by have := HC0.out; omega
        clear hv
        go_wp2_with (at_builtin; refine wpList_pushT rfl (.tmp 20) (.tmp 23) rfl _ w.heap.size g1 c1 n1 A1 rfl L1.out HT1.out (by omega) (t - 1) _ HV.out rfl ?_)
        intro g' cap' w7 hT7 hb7 _ _
        replace hT7 : TimesAt w7 w.heap.size A2 g' cap' := by
          rw [← HE.out]
          exact hT7
        go_wp2_with fail
        go_meet
        exact ⟨w7, g', cap', n1 + 1, rfl, rfl, by omega, Lib.hid (by rw [← HE.out, List.length_append, L1.out]; rfl), Lib.hid hT7, Lib.hid (HX1.out.trans hb7)⟩
      · have HE : Hid (A1 = A2) := Lib.hid (by rw [← H2.out, if_neg hc, List.append_nil])
        have hr : ¬ (0 : Int) < (c : Int) := by have := HC0.out; omega
        go_wp2_with fail
        go_meet
        exact ⟨w1, g1, c1, n1, rfl, rfl, by omega, Lib.hid (by rw [← HE.out, L1.out]), Lib.hid (by rw [← HE.out]; exact HT1.out), HX1⟩
    case rest =>
      obtain ⟨w2, g2, c2, n2, hw2, rfl, hn2, L2, HT2, HX2⟩ := hcut
      obtain rfl := hw2
      clear HT1 L1 HX1 H2
      go_upto_if 26 with fail
      go_cut [5] (fun sv wx => ∃ (wz : World) (g cap n : Nat), wz = wx ∧ sv = .slice (some ⟨g, 0, none⟩) n cap ∧ n ≤ 3 ∧ Hid (A3.length = n) ∧ Hid (TimesAt wx w.heap.size A3 g cap) ∧ Hid (Below w.heap.size w wx))
      case first =>
        by_cases hc : t % 5 < 4
        · have HE : Hid (A2 ++ [t + 1] = A3) := Lib.hid (by rw [← H3.out, if_pos hc])
          have hv : (t : Int) + 1 = ((t + 1 : Nat) : Int) := by omega
          have HV := Lib.hid hv
          have hr : (c : Int) < 4 := by have := HC0.out; omega
          clear hv
          go_wp2_with (at_builtin; refine wpList_pushT rfl (.tmp 27) (.tmp 30) rfl _ w.heap.size g2 c2 n2 A2 rfl L2.out HT2.out (by omega) (t + 1) _ HV.out rfl ?_)
          intro g' cap' w7 hT7 hb7 _ _
          replace hT7 : TimesAt w7 w.heap.size A3 g' cap' := by
            rw [← HE.out]
            exact hT7
          go_wp2_with fail
          go_meet
          exact ⟨w7, g', cap', n2 + 1, rfl, rfl, by omega, Lib.hid (by rw [← HE.out, List.length_append, L2.out]; rfl), Lib.hid hT7, Lib.hid (HX2.out.trans hb7)⟩
        · have HE : Hid (A2 = A3) := Lib.hid (by rw [← H3.out, if_neg hc, List.append_nil])
          have hr : ¬ (c : Int) < 4 := by have := HC0.out; omega
          go_wp2_with fail
          go_meet
          exact ⟨w2, g2, c2, n2, rfl, rfl, by omega, Lib.hid (by rw [← HE.out, L2.out]), Lib.hid (by rw [← HE.out]; exact HT2.out), HX2⟩
      case rest =>
        obtain ⟨w3, g3, c3, n3, hw3, rfl, hn3, L3, HT3, HX3⟩ := hcut
        obtain rfl := hw3
        clear HT2 L2 HX2 H3
        go_upto_if 33 with fail
        go_cut [5] (fun sv wx => ∃ (wz : World) (g cap n : Nat), wz = wx ∧ sv = .slice (some ⟨g, 0, none⟩) n cap ∧ n ≤ 4 ∧ Hid (A4.length = n) ∧ Hid (TimesAt wx w.heap.size A4 g cap) ∧ Hid (Below w.heap.size w wx))
        case first =>
          by_cases hc : t < 20
          · have HE : Hid (A3 ++ [t + 5] = A4) := Lib.hid (by rw [← H4.out, if_pos hc])
            have hv : (t : Int) + 5 = ((t + 5 : Nat) : Int) := by omega
            have HV := Lib.hid hv
            have hr : (r : Int) < 4 := by have := HR0.out; omega
            clear hv
            go_wp2_with (at_builtin; refine wpList_pushT rfl (.tmp 34) (.tmp 37) rfl _ w.heap.size g3 c3 n3 A3 rfl L3.out HT3.out (by omega) (t + 5) _ HV.out rfl ?_)
            intro g' cap' w7 hT7 hb7 _ _
            replace hT7 : TimesAt w7 w.heap.size A4 g' cap' := by
              rw [← HE.out]
              exact hT7
            go_wp2_with fail
            go_meet
            exact ⟨w7, g', cap', n3 + 1, rfl, rfl, by omega, Lib.hid (by rw [← HE.out, List.length_append, L3.out]; rfl), Lib.hid hT7, Lib.hid (HX3.out.trans hb7)⟩
          · have HE : Hid (A3 = A4) := Lib.hid (by rw [← H4.out, if_neg hc, List.append_nil])
            have hr : ¬ (r : Int) < 4 := by have := HR0.out; omega
            go_wp2_with fail
            go_meet
            exact ⟨w3, g3, c3, n3, rfl, rfl, by omega, Lib.hid (by rw [← HE.out, L3.out]), Lib.hid (by rw [← HE.out]; exact HT3.out), HX3⟩
        case rest =>
          obtain ⟨w4, g4, c4, n4, hw4, rfl, hn4, L4, HT4, HX4⟩ := hcut
          obtain rfl := hw4
          clear HT3 L3 HX3 H4
          go_wp2
          go_ret
          exact ⟨g4, c4, ret_slice L4.out.symm, HT4.out, HX4.out⟩

set_option maxRecDepth 10000 in
set_option maxHeartbeats 2000000 in
theorem l8Next_any (t : Nat) (w : World) (ht : t < 25) :
    Calls Try.prog 179 #[.int .i64 (t : Int)] w fun e w' => ∃ g cap : Nat, e = .returned (.slice (some ⟨g, 0, none⟩) (nbrs t).length cap) ∧ TimesAt w' w.heap.size (nbrs t) g cap ∧ Below w.heap.size w w' := by
  have HT0 := Lib.hid (TimesAt.made0 w w.heap.size (Nat.le_refl _))
  have HX0 : Hid (Below w.heap.size w (w.alloc (.cells #[] 3))) := Lib.hid ((Below.refl _ _).alloc (Nat.le_refl _) _)
  obtain ⟨A1, h1⟩ : ∃ A1, (if 5 ≤ t then [t - 5] else ([] : List Nat)) = A1 := ⟨_, rfl⟩
  obtain ⟨A2, h2⟩ : ∃ A2, A1 ++ (if 0 < t % 5 then [t - 1] else ([] : List Nat)) = A2 := ⟨_, rfl⟩
  obtain ⟨A3, h3⟩ : ∃ A3, A2 ++ (if t % 5 < 4 then [t + 1] else ([] : List Nat)) = A3 := ⟨_, rfl⟩
  obtain ⟨A4, h4⟩ : ∃ A4, A3 ++ (if t < 20 then [t + 5] else ([] : List Nat)) = A4 := ⟨_, rfl⟩
  have HN : Hid (nbrs t = A4) := Lib.hid (by rw [← h4, ← h3, ← h2, ← h1]; rfl)
  have H1 : Hid (([] : List Nat) ++ (if 5 ≤ t then [t - 5] else ([] : List Nat)) = A1) := Lib.hid h1
  have H2 := Lib.hid h2
  have H3 := Lib.hid h3
  have H4 := Lib.hid h4
  clear h1 h2 h3 h4
  rw [HN.out]
  have L0 : Hid (([] : List Nat).length = 0) := Lib.hid rfl
  obtain ⟨c, hc0⟩ : ∃ c, t % 5 = c := ⟨_, rfl⟩
  have d2 : (t : Int) % 5 = (c : Int) := by omega
  have e2 : (t : Int).tmod 5 = (c : Int) := by rw [Int.tmod_eq_emod_of_nonneg (by omega)]; omega
  have HC0 := Lib.hid hc0
  clear hc0
  go_enter Try.func179, Try.ntmps179
  go_upto_if 6 with fail
  generalize hq0 : w.alloc (.cells #[] 3) = w0 at *
  clear hq0
  obtain ⟨g0, hg0⟩ : ∃ g0, w.heap.size = g0 := ⟨_, rfl⟩
  have HG0 := Lib.hid hg0
  rw [hg0] at HT0
  have HT0 : Hid (TimesAt w0 w.heap.size [] g0 0) := Lib.hid (by rw [hg0]; exact HT0.out)
  rw [hg0]
  clear hg0
  go_cut [3] (fun sv wx => ∃ (wz : World) (g cap n : Nat), wz = wx ∧ sv = .slice (some ⟨g, 0, none⟩) n cap ∧ n ≤ 1 ∧ Hid (A1.length = n) ∧ Hid (TimesAt wx w.heap.size A1 g cap) ∧ Hid (Below w.heap.size w wx))
  case first =>
    by_cases hc : 5 ≤ t
    · have HE : Hid ([] ++ [t - 5] = A1) := Lib.hid (by rw [← H1.out, if_pos hc])
      have hv : (t : Int) - 5 = ((t - 5 : Nat) : Int) := by omega
      have HV := Lib.hid hv
      have hr : (5 : Int) ≤ (t : Int) := by omega
      clear hv
      go_wp2_with (at_builtin; refine wpList_pushT rfl (.tmp 7) (.tmp 10) rfl _ w.heap.size g0 0 0 [] rfl L0.out HT0.out (by omega) (t - 5) _ HV.out rfl ?_)
      intro g' cap' w7 hT7 hb7 _ _
      replace hT7 : TimesAt w7 w.heap.size A1 g' cap' := by
        rw [← HE.out]
        exact hT7
      go_wp2_with fail
      go_meet
      exact ⟨w7, g', cap', 0 + 1, rfl, rfl, by omega, Lib.hid (by rw [← HE.out, List.length_append, L0.out]; rfl), Lib.hid hT7, Lib.hid (HX0.out.trans hb7)⟩
    · have HE : Hid ([] = A1) := Lib.hid (by rw [← H1.out, if_neg hc, List.append_nil])
      have hr : ¬ (5 : Int) ≤ (t : Int) := by omega
      go_wp2_with fail
      go_meet
      exact ⟨w0, g0, 0, 0, rfl, rfl, by omega, Lib.hid (by rw [← HE.out, L0.out]), Lib.hid (by rw [← HE.out]; exact HT0.out), HX0⟩
  case rest =>
    obtain ⟨w1, g1, c1, n1, hw1, rfl, hn1, L1, HT1, HX1⟩ := hcut
    obtain rfl := hw1
    clear HT0 L0 HX0 H1
    go_upto_if 14 with fail
    go_cut [3] (fun sv wx => ∃ (wz : World) (g cap n : Nat), wz = wx ∧ sv = .slice (some ⟨g, 0, none⟩) n cap ∧ n ≤ 2 ∧ Hid (A2.length = n) ∧ Hid (TimesAt wx w.heap.size A2 g cap) ∧ Hid (Below w.heap.size w wx))
    case first =>
      by_cases hc : 0 < t % 5
      · have HE : Hid (A1 ++ [t - 1] = A2) := Lib.hid (by rw [← H2.out, if_pos hc])
        have hv : (t : Int) - 1 = ((t - 1 : Nat) : Int) := by omega
        have HV := Lib.hid hv
        have hr : (0 : Int) < (c : Int) := by have := HC0.out; omega
        clear hv
        go_wp2_with (at_builtin; refine wpList_pushT rfl (.tmp 15) (.tmp 18) rfl _ w.heap.size g1 c1 n1 A1 rfl L1.out HT1.out (by omega) (t - 1) _ HV.out rfl ?_)
        intro g' cap' w7 hT7 hb7 _ _
        replace hT7 : TimesAt w7 w.heap.size A2 g' cap' := by
          rw [← HE.out]
          exact hT7
        go_wp2_with fail
        go_meet
        exact ⟨w7, g', cap', n1 + 1, rfl, rfl, by omega, Lib.hid (by rw [← HE.out, List.length_append, L1.out]; rfl), Lib.hid hT7, Lib.hid (HX1.out.trans hb7)⟩
      · have HE : Hid (A1 = A2) := Lib.hid (by rw [← H2.out, if_neg hc, List.append_nil])
        have hr : ¬ (0 : Int) < (c : Int) := by have := HC0.out; omega
        go_wp2_with fail
        go_meet
        exact ⟨w1, g1, c1, n1, rfl, rfl, by omega, Lib.hid (by rw [← HE.out, L1.out]), Lib.hid (by rw [← HE.out]; exact HT1.out), HX1⟩
    case rest =>
      obtain ⟨w2, g2, c2, n2, hw2, rfl, hn2, L2, HT2, HX2⟩ := hcut
      obtain rfl := hw2
      clear HT1 L1 HX1 H2
      go_upto_if 22 with fail
      go_cut [3] (fun sv wx => ∃ (wz : World) (g cap n : Nat), wz = wx ∧ sv = .slice (some ⟨g, 0, none⟩) n cap ∧ n ≤ 3 ∧ Hid (A3.length = n) ∧ Hid (TimesAt wx w.heap.size A3 g cap) ∧ Hid (Below w.heap.size w wx))
      case first =>
        by_cases hc : t % 5 < 4
        · have HE : Hid (A2 ++ [t + 1] = A3) := Lib.hid (by rw [← H3.out, if_pos hc])
          have hv : (t : Int) + 1 = ((t + 1 : Nat) : Int) := by omega
          have HV := Lib.hid hv
          have hr : (c : Int) < 4 := by have := HC0.out; omega
          clear hv
          go_wp2_with (at_builtin; refine wpList_pushT rfl (.tmp 23) (.tmp 26) rfl _ w.heap.size g2 c2 n2 A2 rfl L2.out HT2.out (by omega) (t + 1) _ HV.out rfl ?_)
          intro g' cap' w7 hT7 hb7 _ _
          replace hT7 : TimesAt w7 w.heap.size A3 g' cap' := by
            rw [← HE.out]
            exact hT7
          go_wp2_with fail
          go_meet
          exact ⟨w7, g', cap', n2 + 1, rfl, rfl, by omega, Lib.hid (by rw [← HE.out, List.length_append, L2.out]; rfl), Lib.hid hT7, Lib.hid (HX2.out.trans hb7)⟩
        · have HE : Hid (A2 = A3) := Lib.hid (by rw [← H3.out, if_neg hc, List.append_nil])
          have hr : ¬ (c : Int) < 4 := by have := HC0.out; omega
          go_wp2_with fail
          go_meet
          exact ⟨w2, g2, c2, n2, rfl, rfl, by omega, Lib.hid (by rw [← HE.out, L2.out]), Lib.hid (by rw [← HE.out]; exact HT2.out), HX2⟩
      case rest =>
        obtain ⟨w3, g3, c3, n3, hw3, rfl, hn3, L3, HT3, HX3⟩ := hcut
        obtain rfl := hw3
        clear HT2 L2 HX2 H3
        go_upto_if 29 with fail
        go_cut [3] (fun sv wx => ∃ (wz : World) (g cap n : Nat), wz = wx ∧ sv = .slice (some ⟨g, 0, none⟩) n cap ∧ n ≤ 4 ∧ Hid (A4.length = n) ∧ Hid (TimesAt wx w.heap.size A4 g cap) ∧ Hid (Below w.heap.size w wx))
        case first =>
          by_cases hc : t < 20
          · have HE : Hid (A3 ++ [t + 5] = A4) := Lib.hid (by rw [← H4.out, if_pos hc])
            have hv : (t : Int) + 5 = ((t + 5 : Nat) : Int) := by omega
            have HV := Lib.hid hv
            have hr : (t : Int) < 20 := by omega
            clear hv
            go_wp2_with (at_builtin; refine wpList_pushT rfl (.tmp 30) (.tmp 33) rfl _ w.heap.size g3 c3 n3 A3 rfl L3.out HT3.out (by omega) (t + 5) _ HV.out rfl ?_)
            intro g' cap' w7 hT7 hb7 _ _
            replace hT7 : TimesAt w7 w.heap.size A4 g' cap' := by
              rw [← HE.out]
              exact hT7
            go_wp2_with fail
            go_meet
            exact ⟨w7, g', cap', n3 + 1, rfl, rfl, by omega, Lib.hid (by rw [← HE.out, List.length_append, L3.out]; rfl), Lib.hid hT7, Lib.hid (HX3.out.trans hb7)⟩
          · have HE : Hid (A3 = A4) := Lib.hid (by rw [← H4.out, if_neg hc, List.append_nil])
            have hr : ¬ (t : Int) < 20 := by omega
            go_wp2_with fail
            go_meet
            exact ⟨w3, g3, c3, n3, rfl, rfl, by omega, Lib.hid (by rw [← HE.out, L3.out]), Lib.hid (by rw [← HE.out]; exact HT3.out), HX3⟩
        case rest =>
          obtain ⟨w4, g4, c4, n4, hw4, rfl, hn4, L4, HT4, HX4⟩ := hcut
          obtain rfl := hw4
          clear HT3 L3 HX3 H4
          go_wp2
          go_ret
          exact ⟨g4, c4, ret_slice L4.out.symm, HT4.out, HX4.out⟩

/-- The queue's row is not the block z. -/
def QN (w : World) (Q z : Nat) : Prop := ∀ v, w.cell? ⟨Q, 0, none⟩ = some v → v.ownBlock ≠ some z
theorem QAt.blk {w : World} {B z : Nat} {v : Value} {xs : List Nat} (h : QAt w B v xs) (e : v.ownBlock = some z) : B ≤ z ∧ z < w.heap.size := by
  rcases h with ⟨h, _⟩ | ⟨g, off, cap, cur, h, h2, h3, _⟩
  · subst h; cases e
  · subst h
    injection e with e
    have e : g = z := e
    subst e
    exact ⟨h2, h3.lt⟩
end Go.Proofs.Ytkkkkalgfmddbaa
/- The walks of routing: a list of hops turned round; the way back. -/
namespace Rt
theorem rmap_at3 {α : Type} (f : Nat → α) (d : α) {m j : Nat} (h : j < m) : ((List.range m).map f).getD j d = f j := by
  rw [List.getD_eq_getElem?_getD, List.getElem?_eq_getElem (by simpa using h)]
  simp
/-- The k outermost on either side changed. -/
def rvK (xs : List Hp) (k : Nat) : List Hp := (List.range xs.length).map fun m => if m < k ∨ xs.length - k ≤ m then xs.getD (xs.length - 1 - m) (0, 0) else xs.getD m (0, 0)
theorem rvK_len (xs : List Hp) (k : Nat) : (rvK xs k).length = xs.length := by simp [rvK]
theorem rvK_at {xs : List Hp} {k m : Nat} (hm : m < xs.length) : (rvK xs k).getD m (0, 0) = if m < k ∨ xs.length - k ≤ m then xs.getD (xs.length - 1 - m) (0, 0) else xs.getD m (0, 0) := rmap_at3 _ _ hm
theorem list_ext_getD {a b : List Hp} (hl : a.length = b.length) (h : ∀ m, m < a.length → a.getD m (0, 0) = b.getD m (0, 0)) : a = b := by
  refine List.ext_getElem hl (fun m h1 h2 => ?_)
  have := h m h1
  simpa [List.getD_eq_getElem?_getD, h1, h2] using this
theorem rvK_zero (xs : List Hp) : rvK xs 0 = xs := list_ext_getD (rvK_len xs 0) (fun m hm => by
  rw [rvK_len] at hm
  rw [rvK_at hm, if_neg (by omega)])
theorem rev_at {xs : List Hp} {m : Nat} (hm : m < xs.length) : xs.reverse.getD m (0, 0) = xs.getD (xs.length - 1 - m) (0, 0) := by
  simp only [List.getD_eq_getElem?_getD]
  rw [List.getElem?_reverse hm]
theorem rvK_all {xs : List Hp} {k : Nat} (hk : xs.length ≤ 2 * k + 1) : rvK xs k = xs.reverse := list_ext_getD (by rw [rvK_len, List.length_reverse]) (fun m hm => by
  rw [rvK_len] at hm
  rw [rvK_at hm, rev_at hm]
  by_cases e : m < k ∨ xs.length - k ≤ m
  · rw [if_pos e]
  · rw [if_neg e, show xs.length - 1 - m = m by omega])
theorem rvK_succ {xs : List Hp} {k : Nat} (hk : 2 * k + 1 < xs.length) : rvK xs (k + 1) = ((rvK xs k).set k (xs.getD (xs.length - 1 - k) (0, 0))).set (xs.length - 1 - k) (xs.getD k (0, 0)) := list_ext_getD (by rw [List.length_set, List.length_set, rvK_len, rvK_len]) (fun m hm => by
  rw [rvK_len] at hm
  rw [rvK_at hm, set_at _ _ _ _ _ (by rw [List.length_set, rvK_len]; omega), set_at _ _ _ _ _ (by rw [rvK_len]; omega), rvK_at hm]
  by_cases e1 : m = xs.length - 1 - k
  · rw [if_pos (by omega), if_pos e1, show xs.length - 1 - m = k by omega]
  · rw [if_neg e1]
    by_cases e2 : m = k
    · rw [if_pos (by omega), if_pos e2, e2]
    · rw [if_neg e2]
      by_cases e3 : m < k ∨ xs.length - k ≤ m
      · rw [if_pos e3, if_pos (by omega)]
      · rw [if_neg e3, if_neg (by omega)])
theorem rvK_mid {xs : List Hp} {k : Nat} (hk : 2 * k + 1 < xs.length) : (rvK xs k).getD k (0, 0) = xs.getD k (0, 0) ∧ (rvK xs k).getD (xs.length - 1 - k) (0, 0) = xs.getD (xs.length - 1 - k) (0, 0) := by
  refine ⟨?_, ?_⟩
  · rw [rvK_at (by omega), if_neg (by omega)]
  · rw [rvK_at (by omega), if_neg (by omega)]
end Rt
namespace Go.Proofs.Ytkkkkalgfmddbaa
open Go.RowKit Go.Deep Cut Plc Rt

theorem gvs_set (l : List (Int × Int)) : ∀ (k : Nat) (a b : Int), gvs (l.set k (a, b)) = ((gvs l).set (k * 2) (.int .i64 a)).set (k * 2 + 1) (.int .i64 b) := by
  induction l with
  | nil => intro k a b; rfl
  | cons x r ih =>
    intro k a b
    cases k with
    | zero => rfl
    | succ k =>
      have e : (k + 1) * 2 = k * 2 + 1 + 1 := by omega
      rw [e]
      show Value.int .i64 x.1 :: Value.int .i64 x.2 :: gvs (r.set k (a, b)) = _
      rw [ih k a b]
      rfl
theorem hpI_set (l : List Hp) (k t : Nat) (u : Int) : hpI (l.set k (t, u)) = (hpI l).set k ((t : Int), u) := by
  unfold hpI
  rw [List.map_set]
/-- A hop written over. -/
theorem HAt.put {w : World} {B g cap : Nat} {hs : List Hp} (h : HAt w B hs g cap) (k t : Nat) (u : Int) : HAt ((w.setCell ⟨g, k * 2, none⟩ (.int .i64 (t : Int))).setCell ⟨g, k * 2 + 1, none⟩ (.int .i64 u)) B (hs.set k (t, u)) g cap := by
  unfold HAt
  rw [hpI_set, gvs_set, List.length_set]
  exact (World.ownsRow.stored ((World.ownsRow.stored h (k * 2) (.int .i64 (t : Int))).1) (k * 2 + 1) (.int .i64 u)).1
theorem HAt.cells {w : World} {B g cap : Nat} {hs : List Hp} (h : HAt w B hs g cap) {k : Nat} (hk : k < hs.length) : w.cell? ⟨g, k * 2, none⟩ = some (.int .i64 ((hs.getD k (0, 0)).1 : Nat)) ∧ w.cell? ⟨g, k * 2 + 1, none⟩ = some (.int .i64 (hs.getD k (0, 0)).2) ∧ w.frozen? ⟨g, k * 2, none⟩ = false ∧ w.frozen? ⟨g, k * 2 + 1, none⟩ = false := by
  obtain ⟨b, off, e, _, h1, h2⟩ := h.read k (by rw [hpI_len]; exact hk)
  injection e with e
  injection e with e1 e2
  subst e1 e2
  rw [Nat.zero_add, hpI_at] at h1
  rw [Nat.zero_add, hpI_at] at h2
  exact ⟨h1, h2, World.ownsRow.frozenAt h _, World.ownsRow.frozenAt h _⟩

/-- The cells of an array of 25 integers. -/
def arr (fr : List Int) : Array Value := (ivs (frP fr)).toArray
theorem arr_at {fr : List Int} (hl : fr.length = 25) {v : Nat} (hv : v < 25) : (arr fr)[v]? = some (.int .i64 (if fr.getD v 0 = -2 then 0 else fr.getD v 0)) := by
  unfold arr
  rw [List.getElem?_toArray, ← frP_at]
  exact ivs_get (by rw [frP_len]; omega)
theorem arr_size {fr : List Int} (hl : fr.length = 25) : (arr fr).size = 25 := by
  unfold arr
  rw [List.size_toArray, ivs_len, frP_len, hl]
theorem arr_set (fr : List Int) (v : Nat) {x : Int} (hx : x ≠ -2) : (arr fr).setIfInBounds v (.int .i64 x) = arr (fr.set v x) := by
  unfold arr
  rw [List.setIfInBounds_toArray, frP_set fr v hx]
  congr 1
  unfold ivs
  rw [List.map_set]
theorem HAt.made (w : World) (B : Nat) (hB : B ≤ w.heap.size) : HAt (w.alloc (.cells #[] 203)) B [] w.heap.size 0 := World.ownsRow_lit (base := B) (e := 203) (size := 2) w #[] 0 hB (by simp [maxLen]) (by simp)

/-- How long a slice is. -/
def lenS : Value → Nat
  | .slice _ n _ => n
  | _ => 0

end Go.Proofs.Ytkkkkalgfmddbaa
/- The walks of routing: the search. -/
namespace Go.Proofs.Ytkkkkalgfmddbaa
open Go.RowKit Go.Deep Cut Plc Rt

/-- What path answers. -/
def PathOut (BS : Nat) (o : Option (List Hp)) (e : Ending) (w' : World) : Prop := match o with
  | none => e = .returned (.tuple #[.slice none 0 0, .bool false])
  | some P => ∃ g cap : Nat, e = .returned (.tuple #[.slice (some ⟨g, 0, none⟩) P.length cap, .bool true]) ∧ HAt w' BS P g cap
/-- 25 zeros. -/
def z25 : Array Value := (List.replicate 25 (Value.int .i64 0)).toArray
theorem arr_zero : arr (List.replicate 25 (-2)) = z25 := by
  unfold arr
  rw [frP_zero]
  rfl

end Go.Proofs.Ytkkkkalgfmddbaa
