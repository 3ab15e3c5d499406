/- Memory of best cuts: a list of headers whose leaves lie below. -/
import Derived.Test.YthcpgbfghededaaM1
namespace Go.Proofs.Ythcpgbfghededaa
open Go.RowKit Go.Deep Cut

theorem made_toList (v : Value) (n : Nat) : (madeCells #[v] n).toList = List.replicate n v := by
  apply List.ext_getElem?
  intro j
  rw [Array.getElem?_toList]
  by_cases h : j < n
  · have hj' : j < n * 1 := by omega
    simp [madeCells, h, Nat.mod_one]
  · rw [List.getElem?_eq_none (by simpa using h), Array.getElem?_eq_none (by rw [size_madeCells]; omega)]
/-- Headers whose leaves lie below s. -/
def HdrI (w : World) (s : Nat) (hs : List Value) (xs : Cs) : Prop :=
  hs.length = xs.length ∧ ∀ k, k < xs.length → ∃ (A' : Option Addr) (cap : Nat), hs[k]? = some (.slice A' (xs.getD k []).length cap) ∧ IntsAt w s A' (Opt.intL (xs.getD k []))
theorem HdrI.below {w w' : World} {s : Nat} {hs : List Value} {xs : Cs} (h : HdrI w s hs xs) (hb : Below s w w') : HdrI w' s hs xs :=
  ⟨h.1, fun k hk => by
    obtain ⟨A', cap, e, hx⟩ := h.2 k hk
    exact ⟨A', cap, e, hx.below hb⟩⟩
theorem HdrI.snoc {w : World} {s : Nat} {hs : List Value} {xs : Cs} (h : HdrI w s hs xs) {A : Option Addr} {m c : Nat} {y : List Nat} (hm : y.length = m) (hL : IntsAt w s A (Opt.intL y)) : HdrI w s (hs ++ [.slice A m c]) (xs ++ [y]) := by
  refine ⟨by simp [h.1], fun k hk => ?_⟩
  by_cases e : k < xs.length
  · obtain ⟨A', cap, e1, hx⟩ := h.2 k e
    refine ⟨A', cap, ?_, ?_⟩
    · rw [List.getElem?_append_left (by rw [h.1]; exact e), Circ.getD_app_lt _ _ _ _ e]; exact e1
    · rw [Circ.getD_app_lt _ _ _ _ e]; exact hx
  · have hk' : k = xs.length := by simp at hk; omega
    subst hk'
    refine ⟨A, c, ?_, ?_⟩
    · rw [Circ.getD_app_at _ _ _ _ rfl, List.getElem?_append_right (by rw [h.1]; exact Nat.le_refl _), h.1, hm]; simp
    · rw [Circ.getD_app_at _ _ _ _ rfl]; exact hL
theorem HdrI.made (w : World) (s n : Nat) : HdrI w s (List.replicate n (.slice none 0 0)) (List.replicate n []) := by
  refine ⟨by simp, fun k hk => ?_⟩
  have hk' : k < n := by simpa using hk
  have e : (List.replicate n ([] : List Nat)).getD k [] = [] := by
    rw [List.getD_eq_getElem?_getD, List.getElem?_replicate]; split <;> rfl
  refine ⟨none, 0, ?_, ?_⟩
  · rw [e, List.getElem?_replicate, if_pos hk']; rfl
  · rw [e]; exact fun j hj => absurd hj (by simp [Opt.intL])
/-- Best cuts in memory of our own. -/
def BestAt (w : World) (s : Nat) (xs : Cs) (hs : List Value) (g cap : Nat) : Prop := w.ownsRow s 23 1 (.slice (some ⟨g, 0, none⟩) xs.length cap) xs.length hs ∧ HdrI w s hs xs
theorem BestAt.gb {w : World} {s g cap : Nat} {xs : Cs} {hs : List Value} (h : BestAt w s xs hs g cap) : s ≤ g ∧ g < w.heap.size := h.1.lt g rfl
theorem BestAt.made (w : World) (s n : Nat) (hs : s ≤ w.heap.size) (hn : n ≤ 1000) : BestAt (w.alloc (.cells (madeCells #[.slice none 0 0] n) 23)) s (List.replicate n []) (List.replicate n (.slice none 0 0)) w.heap.size n := by
  have h := World.ownsRow_lit (base := s) (e := 23) (size := 1) w (madeCells #[.slice none 0 0] n) n hs (by simp [maxLen]; omega) (by rw [size_madeCells, Nat.mul_one])
  rw [made_toList] at h
  exact ⟨by rw [List.length_replicate]; exact h, HdrI.made _ s n⟩
/-- Arrival times in memory of our own. -/
def TimesAt (w : World) (s : Nat) (xs : List Nat) (g cap : Nat) : Prop := w.ownsRow s 3 1 (.slice (some ⟨g, 0, none⟩) xs.length cap) xs.length (ivs (Opt.intL xs))
theorem TimesAt.gb {w : World} {s g cap : Nat} {xs : List Nat} (h : TimesAt w s xs g cap) : s ≤ g ∧ g < w.heap.size := World.ownsRow.lt h g rfl
theorem TimesAt.ints {w : World} {s g cap : Nat} {xs : List Nat} (h : TimesAt w s xs g cap) : IntsAt w w.heap.size (some ⟨g, 0, none⟩) (Opt.intL xs) := own_ints h (Opt.intL_len xs)
theorem TimesAt.made (w : World) (s n : Nat) (hs : s ≤ w.heap.size) (hn : n ≤ 1000) : TimesAt (w.alloc (.cells (madeCells #[.int .i64 0] n) 3)) s (List.replicate n 0) w.heap.size n := by
  have h := World.ownsRow_lit (base := s) (e := 3) (size := 1) w (madeCells #[.int .i64 0] n) n hs (by simp [maxLen]; omega) (by rw [size_madeCells, Nat.mul_one])
  rw [made_toList] at h
  unfold TimesAt
  have e : ivs (Opt.intL (List.replicate n 0)) = List.replicate n (.int .i64 0) := by simp [ivs, Opt.intL]
  rw [e, List.length_replicate]
  exact h
theorem BestAt.keep {w w' : World} {s g cap : Nat} {xs : Cs} {hs : List Value} (h : BestAt w s xs hs g cap) (hb : Below s w w') (hg : w'.heap[g]? = w.heap[g]?) : BestAt w' s xs hs g cap := ⟨ownsRow_keep h.1 hg, h.2.below hb⟩
theorem TimesAt.keep {w w' : World} {s g cap : Nat} {xs : List Nat} (h : TimesAt w s xs g cap) (hg : w'.heap[g]? = w.heap[g]?) : TimesAt w' s xs g cap := ownsRow_keep h hg

section
variable {ops : Array Oper} {rest : List Oper} {o : Oper} {a : Act} {Q : Exit → Act → World → Prop}
theorem wpList_pushI (hgd : o.guard = none) (s x : Operand) (ho : o.op = .call { callee := .builtin .append, args := #[s, x], argTypes := #[68, 68] })
    (wr : World) (B g cap n : Nat) (xs : Cs) (hs : List Value) (hev : a.eval s = .slice (some ⟨g, 0, none⟩) n cap) (hn : xs.length = n) (h : BestAt wr B xs hs g cap) (hnb : n ≤ 1000)
    (A : Option Addr) (m c : Nat) (y : List Nat) (hx : a.eval x = .slice (some ⟨wr.heap.size, 0, none⟩) 1 1) (hm : y.length = m) (hL : IntsAt wr B A (Opt.intL y))
    (cont : ∀ g' cap' w5, BestAt w5 B (xs ++ [y]) (hs ++ [.slice A m c]) g' cap' → Below B wr w5 → (∀ b, b < wr.heap.size → b ≠ g → w5.heap[b]? = wr.heap[b]?) → (g' = g ∨ wr.heap.size < g') → wpList Try.prog ops Q rest (a.put o.dst (.slice (some ⟨g', 0, none⟩) (n + 1) cap')) w5) :
    wpList Try.prog ops Q (o :: rest) a (wr.alloc (.cells #[.slice A m c] 23)) := by
  subst hn
  obtain ⟨i0, hi0, hz0, hz1, hz2⟩ := info_split Try.info23
  obtain ⟨hB, hgl⟩ := h.gb
  refine wpList_append_kept _ hgd s x 68 ho B 23 i0 _ 1 24 Try.underlying68 hi0 hz0 hz1 hz2 rfl (by omega) (.slice (some ⟨g, 0, none⟩) xs.length cap) xs.length hs hev (h.1.alloc _) ⟨wr.heap.size, 0, none⟩ 1 1 [.slice A m c] hx rfl (World.news_of_block (cs := #[.slice A m c]) (t := 23) (fr := (0, 0)) (heap_alloc_new wr _)) (by simp [Value.oneCell']) (by omega) (by simp [maxLen]; omega) (by omega) (by simp; omega) _ rfl ?_
  intro g' cap' w5 hown5 hgr5 hat5 hlt5 hkept5
  have hb5 := below_alloc_grown hgr5 (by omega) hB
  refine cont g' cap' w5 ⟨by rw [List.length_append, List.length_singleton]; exact hown5, (h.2.below hb5).snoc hm (hL.below hb5)⟩ hb5 (off_grown hgr5) ?_
  rcases hat5 with h1 | h1
  · left; simp [Value.ownBlock] at h1; omega
  · right; simp at h1; omega
theorem wpList_pushT (hgd : o.guard = none) (s x : Operand) (ho : o.op = .call { callee := .builtin .append, args := #[s, x], argTypes := #[23, 23] })
    (wr : World) (B g cap n : Nat) (xs : List Nat) (hev : a.eval s = .slice (some ⟨g, 0, none⟩) n cap) (hn : xs.length = n) (h : TimesAt wr B xs g cap) (hnb : n ≤ 1000)
    (y : Nat) (z : Int) (hz : z = (y : Int)) (hx : a.eval x = .slice (some ⟨wr.heap.size, 0, none⟩) 1 1)
    (cont : ∀ g' cap' w5, TimesAt w5 B (xs ++ [y]) g' cap' → Below B wr w5 → (∀ b, b < wr.heap.size → b ≠ g → w5.heap[b]? = wr.heap[b]?) → (g' = g ∨ wr.heap.size < g') → wpList Try.prog ops Q rest (a.put o.dst (.slice (some ⟨g', 0, none⟩) (n + 1) cap')) w5) :
    wpList Try.prog ops Q (o :: rest) a (wr.alloc (.cells #[.int .i64 z] 3)) := by
  subst hz hn
  obtain ⟨i0, hi0, hz0, hz1, hz2⟩ := info_split Try.info3
  obtain ⟨hB, hgl⟩ := h.gb
  refine wpList_append_kept _ hgd s x 23 ho B 3 i0 _ 1 8 Try.underlying23 hi0 hz0 hz1 hz2 rfl (by omega) (.slice (some ⟨g, 0, none⟩) xs.length cap) xs.length (ivs (Opt.intL xs)) hev (World.ownsRow.alloc h _) ⟨wr.heap.size, 0, none⟩ 1 1 [.int .i64 (y : Int)] hx rfl (World.news_of_block (cs := #[.int .i64 (y : Int)]) (t := 3) (fr := (0, 0)) (heap_alloc_new wr _)) (by simp [Value.oneCell']) (by omega) (by simp [maxLen]; omega) (by omega) (by simp; omega) _ rfl ?_
  intro g' cap' w5 hown5 hgr5 hat5 hlt5 hkept5
  refine cont g' cap' w5 ?_ (below_alloc_grown hgr5 (by omega) hB) (off_grown hgr5) ?_
  · unfold TimesAt
    have e : ivs (Opt.intL (xs ++ [y])) = ivs (Opt.intL xs) ++ [.int .i64 (y : Int)] := by simp [ivs, Opt.intL]
    rw [e, List.length_append, List.length_singleton]
    exact hown5
  · rcases hat5 with h1 | h1
    · left; simp [Value.ownBlock] at h1; omega
    · right; simp at h1; omega
end
end Go.Proofs.Ythcpgbfghededaa
