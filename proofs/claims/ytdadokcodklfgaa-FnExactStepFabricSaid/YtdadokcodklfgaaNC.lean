/- A valid circuit in natural numbers. -/
import Derived.Test.YtdadokcodklfgaaT3
import Derived.Test.YtdadokcodklfgaaC4
import Derived.Test.YtdadokcodklfgaaQD
import Derived.Test.YtdadokcodklfgaaCL
import Derived.Test.YtdadokcodklfgaaK
import Derived.Test.YtdadokcodklfgaaCB
import Derived.Deep.DeepCutAuto
import Derived.Deep.CutBlock
import Derived.Test.YtdadokcodklfgaaB1
import Derived.Test.YtdadokcodklfgaaEL
namespace Go.Proofs.Ytdadokcodklfgaa
open Go.RowKit Go.Deep
section
variable {i : Int} {ns : List Int} {gs : List (Int × Int)} {os : List Int}
end
end Go.Proofs.Ytdadokcodklfgaa
/- The contract of the model's Cuts. -/
namespace Go.Proofs.Ytdadokcodklfgaa
open Go.RowKit Go.Deep Cut

end Go.Proofs.Ytdadokcodklfgaa
/- The contracts of the arrival times: l5Arrive, latestArrival, leafCount. -/
namespace Go.Proofs.Ytdadokcodklfgaa
open Go.RowKit Go.Deep Cut

end Go.Proofs.Ytdadokcodklfgaa
/- The contracts of compareByKeys and of the closure byPreference. -/
namespace Go.Proofs.Ytdadokcodklfgaa
open Go.RowKit Go.Deep Cut

end Go.Proofs.Ytdadokcodklfgaa
/- The contracts of the closure byPreference and of MinFunc over it. -/
namespace Go.Proofs.Ytdadokcodklfgaa
open Go.RowKit Go.Deep Cut

end Go.Proofs.Ytdadokcodklfgaa
/- The contract of MinFunc over byPreference. -/
namespace Go.Proofs.Ytdadokcodklfgaa
open Go.RowKit Go.Deep Cut

end Go.Proofs.Ytdadokcodklfgaa
/- Memory of best cuts: a list of headers whose leaves lie below. -/
namespace Go.Proofs.Ytdadokcodklfgaa
open Go.RowKit Go.Deep Cut

theorem made_toList (v : Value) (n : Nat) : (madeCells #[v] n).toList = List.replicate n v := by
  apply List.ext_getElem?
  intro j
  rw [Array.getElem?_toList]
  by_cases h : j < n
  · have hj' : j < n * 1 := by omega
    simp [madeCells, h, Nat.mod_one]
  · rw [List.getElem?_eq_none (by simpa using h), Array.getElem?_eq_none (by rw [size_madeCells]; omega)]
/-- Headers whose leaves lie below s. -/
def HdrI (w : World) (s : Nat) (hs : List Value) (xs : Cs) : Prop :=
  hs.length = xs.length ∧ ∀ k, k < xs.length → ∃ (A' : Option Addr) (cap : Nat), hs[k]? = some (.slice A' (xs.getD k []).length cap) ∧ IntsAt w s A' (Opt.intL (xs.getD k []))
theorem HdrI.below {w w' : World} {s : Nat} {hs : List Value} {xs : Cs} (h : HdrI w s hs xs) (hb : Below s w w') : HdrI w' s hs xs :=
  ⟨h.1, fun k hk => by
    obtain ⟨A', cap, e, hx⟩ := h.2 k hk
    exact ⟨A', cap, e, hx.below hb⟩⟩
theorem HdrI.snoc {w : World} {s : Nat} {hs : List Value} {xs : Cs} (h : HdrI w s hs xs) {A : Option Addr} {m c : Nat} {y : List Nat} (hm : y.length = m) (hL : IntsAt w s A (Opt.intL y)) : HdrI w s (hs ++ [.slice A m c]) (xs ++ [y]) := by
  refine ⟨by simp [h.1], fun k hk => ?_⟩
  by_cases e : k < xs.length
  · obtain ⟨A', cap, e1, hx⟩ := h.2 k e
    refine ⟨A', cap, ?_, ?_⟩
    · rw [List.getElem?_append_left (by rw [h.1]; exact e), Circ.getD_app_lt _ _ _ _ e]; exact e1
    · rw [Circ.getD_app_lt _ _ _ _ e]; exact hx
  · have hk' : k = xs.length := by simp at hk; omega
    subst hk'
    refine ⟨A, c, ?_, ?_⟩
    · rw [Circ.getD_app_at _ _ _ _ rfl, List.getElem?_append_right (by rw [h.1]; exact Nat.le_refl _), h.1, hm]; simp
    · rw [Circ.getD_app_at _ _ _ _ rfl]; exact hL
theorem HdrI.made (w : World) (s n : Nat) : HdrI w s (List.replicate n (.slice none 0 0)) (List.replicate n []) := by
  refine ⟨by simp, fun k hk => ?_⟩
  have hk' : k < n := by simpa using hk
  have e : (List.replicate n ([] : List Nat)).getD k [] = [] := by
    rw [List.getD_eq_getElem?_getD, List.getElem?_replicate]; split <;> rfl
  refine ⟨none, 0, ?_, ?_⟩
  · rw [e, List.getElem?_replicate, if_pos hk']; rfl
  · rw [e]; exact fun j hj => absurd hj (by simp [Opt.intL])
/-- Best cuts in memory of our own. -/
def BestAt (w : World) (s : Nat) (xs : Cs) (hs : List Value) (g cap : Nat) : Prop := w.ownsRow s 31 1 (.slice (some ⟨g, 0, none⟩) xs.length cap) xs.length hs ∧ HdrI w s hs xs
theorem BestAt.gb {w : World} {s g cap : Nat} {xs : Cs} {hs : List Value} (h : BestAt w s xs hs g cap) : s ≤ g ∧ g < w.heap.size := h.1.lt g rfl
theorem BestAt.made (w : World) (s n : Nat) (hs : s ≤ w.heap.size) (hn : n ≤ 1000) : BestAt (w.alloc (.cells (madeCells #[.slice none 0 0] n) 31)) s (List.replicate n []) (List.replicate n (.slice none 0 0)) w.heap.size n := by
  have h := World.ownsRow_lit (base := s) (e := 31) (size := 1) w (madeCells #[.slice none 0 0] n) n hs (by simp [maxLen]; omega) (by rw [size_madeCells, Nat.mul_one])
  rw [made_toList] at h
  exact ⟨by rw [List.length_replicate]; exact h, HdrI.made _ s n⟩
/-- Arrival times in memory of our own. -/
def TimesAt (w : World) (s : Nat) (xs : List Nat) (g cap : Nat) : Prop := w.ownsRow s 3 1 (.slice (some ⟨g, 0, none⟩) xs.length cap) xs.length (ivs (Opt.intL xs))
theorem TimesAt.gb {w : World} {s g cap : Nat} {xs : List Nat} (h : TimesAt w s xs g cap) : s ≤ g ∧ g < w.heap.size := World.ownsRow.lt h g rfl
theorem TimesAt.ints {w : World} {s g cap : Nat} {xs : List Nat} (h : TimesAt w s xs g cap) : IntsAt w w.heap.size (some ⟨g, 0, none⟩) (Opt.intL xs) := own_ints h (Opt.intL_len xs)
theorem TimesAt.made (w : World) (s n : Nat) (hs : s ≤ w.heap.size) (hn : n ≤ 1000) : TimesAt (w.alloc (.cells (madeCells #[.int .i64 0] n) 3)) s (List.replicate n 0) w.heap.size n := by
  have h := World.ownsRow_lit (base := s) (e := 3) (size := 1) w (madeCells #[.int .i64 0] n) n hs (by simp [maxLen]; omega) (by rw [size_madeCells, Nat.mul_one])
  rw [made_toList] at h
  unfold TimesAt
  have e : ivs (Opt.intL (List.replicate n 0)) = List.replicate n (.int .i64 0) := by simp [ivs, Opt.intL]
  rw [e, List.length_replicate]
  exact h
theorem BestAt.keep {w w' : World} {s g cap : Nat} {xs : Cs} {hs : List Value} (h : BestAt w s xs hs g cap) (hb : Below s w w') (hg : w'.heap[g]? = w.heap[g]?) : BestAt w' s xs hs g cap := ⟨ownsRow_keep h.1 hg, h.2.below hb⟩
theorem TimesAt.keep {w w' : World} {s g cap : Nat} {xs : List Nat} (h : TimesAt w s xs g cap) (hg : w'.heap[g]? = w.heap[g]?) : TimesAt w' s xs g cap := ownsRow_keep h hg

section
variable {ops : Array Oper} {rest : List Oper} {o : Oper} {a : Act} {Q : Exit → Act → World → Prop}
theorem wpList_pushT (hgd : o.guard = none) (s x : Operand) (ho : o.op = .call { callee := .builtin .append, args := #[s, x], argTypes := #[31, 31] })
    (wr : World) (B g cap n : Nat) (xs : List Nat) (hev : a.eval s = .slice (some ⟨g, 0, none⟩) n cap) (hn : xs.length = n) (h : TimesAt wr B xs g cap) (hnb : n ≤ 1000)
    (y : Nat) (z : Int) (hz : z = (y : Int)) (hx : a.eval x = .slice (some ⟨wr.heap.size, 0, none⟩) 1 1)
    (cont : ∀ g' cap' w5, TimesAt w5 B (xs ++ [y]) g' cap' → Below B wr w5 → (∀ b, b < wr.heap.size → b ≠ g → w5.heap[b]? = wr.heap[b]?) → (g' = g ∨ wr.heap.size < g') → wpList Try.prog ops Q rest (a.put o.dst (.slice (some ⟨g', 0, none⟩) (n + 1) cap')) w5) :
    wpList Try.prog ops Q (o :: rest) a (wr.alloc (.cells #[.int .i64 z] 3)) := by
  subst hz hn
  obtain ⟨i0, hi0, hz0, hz1, hz2⟩ := info_split Try.info3
  obtain ⟨hB, hgl⟩ := h.gb
  refine wpList_append_kept _ hgd s x 31 ho B 3 i0 _ 1 8 Try.underlying31 hi0 hz0 hz1 hz2 rfl (by omega) (.slice (some ⟨g, 0, none⟩) xs.length cap) xs.length (ivs (Opt.intL xs)) hev (World.ownsRow.alloc h _) ⟨wr.heap.size, 0, none⟩ 1 1 [.int .i64 (y : Int)] hx rfl (World.news_of_block (cs := #[.int .i64 (y : Int)]) (t := 3) (fr := (0, 0)) (heap_alloc_new wr _)) (by simp [Value.oneCell']) (by omega) (by simp [maxLen]; omega) (by omega) (by simp; omega) _ rfl ?_
  intro g' cap' w5 hown5 hgr5 hat5 hlt5 hkept5
  refine cont g' cap' w5 ?_ (below_alloc_grown hgr5 (by omega) hB) (off_grown hgr5) ?_
  · unfold TimesAt
    have e : ivs (Opt.intL (xs ++ [y])) = ivs (Opt.intL xs) ++ [.int .i64 (y : Int)] := by simp [ivs, Opt.intL]
    rw [e, List.length_append, List.length_singleton]
    exact hown5
  · rcases hat5 with h1 | h1
    · left; simp [Value.ownBlock] at h1; omega
    · right; simp at h1; omega
end
end Go.Proofs.Ytdadokcodklfgaa
/- The contract of l5Best. -/
namespace Go.Proofs.Ytdadokcodklfgaa
open Go.RowKit Go.Deep Cut

end Go.Proofs.Ytdadokcodklfgaa
/- The contract of the model's MappedDepth. -/
namespace Go.Proofs.Ytdadokcodklfgaa
open Go.RowKit Go.Deep Cut

theorem memD {X : Type} {l : List X} {d : X} {j : Nat} (h : j < l.length) : l.getD j d ∈ l := by
  rw [List.getD_eq_getElem?_getD, List.getElem?_eq_getElem h]
  exact List.getElem_mem h
end Go.Proofs.Ytdadokcodklfgaa
/- The contract of the program's Cuts. -/
namespace Go.Proofs.Ytdadokcodklfgaa
open Go.RowKit Go.Deep Cut

theorem DistH.append {a b : List Value} (ha : DistH a) (hb : DistH b) (hab : ∀ u, u ∈ a → ∀ v, v ∈ b → ∀ x, vblk u = some x → vblk v ≠ some x) : DistH (a ++ b) := by
  intro j k hjk u v hu hv x hx
  by_cases h1 : k < a.length
  · rw [List.getElem?_append_left h1] at hv
    rw [List.getElem?_append_left (by omega)] at hu
    exact ha j k hjk u v hu hv x hx
  · rw [List.getElem?_append_right (by omega)] at hv
    by_cases h2 : j < a.length
    · rw [List.getElem?_append_left h2] at hu
      exact hab u (List.mem_of_getElem? hu) v (List.mem_of_getElem? hv) x hx
    · rw [List.getElem?_append_right (by omega)] at hu
      exact hb (j - a.length) (k - a.length) (by omega) u v hu hv x hx
theorem DistH.one (v : Value) : DistH [v] := fun j k hjk u v' hu hv' => by
  have h1 := (List.getElem?_eq_some_iff.1 hu).1
  have h2 := (List.getElem?_eq_some_iff.1 hv').1
  simp at h1 h2
  omega
theorem LstAt.mono {w : World} {B B' g cap : Nat} {xs : Cs} {hs : List Value} (h : LstAt w B xs hs g cap) (hb : B' ≤ B) : LstAt w B' xs hs g cap := by
  refine ⟨⟨h.1.1, ?_⟩, h.2.kept (fun _ _ => rfl) (fun b hb' => ⟨by have := hb'.1; omega, hb'.2⟩)⟩
  rcases h.1.2 with h | ⟨g', cap', cur, hv, h3, h4⟩
  · exact .inl h
  · exact .inr ⟨g', cap', cur, hv, by omega, h4⟩
end Go.Proofs.Ytdadokcodklfgaa
/- Places in a list of lists that is laid end to end; no program. -/
namespace Go.Proofs.Ytdadokcodklfgaa

end Go.Proofs.Ytdadokcodklfgaa
/- The contract of mappingOf. -/
namespace Go.Proofs.Ytdadokcodklfgaa
open Go.RowKit Go.Deep Cut

/-- A best cut's header: nil, or that of one of the cuts. -/
def HdrOf (HH : List (List Value)) (cs : List Cs) (v : Nat) (u : Value) (x : List Nat) : Prop := (x = [] ∧ ∃ n c, u = .slice none n c) ∨ ∃ j, (HH.getD v [])[j]? = some u ∧ j < (cs.getD v []).length ∧ (cs.getD v []).getD j [] = x
theorem AllAt.leaf {w : World} {B g cap : Nat} {cs : List Cs} {HH : List (List Value)} (h : AllAt w B cs HH g cap) {v : Nat} (hv : v < cs.length) {A' : Option Addr} {n c : Nat} {x : List Nat} (hd : HdrOf HH cs v (.slice A' n c) x) : LeafIn w (Off w B g) A' x := by
  rcases hd with ⟨rfl, _⟩ | ⟨j, e1, hj, rfl⟩
  · exact .inl rfl
  · obtain ⟨hs, _, h2⟩ := h
    obtain ⟨A2, c2, _, hR⟩ := h2.2.2 v hv
    obtain ⟨A3, c3, e3, hL⟩ := hR.2.2 j hj
    rw [e1] at e3
    injection e3 with e3
    injection e3 with e3 _ _
    subst e3
    exact hL
/-- Slices of integers in blocks of their own from B on, their headers in a block of their own. -/
def OwnL (w : World) (B g : Nat) (xs : Cs) : Prop := ∃ cells, Row w g 31 cells ∧ B ≤ g ∧ cells.size = xs.length ∧ (∀ v, v < xs.length → ∃ (A' : Option Addr) (c' : Nat), cells[v]? = some (.slice A' (xs.getD v []).length c') ∧ LeafIn w (fun b => B ≤ b ∧ b < w.heap.size) A' (xs.getD v [])) ∧ DistH cells.toList
theorem OwnL.list {w : World} {B g : Nat} {xs : Cs} (h : OwnL w B g xs) : ListAt w w.heap.size (some ⟨g, 0, none⟩) xs := fun v hv => by
  obtain ⟨cells, hr, _, _, hk, _⟩ := h
  obtain ⟨A', c', e1, hx⟩ := hk v hv
  exact ⟨g, 0, rfl, hr.lt, A', c', by rw [Nat.zero_add]; exact (hr.cell v).trans e1, (hx.kept (fun _ _ => rfl) (T := fun b => b < w.heap.size) (fun b hb => hb.2)).ints⟩
theorem OwnL.below {w w' : World} {B g : Nat} {xs : Cs} (h : OwnL w B g xs) (hb : Below w.heap.size w w') : OwnL w' B g xs := by
  obtain ⟨cells, hr, h1, h2, hk, hd⟩ := h
  refine ⟨cells, hr.below hb hr.lt, h1, h2, fun v hv => ?_, hd⟩
  obtain ⟨A', c', e1, hx⟩ := hk v hv
  exact ⟨A', c', e1, hx.kept (fun b hb' => hb.block b hb'.2) (fun b hb' => ⟨hb'.1, Nat.lt_of_lt_of_le hb'.2 hb.size⟩)⟩
theorem LeafIn.far {w : World} {S : Nat → Prop} {A : Option Addr} {x : List Nat} (h : LeafIn w S A x) {g : Nat} (hS : ∀ b, S b → b ≠ g) (j : Nat) (u : Value) : LeafIn (w.setCell ⟨g, j, none⟩ u) S A x := by
  rcases h with h | ⟨b, cs, e, hs, hr, hc⟩
  · exact .inl h
  · exact .inr ⟨b, cs, e, hs, hr.far (p := ⟨g, j, none⟩) (hS b hs) u, hc⟩

end Go.Proofs.Ytdadokcodklfgaa
/- The contracts of trueFromLeaves and lutTable. -/
namespace Go.Proofs.Ytdadokcodklfgaa
open Go.RowKit Go.Deep Cut

theorem int_bit (x k : Nat) (hx : x < 9223372036854775808) : (bits .and .i64 ((x : Int) / 2 ^ k) 1 == 1) = x.testBit k := by
  have h : (x : Int) / 2 ^ k = ((x / 2 ^ k : Nat) : Int) := by simp
  rw [h, i64_odd _ (Nat.lt_of_le_of_lt (Nat.div_le_self _ _) hx), Nat.testBit_eq_decide_div_mod_eq]
  rcases Nat.mod_two_eq_zero_or_one (x / 2 ^ k) with e | e <;> rw [e] <;> rfl
end Go.Proofs.Ytdadokcodklfgaa
/- The contract of lutTable. -/
namespace Go.Proofs.Ytdadokcodklfgaa
open Go.RowKit Go.Deep Cut

theorem i64_or_n (a b : Nat) (ha : a < 4611686018427387904) (hb : b < 4611686018427387904) : bits .or .i64 (a : Int) (b : Int) = ((a ||| b : Nat) : Int) := by
  have h1 : (BitVec.ofInt 64 (a : Int)).toNat = a := by rw [BitVec.ofInt_natCast, BitVec.toNat_ofNat]; exact Nat.mod_eq_of_lt (by omega)
  have h2 : (BitVec.ofInt 64 (b : Int)).toNat = b := by rw [BitVec.ofInt_natCast, BitVec.toNat_ofNat]; exact Nat.mod_eq_of_lt (by omega)
  show IntKind.i64.wrap ((BitVec.ofInt 64 (a : Int) ||| BitVec.ofInt 64 (b : Int)).toNat : Int) = _
  have h3 : a ||| b < 2 ^ 62 := Nat.or_lt_two_pow (n := 62) (by omega) (by omega)
  rw [BitVec.toNat_or, h1, h2, IntKind.wrap_i64]
  omega

end Go.Proofs.Ytdadokcodklfgaa
/- The contract of neededVars. -/
namespace Go.Proofs.Ytdadokcodklfgaa
open Go.RowKit Go.Deep Cut

end Go.Proofs.Ytdadokcodklfgaa
/- The contract of the program's MapLuts. -/
namespace Go.Proofs.Ytdadokcodklfgaa
open Go.RowKit Go.Deep Cut

/-- Every slice of hs is one of the first n cells. -/
def FromC (cells : Array Value) (n : Nat) (hs : List Value) : Prop := ∀ u, u ∈ hs → ∀ b, vblk u = some b → ∃ v, v < n ∧ cells[v]? = some u
theorem FromC.more {cells : Array Value} {n n' : Nat} {hs : List Value} (h : FromC cells n hs) (hn : n ≤ n') : FromC cells n' hs := fun u hu b hb => by
  obtain ⟨v, h1, h2⟩ := h u hu b hb
  exact ⟨v, by omega, h2⟩
end Go.Proofs.Ytdadokcodklfgaa
