/- Memory of best cuts: a list of headers whose leaves lie below. -/
import Derived.Test.YtkkkkalgfmddbaaM1
import Derived.Test.YtkkkkalgfmddbaaK
namespace Go.Proofs.Ytkkkkalgfmddbaa
open Go.RowKit Go.Deep Cut

theorem made_toList (v : Value) (n : Nat) : (madeCells #[v] n).toList = List.replicate n v := by
  apply List.ext_getElem?
  intro j
  rw [Array.getElem?_toList]
  by_cases h : j < n
  · have hj' : j < n * 1 := by omega
    simp [madeCells, h, Nat.mod_one]
  · rw [List.getElem?_eq_none (by simpa using h), Array.getElem?_eq_none (by rw [size_madeCells]; omega)]
/-- Headers whose leaves lie below s. -/
def HdrI (w : World) (s : Nat) (hs : List Value) (xs : Cs) : Prop :=
  hs.length = xs.length ∧ ∀ k, k < xs.length → ∃ (A' : Option Addr) (cap : Nat), hs[k]? = some (.slice A' (xs.getD k []).length cap) ∧ IntsAt w s A' (Opt.intL (xs.getD k []))
theorem HdrI.below {w w' : World} {s : Nat} {hs : List Value} {xs : Cs} (h : HdrI w s hs xs) (hb : Below s w w') : HdrI w' s hs xs :=
  ⟨h.1, fun k hk => by
    obtain ⟨A', cap, e, hx⟩ := h.2 k hk
    exact ⟨A', cap, e, hx.below hb⟩⟩
theorem HdrI.snoc {w : World} {s : Nat} {hs : List Value} {xs : Cs} (h : HdrI w s hs xs) {A : Option Addr} {m c : Nat} {y : List Nat} (hm : y.length = m) (hL : IntsAt w s A (Opt.intL y)) : HdrI w s (hs ++ [.slice A m c]) (xs ++ [y]) := by
  refine ⟨by simp [h.1], fun k hk => ?_⟩
  by_cases e : k < xs.length
  · obtain ⟨A', cap, e1, hx⟩ := h.2 k e
    refine ⟨A', cap, ?_, ?_⟩
    · rw [List.getElem?_append_left (by rw [h.1]; exact e), Circ.getD_app_lt _ _ _ _ e]; exact e1
    · rw [Circ.getD_app_lt _ _ _ _ e]; exact hx
  · have hk' : k = xs.length := by simp at hk; omega
    subst hk'
    refine ⟨A, c, ?_, ?_⟩
    · rw [Circ.getD_app_at _ _ _ _ rfl, List.getElem?_append_right (by rw [h.1]; exact Nat.le_refl _), h.1, hm]; simp
    · rw [Circ.getD_app_at _ _ _ _ rfl]; exact hL
theorem HdrI.made (w : World) (s n : Nat) : HdrI w s (List.replicate n (.slice none 0 0)) (List.replicate n []) := by
  refine ⟨by simp, fun k hk => ?_⟩
  have hk' : k < n := by simpa using hk
  have e : (List.replicate n ([] : List Nat)).getD k [] = [] := by
    rw [List.getD_eq_getElem?_getD, List.getElem?_replicate]; split <;> rfl
  refine ⟨none, 0, ?_, ?_⟩
  · rw [e, List.getElem?_replicate, if_pos hk']; rfl
  · rw [e]; exact fun j hj => absurd hj (by simp [Opt.intL])
/-- Best cuts in memory of our own. -/
def BestAt (w : World) (s : Nat) (xs : Cs) (hs : List Value) (g cap : Nat) : Prop := w.ownsRow s 31 1 (.slice (some ⟨g, 0, none⟩) xs.length cap) xs.length hs ∧ HdrI w s hs xs
theorem BestAt.gb {w : World} {s g cap : Nat} {xs : Cs} {hs : List Value} (h : BestAt w s xs hs g cap) : s ≤ g ∧ g < w.heap.size := h.1.lt g rfl
theorem BestAt.made (w : World) (s n : Nat) (hs : s ≤ w.heap.size) (hn : n ≤ 1000) : BestAt (w.alloc (.cells (madeCells #[.slice none 0 0] n) 31)) s (List.replicate n []) (List.replicate n (.slice none 0 0)) w.heap.size n := by
  have h := World.ownsRow_lit (base := s) (e := 31) (size := 1) w (madeCells #[.slice none 0 0] n) n hs (by simp [maxLen]; omega) (by rw [size_madeCells, Nat.mul_one])
  rw [made_toList] at h
  exact ⟨by rw [List.length_replicate]; exact h, HdrI.made _ s n⟩
/-- Arrival times in memory of our own. -/
def TimesAt (w : World) (s : Nat) (xs : List Nat) (g cap : Nat) : Prop := w.ownsRow s 3 1 (.slice (some ⟨g, 0, none⟩) xs.length cap) xs.length (ivs (Opt.intL xs))
theorem TimesAt.gb {w : World} {s g cap : Nat} {xs : List Nat} (h : TimesAt w s xs g cap) : s ≤ g ∧ g < w.heap.size := World.ownsRow.lt h g rfl
theorem TimesAt.ints {w : World} {s g cap : Nat} {xs : List Nat} (h : TimesAt w s xs g cap) : IntsAt w w.heap.size (some ⟨g, 0, none⟩) (Opt.intL xs) := own_ints h (Opt.intL_len xs)
theorem TimesAt.made (w : World) (s n : Nat) (hs : s ≤ w.heap.size) (hn : n ≤ 1000) : TimesAt (w.alloc (.cells (madeCells #[.int .i64 0] n) 3)) s (List.replicate n 0) w.heap.size n := by
  have h := World.ownsRow_lit (base := s) (e := 3) (size := 1) w (madeCells #[.int .i64 0] n) n hs (by simp [maxLen]; omega) (by rw [size_madeCells, Nat.mul_one])
  rw [made_toList] at h
  unfold TimesAt
  have e : ivs (Opt.intL (List.replicate n 0)) = List.replicate n (.int .i64 0) := by simp [ivs, Opt.intL]
  rw [e, List.length_replicate]
  exact h
theorem BestAt.keep {w w' : World} {s g cap : Nat} {xs : Cs} {hs : List Value} (h : BestAt w s xs hs g cap) (hb : Below s w w') (hg : w'.heap[g]? = w.heap[g]?) : BestAt w' s xs hs g cap := ⟨ownsRow_keep h.1 hg, h.2.below hb⟩
theorem TimesAt.keep {w w' : World} {s g cap : Nat} {xs : List Nat} (h : TimesAt w s xs g cap) (hg : w'.heap[g]? = w.heap[g]?) : TimesAt w' s xs g cap := ownsRow_keep h hg

section
variable {ops : Array Oper} {rest : List Oper} {o : Oper} {a : Act} {Q : Exit → Act → World → Prop}
theorem wpList_pushI (hgd : o.guard = none) (s x : Operand) (ho : o.op = .call { callee := .builtin .append, args := #[s, x], argTypes := #[151, 151] })
    (wr : World) (B g cap n : Nat) (xs : Cs) (hs : List Value) (hev : a.eval s = .slice (some ⟨g, 0, none⟩) n cap) (hn : xs.length = n) (h : BestAt wr B xs hs g cap) (hnb : n ≤ 1000)
    (A : Option Addr) (m c : Nat) (y : List Nat) (hx : a.eval x = .slice (some ⟨wr.heap.size, 0, none⟩) 1 1) (hm : y.length = m) (hL : IntsAt wr B A (Opt.intL y))
    (cont : ∀ g' cap' w5, BestAt w5 B (xs ++ [y]) (hs ++ [.slice A m c]) g' cap' → Below B wr w5 → (∀ b, b < wr.heap.size → b ≠ g → w5.heap[b]? = wr.heap[b]?) → (g' = g ∨ wr.heap.size < g') → wpList Try.prog ops Q rest (a.put o.dst (.slice (some ⟨g', 0, none⟩) (n + 1) cap')) w5) :
    wpList Try.prog ops Q (o :: rest) a (wr.alloc (.cells #[.slice A m c] 31)) := by
  subst hn
  obtain ⟨i0, hi0, hz0, hz1, hz2⟩ := info_split Try.info23
  obtain ⟨hB, hgl⟩ := h.gb
  refine wpList_append_kept _ hgd s x 151 ho B 31 i0 _ 1 24 Try.underlying151 hi0 hz0 hz1 hz2 rfl (by omega) (.slice (some ⟨g, 0, none⟩) xs.length cap) xs.length hs hev (h.1.alloc _) ⟨wr.heap.size, 0, none⟩ 1 1 [.slice A m c] hx rfl (World.news_of_block (cs := #[.slice A m c]) (t := 31) (fr := (0, 0)) (heap_alloc_new wr _)) (by simp [Value.oneCell']) (by omega) (by simp [maxLen]; omega) (by omega) (by simp; omega) _ rfl ?_
  intro g' cap' w5 hown5 hgr5 hat5 hlt5 hkept5
  have hb5 := below_alloc_grown hgr5 (by omega) hB
  refine cont g' cap' w5 ⟨by rw [List.length_append, List.length_singleton]; exact hown5, (h.2.below hb5).snoc hm (hL.below hb5)⟩ hb5 (off_grown hgr5) ?_
  rcases hat5 with h1 | h1
  · left; simp [Value.ownBlock] at h1; omega
  · right; simp at h1; omega
theorem wpList_pushT (hgd : o.guard = none) (s x : Operand) (ho : o.op = .call { callee := .builtin .append, args := #[s, x], argTypes := #[31, 31] })
    (wr : World) (B g cap n : Nat) (xs : List Nat) (hev : a.eval s = .slice (some ⟨g, 0, none⟩) n cap) (hn : xs.length = n) (h : TimesAt wr B xs g cap) (hnb : n ≤ 1000)
    (y : Nat) (z : Int) (hz : z = (y : Int)) (hx : a.eval x = .slice (some ⟨wr.heap.size, 0, none⟩) 1 1)
    (cont : ∀ g' cap' w5, TimesAt w5 B (xs ++ [y]) g' cap' → Below B wr w5 → (∀ b, b < wr.heap.size → b ≠ g → w5.heap[b]? = wr.heap[b]?) → (g' = g ∨ wr.heap.size < g') → wpList Try.prog ops Q rest (a.put o.dst (.slice (some ⟨g', 0, none⟩) (n + 1) cap')) w5) :
    wpList Try.prog ops Q (o :: rest) a (wr.alloc (.cells #[.int .i64 z] 3)) := by
  subst hz hn
  obtain ⟨i0, hi0, hz0, hz1, hz2⟩ := info_split Try.info3
  obtain ⟨hB, hgl⟩ := h.gb
  refine wpList_append_kept _ hgd s x 31 ho B 3 i0 _ 1 8 Try.underlying31 hi0 hz0 hz1 hz2 rfl (by omega) (.slice (some ⟨g, 0, none⟩) xs.length cap) xs.length (ivs (Opt.intL xs)) hev (World.ownsRow.alloc h _) ⟨wr.heap.size, 0, none⟩ 1 1 [.int .i64 (y : Int)] hx rfl (World.news_of_block (cs := #[.int .i64 (y : Int)]) (t := 3) (fr := (0, 0)) (heap_alloc_new wr _)) (by simp [Value.oneCell']) (by omega) (by simp [maxLen]; omega) (by omega) (by simp; omega) _ rfl ?_
  intro g' cap' w5 hown5 hgr5 hat5 hlt5 hkept5
  refine cont g' cap' w5 ?_ (below_alloc_grown hgr5 (by omega) hB) (off_grown hgr5) ?_
  · unfold TimesAt
    have e : ivs (Opt.intL (xs ++ [y])) = ivs (Opt.intL xs) ++ [.int .i64 (y : Int)] := by simp [ivs, Opt.intL]
    rw [e, List.length_append, List.length_singleton]
    exact hown5
  · rcases hat5 with h1 | h1
    · left; simp [Value.ownBlock] at h1; omega
    · right; simp at h1; omega
end
end Go.Proofs.Ytkkkkalgfmddbaa
/- The contract of l5Best. -/
namespace Go.Proofs.Ytkkkkalgfmddbaa
open Go.RowKit Go.Deep Cut

/-- What is asked of the cuts of gate k. -/
structure GateK (f k : Nat) (L : Cs) : Prop where
  two : 2 ≤ L.length
  len : L.length ≤ 9
  fit : ∀ j, j < L.length → (L.getD j []).length ≤ 3
  lt : ∀ j, j + 1 < L.length → ∀ l, l ∈ L.getD j [] → l < f + k
def BestOut (w : World) (f gl : Nat) (cs : List Cs) (e : Ending) (w' : World) : Prop := ∃ (g1 c1 g2 c2 : Nat) (hs : List Value), e = .returned (.tuple #[.slice (some ⟨g1, 0, none⟩) (f + gl) c1, .slice (some ⟨g2, 0, none⟩) (f + gl) c2]) ∧ g1 ≠ g2 ∧ BestAt w' (w.heap.size + 1) (mapTo f cs gl).1 hs g1 c1 ∧ TimesAt w' (w.heap.size + 1) (mapTo f cs gl).2 g2 c2 ∧ Below w.heap.size w w'
theorem better_t1 {arr x y : List Nat} (h : late arr x < late arr y) : better arr x y = true := by simp [better, h]
theorem better_t2 {arr x y : List Nat} (h : late arr x = late arr y) (h2 : x.length < y.length) : better arr x y = true := by simp [better, h, h2]
theorem better_f1 {arr x y : List Nat} (h : late arr y < late arr x) : better arr x y = false := by
  have h1 : ¬ late arr x < late arr y := by omega
  have h2 : ¬ late arr x = late arr y := by omega
  simp [better, h1, h2]
theorem better_f2 {arr x y : List Nat} (h : late arr x = late arr y) (h2 : ¬ x.length < y.length) : better arr x y = false := by
  simp only [better, h, h2]
  simp
theorem mapTo_step (f : Nat) (cs : List Cs) (k : Nat) : mapTo f cs (k + 1) = ((mapTo f cs k).1 ++ [bestOf (mapTo f cs k).2 (cs.getD (f + k) [])], (mapTo f cs k).2 ++ [1 + late (mapTo f cs k).2 (bestOf (mapTo f cs k).2 (cs.getD (f + k) []))]) := rfl

theorem ListIn.at3' {w : World} {S : Nat → Prop} {A : Option Addr} {xs : Cs} {B : Nat} (h : ListIn w S A xs) (hS : ∀ b, S b → b < B) : ListAt w B A xs := h.kept (fun _ _ => rfl) hS

set_option maxRecDepth 10000 in
set_option maxHeartbeats 2000000 in
theorem l5Best_any (i : Int) (nA gA oA AC : Option Addr) (nc gc oc nl gl ol f nn cc : Nat) (c : Opt.C) (cs : List Cs) (w : World) (hc : CircAt w w.heap.size nA gA oA (Opt.intL c.ns) (Opt.intG c.gs) (Opt.intL c.os)) (hF : Fits i f nl gl ol c) (hx : CutsAt w w.heap.size AC cs) (hn : cs.length = nn) (hnn : nn = f + gl) (hk : ∀ k, k < gl → GateK f k (cs.getD (f + k) [])) :
    Calls Try.prog 166 #[.agg #[.int .i64 i, .slice nA nl nc, .slice gA gl gc, .slice oA ol oc], .slice AC nn cc] w (BestOut w f gl cs) := by
  have h0 := hF.i0
  have h1 := hF.i4
  have h2 := hF.n3
  have h3 := hF.g14
  have hf1 : 1 ≤ f := by have := hF.hf; omega
  have hf8 : f ≤ 8 := by have := hF.hf; omega
  have HF := Lib.hid hF
  have HC := Lib.hid hc
  have HX := Lib.hid hx
  have HN := Lib.hid hn
  have HK := Lib.hid hk
  clear hc hF hx hn hk
  have HB0 := Lib.hid (Boxed.new w i nA gA oA nl nc gl gc ol oc 108)
  have HW0 : Hid (Below w.heap.size w (w.alloc (.cells #[.int .i64 i, .slice nA nl nc, .slice gA gl gc, .slice oA ol oc] 108))) := Lib.hid ((Below.refl _ _).alloc (Nat.le_refl _) _)
  have hsz0 : (w.alloc (.cells #[.int .i64 i, .slice nA nl nc, .slice gA gl gc, .slice oA ol oc] 108)).heap.size = w.heap.size + 1 := by simp
  have HZ0 := Lib.hid hsz0
  clear hsz0
  have hmk1 := fun W => run_make_row' (P := Try.prog) 31 3 (.int .i64 0) 8 Try.underlying31 Try.info3 rfl .i64 .i64 f (by omega) (by omega) W
  have hmk2 := fun W => run_make_row' (P := Try.prog) 151 31 (.slice none 0 0) 24 Try.underlying151 Try.info23 rfl .i64 .i64 f (by omega) (by omega) W
  go_enter Try.func166, Try.ntmps166
  have hB := HB0.out
  have q0 := hB.c0
  have q1 := hB.c1
  have q2 := hB.c2
  have q3 := hB.c3
  clear hB
  go_wp2_with fail
  generalize w.alloc (.cells #[.int .i64 i, .slice nA nl nc, .slice gA gl gc, .slice oA ol oc] 108) = w0 at *
  refine (l1First_any _ _ _ _ _ _ _ _ _ _ _ (by omega) (by omega) (by omega)).mono ?_
  rintro e w2 ⟨rfl, hb2⟩
  rw [HF.out.hf]
  have HL2 := Lib.hid (hb2.mono (B' := w.heap.size + 1) (by rw [HZ0.out]; exact Nat.le_refl _))
  clear hb2 q0 q1 q2 q3
  have hs2 : w.heap.size + 1 ≤ w2.heap.size := by have := HL2.out.size; have := HZ0.out; omega
  have HT3 := Lib.hid (TimesAt.made w2 (w.heap.size + 1) f hs2 (by omega))
  have HL3 : Hid (Below (w.heap.size + 1) w0 (w2.alloc (.cells (madeCells #[.int .i64 0] f) 3))) := Lib.hid (HL2.out.trans ((Below.refl _ _).alloc hs2 _))
  have hs3 : (w2.alloc (.cells (madeCells #[.int .i64 0] f) 3)).heap.size = w2.heap.size + 1 := by simp
  have hB := HB0.out.below HL3.out (by omega)
  have q0 := hB.c0
  have q1 := hB.c1
  have q2 := hB.c2
  have q3 := hB.c3
  clear hB
  have HMK2 := Lib.hid hmk2
  clear hmk2
  go_upto_region 2 with fail
  clear hmk1
  generalize w2.alloc (.cells (madeCells #[.int .i64 0] f) 3) = w3 at *
  generalize w2.heap.size = g2 at *
  go_wp2_with fail
  refine (l1First_any _ _ _ _ _ _ _ _ _ _ _ (by omega) (by omega) (by omega)).mono ?_
  rintro e w4 ⟨rfl, hb4⟩
  rw [HF.out.hf]
  have HL4 := Lib.hid (HL3.out.trans (hb4.mono (B' := w.heap.size + 1) (by omega)))
  have HT4 := Lib.hid (HT3.out.keep (hb4.block g2 (by omega)))
  have hs4 : g2 < w4.heap.size := by have := hb4.size; omega
  clear hb4 q0 q1 q2 q3 HL3 HT3 hs3
  have HM5 := Lib.hid (BestAt.made w4 (w.heap.size + 1) f (by omega) (by omega))
  have HL5 : Hid (Below (w.heap.size + 1) w0 (w4.alloc (.cells (madeCells #[.slice none 0 0] f) 31))) := Lib.hid (HL4.out.trans ((Below.refl _ _).alloc (by omega) _))
  have HT5 : Hid (TimesAt (w4.alloc (.cells (madeCells #[.slice none 0 0] f) 31)) (w.heap.size + 1) (List.replicate f 0) g2 f) := Lib.hid (HT4.out.keep (((Below.refl w4.heap.size w4).alloc (Nat.le_refl _) _).block g2 hs4))
  have hmk2 := HMK2.out
  go_upto_region 3 with fail
  clear hmk2
  generalize w4.alloc (.cells (madeCells #[.slice none 0 0] f) 31) = w5 at *
  generalize w4.heap.size = g1 at *
  clear HL4 HT4 HL2
  go_wp2
  go_loopw [6, 7, 8] (fun tv bv kv wr => ∃ (k g1 c1 g2 c2 : Nat) (hs : List Value), k ≤ gl ∧ kv = .int .i64 k ∧ tv = .slice (some ⟨g2, 0, none⟩) (f + k) c2 ∧ bv = .slice (some ⟨g1, 0, none⟩) (f + k) c1 ∧ g1 ≠ g2 ∧ Hid (BestAt wr (w.heap.size + 1) (mapTo f cs k).1 hs g1 c1) ∧ Hid (TimesAt wr (w.heap.size + 1) (mapTo f cs k).2 g2 c2) ∧ Hid (Below (w.heap.size + 1) w0 wr)) (fun _ _ kv _ => gl - (intOf kv).toNat)
  case atStart => exact ⟨0, g1, f, g2, f, _, Nat.zero_le _, rfl, rfl, rfl, by omega, HM5, HT5, HL5⟩
  case round =>
    clear HM5 HT5 HL5 hs4 hs2
    obtain ⟨k, g1, c1, g2, c2, hs, hkl, rfl, rfl, rfl, hne, HM, HT, HL⟩ := hrel
    have hB := HB0.out.below HL.out (by omega)
    have q0 := hB.c0
    have q1 := hB.c1
    have q2 := hB.c2
    have q3 := hB.c3
    clear hB
    by_cases hlt : k < gl
    · have hgb1 := HM.out.gb
      have hgb2 := HT.out.gb
      go_upto_region 6 with fail
      go_wp2_with fail
      refine (l1First_any _ _ _ _ _ _ _ _ _ _ _ (by omega) (by omega) (by omega)).mono ?_
      rintro e wa ⟨rfl, hba⟩
      rw [HF.out.hf]
      have HLa := Lib.hid (HL.out.trans (hba.mono (B' := w.heap.size + 1) (by omega)))
      have HMa := Lib.hid (HM.out.keep (hba.mono (B' := w.heap.size + 1) (by omega)) (hba.block g1 (by omega)))
      have HTa := Lib.hid (HT.out.keep (hba.block g2 (by omega)))
      have hga1 : g1 < wa.heap.size := by have := hba.size; omega
      have hga2 : g2 < wa.heap.size := by have := hba.size; omega
      clear hba q0 q1 q2 q3 HL HM HT
      obtain ⟨b, off, rfl, hbl, B1, d1, hcA, hbA⟩ := HX.out (f + k) (by rw [HN.out]; omega)
      have HA := Lib.hid (ListIn.at3' (B := w.heap.size) hbA (fun _ h => h))
      have HGK := Lib.hid (HK.out k hlt)
      rw [← (HW0.out.trans (HLa.out.mono (by omega))).cell (p := ⟨b, off + (f + k), none⟩) hbl] at hcA
      clear hbA
      have hlen : (mapTo f cs k).2.length = f + k := (mapTo_len f cs k).2
      have HLEN1 := Lib.hid (mapTo_len f cs k).1
      have hle : ∀ v, (mapTo f cs k).2.getD v 0 ≤ 1000 := fun v => Nat.le_trans (arr_le f cs k v) (by omega)
      have HSTEP := Lib.hid (mapTo_step f cs k)
      generalize hL : cs.getD (f + k) [] = L at *
      clear hL
      obtain ⟨n2, HN2, hn2, hn22⟩ : ∃ n2, Hid (L.length = n2) ∧ n2 ≤ 9 ∧ 2 ≤ n2 := ⟨_, Lib.hid rfl, HGK.out.len, HGK.out.two⟩
      rw [HN2.out] at hcA
      have HLEN := Lib.hid hlen
      have HLE := Lib.hid hle
      clear hlen hle
      generalize hmp : mapTo f cs k = mp at *
      clear hmp
      have i1 : (0 : Int) ≤ (f : Int) + (k : Int) := by omega
      have i3 : ((f : Int) + (k : Int)).toNat = f + k := by omega
      have i4 : IntKind.i64.wrap ((f : Int) + (k : Int)) = (f : Int) + (k : Int) := IntWalk.i64_in _ (by omega)
      go_upto_region 9 with fail
      clear i1 i3 i4 hcA
      go_loopw [10, 11] (fun pv jv wx => ∃ (j : Nat), 1 ≤ j ∧ j + 1 ≤ n2 ∧ jv = .int .i64 j ∧ pv = .int .i64 (pick mp.2 L (j - 1) : Nat) ∧ Hid (BestAt wx (w.heap.size + 1) mp.1 hs g1 c1) ∧ Hid (TimesAt wx (w.heap.size + 1) mp.2 g2 c2) ∧ Hid (Below (w.heap.size + 1) w0 wx)) (fun _ jv _ => n2 - (intOf jv).toNat)
      case atStart => exact ⟨1, by omega, by omega, rfl, rfl, HMa, HTa, HLa⟩
      case round =>
        clear HMa HTa HLa hga1 hga2
        obtain ⟨j, hj1, hjn, rfl, rfl, HMx, HTx, HLx⟩ := hrel
        have hg1 := HMx.out.gb
        have hg2 := HTx.out.gb
        have hpl := pick_le mp.2 L (j - 1)
        have HW := Lib.hid (HW0.out.trans (HLx.out.mono (by omega)))
        by_cases hltj : j + 1 < n2
        · obtain ⟨b2, off2, rfl, hbl2, B2, d2, hcX, hiX⟩ := HA.out j (by rw [HN2.out]; omega)
          obtain ⟨b3, off3, he3, hbl3, B3, d3, hcY, hiY⟩ := HA.out (pick mp.2 L (j - 1)) (by rw [HN2.out]; omega)
          injection he3 with he3
          injection he3 with e1 e2
          subst e1 e2
          have HPS : Hid (pick mp.2 L (j + 1 - 1) = if better mp.2 (L.getD j []) (L.getD (pick mp.2 L (j - 1)) []) = true then j else pick mp.2 L (j - 1)) := Lib.hid (by
            obtain ⟨d, rfl⟩ : ∃ d, j = d + 1 := ⟨j - 1, by omega⟩
            rfl)
          have hlx := HGK.out.fit j (by rw [HN2.out]; omega)
          have hly := HGK.out.fit (pick mp.2 L (j - 1)) (by rw [HN2.out]; omega)
          have HLX := Lib.hid (HGK.out.lt j (by rw [HN2.out]; omega))
          have HLY := Lib.hid (HGK.out.lt (pick mp.2 L (j - 1)) (by rw [HN2.out]; omega))
          rw [← HW.out.cell (p := ⟨b2, off2 + j, none⟩) hbl2] at hcX
          rw [← HW.out.cell (p := ⟨b2, off2 + pick mp.2 L (j - 1), none⟩) hbl3] at hcY
          have HIX := Lib.hid (((IntsIn.at (B := w.heap.size) hiX (fun _ h => h)).below HW.out).mono HW.out.size)
          have HIY := Lib.hid (((IntsIn.at (B := w.heap.size) hiY (fun _ h => h)).below HW.out).mono HW.out.size)
          clear hiX hiY
          generalize hp : pick mp.2 L (j - 1) = p at *
          have HP := Lib.hid hp
          clear hp
          generalize L.getD j [] = x at *
          generalize L.getD p [] = y at *
          obtain ⟨nx, hnx, HNX⟩ : ∃ nx, nx ≤ 3 ∧ Hid (x.length = nx) := ⟨_, hlx, Lib.hid rfl⟩
          obtain ⟨ny, hny, HNY⟩ : ∃ ny, ny ≤ 3 ∧ Hid (y.length = ny) := ⟨_, hly, Lib.hid rfl⟩
          rw [HNX.out] at hcX
          rw [HNY.out] at hcY
          clear hlx hly
          obtain ⟨a, HAV⟩ : ∃ a, Hid (late mp.2 x = a) := ⟨_, Lib.hid rfl⟩
          obtain ⟨q, HQV⟩ : ∃ q, Hid (late mp.2 y = q) := ⟨_, Lib.hid rfl⟩
          have tok0 : True := trivial
          go_upto_region 11 with fail
          go_upto_region 13 with (first
            | (revert tok0; intro tok0; go_at_call 173; refine (l5Arrive_any (some ⟨g2, 0, none⟩) B2 (f + k) nx c2 d2 mp.2 x _ HTx.out.ints HIX.out HLEN.out HNX.out (by omega) HLX.out HLE.out).mono ?_; rintro e w' ⟨rfl, hw⟩; obtain rfl := hw.symm; clear hw; rw [HAV.out]; have tokA : True := trivial; clear tok0)
            | (revert tokA; intro tokA; go_at_call 173; refine (l5Arrive_any (some ⟨g2, 0, none⟩) B3 (f + k) ny c2 d3 mp.2 y _ HTx.out.ints HIY.out HLEN.out HNY.out (by omega) HLY.out HLE.out).mono ?_; rintro e w' ⟨rfl, hw⟩; obtain rfl := hw.symm; clear hw; rw [HQV.out]; clear tokA))
          rcases Nat.lt_trichotomy a q with hab | hab | hab
          · have HB2 : Hid (pick mp.2 L (j + 1 - 1) = j) := Lib.hid (by rw [HPS.out, if_pos (better_t1 (by rw [HAV.out, HQV.out]; exact hab))])
            have f1 : decide ((a : Int) < (q : Int)) = true := by simp; omega
            go_quiet (fail)
            go_wp2
            go_roundw
            case rel => exact ⟨j + 1, by omega, by omega, by go_num, by rw [HB2.out], Lib.hid HMx.out, Lib.hid HTx.out, Lib.hid (below_drewN HLx.out _)⟩
            case measure => simp [intOf]; omega
          · subst hab
            have f1 : decide ((a : Int) < (a : Int)) = false := by simp
            have f2 : ((a : Int) == (a : Int)) = true := by simp
            by_cases hxy : nx < ny
            · have HB2 : Hid (pick mp.2 L (j + 1 - 1) = j) := Lib.hid (by rw [HPS.out, if_pos (better_t2 (by rw [HAV.out, HQV.out]) (by rw [HNX.out, HNY.out]; exact hxy))])
              have f3 : decide ((nx : Int) < (ny : Int)) = true := by simp; omega
              go_quiet (fail)
              go_wp2
              go_roundw
              case rel => exact ⟨j + 1, by omega, by omega, by go_num, by rw [HB2.out], Lib.hid HMx.out, Lib.hid HTx.out, Lib.hid (below_drewN HLx.out _)⟩
              case measure => simp [intOf]; omega
            · have HB2 : Hid (pick mp.2 L (j + 1 - 1) = p) := Lib.hid (by rw [HPS.out, if_neg (by rw [better_f2 (by rw [HAV.out, HQV.out]) (by rw [HNX.out, HNY.out]; exact hxy)]; simp)])
              have f3 : decide ((nx : Int) < (ny : Int)) = false := by simp; omega
              go_quiet (fail)
              go_wp2
              go_roundw
              case rel => exact ⟨j + 1, by omega, by omega, by go_num, by rw [HB2.out], Lib.hid HMx.out, Lib.hid HTx.out, Lib.hid (below_drewN HLx.out _)⟩
              case measure => simp [intOf]; omega
          · have HB2 : Hid (pick mp.2 L (j + 1 - 1) = p) := Lib.hid (by rw [HPS.out, if_neg (by rw [better_f1 (by rw [HAV.out, HQV.out]; exact hab)]; simp)])
            have f1 : decide ((a : Int) < (q : Int)) = false := by simp; omega
            have f2 : ((a : Int) == (q : Int)) = false := by simp; omega
            have f4 : (a == q) = false := by simp; omega
            have f5 : ¬ a = q := by omega
            have f6 : ¬ a < q := by omega
            go_quiet (fail)
            go_wp2
            go_roundw
            case rel => exact ⟨j + 1, by omega, by omega, by go_num, by rw [HB2.out], Lib.hid HMx.out, Lib.hid HTx.out, Lib.hid (below_drewN HLx.out _)⟩
            case measure => simp [intOf]; omega
        · have hjn2 : j + 1 = n2 := by omega
          obtain ⟨b3, off3, rfl, hbl3, B3, d3, hcY, hiY⟩ := HA.out (pick mp.2 L (j - 1)) (by rw [HN2.out]; omega)
          have HBO : Hid (bestOf mp.2 L = L.getD (pick mp.2 L (j - 1)) []) := Lib.hid (by
            unfold bestOf
            rw [HN2.out, show n2 - 2 = j - 1 by omega])
          have hly := HGK.out.fit (pick mp.2 L (j - 1)) (by rw [HN2.out]; omega)
          have HLY := Lib.hid (HGK.out.lt (pick mp.2 L (j - 1)) (by rw [HN2.out]; omega))
          rw [← HW.out.cell (p := ⟨b3, off3 + pick mp.2 L (j - 1), none⟩) hbl3] at hcY
          have HIY := Lib.hid (((IntsIn.at (B := w.heap.size) hiY (fun _ h => h)).below HW.out).mono (B' := w.heap.size + 1) (by omega))
          clear hiY
          have HST2 : Hid (mapTo f cs (k + 1) = (mp.1 ++ [L.getD (pick mp.2 L (j - 1)) []], mp.2 ++ [1 + late mp.2 (L.getD (pick mp.2 L (j - 1)) [])])) := Lib.hid (by rw [HSTEP.out, HBO.out])
          clear HSTEP HBO
          have hpn : pick mp.2 L (j - 1) < n2 := by omega
          generalize pick mp.2 L (j - 1) = p at *
          generalize L.getD p [] = y at *
          obtain ⟨ny, hny, HNY⟩ : ∃ ny, ny ≤ 3 ∧ Hid (y.length = ny) := ⟨_, hly, Lib.hid rfl⟩
          rw [HNY.out] at hcY
          clear hly
          have hul : late mp.2 y ≤ 1000 := late_le (fun l _ => HLE.out l)
          have HU0 : ∃ u, Hid (late mp.2 y = u) ∧ u ≤ 1000 := ⟨_, Lib.hid rfl, hul⟩
          clear hul
          obtain ⟨u, HUV, hul⟩ := HU0
          rw [HUV.out] at HST2
          go_upto_region 15 with fail
          go_wp2_with (at_builtin; refine wpList_pushI rfl (.tmp 75) (.tmp 80) rfl _ (w.heap.size + 1) g1 c1 (f + k) mp.1 hs rfl HLEN1.out HMx.out (by omega) B3 ny d3 y rfl HNY.out HIY.out ?_)
          intro g1' c1' w5 h5 hb5 hk5 hg5
          have HM5 := Lib.hid h5
          have HT5 := Lib.hid (HTx.out.keep (hk5 g2 hg2.2 (fun h => hne h.symm)))
          have HL5 := Lib.hid (HLx.out.trans hb5)
          have HIY5 := Lib.hid ((HIY.out.below hb5).mono (B' := w5.heap.size) (by have := h5.gb; omega))
          have hg15 := h5.gb
          have hcY5 := (hb5.cell (p := ⟨b3, off3 + p, none⟩) (by show b3 < _; omega)).trans hcY
          clear h5 hb5 hk5 hcY HIY HMx HTx HLx HW
          go_upto_region 16 with fail
          go_wp2_with (first
            | (go_at_call 173; refine (l5Arrive_any (some ⟨g2, 0, none⟩) B3 (f + k) ny c2 d3 mp.2 y _ HT5.out.ints HIY5.out HLEN.out HNY.out (by omega) HLY.out HLE.out).mono ?_; rintro e w' ⟨rfl, hw⟩; obtain rfl := hw.symm; clear hw; rw [HUV.out])
            | (at_builtin; refine wpList_pushT rfl (.tmp 82) (.tmp 90) rfl _ (w.heap.size + 1) g2 c2 (f + k) mp.2 rfl HLEN.out HT5.out (by omega) (1 + u) _ (by omega) rfl ?_))
          intro g2' c2' w6 h6 hb6 hk6 hg6
          have HM6 := Lib.hid (HM5.out.keep hb6 (hk6 g1' hg15.2 (by omega)))
          have HT6 := Lib.hid h6
          have HL6 := Lib.hid (HL5.out.trans hb6)
          have hne' : g1' ≠ g2' := by omega
          clear h6 hb6 hk6 HM5 HT5 HL5
          go_wp2
          go_roundw
          case rel => exact ⟨k + 1, g1', c1', g2', c2', _, by omega, by go_num, rfl, rfl, hne', by rw [HST2.out]; exact HM6, by rw [HST2.out]; exact HT6, HL6⟩
          case measure => simp [intOf]; omega
    · obtain rfl : k = gl := by omega
      have HWr := Lib.hid (HW0.out.trans (HL.out.mono (by omega)))
      go_wp2
      go_ret2
      exact ⟨g1, c1, g2, c2, hs, rfl, hne, HM.out, HT.out, HWr.out⟩
end Go.Proofs.Ytkkkkalgfmddbaa
/- The contract of the model's MappedDepth. -/
namespace Go.Proofs.Ytkkkkalgfmddbaa
open Go.RowKit Go.Deep Cut

theorem AllAt.cutsM {w : World} {B g cap : Nat} {cs : List Cs} {HH : List (List Value)} (h : AllAt w B cs HH g cap) : CutsAt w w.heap.size (some ⟨g, 0, none⟩) cs := by
  have hg := h.gb
  obtain ⟨hs, h1, h2⟩ := h
  exact own_cuts h1 h2 (fun b hb => hb.2.1) hg.2
theorem memD {X : Type} {l : List X} {d : X} {j : Nat} (h : j < l.length) : l.getD j d ∈ l := by
  rw [List.getD_eq_getElem?_getD, List.getElem?_eq_getElem h]
  exact List.getElem_mem h
theorem cuts_gateK {f : Nat} {gs : List Opt.G} (hf : 0 < f) (hg : Opt.ordered f gs) (k : Nat) (hk : k < gs.length) : GateK f k ((cuts f gs).getD (f + k) []) := by
  have U := unis_gd hf hg k hk
  have G := cuts_gd hf hg (f + k) (by omega)
  have e : (cuts f gs).getD (f + k) [] = unis f gs k ++ [[f + k]] := cuts_gate f gs k hk hg
  have hp : 0 < (unis f gs k).length := List.length_pos_iff.2 U.ne
  refine ⟨?_, G.len, fun j hj => ?_, fun j hj l hl => ?_⟩
  · rw [e, List.length_append, List.length_singleton]; omega
  · exact G.fit _ (memD hj)
  · rw [e] at hj hl
    have hj' : j < (unis f gs k).length := by simp at hj; omega
    rw [Circ.getD_app_lt _ _ _ _ hj'] at hl
    exact U.lt _ (memD hj') l hl
theorem l5Cuts_v (i : Int) (nA gA oA : Option Addr) (nc gc oc nn : Nat) (ns : List Int) (gs : List (Int × Int)) (os : List Int) (w : World) (hv : Circ.validB i ns gs os = true) (hnn : Opt.fst i ns + gs.length = nn) (hc : CircAt w w.heap.size nA gA oA ns gs os) :
    Calls Try.prog 167 #[.agg #[.int .i64 i, .slice nA ns.length nc, .slice gA gs.length gc, .slice oA os.length oc]] w fun e w' => ∃ (g cap : Nat), e = .returned (.slice (some ⟨g, 0, none⟩) nn cap) ∧ CutsAt w' w'.heap.size (some ⟨g, 0, none⟩) (cuts (Opt.fst i ns) (Opt.natG gs)) ∧ Below w.heap.size w w' := by
  obtain ⟨e1, e2, e3⟩ := natC_ints hv
  refine (l5Cuts_any i nA gA oA nc gc oc ns.length gs.length os.length (Opt.fst i ns) (Opt.natC ns gs os) w (by rw [e1, e2, e3]; exact hc) (natC_fits hv)).mono ?_
  rintro e w' ⟨g, cap, HH, rfl, hA, hb⟩
  refine ⟨g, cap, ?_, hA.cutsM, hb⟩
  rw [show (Opt.natC ns gs os).gs.length = gs.length from Opt.natG_len gs, hnn]
theorem l5Best_v (i : Int) (nA gA oA AC : Option Addr) (nc gc oc nn cc : Nat) (ns : List Int) (gs : List (Int × Int)) (os : List Int) (w : World) (hv : Circ.validB i ns gs os = true) (hnn : Opt.fst i ns + gs.length = nn) (hc : CircAt w w.heap.size nA gA oA ns gs os) (hx : CutsAt w w.heap.size AC (cuts (Opt.fst i ns) (Opt.natG gs))) :
    Calls Try.prog 166 #[.agg #[.int .i64 i, .slice nA ns.length nc, .slice gA gs.length gc, .slice oA os.length oc], .slice AC nn cc] w fun e w' => ∃ (g1 c1 g2 c2 : Nat) (hs : List Value), e = .returned (.tuple #[.slice (some ⟨g1, 0, none⟩) nn c1, .slice (some ⟨g2, 0, none⟩) nn c2]) ∧ g1 ≠ g2 ∧ BestAt w' (w.heap.size + 1) (bests (Opt.fst i ns) (Opt.natG gs)) hs g1 c1 ∧ TimesAt w' (w.heap.size + 1) (times (Opt.fst i ns) (Opt.natG gs)) g2 c2 ∧ Below w.heap.size w w' := by
  obtain ⟨e1, e2, e3⟩ := natC_ints hv
  obtain ⟨h0, h1⟩ := Opt.natC_ok hv
  have hgl : (Opt.natG gs).length = gs.length := Opt.natG_len gs
  refine (l5Best_any i nA gA oA AC nc gc oc ns.length gs.length os.length (Opt.fst i ns) nn cc (Opt.natC ns gs os) (cuts (Opt.fst i ns) (Opt.natG gs)) w (by rw [e1, e2, e3]; exact hc) (natC_fits hv) hx (by rw [cuts_len, hgl, hnn]) hnn.symm (fun k hk => cuts_gateK h0 h1.ord k (by show k < (Opt.natG gs).length; rw [hgl]; exact hk))).mono ?_
  rintro e w' ⟨g1, c1, g2, c2, hs, rfl, hne, hB, hT, hb⟩
  rw [hnn]
  unfold bests times
  rw [hgl]
  exact ⟨g1, c1, g2, c2, hs, rfl, hne, hB, hT, hb⟩
/-- The mapped depth. -/
def mdepthZ (i : Int) (ns : List Int) (gs : List (Int × Int)) (os : List Int) : Int := if Circ.validB i ns gs os = true then Circ.hi (Opt.intL (times (Opt.fst i ns) (Opt.natG gs))) (os ++ ns) else -1
theorem times_len (f : Nat) (gs : List Opt.G) : (times f gs).length = f + gs.length := (mapTo_len _ _ _).2

theorem four_m {w w' : World} {cc : Nat} {a0 a1 a2 a3 : Value} (hb : Below w.heap.size w w')
    (h : w.cell? ⟨cc, 0, none⟩ = some a0 ∧ w.cell? ⟨cc, 1, none⟩ = some a1 ∧ w.cell? ⟨cc, 2, none⟩ = some a2 ∧ w.cell? ⟨cc, 3, none⟩ = some a3) :
    w'.cell? ⟨cc, 0, none⟩ = some a0 ∧ w'.cell? ⟨cc, 1, none⟩ = some a1 ∧ w'.cell? ⟨cc, 2, none⟩ = some a2 ∧ w'.cell? ⟨cc, 3, none⟩ = some a3 := by
  have k : ∀ (a : Addr) (u : Value), w.cell? a = some u → w'.cell? a = some u := fun a u h => (hb.cell (World.block_lt_of_cell? w a h)).trans h
  exact ⟨k _ _ h.1, k _ _ h.2.1, k _ _ h.2.2.1, k _ _ h.2.2.2⟩

theorem ivs_oneM (xs : List Int) : ∀ u ∈ ivs xs, u.oneCell' = true := by
  intro u hu
  simp only [ivs, List.mem_map] at hu
  obtain ⟨n, _, rfl⟩ := hu
  rfl
theorem ints_srcM {w : World} {B : Nat} {A : Option Addr} {xs : List Int} (h : IntsAt w B A xs) : ∀ j u, (ivs xs)[j]? = some u → ∃ ad, A = some ad ∧ w.cell? (ad.add j) = some u := by
  intro j u hu
  have hj : j < xs.length := by have := (List.getElem?_eq_some_iff.1 hu).1; rwa [ivs_len] at this
  obtain ⟨b, off, e, _, hc⟩ := h j hj
  rw [ivs_get hj] at hu
  injection hu with hu
  subst hu
  exact ⟨_, e, by rw [← hc]; unfold Addr.add; split <;> simp_all⟩

end Go.Proofs.Ytkkkkalgfmddbaa
