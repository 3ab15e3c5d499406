/- Memory of routing: a queue that is cut at its head, a list of hops, the wires. -/
import Derived.Test.YtdadokcodklfgaaQX
import Derived.ArgAppend
import Derived.Test.YtdadokcodklfgaaNC
import Derived.Deep.DeepCutAuto
import Derived.BigRegion
import Derived.Test.YtdadokcodklfgaaPM
import Derived.Deep.LoopGhost
import Derived.Laws.Rows
import Derived.Great.BuildSlice
import Derived.Great.Walk
import Derived.Deep.WholeRow
namespace Go.Proofs.Ytdadokcodklfgaa
open Go.RowKit Go.Deep Cut Plc Rt

/-- A row of integers of the call's own, wherever in its block it begins. -/
def QAt (w : World) (B : Nat) (v : Value) (xs : List Nat) : Prop :=
  (v = .slice none 0 0 ∧ xs = []) ∨ ∃ (g off cap : Nat) (cur : Array Value), v = .slice (some ⟨g, off, none⟩) xs.length cap ∧ B ≤ g ∧ Row w g 3 cur ∧ xs.length ≤ cap ∧ off + cap ≤ cur.size ∧ cap ≤ maxLen ∧ ∀ j, j < xs.length → cur[off + j]? = some (.int .i64 (xs.getD j 0 : Nat))
theorem QAt.keep {w w' : World} {B : Nat} {v : Value} {xs : List Nat} (h : QAt w B v xs) (hk : ∀ b, B ≤ b → b < w.heap.size → w'.heap[b]? = w.heap[b]?) : QAt w' B v xs := by
  rcases h with h | ⟨g, off, cap, cur, h1, h2, h3, h4⟩
  · exact .inl h
  · exact .inr ⟨g, off, cap, cur, h1, h2, (hk g h2 h3.lt).trans h3, h4⟩
theorem QAt.slice {w : World} {B : Nat} {v : Value} {xs : List Nat} (h : QAt w B v xs) : ∃ (A : Option Addr) (cap : Nat), v = .slice A xs.length cap := by
  rcases h with ⟨h, e⟩ | ⟨g, off, cap, cur, h1, _⟩
  · subst e; exact ⟨none, 0, h⟩
  · exact ⟨_, _, h1⟩
section
variable {ops : Array Oper} {rest : List Oper} {o : Oper} {a : Act} {Q : Exit → Act → World → Prop}
end

/-- A list of hops of the call's own. -/
def hpI (hs : List Hp) : List (Int × Int) := hs.map fun h => ((h.1 : Int), h.2)
theorem hpI_len (hs : List Hp) : (hpI hs).length = hs.length := by simp [hpI]
theorem hpI_at (hs : List Hp) (k : Nat) : (hpI hs).getD k (0, 0) = (((hs.getD k (0, 0)).1 : Int), (hs.getD k (0, 0)).2) := by
  unfold hpI
  simp only [List.getD_eq_getElem?_getD, List.getElem?_map]
  cases hs[k]? <;> rfl
def HAt (w : World) (B : Nat) (hs : List Hp) (g cap : Nat) : Prop := w.ownsRow B 204 2 (.slice (some ⟨g, 0, none⟩) hs.length cap) hs.length (gvs (hpI hs))
theorem HAt.gb {w : World} {B g cap : Nat} {hs : List Hp} (h : HAt w B hs g cap) : B ≤ g ∧ g < w.heap.size := World.ownsRow.lt h g rfl
theorem HAt.keep {w w' : World} {B g cap : Nat} {hs : List Hp} (h : HAt w B hs g cap) (hg : w'.heap[g]? = w.heap[g]?) : HAt w' B hs g cap := own_keepE h hg
theorem HAt.on {w w' : World} {B g cap : Nat} {hs : List Hp} (h : HAt w B hs g cap) (hb : Below w.heap.size w w') : HAt w' B hs g cap := h.keep (hb.block g h.gb.2)
theorem HAt.read {w : World} {B g cap : Nat} {hs : List Hp} (h : HAt w B hs g cap) : GatesAt w w.heap.size (some ⟨g, 0, none⟩) (hpI hs) := fun k hk => by
  rw [hpI_len] at hk
  have h1 := h.cellAt (k * 2) (by omega)
  have h2 := h.cellAt (k * 2 + 1) (by omega)
  obtain ⟨e1, e2⟩ := gvs_get (hpI hs) k (by rw [hpI_len]; exact hk)
  refine ⟨g, 0, rfl, h.gb.2, ?_, ?_⟩
  · rw [Nat.zero_add, h1]; exact e1
  · rw [Nat.zero_add, h2]; exact e2
theorem HAt.cap {w : World} {B g cap : Nat} {hs : List Hp} (h : HAt w B hs g cap) : hs.length ≤ cap ∧ cap ≤ maxLen := by
  rcases h.2 with ⟨hv, _⟩ | ⟨g', cap', cur, hv, _, _, h3, h4, _⟩
  · cases hv
  · injection hv with _ _ e
    subst e
    exact ⟨h3, h4⟩
section
variable {ops : Array Oper} {rest : List Oper} {o : Oper} {a : Act} {Q : Exit → Act → World → Prop}
end

end Go.Proofs.Ytdadokcodklfgaa
/- The walks of routing's small functions: neighbours, the queue. -/
namespace Go.Proofs.Ytdadokcodklfgaa
open Go.RowKit Go.Deep Cut Plc Rt

theorem TimesAt.made0 (w : World) (B : Nat) (hB : B ≤ w.heap.size) : TimesAt (w.alloc (.cells #[] 3)) B [] w.heap.size 0 := World.ownsRow_lit (base := B) (e := 3) (size := 1) w #[] 0 hB (by simp [maxLen]) (by simp)

set_option maxRecDepth 10000 in
set_option maxHeartbeats 2000000 in
theorem neigh_any (t : Nat) (w : World) (ht : t < 25) :
    Calls Try.prog 158 #[.int .i64 (t : Int)] w fun e w' => ∃ g cap : Nat, e = .returned (.slice (some ⟨g, 0, none⟩) (nbrs t).length cap) ∧ TimesAt w' w.heap.size (nbrs t) g cap ∧ Below w.heap.size w w' := by
  have HT0 := Lib.hid (TimesAt.made0 w w.heap.size (Nat.le_refl _))
  have HX0 : Hid (Below w.heap.size w (w.alloc (.cells #[] 3))) := Lib.hid ((Below.refl _ _).alloc (Nat.le_refl _) _)
  obtain ⟨A1, h1⟩ : ∃ A1, (if 5 ≤ t then [t - 5] else ([] : List Nat)) = A1 := ⟨_, rfl⟩
  obtain ⟨A2, h2⟩ : ∃ A2, A1 ++ (if 0 < t % 5 then [t - 1] else ([] : List Nat)) = A2 := ⟨_, rfl⟩
  obtain ⟨A3, h3⟩ : ∃ A3, A2 ++ (if t % 5 < 4 then [t + 1] else ([] : List Nat)) = A3 := ⟨_, rfl⟩
  obtain ⟨A4, h4⟩ : ∃ A4, A3 ++ (if t < 20 then [t + 5] else ([] : List Nat)) = A4 := ⟨_, rfl⟩
  have HN : Hid (nbrs t = A4) := Lib.hid (by rw [← h4, ← h3, ← h2, ← h1]; rfl)
  have H1 : Hid (([] : List Nat) ++ (if 5 ≤ t then [t - 5] else ([] : List Nat)) = A1) := Lib.hid h1
  have H2 := Lib.hid h2
  have H3 := Lib.hid h3
  have H4 := Lib.hid h4
  clear h1 h2 h3 h4
  rw [HN.out]
  have L0 : Hid (([] : List Nat).length = 0) := Lib.hid rfl
  obtain ⟨r, hr0⟩ : ∃ r, t / 5 = r := ⟨_, rfl⟩
  obtain ⟨c, hc0⟩ : ∃ c, t % 5 = c := ⟨_, rfl⟩
  have d1 : (t : Int) / 5 = (r : Int) := by omega
  have e1 : (t : Int).tdiv 5 = (r : Int) := by rw [Int.tdiv_eq_ediv_of_nonneg (by omega)]; omega
  have d2 : (t : Int) % 5 = (c : Int) := by omega
  have e2 : (t : Int).tmod 5 = (c : Int) := by rw [Int.tmod_eq_emod_of_nonneg (by omega)]; omega
  have HR0 := Lib.hid hr0
  have HC0 := Lib.hid hc0
  clear hr0 hc0
  go_enter Try.func158, Try.ntmps158
  go_upto_if 12 with fail
  generalize hq0 : w.alloc (.cells #[] 3) = w0 at *
  clear hq0
  obtain ⟨g0, hg0⟩ : ∃ g0, w.heap.size = g0 := ⟨_, rfl⟩
  have HG0 := Lib.hid hg0
  rw [hg0] at HT0
  have HT0 : Hid (TimesAt w0 w.heap.size [] g0 0) := Lib.hid (by rw [hg0]; exact HT0.out)
  rw [hg0]
  clear hg0
  go_cut [5] (fun sv wx => ∃ (wz : World) (g cap n : Nat), wz = wx ∧ sv = .slice (some ⟨g, 0, none⟩) n cap ∧ n ≤ 1 ∧ Hid (A1.length = n) ∧ Hid (TimesAt wx w.heap.size A1 g cap) ∧ Hid (Below w.heap.size w wx))
  case first =>
    by_cases hc : 5 ≤ t
    · have HE : Hid ([] ++ [t - 5] = A1) := Lib.hid (by rw [← H1.out, if_pos hc])
      have hv : (t : Int) - 5 = ((t - 5 : Nat) : Int) := by omega
      have HV := Lib.hid hv
      have hr : (0 : Int) < (r : Int) := by have := HR0.out; omega
      clear hv
      go_wp2_with (at_builtin; refine wpList_pushT rfl (.tmp 13) (.tmp 16) rfl _ w.heap.size g0 0 0 [] rfl L0.out HT0.out (by omega) (t - 5) _ HV.out rfl ?_)
      intro g' cap' w7 hT7 hb7 _ _
      replace hT7 : TimesAt w7 w.heap.size A1 g' cap' := by
        rw [← HE.out]
        exact hT7
      go_wp2_with fail
      go_meet
      exact ⟨w7, g', cap', 0 + 1, rfl, rfl, by omega, Lib.hid (by rw [← HE.out, List.length_append, L0.out]; rfl), Lib.hid hT7, Lib.hid (HX0.out.trans hb7)⟩
    · have HE : Hid ([] = A1) := Lib.hid (by rw [← H1.out, if_neg hc, List.append_nil])
      have hr : ¬ (0 : Int) < (r : Int) := by have := HR0.out; omega
      go_wp2_with fail
      go_meet
      exact ⟨w0, g0, 0, 0, rfl, rfl, by omega, Lib.hid (by rw [← HE.out, L0.out]), Lib.hid (by rw [← HE.out]; exact HT0.out), HX0⟩
  case rest =>
    obtain ⟨w1, g1, c1, n1, hw1, rfl, hn1, L1, HT1, HX1⟩ := hcut
    obtain rfl := hw1
    clear HT0 L0 HX0 H1
    go_upto_if 19 with fail
    go_cut [5] (fun sv wx => ∃ (wz : World) (g cap n : Nat), wz = wx ∧ sv = .slice (some ⟨g, 0, none⟩) n cap ∧ n ≤ 2 ∧ Hid (A2.length = n) ∧ Hid (TimesAt wx w.heap.size A2 g cap) ∧ Hid (Below w.heap.size w wx))
    case first =>
      by_cases hc : 0 < t % 5
      · have HE : Hid (A1 ++ [t - 1] = A2) := Lib.hid (by rw [← H2.out, if_pos hc])
        have hv : (t : Int) - 1 = ((t - 1 : Nat) : Int) := by omega
        have HV := Lib.hid hv
        have hr : (0 : Int) < (c : Int) := by have := HC0.out; omega
        clear hv
        go_wp2_with (at_builtin; refine wpList_pushT rfl (.tmp 20) (.tmp 23) rfl _ w.heap.size g1 c1 n1 A1 rfl L1.out HT1.out (by omega) (t - 1) _ HV.out rfl ?_)
        intro g' cap' w7 hT7 hb7 _ _
        replace hT7 : TimesAt w7 w.heap.size A2 g' cap' := by
          rw [← HE.out]
          exact hT7
        go_wp2_with fail
        go_meet
        exact ⟨w7, g', cap', n1 + 1, rfl, rfl, by omega, Lib.hid (by rw [← HE.out, List.length_append, L1.out]; rfl), Lib.hid hT7, Lib.hid (HX1.out.trans hb7)⟩
      · have HE : Hid (A1 = A2) := Lib.hid (by rw [← H2.out, if_neg hc, List.append_nil])
        have hr : ¬ (0 : Int) < (c : Int) := by have := HC0.out; omega
        go_wp2_with fail
        go_meet
        exact ⟨w1, g1, c1, n1, rfl, rfl, by omega, Lib.hid (by rw [← HE.out, L1.out]), Lib.hid (by rw [← HE.out]; exact HT1.out), HX1⟩
    case rest =>
      obtain ⟨w2, g2, c2, n2, hw2, rfl, hn2, L2, HT2, HX2⟩ := hcut
      obtain rfl := hw2
      clear HT1 L1 HX1 H2
      go_upto_if 26 with fail
      go_cut [5] (fun sv wx => ∃ (wz : World) (g cap n : Nat), wz = wx ∧ sv = .slice (some ⟨g, 0, none⟩) n cap ∧ n ≤ 3 ∧ Hid (A3.length = n) ∧ Hid (TimesAt wx w.heap.size A3 g cap) ∧ Hid (Below w.heap.size w wx))
      case first =>
        by_cases hc : t % 5 < 4
        · have HE : Hid (A2 ++ [t + 1] = A3) := Lib.hid (by rw [← H3.out, if_pos hc])
          have hv : (t : Int) + 1 = ((t + 1 : Nat) : Int) := by omega
          have HV := Lib.hid hv
          have hr : (c : Int) < 4 := by have := HC0.out; omega
          clear hv
          go_wp2_with (at_builtin; refine wpList_pushT rfl (.tmp 27) (.tmp 30) rfl _ w.heap.size g2 c2 n2 A2 rfl L2.out HT2.out (by omega) (t + 1) _ HV.out rfl ?_)
          intro g' cap' w7 hT7 hb7 _ _
          replace hT7 : TimesAt w7 w.heap.size A3 g' cap' := by
            rw [← HE.out]
            exact hT7
          go_wp2_with fail
          go_meet
          exact ⟨w7, g', cap', n2 + 1, rfl, rfl, by omega, Lib.hid (by rw [← HE.out, List.length_append, L2.out]; rfl), Lib.hid hT7, Lib.hid (HX2.out.trans hb7)⟩
        · have HE : Hid (A2 = A3) := Lib.hid (by rw [← H3.out, if_neg hc, List.append_nil])
          have hr : ¬ (c : Int) < 4 := by have := HC0.out; omega
          go_wp2_with fail
          go_meet
          exact ⟨w2, g2, c2, n2, rfl, rfl, by omega, Lib.hid (by rw [← HE.out, L2.out]), Lib.hid (by rw [← HE.out]; exact HT2.out), HX2⟩
      case rest =>
        obtain ⟨w3, g3, c3, n3, hw3, rfl, hn3, L3, HT3, HX3⟩ := hcut
        obtain rfl := hw3
        clear HT2 L2 HX2 H3
        go_upto_if 33 with fail
        go_cut [5] (fun sv wx => ∃ (wz : World) (g cap n : Nat), wz = wx ∧ sv = .slice (some ⟨g, 0, none⟩) n cap ∧ n ≤ 4 ∧ Hid (A4.length = n) ∧ Hid (TimesAt wx w.heap.size A4 g cap) ∧ Hid (Below w.heap.size w wx))
        case first =>
          by_cases hc : t < 20
          · have HE : Hid (A3 ++ [t + 5] = A4) := Lib.hid (by rw [← H4.out, if_pos hc])
            have hv : (t : Int) + 5 = ((t + 5 : Nat) : Int) := by omega
            have HV := Lib.hid hv
            have hr : (r : Int) < 4 := by have := HR0.out; omega
            clear hv
            go_wp2_with (at_builtin; refine wpList_pushT rfl (.tmp 34) (.tmp 37) rfl _ w.heap.size g3 c3 n3 A3 rfl L3.out HT3.out (by omega) (t + 5) _ HV.out rfl ?_)
            intro g' cap' w7 hT7 hb7 _ _
            replace hT7 : TimesAt w7 w.heap.size A4 g' cap' := by
              rw [← HE.out]
              exact hT7
            go_wp2_with fail
            go_meet
            exact ⟨w7, g', cap', n3 + 1, rfl, rfl, by omega, Lib.hid (by rw [← HE.out, List.length_append, L3.out]; rfl), Lib.hid hT7, Lib.hid (HX3.out.trans hb7)⟩
          · have HE : Hid (A3 = A4) := Lib.hid (by rw [← H4.out, if_neg hc, List.append_nil])
            have hr : ¬ (r : Int) < 4 := by have := HR0.out; omega
            go_wp2_with fail
            go_meet
            exact ⟨w3, g3, c3, n3, rfl, rfl, by omega, Lib.hid (by rw [← HE.out, L3.out]), Lib.hid (by rw [← HE.out]; exact HT3.out), HX3⟩
        case rest =>
          obtain ⟨w4, g4, c4, n4, hw4, rfl, hn4, L4, HT4, HX4⟩ := hcut
          obtain rfl := hw4
          clear HT3 L3 HX3 H4
          go_wp2
          go_ret
          exact ⟨g4, c4, ret_slice L4.out.symm, HT4.out, HX4.out⟩

end Go.Proofs.Ytdadokcodklfgaa
/- The walks of routing: a list of hops turned round; the way back. -/
namespace Rt
end Rt
namespace Go.Proofs.Ytdadokcodklfgaa
open Go.RowKit Go.Deep Cut Plc Rt

theorem gvs_set (l : List (Int × Int)) : ∀ (k : Nat) (a b : Int), gvs (l.set k (a, b)) = ((gvs l).set (k * 2) (.int .i64 a)).set (k * 2 + 1) (.int .i64 b) := by
  induction l with
  | nil => intro k a b; rfl
  | cons x r ih =>
    intro k a b
    cases k with
    | zero => rfl
    | succ k =>
      have e : (k + 1) * 2 = k * 2 + 1 + 1 := by omega
      rw [e]
      show Value.int .i64 x.1 :: Value.int .i64 x.2 :: gvs (r.set k (a, b)) = _
      rw [ih k a b]
      rfl
theorem hpI_set (l : List Hp) (k t : Nat) (u : Int) : hpI (l.set k (t, u)) = (hpI l).set k ((t : Int), u) := by
  unfold hpI
  rw [List.map_set]
/-- A hop written over. -/
theorem HAt.put {w : World} {B g cap : Nat} {hs : List Hp} (h : HAt w B hs g cap) (k t : Nat) (u : Int) : HAt ((w.setCell ⟨g, k * 2, none⟩ (.int .i64 (t : Int))).setCell ⟨g, k * 2 + 1, none⟩ (.int .i64 u)) B (hs.set k (t, u)) g cap := by
  unfold HAt
  rw [hpI_set, gvs_set, List.length_set]
  exact (World.ownsRow.stored ((World.ownsRow.stored h (k * 2) (.int .i64 (t : Int))).1) (k * 2 + 1) (.int .i64 u)).1
theorem HAt.cells {w : World} {B g cap : Nat} {hs : List Hp} (h : HAt w B hs g cap) {k : Nat} (hk : k < hs.length) : w.cell? ⟨g, k * 2, none⟩ = some (.int .i64 ((hs.getD k (0, 0)).1 : Nat)) ∧ w.cell? ⟨g, k * 2 + 1, none⟩ = some (.int .i64 (hs.getD k (0, 0)).2) ∧ w.frozen? ⟨g, k * 2, none⟩ = false ∧ w.frozen? ⟨g, k * 2 + 1, none⟩ = false := by
  obtain ⟨b, off, e, _, h1, h2⟩ := h.read k (by rw [hpI_len]; exact hk)
  injection e with e
  injection e with e1 e2
  subst e1 e2
  rw [Nat.zero_add, hpI_at] at h1
  rw [Nat.zero_add, hpI_at] at h2
  exact ⟨h1, h2, World.ownsRow.frozenAt h _, World.ownsRow.frozenAt h _⟩

/-- The cells of an array of 25 integers. -/
def arr (fr : List Int) : Array Value := (ivs (frP fr)).toArray
theorem HAt.made (w : World) (B : Nat) (hB : B ≤ w.heap.size) : HAt (w.alloc (.cells #[] 204)) B [] w.heap.size 0 := World.ownsRow_lit (base := B) (e := 204) (size := 2) w #[] 0 hB (by simp [maxLen]) (by simp)

end Go.Proofs.Ytdadokcodklfgaa
/- The walks of routing: the search. -/
namespace Go.Proofs.Ytdadokcodklfgaa
open Go.RowKit Go.Deep Cut Plc Rt

end Go.Proofs.Ytdadokcodklfgaa
