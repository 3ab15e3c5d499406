/- The contracts of comparison and marks of a list. -/
import Derived.Test.YthcpgbfghededaaC4
import Derived.Test.YthcpgbfghededaaW6
import Derived.Test.YthcpgbfghededaaB1a
import Derived.Test.YthcpgbfghededaaEL
import Derived.Test.YthcpgbfghededaaCC
namespace Go.Proofs.Ythcpgbfghededaa
open Go.RowKit Go.Deep Cut

theorem eqI_n (A A' : Option Addr) (n cap cap' : Nat) (xs : List Nat) (w : World) (hx : IntsAt w w.heap.size A (Opt.intL xs)) (hy : IntsAt w w.heap.size A' (Opt.intL xs)) (hn : xs.length = n) (hl : n ≤ 2000000) :
    Calls Try.prog 43 #[.slice A n cap, .slice A' n cap'] w fun e w' => e = .returned (.bool true) ∧ Below w.heap.size w w' := by
  have h : (Opt.intL xs).length = n := by rw [Opt.intL_len]; exact hn
  subst h
  exact eqIntS_any A A' cap cap' (Opt.intL xs) w hx hy hl
/-- The first n cells bear marks from k on. -/
def MarksC (cs : Array Value) (k n : Nat) : Prop := ∀ t, t < n → cs[t]? = some (.int .i64 ((k + t : Nat) : Int))
set_option maxHeartbeats 400000 in
theorem markLeaf_any (g n cap k : Nat) (cs : Array Value) (w : World) (hr : Row w g 3 cs) (hs : n ≤ cs.size) (hn : n ≤ 2000000) (hk : k ≤ 1000000000) :
    Calls Try.prog 44 #[.slice (some ⟨g, 0, none⟩) n cap, .int .i64 k] w fun e w' => e = .returned (.int .i64 ((k + n : Nat) : Int)) ∧ (∃ cs', Row w' g 3 cs' ∧ cs'.size = cs.size ∧ MarksC cs' k n) ∧ Only (some g) w w' := by
  have HR0 := Lib.hid hr
  clear hr
  generalize hcz : cs.size = z at *
  have HCZ := Lib.hid hcz
  clear hcz
  go_enter Try.func44, Try.ntmps44
  go_wp2
  go_loopw [1, 5] (fun kv iv wr => ∃ (i : Nat) (cs : Array Value), i ≤ n ∧ iv = .int .i64 i ∧ kv = .int .i64 ((k : Int) + i) ∧ Hid (Row wr g 3 cs) ∧ Hid (cs.size = z) ∧ Hid (MarksC cs k i) ∧ Hid (Only (some g) w wr)) (fun _ iv _ => n - (intOf iv).toNat)
  case atStart => exact ⟨0, cs, Nat.zero_le _, rfl, by simp, HR0, HCZ, Lib.hid (fun t ht => absurd ht (by omega)), Lib.hid (Only.refl _ _)⟩
  case round =>
    clear HR0 HCZ cs
    obtain ⟨i, cs, hi, rfl, rfl, HRow, HZ, HF, HO⟩ := hrel
    by_cases hlt : i < n
    · have hsz : i < cs.size := by rw [HZ.out]; omega
      have HF2 : Hid (MarksC (cs.setIfInBounds i (.int .i64 ((k : Int) + i))) k (i + 1)) := Lib.hid (fun t ht => by
        by_cases e : i = t
        · subst e; simp [hsz]
        · rw [Array.getElem?_setIfInBounds_ne e]; exact HF.out t (by omega))
      have HZ2 : Hid ((cs.setIfInBounds i (.int .i64 ((k : Int) + i))).size = z) := Lib.hid (by simpa using HZ.out)
      have hc0 : wr.cell? ⟨g, i, none⟩ = some cs[i] := by rw [HRow.out.cell, Array.getElem?_eq_getElem hsz]
      have hf0 := HRow.out.frozen i
      have HO2 := Lib.hid (HO.out.set i (.int .i64 ((k : Int) + i)))
      have HR2 := Lib.hid (HRow.out.set i (.int .i64 ((k : Int) + i)))
      generalize cs[i] = old at *
      go_wp2
      go_roundw
      case rel => exact ⟨i + 1, _, by omega, by go_num, by go_num, HR2, HZ2, HF2, HO2⟩
      case measure => simp [intOf]; omega
    · obtain rfl : i = n := by omega
      go_wp2
      go_ret
      exact ⟨rfl, ⟨_, HRow.out, HZ.out, HF.out⟩, HO.out⟩
set_option maxHeartbeats 400000 in
theorem heldLeaf_any (g n cap k : Nat) (cs : Array Value) (w : World) (hr : Row w g 3 cs) (hm : MarksC cs k n) (hn : n ≤ 2000000) (hk : k ≤ 1000000000) :
    Calls Try.prog 45 #[.slice (some ⟨g, 0, none⟩) n cap, .int .i64 k] w fun e w' => e = .returned (.int .i64 ((k + n : Nat) : Int)) ∧ w = w' := by
  have HR0 := Lib.hid hr
  have HM := Lib.hid hm
  clear hr hm
  go_enter Try.func45, Try.ntmps45
  go_wp2
  go_loop [1, 5] (fun kv iv => ∃ (i : Nat), i ≤ n ∧ iv = .int .i64 i ∧ kv = .int .i64 ((k : Int) + i)) (fun _ iv => n - (intOf iv).toNat)
  case atStart => exact ⟨0, Nat.zero_le _, rfl, by simp⟩
  case round =>
    obtain ⟨i, hi, rfl, rfl⟩ := hrel
    by_cases hlt : i < n
    · have hc : w.cell? ⟨g, i, none⟩ = some (.int .i64 ((k : Int) + i)) := by rw [HR0.out.cell, HM.out i hlt]; simp
      go_wp2
      go_round
      case rel => exact ⟨i + 1, by omega, by go_num, by go_num⟩
      case measure => simp [intOf]; omega
    · obtain rfl : i = n := by omega
      go_wp2
      go_ret
      exact ⟨rfl, rfl⟩
set_option maxHeartbeats 400000 in
theorem markNone_any (A : Option Addr) (cap k : Nat) (w : World) : Calls Try.prog 44 #[.slice A 0 cap, .int .i64 k] w fun e w' => e = .returned (.int .i64 ((k + 0 : Nat) : Int)) ∧ w = w' := by
  go_enter Try.func44, Try.ntmps44
  go_wp2
  go_loop [1, 5] (fun kv iv => kv = .int .i64 k ∧ iv = .int .i64 0) (fun _ iv => 0)
  case atStart => exact ⟨rfl, rfl⟩
  case round =>
    obtain ⟨rfl, rfl⟩ := hrel
    go_wp2
    go_ret
    exact ⟨rfl, rfl⟩
set_option maxHeartbeats 400000 in
theorem heldNone_any (A : Option Addr) (cap k : Nat) (w : World) : Calls Try.prog 45 #[.slice A 0 cap, .int .i64 k] w fun e w' => e = .returned (.int .i64 ((k + 0 : Nat) : Int)) ∧ w = w' := by
  go_enter Try.func45, Try.ntmps45
  go_wp2
  go_loop [1, 5] (fun kv iv => kv = .int .i64 k ∧ iv = .int .i64 0) (fun _ iv => 0)
  case atStart => exact ⟨rfl, rfl⟩
  case round =>
    obtain ⟨rfl, rfl⟩ := hrel
    go_wp2
    go_ret
    exact ⟨rfl, rfl⟩
end Go.Proofs.Ythcpgbfghededaa
/- The contracts of comparing lookup tables. -/
namespace Go.Proofs.Ythcpgbfghededaa
open Go.RowKit Go.Deep Cut

set_option maxHeartbeats 800000 in
theorem eqLut_any (A A' : Option Addr) (m c c' v : Nat) (y : List Nat) (t : Nat) (w : World) (hx : IntsAt w w.heap.size A (Opt.intL y)) (hy : IntsAt w w.heap.size A' (Opt.intL y)) (hm : y.length = m) (hl : m ≤ 1000) (_hv : v ≤ 1000000) (_ht : t ≤ 1000000) :
    Calls Try.prog 74 #[.agg #[.int .i64 v, .slice A m c, .int .i64 t], .agg #[.int .i64 v, .slice A' m c', .int .i64 t]] w fun e w' => e = .returned (.bool true) ∧ Below w.heap.size w w' := by
  have HX := Lib.hid hx
  have HY := Lib.hid hy
  have HM := Lib.hid hm
  have HW0 : Hid (Below w.heap.size w ((w.alloc (.cells #[.int .i64 v, .slice A m c, .int .i64 t] 31)).alloc (.cells #[.int .i64 v, .slice A' m c', .int .i64 t] 31))) := Lib.hid (((Below.refl _ _).alloc (Nat.le_refl _) _).alloc (by simp) _)
  have hr0 : Row ((w.alloc (.cells #[.int .i64 v, .slice A m c, .int .i64 t] 31)).alloc (.cells #[.int .i64 v, .slice A' m c', .int .i64 t] 31)) w.heap.size 31 #[.int .i64 v, .slice A m c, .int .i64 t] := (Below.heap_alloc _ _ _ (by simp)).trans (heap_alloc_new w _)
  have hr1 : Row ((w.alloc (.cells #[.int .i64 v, .slice A m c, .int .i64 t] 31)).alloc (.cells #[.int .i64 v, .slice A' m c', .int .i64 t] 31)) (w.heap.size + 1) 31 #[.int .i64 v, .slice A' m c', .int .i64 t] := by
    have h := heap_alloc_new (w.alloc (.cells #[.int .i64 v, .slice A m c, .int .i64 t] 31)) (.cells #[.int .i64 v, .slice A' m c', .int .i64 t] 31)
    rwa [show (w.alloc (.cells #[.int .i64 v, .slice A m c, .int .i64 t] 31)).heap.size = w.heap.size + 1 by simp] at h
  have HR0 := Lib.hid hr0
  have HR1 := Lib.hid hr1
  clear hx hy hm hr0 hr1
  go_enter Try.func74, Try.ntmps74
  go_wp2_with fail
  generalize (w.alloc (.cells #[.int .i64 v, .slice A m c, .int .i64 t] 31)).alloc (.cells #[.int .i64 v, .slice A' m c', .int .i64 t] 31) = w0 at *
  refine (eqI_n A A' m c c' y _ ((HX.out.below HW0.out).mono HW0.out.size) ((HY.out.below HW0.out).mono HW0.out.size) HM.out (by omega)).mono ?_
  rintro e w1 ⟨rfl, hb1⟩
  have HR01 := Lib.hid (HR0.out.below hb1 HR0.out.lt)
  have HR11 := Lib.hid (HR1.out.below hb1 HR1.out.lt)
  have HL1 := Lib.hid (HW0.out.trans (hb1.mono HW0.out.size))
  clear hb1 HR0 HR1
  have a2 := HR01.out.cell 2
  have b2 := HR11.out.cell 2
  simp at a2 b2
  go_wp2
  go_ret
  exact ⟨rfl, HL1.out⟩
theorem Lukeep {w w' : World} {B b b' o o' : Nat} {x0 x1 x2 x3 x4 x5 : Value} (h : Below B w w') (h1 : b < B) (h2 : b' < B) (s : w.cell? ⟨b, o, none⟩ = some x0 ∧ w.cell? ⟨b, o + 1, none⟩ = some x1 ∧ w.cell? ⟨b, o + 2, none⟩ = some x2 ∧ w.cell? ⟨b', o', none⟩ = some x3 ∧ w.cell? ⟨b', o' + 1, none⟩ = some x4 ∧ w.cell? ⟨b', o' + 2, none⟩ = some x5) :
    w'.cell? ⟨b, o, none⟩ = some x0 ∧ w'.cell? ⟨b, o + 1, none⟩ = some x1 ∧ w'.cell? ⟨b, o + 2, none⟩ = some x2 ∧ w'.cell? ⟨b', o', none⟩ = some x3 ∧ w'.cell? ⟨b', o' + 1, none⟩ = some x4 ∧ w'.cell? ⟨b', o' + 2, none⟩ = some x5 :=
  ⟨(h.cell (by exact h1)).trans s.1, (h.cell (by exact h1)).trans s.2.1, (h.cell (by exact h1)).trans s.2.2.1, (h.cell (by exact h2)).trans s.2.2.2.1, (h.cell (by exact h2)).trans s.2.2.2.2.1, (h.cell (by exact h2)).trans s.2.2.2.2.2⟩
set_option maxHeartbeats 800000 in
theorem eqLutS_any (A A' : Option Addr) (n cap cap' : Nat) (es : List Lt) (w : World) (hx : LuIn w w.heap.size A es) (hy : LuIn w w.heap.size A' es) (hn : es.length = n) (hl : n ≤ 1000) (hr : ∀ k, k < n → (es.getD k (0, [], 0)).1 ≤ 1000 ∧ (es.getD k (0, [], 0)).2.1.length ≤ 1000 ∧ (es.getD k (0, [], 0)).2.2 ≤ 1000) :
    Calls Try.prog 35 #[.slice A n cap, .slice A' n cap'] w fun e w' => e = .returned (.bool true) ∧ Below w.heap.size w w' := by
  have HX := Lib.hid hx
  have HY := Lib.hid hy
  have HN := Lib.hid hn
  have HT := Lib.hid hr
  clear hx hy hn hr
  go_enter Try.func35, Try.ntmps35
  go_wp2
  go_loopw [5] (fun iv wr => ∃ (k : Nat), k ≤ n ∧ iv = .int .i64 k ∧ Below w.heap.size w wr) (fun iv _ => n - (intOf iv).toNat)
  case atStart => exact ⟨0, Nat.zero_le _, rfl, Below.refl _ _⟩
  case round =>
    obtain ⟨k, hk, rfl, hbr⟩ := hrel
    by_cases hlt : k < n
    · obtain ⟨b, off, rfl, hbl, B1, c1, p0, p1, p2, hbA⟩ := HX.out k (by rw [HN.out]; exact hlt)
      obtain ⟨b', off', rfl, hbl', B2, c2, r0, r1, r2, hbB⟩ := HY.out k (by rw [HN.out]; exact hlt)
      obtain ⟨t1, t2, t3⟩ := HT.out k hlt
      have HBA := Lib.hid ((hbA.below hbr).mono hbr.size)
      have HBB := Lib.hid ((hbB.below hbr).mono hbr.size)
      have hz := hbr.size
      have HS := Lib.hid (Lukeep hbr hbl hbl' ⟨p0, p1, p2, r0, r1, r2⟩)
      have hblr : b < wr.heap.size := by omega
      have hblr' : b' < wr.heap.size := by omega
      clear hbA hbB p0 p1 p2 r0 r1 r2
      generalize (es.getD k (0, [], 0)).2.2 = t at *
      generalize (es.getD k (0, [], 0)).2.1 = y at *
      generalize (es.getD k (0, [], 0)).1 = v at *
      obtain ⟨m, hm⟩ : ∃ m, y.length = m := ⟨_, rfl⟩
      rw [hm] at HS t2
      have HM := Lib.hid hm
      clear hm
      obtain ⟨g0, g1, g2, g3, g4, g5⟩ := HS.out
      have hk0 : (0 : Int) ≤ (k : Int) := Int.natCast_nonneg _
      have hk1 : (k : Int) < (n : Int) := by omega
      go_wp2
      go_region_held3 (fun w' => w'.cell? ⟨b, off + k * 3, none⟩ = some (.int .i64 (v : Nat)) ∧ w'.cell? ⟨b, off + k * 3 + 1, none⟩ = some (.slice B1 m c1) ∧ w'.cell? ⟨b, off + k * 3 + 2, none⟩ = some (.int .i64 t) ∧ w'.cell? ⟨b', off' + k * 3, none⟩ = some (.int .i64 (v : Nat)) ∧ w'.cell? ⟨b', off' + k * 3 + 1, none⟩ = some (.slice B2 m c2) ∧ w'.cell? ⟨b', off' + k * 3 + 2, none⟩ = some (.int .i64 t))
        (first | (with_reducible assumption) | go_keep)
        (first | (go_at_call 74; refine (eqLut_any B1 B2 m c1 c2 v y t _ ?_ ?_ HM.out (by omega) (by omega) (by omega)).mono ?_; (exact HBA.out.below (Below.refl _ wr).drew); (exact HBB.out.below (Below.refl _ wr).drew); rintro e w3 ⟨rfl, hb3⟩; have hS3 := Lukeep hb3 hblr hblr' HS.out))
      rename_i _hheld
      clear _hheld hS3 g0 g1 g2 g3 g4 g5
      go_wp2
      go_roundw
      case rel => exact ⟨k + 1, by omega, by go_num, hbr.drew.trans (hb3.mono hbr.size)⟩
      case measure => simp [intOf]; omega
    · go_wp2
      go_ret
      exact ⟨rfl, hbr⟩
end Go.Proofs.Ythcpgbfghededaa
/- Marks on the leaves of a list of structs; no function of the laws. -/
namespace Go.Proofs.Ythcpgbfghededaa
open Go.RowKit Go.Deep Cut

def ofT (T : Nat) (ls : List Nat) : Nat → Nat
  | 0 => 0
  | j + 1 => ofT T ls j + (ls.getD j 0 + T)
theorem ofT_mono (T : Nat) (ls : List Nat) {j l : Nat} (h : j ≤ l) : ofT T ls j ≤ ofT T ls l := by
  induction l with
  | zero => obtain rfl : j = 0 := by omega
            exact Nat.le_refl _
  | succ l ih =>
    by_cases e : j = l + 1
    · subst e; exact Nat.le_refl _
    · have := ih (by omega)
      simp only [ofT]
      omega
/-- Leaves in blocks of their own from B on, the first m of them marked. -/
structure HT (w : World) (B T : Nat) (hs : List Value) (ls : List Nat) (m K : Nat) : Prop where
  len : hs.length = ls.length
  lf : ∀ j, j < ls.length → ∃ (A : Option Addr) (cap : Nat), hs[j]? = some (.slice A (ls.getD j 0) cap) ∧ (ls.getD j 0 = 0 ∨ ∃ (b : Nat) (cs : Array Value), A = some ⟨b, 0, none⟩ ∧ B ≤ b ∧ Row w b 3 cs ∧ ls.getD j 0 ≤ cs.size ∧ (j < m → MarksC cs (K + ofT T ls j + 1) (ls.getD j 0)))
theorem HT.on {w w' : World} {B T m K : Nat} {hs : List Value} {ls : List Nat} (h : HT w B T hs ls m K) (hb : Below w.heap.size w w') : HT w' B T hs ls m K := ⟨h.len, fun j hj => by
  obtain ⟨A, cap, e, h1⟩ := h.lf j hj
  refine ⟨A, cap, e, ?_⟩
  rcases h1 with h1 | ⟨b, cs, e1, h2, h3, h4, h5⟩
  · exact .inl h1
  · exact .inr ⟨b, cs, e1, h2, h3.below hb h3.lt, h4, h5⟩⟩
theorem HT.set {w : World} {B T m K g : Nat} {t : TypeId} {cg : Array Value} {hs : List Value} {ls : List Nat} (h : HT w B T hs ls m K) (hg : Row w g t cg) (ht : t ≠ 3) (i : Nat) (u : Value) : HT (w.setCell ⟨g, i, none⟩ u) B T hs ls m K := ⟨h.len, fun j hj => by
  obtain ⟨A, cap, e, h1⟩ := h.lf j hj
  refine ⟨A, cap, e, ?_⟩
  rcases h1 with h1 | ⟨b, cs, e1, h2, h3, h4, h5⟩
  · exact .inl h1
  · exact .inr ⟨b, cs, e1, h2, h3.far (p := ⟨g, i, none⟩) (h3.ne hg (fun e => ht e.symm)) u, h4, h5⟩⟩
/-- One more slice is marked. -/
theorem HT.mark {w w' : World} {B T m K b : Nat} {hs : List Value} {ls : List Nat} {cs' : Array Value} {cap : Nat} (h : HT w B T hs ls m K) (hd : DistH hs) (hm : m < ls.length) (he : hs[m]? = some (.slice (some ⟨b, 0, none⟩) (ls.getD m 0) cap)) (hpos : 0 < ls.getD m 0)
    (ho : Only (some b) w w') (hB : B ≤ b) (hr : Row w' b 3 cs') (hs' : ls.getD m 0 ≤ cs'.size) (hk : MarksC cs' (K + ofT T ls m + 1) (ls.getD m 0)) : HT w' B T hs ls (m + 1) K := ⟨h.len, fun j hj => by
  by_cases e : j = m
  · subst e
    exact ⟨_, cap, he, .inr ⟨b, cs', rfl, hB, hr, hs', fun _ => hk⟩⟩
  · obtain ⟨A, cap2, e2, h1⟩ := h.lf j hj
    refine ⟨A, cap2, e2, ?_⟩
    rcases h1 with h1 | ⟨b2, cs2, e1, h2, h3, h4, h5⟩
    · exact .inl h1
    · by_cases hz : ls.getD j 0 = 0
      · exact .inl hz
      · refine .inr ⟨b2, cs2, e1, h2, ho.row h3 (fun eb => ?_), h4, fun hjm => h5 (by omega)⟩
        injection eb with eb
        subst eb e1
        have v1 : vblk (.slice (some ⟨b2, 0, none⟩) (ls.getD j 0) cap2) = some b2 := by
          obtain ⟨q, hq⟩ : ∃ q, ls.getD j 0 = q + 1 := ⟨ls.getD j 0 - 1, by omega⟩
          rw [hq]; rfl
        have v2 : vblk (.slice (some ⟨b2, 0, none⟩) (ls.getD m 0) cap) = some b2 := by
          obtain ⟨q, hq⟩ : ∃ q, ls.getD m 0 = q + 1 := ⟨ls.getD m 0 - 1, by omega⟩
          rw [hq]; rfl
        rcases Nat.lt_or_gt_of_ne e with h6 | h6
        · exact hd j m h6 _ _ e2 he b2 v1 v2
        · exact hd m j h6 _ _ he e2 b2 v2 v1⟩
theorem HT.skip {w : World} {B T m K : Nat} {hs : List Value} {ls : List Nat} (h : HT w B T hs ls m K) (hz : ls.getD m 0 = 0) : HT w B T hs ls (m + 1) K := ⟨h.len, fun j hj => by
  obtain ⟨A, cap, e, h1⟩ := h.lf j hj
  refine ⟨A, cap, e, ?_⟩
  rcases h1 with h1 | ⟨b, cs, e1, h2, h3, h4, h5⟩
  · exact .inl h1
  · by_cases hj2 : j = m
    · subst hj2; exact .inl hz
    · exact .inr ⟨b, cs, e1, h2, h3, h4, fun h => h5 (by omega)⟩⟩
/-- One slice marked, or none where it is empty: what markIntS does. -/
theorem mark_one {w : World} {B T m K : Nat} {hs : List Value} {ls : List Nat} (h : HT w B T hs ls m K) (hd : DistH hs) (hm : m < ls.length) (hl : ls.getD m 0 ≤ 1000) (hk : K + ofT T ls m + 1 ≤ 100000000) (hBs : B ≤ w.heap.size) {A : Option Addr} {c : Nat} (he : hs[m]? = some (.slice A (ls.getD m 0) c)) :
    Calls Try.prog 44 #[.slice A (ls.getD m 0) c, .int .i64 (K + ofT T ls m + 1 : Nat)] w fun e w' => e = .returned (.int .i64 (K + ofT T ls m + 1 + ls.getD m 0 : Nat)) ∧ HT w' B T hs ls (m + 1) K ∧ Below B w w' ∧ w'.heap.size = w.heap.size ∧ ∀ b t cs, t ≠ 3 → Row w b t cs → Row w' b t cs := by
  obtain ⟨A2, c2, e2, h1⟩ := h.lf m hm
  rw [he] at e2
  injection e2 with e2
  injection e2 with x1 _ x3
  subst x1 x3
  by_cases hz : ls.getD m 0 = 0
  · have hs2 := h.skip hz
    rw [hz]
    refine (markNone_any A c _ w).mono ?_
    rintro e w' ⟨rfl, rfl⟩
    exact ⟨rfl, hs2, Below.refl _ _, rfl, fun _ _ _ _ hr => hr⟩
  · rcases h1 with h1 | ⟨b, cs, rfl, hBb, hrow, hsz, _⟩
    · exact absurd h1 hz
    · refine (markLeaf_any b _ c _ cs w hrow hsz (by omega) (by omega)).mono ?_
      rintro e w' ⟨rfl, ⟨cs', hr', hs', hm'⟩, ho⟩
      exact ⟨rfl, h.mark hd hm he (by omega) ho hBb hr' (by omega) hm', ho.below (B := B) (fun _ e => by injection e; omega) hBs, ho.size, fun b' t cs'' ht hr'' => ho.row hr'' (fun e => by injection e with e; exact hr''.ne hrow ht e)⟩
theorem held_one {w : World} {B T m K j : Nat} {hs : List Value} {ls : List Nat} (h : HT w B T hs ls m K) (hjm : j < m) (hj : j < ls.length) (hl : ls.getD j 0 ≤ 1000) (hk : K + ofT T ls j + 1 ≤ 100000000) {A : Option Addr} {c : Nat} (he : hs[j]? = some (.slice A (ls.getD j 0) c)) :
    Calls Try.prog 45 #[.slice A (ls.getD j 0) c, .int .i64 (K + ofT T ls j + 1 : Nat)] w fun e w' => e = .returned (.int .i64 (K + ofT T ls j + 1 + ls.getD j 0 : Nat)) ∧ w = w' := by
  obtain ⟨A2, c2, e2, h1⟩ := h.lf j hj
  rw [he] at e2
  injection e2 with e2
  injection e2 with x1 _ x3
  subst x1 x3
  by_cases hz : ls.getD j 0 = 0
  · rw [hz]
    exact heldNone_any A c _ w
  · rcases h1 with h1 | ⟨b, cs, rfl, hBb, hrow, hsz, hmk⟩
    · exact absurd h1 hz
    · exact heldLeaf_any b _ c _ cs w hrow (hmk hjm) (by omega) (by omega)
end Go.Proofs.Ythcpgbfghededaa
/- The contracts of marks on lookup tables. -/
namespace Go.Proofs.Ythcpgbfghededaa
open Go.RowKit Go.Deep Cut

/-- What the marks on struct j of such a row are. -/
def LuMk (cs : Array Value) (ls : List Nat) (K j : Nat) : Prop := cs[j * 3]? = some (.int .i64 (K + ofT 2 ls j : Nat)) ∧ cs[j * 3 + 2]? = some (.int .i64 (K + ofT 2 ls j + 1 + ls.getD j 0 : Nat))
/-- The row of the structs, the first m of them marked. -/
def LuRow (w : World) (g : Nat) (hs : List Value) (ls : List Nat) (m K : Nat) : Prop := ∃ cs, Row w g 31 cs ∧ ls.length * 3 ≤ cs.size ∧ (∀ j, j < ls.length → cs[j * 3 + 1]? = hs[j]?) ∧ ∀ j, j < m → LuMk cs ls K j
theorem LuRow.below {w w' : World} {g m K B : Nat} {hs : List Value} {ls : List Nat} (h : LuRow w g hs ls m K) (hb : Below B w w') (hg : g < B) : LuRow w' g hs ls m K := by
  obtain ⟨cs, hr, h1, h2, h3⟩ := h
  exact ⟨cs, hr.below hb hg, h1, h2, h3⟩
theorem LuRow.lt {w : World} {g m K : Nat} {hs : List Value} {ls : List Nat} (h : LuRow w g hs ls m K) : g < w.heap.size := by
  obtain ⟨cs, hr, _⟩ := h
  exact hr.lt
theorem LuMk.set {cs : Array Value} {hs : List Value} {ls : List Nat} {m K : Nat} (h1 : ls.length * 3 ≤ cs.size) (h2 : ∀ j, j < ls.length → cs[j * 3 + 1]? = hs[j]?) (h3 : ∀ j, j < m → LuMk cs ls K j) (hm : m < ls.length) :
    ls.length * 3 ≤ ((cs.setIfInBounds (m * 3) (.int .i64 (K + ofT 2 ls m : Nat))).setIfInBounds (m * 3 + 2) (.int .i64 (K + ofT 2 ls m + 1 + ls.getD m 0 : Nat))).size ∧ (∀ j, j < ls.length → ((cs.setIfInBounds (m * 3) (.int .i64 (K + ofT 2 ls m : Nat))).setIfInBounds (m * 3 + 2) (.int .i64 (K + ofT 2 ls m + 1 + ls.getD m 0 : Nat)))[j * 3 + 1]? = hs[j]?) ∧ ∀ j, j < m + 1 → LuMk ((cs.setIfInBounds (m * 3) (.int .i64 (K + ofT 2 ls m : Nat))).setIfInBounds (m * 3 + 2) (.int .i64 (K + ofT 2 ls m + 1 + ls.getD m 0 : Nat))) ls K j := by
  refine ⟨by simpa using h1, fun j hj => ?_, fun j hj => ?_⟩
  · rw [Array.getElem?_setIfInBounds_ne (by omega), Array.getElem?_setIfInBounds_ne (by omega)]
    exact h2 j hj
  · by_cases e : j = m
    · subst e
      refine ⟨?_, ?_⟩
      · rw [Array.getElem?_setIfInBounds_ne (by omega), Array.getElem?_setIfInBounds_self_of_lt (by omega)]
      · rw [Array.getElem?_setIfInBounds_self_of_lt (by simp; omega)]
    · obtain ⟨a, b⟩ := h3 j (by omega)
      refine ⟨?_, ?_⟩
      · rw [Array.getElem?_setIfInBounds_ne (by omega), Array.getElem?_setIfInBounds_ne (by omega)]; exact a
      · rw [Array.getElem?_setIfInBounds_ne (by omega), Array.getElem?_setIfInBounds_ne (by omega)]; exact b

set_option maxHeartbeats 800000 in
theorem markLu_any (g cap n K B : Nat) (hs : List Value) (ls : List Nat) (w : World) (hr : LuRow w g hs ls 0 K) (H : HT w B 2 hs ls 0 K) (hd : DistH hs) (hn : ls.length = n) (hl : ∀ j, j < n → ls.getD j 0 ≤ 1000) (ht : K + ofT 2 ls n ≤ 1000000) (hnb : n ≤ 1000) (hBg : B ≤ g) :
    Calls Try.prog 38 #[.slice (some ⟨g, 0, none⟩) n cap, .int .i64 K] w fun e w' => e = .returned (.int .i64 (K + ofT 2 ls n : Nat)) ∧ LuRow w' g hs ls n K ∧ HT w' B 2 hs ls n K ∧ Below B w w' ∧ w'.heap.size = w.heap.size := by
  have HR0 := Lib.hid hr
  have H0 := Lib.hid H
  have HD := Lib.hid hd
  have HN := Lib.hid hn
  have HL := Lib.hid hl
  have HMO := Lib.hid (fun j (hj : j ≤ n) => Nat.le_trans (Nat.add_le_add_left (ofT_mono 2 ls hj) K) ht)
  clear hr H hd hn hl ht
  go_enter Try.func38, Try.ntmps38
  go_wp2
  go_loopw [1, 5] (fun kv iv wr => ∃ (j : Nat), j ≤ n ∧ iv = .int .i64 j ∧ kv = .int .i64 (K + ofT 2 ls j : Nat) ∧ Hid (LuRow wr g hs ls j K) ∧ Hid (HT wr B 2 hs ls j K) ∧ Hid (Below B w wr) ∧ Hid (wr.heap.size = w.heap.size)) (fun _ iv _ => n - (intOf iv).toNat)
  case atStart => exact ⟨0, Nat.zero_le _, rfl, rfl, HR0, H0, Lib.hid (Below.refl _ _), Lib.hid rfl⟩
  case round =>
    clear HR0 H0
    obtain ⟨j, hj, rfl, rfl, HR, HH, HB, HZ⟩ := hrel
    by_cases hlt : j < n
    · obtain ⟨cs, hrow, s1, s2, s3⟩ := HR.out
      have hjl : j < ls.length := by rw [HN.out]; exact hlt
      have HMS := Lib.hid (LuMk.set s1 s2 s3 hjl)
      obtain ⟨A, c2, he, _⟩ := HH.out.lf j hjl
      have HHE := Lib.hid he
      have hlb := HL.out j hlt
      have hkb := HMO.out (j + 1) (by omega)
      have HST : Hid (K + ofT 2 ls (j + 1) = K + ofT 2 ls j + 1 + ls.getD j 0 + 1) := Lib.hid (by simp only [ofT]; omega)
      rw [HST.out] at hkb
      have hc1 := (hrow.cell (j * 3 + 1)).trans ((s2 j hjl).trans he)
      obtain ⟨old0, hc0⟩ : ∃ u, wr.cell? ⟨g, j * 3, none⟩ = some u := ⟨cs[j * 3]'(by omega), by rw [hrow.cell, Array.getElem?_eq_getElem]⟩
      have hf0 := hrow.frozen (j * 3)
      have HROW := Lib.hid hrow
      have hsz0 : j * 3 < cs.size := by omega
      have hsz2 : j * 3 + 2 < cs.size := by omega
      have hBw : B ≤ wr.heap.size := by have := hrow.lt; omega
      have hgw : g < wr.heap.size := hrow.lt
      have hHT1 := HH.out.set hrow (by decide) (j * 3) (.int .i64 (K + ofT 2 ls j : Nat))
      have HMAIN := Lib.hid (mark_one hHT1 HD.out hjl hlb (by omega) (by simpa [World.setCell] using hBw) he)
      have HR1 := Lib.hid (hrow.set (j * 3) (.int .i64 (K + ofT 2 ls j : Nat)))
      have HB1 := Lib.hid (HB.out.setCell (p := ⟨g, j * 3, none⟩) hBg (.int .i64 (K + ofT 2 ls j : Nat)))
      have hz1 : (wr.setCell ⟨g, j * 3, none⟩ (.int .i64 (K + ofT 2 ls j : Nat))).heap.size = wr.heap.size := by simp [World.setCell]
      have HZ1 := Lib.hid (hz1.trans HZ.out)
      clear hHT1 hz1 hrow s1 s2 s3 he HR
      generalize K + ofT 2 ls j = kk at *
      generalize ls.getD j 0 = ln at *
      go_wp2_with fail
      rw [show (kk : Int) + 1 = ((kk + 1 : Nat) : Int) by omega]
      refine HMAIN.out.mono ?_
      rintro e w2 ⟨rfl, ht2, hb2, hz2, hrows2⟩
      have hr2 := hrows2 _ _ _ (by decide) HR1.out
      have HT2 := Lib.hid ht2
      have HB2 := Lib.hid (HB1.out.trans hb2)
      have HZ2 := Lib.hid (hz2.trans HZ1.out)
      have HR2 := Lib.hid hr2
      obtain ⟨old2, hc2⟩ : ∃ u, w2.cell? ⟨g, j * 3 + 2, none⟩ = some u := ⟨(cs.setIfInBounds (j * 3) (.int .i64 (kk : Nat)))[j * 3 + 2]'(by simpa using hsz2), by rw [hr2.cell, Array.getElem?_eq_getElem]⟩
      have hf2 := hr2.frozen (j * 3 + 2)
      clear hc1 hc0 hf0
      have HR3 : Hid (LuRow (w2.setCell ⟨g, j * 3 + 2, none⟩ (.int .i64 (kk + 1 + ln : Nat))) g hs ls (j + 1) K) := Lib.hid ⟨_, hr2.set (j * 3 + 2) (.int .i64 (kk + 1 + ln : Nat)), HMS.out.1, HMS.out.2.1, HMS.out.2.2⟩
      have HT3 := Lib.hid (HT2.out.set hr2 (by decide) (j * 3 + 2) (.int .i64 (kk + 1 + ln : Nat)))
      have HB3 := Lib.hid (HB2.out.setCell (p := ⟨g, j * 3 + 2, none⟩) hBg (.int .i64 (kk + 1 + ln : Nat)))
      have HZ3 : Hid ((w2.setCell ⟨g, j * 3 + 2, none⟩ (.int .i64 (kk + 1 + ln : Nat))).heap.size = w.heap.size) := Lib.hid (by rw [show (w2.setCell ⟨g, j * 3 + 2, none⟩ (.int .i64 (kk + 1 + ln : Nat))).heap.size = w2.heap.size by simp [World.setCell]]; exact HZ2.out)
      clear HMAIN hrows2 ht2 hb2 hz2 hr2
      go_wp2
      rw [show (kk : Int) + 1 + (ln : Int) = ((kk + 1 + ln : Nat) : Int) by omega]
      generalize w2.setCell ⟨g, j * 3 + 2, none⟩ (.int .i64 (kk + 1 + ln : Nat)) = w3 at *
      go_roundw
      case rel => exact ⟨j + 1, by omega, by go_num, by rw [HST.out]; go_num, HR3, HT3, HB3, HZ3⟩
      case measure => simp [intOf]; omega
    · obtain rfl : j = n := by omega
      go_wp2
      go_ret
      exact ⟨rfl, HR.out, HH.out, HB.out, HZ.out⟩

set_option maxHeartbeats 800000 in
theorem heldLu_any (g cap n K B : Nat) (hs : List Value) (ls : List Nat) (w : World) (hr : LuRow w g hs ls n K) (H : HT w B 2 hs ls n K) (hn : ls.length = n) (hl : ∀ j, j < n → ls.getD j 0 ≤ 1000) (ht : K + ofT 2 ls n ≤ 1000000) (hnb : n ≤ 1000) :
    Calls Try.prog 39 #[.slice (some ⟨g, 0, none⟩) n cap, .int .i64 K] w fun e w' => e = .returned (.int .i64 (K + ofT 2 ls n : Nat)) ∧ w = w' := by
  have HR0 := Lib.hid hr
  have H0 := Lib.hid H
  have HN := Lib.hid hn
  have HL := Lib.hid hl
  have HMO := Lib.hid (fun j (hj : j ≤ n) => Nat.le_trans (Nat.add_le_add_left (ofT_mono 2 ls hj) K) ht)
  clear hr H hn hl ht
  go_enter Try.func39, Try.ntmps39
  go_wp2
  go_loop [1, 5] (fun kv iv => ∃ (j : Nat), j ≤ n ∧ iv = .int .i64 j ∧ kv = .int .i64 (K + ofT 2 ls j : Nat)) (fun _ iv => n - (intOf iv).toNat)
  case atStart => exact ⟨0, Nat.zero_le _, rfl, rfl⟩
  case round =>
    obtain ⟨j, hj, rfl, rfl⟩ := hrel
    by_cases hlt : j < n
    · obtain ⟨cs, hrow, s1, s2, s3⟩ := HR0.out
      have hjl : j < ls.length := by rw [HN.out]; exact hlt
      obtain ⟨A, c2, he, _⟩ := H0.out.lf j hjl
      have hlb := HL.out j hlt
      have hkb := HMO.out (j + 1) (by omega)
      have HST : Hid (K + ofT 2 ls (j + 1) = K + ofT 2 ls j + 1 + ls.getD j 0 + 1) := Lib.hid (by simp only [ofT]; omega)
      rw [HST.out] at hkb
      have hc1 := (hrow.cell (j * 3 + 1)).trans ((s2 j hjl).trans he)
      have hc0 := (hrow.cell (j * 3)).trans (s3 j hlt).1
      have hc2 := (hrow.cell (j * 3 + 2)).trans (s3 j hlt).2
      have HMAIN := Lib.hid (held_one H0.out hlt hjl hlb (by omega) he)
      clear hrow s1 s2 s3 he
      generalize K + ofT 2 ls j = kk at *
      generalize ls.getD j 0 = ln at *
      go_wp2_with fail
      rw [show (kk : Int) + 1 = ((kk + 1 : Nat) : Int) by omega]
      refine HMAIN.out.mono ?_
      rintro e w2 ⟨rfl, rfl⟩
      clear HMAIN
      rw [show ((kk + 1 + ln : Nat) : Int) = (kk : Int) + 1 + (ln : Int) by omega] at hc2
      have hk0 : (0 : Int) ≤ (kk : Int) + 1 + (ln : Int) := by omega
      go_wp2
      go_round
      case rel => exact ⟨j + 1, by omega, by go_num, by rw [HST.out]; go_num⟩
      case measure => simp [intOf]; omega
    · obtain rfl : j = n := by omega
      go_wp2
      go_ret
      exact ⟨rfl, rfl⟩
end Go.Proofs.Ythcpgbfghededaa
