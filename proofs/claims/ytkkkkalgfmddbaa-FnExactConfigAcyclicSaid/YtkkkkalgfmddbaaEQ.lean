/- The contracts of comparison and marks of a list. -/
import Derived.Test.YtkkkkalgfmddbaaC4
import Derived.Test.YtkkkkalgfmddbaaW6
import Derived.Test.YtkkkkalgfmddbaaB1a
import Derived.Test.YtkkkkalgfmddbaaEL
import Derived.Test.YtkkkkalgfmddbaaCC
namespace Go.Proofs.Ytkkkkalgfmddbaa
open Go.RowKit Go.Deep Cut

theorem eqI_n (A A' : Option Addr) (n cap cap' : Nat) (xs : List Nat) (w : World) (hx : IntsAt w w.heap.size A (Opt.intL xs)) (hy : IntsAt w w.heap.size A' (Opt.intL xs)) (hn : xs.length = n) (hl : n ≤ 2000000) :
    Calls Try.prog 151 #[.slice A n cap, .slice A' n cap'] w fun e w' => e = .returned (.bool true) ∧ Below w.heap.size w w' := by
  have h : (Opt.intL xs).length = n := by rw [Opt.intL_len]; exact hn
  subst h
  exact eqIntS_any A A' cap cap' (Opt.intL xs) w hx hy hl
/-- The first n cells bear marks from k on. -/
def MarksC (cs : Array Value) (k n : Nat) : Prop := ∀ t, t < n → cs[t]? = some (.int .i64 ((k + t : Nat) : Int))
set_option maxHeartbeats 400000 in
theorem markLeaf_any (g n cap k : Nat) (cs : Array Value) (w : World) (hr : Row w g 3 cs) (hs : n ≤ cs.size) (hn : n ≤ 2000000) (hk : k ≤ 1000000000) :
    Calls Try.prog 133 #[.slice (some ⟨g, 0, none⟩) n cap, .int .i64 k] w fun e w' => e = .returned (.int .i64 ((k + n : Nat) : Int)) ∧ (∃ cs', Row w' g 3 cs' ∧ cs'.size = cs.size ∧ MarksC cs' k n) ∧ Only (some g) w w' := by
  have HR0 := Lib.hid hr
  clear hr
  generalize hcz : cs.size = z at *
  have HCZ := Lib.hid hcz
  clear hcz
  go_enter Try.func133, Try.ntmps133
  go_wp2
  go_loopw [1, 5] (fun kv iv wr => ∃ (i : Nat) (cs : Array Value), i ≤ n ∧ iv = .int .i64 i ∧ kv = .int .i64 ((k : Int) + i) ∧ Hid (Row wr g 3 cs) ∧ Hid (cs.size = z) ∧ Hid (MarksC cs k i) ∧ Hid (Only (some g) w wr)) (fun _ iv _ => n - (intOf iv).toNat)
  case atStart => exact ⟨0, cs, Nat.zero_le _, rfl, by simp, HR0, HCZ, Lib.hid (fun t ht => absurd ht (by omega)), Lib.hid (Only.refl _ _)⟩
  case round =>
    clear HR0 HCZ cs
    obtain ⟨i, cs, hi, rfl, rfl, HRow, HZ, HF, HO⟩ := hrel
    by_cases hlt : i < n
    · have hsz : i < cs.size := by rw [HZ.out]; omega
      have HF2 : Hid (MarksC (cs.setIfInBounds i (.int .i64 ((k : Int) + i))) k (i + 1)) := Lib.hid (fun t ht => by
        by_cases e : i = t
        · subst e; simp [hsz]
        · rw [Array.getElem?_setIfInBounds_ne e]; exact HF.out t (by omega))
      have HZ2 : Hid ((cs.setIfInBounds i (.int .i64 ((k : Int) + i))).size = z) := Lib.hid (by simpa using HZ.out)
      have hc0 : wr.cell? ⟨g, i, none⟩ = some cs[i] := by rw [HRow.out.cell, Array.getElem?_eq_getElem hsz]
      have hf0 := HRow.out.frozen i
      have HO2 := Lib.hid (HO.out.set i (.int .i64 ((k : Int) + i)))
      have HR2 := Lib.hid (HRow.out.set i (.int .i64 ((k : Int) + i)))
      generalize cs[i] = old at *
      go_wp2
      go_roundw
      case rel => exact ⟨i + 1, _, by omega, by go_num, by go_num, HR2, HZ2, HF2, HO2⟩
      case measure => simp [intOf]; omega
    · obtain rfl : i = n := by omega
      go_wp2
      go_ret
      exact ⟨rfl, ⟨_, HRow.out, HZ.out, HF.out⟩, HO.out⟩
set_option maxHeartbeats 400000 in
theorem heldLeaf_any (g n cap k : Nat) (cs : Array Value) (w : World) (hr : Row w g 3 cs) (hm : MarksC cs k n) (hn : n ≤ 2000000) (hk : k ≤ 1000000000) :
    Calls Try.prog 135 #[.slice (some ⟨g, 0, none⟩) n cap, .int .i64 k] w fun e w' => e = .returned (.int .i64 ((k + n : Nat) : Int)) ∧ w = w' := by
  have HR0 := Lib.hid hr
  have HM := Lib.hid hm
  clear hr hm
  go_enter Try.func135, Try.ntmps135
  go_wp2
  go_loop [1, 5] (fun kv iv => ∃ (i : Nat), i ≤ n ∧ iv = .int .i64 i ∧ kv = .int .i64 ((k : Int) + i)) (fun _ iv => n - (intOf iv).toNat)
  case atStart => exact ⟨0, Nat.zero_le _, rfl, by simp⟩
  case round =>
    obtain ⟨i, hi, rfl, rfl⟩ := hrel
    by_cases hlt : i < n
    · have hc : w.cell? ⟨g, i, none⟩ = some (.int .i64 ((k : Int) + i)) := by rw [HR0.out.cell, HM.out i hlt]; simp
      go_wp2
      go_round
      case rel => exact ⟨i + 1, by omega, by go_num, by go_num⟩
      case measure => simp [intOf]; omega
    · obtain rfl : i = n := by omega
      go_wp2
      go_ret
      exact ⟨rfl, rfl⟩
set_option maxHeartbeats 400000 in
theorem markNone_any (A : Option Addr) (cap k : Nat) (w : World) : Calls Try.prog 133 #[.slice A 0 cap, .int .i64 k] w fun e w' => e = .returned (.int .i64 ((k + 0 : Nat) : Int)) ∧ w = w' := by
  go_enter Try.func133, Try.ntmps133
  go_wp2
  go_loop [1, 5] (fun kv iv => kv = .int .i64 k ∧ iv = .int .i64 0) (fun _ iv => 0)
  case atStart => exact ⟨rfl, rfl⟩
  case round =>
    obtain ⟨rfl, rfl⟩ := hrel
    go_wp2
    go_ret
    exact ⟨rfl, rfl⟩
set_option maxHeartbeats 400000 in
theorem heldNone_any (A : Option Addr) (cap k : Nat) (w : World) : Calls Try.prog 135 #[.slice A 0 cap, .int .i64 k] w fun e w' => e = .returned (.int .i64 ((k + 0 : Nat) : Int)) ∧ w = w' := by
  go_enter Try.func135, Try.ntmps135
  go_wp2
  go_loop [1, 5] (fun kv iv => kv = .int .i64 k ∧ iv = .int .i64 0) (fun _ iv => 0)
  case atStart => exact ⟨rfl, rfl⟩
  case round =>
    obtain ⟨rfl, rfl⟩ := hrel
    go_wp2
    go_ret
    exact ⟨rfl, rfl⟩
end Go.Proofs.Ytkkkkalgfmddbaa
/- The contracts of comparing lookup tables. -/
namespace Go.Proofs.Ytkkkkalgfmddbaa
open Go.RowKit Go.Deep Cut

theorem Lukeep {w w' : World} {B b b' o o' : Nat} {x0 x1 x2 x3 x4 x5 : Value} (h : Below B w w') (h1 : b < B) (h2 : b' < B) (s : w.cell? ⟨b, o, none⟩ = some x0 ∧ w.cell? ⟨b, o + 1, none⟩ = some x1 ∧ w.cell? ⟨b, o + 2, none⟩ = some x2 ∧ w.cell? ⟨b', o', none⟩ = some x3 ∧ w.cell? ⟨b', o' + 1, none⟩ = some x4 ∧ w.cell? ⟨b', o' + 2, none⟩ = some x5) :
    w'.cell? ⟨b, o, none⟩ = some x0 ∧ w'.cell? ⟨b, o + 1, none⟩ = some x1 ∧ w'.cell? ⟨b, o + 2, none⟩ = some x2 ∧ w'.cell? ⟨b', o', none⟩ = some x3 ∧ w'.cell? ⟨b', o' + 1, none⟩ = some x4 ∧ w'.cell? ⟨b', o' + 2, none⟩ = some x5 :=
  ⟨(h.cell (by exact h1)).trans s.1, (h.cell (by exact h1)).trans s.2.1, (h.cell (by exact h1)).trans s.2.2.1, (h.cell (by exact h2)).trans s.2.2.2.1, (h.cell (by exact h2)).trans s.2.2.2.2.1, (h.cell (by exact h2)).trans s.2.2.2.2.2⟩
end Go.Proofs.Ytkkkkalgfmddbaa
/- Marks on the leaves of a list of structs; no function of the laws. -/
namespace Go.Proofs.Ytkkkkalgfmddbaa
open Go.RowKit Go.Deep Cut

def ofT (T : Nat) (ls : List Nat) : Nat → Nat
  | 0 => 0
  | j + 1 => ofT T ls j + (ls.getD j 0 + T)
theorem ofT_mono (T : Nat) (ls : List Nat) {j l : Nat} (h : j ≤ l) : ofT T ls j ≤ ofT T ls l := by
  induction l with
  | zero => obtain rfl : j = 0 := by omega
            exact Nat.le_refl _
  | succ l ih =>
    by_cases e : j = l + 1
    · subst e; exact Nat.le_refl _
    · have := ih (by omega)
      simp only [ofT]
      omega
/-- Leaves in blocks of their own from B on, the first m of them marked. -/
structure HT (w : World) (B T : Nat) (hs : List Value) (ls : List Nat) (m K : Nat) : Prop where
  len : hs.length = ls.length
  lf : ∀ j, j < ls.length → ∃ (A : Option Addr) (cap : Nat), hs[j]? = some (.slice A (ls.getD j 0) cap) ∧ (ls.getD j 0 = 0 ∨ ∃ (b : Nat) (cs : Array Value), A = some ⟨b, 0, none⟩ ∧ B ≤ b ∧ Row w b 3 cs ∧ ls.getD j 0 ≤ cs.size ∧ (j < m → MarksC cs (K + ofT T ls j + 1) (ls.getD j 0)))
theorem HT.on {w w' : World} {B T m K : Nat} {hs : List Value} {ls : List Nat} (h : HT w B T hs ls m K) (hb : Below w.heap.size w w') : HT w' B T hs ls m K := ⟨h.len, fun j hj => by
  obtain ⟨A, cap, e, h1⟩ := h.lf j hj
  refine ⟨A, cap, e, ?_⟩
  rcases h1 with h1 | ⟨b, cs, e1, h2, h3, h4, h5⟩
  · exact .inl h1
  · exact .inr ⟨b, cs, e1, h2, h3.below hb h3.lt, h4, h5⟩⟩
theorem HT.set {w : World} {B T m K g : Nat} {t : TypeId} {cg : Array Value} {hs : List Value} {ls : List Nat} (h : HT w B T hs ls m K) (hg : Row w g t cg) (ht : t ≠ 3) (i : Nat) (u : Value) : HT (w.setCell ⟨g, i, none⟩ u) B T hs ls m K := ⟨h.len, fun j hj => by
  obtain ⟨A, cap, e, h1⟩ := h.lf j hj
  refine ⟨A, cap, e, ?_⟩
  rcases h1 with h1 | ⟨b, cs, e1, h2, h3, h4, h5⟩
  · exact .inl h1
  · exact .inr ⟨b, cs, e1, h2, h3.far (p := ⟨g, i, none⟩) (h3.ne hg (fun e => ht e.symm)) u, h4, h5⟩⟩
/-- One more slice is marked. -/
theorem HT.mark {w w' : World} {B T m K b : Nat} {hs : List Value} {ls : List Nat} {cs' : Array Value} {cap : Nat} (h : HT w B T hs ls m K) (hd : DistH hs) (hm : m < ls.length) (he : hs[m]? = some (.slice (some ⟨b, 0, none⟩) (ls.getD m 0) cap)) (hpos : 0 < ls.getD m 0)
    (ho : Only (some b) w w') (hB : B ≤ b) (hr : Row w' b 3 cs') (hs' : ls.getD m 0 ≤ cs'.size) (hk : MarksC cs' (K + ofT T ls m + 1) (ls.getD m 0)) : HT w' B T hs ls (m + 1) K := ⟨h.len, fun j hj => by
  by_cases e : j = m
  · subst e
    exact ⟨_, cap, he, .inr ⟨b, cs', rfl, hB, hr, hs', fun _ => hk⟩⟩
  · obtain ⟨A, cap2, e2, h1⟩ := h.lf j hj
    refine ⟨A, cap2, e2, ?_⟩
    rcases h1 with h1 | ⟨b2, cs2, e1, h2, h3, h4, h5⟩
    · exact .inl h1
    · by_cases hz : ls.getD j 0 = 0
      · exact .inl hz
      · refine .inr ⟨b2, cs2, e1, h2, ho.row h3 (fun eb => ?_), h4, fun hjm => h5 (by omega)⟩
        injection eb with eb
        subst eb e1
        have v1 : vblk (.slice (some ⟨b2, 0, none⟩) (ls.getD j 0) cap2) = some b2 := by
          obtain ⟨q, hq⟩ : ∃ q, ls.getD j 0 = q + 1 := ⟨ls.getD j 0 - 1, by omega⟩
          rw [hq]; rfl
        have v2 : vblk (.slice (some ⟨b2, 0, none⟩) (ls.getD m 0) cap) = some b2 := by
          obtain ⟨q, hq⟩ : ∃ q, ls.getD m 0 = q + 1 := ⟨ls.getD m 0 - 1, by omega⟩
          rw [hq]; rfl
        rcases Nat.lt_or_gt_of_ne e with h6 | h6
        · exact hd j m h6 _ _ e2 he b2 v1 v2
        · exact hd m j h6 _ _ he e2 b2 v2 v1⟩
theorem HT.skip {w : World} {B T m K : Nat} {hs : List Value} {ls : List Nat} (h : HT w B T hs ls m K) (hz : ls.getD m 0 = 0) : HT w B T hs ls (m + 1) K := ⟨h.len, fun j hj => by
  obtain ⟨A, cap, e, h1⟩ := h.lf j hj
  refine ⟨A, cap, e, ?_⟩
  rcases h1 with h1 | ⟨b, cs, e1, h2, h3, h4, h5⟩
  · exact .inl h1
  · by_cases hj2 : j = m
    · subst hj2; exact .inl hz
    · exact .inr ⟨b, cs, e1, h2, h3, h4, fun h => h5 (by omega)⟩⟩
/-- One slice marked, or none where it is empty: what markIntS does. -/
theorem mark_one {w : World} {B T m K : Nat} {hs : List Value} {ls : List Nat} (h : HT w B T hs ls m K) (hd : DistH hs) (hm : m < ls.length) (hl : ls.getD m 0 ≤ 1000) (hk : K + ofT T ls m + 1 ≤ 100000000) (hBs : B ≤ w.heap.size) {A : Option Addr} {c : Nat} (he : hs[m]? = some (.slice A (ls.getD m 0) c)) :
    Calls Try.prog 133 #[.slice A (ls.getD m 0) c, .int .i64 (K + ofT T ls m + 1 : Nat)] w fun e w' => e = .returned (.int .i64 (K + ofT T ls m + 1 + ls.getD m 0 : Nat)) ∧ HT w' B T hs ls (m + 1) K ∧ Below B w w' ∧ w'.heap.size = w.heap.size ∧ ∀ b t cs, t ≠ 3 → Row w b t cs → Row w' b t cs := by
  obtain ⟨A2, c2, e2, h1⟩ := h.lf m hm
  rw [he] at e2
  injection e2 with e2
  injection e2 with x1 _ x3
  subst x1 x3
  by_cases hz : ls.getD m 0 = 0
  · have hs2 := h.skip hz
    rw [hz]
    refine (markNone_any A c _ w).mono ?_
    rintro e w' ⟨rfl, rfl⟩
    exact ⟨rfl, hs2, Below.refl _ _, rfl, fun _ _ _ _ hr => hr⟩
  · rcases h1 with h1 | ⟨b, cs, rfl, hBb, hrow, hsz, _⟩
    · exact absurd h1 hz
    · refine (markLeaf_any b _ c _ cs w hrow hsz (by omega) (by omega)).mono ?_
      rintro e w' ⟨rfl, ⟨cs', hr', hs', hm'⟩, ho⟩
      exact ⟨rfl, h.mark hd hm he (by omega) ho hBb hr' (by omega) hm', ho.below (B := B) (fun _ e => by injection e; omega) hBs, ho.size, fun b' t cs'' ht hr'' => ho.row hr'' (fun e => by injection e with e; exact hr''.ne hrow ht e)⟩
theorem held_one {w : World} {B T m K j : Nat} {hs : List Value} {ls : List Nat} (h : HT w B T hs ls m K) (hjm : j < m) (hj : j < ls.length) (hl : ls.getD j 0 ≤ 1000) (hk : K + ofT T ls j + 1 ≤ 100000000) {A : Option Addr} {c : Nat} (he : hs[j]? = some (.slice A (ls.getD j 0) c)) :
    Calls Try.prog 135 #[.slice A (ls.getD j 0) c, .int .i64 (K + ofT T ls j + 1 : Nat)] w fun e w' => e = .returned (.int .i64 (K + ofT T ls j + 1 + ls.getD j 0 : Nat)) ∧ w = w' := by
  obtain ⟨A2, c2, e2, h1⟩ := h.lf j hj
  rw [he] at e2
  injection e2 with e2
  injection e2 with x1 _ x3
  subst x1 x3
  by_cases hz : ls.getD j 0 = 0
  · rw [hz]
    exact heldNone_any A c _ w
  · rcases h1 with h1 | ⟨b, cs, rfl, hBb, hrow, hsz, hmk⟩
    · exact absurd h1 hz
    · exact heldLeaf_any b _ c _ cs w hrow (hmk hjm) (by omega) (by omega)
end Go.Proofs.Ytkkkkalgfmddbaa
/- The contracts of marks on lookup tables. -/
namespace Go.Proofs.Ytkkkkalgfmddbaa
open Go.RowKit Go.Deep Cut

/-- What the marks on struct j of such a row are. -/
def LuMk (cs : Array Value) (ls : List Nat) (K j : Nat) : Prop := cs[j * 3]? = some (.int .i64 (K + ofT 2 ls j : Nat)) ∧ cs[j * 3 + 2]? = some (.int .i64 (K + ofT 2 ls j + 1 + ls.getD j 0 : Nat))
/-- The row of the structs, the first m of them marked. -/
def LuRow (w : World) (g : Nat) (hs : List Value) (ls : List Nat) (m K : Nat) : Prop := ∃ cs, Row w g 193 cs ∧ ls.length * 3 ≤ cs.size ∧ (∀ j, j < ls.length → cs[j * 3 + 1]? = hs[j]?) ∧ ∀ j, j < m → LuMk cs ls K j
theorem LuRow.below {w w' : World} {g m K B : Nat} {hs : List Value} {ls : List Nat} (h : LuRow w g hs ls m K) (hb : Below B w w') (hg : g < B) : LuRow w' g hs ls m K := by
  obtain ⟨cs, hr, h1, h2, h3⟩ := h
  exact ⟨cs, hr.below hb hg, h1, h2, h3⟩
theorem LuRow.lt {w : World} {g m K : Nat} {hs : List Value} {ls : List Nat} (h : LuRow w g hs ls m K) : g < w.heap.size := by
  obtain ⟨cs, hr, _⟩ := h
  exact hr.lt
theorem LuMk.set {cs : Array Value} {hs : List Value} {ls : List Nat} {m K : Nat} (h1 : ls.length * 3 ≤ cs.size) (h2 : ∀ j, j < ls.length → cs[j * 3 + 1]? = hs[j]?) (h3 : ∀ j, j < m → LuMk cs ls K j) (hm : m < ls.length) :
    ls.length * 3 ≤ ((cs.setIfInBounds (m * 3) (.int .i64 (K + ofT 2 ls m : Nat))).setIfInBounds (m * 3 + 2) (.int .i64 (K + ofT 2 ls m + 1 + ls.getD m 0 : Nat))).size ∧ (∀ j, j < ls.length → ((cs.setIfInBounds (m * 3) (.int .i64 (K + ofT 2 ls m : Nat))).setIfInBounds (m * 3 + 2) (.int .i64 (K + ofT 2 ls m + 1 + ls.getD m 0 : Nat)))[j * 3 + 1]? = hs[j]?) ∧ ∀ j, j < m + 1 → LuMk ((cs.setIfInBounds (m * 3) (.int .i64 (K + ofT 2 ls m : Nat))).setIfInBounds (m * 3 + 2) (.int .i64 (K + ofT 2 ls m + 1 + ls.getD m 0 : Nat))) ls K j := by
  refine ⟨by simpa using h1, fun j hj => ?_, fun j hj => ?_⟩
  · rw [Array.getElem?_setIfInBounds_ne (by omega), Array.getElem?_setIfInBounds_ne (by omega)]
    exact h2 j hj
  · by_cases e : j = m
    · subst e
      refine ⟨?_, ?_⟩
      · rw [Array.getElem?_setIfInBounds_ne (by omega), Array.getElem?_setIfInBounds_self_of_lt (by omega)]
      · rw [Array.getElem?_setIfInBounds_self_of_lt (by simp; omega)]
    · obtain ⟨a, b⟩ := h3 j (by omega)
      refine ⟨?_, ?_⟩
      · rw [Array.getElem?_setIfInBounds_ne (by omega), Array.getElem?_setIfInBounds_ne (by omega)]; exact a
      · rw [Array.getElem?_setIfInBounds_ne (by omega), Array.getElem?_setIfInBounds_ne (by omega)]; exact b

end Go.Proofs.Ytkkkkalgfmddbaa
