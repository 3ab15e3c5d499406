/- The contracts of the size of configurations. -/
import Derived.Test.YtdadokcodklfgaaKF
import Derived.Test.YtdadokcodklfgaaKC
namespace Go.Proofs.Ytdadokcodklfgaa
open Go.RowKit Go.Deep

/-- What is left of l: nothing, or the lengths were small. -/
def SzOut (l : Int) (P : Prop) (w : World) (e : Ending) (w' : World) : Prop := (∃ z : Int, e = .returned (.int .i64 z) ∧ (z = -1 ∨ (0 ≤ z ∧ z ≤ l ∧ P))) ∧ Below w.heap.size w w'
/-- The same, with a bound on what is left. -/
def SzOutT (l : Int) (P : Int → Prop) (w : World) (e : Ending) (w' : World) : Prop := (∃ z : Int, e = .returned (.int .i64 z) ∧ (z = -1 ∨ (0 ≤ z ∧ z ≤ l ∧ P z))) ∧ Below w.heap.size w w'
/-- The lengths of the lists of the first k tiles. -/
def totT (ts : List Tl) : Nat → Nat
  | 0 => 0
  | k + 1 => totT ts k + ((ts.getD k tl0).2.1.length + (ts.getD k tl0).2.2.2.length)
set_option maxHeartbeats 800000 in
theorem szTile_any (v : Int) (A B : Option Addr) (m1 c1 m2 c2 : Nat) (r : Bool) (l : Int) (w : World) (h0 : 0 ≤ l) (h1 : l ≤ 1048576) (hm1 : m1 ≤ maxLen) (hm2 : m2 ≤ maxLen) :
    Calls Try.prog 106 #[.agg #[.int .i64 v, .slice A m1 c1, .bool r, .slice B m2 c2], .int .i64 l] w (SzOutT l (fun z => (m1 ≤ 1048576 ∧ m2 ≤ 1048576) ∧ z + m1 + m2 ≤ l) w) := by
  have HW0 : Hid (Below w.heap.size w (w.alloc (.cells #[.int .i64 v, .slice A m1 c1, .bool r, .slice B m2 c2] 143))) := Lib.hid ((Below.refl _ _).alloc (Nat.le_refl _) _)
  by_cases hb1 : l < (m1 : Int)
  · go_enter Try.func106, Try.ntmps106
    go_wp2_with (go_at_call 136; refine (szIntS_no _ _ _ _ _ hb1 h0 h1 hm1).mono ?_; rintro e w' ⟨rfl, rfl⟩)
    go_ret
    exact ⟨⟨-1, rfl, .inl rfl⟩, HW0.out⟩
  · have hb1' : (m1 : Int) ≤ l := by omega
    obtain ⟨l1, hl1⟩ : ∃ l1 : Int, l - m1 = l1 := ⟨_, rfl⟩
    have hl10 : 0 ≤ l1 := by omega
    have hl11 : l1 ≤ 1048576 := by omega
    have HS1 := szIntS_ok A m1 c1 l (w.alloc (.cells #[.int .i64 v, .slice A m1 c1, .bool r, .slice B m2 c2] 143)) hb1' h1
    rw [hl1] at HS1
    have HL := Lib.hid hl1
    have HHS := Lib.hid HS1
    clear hl1 HS1 hb1
    by_cases hb2 : l1 < (m2 : Int)
    · go_enter Try.func106, Try.ntmps106
      go_wp2_with fail
      refine HHS.out.mono ?_
      rintro e w' ⟨rfl, rfl⟩
      clear HHS
      go_wp2_with (go_at_call 136; refine (szIntS_no _ _ _ _ _ hb2 hl10 hl11 hm2).mono ?_; rintro e w' ⟨rfl, rfl⟩)
      go_ret
      exact ⟨⟨-1, rfl, .inl rfl⟩, HW0.out⟩
    · have hb2' : (m2 : Int) ≤ l1 := by omega
      go_enter Try.func106, Try.ntmps106
      go_wp2_with fail
      refine HHS.out.mono ?_
      rintro e w' ⟨rfl, rfl⟩
      clear HHS
      go_wp2_with (go_at_call 136; refine (szIntS_ok _ _ _ _ _ hb2' hl11).mono ?_; rintro e w' ⟨rfl, rfl⟩)
      go_ret
      exact ⟨⟨l1 - m2, rfl, .inr ⟨by omega, by have := HL.out; omega, ⟨by omega, by omega⟩, by have := HL.out; omega⟩⟩, HW0.out⟩
/-- The list and its lists are no longer than 2^20. -/
def TlSm (ts : List Tl) (n : Nat) : Prop := ts.length ≤ 1048576 ∧ ∀ k, k < n → (ts.getD k tl0).2.1.length ≤ 1048576 ∧ (ts.getD k tl0).2.2.2.length ≤ 1048576
set_option maxHeartbeats 800000 in
theorem szTileS_any (A : Option Addr) (n cap : Nat) (ts : List Tl) (l : Int) (w : World) (hx : TlIn w w.heap.size A ts) (hn : ts.length = n) (h0 : 0 ≤ l) (h1 : l ≤ 1048576) (hl : n ≤ maxLen) (hr : ∀ k, k < n → (ts.getD k tl0).2.1.length ≤ maxLen ∧ (ts.getD k tl0).2.2.2.length ≤ maxLen) :
    Calls Try.prog 68 #[.slice A n cap, .int .i64 l] w (SzOutT l (fun z => TlSm ts n ∧ z + totT ts n ≤ l) w) := by
  have HX := Lib.hid hx
  have HN := Lib.hid hn
  have HR := Lib.hid hr
  clear hx hn hr
  unfold maxLen at hl
  by_cases hb : l < (n : Int)
  · go_enter Try.func68, Try.ntmps68
    go_wp2
    go_ret
    exact ⟨⟨-1, rfl, .inl rfl⟩, Below.refl _ _⟩
  · go_enter Try.func68, Try.ntmps68
    go_wp2
    go_loopw [1, 5] (fun lv iv wr => ∃ (k : Nat) (z : Int), k ≤ n ∧ iv = .int .i64 k ∧ lv = .int .i64 z ∧ 0 ≤ z ∧ z + totT ts k ≤ l ∧ Hid (∀ j, j < k → (ts.getD j tl0).2.1.length ≤ 1048576 ∧ (ts.getD j tl0).2.2.2.length ≤ 1048576) ∧ Hid (Below w.heap.size w wr)) (fun _ iv _ => n - (intOf iv).toNat)
    case atStart => exact ⟨0, _, Nat.zero_le _, rfl, rfl, by omega, by simp only [totT]; omega, Lib.hid (fun j hj => absurd hj (by omega)), Lib.hid (Below.refl _ _)⟩
    case round =>
      obtain ⟨k, z, hk, rfl, rfl, z0, z1, HZ, HB⟩ := hrel
      by_cases hlt : k < n
      · obtain ⟨b, off, rfl, hbl, A1, c1, A2, c2, ⟨p0, p1, p2, p3⟩, _, _, _⟩ := HX.out k (by rw [HN.out]; exact hlt)
        obtain ⟨r1, r2⟩ := HR.out k hlt
        have q0 := (HB.out.cell (p := ⟨b, off + k * 4, none⟩) hbl).trans p0
        have q1 := (HB.out.cell (p := ⟨b, off + k * 4 + 1, none⟩) hbl).trans p1
        have q2 := (HB.out.cell (p := ⟨b, off + k * 4 + 2, none⟩) hbl).trans p2
        have q3 := (HB.out.cell (p := ⟨b, off + k * 4 + 3, none⟩) hbl).trans p3
        have HSZ := Lib.hid (szTile_any (ts.getD k tl0).1 A1 A2 (ts.getD k tl0).2.1.length c1 (ts.getD k tl0).2.2.2.length c2 (ts.getD k tl0).2.2.1 z wr z0 (by omega) r1 r2)
        have HST : Hid ((ts.getD k tl0).2.1.length ≤ 1048576 ∧ (ts.getD k tl0).2.2.2.length ≤ 1048576 → ∀ j, j < k + 1 → (ts.getD j tl0).2.1.length ≤ 1048576 ∧ (ts.getD j tl0).2.2.2.length ≤ 1048576) := Lib.hid (fun h j hj => by
          by_cases e : j = k
          · subst e; exact h
          · exact HZ.out j (by omega))
        have HTT : Hid (totT ts (k + 1) = totT ts k + ((ts.getD k tl0).2.1.length + (ts.getD k tl0).2.2.2.length)) := Lib.hid rfl
        clear p0 p1 p2 p3 r1 r2
        generalize (ts.getD k tl0).2.1.length = m1 at *
        generalize (ts.getD k tl0).2.2.2.length = m2 at *
        generalize (ts.getD k tl0).2.2.1 = r at *
        generalize (ts.getD k tl0).1 = v at *
        go_wp2_with fail
        refine HSZ.out.mono ?_
        rintro e w2 ⟨⟨z2, rfl, hz⟩, hb2⟩
        have HB2 := Lib.hid (HB.out.trans (hb2.mono HB.out.size))
        clear HSZ hb2 q0 q1 q2 q3
        rcases hz with rfl | ⟨y0, y1, y2⟩
        · go_wp2
          go_ret
          exact ⟨⟨-1, rfl, .inl rfl⟩, HB2.out⟩
        · have HZ2 := Lib.hid (HST.out y2.1)
          have hz3 : z2 + totT ts (k + 1) ≤ l := by have := y2.2; rw [HTT.out]; omega
          clear y2 HST HTT
          go_wp2
          go_roundw
          case rel => exact ⟨k + 1, _, by omega, by go_num, rfl, y0, hz3, HZ2, HB2⟩
          case measure => simp [intOf]; omega
      · obtain rfl : k = n := by omega
        go_wp2
        go_ret
        exact ⟨⟨z, rfl, .inr ⟨z0, by omega, ⟨by rw [HN.out]; omega, HZ.out⟩, z1⟩⟩, HB.out⟩
theorem szPadS_any (A : Option Addr) (n cap : Nat) (l : Int) (w : World) (h0 : 0 ≤ l) (h1 : l ≤ 1048576) (hl : n ≤ maxLen) :
    Calls Try.prog 69 #[.slice A n cap, .int .i64 l] w (SzOut l (n ≤ 1048576) w) := by
  unfold maxLen at hl
  by_cases hb : l < (n : Int)
  · go_enter Try.func69, Try.ntmps69
    go_wp2
    go_ret
    exact ⟨⟨-1, rfl, .inl rfl⟩, Below.refl _ _⟩
  · go_enter Try.func69, Try.ntmps69
    go_wp2
    go_ret
    exact ⟨⟨l - n, rfl, .inr ⟨by omega, by omega, by omega⟩⟩, Below.refl _ _⟩
theorem szConfigT_any (TA PA : Option Addr) (n m tc pc : Nat) (ts : List Tl) (l : Int) (w : World) (hx : TlIn w w.heap.size TA ts) (hn : ts.length = n) (h0 : 0 ≤ l) (h1 : l ≤ 1048576) (hl : n ≤ maxLen) (hr : ∀ k, k < n → (ts.getD k tl0).2.1.length ≤ maxLen ∧ (ts.getD k tl0).2.2.2.length ≤ maxLen) (hm : m ≤ maxLen) :
    Calls Try.prog 22 #[cfv TA n tc PA m pc, .int .i64 l] w (SzOut l ((TlSm ts n ∧ m ≤ 1048576) ∧ (totT ts n : Int) ≤ l) w) := by
  have HW0 : Hid (Below w.heap.size w (w.alloc (.cells #[.slice TA n tc, .slice PA m pc] 44))) := Lib.hid ((Below.refl _ _).alloc (Nat.le_refl _) _)
  have HR0 := Lib.hid (CBox.new w TA n tc PA m pc 44)
  have HSZ := Lib.hid (szTileS_any TA n tc ts l _ ((hx.below HW0.out).mono HW0.out.size) hn h0 h1 hl hr)
  clear hx hn hr hl
  go_enter Try.func22, Try.ntmps22
  go_wp2_with fail
  generalize w.alloc (.cells #[.slice TA n tc, .slice PA m pc] 44) = w0 at *
  refine HSZ.out.mono ?_
  rintro e w1 ⟨⟨z, rfl, hz⟩, hb1⟩
  have c1 := (HR0.out.below hb1 HR0.out.lt).c1
  have HB1 := Lib.hid (HW0.out.trans (hb1.mono HW0.out.size))
  clear HSZ hb1 HR0
  rcases hz with rfl | ⟨y0, y1, y2⟩
  · go_wp2
    go_ret
    exact ⟨⟨-1, rfl, .inl rfl⟩, HB1.out⟩
  · have HY := Lib.hid y2.1
    have hyt := y2.2
    have HP := Lib.hid (szPadS_any PA m pc z w1 y0 (by omega) hm)
    clear y2 hm
    go_wp2_with fail
    refine HP.out.mono ?_
    rintro e w2 ⟨⟨z2, rfl, hz⟩, hb2⟩
    have HB2 := Lib.hid (HB1.out.trans (hb2.mono HB1.out.size))
    clear HP hb2 c1
    rcases hz with rfl | ⟨x0, x1, x2⟩
    · go_wp2
      go_ret
      exact ⟨⟨-1, rfl, .inl rfl⟩, HB2.out⟩
    · go_wp2
      go_ret
      exact ⟨⟨z2, rfl, .inr ⟨x0, by omega, ⟨HY.out, x2⟩, by omega⟩⟩, HB2.out⟩
theorem ofT_tot (ts : List Tl) : ∀ k, k ≤ ts.length → ofT 1 (lensT ts) (2 * k) = 2 * k + totT ts k
  | 0, _ => rfl
  | k + 1, h => by
    have h1 := ofT_tot ts k (by omega)
    rw [show 2 * (k + 1) = 2 * k + 1 + 1 by omega]
    simp only [ofT, totT]
    rw [h1, lensT_get ts (j := 2 * k) (by omega), lensT_get ts (j := 2 * k + 1) (by omega), if_pos (by omega), if_neg (by omega), show 2 * k / 2 = k by omega, show (2 * k + 1) / 2 = k by omega]
    omega
end Go.Proofs.Ytdadokcodklfgaa
/- The contracts of the copies of configurations. -/
namespace Go.Proofs.Ytdadokcodklfgaa
open Go.RowKit Go.Deep

theorem row_o1' (w : World) (o : Obj) (t : TypeId) (cs : Array Value) : Row ((w.alloc (.cells cs t)).alloc o) w.heap.size t cs := row_o1 w o t cs
theorem row_o2' (w : World) (o o' : Obj) (t : TypeId) (cs : Array Value) : Row (((w.alloc (.cells cs t)).alloc o).alloc o') w.heap.size t cs := row_o2 w o o' t cs
theorem row_m2 (w : World) (o o' : Obj) (t : TypeId) (cs : Array Value) : Row (((w.alloc o).alloc (.cells cs t)).alloc o') (w.heap.size + 1) t cs := row_n2 w o o' t cs
theorem row_m3 (w : World) (o o' : Obj) (t : TypeId) (cs : Array Value) : Row (((w.alloc o).alloc o').alloc (.cells cs t)) (w.heap.size + 1 + 1) t cs := row_n3 w o o' t cs
theorem IRow.leaf {w : World} {g : Nat} {xs : List Int} (h : IRow w g xs) {S : Nat → Prop} (hS : S g) : LeafZ w S (some ⟨g, 0, none⟩) xs := by
  obtain ⟨cs, hr, hf⟩ := h
  exact .inr ⟨g, cs, rfl, hS, hr, fun j hj => hf.2 j hj⟩
/-- What a copy of a tile answers. -/
def TTOut (w : World) (v : Int) (x : List Int) (r : Bool) (y : List Int) (e : Ending) (w' : World) : Prop := ∃ g1 g2 : Nat, e = .returned (.agg #[.int .i64 v, .slice (some ⟨g1, 0, none⟩) x.length x.length, .bool r, .slice (some ⟨g2, 0, none⟩) y.length y.length]) ∧ (w.heap.size ≤ g1 ∧ w.heap.size ≤ g2 ∧ g1 ≠ g2) ∧ IRow w' g1 x ∧ IRow w' g2 y ∧ Below w.heap.size w w'
set_option maxRecDepth 10000 in
set_option maxHeartbeats 1600000 in
theorem toTile_any (v : Int) (A B : Option Addr) (m1 c1 m2 c2 : Nat) (r : Bool) (x y : List Int) (w : World) (hx : IntsAt w w.heap.size A x) (hy : IntsAt w w.heap.size B y) (h1 : x.length = m1) (h2 : y.length = m2) (l1 : m1 ≤ 2000000) (l2 : m2 ≤ 2000000) :
    Calls Try.prog 110 #[.agg #[.int .i64 v, .slice A m1 c1, .bool r, .slice B m2 c2]] w (TTOut w v x r y) := by
  subst h1 h2
  have HX := Lib.hid hx
  have HY := Lib.hid hy
  have HA0 := Lib.hid (row_o2' w (.cells #[.int .i64 0, .slice none 0 0, .bool false, .slice none 0 0] 33) (.cells #[.int .i64 v, .slice none 0 0, .bool false, .slice none 0 0] 33) 143 #[.int .i64 v, .slice A x.length c1, .bool r, .slice B y.length c2])
  have HB0 := Lib.hid (row_m2 w (.cells #[.int .i64 v, .slice A x.length c1, .bool r, .slice B y.length c2] 143) (.cells #[.int .i64 v, .slice none 0 0, .bool false, .slice none 0 0] 33) 33 #[.int .i64 0, .slice none 0 0, .bool false, .slice none 0 0])
  have HC0 := Lib.hid (row_m3 w (.cells #[.int .i64 v, .slice A x.length c1, .bool r, .slice B y.length c2] 143) (.cells #[.int .i64 0, .slice none 0 0, .bool false, .slice none 0 0] 33) 33 #[.int .i64 v, .slice none 0 0, .bool false, .slice none 0 0])
  have HL0 : Hid (Below w.heap.size w (((w.alloc (.cells #[.int .i64 v, .slice A x.length c1, .bool r, .slice B y.length c2] 143)).alloc (.cells #[.int .i64 0, .slice none 0 0, .bool false, .slice none 0 0] 33)).alloc (.cells #[.int .i64 v, .slice none 0 0, .bool false, .slice none 0 0] 33))) := Lib.hid ((((Below.refl _ _).alloc (Nat.le_refl _) _).alloc (by simp) _).alloc (by simp; omega) _)
  clear hx hy
  go_enter Try.func110, Try.ntmps110
  go_wp2_with fail
  generalize ((w.alloc (.cells #[.int .i64 v, .slice A x.length c1, .bool r, .slice B y.length c2] 143)).alloc (.cells #[.int .i64 0, .slice none 0 0, .bool false, .slice none 0 0] 33)).alloc (.cells #[.int .i64 v, .slice none 0 0, .bool false, .slice none 0 0] 33) = w0 at *
  refine (toIntS_row A c1 x _ ((HX.out.below HL0.out).mono HL0.out.size) l1).mono ?_
  rintro e w1 ⟨rfl, hb1, hi1⟩
  have HI1 := Lib.hid hi1
  have hz1 := hb1.size
  have hzC : w.heap.size + 1 + 1 < w0.heap.size := HC0.out.lt
  have HA1 := HA0.out.below hb1 HA0.out.lt
  have hB1 := HB0.out.below hb1 HB0.out.lt
  have hC1 := HC0.out.below hb1 HC0.out.lt
  have HB1 := Lib.hid hB1
  have HL1 := Lib.hid (HL0.out.trans (hb1.mono HL0.out.size))
  have a2 := HA1.cell 2
  have a3 := HA1.cell 3
  have d1 := hC1.cell 1
  have d2 := hC1.cell 2
  have f1 := hC1.frozen 1
  have f2 := hC1.frozen 2
  have hlt1 : w0.heap.size < w1.heap.size := hi1.lt
  simp at a2 a3 d1 d2
  have HC2 := Lib.hid ((hC1.set 1 (.slice (some ⟨w0.heap.size, 0, none⟩) x.length x.length)).set 2 (.bool r))
  have hk2 : ∀ b, b ≠ w.heap.size + 1 + 1 → ((w1.setCell ⟨w.heap.size + 1 + 1, 1, none⟩ (.slice (some ⟨w0.heap.size, 0, none⟩) x.length x.length)).setCell ⟨w.heap.size + 1 + 1, 2, none⟩ (.bool r)).heap[b]? = w1.heap[b]? := fun b hb => (Below.heap_setCell _ _ _ _ hb).trans (Below.heap_setCell _ _ _ _ hb)
  have hz2 : w1.heap.size ≤ ((w1.setCell ⟨w.heap.size + 1 + 1, 1, none⟩ (.slice (some ⟨w0.heap.size, 0, none⟩) x.length x.length)).setCell ⟨w.heap.size + 1 + 1, 2, none⟩ (.bool r)).heap.size := by simp [World.setCell]
  have HL2 := Lib.hid ((HL1.out.setCell (p := ⟨w.heap.size + 1 + 1, 1, none⟩) (by show w.heap.size ≤ w.heap.size + 1 + 1; omega) (.slice (some ⟨w0.heap.size, 0, none⟩) x.length x.length)).setCell (p := ⟨w.heap.size + 1 + 1, 2, none⟩) (by show w.heap.size ≤ w.heap.size + 1 + 1; omega) (.bool r))
  have HB2 : Hid (Row ((w1.setCell ⟨w.heap.size + 1 + 1, 1, none⟩ (.slice (some ⟨w0.heap.size, 0, none⟩) x.length x.length)).setCell ⟨w.heap.size + 1 + 1, 2, none⟩ (.bool r)) (w.heap.size + 1) 33 #[.int .i64 0, .slice none 0 0, .bool false, .slice none 0 0]) := Lib.hid ((hk2 _ (by omega)).trans hB1)
  have HI2 : Hid (IRow ((w1.setCell ⟨w.heap.size + 1 + 1, 1, none⟩ (.slice (some ⟨w0.heap.size, 0, none⟩) x.length x.length)).setCell ⟨w.heap.size + 1 + 1, 2, none⟩ (.bool r)) w0.heap.size x) := Lib.hid (by
    obtain ⟨cs, hr, hf⟩ := hi1
    exact ⟨cs, (hk2 _ (by omega)).trans hr, hf⟩)
  clear hi1 HI1 HA0 HB0 HC0 HL0 HL1 HB1 hB1 hC1 HA1 hk2 hb1
  go_wp2_with fail
  generalize (w1.setCell ⟨w.heap.size + 1 + 1, 1, none⟩ (.slice (some ⟨w0.heap.size, 0, none⟩) x.length x.length)).setCell ⟨w.heap.size + 1 + 1, 2, none⟩ (.bool r) = w2 at *
  refine (toIntS_row B c2 y _ ((HY.out.below HL2.out).mono HL2.out.size) l2).mono ?_
  rintro e w3 ⟨rfl, hb3, hi3⟩
  have hlt3 : w2.heap.size < w3.heap.size := hi3.lt
  have hC3 := HC2.out.below hb3 HC2.out.lt
  have hB3 := HB2.out.below hb3 HB2.out.lt
  have hI3 := HI2.out.below hb3 (by omega)
  have HL3 := Lib.hid (HL2.out.trans (hb3.mono HL2.out.size))
  have d0 := hC3.cell 0
  have d1 := hC3.cell 1
  have d2 := hC3.cell 2
  have d3 := hC3.cell 3
  have f3 := hC3.frozen 3
  have e0 := hB3.cell 0
  have e1 := hB3.cell 1
  have e2 := hB3.cell 2
  have e3 := hB3.cell 3
  have g0 := hB3.frozen 0
  have g1 := hB3.frozen 1
  have g2 := hB3.frozen 2
  have g3 := hB3.frozen 3
  simp at d0 d1 d2 d3 e0 e1 e2 e3
  have HC3 := Lib.hid hC3
  have HB3 := Lib.hid hB3
  have HI3 := Lib.hid hI3
  have HJ3 := Lib.hid hi3
  clear hC3 hB3 hI3 hi3 hb3 HC2 HB2 HI2 HL2
  go_wp2
  obtain ⟨W, hW⟩ : ∃ W, W = set4 (w3.setCell ⟨w.heap.size + 1 + 1, 3, none⟩ (.slice (some ⟨w2.heap.size, 0, none⟩) y.length y.length)) (w.heap.size + 1) (.int .i64 v) (.slice (some ⟨w0.heap.size, 0, none⟩) x.length x.length) (.bool r) (.slice (some ⟨w2.heap.size, 0, none⟩) y.length y.length) := ⟨_, rfl⟩
  have hrB : Row W (w.heap.size + 1) 33 #[.int .i64 v, .slice (some ⟨w0.heap.size, 0, none⟩) x.length x.length, .bool r, .slice (some ⟨w2.heap.size, 0, none⟩) y.length y.length] := by
    rw [hW]
    exact set4_row (show Row _ _ _ _ from (Below.heap_setCell _ _ _ _ (by show w.heap.size + 1 ≠ w.heap.size + 1 + 1; omega)).trans HB3.out) _ _ _ _
  have hkW : ∀ b, b ≠ w.heap.size + 1 → b ≠ w.heap.size + 1 + 1 → W.heap[b]? = w3.heap[b]? := fun b h1 h2 => by
    rw [hW]
    exact (set4_far _ _ _ _ _ h1).trans (Below.heap_setCell _ _ _ _ h2)
  have hLW : Below w.heap.size w W := by
    rw [hW]
    exact set4_below (HL3.out.setCell (p := ⟨w.heap.size + 1 + 1, 3, none⟩) (by show w.heap.size ≤ w.heap.size + 1 + 1; omega) _) (by omega) _ _ _ _
  change bodyPost _ _ _ _ _ (set4 (w3.setCell ⟨w.heap.size + 1 + 1, 3, none⟩ (.slice (some ⟨w2.heap.size, 0, none⟩) y.length y.length)) (w.heap.size + 1) (.int .i64 v) (.slice (some ⟨w0.heap.size, 0, none⟩) x.length x.length) (.bool r) (.slice (some ⟨w2.heap.size, 0, none⟩) y.length y.length))
  rw [← hW]
  have t0 := hrB.cell 0
  have t1 := hrB.cell 1
  have t2 := hrB.cell 2
  have t3 := hrB.cell 3
  simp at t0 t1 t2 t3
  refine bodyPost_ret (v := .agg #[.int .i64 v, .slice (some ⟨w0.heap.size, 0, none⟩) x.length x.length, .bool r, .slice (some ⟨w2.heap.size, 0, none⟩) y.length y.length]) (by simp [results, Try.results110, go_sem, t0, t1, t2, t3]) rfl ⟨w0.heap.size, w2.heap.size, rfl, ⟨by omega, by omega, by omega⟩, ?_, ?_, hLW⟩
  · obtain ⟨cs, hr, hf⟩ := HI3.out
    exact ⟨cs, (hkW _ (by omega) (by omega)).trans hr, hf⟩
  · obtain ⟨cs, hr, hf⟩ := HJ3.out
    exact ⟨cs, (hkW _ (by omega) (by omega)).trans hr, hf⟩
theorem make_tiles (n : Nat) (hn : n ≤ 2000000) (w : World) :
    (Instr.makeSlice 23 (.int .i64 (n : Int)) (.int .i64 (n : Int))).run Try.prog w = .ok (.slice (some ⟨w.heap.size, 0, none⟩) n n) (w.alloc (.cells (madeCells #[.int .i64 0, .slice none 0 0, .bool false, .slice none 0 0] (n * 4)) 33)) := by
  obtain ⟨i0, hi, hz0, hz1, hz2⟩ := info_parts Try.infoTl
  have hr := run_make (P := Try.prog) w 23 33 i0 _ Try.underlying23 hi hz0 .i64 .i64 n n (by omega) (Int.le_refl _) (by rw [hz2]; omega) (by omega)
  simp only [Int.toNat_natCast, hz1] at hr
  exact hr
theorem make_pads (n : Nat) (hn : n ≤ 2000000) (w : World) :
    (Instr.makeSlice 24 (.int .i64 (n : Int)) (.int .i64 (n : Int))).run Try.prog w = .ok (.slice (some ⟨w.heap.size, 0, none⟩) n n) (w.alloc (.cells (madeCells #[.int .i64 0, .bool false] (n * 2)) 81)) := by
  obtain ⟨i0, hi, hz0, hz1, hz2⟩ := info_parts Try.infoPd
  have hr := run_make (P := Try.prog) w 24 81 i0 _ Try.underlying24 hi hz0 .i64 .i64 n n (by omega) (Int.le_refl _) (by rw [hz2]; omega) (by omega)
  simp only [Int.toNat_natCast, hz1] at hr
  exact hr
/-- The row begins with these cells. -/
def HasC (cs : Array Value) (hs : List Value) : Prop := ∀ j, j < hs.length → cs[j]? = hs[j]?
theorem HasC.nil (cs : Array Value) : HasC cs [] := fun j hj => absurd hj (by simp)
theorem HasC.four {cs : Array Value} {hs : List Value} (h : HasC cs hs) {o : Nat} (ho : hs.length = o) (hsz : o + 3 < cs.size) (a b c d : Value) : HasC ((((cs.setIfInBounds o a).setIfInBounds (o + 1) b).setIfInBounds (o + 2) c).setIfInBounds (o + 3) d) (hs ++ [a, b, c, d]) := fun j hj => by
  subst ho
  by_cases e : j < hs.length
  · rw [Array.getElem?_setIfInBounds_ne (by omega), Array.getElem?_setIfInBounds_ne (by omega), Array.getElem?_setIfInBounds_ne (by omega), Array.getElem?_setIfInBounds_ne (by omega), List.getElem?_append_left e]
    exact h j e
  · rw [List.getElem?_append_right (by omega)]
    obtain ⟨i, rfl⟩ : ∃ i, j = hs.length + i := ⟨j - hs.length, by omega⟩
    rw [show hs.length + i - hs.length = i by omega]
    simp at hj
    match i, hj with
    | 0, _ => rw [Array.getElem?_setIfInBounds_ne (by omega), Array.getElem?_setIfInBounds_ne (by omega), Array.getElem?_setIfInBounds_ne (by omega), Nat.add_zero, Array.getElem?_setIfInBounds_self_of_lt (by omega)]; rfl
    | 1, _ => rw [Array.getElem?_setIfInBounds_ne (by omega), Array.getElem?_setIfInBounds_ne (by omega), Array.getElem?_setIfInBounds_self_of_lt (by simp; omega)]; rfl
    | 2, _ => rw [Array.getElem?_setIfInBounds_ne (by omega), Array.getElem?_setIfInBounds_self_of_lt (by simp; omega)]; rfl
    | 3, _ => rw [Array.getElem?_setIfInBounds_self_of_lt (by simp; omega)]; rfl
    | i + 4, hj => omega
theorem HasC.two {cs : Array Value} {hs : List Value} (h : HasC cs hs) {o : Nat} (ho : hs.length = o) (hsz : o + 1 < cs.size) (a b : Value) : HasC ((cs.setIfInBounds o a).setIfInBounds (o + 1) b) (hs ++ [a, b]) := fun j hj => by
  subst ho
  by_cases e : j < hs.length
  · rw [Array.getElem?_setIfInBounds_ne (by omega), Array.getElem?_setIfInBounds_ne (by omega), List.getElem?_append_left e]
    exact h j e
  · rw [List.getElem?_append_right (by omega)]
    obtain ⟨i, rfl⟩ : ∃ i, j = hs.length + i := ⟨j - hs.length, by omega⟩
    rw [show hs.length + i - hs.length = i by omega]
    simp at hj
    match i, hj with
    | 0, _ => rw [Array.getElem?_setIfInBounds_ne (by omega), Nat.add_zero, Array.getElem?_setIfInBounds_self_of_lt (by omega)]; rfl
    | 1, _ => rw [Array.getElem?_setIfInBounds_self_of_lt (by simp; omega)]; rfl
    | i + 2, hj => omega
theorem own_full {w : World} {B g n z : Nat} {t : TypeId} {cs : Array Value} {xs : List Value} (h : Row w g t cs) (hB : B ≤ g) (hs : cs.size = n * z) (hm : n ≤ maxLen) (hx : xs.length = n * z) (hc : HasC cs xs) : w.ownsRow B t z (.slice (some ⟨g, 0, none⟩) n n) n xs := by
  refine ⟨hx, .inr ⟨g, n, cs, rfl, hB, h, Nat.le_refl _, hm, hs, ?_⟩⟩
  apply List.ext_getElem?
  intro j
  rw [List.getElem?_take, Array.getElem?_toList]
  by_cases e : j < n * z
  · rw [if_pos e]; exact hc j (by omega)
  · rw [if_neg e, List.getElem?_eq_none (by omega)]
theorem take_tl {α : Type} (ts : List α) (d : α) {k : Nat} (hk : k < ts.length) : ts.take (k + 1) = ts.take k ++ [ts.getD k d] := by
  rw [List.take_add_one, List.getElem?_eq_getElem hk, List.getD_eq_getElem?_getD, List.getElem?_eq_getElem hk]
  rfl
/-- Four cells of a row stored one after another, from o on. -/
def set4o (w : World) (g o : Nat) (a b c d : Value) : World := (((w.setCell ⟨g, o, none⟩ a).setCell ⟨g, o + 1, none⟩ b).setCell ⟨g, o + 2, none⟩ c).setCell ⟨g, o + 3, none⟩ d
theorem set4o_row {w : World} {g : Nat} {t : TypeId} {cs : Array Value} (h : Row w g t cs) (o : Nat) (a' b' c' d' : Value) : Row (set4o w g o a' b' c' d') g t ((((cs.setIfInBounds o a').setIfInBounds (o + 1) b').setIfInBounds (o + 2) c').setIfInBounds (o + 3) d') := (((h.set o a').set (o + 1) b').set (o + 2) c').set (o + 3) d'
theorem set4o_far (w : World) {g b : Nat} (o : Nat) (a' b' c' d' : Value) (hb : b ≠ g) : (set4o w g o a' b' c' d').heap[b]? = w.heap[b]? := by
  unfold set4o
  rw [Below.heap_setCell _ _ _ _ hb, Below.heap_setCell _ _ _ _ hb, Below.heap_setCell _ _ _ _ hb, Below.heap_setCell _ _ _ _ hb]
theorem set4o_below {B g : Nat} {a w : World} (h : Below B a w) (hg : B ≤ g) (o : Nat) (a' b' c' d' : Value) : Below B a (set4o w g o a' b' c' d') :=
  (((h.setCell (p := ⟨g, o, none⟩) hg _).setCell (p := ⟨g, o + 1, none⟩) hg _).setCell (p := ⟨g, o + 2, none⟩) hg _).setCell (p := ⟨g, o + 3, none⟩) hg _
theorem set4o_size (w : World) (g o : Nat) (a b c d : Value) : (set4o w g o a b c d).heap.size = w.heap.size := by simp [set4o, World.setCell]
/-- What a copy of a list of tiles answers. -/
def TSOut (w : World) (ts : List Tl) (n : Nat) (e : Ending) (w' : World) : Prop := ∃ (g : Nat) (hs : List Value), e = .returned (.slice (some ⟨g, 0, none⟩) n n) ∧ TlAt w' w.heap.size ts hs (some ⟨g, 0, none⟩) n ∧ DistH hs ∧ HdsLt hs w'.heap.size ∧ Below w.heap.size w w'
set_option maxRecDepth 10000 in
set_option maxHeartbeats 1600000 in
theorem toTileS_any (A : Option Addr) (n cap : Nat) (ts : List Tl) (w : World) (hx : TlIn w w.heap.size A ts) (hn : ts.length = n) (hr : TlBd ts) :
    Calls Try.prog 73 #[.slice A n cap] w (TSOut w ts n) := by
  have HX := Lib.hid hx
  have HN := Lib.hid hn
  have hl : n ≤ 2000000 := by have := hr.1; omega
  have HT := Lib.hid hr.2
  clear hx hn hr
  have hmk := make_tiles n hl
  go_enter Try.func73, Try.ntmps73
  go_wp2
  clear hmk
  go_loopw [4] (fun iv wr => ∃ (k : Nat) (cs : Array Value) (hs : List Value), k ≤ n ∧ iv = .int .i64 k ∧ Hid (Row wr w.heap.size 33 cs) ∧ Hid (cs.size = n * 4 ∧ HasC cs hs) ∧ Hid (TlHdrs wr (OffA wr w.heap.size (some ⟨w.heap.size, 0, none⟩)) hs (ts.take k)) ∧ Hid (DistH hs ∧ HdsLt hs wr.heap.size) ∧ Hid (Below w.heap.size w wr)) (fun iv _ => n - (intOf iv).toNat)
  case atStart => exact ⟨0, _, [], Nat.zero_le _, rfl, Lib.hid (heap_alloc_new w _), Lib.hid ⟨by rw [size_madeCells], HasC.nil _⟩, Lib.hid (TlHdrs.nil _ _), Lib.hid ⟨DistH.nil, fun u hu => by simp at hu⟩, Lib.hid ((Below.refl _ _).alloc (Nat.le_refl _) _)⟩
  case round =>
    obtain ⟨k, cs, hs, hk, rfl, HR, HC, HH, HD, HB⟩ := hrel
    by_cases hlt : k < n
    · have hkt : k < ts.length := by rw [HN.out]; exact hlt
      obtain ⟨b, off, rfl, hbl, A1, c1, A2, c2, ⟨p0, p1, p2, p3⟩, ⟨hA1, hA2⟩, _, _⟩ := HX.out k hkt
      obtain ⟨t1, t2⟩ := HT.out k hkt
      have q0 := (HB.out.cell (p := ⟨b, off + k * 4, none⟩) hbl).trans p0
      have q1 := (HB.out.cell (p := ⟨b, off + k * 4 + 1, none⟩) hbl).trans p1
      have q2 := (HB.out.cell (p := ⟨b, off + k * 4 + 2, none⟩) hbl).trans p2
      have q3 := (HB.out.cell (p := ⟨b, off + k * 4 + 3, none⟩) hbl).trans p3
      have HTK : Hid (ts.take (k + 1) = ts.take k ++ [((ts.getD k tl0).1, (ts.getD k tl0).2.1, (ts.getD k tl0).2.2.1, (ts.getD k tl0).2.2.2)]) := Lib.hid (take_tl ts tl0 hkt)
      have HHL : Hid (hs.length = k * 4) := Lib.hid (by have := HH.out.1; rw [List.length_take, Nat.min_eq_left (by omega)] at this; exact this)
      have hA1' := (hA1.below HB.out).mono HB.out.size
      have hA2' := (hA2.below HB.out).mono HB.out.size
      clear p0 p1 p2 p3 hA1 hA2
      generalize (ts.getD k tl0).2.2.2 = y at *
      generalize (ts.getD k tl0).2.2.1 = r at *
      generalize (ts.getD k tl0).2.1 = x at *
      generalize (ts.getD k tl0).1 = v at *
      have HT := Lib.hid (toTile_any v A1 A2 x.length c1 y.length c2 r x y wr hA1' hA2' rfl rfl t1 t2)
      clear hA1' hA2' t1 t2
      go_wp2_with fail
      refine HT.out.mono ?_
      rintro e w1 ⟨g1, g2, rfl, ⟨hg1, hg2, hne⟩, hi1, hi2, hb1⟩
      have hR1 := HR.out.below hb1 HR.out.lt
      have hwz : w.heap.size < wr.heap.size := HR.out.lt
      have hsz : k * 4 + 3 < cs.size := by rw [HC.out.1]; omega
      have hl1 := hi1.lt
      have hl2 := hi2.lt
      have hz1 := hb1.size
      have c0 : w1.cell? ⟨w.heap.size, k * 4, none⟩ = some (cs[k * 4]'(by omega)) := by rw [hR1.cell, Array.getElem?_eq_getElem (by omega)]
      have c1' : w1.cell? ⟨w.heap.size, k * 4 + 1, none⟩ = some (cs[k * 4 + 1]'(by omega)) := by rw [hR1.cell, Array.getElem?_eq_getElem (by omega)]
      have c2' : w1.cell? ⟨w.heap.size, k * 4 + 2, none⟩ = some (cs[k * 4 + 2]'(by omega)) := by rw [hR1.cell, Array.getElem?_eq_getElem (by omega)]
      have c3 : w1.cell? ⟨w.heap.size, k * 4 + 3, none⟩ = some (cs[k * 4 + 3]'hsz) := by rw [hR1.cell, Array.getElem?_eq_getElem hsz]
      have f0 := hR1.frozen (k * 4)
      have f1 := hR1.frozen (k * 4 + 1)
      have f2 := hR1.frozen (k * 4 + 2)
      have f3 := hR1.frozen (k * 4 + 3)
      have HR2 := Lib.hid (set4o_row hR1 (k * 4) (.int .i64 v) (.slice (some ⟨g1, 0, none⟩) x.length x.length) (.bool r) (.slice (some ⟨g2, 0, none⟩) y.length y.length))
      have HC2 := Lib.hid (And.intro (show ((((cs.setIfInBounds (k * 4) (.int .i64 v)).setIfInBounds (k * 4 + 1) (.slice (some ⟨g1, 0, none⟩) x.length x.length)).setIfInBounds (k * 4 + 2) (.bool r)).setIfInBounds (k * 4 + 3) (.slice (some ⟨g2, 0, none⟩) y.length y.length)).size = n * 4 by simpa using HC.out.1) (HC.out.2.four HHL.out hsz (.int .i64 v) (.slice (some ⟨g1, 0, none⟩) x.length x.length) (.bool r) (.slice (some ⟨g2, 0, none⟩) y.length y.length)))
      have HB2 := Lib.hid (set4o_below (HB.out.trans (hb1.mono HB.out.size)) (Nat.le_refl _) (k * 4) (.int .i64 v) (.slice (some ⟨g1, 0, none⟩) x.length x.length) (.bool r) (.slice (some ⟨g2, 0, none⟩) y.length y.length))
      obtain ⟨w2, hw2⟩ : ∃ w2, w2 = set4o w1 w.heap.size (k * 4) (.int .i64 v) (.slice (some ⟨g1, 0, none⟩) x.length x.length) (.bool r) (.slice (some ⟨g2, 0, none⟩) y.length y.length) := ⟨_, rfl⟩
      have hz2 : w2.heap.size = w1.heap.size := by rw [hw2, set4o_size]
      have hk2 : ∀ b, b ≠ w.heap.size → w2.heap[b]? = w1.heap[b]? := fun b h => by rw [hw2]; exact set4o_far _ _ _ _ _ _ h
      have HH2 : Hid (TlHdrs w2 (OffA w2 w.heap.size (some ⟨w.heap.size, 0, none⟩)) (hs ++ tlv v (some ⟨g1, 0, none⟩) x.length x.length r (some ⟨g2, 0, none⟩) y.length y.length) (ts.take (k + 1))) := Lib.hid (by
        rw [HTK.out]
        have hno : ∀ b, OffA wr w.heap.size (some ⟨w.heap.size, 0, none⟩) b → b ≠ w.heap.size := fun b h e => h.2.2 (by rw [e]; rfl)
        refine (HH.out.kept (w' := w2) (T := OffA w2 w.heap.size (some ⟨w.heap.size, 0, none⟩)) (fun b h => (hk2 b (hno b h)).trans (hb1.block b h.2.1)) (OffA.on (by omega))).snoc v r rfl rfl ?_ ?_ (Nat.le_refl _) (Nat.le_refl _)
        · obtain ⟨cs', hr, hf⟩ := hi1
          exact .inr ⟨g1, cs', rfl, ⟨by omega, by omega, fun e => by simp at e; omega⟩, (hk2 _ (by omega)).trans hr, fun j hj => hf.2 j hj⟩
        · obtain ⟨cs', hr, hf⟩ := hi2
          exact .inr ⟨g2, cs', rfl, ⟨by omega, by omega, fun e => by simp at e; omega⟩, (hk2 _ (by omega)).trans hr, fun j hj => hf.2 j hj⟩)
      have HD2 : Hid (DistH (hs ++ tlv v (some ⟨g1, 0, none⟩) x.length x.length r (some ⟨g2, 0, none⟩) y.length y.length) ∧ HdsLt (hs ++ tlv v (some ⟨g1, 0, none⟩) x.length x.length r (some ⟨g2, 0, none⟩) y.length y.length) w2.heap.size) := Lib.hid ⟨dist_snoc_tl HD.out.1 HD.out.2 hg1 hg2 hne, HD.out.2.snoc (by omega) (by omega) (by omega)⟩
      rw [hw2] at HH2 HD2
      clear hz2 hk2 hw2 hR1 hb1 hi1 hi2 HT HR HC HH HD HB HTK HHL q0 q1 q2 q3
      go_wp2
      go_roundw
      case rel => exact ⟨k + 1, _, _, by omega, by go_num, HR2, HC2, HH2, HD2, HB2⟩
      case measure => simp [intOf]; omega
    · obtain rfl : k = n := by omega
      go_wp2
      go_ret
      have hh := HH.out
      rw [← HN.out, List.take_length] at hh
      refine ⟨w.heap.size, hs, rfl, ⟨?_, hh⟩, HD.out.1, HD.out.2, HB.out⟩
      rw [HN.out]
      exact own_full HR.out (Nat.le_refl _) HC.out.1 (by unfold maxLen; omega) (by rw [hh.1, HN.out]) HC.out.2
set_option maxRecDepth 10000 in
theorem toPad_any (v : Int) (r : Bool) (w : World) : Calls Try.prog 111 #[.agg #[.int .i64 v, .bool r]] w fun e w' => e = .returned (.agg #[.int .i64 v, .bool r]) ∧ Below w.heap.size w w' := by
  have hL0 : ∀ cs, Below w.heap.size w (((w.alloc (.cells #[.int .i64 v, .bool r] 148)).alloc (.cells #[.int .i64 v, .bool r] 81)).alloc (.cells cs 81)) := fun cs => (((Below.refl _ _).alloc (Nat.le_refl _) _).alloc (by simp) _).alloc (by simp; omega) _
  have hL := hL0 #[.int .i64 v, .bool r]
  have HL := Lib.hid hL
  have hr := row_m2 w (.cells #[.int .i64 v, .bool r] 148) (.cells #[.int .i64 v, .bool r] 81) 81 #[.int .i64 v, .bool r]
  have t0 := hr.cell 0
  have t1 := hr.cell 1
  simp at t0 t1
  clear hL0 hL hr
  go_enter Try.func111, Try.ntmps111
  go_wp2
  refine bodyPost_ret (v := .agg #[.int .i64 v, .bool r]) (by simp [results, Try.results111, go_sem, t0, t1]) rfl ⟨rfl, HL.out⟩
/-- What a copy of a list of pads answers. -/
def PSOut (w : World) (ps : List Pd) (n : Nat) (e : Ending) (w' : World) : Prop := ∃ (g : Nat), e = .returned (.slice (some ⟨g, 0, none⟩) n n) ∧ PdAt w' w.heap.size ps (some ⟨g, 0, none⟩) n ∧ Below w.heap.size w w'
theorem pvs_take (ps : List Pd) {k : Nat} (hk : k < ps.length) : pvs (ps.take (k + 1)) = pvs (ps.take k) ++ [.int .i64 (ps.getD k pd0).1, .bool (ps.getD k pd0).2] := by rw [take_tl ps pd0 hk, pvs_snoc]
set_option maxRecDepth 10000 in
set_option maxHeartbeats 800000 in
theorem toPadS_any (A : Option Addr) (n cap : Nat) (ps : List Pd) (w : World) (hx : PdIn w w.heap.size A ps) (hn : ps.length = n) (hl : n ≤ 2000000) :
    Calls Try.prog 74 #[.slice A n cap] w (PSOut w ps n) := by
  have HX := Lib.hid hx
  have HN := Lib.hid hn
  clear hx hn
  have hmk := make_pads n hl
  go_enter Try.func74, Try.ntmps74
  go_wp2
  clear hmk
  go_loopw [4] (fun iv wr => ∃ (k : Nat) (cs : Array Value), k ≤ n ∧ iv = .int .i64 k ∧ Hid (Row wr w.heap.size 81 cs) ∧ Hid (cs.size = n * 2 ∧ HasC cs (pvs (ps.take k))) ∧ Hid (Below w.heap.size w wr)) (fun iv _ => n - (intOf iv).toNat)
  case atStart => exact ⟨0, _, Nat.zero_le _, rfl, Lib.hid (heap_alloc_new w _), Lib.hid ⟨by rw [size_madeCells], HasC.nil _⟩, Lib.hid ((Below.refl _ _).alloc (Nat.le_refl _) _)⟩
  case round =>
    obtain ⟨k, cs, hk, rfl, HR, HC, HB⟩ := hrel
    by_cases hlt : k < n
    · have hkt : k < ps.length := by rw [HN.out]; exact hlt
      obtain ⟨b, off, rfl, hbl, p0, p1⟩ := HX.out k hkt
      have q0 := (HB.out.cell (p := ⟨b, off + k * 2, none⟩) hbl).trans p0
      have q1 := (HB.out.cell (p := ⟨b, off + k * 2 + 1, none⟩) hbl).trans p1
      have HTK := Lib.hid (pvs_take ps hkt)
      have HHL : Hid ((pvs (ps.take k)).length = k * 2) := Lib.hid (by rw [pvs_len, List.length_take, Nat.min_eq_left (by omega)])
      clear p0 p1
      generalize (ps.getD k pd0).2 = r at *
      generalize (ps.getD k pd0).1 = v at *
      go_wp2_with fail
      refine (toPad_any v r wr).mono ?_
      rintro e w1 ⟨rfl, hb1⟩
      have hR1 := HR.out.below hb1 HR.out.lt
      have hsz : k * 2 + 1 < cs.size := by rw [HC.out.1]; omega
      have c0 : w1.cell? ⟨w.heap.size, k * 2, none⟩ = some (cs[k * 2]'(by omega)) := by rw [hR1.cell, Array.getElem?_eq_getElem (by omega)]
      have c1 : w1.cell? ⟨w.heap.size, k * 2 + 1, none⟩ = some (cs[k * 2 + 1]'hsz) := by rw [hR1.cell, Array.getElem?_eq_getElem hsz]
      have f0 := hR1.frozen (k * 2)
      have f1 := hR1.frozen (k * 2 + 1)
      have HR2 := Lib.hid ((hR1.set (k * 2) (.int .i64 v)).set (k * 2 + 1) (.bool r))
      have HC2 : Hid (((cs.setIfInBounds (k * 2) (.int .i64 v)).setIfInBounds (k * 2 + 1) (.bool r)).size = n * 2 ∧ HasC ((cs.setIfInBounds (k * 2) (.int .i64 v)).setIfInBounds (k * 2 + 1) (.bool r)) (pvs (ps.take (k + 1)))) := Lib.hid ⟨by simpa using HC.out.1, by rw [HTK.out]; exact HC.out.2.two HHL.out hsz _ _⟩
      have HB2 := Lib.hid (((HB.out.trans (hb1.mono HB.out.size)).setCell (p := ⟨w.heap.size, k * 2, none⟩) (Nat.le_refl _) (.int .i64 v)).setCell (p := ⟨w.heap.size, k * 2 + 1, none⟩) (Nat.le_refl _) (.bool r))
      clear hR1 hb1 HR HC HB HTK HHL q0 q1
      go_wp2
      go_roundw
      case rel => exact ⟨k + 1, _, by omega, by go_num, HR2, HC2, HB2⟩
      case measure => simp [intOf]; omega
    · obtain rfl : k = n := by omega
      go_wp2
      go_ret
      have hh := HC.out.2
      rw [← HN.out, List.take_length] at hh
      refine ⟨w.heap.size, rfl, ?_, HB.out⟩
      unfold PdAt
      rw [HN.out]
      exact own_full HR.out (Nat.le_refl _) HC.out.1 (by unfold maxLen; omega) (by rw [pvs_len, HN.out]) hh
/-- What a copy of a configuration answers. -/
def TCOut (w : World) (ts : List Tl) (ps : List Pd) (n m : Nat) (e : Ending) (w' : World) : Prop := ∃ (g gp : Nat) (hs : List Value), e = .returned (cfv (some ⟨g, 0, none⟩) n n (some ⟨gp, 0, none⟩) m m) ∧ CfAt w' w.heap.size ts ps hs (some ⟨g, 0, none⟩) n (some ⟨gp, 0, none⟩) m ∧ HdsLt hs w'.heap.size ∧ Below w.heap.size w w'
set_option maxRecDepth 10000 in
set_option maxHeartbeats 800000 in
theorem toConfig_any (TA PA : Option Addr) (n tc m pc : Nat) (ts : List Tl) (ps : List Pd) (w : World) (hx : TlIn w w.heap.size TA ts) (hy : PdIn w w.heap.size PA ps) (hn : ts.length = n) (hm : ps.length = m) (hr : TlBd ts) (hl : m ≤ 2000000) :
    Calls Try.prog 25 #[cfv TA n tc PA m pc] w (TCOut w ts ps n m) := by
  have HX := Lib.hid hx
  have HY := Lib.hid hy
  have HN := Lib.hid hn
  have HM := Lib.hid hm
  have HT := Lib.hid hr
  have HA0 := Lib.hid (row_o2' w (.cells #[.slice none 0 0, .slice none 0 0] 26) (.cells #[.slice none 0 0, .slice none 0 0] 26) 44 #[.slice TA n tc, .slice PA m pc])
  have HB0 := Lib.hid (row_m2 w (.cells #[.slice TA n tc, .slice PA m pc] 44) (.cells #[.slice none 0 0, .slice none 0 0] 26) 26 #[.slice none 0 0, .slice none 0 0])
  have HC0 := Lib.hid (row_m3 w (.cells #[.slice TA n tc, .slice PA m pc] 44) (.cells #[.slice none 0 0, .slice none 0 0] 26) 26 #[.slice none 0 0, .slice none 0 0])
  have HL0 : Hid (Below w.heap.size w (((w.alloc (.cells #[.slice TA n tc, .slice PA m pc] 44)).alloc (.cells #[.slice none 0 0, .slice none 0 0] 26)).alloc (.cells #[.slice none 0 0, .slice none 0 0] 26))) := Lib.hid ((((Below.refl _ _).alloc (Nat.le_refl _) _).alloc (by simp) _).alloc (by simp; omega) _)
  clear hx hy hn hm hr
  go_enter Try.func25, Try.ntmps25
  go_wp2_with fail
  generalize ((w.alloc (.cells #[.slice TA n tc, .slice PA m pc] 44)).alloc (.cells #[.slice none 0 0, .slice none 0 0] 26)).alloc (.cells #[.slice none 0 0, .slice none 0 0] 26) = w0 at *
  refine (toTileS_any TA n tc ts _ ((HX.out.below HL0.out).mono HL0.out.size) HN.out HT.out).mono ?_
  rintro e w1 ⟨g, hs, rfl, ht1, hd1, hl1, hb1⟩
  have hzC : w.heap.size + 1 + 1 < w0.heap.size := HC0.out.lt
  have hA1 := HA0.out.below hb1 HA0.out.lt
  have hB1 := HB0.out.below hb1 HB0.out.lt
  have hC1 := HC0.out.below hb1 HC0.out.lt
  have HL1 := Lib.hid (HL0.out.trans (hb1.mono HL0.out.size))
  have a1 := hA1.cell 1
  have d0 := hC1.cell 0
  have f0 := hC1.frozen 0
  simp at a1 d0
  have HC2 := Lib.hid (hC1.set 0 (.slice (some ⟨g, 0, none⟩) n n))
  have hz1 := hb1.size
  have hz2 : w1.heap.size ≤ (w1.setCell ⟨w.heap.size + 1 + 1, 0, none⟩ (.slice (some ⟨g, 0, none⟩) n n)).heap.size := by simp [World.setCell]
  have HT2 := Lib.hid (ht1.set ⟨w.heap.size + 1 + 1, 0, none⟩ (by show w.heap.size + 1 + 1 < _; omega) (.slice (some ⟨g, 0, none⟩) n n))
  have HL2 := Lib.hid (HL1.out.setCell (p := ⟨w.heap.size + 1 + 1, 0, none⟩) (by show w.heap.size ≤ w.heap.size + 1 + 1; omega) (.slice (some ⟨g, 0, none⟩) n n))
  have HB2 : Hid (Row (w1.setCell ⟨w.heap.size + 1 + 1, 0, none⟩ (.slice (some ⟨g, 0, none⟩) n n)) (w.heap.size + 1) 26 #[.slice none 0 0, .slice none 0 0]) := Lib.hid ((Below.heap_setCell _ _ _ _ (by show w.heap.size + 1 ≠ w.heap.size + 1 + 1; omega)).trans hB1)
  have HD := Lib.hid (And.intro hd1 hl1)
  clear ht1 hd1 hl1 hb1 HA0 HB0 HC0 HL0 HL1 hA1 hB1 hC1
  go_wp2_with fail
  generalize w1.setCell ⟨w.heap.size + 1 + 1, 0, none⟩ (.slice (some ⟨g, 0, none⟩) n n) = w2 at *
  refine (toPadS_any PA m pc ps _ ((HY.out.below HL2.out).mono HL2.out.size) HM.out hl).mono ?_
  rintro e w3 ⟨gp, rfl, hp3, hb3⟩
  have hC3 := HC2.out.below hb3 HC2.out.lt
  have hB3 := HB2.out.below hb3 HB2.out.lt
  have HL3 := Lib.hid (HL2.out.trans (hb3.mono HL2.out.size))
  have hz3 := hb3.size
  have d0 := hC3.cell 0
  have d1 := hC3.cell 1
  have f1 := hC3.frozen 1
  have e0 := hB3.cell 0
  have e1 := hB3.cell 1
  have k0 := hB3.frozen 0
  have k1 := hB3.frozen 1
  simp at d0 d1 e0 e1
  have hrB : Row (((w3.setCell ⟨w.heap.size + 1 + 1, 1, none⟩ (.slice (some ⟨gp, 0, none⟩) m m)).setCell ⟨w.heap.size + 1, 0, none⟩ (.slice (some ⟨g, 0, none⟩) n n)).setCell ⟨w.heap.size + 1, 1, none⟩ (.slice (some ⟨gp, 0, none⟩) m m)) (w.heap.size + 1) 26 #[.slice (some ⟨g, 0, none⟩) n n, .slice (some ⟨gp, 0, none⟩) m m] :=
    (Row.set (show Row _ _ _ _ from (Below.heap_setCell _ _ _ _ (by show w.heap.size + 1 ≠ w.heap.size + 1 + 1; omega)).trans hB3) 0 _).set 1 _
  have t0 := hrB.cell 0
  have t1 := hrB.cell 1
  simp at t0 t1
  have hT3 := HT2.out.on hb3
  have HCF : Hid (CfAt (((w3.setCell ⟨w.heap.size + 1 + 1, 1, none⟩ (.slice (some ⟨gp, 0, none⟩) m m)).setCell ⟨w.heap.size + 1, 0, none⟩ (.slice (some ⟨g, 0, none⟩) n n)).setCell ⟨w.heap.size + 1, 1, none⟩ (.slice (some ⟨gp, 0, none⟩) m m)) w.heap.size ts ps hs (some ⟨g, 0, none⟩) n (some ⟨gp, 0, none⟩) m) := Lib.hid
    ⟨(((hT3.set ⟨w.heap.size + 1 + 1, 1, none⟩ (by show w.heap.size + 1 + 1 < _; omega) _).set ⟨w.heap.size + 1, 0, none⟩ (by show w.heap.size + 1 < _; omega) _).set ⟨w.heap.size + 1, 1, none⟩ (by show w.heap.size + 1 < _; omega) _).low (by omega),
      (((hp3.set ⟨w.heap.size + 1 + 1, 1, none⟩ (by show w.heap.size + 1 + 1 < _; omega) _).set ⟨w.heap.size + 1, 0, none⟩ (by show w.heap.size + 1 < _; omega) _).set ⟨w.heap.size + 1, 1, none⟩ (by show w.heap.size + 1 < _; omega) _).low (by omega), HD.out.1⟩
  have HLF := Lib.hid (((HL3.out.setCell (p := ⟨w.heap.size + 1 + 1, 1, none⟩) (by show w.heap.size ≤ w.heap.size + 1 + 1; omega) (.slice (some ⟨gp, 0, none⟩) m m)).setCell (p := ⟨w.heap.size + 1, 0, none⟩) (by show w.heap.size ≤ w.heap.size + 1; omega) (.slice (some ⟨g, 0, none⟩) n n)).setCell (p := ⟨w.heap.size + 1, 1, none⟩) (by show w.heap.size ≤ w.heap.size + 1; omega) (.slice (some ⟨gp, 0, none⟩) m m))
  have HZ : Hid (w1.heap.size ≤ (((w3.setCell ⟨w.heap.size + 1 + 1, 1, none⟩ (.slice (some ⟨gp, 0, none⟩) m m)).setCell ⟨w.heap.size + 1, 0, none⟩ (.slice (some ⟨g, 0, none⟩) n n)).setCell ⟨w.heap.size + 1, 1, none⟩ (.slice (some ⟨gp, 0, none⟩) m m)).heap.size) := Lib.hid (by simp [World.setCell]; omega)
  clear hC3 hB3 hrB hT3 hp3 hb3 HC2 HB2 HT2 HL2 HL3
  go_wp2
  refine bodyPost_ret (v := cfv (some ⟨g, 0, none⟩) n n (some ⟨gp, 0, none⟩) m m) (by simp [results, Try.results25, go_sem, t0, t1]) rfl ⟨g, gp, hs, rfl, HCF.out, HD.out.2.mono HZ.out, HLF.out⟩
end Go.Proofs.Ytdadokcodklfgaa
