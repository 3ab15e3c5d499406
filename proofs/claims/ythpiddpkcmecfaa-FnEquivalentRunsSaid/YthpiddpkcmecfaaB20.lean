/- The contract of the draw of rows of truth values. -/
import Derived.Test.YthpiddpkcmecfaaB13
import Derived.Test.YthpiddpkcmecfaaB15
namespace Go.Proofs.Ythpiddpkcmecfaa
open Go.RowKit Go.Deep

/-- A table that the call draws: its rows lie from base on, none in the table's own block. -/
structure RDraw (w : World) (base g cap : Nat) (vs : List Value) (rs : List (List Bool)) : Prop where
  own : w.ownsRow base 33 1 (.slice (some ⟨g, 0, none⟩) rs.length cap) rs.length vs
  row : ∀ j, j < rs.length → ∃ z c, vs[j]? = some (.slice (some ⟨z, 0, none⟩) (rs.getD j []).length c) ∧ base ≤ z ∧ (0 < (rs.getD j []).length → z ≠ g) ∧ BoolsAt w w.heap.size (some ⟨z, 0, none⟩) (rs.getD j [])
theorem RDraw.pick {w w' : World} {base g cap R : Nat} {vs : List Value} {rs : List (List Bool)} (h : RDraw w base g cap vs rs) (hg : w.grownBy w' (some R)) (hR : R < base) : RDraw w' base g cap vs rs :=
  ⟨h.own.kept hg (.inr (fun e => own_low h.own hR e.symm)), fun j hj => by
    obtain ⟨z, c, h1, h2, h3, h4⟩ := h.row j hj
    exact ⟨z, c, h1, h2, h3, h4.grownR hg (fun b off e _ e2 => by injection e with e; injection e with e; injection e2 with e2; omega)⟩⟩
theorem RDraw.alloc {w : World} {base g cap : Nat} {vs : List Value} {rs : List (List Bool)} (h : RDraw w base g cap vs rs) (o : Obj) : RDraw (w.alloc o) base g cap vs rs :=
  ⟨h.own.alloc o, fun j hj => by
    obtain ⟨z, c, h1, h2, h3, h4⟩ := h.row j hj
    exact ⟨z, c, h1, h2, h3, h4.grownR (gb_alloc (World.grownBy.refl w none) o) (fun b off e _ e2 => by cases e2)⟩⟩
theorem getD_rows_lt {rs : List (List Bool)} {r : List Bool} {j : Nat} (h : j < rs.length) : (rs ++ [r]).getD j [] = rs.getD j [] := by
  simp [List.getD_eq_getElem?_getD, List.getElem?_append_left h]
theorem getD_rows_eq (rs : List (List Bool)) (r : List Bool) : (rs ++ [r]).getD rs.length [] = r := by
  simp [List.getD_eq_getElem?_getD]
theorem RDraw.app {w w' : World} {base g cap g' cap' z c n : Nat} {vs : List Value} {rs : List (List Bool)} {r : List Bool} (h : RDraw w base g cap vs rs) (hn : r.length = n) (ho : w'.ownsRow base 33 1 (.slice (some ⟨g', 0, none⟩) (rs.length + 1) cap') (rs.length + 1) (vs ++ [.slice (some ⟨z, 0, none⟩) n c]))
    (hg : w.grownBy w' (some g)) (hat : g' = g ∨ g' = w.heap.size) (hz : base ≤ z) (hzg : 0 < n → z ≠ g) (hb : BoolsAt w w.heap.size (some ⟨z, 0, none⟩) r) : RDraw w' base g' cap' (vs ++ [.slice (some ⟨z, 0, none⟩) n c]) (rs ++ [r]) := by
  have hvl : vs.length = rs.length := by have := h.own.1; simpa using this
  subst hn
  have key : ∀ (z : Nat) (xs : List Bool), (0 < xs.length → z ≠ g) → BoolsAt w w.heap.size (some ⟨z, 0, none⟩) xs → (0 < xs.length → z ≠ g') ∧ BoolsAt w' w'.heap.size (some ⟨z, 0, none⟩) xs := fun z xs h1 h2 => by
    refine ⟨fun hl => ?_, h2.grownR hg (fun b off e hl e2 => ?_)⟩
    · obtain ⟨b, off, e, hlt, _⟩ := h2 0 hl
      injection e with e
      injection e with e
      have := h1 hl
      rcases hat with rfl | rfl
      · exact this
      · omega
    · injection e with e
      injection e with e
      injection e2 with e2
      have := h1 hl
      omega
  refine ⟨by rw [List.length_append]; exact ho, fun j hj => ?_⟩
  rw [List.length_append, List.length_singleton] at hj
  by_cases e : j = rs.length
  · subst e
    rw [getD_rows_eq]
    obtain ⟨k1, k2⟩ := key z _ hzg hb
    exact ⟨z, c, by rw [List.getElem?_append_right (by omega), hvl]; simp, hz, k1, k2⟩
  · rw [getD_rows_lt (by omega)]
    obtain ⟨zj, cj, h1, h2, h3, h4⟩ := h.row j (by omega)
    obtain ⟨k1, k2⟩ := key zj _ h3 h4
    exact ⟨zj, cj, by rw [List.getElem?_append_left (by omega)]; exact h1, h2, k1, k2⟩
theorem RDraw.setD {w : World} {base g cap D : Nat} {vs : List Value} {rs : List (List Bool)} (h : RDraw w base g cap vs rs) (hD : D < base) (j : Nat) (u : Value) : RDraw (w.setCell ⟨D, j, none⟩ u) base g cap vs rs :=
  ⟨own_setC h.own hD j u, fun l hl => by
    obtain ⟨z, c, h1, h2, h3, h4⟩ := h.row l hl
    exact ⟨z, c, h1, h2, h3, h4.farD (by omega) u⟩⟩
theorem RDraw.rows {w : World} {base g cap : Nat} {vs : List Value} {rs : List (List Bool)} (h : RDraw w base g cap vs rs) : RowsAt w w.heap.size (some ⟨g, 0, none⟩) rs := fun j hj => by
  obtain ⟨z, c, h1, _, _, h3⟩ := h.row j hj
  exact ⟨g, 0, rfl, (h.own.lt g rfl).2, _, c, by rw [Nat.zero_add, h.own.cellAt j (by omega)]; exact h1, h3⟩

set_option maxHeartbeats 400000 in
theorem bools_neg (R : Nat) (bA : Option Addr) (bl bc : Nat) (p : Int) (z : Int) (w : World) (hz : z ≤ 0) (hR : Row w R 90 #[.slice bA bl bc, .int .i64 p]) :
    Calls Try.prog 84 #[.pointer (some ⟨R, 0, none⟩), .int .i64 z] w (BoolsDrawn w R (.slice bA bl bc) p 0) := by
  have HR := Lib.hid hR
  clear hR
  have HO0 := Lib.hid (World.ownsRow_lit (base := w.heap.size) (e := 4) (size := 1) w #[] 0 (Nat.le_refl _) (by simp [maxLen]) (by simp))
  have HG0 : Hid (w.grownBy (w.alloc (.cells #[] 4)) (some R)) := Lib.hid (gb_alloc (World.grownBy.refl w _) _)
  have HR0 := Lib.hid (HR.out.alloc (.cells #[] 4))
  go_enter Try.func84, Try.ntmps84
  go_wp2
  go_loop [5, 6] (fun v iv => iv = .int .i64 0 ∧ v = .slice (some ⟨w.heap.size, 0, none⟩) 0 0) (fun _ _ => 0)
  case atStart => exact ⟨rfl, rfl⟩
  case round =>
    obtain ⟨rfl, rfl⟩ := hrel
    go_wp2
    go_ret
    exact ⟨w.heap.size, 0, [], rfl, rfl, by simpa [bvs] using HO0.out, by simpa using HR0.out, HG0.out⟩

/-- l20Bools at whatever number: that many values, none if it is below 0. -/
theorem bools_int (R : Nat) (bA : Option Addr) (bl bc : Nat) (p : Int) (z : Int) (w : World) (hz : z ≤ 100) (hR : Row w R 90 #[.slice bA bl bc, .int .i64 p]) (hb : BytesAt w R bA bl) (hbl : bl ≤ 2000) (hp0 : 0 ≤ p) (hp1 : p ≤ 90000) :
    Calls Try.prog 84 #[.pointer (some ⟨R, 0, none⟩), .int .i64 z] w (BoolsDrawn w R (.slice bA bl bc) p z.toNat) := by
  by_cases h : z ≤ 0
  · rw [show z.toNat = 0 by omega]
    exact bools_neg R bA bl bc p z w h hR
  · exact bools_z R bA bl bc p z.toNat z w (by omega) hR hb hbl hp0 hp1 (by omega)

def RowsDrawn (w : World) (R : Nat) (rb : Value) (p : Int) (e : Ending) (w' : World) : Prop :=
  ∃ (g cap : Nat) (vs : List Value) (rs : List (List Bool)) (p' : Int), e = .returned (.slice (some ⟨g, 0, none⟩) rs.length cap) ∧ RDraw w' w.heap.size g cap vs rs ∧ rs.length ≤ 12 ∧ Row w' R 90 #[rb, .int .i64 p'] ∧ p ≤ p' ∧ p' ≤ p + 200 ∧ w.grownBy w' (some R) ∧ (∀ k, k < rs.length → (rs.getD k []).length ≤ 10)

set_option maxHeartbeats 1000000 in
theorem rows_any (R : Nat) (bA : Option Addr) (bl bc : Nat) (p : Int) (z : Int) (w : World) (hz : z ≤ 10) (hR : Row w R 90 #[.slice bA bl bc, .int .i64 p]) (hb : BytesAt w R bA bl) (hbl : bl ≤ 2000) (hp0 : 0 ≤ p) (hp1 : p ≤ 80000) :
    Calls Try.prog 47 #[.pointer (some ⟨R, 0, none⟩), .int .i64 z] w (RowsDrawn w R (.slice bA bl bc) p) := by
  have HB := Lib.hid hb
  have HCD := Lib.hid hb.ub
  have hRw : R < w.heap.size := hR.lt
  obtain ⟨i0, hi0, hz0, hz1, hz2⟩ := info_parts Try.infoBS
  have HI0 := Lib.hid hi0
  have HZ0 := Lib.hid hz0
  have HZ1 := Lib.hid hz1
  have HZ2 := Lib.hid hz2
  clear hi0 hz0 hz1 hz2
  have HO0 : Hid (RDraw (w.alloc (.cells #[] 33)) w.heap.size w.heap.size 0 [] []) := Lib.hid ⟨by
    have h := World.ownsRow_lit (base := w.heap.size) (e := 33) (size := 1) w #[] 0 (Nat.le_refl _) (by simp [maxLen]) (by simp)
    simpa using h, fun j hj => absurd hj (by simp)⟩
  have HG0 : Hid (w.grownBy (w.alloc (.cells #[] 33)) (some R)) := Lib.hid (gb_alloc (World.grownBy.refl w _) _)
  have HR0 := Lib.hid (hR.alloc (.cells #[] 33))
  have HBA : Hid (BytesAt (w.alloc (.cells #[] 33)) R bA bl) := Lib.hid (hb.grown HG0.out)
  clear hR hb
  go_enter Try.func47, Try.ntmps47
  go_wp2_with fail
  refine (pick_any R bA bl bc p 12 _ HR0.out HBA.out hbl hp0 (by omega) (by omega) (by omega)).mono ?_
  rintro e w1 ⟨v, rfl, hv0, hv1, hr1, hg1⟩
  have HO1 := Lib.hid (HO0.out.pick hg1 hRw)
  have HG1 := Lib.hid (HG0.out.trans hg1)
  have HR1 := Lib.hid hr1
  obtain ⟨m, rfl⟩ := Int.eq_ofNat_of_zero_le hv0
  have hm : m ≤ 11 := by omega
  clear hr1 hg1 HO0 HG0 HR0 HBA hv0 hv1
  go_wp2
  go_loopw [5, 6] (fun ov kv wr => ∃ (k g cap : Nat) (vs : List Value) (rs : List (List Bool)) (q : Int), k + rs.length ≤ 11 ∧ kv = .int .i64 k ∧ ov = .slice (some ⟨g, 0, none⟩) rs.length cap ∧ Hid (RDraw wr w.heap.size g cap vs rs) ∧ Hid (Row wr R 90 #[.slice bA bl bc, .int .i64 q]) ∧ p ≤ q ∧ q ≤ p + 1 + 10 * (rs.length : Int) ∧ Hid (w.grownBy wr (some R)) ∧ Hid (∀ j, j < rs.length → (rs.getD j []).length ≤ 10)) (fun _ kv _ => (intOf kv).toNat)
  case atStart => exact ⟨m, _, _, [], [], p + 1, by simpa using hm, rfl, rfl, HO1, HR1, by omega, by simp, HG1, Lib.hid (fun j hj => absurd hj (by simp))⟩
  case round =>
    clear HO1 HG1 HR1
    obtain ⟨k, g, cap, vs, rs, q, hk, rfl, rfl, HO, HR, hq0, hq1, HG, HLE⟩ := hrel
    by_cases hlt : 0 < k
    · have hgb : w.heap.size ≤ g := (HO.out.own.lt g rfl).1
      have hgl : g < wr.heap.size := (HO.out.own.lt g rfl).2
      go_wp2_with fail
      refine (bools_int R bA bl bc q z wr (by omega) HR.out (HB.out.grown HG.out) hbl (by omega) (by omega)).mono ?_
      rintro e w1 ⟨g1, c1, xs, rfl, hxl, hown1, hrow1, hgr1⟩
      have HO1 := Lib.hid (HO.out.pick hgr1 hRw)
      have HX1 := Lib.hid (own_bools hown1 hxl)
      have hg1b : wr.heap.size ≤ g1 := (hown1.lt g1 rfl).1
      have HXL := Lib.hid hxl
      have HR1 := Lib.hid hrow1
      have HG1 := Lib.hid (HG.out.trans hgr1)
      have hws : wr.heap.size ≤ w1.heap.size := hgr1.size
      have hn10 : z.toNat ≤ 10 := by omega
      generalize z.toNat = zn at *
      clear hown1 hrow1 hgr1 hxl HO HR HG
      go_wp2_with (at_builtin; refine wpList_append_kept _ rfl (.tmp 14) (.tmp 18) 27 rfl w.heap.size 33 i0 _ 1 24 Try.underlying27 HI0.out HZ0.out HZ1.out HZ2.out rfl (by omega) (.slice (some ⟨g, 0, none⟩) rs.length cap) rs.length vs rfl (HO1.out.own.alloc _) ⟨w1.heap.size, 0, none⟩ 1 1 [.slice (some ⟨g1, 0, none⟩) zn c1] rfl rfl (World.news_of_block (cs := #[.slice (some ⟨g1, 0, none⟩) zn c1]) (t := 33) (fr := (0, 0)) (heap_alloc_new w1 _)) (by simp [Value.oneCell']) (by omega) (by simp [maxLen]; omega) (by omega) (by simp; omega) _ rfl ?_)
      intro g' cap' w5 hown5 hgr5 hat5 hlt5 hkept5
      have hgs5 : (w1.alloc (.cells #[.slice (some ⟨g1, 0, none⟩) zn c1] 33)).grownBy w5 (some g) := hgr5
      have HO5 := Lib.hid (RDraw.app (z := g1) (c := c1) (r := xs) (HO1.out.alloc _) HXL.out hown5 hgs5 (by rcases hat5 with h | h; (left; simp [Value.ownBlock] at h; exact h.symm); (right; simpa using h)) (by omega) (fun _ => by omega) (HX1.out.grownR (gb_alloc (World.grownBy.refl w1 none) _) (fun b off e _ e2 => by cases e2)))
      have HR5 := Lib.hid ((HR1.out.alloc _).grown hgs5 (by intro x; injection x; omega))
      have HG5 := Lib.hid (gb_own (gb_alloc HG1.out (.cells #[.slice (some ⟨g1, 0, none⟩) zn c1] 33)) hgs5 (fun j hj => by injection hj; omega))
      have HLE5 : Hid (∀ j, j < (rs ++ [xs]).length → ((rs ++ [xs]).getD j []).length ≤ 10) := Lib.hid (fun j hj => by
        rw [List.length_append, List.length_singleton] at hj
        by_cases e : j = rs.length
        · subst e; rw [getD_rows_eq, HXL.out]; exact hn10
        · rw [getD_rows_lt (by omega)]; exact HLE.out j (by omega))
      have HLN : Hid ((rs ++ [xs]).length = rs.length + 1) := Lib.hid (by simp)
      clear hown5 hgr5 hgs5 hat5 hlt5 hkept5 HO1 HR1 HG1 HX1
      go_wp2
      go_roundw
      case rel => exact ⟨k - 1, g', cap', _, rs ++ [xs], q + zn, by rw [HLN.out]; omega, by go_num, by rw [HLN.out], HO5, HR5, by omega, by rw [HLN.out]; omega, HG5, HLE5⟩
      case measure => simp [intOf]; omega
    · go_wp2
      go_ret
      exact ⟨g, cap, vs, rs, q, rfl, HO.out, by omega, HR.out, hq0, by omega, HG.out, HLE.out⟩
end Go.Proofs.Ythpiddpkcmecfaa
