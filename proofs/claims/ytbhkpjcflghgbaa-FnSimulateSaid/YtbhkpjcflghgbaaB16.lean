/- The contracts of size and marks of tables of truth values. -/
import Derived.Test.YtbhkpjcflghgbaaB15
namespace Go.Proofs.Ytbhkpjcflghgbaa
open Go.RowKit Go.Deep

set_option maxHeartbeats 400000 in
theorem szBoolS_ok (A : Option Addr) (n cap : Nat) (l : Int) (w : World) (h : (n : Int) ≤ l) (h1 : l ≤ 1048576) :
    Calls Try.prog 65 #[.slice A n cap, .int .i64 l] w fun e w' => e = .returned (.int .i64 (l - n)) ∧ w = w' := by
  go_enter Try.func65, Try.ntmps65
  go_wp2
  go_ret
  exact ⟨rfl, rfl⟩
set_option maxHeartbeats 400000 in
theorem szBoolS_no (A : Option Addr) (n cap : Nat) (l : Int) (w : World) (h : l < (n : Int)) (h0 : 0 ≤ l) (h1 : l ≤ 1048576) (hn : n ≤ maxLen) :
    Calls Try.prog 65 #[.slice A n cap, .int .i64 l] w fun e w' => e = .returned (.int .i64 (-1)) ∧ w = w' := by
  unfold maxLen at hn
  go_enter Try.func65, Try.ntmps65
  go_wp2
  go_ret
  exact ⟨rfl, rfl⟩

set_option maxHeartbeats 400000 in
theorem szBoolSS_ok (A : Option Addr) (cap : Nat) (rs : List (List Bool)) (l : Int) (w : World) (hx : RowsAt w w.heap.size A rs) (h : (rs.length : Int) + (offs 0 rs rs.length : Int) ≤ l) (h1 : l ≤ 1048576) :
    Calls Try.prog 34 #[.slice A rs.length cap, .int .i64 l] w fun e w' => (∃ z : Int, 0 ≤ z ∧ e = .returned (.int .i64 z)) ∧ w = w' := by
  have HX := Lib.hid hx
  clear hx
  generalize hn : rs.length = n at *
  have HN := Lib.hid hn
  clear hn
  have hT : (0 : Int) ≤ (offs 0 rs n : Int) := Int.natCast_nonneg _
  have HM := Lib.hid (fun k hk => offs_mono 0 rs (j := k) (l := n) hk)
  go_enter Try.func34, Try.ntmps34
  go_wp2
  go_loop [1, 5] (fun lv iv => ∃ (k : Nat) (z : Int), k ≤ n ∧ iv = .int .i64 k ∧ lv = .int .i64 z ∧ z = l - n - (offs 0 rs k : Int)) (fun _ iv => n - (intOf iv).toNat)
  case atStart => exact ⟨0, _, Nat.zero_le _, rfl, rfl, by simp [offs]⟩
  case round =>
    obtain ⟨k, z, hk, rfl, rfl, hz⟩ := hrel
    have hm0 := HM.out k hk
    by_cases hlt : k < n
    · obtain ⟨b, off, rfl, hbl, A', cap', hcell, _⟩ := HX.out k (by rw [HN.out]; exact hlt)
      have hm := HM.out (k + 1) hlt
      have hs : offs 0 rs (k + 1) = offs 0 rs k + (rs.getD k []).length := rfl
      have b1 : ((rs.getD k []).length : Int) ≤ z := by omega
      have b2 : z ≤ 1048576 := by omega
      have HZ := Lib.hid (show z - ((rs.getD k []).length : Int) = l - n - (offs 0 rs (k + 1) : Int) by omega)
      have b3 : 0 ≤ z := by omega
      clear hs hm hm0 hz hT
      generalize (rs.getD k []).length = rl at *
      go_wp2_with (go_at_call 65; refine (szBoolS_ok _ _ _ _ _ b1 b2).mono ?_; rintro e w' ⟨rfl, rfl⟩)
      go_round
      case rel => exact ⟨k + 1, _, by omega, by go_num, rfl, HZ.out⟩
      case measure => simp [intOf]; omega
    · obtain rfl : k = n := by omega
      have b3 : 0 ≤ z := by omega
      clear hz hm0 hT h
      go_wp2
      go_ret
      exact ⟨⟨z, b3, rfl⟩, rfl⟩

set_option maxHeartbeats 400000 in
theorem szBoolSS_no (A : Option Addr) (cap : Nat) (rs : List (List Bool)) (l : Int) (w : World) (hx : RowsAt w w.heap.size A rs) (h : l < (rs.length : Int) + (offs 0 rs rs.length : Int)) (h0 : 0 ≤ l) (h1 : l ≤ 1048576) (hl : rs.length ≤ maxLen) (hr : ∀ k, k < rs.length → (rs.getD k []).length ≤ maxLen) :
    Calls Try.prog 34 #[.slice A rs.length cap, .int .i64 l] w fun e w' => e = .returned (.int .i64 (-1)) ∧ w = w' := by
  have HX := Lib.hid hx
  have HR := Lib.hid hr
  unfold maxLen at hl
  clear hx hr
  generalize hn : rs.length = n at *
  have HN := Lib.hid hn
  clear hn
  by_cases hb : l < (n : Int)
  · go_enter Try.func34, Try.ntmps34
    go_wp2
    go_ret
    exact ⟨rfl, rfl⟩
  · have H := Lib.hid h
    clear h
    go_enter Try.func34, Try.ntmps34
    go_wp2
    go_loop [1, 5] (fun lv iv => ∃ (k : Nat) (z : Int), k ≤ n ∧ iv = .int .i64 k ∧ lv = .int .i64 z ∧ 0 ≤ z ∧ z ≤ 1048576 ∧ Hid (z = l - n - (offs 0 rs k : Int))) (fun _ iv => n - (intOf iv).toNat)
    case atStart => exact ⟨0, _, Nat.zero_le _, rfl, rfl, by omega, by omega, Lib.hid (by simp [offs])⟩
    case round =>
      obtain ⟨k, z, hk, rfl, rfl, z0, z1, HZ⟩ := hrel
      by_cases hlt : k < n
      · obtain ⟨b, off, rfl, hbl, A', cap', hcell, _⟩ := HX.out k (by rw [HN.out]; exact hlt)
        have hrl := HR.out k hlt
        have HS : Hid (z - ((rs.getD k []).length : Int) = l - n - (offs 0 rs (k + 1) : Int)) := Lib.hid (by
          have h1 := HZ.out
          have hs : offs 0 rs (k + 1) = offs 0 rs k + (rs.getD k []).length := rfl
          omega)
        generalize (rs.getD k []).length = rl at *
        by_cases hz : z < (rl : Int)
        · go_wp2_with (go_at_call 65; refine (szBoolS_no _ _ _ _ _ hz z0 z1 hrl).mono ?_; rintro e w' ⟨rfl, rfl⟩)
          go_ret
          exact ⟨rfl, rfl⟩
        · have hz' : (rl : Int) ≤ z := by omega
          go_wp2_with (go_at_call 65; refine (szBoolS_ok _ _ _ _ _ hz' z1).mono ?_; rintro e w' ⟨rfl, rfl⟩)
          go_round
          case rel => exact ⟨k + 1, _, by omega, by go_num, rfl, by omega, by omega, HS⟩
          case measure => simp [intOf]; omega
      · obtain rfl : k = n := by omega
        exact absurd z0 (by have h1 := HZ.out; have h2 := H.out; omega)

/-- The table whose rows bear marks, numbered on from K. -/
def MRow (w : World) (g : Nat) (cs : Array Value) (bs : List Nat) (rs : List (List Bool)) (K : Nat) : Prop :=
  Row w g 27 cs ∧ (∀ j, j < rs.length → cs[j]? = some (.slice (some ⟨bs.getD j 0, 0, none⟩) (rs.getD j []).length (rs.getD j []).length)) ∧ (∀ j, j < rs.length → BRow w (bs.getD j 0) (mk3 (offs K rs j) (rs.getD j []).length))
theorem MRow.on {w w' : World} {g K : Nat} {cs : Array Value} {bs : List Nat} {rs : List (List Bool)} (h : MRow w g cs bs rs K) (hb : Below w.heap.size w w') : MRow w' g cs bs rs K :=
  ⟨h.1.below hb h.1.lt, h.2.1, fun j hj => (h.2.2 j hj).on hb⟩

set_option maxHeartbeats 400000 in
theorem markSS_row (g K : Nat) (cs : Array Value) (bs : List Nat) (rs : List (List Bool)) (w : World) (h : RPart w g cs bs rs rs.length) (hl : rs.length ≤ 2000000) (ht : offs K rs rs.length ≤ 100000000) (h0t : offs 0 rs rs.length ≤ 2000000) (lo hi : Nat) (hlo : lo ≤ g) (hhi : ∀ j, j < rs.length → bs.getD j 0 < hi) :
    Calls Try.prog 37 #[.slice (some ⟨g, 0, none⟩) rs.length rs.length, .int .i64 K] w fun e w' => e = .returned (.int .i64 (offs K rs rs.length : Nat)) ∧ MRow w' g cs bs rs K ∧ Mid lo hi w w' ∧ w'.heap.size = w.heap.size := by
  have HP := Lib.hid h
  have HHI := Lib.hid hhi
  clear h hhi
  have HLEN : Hid (rs.length ≤ 2000000) := Lib.hid hl
  have HOM := Lib.hid (fun k hk => Nat.le_trans (offs_mono K rs (j := k) (l := rs.length) hk) ht)
  have HRL := Lib.hid (fun k hk => Nat.le_trans (row_le 0 rs (k := k) hk) h0t)
  clear ht h0t
  generalize hn : rs.length = n at *
  have HN := Lib.hid hn
  clear hn
  go_enter Try.func37, Try.ntmps37
  go_wp2
  go_loopw [1, 5] (fun kv iv wr => ∃ (k : Nat), k ≤ n ∧ iv = .int .i64 k ∧ kv = .int .i64 (offs K rs k : Nat) ∧ Hid (Row wr g 27 cs) ∧ Hid (∀ j, j < k → BRow wr (bs.getD j 0) (mk3 (offs K rs j) (rs.getD j []).length)) ∧ Hid (∀ j, k ≤ j → j < n → BRow wr (bs.getD j 0) (rs.getD j [])) ∧ Hid (Mid lo hi w wr) ∧ Hid (wr.heap.size = w.heap.size)) (fun _ iv _ => n - (intOf iv).toNat)
  case atStart => exact ⟨0, Nat.zero_le _, rfl, rfl, Lib.hid HP.out.row, Lib.hid (fun j hj => absurd hj (by omega)), Lib.hid (fun j _ hj => HP.out.brow j hj), Lib.hid (Below.mid (Below.refl _ _) (Nat.le_refl _) _ _), Lib.hid rfl⟩
  case round =>
    obtain ⟨k, hk, rfl, rfl, HRow, HDone, HTodo, HMid, HSz⟩ := hrel
    by_cases hlt : k < n
    · have hc0 : wr.cell? ⟨g, k, none⟩ = some (.slice (some ⟨bs.getD k 0, 0, none⟩) (rs.getD k []).length (rs.getD k []).length) := by rw [HRow.out.cell]; exact HP.out.cell k hlt
      have hob := HOM.out k (by omega)
      have hob2 := HOM.out (k + 1) (by omega)
      have HSTEP : Hid (offs K rs (k + 1) = offs K rs k + (rs.getD k []).length) := Lib.hid rfl
      have hgk := HP.out.gt k hlt
      have hhk := HHI.out k hlt
      obtain ⟨cr, hr1, hr2⟩ := HTodo.out k (Nat.le_refl _) hlt
      have HR1 := Lib.hid hr1
      have HR2 := Lib.hid hr2.1
      have HINC1 := Lib.hid (fun j hj => HP.out.inc j k hj hlt)
      have HINC2 := Lib.hid (fun l hl hln => HP.out.inc k l hl hln)
      have hrl := HRL.out k hlt
      clear hr1 hr2
      have HKB : Hid (∀ j, j < k → bs.getD j 0 < bs.getD k 0) := HINC1
      have HOFF : Hid (∃ o, offs K rs k = o) := Lib.hid ⟨_, rfl⟩
      generalize hrg : rs.getD k [] = r at *
      have HRG := Lib.hid hrg
      generalize hbg : bs.getD k 0 = bk at *
      have HBG := Lib.hid hbg
      clear hrg hbg HOFF
      generalize hog : offs K rs k = ok at *
      have HOG := Lib.hid hog
      clear hog
      go_wp2_with fail
      refine (markB_row bk r.length ok cr _ HR1.out HR2.out hrl (by omega)).mono ?_
      rintro e w1 ⟨rfl, hb1, ho1⟩
      have HRow1 := Lib.hid (ho1.row HRow.out (by intro e; injection e; omega))
      have HD1 : Hid (∀ j, j < k + 1 → BRow w1 (bs.getD j 0) (mk3 (offs K rs j) (rs.getD j []).length)) := Lib.hid (fun j hj => by
        by_cases e : j = k
        · subst e
          rw [HBG.out, HOG.out, HRG.out]
          exact hb1
        · exact ho1.brow (HDone.out j (by omega)) (by intro e2; injection e2; have := HKB.out j (by omega); omega))
      have HT1 : Hid (∀ j, k + 1 ≤ j → j < n → BRow w1 (bs.getD j 0) (rs.getD j [])) := Lib.hid (fun j hj hjn => ho1.brow (HTodo.out j (by omega) hjn) (by intro e2; injection e2; have := HINC2.out j (by omega) hjn; omega))
      have HM1 := Lib.hid (HMid.out.trans (ho1.mid (lo := lo) (hi := hi) (by omega) hhk))
      have HS1 : Hid (w1.heap.size = w.heap.size) := Lib.hid (ho1.size.trans HSz.out)
      have HE1 : Hid (((ok + r.length : Nat) : Int) = (offs K rs (k + 1) : Nat)) := Lib.hid (by rw [HSTEP.out])
      clear hb1 ho1 HRow HDone HTodo HMid HSz hc0 HR1 HR2
      go_wp2
      go_roundw
      case rel => exact ⟨k + 1, by omega, by go_num, by have := HE1.out; go_num, HRow1, HD1, HT1, HM1, HS1⟩
      case measure => simp [intOf]; omega
    · obtain rfl : k = n := by omega
      go_wp2
      go_ret
      exact ⟨rfl, ⟨HRow.out, by rw [HN.out]; exact HP.out.cell, by rw [HN.out]; exact HDone.out⟩, HMid.out, HSz.out⟩

set_option maxHeartbeats 400000 in
theorem heldSS_row (g K : Nat) (cs : Array Value) (bs : List Nat) (rs : List (List Bool)) (w : World) (h : MRow w g cs bs rs K) (hl : rs.length ≤ 2000000) (ht : offs K rs rs.length ≤ 100000000) (h0t : offs 0 rs rs.length ≤ 2000000) :
    Calls Try.prog 38 #[.slice (some ⟨g, 0, none⟩) rs.length rs.length, .int .i64 K] w fun e w' => e = .returned (.int .i64 (offs K rs rs.length : Nat)) ∧ w = w' := by
  have HP := Lib.hid h
  clear h
  have HOM := Lib.hid (fun k hk => Nat.le_trans (offs_mono K rs (j := k) (l := rs.length) hk) ht)
  have HRL := Lib.hid (fun k hk => Nat.le_trans (row_le 0 rs (k := k) hk) h0t)
  clear ht h0t
  generalize hn : rs.length = n at *
  have HN := Lib.hid hn
  clear hn
  go_enter Try.func38, Try.ntmps38
  go_wp2
  go_loop [1, 5] (fun kv iv => ∃ (k : Nat), k ≤ n ∧ iv = .int .i64 k ∧ kv = .int .i64 (offs K rs k : Nat)) (fun _ iv => n - (intOf iv).toNat)
  case atStart => exact ⟨0, Nat.zero_le _, rfl, rfl⟩
  case round =>
    obtain ⟨k, hk, rfl, rfl⟩ := hrel
    by_cases hlt : k < n
    · have hc0 : w.cell? ⟨g, k, none⟩ = some (.slice (some ⟨bs.getD k 0, 0, none⟩) (rs.getD k []).length (rs.getD k []).length) := by rw [HP.out.1.cell]; exact HP.out.2.1 k (by rw [HN.out]; exact hlt)
      have hob := HOM.out k (by omega)
      have hrl := HRL.out k hlt
      have HB := Lib.hid (HP.out.2.2 k (by rw [HN.out]; exact hlt))
      have HSTEP : Hid (offs K rs (k + 1) = offs K rs k + (rs.getD k []).length) := Lib.hid rfl
      generalize rs.getD k [] = r at *
      generalize bs.getD k 0 = bk at *
      generalize offs K rs k = ok at *
      have HE1 : Hid (((ok + r.length : Nat) : Int) = (offs K rs (k + 1) : Nat)) := Lib.hid (by rw [HSTEP.out])
      go_wp2_with fail
      refine (heldB_row bk r.length ok _ HB.out hrl (by omega)).mono ?_
      rintro e w1 ⟨rfl, rfl⟩
      go_wp2
      go_round
      case rel => exact ⟨k + 1, by omega, by go_num, by have := HE1.out; go_num⟩
      case measure => simp [intOf]; omega
    · obtain rfl : k = n := by omega
      have hob := HOM.out k (by omega)
      go_wp2
      go_ret
      exact ⟨rfl, rfl⟩
end Go.Proofs.Ytbhkpjcflghgbaa
