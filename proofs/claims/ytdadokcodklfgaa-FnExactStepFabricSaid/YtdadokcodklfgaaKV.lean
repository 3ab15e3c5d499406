/- The contract of the program's ConfigValid. -/
import Derived.Test.YtdadokcodklfgaaKZ
import Derived.Test.YtdadokcodklfgaaRW
import Derived.Test.YtdadokcodklfgaaNS
namespace Go.Proofs.Ytdadokcodklfgaa
open Go.RowKit Go.Deep Cut Rt

/-- Neither a track nor NoTrack. -/
def unread (n : Int) : Bool := (decide (n < 0) || decide (8 ≤ n)) && decide (n ≠ 15)
/-- The neighbour that a source stands for. -/
def nbAt (t : Nat) (d : Int) : Int := if d = 2 ∧ 5 ≤ t then (t : Int) - 5 else if d = 3 ∧ 0 < t % 5 then (t : Int) - 1 else if d = 4 ∧ t % 5 < 4 then (t : Int) + 1 else if d = 5 ∧ t < 20 then (t : Int) + 5 else -1
def srcOk (t : Nat) (d : Int) : Bool := decide (d = 0) || decide (d = 1) || (decide (d = 6) && decide (t % 5 = 0) && decide (t / 5 < 4)) || decide (nbAt t d ≠ -1)
def tlOk (t : Nat) (x : Tl) : Bool := decide (0 ≤ x.1) && decide (x.1 < 256) && (decide (x.2.1.length = 3) && !x.2.1.any unread) && (decide (x.2.2.2.length = 8) && !x.2.2.2.any fun d => !srcOk t d)
def pdsOk (ps : List Pd) : Bool := decide (ps.length = 3) && !ps.any fun p => unread p.1
def tlsOk (ts : List Tl) (n : Nat) : Bool := (List.range n).all fun k => tlOk k (ts.getD k tl0)
def cfOk (ts : List Tl) (ps : List Pd) : Bool := decide (ts.length = 25) && pdsOk ps && tlsOk ts 25
theorem unread_any (n : Int) (w : World) : Calls Try.prog 92 #[.int .i64 n] w fun e w' => e = .returned (.bool (unread n)) ∧ w = w' := by
  have hU : Hid (unread n = ((decide (n < 0) || decide (8 ≤ n)) && decide (n ≠ 15))) := Lib.hid rfl
  by_cases h1 : n < 0
  · have h2 : n ≠ 15 := by omega
    go_enter Try.func92, Try.ntmps92
    go_wp2
    go_ret
    exact ⟨by rw [hU.out]; first | (simp [h1, h2]; done) | (simp; omega), rfl⟩
  · by_cases h2 : 8 ≤ n
    · by_cases h3 : n = 15
      · subst h3
        go_enter Try.func92, Try.ntmps92
        go_wp2
        go_ret
        exact ⟨by rw [hU.out]; simp, rfl⟩
      · go_enter Try.func92, Try.ntmps92
        go_wp2
        go_ret
        exact ⟨by rw [hU.out]; first | (simp [h2, h3]; done) | (simp; omega), rfl⟩
    · go_enter Try.func92, Try.ntmps92
      go_wp2
      go_ret
      exact ⟨by rw [hU.out]; (simp; omega), rfl⟩
theorem padP_any (v : Int) (r : Bool) (w : World) : Calls Try.prog 91 #[.agg #[.int .i64 v, .bool r]] w fun e w' => e = .returned (.bool (unread v)) ∧ Below w.heap.size w w' := by
  have HW0 : Hid (Below w.heap.size w (w.alloc (.cells #[.int .i64 v, .bool r] 81))) := Lib.hid ((Below.refl _ _).alloc (Nat.le_refl _) _)
  go_enter Try.func91, Try.ntmps91
  go_wp2_with (go_at_call 92; refine (unread_any v _).mono ?_; rintro e w1 ⟨rfl, rfl⟩)
  go_ret
  exact ⟨rfl, HW0.out⟩
theorem unreadB_any (n : Int) (w : World) : Calls Try.prog 92 #[.int .i64 n] w fun e w' => e = .returned (.bool (unread n)) ∧ Below w.heap.size w w' := (unread_any n w).mono (fun _ _ ⟨h1, h2⟩ => ⟨h1, h2 ▸ Below.refl _ _⟩)
theorem any_take {α : Type} (xs : List α) (d : α) (p : α → Bool) {k : Nat} (hk : k < xs.length) : (xs.take (k + 1)).any p = ((xs.take k).any p || p (xs.getD k d)) := by
  rw [take_tl xs d hk, List.any_append]
  simp
theorem any_mem {α : Type} (xs : List α) (d : α) (p : α → Bool) {k : Nat} (hk : k < xs.length) (h : p (xs.getD k d) = true) : xs.any p = true := by
  rw [List.any_eq_true]
  refine ⟨xs.getD k d, ?_, h⟩
  rw [List.getD_eq_getElem?_getD, List.getElem?_eq_getElem hk]
  exact List.getElem_mem _
/-- What a search answers. -/
def IxOut (b : Bool) (w : World) (e : Ending) (w' : World) : Prop := (∃ z : Int, e = .returned (.int .i64 z) ∧ decide (0 ≤ z) = b) ∧ Below w.heap.size w w'
set_option maxHeartbeats 800000 in
theorem indexU_any (A : Option Addr) (n c : Nat) (xs : List Int) (w : World) (hx : IntsAt w w.heap.size A xs) (hn : xs.length = n) (hl : n ≤ 2000000) :
    Calls Try.prog 153 #[.slice A n c, .func (.func 92) #[] #[]] w (IxOut (xs.any unread) w) := by
  have HX := Lib.hid hx
  have HN := Lib.hid hn
  clear hx hn
  have eg : ∀ args w, (callFunc 92 args).run Try.prog w = .ok (.enter 92 args) w := enters_of Try.func92 (by kernel_rfl) rfl
  go_enter Try.func153, Try.ntmps153
  go_wp2
  go_loopw [8] (fun iv wr => ∃ (k : Nat), k ≤ n ∧ iv = .int .i64 k ∧ Hid ((xs.take k).any unread = false) ∧ Hid (Below w.heap.size w wr)) (fun iv _ => n - (intOf iv).toNat)
  case atStart => exact ⟨0, Nat.zero_le _, rfl, Lib.hid rfl, Lib.hid (Below.refl _ _)⟩
  case round =>
    obtain ⟨k, hk, rfl, HF, HB⟩ := hrel
    by_cases hlt : k < n
    · obtain ⟨b, off, rfl, hbl, hc0⟩ := HX.out k (by rw [HN.out]; exact hlt)
      have hc := (HB.out.cell (p := ⟨b, off + k, none⟩) hbl).trans hc0
      clear hc0
      have HS := Lib.hid (any_take xs 0 unread (show k < xs.length by rw [HN.out]; exact hlt))
      have HP := Lib.hid (any_mem xs 0 unread (show k < xs.length by rw [HN.out]; exact hlt))
      rw [HF.out, Bool.false_or] at HS
      have HSZ := HB.out.size
      generalize hv : xs.getD k 0 = v at *
      clear hv
      go_wp2_with fail
      refine (unreadB_any v wr).mono ?_
      rintro e w1 ⟨rfl, hb1⟩
      have HB1 := Lib.hid (HB.out.trans (hb1.mono HB.out.size))
      clear hb1 hc
      generalize hpv : unread v = pv at *
      cases pv
      · have HS2 := Lib.hid (HS.out)
        clear HP hpv HS
        go_wp2
        go_roundw
        case rel => exact ⟨k + 1, by omega, by go_num, HS2, HB1⟩
        case measure => simp [intOf]; omega
      · have HP2 := Lib.hid (HP.out rfl)
        clear HP hpv HS
        go_wp2
        go_ret
        exact ⟨⟨(k : Int), rfl, by rw [HP2.out]; simp⟩, HB1.out⟩
    · obtain rfl : k = n := by omega
      go_wp2
      go_ret
      have hf := HF.out
      rw [← HN.out, List.take_length] at hf
      exact ⟨⟨-1, rfl, by rw [hf]; decide⟩, HB.out⟩
/-- What padsValid looks for. -/
def unreadP (p : Pd) : Bool := unread p.1
set_option maxHeartbeats 800000 in
theorem indexP_any (A : Option Addr) (n c : Nat) (ps : List Pd) (w : World) (hx : PdIn w w.heap.size A ps) (hn : ps.length = n) (hl : n ≤ 2000000) :
    Calls Try.prog 130 #[.slice A n c, .func (.func 91) #[] #[]] w (IxOut (ps.any unreadP) w) := by
  have HX := Lib.hid hx
  have HN := Lib.hid hn
  clear hx hn
  have eg : ∀ args w, (callFunc 91 args).run Try.prog w = .ok (.enter 91 args) w := enters_of Try.func91 (by kernel_rfl) rfl
  go_enter Try.func130, Try.ntmps130
  go_wp2
  go_loopw [8] (fun iv wr => ∃ (k : Nat), k ≤ n ∧ iv = .int .i64 k ∧ Hid ((ps.take k).any unreadP = false) ∧ Hid (Below w.heap.size w wr)) (fun iv _ => n - (intOf iv).toNat)
  case atStart => exact ⟨0, Nat.zero_le _, rfl, Lib.hid rfl, Lib.hid (Below.refl _ _)⟩
  case round =>
    obtain ⟨k, hk, rfl, HF, HB⟩ := hrel
    by_cases hlt : k < n
    · obtain ⟨b, off, rfl, hbl, hc0, hc1⟩ := HX.out k (by rw [HN.out]; exact hlt)
      have hc := (HB.out.cell (p := ⟨b, off + k * 2, none⟩) hbl).trans hc0
      have hd := (HB.out.cell (p := ⟨b, off + k * 2 + 1, none⟩) hbl).trans hc1
      clear hc0 hc1
      have HS := Lib.hid (any_take ps pd0 unreadP (show k < ps.length by rw [HN.out]; exact hlt))
      have HP := Lib.hid (any_mem ps pd0 unreadP (show k < ps.length by rw [HN.out]; exact hlt))
      rw [HF.out, Bool.false_or] at HS
      have HSZ := HB.out.size
      generalize (ps.getD k pd0).2 = rr at *
      have HQ : Hid (unreadP (ps.getD k pd0) = unread (ps.getD k pd0).1) := Lib.hid rfl
      generalize hv : (ps.getD k pd0).1 = v at *
      rw [HQ.out] at HS HP
      clear hv HQ
      go_wp2_with fail
      refine (padP_any v rr wr).mono ?_
      rintro e w1 ⟨rfl, hb1⟩
      have HB1 := Lib.hid (HB.out.trans (hb1.mono HB.out.size))
      clear hb1 hc hd
      generalize hpv : unread v = pv at *
      cases pv
      · have HS2 := Lib.hid (HS.out)
        clear HP hpv HS
        go_wp2
        go_roundw
        case rel => exact ⟨k + 1, by omega, by go_num, HS2, HB1⟩
        case measure => simp [intOf]; omega
      · have HP2 := Lib.hid (HP.out rfl)
        clear HP hpv HS
        go_wp2
        go_ret
        exact ⟨⟨(k : Int), rfl, by rw [HP2.out]; simp⟩, HB1.out⟩
    · obtain rfl : k = n := by omega
      go_wp2
      go_ret
      have hf := HF.out
      rw [← HN.out, List.take_length] at hf
      exact ⟨⟨-1, rfl, by rw [hf]; decide⟩, HB.out⟩
theorem containsU_any (A : Option Addr) (n c : Nat) (xs : List Int) (w : World) (hx : IntsAt w w.heap.size A xs) (hn : xs.length = n) (hl : n ≤ 2000000) :
    Calls Try.prog 131 #[.slice A n c, .func (.func 92) #[] #[]] w fun e w' => e = .returned (.bool (xs.any unread)) ∧ Below w.heap.size w w' := by
  have H := Lib.hid (indexU_any A n c xs w hx hn hl)
  clear hx hn
  go_enter Try.func131, Try.ntmps131
  go_wp2_with fail
  refine H.out.mono ?_
  rintro e w1 ⟨⟨z, rfl, hz⟩, hb1⟩
  have HB := Lib.hid hb1
  have HZ := Lib.hid hz
  clear H hb1 hz
  go_wp2
  go_ret
  exact ⟨by rw [← HZ.out]; rfl, HB.out⟩
theorem containsP_any (A : Option Addr) (n c : Nat) (ps : List Pd) (w : World) (hx : PdIn w w.heap.size A ps) (hn : ps.length = n) (hl : n ≤ 2000000) :
    Calls Try.prog 90 #[.slice A n c, .func (.func 91) #[] #[]] w fun e w' => e = .returned (.bool (ps.any unreadP)) ∧ Below w.heap.size w w' := by
  have H := Lib.hid (indexP_any A n c ps w hx hn hl)
  clear hx hn
  go_enter Try.func90, Try.ntmps90
  go_wp2_with fail
  refine H.out.mono ?_
  rintro e w1 ⟨⟨z, rfl, hz⟩, hb1⟩
  have HB := Lib.hid hb1
  have HZ := Lib.hid hz
  clear H hb1 hz
  go_wp2
  go_ret
  exact ⟨by rw [← HZ.out]; rfl, HB.out⟩
/-- What neighbourAt looks up. -/
def rawAt (t : Nat) (d : Int) : Int := if d = 2 then (t : Int) - 5 else if d = 3 then (t : Int) - 1 else if d = 4 then (t : Int) + 1 else if d = 5 then (t : Int) + 5 else -1
theorem raw_ok {t : Nat} (ht : t < 25) (d : Int) : (Opt.intL (nbrs t)).contains (rawAt t d) = decide (nbAt t d ≠ -1) ∧ (nbAt t d ≠ -1 → rawAt t d = nbAt t d) := by
  by_cases h2 : d = 2
  · subst h2; revert t; decide
  · by_cases h3 : d = 3
    · subst h3; revert t; decide
    · by_cases h4 : d = 4
      · subst h4; revert t; decide
      · by_cases h5 : d = 5
        · subst h5; revert t; decide
        · have e1 : rawAt t d = -1 := by unfold rawAt; rw [if_neg h2, if_neg h3, if_neg h4, if_neg h5]
          have e2 : nbAt t d = -1 := by unfold nbAt; rw [if_neg (fun h => h2 h.1), if_neg (fun h => h3 h.1), if_neg (fun h => h4 h.1), if_neg (fun h => h5 h.1)]
          rw [e1, e2]
          clear e1 e2 h2 h3 h4 h5
          revert t; decide
theorem nbrs_len (t : Nat) (ht : t < 25) : (nbrs t).length ≤ 4 := by revert t; decide
set_option maxHeartbeats 1600000 in
theorem nbAt_any (t : Nat) (d : Int) (w : World) (ht : t < 25) : Calls Try.prog 142 #[.int .i64 t, .int .i64 d] w fun e w' => e = .returned (.int .i64 (nbAt t d)) ∧ Below w.heap.size w w' := by
  have HN := Lib.hid (neigh_any t w ht)
  have HL := Lib.hid (nbrs_len t ht)
  obtain ⟨r, hr⟩ : ∃ r, rawAt t d = r := ⟨_, rfl⟩
  have HOK := Lib.hid (raw_ok ht d)
  rw [hr] at HOK
  unfold rawAt at hr
  by_cases h2 : d = 2
  · subst h2
    simp at hr
    subst hr
    go_enter Try.func142, Try.ntmps142
    go_wp2_with fail
    refine HN.out.mono ?_
    rintro e w1 ⟨g, cap, rfl, hT, hb1⟩
    have HI := Lib.hid hT.ints
    have HB := Lib.hid hb1
    have HCZ := Lib.hid (fun r => containsZ (some ⟨g, 0, none⟩) (nbrs t).length cap _ (nbrs t) r w1 HI.out rfl (Nat.le_trans HL.out (by omega)))
    clear hT hb1 HI HN
    go_wp2_with fail
    refine (HCZ.out _).mono ?_
    rintro e w2 ⟨rfl, rfl⟩
    rw [HOK.out.1]
    clear HCZ
    have HEQ := Lib.hid HOK.out.2
    by_cases hq : nbAt t 2 = -1
    · rw [show decide (nbAt t 2 ≠ -1) = false from decide_eq_false (fun h => h hq)]
      have HQ := Lib.hid hq
      clear HOK HEQ hq
      go_wp2
      go_ret
      exact ⟨by rw [HQ.out]; rfl, HB.out⟩
    · rw [show decide (nbAt t 2 ≠ -1) = true from decide_eq_true hq]
      have HE := Lib.hid (HEQ.out hq)
      clear HOK HEQ hq
      go_wp2
      go_ret
      exact ⟨by rw [← HE.out]; rfl, HB.out⟩
  by_cases h3 : d = 3
  · subst h3
    simp at hr
    subst hr
    go_enter Try.func142, Try.ntmps142
    go_wp2_with fail
    refine HN.out.mono ?_
    rintro e w1 ⟨g, cap, rfl, hT, hb1⟩
    have HI := Lib.hid hT.ints
    have HB := Lib.hid hb1
    have HCZ := Lib.hid (fun r => containsZ (some ⟨g, 0, none⟩) (nbrs t).length cap _ (nbrs t) r w1 HI.out rfl (Nat.le_trans HL.out (by omega)))
    clear hT hb1 HI HN
    go_wp2_with fail
    refine (HCZ.out _).mono ?_
    rintro e w2 ⟨rfl, rfl⟩
    rw [HOK.out.1]
    clear HCZ
    have HEQ := Lib.hid HOK.out.2
    by_cases hq : nbAt t 3 = -1
    · rw [show decide (nbAt t 3 ≠ -1) = false from decide_eq_false (fun h => h hq)]
      have HQ := Lib.hid hq
      clear HOK HEQ hq
      go_wp2
      go_ret
      exact ⟨by rw [HQ.out]; rfl, HB.out⟩
    · rw [show decide (nbAt t 3 ≠ -1) = true from decide_eq_true hq]
      have HE := Lib.hid (HEQ.out hq)
      clear HOK HEQ hq
      go_wp2
      go_ret
      exact ⟨by rw [← HE.out]; rfl, HB.out⟩
  by_cases h4 : d = 4
  · subst h4
    simp at hr
    subst hr
    go_enter Try.func142, Try.ntmps142
    go_wp2_with fail
    refine HN.out.mono ?_
    rintro e w1 ⟨g, cap, rfl, hT, hb1⟩
    have HI := Lib.hid hT.ints
    have HB := Lib.hid hb1
    have HCZ := Lib.hid (fun r => containsZ (some ⟨g, 0, none⟩) (nbrs t).length cap _ (nbrs t) r w1 HI.out rfl (Nat.le_trans HL.out (by omega)))
    clear hT hb1 HI HN
    go_wp2_with fail
    refine (HCZ.out _).mono ?_
    rintro e w2 ⟨rfl, rfl⟩
    rw [HOK.out.1]
    clear HCZ
    have HEQ := Lib.hid HOK.out.2
    by_cases hq : nbAt t 4 = -1
    · rw [show decide (nbAt t 4 ≠ -1) = false from decide_eq_false (fun h => h hq)]
      have HQ := Lib.hid hq
      clear HOK HEQ hq
      go_wp2
      go_ret
      exact ⟨by rw [HQ.out]; rfl, HB.out⟩
    · rw [show decide (nbAt t 4 ≠ -1) = true from decide_eq_true hq]
      have HE := Lib.hid (HEQ.out hq)
      clear HOK HEQ hq
      go_wp2
      go_ret
      exact ⟨by rw [← HE.out]; rfl, HB.out⟩
  by_cases h5 : d = 5
  · subst h5
    simp at hr
    subst hr
    go_enter Try.func142, Try.ntmps142
    go_wp2_with fail
    refine HN.out.mono ?_
    rintro e w1 ⟨g, cap, rfl, hT, hb1⟩
    have HI := Lib.hid hT.ints
    have HB := Lib.hid hb1
    have HCZ := Lib.hid (fun r => containsZ (some ⟨g, 0, none⟩) (nbrs t).length cap _ (nbrs t) r w1 HI.out rfl (Nat.le_trans HL.out (by omega)))
    clear hT hb1 HI HN
    go_wp2_with fail
    refine (HCZ.out _).mono ?_
    rintro e w2 ⟨rfl, rfl⟩
    rw [HOK.out.1]
    clear HCZ
    have HEQ := Lib.hid HOK.out.2
    by_cases hq : nbAt t 5 = -1
    · rw [show decide (nbAt t 5 ≠ -1) = false from decide_eq_false (fun h => h hq)]
      have HQ := Lib.hid hq
      clear HOK HEQ hq
      go_wp2
      go_ret
      exact ⟨by rw [HQ.out]; rfl, HB.out⟩
    · rw [show decide (nbAt t 5 ≠ -1) = true from decide_eq_true hq]
      have HE := Lib.hid (HEQ.out hq)
      clear HOK HEQ hq
      go_wp2
      go_ret
      exact ⟨by rw [← HE.out]; rfl, HB.out⟩
  rw [if_neg h2, if_neg h3, if_neg h4, if_neg h5] at hr
  subst hr
  go_enter Try.func142, Try.ntmps142
  go_wp2_with fail
  refine HN.out.mono ?_
  rintro e w1 ⟨g, cap, rfl, hT, hb1⟩
  have HI := Lib.hid hT.ints
  have HB := Lib.hid hb1
  have HCZ := Lib.hid (fun r => containsZ (some ⟨g, 0, none⟩) (nbrs t).length cap _ (nbrs t) r w1 HI.out rfl (Nat.le_trans HL.out (by omega)))
  clear hT hb1 HI HN
  go_wp2_with fail
  refine (HCZ.out _).mono ?_
  rintro e w2 ⟨rfl, rfl⟩
  rw [HOK.out.1]
  clear HCZ
  have HEQ := Lib.hid HOK.out.2
  by_cases hq : nbAt t d = -1
  · rw [show decide (nbAt t d ≠ -1) = false from decide_eq_false (fun h => h hq)]
    have HQ := Lib.hid hq
    clear HOK HEQ hq
    go_wp2
    go_ret
    exact ⟨by rw [HQ.out]; rfl, HB.out⟩
  · rw [show decide (nbAt t d ≠ -1) = true from decide_eq_true hq]
    have HE := Lib.hid (HEQ.out hq)
    clear HOK HEQ hq
    go_wp2
    go_ret
    exact ⟨by rw [← HE.out]; rfl, HB.out⟩
set_option maxHeartbeats 800000 in
theorem src_any (t : Nat) (d : Int) (w : World) (ht : t < 25) : Calls Try.prog 133 #[.int .i64 t, .int .i64 d] w fun e w' => e = .returned (.bool (srcOk t d)) ∧ Below w.heap.size w w' := by
  have HS : Hid (srcOk t d = (decide (d = 0) || decide (d = 1) || (decide (d = 6) && decide (t % 5 = 0) && decide (t / 5 < 4)) || decide (nbAt t d ≠ -1))) := Lib.hid rfl
  by_cases h0 : d = 0
  · subst h0
    go_enter Try.func133, Try.ntmps133
    go_wp2
    go_ret
    exact ⟨by rw [HS.out]; rfl, Below.refl _ _⟩
  by_cases h1 : d = 1
  · subst h1
    go_enter Try.func133, Try.ntmps133
    go_wp2
    go_ret
    exact ⟨by rw [HS.out]; rfl, Below.refl _ _⟩
  by_cases h6 : d = 6
  · subst h6
    have e6 : nbAt t 6 = -1 := by unfold nbAt; simp
    have hm0 : (0 : Int) ≤ (t : Int) := by omega
    by_cases hr : t % 5 = 0
    · have hr' : (t : Int).tmod 5 = 0 := by rw [Int.tmod_eq_emod_of_nonneg hm0]; omega
      have hr2 : ((t : Int) % 5 == 0) = true := by rw [beq_iff_eq]; omega
      have hr3 : ((t : Int).tmod 5 == 0) = true := by rw [beq_iff_eq]; exact hr'
      by_cases hq : t / 5 < 4
      · have hq' : (t : Int) / 5 < 4 := by omega
        have HF : Hid (srcOk t 6 = true) := Lib.hid (by rw [HS.out]; simp [hr, hq])
        clear HS hr hr' e6
        go_enter Try.func133, Try.ntmps133
        go_wp2
        go_ret
        exact ⟨by rw [HF.out]; rfl, Below.refl _ _⟩
      · have hq' : ¬ (t : Int) / 5 < 4 := by omega
        have HF : Hid (srcOk t 6 = false) := Lib.hid (by rw [HS.out, e6]; simp [hr, hq])
        clear HS hr hr' e6
        go_enter Try.func133, Try.ntmps133
        go_wp2
        go_ret
        exact ⟨by rw [HF.out]; rfl, Below.refl _ _⟩
    · have hr2 : ((t : Int) % 5 == 0) = false := by rw [beq_eq_false_iff_ne]; omega
      have hr3 : ((t : Int).tmod 5 == 0) = false := by rw [beq_eq_false_iff_ne, Int.tmod_eq_emod_of_nonneg hm0]; omega
      have HF : Hid (srcOk t 6 = false) := Lib.hid (by rw [HS.out, e6]; simp [hr])
      clear HS hr e6
      go_enter Try.func133, Try.ntmps133
      go_wp2
      go_ret
      exact ⟨by rw [HF.out]; rfl, Below.refl _ _⟩
  have HF : Hid (srcOk t d = decide (nbAt t d ≠ -1)) := Lib.hid (by rw [HS.out]; simp [h0, h1, h6])
  have HN := Lib.hid (nbAt_any t d w ht)
  have HQ : Hid (decide (nbAt t d ≠ -1) = !(nbAt t d == -1)) := Lib.hid (by by_cases h : nbAt t d = -1 <;> simp [h])
  clear HS
  go_enter Try.func133, Try.ntmps133
  go_wp2_with fail
  refine HN.out.mono ?_
  rintro e w1 ⟨rfl, hb1⟩
  have HB := Lib.hid hb1
  clear hb1 HN
  generalize nbAt t d = z at *
  by_cases hz : z = -1
  · subst hz
    go_wp2
    go_ret
    exact ⟨by rw [HF.out, HQ.out]; rfl, HB.out⟩
  · have hz1 : (z != -1) = true := by simpa using hz
    go_wp2
    go_ret
    exact ⟨by rw [HF.out]; simp [hz], HB.out⟩
theorem srcC_any (t : Nat) (d : Int) (tb : Nat) (w : World) (ht : t < 25) (hc : w.cell? ⟨tb, 0, none⟩ = some (.int .i64 t)) : Calls Try.prog 132 #[.int .i64 d, .pointer (some ⟨tb, 0, none⟩)] w fun e w' => e = .returned (.bool (!srcOk t d)) ∧ Below w.heap.size w w' := by
  have H := Lib.hid (src_any t d w ht)
  go_enter Try.func132, Try.ntmps132
  go_wp2_with fail
  refine H.out.mono ?_
  rintro e w1 ⟨rfl, hb1⟩
  have HB := Lib.hid hb1
  clear hb1 H hc
  go_wp2
  go_ret
  exact ⟨rfl, HB.out⟩
/-- What sourcesValid looks for. -/
def badS (t : Nat) (d : Int) : Bool := !srcOk t d
set_option maxHeartbeats 800000 in
theorem indexS_any (t tb : Nat) (A : Option Addr) (n c : Nat) (xs : List Int) (w : World) (hx : IntsAt w w.heap.size A xs) (hn : xs.length = n) (hl : n ≤ 2000000) (ht : t < 25) (hc : w.cell? ⟨tb, 0, none⟩ = some (.int .i64 t)) (htb : tb < w.heap.size) :
    Calls Try.prog 153 #[.slice A n c, .func (.func 132) #[] #[.pointer (some ⟨tb, 0, none⟩)]] w (IxOut (xs.any (badS t)) w) := by
  have HX := Lib.hid hx
  have HN := Lib.hid hn
  have HC := Lib.hid hc
  clear hx hn hc
  have eg : ∀ args w, (callFunc 132 args).run Try.prog w = .ok (.enter 132 args) w := enters_of Try.func132 (by kernel_rfl) rfl
  go_enter Try.func153, Try.ntmps153
  go_wp2
  go_loopw [8] (fun iv wr => ∃ (k : Nat), k ≤ n ∧ iv = .int .i64 k ∧ Hid ((xs.take k).any (badS t) = false) ∧ Hid (Below w.heap.size w wr)) (fun iv _ => n - (intOf iv).toNat)
  case atStart => exact ⟨0, Nat.zero_le _, rfl, Lib.hid rfl, Lib.hid (Below.refl _ _)⟩
  case round =>
    obtain ⟨k, hk, rfl, HF, HB⟩ := hrel
    by_cases hlt : k < n
    · obtain ⟨b, off, rfl, hbl, hc0⟩ := HX.out k (by rw [HN.out]; exact hlt)
      have hcv := (HB.out.cell (p := ⟨b, off + k, none⟩) hbl).trans hc0
      clear hc0
      have HS := Lib.hid (any_take xs 0 (badS t) (show k < xs.length by rw [HN.out]; exact hlt))
      have HP := Lib.hid (any_mem xs 0 (badS t) (show k < xs.length by rw [HN.out]; exact hlt))
      rw [HF.out, Bool.false_or] at HS
      have HSZ := HB.out.size
      have HTC := Lib.hid ((HB.out.cell (p := ⟨tb, 0, none⟩) htb).trans HC.out)
      generalize hv : xs.getD k 0 = v at *
      clear hv
      go_wp2_with fail
      refine (srcC_any t v tb wr ht HTC.out).mono ?_
      rintro e w1 ⟨rfl, hb1⟩
      have HB1 := Lib.hid (HB.out.trans (hb1.mono HB.out.size))
      clear hb1 hcv HTC
      rw [show (!srcOk t v) = badS t v from rfl]
      generalize hpv : badS t v = pv at *
      cases pv
      · have HS2 := Lib.hid (HS.out)
        clear HP hpv HS
        go_wp2
        go_roundw
        case rel => exact ⟨k + 1, by omega, by go_num, HS2, HB1⟩
        case measure => simp [intOf]; omega
      · have HP2 := Lib.hid (HP.out rfl)
        clear HP hpv HS
        go_wp2
        go_ret
        exact ⟨⟨(k : Int), rfl, by rw [HP2.out]; simp⟩, HB1.out⟩
    · obtain rfl : k = n := by omega
      go_wp2
      go_ret
      have hf := HF.out
      rw [← HN.out, List.take_length] at hf
      exact ⟨⟨-1, rfl, by rw [hf]; decide⟩, HB.out⟩
theorem containsS_any (t tb : Nat) (A : Option Addr) (n c : Nat) (xs : List Int) (w : World) (hx : IntsAt w w.heap.size A xs) (hn : xs.length = n) (hl : n ≤ 2000000) (ht : t < 25) (hc : w.cell? ⟨tb, 0, none⟩ = some (.int .i64 t)) (htb : tb < w.heap.size) :
    Calls Try.prog 131 #[.slice A n c, .func (.func 132) #[] #[.pointer (some ⟨tb, 0, none⟩)]] w fun e w' => e = .returned (.bool (xs.any (badS t))) ∧ Below w.heap.size w w' := by
  have H := Lib.hid (indexS_any t tb A n c xs w hx hn hl ht hc htb)
  clear hx hn hc
  go_enter Try.func131, Try.ntmps131
  go_wp2_with fail
  refine H.out.mono ?_
  rintro e w1 ⟨⟨z, rfl, hz⟩, hb1⟩
  have HB := Lib.hid hb1
  have HZ := Lib.hid hz
  clear H hb1 hz
  go_wp2
  go_ret
  exact ⟨by rw [← HZ.out]; rfl, HB.out⟩
theorem selV_any (A : Option Addr) (n c : Nat) (xs : List Int) (w : World) (hx : IntsAt w w.heap.size A xs) (hn : xs.length = n) (hl : n ≤ 2000000) :
    Calls Try.prog 93 #[.slice A n c] w fun e w' => e = .returned (.bool (decide (n = 3) && !xs.any unread)) ∧ Below w.heap.size w w' := by
  by_cases h3 : n = 3
  · have H := Lib.hid (containsU_any A n c xs w hx hn hl)
    subst h3
    clear hx hn
    go_enter Try.func93, Try.ntmps93
    go_wp2_with fail
    refine H.out.mono ?_
    rintro e w1 ⟨rfl, hb1⟩
    have HB := Lib.hid hb1
    clear hb1 H
    generalize hq : xs.any unread = q at *
    have HQ := Lib.hid hq
    clear hq
    go_wp2
    go_ret
    exact ⟨by rw [HQ.out]; rfl, HB.out⟩
  · have HF : Hid ((decide (n = 3) && !xs.any unread) = false) := Lib.hid (by simp [h3])
    have h3' : ¬ (n : Int) = 3 := by omega
    have h3b : ((n : Int) == 3) = false := by rw [beq_eq_false_iff_ne]; exact h3'
    clear hx hn
    go_enter Try.func93, Try.ntmps93
    go_wp2
    go_ret
    exact ⟨by rw [HF.out]; rfl, Below.refl _ _⟩
theorem pdsV_any (A : Option Addr) (n c : Nat) (ps : List Pd) (w : World) (hx : PdIn w w.heap.size A ps) (hn : ps.length = n) (hl : n ≤ 2000000) :
    Calls Try.prog 52 #[.slice A n c] w fun e w' => e = .returned (.bool (pdsOk ps)) ∧ Below w.heap.size w w' := by
  have HD : Hid (pdsOk ps = (decide (n = 3) && !ps.any unreadP)) := Lib.hid (by rw [← hn]; rfl)
  by_cases h3 : n = 3
  · have H := Lib.hid (containsP_any A n c ps w hx hn hl)
    subst h3
    clear hx hn
    go_enter Try.func52, Try.ntmps52
    go_wp2_with fail
    refine H.out.mono ?_
    rintro e w1 ⟨rfl, hb1⟩
    have HB := Lib.hid hb1
    clear hb1 H
    generalize ps.any unreadP = q at *
    go_wp2
    go_ret
    exact ⟨by rw [HD.out]; rfl, HB.out⟩
  · have HF : Hid (pdsOk ps = false) := Lib.hid (by rw [HD.out]; simp [h3])
    have h3' : ¬ (n : Int) = 3 := by omega
    have h3b : ((n : Int) == 3) = false := by rw [beq_eq_false_iff_ne]; exact h3'
    clear hx hn HD
    go_enter Try.func52, Try.ntmps52
    go_wp2
    go_ret
    exact ⟨by rw [HF.out]; rfl, Below.refl _ _⟩
theorem srcV_any (t : Nat) (A : Option Addr) (n c : Nat) (xs : List Int) (w : World) (hx : IntsAt w w.heap.size A xs) (hn : xs.length = n) (hl : n ≤ 2000000) (ht : t < 25) :
    Calls Try.prog 94 #[.int .i64 t, .slice A n c] w fun e w' => e = .returned (.bool (decide (n = 8) && !xs.any (badS t))) ∧ Below w.heap.size w w' := by
  have hb0 : Below w.heap.size w (w.alloc (.cells #[.int .i64 t] 3)) := (Below.refl _ _).alloc (Nat.le_refl _) _
  by_cases h3 : n = 8
  · have H := Lib.hid (containsS_any t w.heap.size A n c xs (w.alloc (.cells #[.int .i64 t] 3)) ((hx.below hb0).mono hb0.size) hn hl ht (Row.cell (heap_alloc_new w _) 0) (by simp))
    have HB0 := Lib.hid hb0
    subst h3
    clear hx hn hb0
    go_enter Try.func94, Try.ntmps94
    go_wp2_with fail
    refine H.out.mono ?_
    rintro e w1 ⟨rfl, hb1⟩
    have HB := Lib.hid (HB0.out.trans (hb1.mono HB0.out.size))
    clear hb1 H
    generalize hq : xs.any (badS t) = q at *
    have HQ := Lib.hid hq
    clear hq
    go_wp2
    go_ret
    exact ⟨by rw [HQ.out]; rfl, HB.out⟩
  · have HF : Hid ((decide (n = 8) && !xs.any (badS t)) = false) := Lib.hid (by simp [h3])
    have h3' : ¬ (n : Int) = 8 := by omega
    have h3b : ((n : Int) == 8) = false := by rw [beq_eq_false_iff_ne]; exact h3'
    have HB0 := Lib.hid hb0
    clear hx hn hb0
    go_enter Try.func94, Try.ntmps94
    go_wp2
    go_ret
    exact ⟨by rw [HF.out]; rfl, HB0.out⟩
set_option maxHeartbeats 1600000 in
theorem setV_any (t : Nat) (v : Int) (A B : Option Addr) (m1 c1 m2 c2 : Nat) (r : Bool) (x y : List Int) (w : World) (ht : t < 25) (hx : IntsAt w w.heap.size A x) (hy : IntsAt w w.heap.size B y) (h1 : x.length = m1) (h2 : y.length = m2) (l1 : m1 ≤ 2000000) (l2 : m2 ≤ 2000000) :
    Calls Try.prog 53 #[.int .i64 t, .agg #[.int .i64 v, .slice A m1 c1, .bool r, .slice B m2 c2]] w fun e w' => e = .returned (.bool (tlOk t (v, x, r, y))) ∧ Below w.heap.size w w' := by
  have HD : Hid (tlOk t (v, x, r, y) = (decide (0 ≤ v) && decide (v < 256) && (decide (m1 = 3) && !x.any unread) && (decide (m2 = 8) && !y.any (badS t)))) := Lib.hid (by rw [← h1, ← h2]; rfl)
  have hb0 : Below w.heap.size w (w.alloc (.cells #[.int .i64 v, .slice A m1 c1, .bool r, .slice B m2 c2] 33)) := (Below.refl _ _).alloc (Nat.le_refl _) _
  have HB0 := Lib.hid hb0
  by_cases hv : 0 ≤ v ∧ v < 256
  · obtain ⟨v0, v1⟩ := hv
    have HR0 := Lib.hid (row_new w 33 #[.int .i64 v, .slice A m1 c1, .bool r, .slice B m2 c2])
    have H1 := Lib.hid (selV_any A m1 c1 x _ ((hx.below hb0).mono hb0.size) h1 l1)
    have HY := Lib.hid ((hy.below hb0).mono hb0.size)
    have H2 := Lib.hid h2
    have HD2 : Hid (tlOk t (v, x, r, y) = ((decide (m1 = 3) && !x.any unread) && (decide (m2 = 8) && !y.any (badS t)))) := Lib.hid (by rw [HD.out]; simp [v0, v1])
    clear hx hy h1 h2 HD hb0
    go_enter Try.func53, Try.ntmps53
    go_wp2_with fail
    generalize w.alloc (.cells #[.int .i64 v, .slice A m1 c1, .bool r, .slice B m2 c2] 33) = w0 at *
    refine H1.out.mono ?_
    rintro e w1 ⟨rfl, hb1⟩
    have hR1 := HR0.out.below hb1 HR0.out.lt
    have c3 := hR1.cell 3
    simp at c3
    have HB1 := Lib.hid (HB0.out.trans (hb1.mono HB0.out.size))
    have HS := Lib.hid (srcV_any t B m2 c2 y w1 ((HY.out.below hb1).mono hb1.size) H2.out l2 ht)
    clear hR1 hb1 H1 HR0
    generalize hq : (decide (m1 = 3) && !x.any unread) = q at *
    have HQ := Lib.hid hq
    clear hq
    cases q
    · clear HS
      go_wp2
      go_ret
      exact ⟨by rw [HD2.out]; rfl, HB1.out⟩
    · go_wp2_with fail
      refine HS.out.mono ?_
      rintro e w2 ⟨rfl, hb2⟩
      have HB2 := Lib.hid (HB1.out.trans (hb2.mono HB1.out.size))
      clear hb2 HS c3
      generalize hq2 : (decide (m2 = 8) && !y.any (badS t)) = q2 at *
      clear hq2
      go_wp2
      go_ret
      exact ⟨by rw [HD2.out]; rfl, HB2.out⟩
  · have HF : Hid (tlOk t (v, x, r, y) = false) := Lib.hid (by rw [HD.out]; by_cases a : 0 ≤ v <;> by_cases b : v < 256 <;> simp [a, b] ; exact absurd ⟨a, b⟩ hv)
    clear hx hy h1 h2 HD hb0
    by_cases a : 0 ≤ v
    · have b : ¬ v < 256 := fun b => hv ⟨a, b⟩
      clear hv
      go_enter Try.func53, Try.ntmps53
      go_wp2
      go_ret
      exact ⟨by rw [HF.out]; rfl, HB0.out⟩
    · clear hv
      go_enter Try.func53, Try.ntmps53
      go_wp2
      go_ret
      exact ⟨by rw [HF.out]; rfl, HB0.out⟩
theorem tls_step (ts : List Tl) (k : Nat) : tlsOk ts (k + 1) = (tlsOk ts k && tlOk k (ts.getD k tl0)) := by
  unfold tlsOk
  rw [List.range_succ, List.all_append]
  simp
theorem tls_false (ts : List Tl) {k n : Nat} (hk : k < n) (h : tlOk k (ts.getD k tl0) = false) : tlsOk ts n = false := by
  unfold tlsOk
  rw [List.all_eq_false]
  exact ⟨k, List.mem_range.2 hk, by rw [h]; simp⟩
set_option maxHeartbeats 1600000 in
theorem icv_any (TA PA : Option Addr) (n tc m pc : Nat) (ts : List Tl) (ps : List Pd) (w : World) (hx : TlIn w w.heap.size TA ts) (hy : PdIn w w.heap.size PA ps) (hn : ts.length = n) (hm : ps.length = m) (hr : TlBd ts) (hl : m ≤ 2000000) :
    Calls Try.prog 10 #[cfv TA n tc PA m pc] w fun e w' => e = .returned (.bool (cfOk ts ps)) ∧ Below w.heap.size w w' := by
  have HD : Hid (cfOk ts ps = (decide (n = 25) && pdsOk ps && tlsOk ts 25)) := Lib.hid (by rw [← hn]; rfl)
  have hb0 : Below w.heap.size w (w.alloc (.cells #[.slice TA n tc, .slice PA m pc] 26)) := (Below.refl _ _).alloc (Nat.le_refl _) _
  have HB0 := Lib.hid hb0
  by_cases h25 : n = 25
  · subst h25
    have HR0 := Lib.hid (row_new w 26 #[.slice TA 25 tc, .slice PA m pc])
    have H1 := Lib.hid (pdsV_any PA m pc ps _ ((hy.below hb0).mono hb0.size) hm hl)
    have HX := Lib.hid hx
    have HN := Lib.hid hn
    have HT := Lib.hid hr.2
    clear hx hy hn hm hr hb0
    go_enter Try.func10, Try.ntmps10
    go_wp2_with fail
    generalize w.alloc (.cells #[.slice TA 25 tc, .slice PA m pc] 26) = w0 at *
    refine H1.out.mono ?_
    rintro e w1 ⟨rfl, hb1⟩
    have hR1 := HR0.out.below hb1 HR0.out.lt
    have c0 := hR1.cell 0
    simp at c0
    have HB1 := Lib.hid (HB0.out.trans (hb1.mono HB0.out.size))
    clear hR1 hb1 H1 HR0
    generalize hq : pdsOk ps = q at *
    have HQ := Lib.hid hq
    clear hq
    cases q
    · go_wp2
      go_ret
      exact ⟨by rw [HD.out]; rfl, HB1.out⟩
    · go_wp2
      clear c0
      go_loopw [18] (fun iv wr => ∃ (k : Nat), k ≤ 25 ∧ iv = .int .i64 k ∧ Hid (tlsOk ts k = true) ∧ Hid (Below w.heap.size w wr)) (fun iv _ => 25 - (intOf iv).toNat)
      case atStart => exact ⟨0, Nat.zero_le _, rfl, Lib.hid rfl, HB1⟩
      case round =>
        obtain ⟨k, hk, rfl, HF, HB⟩ := hrel
        by_cases hlt : k < 25
        · obtain ⟨b, off, rfl, hbl, A1, c1, A2, c2, ⟨p0, p1, p2, p3⟩, ⟨hA1, hA2⟩, _, _⟩ := HX.out k (by rw [HN.out]; exact hlt)
          obtain ⟨t1, t2⟩ := HT.out k (by rw [HN.out]; exact hlt)
          have q0 := (HB.out.cell (p := ⟨b, off + k * 4, none⟩) hbl).trans p0
          have q1 := (HB.out.cell (p := ⟨b, off + k * 4 + 1, none⟩) hbl).trans p1
          have q2 := (HB.out.cell (p := ⟨b, off + k * 4 + 2, none⟩) hbl).trans p2
          have q3 := (HB.out.cell (p := ⟨b, off + k * 4 + 3, none⟩) hbl).trans p3
          have HTS := Lib.hid (tls_step ts k)
          have HTF := Lib.hid (fun h => tls_false ts hlt h)
          rw [HF.out, Bool.true_and] at HTS
          have hz := HB.out.size
          have hbe : ts.getD k tl0 = ((ts.getD k tl0).1, (ts.getD k tl0).2.1, (ts.getD k tl0).2.2.1, (ts.getD k tl0).2.2.2) := rfl
          rw [hbe] at HTS HTF
          have HA1 := Lib.hid ((hA1.below HB.out).mono HB.out.size)
          have HA2 := Lib.hid ((hA2.below HB.out).mono HB.out.size)
          clear p0 p1 p2 p3 hbe hA1 hA2
          generalize (ts.getD k tl0).2.2.2 = y at *
          generalize (ts.getD k tl0).2.2.1 = r at *
          generalize (ts.getD k tl0).2.1 = x at *
          generalize (ts.getD k tl0).1 = v at *
          have hbb : Below wr.heap.size wr (wr.alloc (.cells #[.int .i64 v, .slice A1 x.length c1, .bool r, .slice A2 y.length c2] 33)) := (Below.refl _ _).alloc (Nat.le_refl _) _
          have HS := Lib.hid (setV_any k v A1 A2 x.length c1 y.length c2 r x y (wr.alloc (.cells #[.int .i64 v, .slice A1 x.length c1, .bool r, .slice A2 y.length c2] 33)) hlt ((HA1.out.below hbb).mono hbb.size) ((HA2.out.below hbb).mono hbb.size) rfl rfl t1 t2)
          have HBA := Lib.hid (HB.out.trans (hbb.mono HB.out.size))
          clear hbb HA1 HA2 t1 t2
          go_wp2_with fail
          refine HS.out.mono ?_
          rintro e w3 ⟨rfl, hb3⟩
          have HB3 := Lib.hid (HBA.out.trans (hb3.mono HBA.out.size))
          clear hb3 HS q0 q1 q2 q3
          generalize tlOk k (v, x, r, y) = qq at *
          cases qq
          · have HFF := Lib.hid (HTF.out rfl)
            clear HTF HTS
            go_wp2
            go_ret
            exact ⟨by rw [HD.out, HFF.out]; simp, HB3.out⟩
          · clear HTF
            go_wp2
            go_roundw
            case rel => exact ⟨k + 1, by omega, by go_num, HTS, HB3⟩
            case measure => simp [intOf]; omega
        · obtain rfl : k = 25 := by omega
          go_wp2
          go_ret
          exact ⟨by rw [HD.out, HF.out]; rfl, HB.out⟩
  · have HF : Hid (cfOk ts ps = false) := Lib.hid (by rw [HD.out]; simp [h25])
    have h3' : ¬ (n : Int) = 25 := by omega
    have h3b : ((n : Int) != 25) = true := by simpa using h3'
    clear hx hy hn hm HD hb0 hr
    go_enter Try.func10, Try.ntmps10
    go_wp2
    go_ret
    exact ⟨by rw [HF.out]; rfl, HB0.out⟩
end Go.Proofs.Ytdadokcodklfgaa
/- The contract of the model's ConfigValid. -/
namespace Go.Proofs.Ytdadokcodklfgaa
open Go.RowKit Go.Deep Cut Rt

def inn (a lo hi : Int) : Bool := decide (lo ≤ a) && decide (a ≤ hi)
theorem inn_any (a lo hi : Int) (w : World) : Calls Try.prog 96 #[.int .i64 a, .int .i64 lo, .int .i64 hi] w fun e w' => e = .returned (.bool (inn a lo hi)) ∧ w = w' := by
  have HU : Hid (inn a lo hi = (decide (lo ≤ a) && decide (a ≤ hi))) := Lib.hid rfl
  by_cases h : lo ≤ a
  · go_enter Try.func96, Try.ntmps96
    go_wp2
    go_ret
    exact ⟨by rw [HU.out]; simp [h], rfl⟩
  · go_enter Try.func96, Try.ntmps96
    go_wp2
    go_ret
    exact ⟨by rw [HU.out]; simp; omega, rfl⟩
theorem unread_not (n : Int) : (!unread n) = (inn n 0 7 || decide (n = 15)) := by
  unfold unread inn
  by_cases h1 : n < 0 <;> by_cases h2 : 8 ≤ n <;> by_cases h3 : n = 15 <;> simp [h1, h2, h3] <;> omega
theorem track_any (n : Int) (w : World) : Calls Try.prog 56 #[.int .i64 n] w fun e w' => e = .returned (.bool (!unread n)) ∧ w = w' := by
  have HU := Lib.hid (unread_not n)
  have H := Lib.hid (inn_any n 0 7 w)
  go_enter Try.func56, Try.ntmps56
  go_wp2_with fail
  refine H.out.mono ?_
  rintro e w1 ⟨rfl, rfl⟩
  generalize hq : inn n 0 7 = q at *
  clear H hq
  cases q
  · by_cases h : n = 15
    · subst h
      go_wp2
      go_ret
      exact ⟨by rw [HU.out]; rfl, rfl⟩
    · have h1 : (n == 15) = false := by rw [beq_eq_false_iff_ne]; exact h
      have HF : Hid (decide (n = 15) = false) := Lib.hid (decide_eq_false h)
      go_wp2
      go_ret
      exact ⟨by rw [HU.out, HF.out]; rfl, rfl⟩
  · go_wp2
    go_ret
    exact ⟨by rw [HU.out]; rfl, rfl⟩
theorem nb_at (t : Nat) (d : Int) : nbAt t d = if d = 2 ∧ 5 ≤ t then (t : Int) - 5 else if d = 3 ∧ 0 < t % 5 then (t : Int) - 1 else if d = 4 ∧ t % 5 < 4 then (t : Int) + 1 else if d = 5 ∧ t < 20 then (t : Int) + 5 else -1 := rfl
set_option maxHeartbeats 1600000 in
theorem snb_any (t : Nat) (d : Int) (w : World) (ht : t < 25) : Calls Try.prog 97 #[.int .i64 t, .int .i64 d] w fun e w' => e = .returned (.int .i64 (nbAt t d)) ∧ w = w' := by
  have hm0 : (0 : Int) ≤ (t : Int) := by omega
  by_cases h2 : d = 2
  · subst h2
    by_cases hc : 5 ≤ t
    · have HE : Hid (nbAt t 2 = (t : Int) - 5) := Lib.hid (by rw [nb_at]; simp [hc])
      have p0 : (5 : Int) ≤ (t : Int) := by omega
      clear hc
      go_enter Try.func97, Try.ntmps97
      go_wp2
      go_ret
      exact ⟨by rw [HE.out]; rfl, rfl⟩
    · have HE : Hid (nbAt t 2 = -1) := Lib.hid (by rw [nb_at]; simp [hc])
      have p0 : ¬ (5 : Int) ≤ (t : Int) := by omega
      clear hc
      go_enter Try.func97, Try.ntmps97
      go_wp2
      go_ret
      exact ⟨by rw [HE.out]; rfl, rfl⟩
  by_cases h3 : d = 3
  · subst h3
    by_cases hc : 0 < t % 5
    · have HE : Hid (nbAt t 3 = (t : Int) - 1) := Lib.hid (by rw [nb_at]; simp [hc])
      have p0 : (0 : Int) < (t : Int).tmod 5 := by rw [Int.tmod_eq_emod_of_nonneg hm0]; omega
      have p1 : (0 : Int) < (t : Int) % 5 := by omega
      clear hc
      go_enter Try.func97, Try.ntmps97
      go_wp2
      go_ret
      exact ⟨by rw [HE.out]; rfl, rfl⟩
    · have HE : Hid (nbAt t 3 = -1) := Lib.hid (by rw [nb_at]; simp [hc])
      have p0 : ¬ (0 : Int) < (t : Int).tmod 5 := by rw [Int.tmod_eq_emod_of_nonneg hm0]; omega
      have p1 : ¬ (0 : Int) < (t : Int) % 5 := by omega
      clear hc
      go_enter Try.func97, Try.ntmps97
      go_wp2
      go_ret
      exact ⟨by rw [HE.out]; rfl, rfl⟩
  by_cases h4 : d = 4
  · subst h4
    by_cases hc : t % 5 < 4
    · have HE : Hid (nbAt t 4 = (t : Int) + 1) := Lib.hid (by rw [nb_at]; simp [hc])
      have p0 : (t : Int).tmod 5 < 4 := by rw [Int.tmod_eq_emod_of_nonneg hm0]; omega
      have p1 : (t : Int) % 5 < 4 := by omega
      clear hc
      go_enter Try.func97, Try.ntmps97
      go_wp2
      go_ret
      exact ⟨by rw [HE.out]; rfl, rfl⟩
    · have HE : Hid (nbAt t 4 = -1) := Lib.hid (by rw [nb_at]; simp [hc])
      have p0 : ¬ (t : Int).tmod 5 < 4 := by rw [Int.tmod_eq_emod_of_nonneg hm0]; omega
      have p1 : ¬ (t : Int) % 5 < 4 := by omega
      clear hc
      go_enter Try.func97, Try.ntmps97
      go_wp2
      go_ret
      exact ⟨by rw [HE.out]; rfl, rfl⟩
  by_cases h5 : d = 5
  · subst h5
    by_cases hc : t < 20
    · have HE : Hid (nbAt t 5 = (t : Int) + 5) := Lib.hid (by rw [nb_at]; simp [hc])
      have p0 : (t : Int) < 20 := by omega
      clear hc
      go_enter Try.func97, Try.ntmps97
      go_wp2
      go_ret
      exact ⟨by rw [HE.out]; rfl, rfl⟩
    · have HE : Hid (nbAt t 5 = -1) := Lib.hid (by rw [nb_at]; simp [hc])
      have p0 : ¬ (t : Int) < 20 := by omega
      clear hc
      go_enter Try.func97, Try.ntmps97
      go_wp2
      go_ret
      exact ⟨by rw [HE.out]; rfl, rfl⟩
  have HE : Hid (nbAt t d = -1) := Lib.hid (by rw [nb_at]; simp [h2, h3, h4, h5])
  have b2 : (d == 2) = false := by rw [beq_eq_false_iff_ne]; exact h2
  have b3 : (d == 3) = false := by rw [beq_eq_false_iff_ne]; exact h3
  have b4 : (d == 4) = false := by rw [beq_eq_false_iff_ne]; exact h4
  have b5 : (d == 5) = false := by rw [beq_eq_false_iff_ne]; exact h5
  go_enter Try.func97, Try.ntmps97
  go_wp2
  go_ret
  exact ⟨by rw [HE.out]; rfl, rfl⟩
theorem nb_neg {t : Nat} (ht : t < 25) (d : Int) : decide (nbAt t d < 0) = !decide (nbAt t d ≠ -1) := by
  rw [nb_at]
  split
  · next h => have : ¬ (t : Int) - 5 < 0 := by omega
              have h2 : (t : Int) - 5 ≠ -1 := by omega
              simp [this, h2]
  · split
    · next h => have : ¬ (t : Int) - 1 < 0 := by omega
                have h2 : (t : Int) - 1 ≠ -1 := by omega
                simp [this, h2]
    · split
      · next h => have : ¬ (t : Int) + 1 < 0 := by omega
                  have h2 : (t : Int) + 1 ≠ -1 := by omega
                  simp [this, h2]
      · split
        · next h => have : ¬ (t : Int) + 5 < 0 := by omega
                    have h2 : (t : Int) + 5 ≠ -1 := by omega
                    simp [this, h2]
        · decide
/-- What the model asks of a source. -/
def sBad (t : Nat) (d : Int) : Bool := !inn d 0 6 || (decide (d = 6) && (decide (0 < t % 5) || decide (4 ≤ t / 5))) || (inn d 2 5 && decide (nbAt t d < 0))
theorem sBad_eq {t : Nat} (ht : t < 25) (d : Int) : sBad t d = badS t d := by
  unfold sBad badS srcOk
  rw [nb_neg ht d]
  by_cases h0 : d = 0
  · subst h0; simp [inn]
  by_cases h1 : d = 1
  · subst h1; simp [inn]
  by_cases h6 : d = 6
  · subst h6
    have e6 : nbAt t 6 = -1 := by rw [nb_at]; simp
    rw [e6]
    by_cases a : t % 5 = 0 <;> by_cases b : t / 5 < 4 <;> simp [inn, a, b] <;> omega
  by_cases hi : 0 ≤ d ∧ d ≤ 6
  · have h2 : 2 ≤ d ∧ d ≤ 5 := by omega
    simp [inn, hi.1, hi.2, h2.1, h2.2, h0, h1, h6]
  · have hn : nbAt t d = -1 := by rw [nb_at, if_neg (by omega), if_neg (by omega), if_neg (by omega), if_neg (by omega)]
    have hin : inn d 0 6 = false := by unfold inn; by_cases a : 0 ≤ d <;> by_cases b : d ≤ 6 <;> simp [a, b]; omega
    rw [hn, hin]
    simp [h0, h1, h6]
set_option maxHeartbeats 3200000 in
set_option maxRecDepth 10000 in
theorem stile_any (t : Nat) (v : Int) (A B : Option Addr) (m1 c1 m2 c2 : Nat) (r : Bool) (x y : List Int) (w : World) (ht : t < 25) (hx : IntsAt w w.heap.size A x) (hy : IntsAt w w.heap.size B y) (h1 : x.length = m1) (h2 : y.length = m2) :
    Calls Try.prog 55 #[.agg #[.int .i64 v, .slice A m1 c1, .bool r, .slice B m2 c2], .int .i64 t] w fun e w' => e = .returned (.bool (tlOk t (v, x, r, y))) ∧ Below w.heap.size w w' := by
  have HD : Hid (tlOk t (v, x, r, y) = (inn v 0 255 && (decide (m1 = 3) && !x.any unread) && (decide (m2 = 8) && !y.any (badS t)))) := Lib.hid (by
    rw [← h1, ← h2]
    have e : inn v 0 255 = (decide (0 ≤ v) && decide (v < 256)) := by unfold inn; by_cases a : v ≤ 255 <;> by_cases b : v < 256 <;> simp [a, b] <;> omega
    rw [e]; rfl)
  have hb0 : Below w.heap.size w (w.alloc (.cells #[.int .i64 v, .slice A m1 c1, .bool r, .slice B m2 c2] 33)) := (Below.refl _ _).alloc (Nat.le_refl _) _
  have HB0 := Lib.hid hb0
  have HR0 := Lib.hid (row_new w 33 #[.int .i64 v, .slice A m1 c1, .bool r, .slice B m2 c2])
  have HX := Lib.hid ((hx.below hb0).mono hb0.size)
  have HY := Lib.hid ((hy.below hb0).mono hb0.size)
  have HI := Lib.hid (inn_any v 0 255 (w.alloc (.cells #[.int .i64 v, .slice A m1 c1, .bool r, .slice B m2 c2] 33)))
  have H1 := Lib.hid h1
  have H2 := Lib.hid h2
  clear hx hy hb0 h1 h2
  go_enter Try.func55, Try.ntmps55
  go_wp2_with fail
  generalize w.alloc (.cells #[.int .i64 v, .slice A m1 c1, .bool r, .slice B m2 c2] 33) = w0 at *
  refine HI.out.mono ?_
  rintro e w1 ⟨rfl, rfl⟩
  have c0 := HR0.out.cell 0
  have c1' := HR0.out.cell 1
  have c2' := HR0.out.cell 2
  have c3 := HR0.out.cell 3
  simp at c0 c1' c2' c3
  clear HI HR0
  generalize hqi : inn v 0 255 = qi at *
  clear hqi
  cases qi
  · go_wp2
    go_ret
    exact ⟨by rw [HD.out]; simp, HB0.out⟩
  · by_cases e3 : m1 = 3
    · subst e3
      by_cases e8 : m2 = 8
      · subst e8
        go_wp2
        go_loop [5] (fun iv => ∃ (k : Nat), k ≤ 3 ∧ iv = .int .i64 k ∧ Hid ((x.take k).any unread = false)) (fun iv => 3 - (intOf iv).toNat)
        case atStart => exact ⟨0, Nat.zero_le _, rfl, Lib.hid rfl⟩
        case round =>
          obtain ⟨k, hk, rfl, HF⟩ := hrel
          by_cases hlt : k < 3
          · obtain ⟨b, off, rfl, hbl, hcx⟩ := HX.out k (by rw [H1.out]; exact hlt)
            have HS := Lib.hid (any_take x 0 unread (show k < x.length by rw [H1.out]; exact hlt))
            have HP := Lib.hid (any_mem x 0 unread (show k < x.length by rw [H1.out]; exact hlt))
            rw [HF.out, Bool.false_or] at HS
            generalize x.getD k 0 = z at *
            go_wp2_with fail
            refine (track_any z _).mono ?_
            rintro e w2 ⟨rfl, rfl⟩
            generalize unread z = pv at *
            cases pv
            · clear HP
              go_wp2
              go_round
              case rel => exact ⟨k + 1, by omega, by go_num, HS⟩
              case measure => simp [intOf]; omega
            · have HP2 := Lib.hid (HP.out rfl)
              clear HP HS
              go_wp2
              go_ret
              exact ⟨by rw [HD.out, HP2.out]; simp, HB0.out⟩
          · obtain rfl : k = 3 := by omega
            have HFF : Hid (x.any unread = false) := Lib.hid (by have h := HF.out; rwa [← H1.out, List.take_length] at h)
            rw [show ((3 : Nat) : Int) = 3 from rfl]
            clear HF hlt hk
            go_wp2
            go_loop [6] (fun iv => ∃ (k : Nat), k ≤ 8 ∧ iv = .int .i64 k ∧ Hid ((y.take k).any (badS t) = false)) (fun iv => 8 - (intOf iv).toNat)
            case atStart => exact ⟨0, Nat.zero_le _, rfl, Lib.hid rfl⟩
            case round =>
              obtain ⟨k, hk, rfl, HF⟩ := hrel
              by_cases hlt : k < 8
              · obtain ⟨b, off, rfl, hbl, hcx⟩ := HY.out k (by rw [H2.out]; exact hlt)
                have HS := Lib.hid (any_take y 0 (badS t) (show k < y.length by rw [H2.out]; exact hlt))
                have HP := Lib.hid (any_mem y 0 (badS t) (show k < y.length by rw [H2.out]; exact hlt))
                rw [HF.out, Bool.false_or] at HS
                generalize y.getD k 0 = d at *
                rw [← sBad_eq ht d] at HS HP
                have HSB : Hid (y.any (badS t) = true → y.any (badS t) = true) := Lib.hid id
                have hm0 : (0 : Int) ≤ (t : Int) := by omega
                have HU : Hid (sBad t d = (!inn d 0 6 || (decide (d = 6) && (decide (0 < t % 5) || decide (4 ≤ t / 5))) || (inn d 2 5 && decide (nbAt t d < 0)))) := Lib.hid rfl
                have HI1 := Lib.hid (inn_any d 0 6 w0)
                have HI2 := Lib.hid (inn_any d 2 5 w0)
                have HI3 := Lib.hid (snb_any t d w0 ht)
                clear HF
                by_cases h6 : d = 6
                · subst h6
                  have i1 : inn 6 0 6 = true := by decide
                  have i2 : inn 6 2 5 = false := by decide
                  rw [i1] at HI1
                  rw [i2] at HI2
                  by_cases a : 0 < t % 5
                  · have p0 : (0 : Int) < (t : Int).tmod 5 := by rw [Int.tmod_eq_emod_of_nonneg hm0]; omega
                    have p1 : (0 : Int) < (t : Int) % 5 := by omega
                    have HB1 : Hid (sBad t 6 = true) := Lib.hid (by rw [HU.out]; simp [i1, a])
                    clear HU a i1 i2 HI3
                    go_wp2_with fail
                    refine HI1.out.mono ?_
                    rintro e w2 ⟨rfl, rfl⟩
                    clear HI1 HI2
                    clear HS
                    have HP2 := Lib.hid (HP.out HB1.out)
                    clear HP
                    go_wp2
                    go_ret
                    exact ⟨by rw [HD.out, HSB.out HP2.out]; simp, HB0.out⟩

                  · have p0 : ¬ (0 : Int) < (t : Int).tmod 5 := by rw [Int.tmod_eq_emod_of_nonneg hm0]; omega
                    have p1 : ¬ (0 : Int) < (t : Int) % 5 := by omega
                    by_cases b : 4 ≤ t / 5
                    · have p2 : (4 : Int) ≤ (t : Int) / 5 := by omega
                      have HB1 : Hid (sBad t 6 = true) := Lib.hid (by rw [HU.out]; simp [i1, b])
                      clear HU a b i1 i2 HI3
                      go_wp2_with fail
                      refine HI1.out.mono ?_
                      rintro e w2 ⟨rfl, rfl⟩
                      clear HI1 HI2
                      clear HS
                      have HP2 := Lib.hid (HP.out HB1.out)
                      clear HP
                      go_wp2
                      go_ret
                      exact ⟨by rw [HD.out, HSB.out HP2.out]; simp, HB0.out⟩

                    · have p2 : ¬ (4 : Int) ≤ (t : Int) / 5 := by omega
                      have HB1 : Hid (sBad t 6 = false) := Lib.hid (by rw [HU.out]; simp [i1, i2]; omega)
                      clear HU a b i1 i2 HI3
                      go_wp2_with fail
                      refine HI1.out.mono ?_
                      rintro e w2 ⟨rfl, rfl⟩
                      clear HI1
                      go_wp2_with fail
                      refine HI2.out.mono ?_
                      rintro e w2 ⟨rfl, rfl⟩
                      clear HI2
                      clear HP
                      have HS2 := Lib.hid (HS.out.trans HB1.out)
                      clear HS
                      go_wp2
                      go_round
                      case rel => exact ⟨k + 1, by omega, by go_num, HS2⟩
                      case measure => simp [intOf]; omega

                · have b6 : (d == 6) = false := by rw [beq_eq_false_iff_ne]; exact h6
                  generalize hq1 : inn d 0 6 = q1 at *
                  clear hq1
                  cases q1
                  · have HB1 : Hid (sBad t d = true) := Lib.hid (by rw [HU.out]; simp)
                    clear HU HI2 HI3
                    go_wp2_with fail
                    refine HI1.out.mono ?_
                    rintro e w2 ⟨rfl, rfl⟩
                    clear HI1
                    clear HS
                    have HP2 := Lib.hid (HP.out HB1.out)
                    clear HP
                    go_wp2
                    go_ret
                    exact ⟨by rw [HD.out, HSB.out HP2.out]; simp, HB0.out⟩

                  · generalize hq2 : inn d 2 5 = q2 at *
                    clear hq2
                    cases q2
                    · have HB1 : Hid (sBad t d = false) := Lib.hid (by rw [HU.out]; simp [h6])
                      clear HU HI3
                      go_wp2_with fail
                      refine HI1.out.mono ?_
                      rintro e w2 ⟨rfl, rfl⟩
                      clear HI1
                      go_wp2_with fail
                      refine HI2.out.mono ?_
                      rintro e w2 ⟨rfl, rfl⟩
                      clear HI2
                      clear HP
                      have HS2 := Lib.hid (HS.out.trans HB1.out)
                      clear HS
                      go_wp2
                      go_round
                      case rel => exact ⟨k + 1, by omega, by go_num, HS2⟩
                      case measure => simp [intOf]; omega

                    · generalize hz : nbAt t d = z at *
                      clear hz
                      by_cases hzn : z < 0
                      · have HB1 : Hid (sBad t d = true) := Lib.hid (by rw [HU.out]; simp [hzn])
                        clear HU
                        go_wp2_with fail
                        refine HI1.out.mono ?_
                        rintro e w2 ⟨rfl, rfl⟩
                        clear HI1
                        go_wp2_with fail
                        refine HI2.out.mono ?_
                        rintro e w2 ⟨rfl, rfl⟩
                        clear HI2
                        go_wp2_with fail
                        refine HI3.out.mono ?_
                        rintro e w2 ⟨rfl, rfl⟩
                        clear HI3
                        clear HS
                        have HP2 := Lib.hid (HP.out HB1.out)
                        clear HP
                        go_wp2
                        go_ret
                        exact ⟨by rw [HD.out, HSB.out HP2.out]; simp, HB0.out⟩

                      · have HB1 : Hid (sBad t d = false) := Lib.hid (by rw [HU.out]; simp [hzn, h6])
                        clear HU
                        go_wp2_with fail
                        refine HI1.out.mono ?_
                        rintro e w2 ⟨rfl, rfl⟩
                        clear HI1
                        go_wp2_with fail
                        refine HI2.out.mono ?_
                        rintro e w2 ⟨rfl, rfl⟩
                        clear HI2
                        go_wp2_with fail
                        refine HI3.out.mono ?_
                        rintro e w2 ⟨rfl, rfl⟩
                        clear HI3
                        clear HP
                        have HS2 := Lib.hid (HS.out.trans HB1.out)
                        clear HS
                        go_wp2
                        go_round
                        case rel => exact ⟨k + 1, by omega, by go_num, HS2⟩
                        case measure => simp [intOf]; omega

              · obtain rfl : k = 8 := by omega
                have HFG : Hid (y.any (badS t) = false) := Lib.hid (by have h := HF.out; rwa [← H2.out, List.take_length] at h)
                go_wp2
                go_ret
                exact ⟨by rw [HD.out, HFF.out, HFG.out]; simp, HB0.out⟩
      · have h8 : ¬ (m2 : Int) = 8 := by omega
        have h8b : ((m2 : Int) != 8) = true := by simpa using h8
        have HE8 := Lib.hid e8
        clear e8
        go_wp2
        go_ret
        exact ⟨by rw [HD.out]; simp [HE8.out], HB0.out⟩
    · have h8 : ¬ (m1 : Int) = 3 := by omega
      have h8b : ((m1 : Int) != 3) = true := by simpa using h8
      have HE8 := Lib.hid e3
      clear e3
      go_wp2
      go_ret
      exact ⟨by rw [HD.out]; simp [HE8.out], HB0.out⟩
set_option maxHeartbeats 1600000 in
theorem scv_any (TA PA : Option Addr) (n tc m pc : Nat) (ts : List Tl) (ps : List Pd) (w : World) (hx : TlIn w w.heap.size TA ts) (hy : PdIn w w.heap.size PA ps) (hn : ts.length = n) (hm : ps.length = m) :
    Calls Try.prog 12 #[cfv TA n tc PA m pc] w fun e w' => e = .returned (.bool (cfOk ts ps)) ∧ Below w.heap.size w w' := by
  have HD : Hid (cfOk ts ps = (decide (n = 25) && (decide (m = 3) && !ps.any unreadP) && tlsOk ts 25)) := Lib.hid (by rw [← hn, ← hm]; rfl)
  have hb0 : Below w.heap.size w (w.alloc (.cells #[.slice TA n tc, .slice PA m pc] 26)) := (Below.refl _ _).alloc (Nat.le_refl _) _
  have HB0 := Lib.hid hb0
  have HR0 := Lib.hid (row_new w 26 #[.slice TA n tc, .slice PA m pc])
  have HX := Lib.hid hx
  have HY := Lib.hid hy
  have HN := Lib.hid hn
  have HM := Lib.hid hm
  clear hx hy hn hm hb0
  go_enter Try.func12, Try.ntmps12
  go_upto_region 1 with fail
  generalize w.alloc (.cells #[.slice TA n tc, .slice PA m pc] 26) = w0 at *
  have c0 := HR0.out.cell 0
  have c1 := HR0.out.cell 1
  simp at c0 c1
  by_cases h25 : n = 25
  · subst h25
    by_cases h3 : m = 3
    · subst h3
      go_wp2
      clear c0 c1
      have hz0 : w.heap.size < w0.heap.size := HR0.out.lt
      go_loopw [3] (fun iv wr => ∃ (k : Nat), k ≤ 25 ∧ iv = .int .i64 k ∧ Hid (tlsOk ts k = true) ∧ Hid (Below w.heap.size w wr) ∧ Hid (Row wr w.heap.size 26 #[.slice TA 25 tc, .slice PA 3 pc])) (fun iv _ => 25 - (intOf iv).toNat)
      case atStart => exact ⟨0, Nat.zero_le _, rfl, Lib.hid rfl, HB0, HR0⟩
      case round =>
        clear HB0 HR0
        obtain ⟨k, hk, rfl, HF, HB, HR⟩ := hrel
        have c0 := HR.out.cell 0
        have c1 := HR.out.cell 1
        simp at c0 c1
        by_cases hlt : k < 25
        · obtain ⟨b, off, rfl, hbl, A1, c1', A2, c2, ⟨p0, p1, p2, p3⟩, ⟨hA1, hA2⟩, _, _⟩ := HX.out k (by rw [HN.out]; exact hlt)
          have q0 := (HB.out.cell (p := ⟨b, off + k * 4, none⟩) hbl).trans p0
          have q1 := (HB.out.cell (p := ⟨b, off + k * 4 + 1, none⟩) hbl).trans p1
          have q2 := (HB.out.cell (p := ⟨b, off + k * 4 + 2, none⟩) hbl).trans p2
          have q3 := (HB.out.cell (p := ⟨b, off + k * 4 + 3, none⟩) hbl).trans p3
          have HTS := Lib.hid (tls_step ts k)
          have HTF := Lib.hid (fun h => tls_false ts hlt h)
          rw [HF.out, Bool.true_and] at HTS
          have hbe : ts.getD k tl0 = ((ts.getD k tl0).1, (ts.getD k tl0).2.1, (ts.getD k tl0).2.2.1, (ts.getD k tl0).2.2.2) := rfl
          rw [hbe] at HTS HTF
          have HA1 := Lib.hid ((hA1.below HB.out).mono HB.out.size)
          have HA2 := Lib.hid ((hA2.below HB.out).mono HB.out.size)
          clear p0 p1 p2 p3 hbe hA1 hA2
          generalize (ts.getD k tl0).2.2.2 = y at *
          generalize (ts.getD k tl0).2.2.1 = r at *
          generalize (ts.getD k tl0).2.1 = x at *
          generalize (ts.getD k tl0).1 = v at *
          have HS := Lib.hid (stile_any k v A1 A2 x.length c1' y.length c2 r x y wr hlt HA1.out HA2.out rfl rfl)
          clear HA1 HA2
          go_wp2_with fail
          refine HS.out.mono ?_
          rintro e w3 ⟨rfl, hb3⟩
          have HB3 := Lib.hid (HB.out.trans (hb3.mono HB.out.size))
          have HR3 := Lib.hid (HR.out.below hb3 HR.out.lt)
          clear hb3 HS q0 q1 q2 q3 c0 c1
          generalize tlOk k (v, x, r, y) = qq at *
          cases qq
          · have HFF := Lib.hid (HTF.out rfl)
            clear HTF HTS
            go_wp2
            go_ret
            exact ⟨by rw [HD.out, HFF.out]; simp, HB3.out⟩
          · clear HTF
            go_wp2
            go_roundw
            case rel => exact ⟨k + 1, by omega, by go_num, HTS, HB3, HR3⟩
            case measure => simp [intOf]; omega
        · obtain rfl : k = 25 := by omega
          have HF1 := HF
          rw [show ((25 : Nat) : Int) = 25 from rfl]
          clear HF hlt hk
          obtain ⟨w8, h8⟩ : ∃ w8, w8 = wr := ⟨_, rfl⟩
          subst h8
          go_wp2
          clear c0 c1
          go_loopw [4] (fun iv wr => ∃ (k : Nat), k ≤ 3 ∧ iv = .int .i64 k ∧ wr = w8 ∧ Hid ((ps.take k).any unreadP = false)) (fun iv _ => 3 - (intOf iv).toNat)
          case atStart => exact ⟨0, Nat.zero_le _, rfl, rfl, Lib.hid rfl⟩
          case round =>
            obtain ⟨k, hk, rfl, rfl, HF⟩ := hrel
            have c1 := HR.out.cell 1
            simp at c1
            by_cases hlt : k < 3
            · obtain ⟨b, off, rfl, hbl, p0, p1⟩ := HY.out k (by rw [HM.out]; exact hlt)
              have q0 := (HB.out.cell (p := ⟨b, off + k * 2, none⟩) hbl).trans p0
              have HS := Lib.hid (any_take ps pd0 unreadP (show k < ps.length by rw [HM.out]; exact hlt))
              have HP := Lib.hid (any_mem ps pd0 unreadP (show k < ps.length by rw [HM.out]; exact hlt))
              rw [HF.out, Bool.false_or] at HS
              have HQ : Hid (unreadP (ps.getD k pd0) = unread (ps.getD k pd0).1) := Lib.hid rfl
              clear p0 p1
              generalize hv : (ps.getD k pd0).1 = v at *
              rw [HQ.out] at HS HP
              clear hv HQ
              go_wp2_with fail
              refine (track_any v _).mono ?_
              rintro e w3 ⟨rfl, rfl⟩
              clear q0
              generalize unread v = pv at *
              cases pv
              · clear HP
                go_wp2
                go_roundw
                case rel => exact ⟨k + 1, by omega, by go_num, by first | rfl | trivial, HS⟩
                case measure => simp [intOf]; omega
              · have HP2 := Lib.hid (HP.out rfl)
                clear HP HS
                go_wp2
                go_ret
                exact ⟨by rw [HD.out, HP2.out]; simp, HB.out⟩
            · obtain rfl : k = 3 := by omega
              have HFF : Hid (ps.any unreadP = false) := Lib.hid (by have h := HF.out; rwa [← HM.out, List.take_length] at h)
              go_wp2
              go_ret
              exact ⟨by rw [HD.out, HF1.out, HFF.out]; simp, HB.out⟩
    · have h8 : ¬ (m : Int) = 3 := by omega
      have h8b : ((m : Int) != 3) = true := by simpa using h8
      have HE8 := Lib.hid h3
      clear h3
      go_wp2
      go_ret
      exact ⟨by rw [HD.out]; simp [HE8.out], HB0.out⟩
  · have h8 : ¬ (n : Int) = 25 := by omega
    have h8b : ((n : Int) != 25) = true := by simpa using h8
    have HE8 := Lib.hid h25
    clear h25
    go_wp2
    go_ret
    exact ⟨by rw [HD.out]; simp [HE8.out], HB0.out⟩
end Go.Proofs.Ytdadokcodklfgaa
