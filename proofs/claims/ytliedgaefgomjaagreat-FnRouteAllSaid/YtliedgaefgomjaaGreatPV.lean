/- PlacementValid of the program and of the model. -/
import Derived.Test.YtliedgaefgomjaaGreatNS
import Derived.Test.YtliedgaefgomjaaGreatQP
namespace Plc
theorem take_mem {p : List Int} {k : Nat} {x : Int} (hk : k ≤ p.length) : x ∈ p.take k ↔ ∃ j, j < k ∧ p.getD j 0 = x := by
  rw [List.mem_iff_getElem?]
  constructor
  · rintro ⟨j, hj⟩
    have hlt := (List.getElem?_eq_some_iff.1 hj).1
    rw [List.length_take] at hlt
    rw [List.getElem?_take, if_pos (by omega)] at hj
    exact ⟨j, by omega, by rw [List.getD_eq_getElem?_getD, hj]; rfl⟩
  · rintro ⟨j, hj, e⟩
    refine ⟨j, ?_⟩
    rw [List.getElem?_take, if_pos hj, List.getElem?_eq_getElem (by omega), ← e, getD_eq (by omega)]
end Plc
namespace Go.Proofs.YtliedgaefgomjaaGreat
open Go.RowKit Go.Deep Cut

/-- Whether a placement of a circuit is valid. -/
def placeB (i : Int) (ns : List Int) (gs : List (Int × Int)) (os p : List Int) : Bool := Circ.validB i ns gs os && Plc.okP (cellsV i ns gs os).length p

set_option maxRecDepth 10000 in
set_option maxHeartbeats 800000 in
theorem ivalidP_any (i : Int) (nA gA oA A : Option Addr) (nc gc oc pl pc : Nat) (ns : List Int) (gs : List (Int × Int)) (os p : List Int) (w : World) (hc : CircAt w w.heap.size nA gA oA ns gs os) (hgc : gs.length ≤ gc) (hp : IntsAt w w.heap.size A p) (hpl : p.length = pl) (hpm : pl ≤ maxLen) :
    Calls Tryz.prog 25 #[.agg #[.int .i64 i, .slice nA ns.length nc, .slice gA gs.length gc, .slice oA os.length oc], .slice A pl pc] w fun e w' => e = .returned (.bool (placeB i ns gs os p)) ∧ Below w.heap.size w w' := by
  have HB0 := Lib.hid (Boxed.new w i nA gA oA ns.length nc gs.length gc os.length oc 26)
  have hbw : Below w.heap.size w (w.alloc (.cells #[.int .i64 i, .slice nA ns.length nc, .slice gA gs.length gc, .slice oA os.length oc] 26)) := (Below.refl _ _).alloc (Nat.le_refl _) _
  have hlt0 : w.heap.size < (w.alloc (.cells #[.int .i64 i, .slice nA ns.length nc, .slice gA gs.length gc, .slice oA os.length oc] 26)).heap.size := by simp
  have HC := Lib.hid hc
  have HP := Lib.hid hp
  have HPL := Lib.hid hpl
  have HL0 := Lib.hid hbw
  have HPB : Hid (placeB i ns gs os p = (Circ.validB i ns gs os && Plc.okP (cellsV i ns gs os).length p)) := Lib.hid rfl
  unfold maxLen at hpm
  clear hc hp hpl hbw
  go_enter Tryz.func25, Tryz.ntmps25
  go_upto_region 1 with fail
  generalize w.alloc (.cells #[.int .i64 i, .slice nA ns.length nc, .slice gA gs.length gc, .slice oA os.length oc] 26) = w0 at *
  have q0 := HB0.out.c0
  have q1 := HB0.out.c1
  have q2 := HB0.out.c2
  have q3 := HB0.out.c3
  go_wp2_with fail
  refine (valid_any i nA gA oA nc gc oc ns gs os _ ((HC.out.below HL0.out).mono HL0.out.size)).mono ?_
  rintro e w1 ⟨rfl, hb1⟩
  have HB1 := Lib.hid (HB0.out.below hb1 hlt0)
  have HL1 := Lib.hid (HL0.out.trans (hb1.mono HL0.out.size))
  have hlt1 : w.heap.size < w1.heap.size := by have := hb1.size; omega
  clear hb1 q0 q1 q2 q3 HB0 HL0
  have q0 := HB1.out.c0
  have q1 := HB1.out.c1
  have q2 := HB1.out.c2
  have q3 := HB1.out.c3
  cases hv : Circ.validB i ns gs os
  · have HE : Hid (placeB i ns gs os p = false) := Lib.hid (by rw [HPB.out, hv]; rfl)
    clear hv HPB
    go_wp2
    go_ret
    exact ⟨ret_bool HE.out.symm, HL1.out⟩
  · have hbd := cellsV_lim hv
    have HV := Lib.hid hv
    have HE : Hid (placeB i ns gs os p = Plc.okP (cellsV i ns gs os).length p) := Lib.hid (by rw [HPB.out, hv]; rfl)
    clear hv HPB
    go_wp2_with fail
    refine (icells_t i nA gA oA nc gc oc ns gs os _ HV.out ((HC.out.below HL1.out).mono HL1.out.size) hgc).mono ?_
    rintro e w2 ⟨gcl, ccl, hs, rfl, _, _, hb2⟩
    have HL2 := Lib.hid (HL1.out.trans (hb2.mono HL1.out.size))
    clear hb2 q0 q1 q2 q3 HB1 HL1
    obtain ⟨n, hn⟩ : ∃ n, (cellsV i ns gs os).length = n := ⟨_, rfl⟩
    rw [hn] at hbd HE ⊢
    obtain ⟨hn17, _⟩ := hbd
    clear hn
    by_cases hpn : pl = n
    · have e1 : ((pl : Int) != (n : Int)) = false := by simp [hpn]
      have HEN : Hid (placeB i ns gs os p = Plc.okP n p) := HE
      go_wp2_with fail
      rw [show (25 : Int) = ((25 : Nat) : Int) from rfl]
      refine (newBitSet_any 25 _ (by omega) (by omega)).mono ?_
      rintro e w3 ⟨rfl, hr3, hb3⟩
      have HR3 := Lib.hid hr3
      have HL3 := Lib.hid (HL2.out.trans (hb3.mono HL2.out.size))
      have hbs : w.heap.size ≤ w2.heap.size := HL2.out.size
      generalize w2.heap.size = bs at *
      clear hr3 hb3 HL2 e1
      go_upto_region 5 with fail
      go_loopw [22] (fun iv wr => ∃ (k m : Nat), k ≤ pl ∧ iv = .int .i64 k ∧ m < 18446744073709551616 ∧ Hid (Plc.preP p k) ∧ Hid (∀ v, v < 64 → (m.testBit v = true ↔ ∃ j, j < k ∧ p.getD j 0 = ((v : Nat) : Int))) ∧ Hid (Row wr bs 121 #[.int .u64 m]) ∧ Hid (Below w.heap.size w wr)) (fun iv _ => pl - (intOf iv).toNat)
      case atStart => exact ⟨0, 0, Nat.zero_le _, rfl, by omega, Lib.hid (Plc.preP_zero p), Lib.hid (fun v hv => by simp), HR3, HL3⟩
      case round =>
        clear HR3 HL3
        obtain ⟨k, m, hk, rfl, hm, HPre, HBit, HRow, HX⟩ := hrel
        by_cases hlt : k < pl
        · obtain ⟨b, off, rfl, hbl, hcell⟩ := HP.out k (by rw [HPL.out]; exact hlt)
          have hcl := (HX.out.cell (p := ⟨b, off + k, none⟩) hbl).trans hcell
          by_cases hin : 0 ≤ p.getD k 0 ∧ p.getD k 0 ≤ 24
          · obtain ⟨v, hv⟩ : ∃ v : Nat, p.getD k 0 = v := ⟨(p.getD k 0).toNat, by omega⟩
            rw [hv] at hcl
            have hv24 : v ≤ 24 := by omega
            have q := HRow.out.cell 0
            simp at q
            have HIN := Lib.hid hin
            have HVE := Lib.hid hv
            clear hin hv hcell
            cases htb : m.testBit v
            · have hno : ¬ ∃ j, j < k ∧ p.getD j 0 = ((v : Nat) : Int) := fun h => by
                have := (HBit.out v (by omega)).2 h
                rw [htb] at this
                cases this
              have HPre2 : Hid (Plc.preP p (k + 1)) := Lib.hid (Plc.preP_step HPre.out HIN.out (fun j hj e => hno ⟨j, hj, by rw [e, HVE.out]⟩))
              have HBit2 : Hid (∀ u, u < 64 → ((m ||| 2 ^ v).testBit u = true ↔ ∃ j, j < k + 1 ∧ p.getD j 0 = ((u : Nat) : Int))) := Lib.hid (fun u hu => by
                rw [Nat.testBit_or, Nat.testBit_two_pow, Bool.or_eq_true, HBit.out u hu, decide_eq_true_iff]
                constructor
                · rintro (⟨j, hj, e⟩ | e)
                  · exact ⟨j, by omega, e⟩
                  · exact ⟨k, by omega, by rw [HVE.out, e]⟩
                · rintro ⟨j, hj, e⟩
                  by_cases hjk : j = k
                  · subst hjk
                    rw [HVE.out] at e
                    right; omega
                  · left; exact ⟨j, by omega, e⟩)
              have HTB := Lib.hid htb
              have hm2 : m ||| 2 ^ v < 18446744073709551616 := by
                have h1 : (2 : Nat) ^ v < 2 ^ 64 := Nat.pow_lt_pow_right (by omega) (by omega)
                exact Nat.or_lt_two_pow (n := 64) hm h1
              have HM2 := Lib.hid hm2
              clear htb hno HPre HBit hm2
              go_wp2_with fail
              refine (has_any bs m v _ q (by omega) hm).mono ?_
              rintro e w5 ⟨rfl, hw5⟩
              obtain rfl := hw5
              rw [HTB.out]
              go_wp2_with fail
              refine (add_any bs m v 121 _ HRow.out (by omega) hm).mono ?_
              rintro e w6 ⟨rfl, rfl⟩
              have HRow2 : Hid (Row (wr.setCell ⟨bs, 0, none⟩ (.int .u64 (m ||| 2 ^ v : Nat))) bs 121 #[.int .u64 (m ||| 2 ^ v : Nat)]) := Lib.hid (by have h := HRow.out.set 0 (.int .u64 (m ||| 2 ^ v : Nat)); simpa using h)
              have HX2 : Hid (Below w.heap.size w (wr.setCell ⟨bs, 0, none⟩ (.int .u64 (m ||| 2 ^ v : Nat)))) := Lib.hid (HX.out.setCell (p := ⟨bs, 0, none⟩) hbs _)
              generalize wr.setCell ⟨bs, 0, none⟩ (.int .u64 (m ||| 2 ^ v : Nat)) = wq at *
              clear q hcl HX HRow HTB
              go_wp2
              go_roundw
              case rel => exact ⟨k + 1, m ||| 2 ^ v, by omega, by go_num, HM2.out, HPre2, HBit2, HRow2, HX2⟩
              case measure => simp [intOf]; omega
            · have HF : Hid (Plc.okP n p = false) := Lib.hid (Plc.okP_bad (k := k) (by rw [HPL.out]; exact hlt) (.inr (by
                obtain ⟨j, hj, e⟩ := (HBit.out v (by omega)).1 htb
                exact ⟨j, hj, by rw [e, HVE.out]⟩)))
              have HTB := Lib.hid htb
              clear htb HPre HBit
              go_wp2_with fail
              refine (has_any bs m v _ q (by omega) hm).mono ?_
              rintro e w5 ⟨rfl, hw5⟩
              obtain rfl := hw5
              rw [HTB.out]
              go_wp2
              go_ret
              exact ⟨ret_bool (by rw [HEN.out, HF.out]), HX.out⟩
          · have HF : Hid (Plc.okP n p = false) := Lib.hid (Plc.okP_bad (k := k) (by rw [HPL.out]; exact hlt) (.inl hin))
            clear hcell HPre HBit
            generalize p.getD k 0 = x at *
            by_cases hx0 : x < 0
            · have hd : decide (x < 0) = true := by simp [hx0]
              clear hin
              go_wp2
              go_ret
              exact ⟨ret_bool (by rw [HEN.out, HF.out]), HX.out⟩
            · have hd : decide (x < 0) = false := by simp; omega
              have hd2 : decide (25 ≤ x) = true := by simp; omega
              clear hin
              go_wp2
              go_ret
              exact ⟨ret_bool (by rw [HEN.out, HF.out]), HX.out⟩
        · obtain rfl : k = pl := by omega
          have HT : Hid (Plc.okP n p = true) := Lib.hid (by
            have h := Plc.preP_all (p := p) (by rw [HPL.out]; exact HPre.out)
            rw [HPL.out, hpn] at h
            exact h)
          go_wp2
          go_ret
          exact ⟨ret_bool (by rw [HEN.out, HT.out]), HX.out⟩
    · have e1 : ((pl : Int) != (n : Int)) = true := by simp; omega
      have HF : Hid (Plc.okP n p = false) := Lib.hid (Plc.okP_len (by rw [HPL.out]; exact hpn))
      clear hpn
      go_wp2
      go_ret
      exact ⟨ret_bool (by rw [HE.out, HF.out]), HL2.out⟩

set_option maxHeartbeats 400000 in
theorem l7Has_any (A : Option Addr) (n cap B : Nat) (xs : List Int) (y : Int) (w : World) (hx : IntsAt w B A xs) (hn : xs.length = n) (hnb : n ≤ 1000) :
    Calls Tryz.prog 58 #[.slice A n cap, .int .i64 y] w fun e w' => e = .returned (.bool (xs.contains y)) ∧ w = w' := by
  have HX := Lib.hid hx
  have HN := Lib.hid hn
  clear hx hn
  go_enter Tryz.func58, Tryz.ntmps58
  go_wp2
  go_loop [5] (fun iv => ∃ (k : Nat), k ≤ n ∧ iv = .int .i64 k ∧ Hid (∀ j, j < k → xs.getD j 0 ≠ y)) (fun iv => n - (intOf iv).toNat)
  case atStart => exact ⟨0, Nat.zero_le _, rfl, Lib.hid (fun j hj => by omega)⟩
  case round =>
    obtain ⟨k, hk, rfl, HNO⟩ := hrel
    by_cases hlt : k < n
    · obtain ⟨b, off, rfl, hbl, hcell⟩ := HX.out k (by rw [HN.out]; exact hlt)
      by_cases he : xs.getD k 0 = y
      · have HE : Hid (xs.contains y = true) := Lib.hid (by
          rw [List.contains_iff_mem, ← he, Plc.getD_eq (by rw [HN.out]; exact hlt)]
          exact List.getElem_mem _)
        rw [he] at hcell
        clear he
        go_wp2
        go_ret
        exact ⟨ret_bool (by rw [← List.contains_eq_mem]; exact HE.out.symm), rfl⟩
      · have HN2 : Hid (∀ j, j < k + 1 → xs.getD j 0 ≠ y) := Lib.hid (fun j hj => by
          by_cases e : j = k
          · subst e; exact he
          · exact HNO.out j (by omega))
        have hbe : (xs.getD k 0 == y) = false := by simpa using he
        clear he HNO
        generalize xs.getD k 0 = v at *
        go_wp2
        go_round
        case rel => exact ⟨k + 1, by omega, by go_num, HN2⟩
        case measure => simp [intOf]; omega
    · obtain rfl : k = n := by omega
      have HE : Hid (xs.contains y = false) := Lib.hid (by
        rw [Bool.eq_false_iff, Ne, List.contains_iff_mem]
        intro h
        obtain ⟨j, hj, e⟩ := List.mem_iff_getElem.1 h
        exact HNO.out j (by rw [← HN.out]; exact hj) (by rw [Plc.getD_eq hj]; exact e))
      go_wp2
      go_ret
      exact ⟨ret_bool (by rw [← List.contains_eq_mem]; exact HE.out.symm), rfl⟩

theorem quiet_sym {f : FuncId} {args : Array Value} {w : World} {v : Value} (h : Calls Tryz.prog f args w fun e w' => e = .returned v ∧ w = w') : Calls Tryz.prog f args w fun e w' => e = .returned v ∧ w' = w := h.mono (fun _ _ ⟨a, b⟩ => ⟨a, b.symm⟩)
theorem l1In_v (x : Int) (bv : Bool) (h : Circ.inB x 0 24 = bv) (w : World) : Calls Tryz.prog 57 #[.int .i64 x, .int .i64 0, .int .i64 24] w fun e w' => e = .returned (.bool bv) ∧ w' = w := by
  subst h
  exact quiet_sym (l1In_any x 0 24 w)
theorem l7Has_v (A : Option Addr) (n cap B : Nat) (xs : List Int) (y : Int) (bv : Bool) (h : xs.contains y = bv) (w : World) (hx : IntsAt w B A xs) (hn : xs.length = n) (hnb : n ≤ 1000) : Calls Tryz.prog 58 #[.slice A n cap, .int .i64 y] w fun e w' => e = .returned (.bool bv) ∧ w' = w := by
  subst h
  exact quiet_sym (l7Has_any A n cap B xs y w hx hn hnb)
theorem IntsAt.takeN {w : World} {B k : Nat} {A : Option Addr} {p : List Int} (h : IntsAt w B A p) (hk : k ≤ p.length) : IntsAt w B A (p.take k) := fun j hj => by
  rw [List.length_take] at hj
  obtain ⟨b, off, e, hlt, hc⟩ := h j (by omega)
  refine ⟨b, off, e, hlt, ?_⟩
  rw [hc]
  simp [List.getD_eq_getElem?_getD, show j < k by omega]

set_option maxRecDepth 10000 in
set_option maxHeartbeats 800000 in
theorem svalidP_any (i : Int) (nA gA oA A : Option Addr) (nc gc oc pl pc : Nat) (ns : List Int) (gs : List (Int × Int)) (os p : List Int) (w : World) (hc : CircAt w w.heap.size nA gA oA ns gs os) (hp : IntsAt w w.heap.size A p) (hpl : p.length = pl) (hpm : pl ≤ maxLen) (hpc : pl ≤ pc) :
    Calls Tryz.prog 30 #[.agg #[.int .i64 i, .slice nA ns.length nc, .slice gA gs.length gc, .slice oA os.length oc], .slice A pl pc] w fun e w' => e = .returned (.bool (placeB i ns gs os p)) ∧ Below w.heap.size w w' := by
  have HB0 := Lib.hid (Boxed.new w i nA gA oA ns.length nc gs.length gc os.length oc 26)
  have hbw : Below w.heap.size w (w.alloc (.cells #[.int .i64 i, .slice nA ns.length nc, .slice gA gs.length gc, .slice oA os.length oc] 26)) := (Below.refl _ _).alloc (Nat.le_refl _) _
  have hlt0 : w.heap.size < (w.alloc (.cells #[.int .i64 i, .slice nA ns.length nc, .slice gA gs.length gc, .slice oA os.length oc] 26)).heap.size := by simp
  have HC := Lib.hid hc
  have HP := Lib.hid hp
  have HPL := Lib.hid hpl
  have HL0 := Lib.hid hbw
  have HPB : Hid (placeB i ns gs os p = (Circ.validB i ns gs os && Plc.okP (cellsV i ns gs os).length p)) := Lib.hid rfl
  unfold maxLen at hpm
  clear hc hp hpl hbw
  go_enter Tryz.func30, Tryz.ntmps30
  go_upto_region 1 with fail
  generalize w.alloc (.cells #[.int .i64 i, .slice nA ns.length nc, .slice gA gs.length gc, .slice oA os.length oc] 26) = w0 at *
  have q0 := HB0.out.c0
  have q1 := HB0.out.c1
  have q2 := HB0.out.c2
  have q3 := HB0.out.c3
  go_wp2_with fail
  refine (svalid_any i nA gA oA nc gc oc ns gs os _ ((HC.out.below HL0.out).mono HL0.out.size)).mono ?_
  rintro e w1 ⟨rfl, hb1⟩
  have HB1 := Lib.hid (HB0.out.below hb1 hlt0)
  have HL1 := Lib.hid (HL0.out.trans (hb1.mono HL0.out.size))
  have hlt1 : w.heap.size < w1.heap.size := by have := hb1.size; omega
  clear hb1 q0 q1 q2 q3 HB0 HL0
  have q0 := HB1.out.c0
  have q1 := HB1.out.c1
  have q2 := HB1.out.c2
  have q3 := HB1.out.c3
  cases hv : Circ.validB i ns gs os
  · have HE : Hid (placeB i ns gs os p = false) := Lib.hid (by rw [HPB.out, hv]; rfl)
    clear hv HPB
    go_wp2
    go_ret
    exact ⟨ret_bool HE.out.symm, HL1.out⟩
  · have hbd := cellsV_lim hv
    have HV := Lib.hid hv
    have HE : Hid (placeB i ns gs os p = Plc.okP (cellsV i ns gs os).length p) := Lib.hid (by rw [HPB.out, hv]; rfl)
    clear hv HPB
    go_wp2_with fail
    refine (sl6_any i nA gA oA nc gc oc ns gs os _ HV.out ((HC.out.below HL1.out).mono HL1.out.size)).mono ?_
    rintro e w2 ⟨gcl, ccl, hs, rfl, _, hb2⟩
    have HL2 := Lib.hid (HL1.out.trans (hb2.mono HL1.out.size))
    clear hb2 q0 q1 q2 q3 HB1 HL1
    obtain ⟨n, hn⟩ : ∃ n, (cellsV i ns gs os).length = n := ⟨_, rfl⟩
    rw [hn] at hbd HE ⊢
    obtain ⟨hn17, _⟩ := hbd
    clear hn
    by_cases hpn : pl = n
    · have e1 : ((pl : Int) != (n : Int)) = false := by simp [hpn]
      have HP2 := Lib.hid (HP.out.below HL2.out)
      have H00 : Hid (Plc.preP p 0) := Lib.hid (Plc.preP_zero p)
      go_upto_region 4 with fail
      clear e1
      go_loopw [5] (fun iv wr => ∃ (k : Nat), k ≤ pl ∧ iv = .int .i64 k ∧ Hid (Plc.preP p k) ∧ Hid (Below w.heap.size w wr)) (fun iv _ => pl - (intOf iv).toNat)
      case atStart => exact ⟨0, Nat.zero_le _, rfl, H00, HL2⟩
      case round =>
        clear HL2 H00
        obtain ⟨k, hk, rfl, HPre, HX⟩ := hrel
        by_cases hlt : k < pl
        · obtain ⟨b, off, rfl, hbl, hcell⟩ := HP.out k (by rw [HPL.out]; exact hlt)
          have hcl := (HX.out.cell (p := ⟨b, off + k, none⟩) hbl).trans hcell
          have HPr := Lib.hid ((HP.out.below HX.out).takeN (k := k) (by rw [HPL.out]; omega))
          have HTL : Hid ((p.take k).length = k) := Lib.hid (by rw [List.length_take, HPL.out]; omega)
          have hk0 : (0 : Int) ≤ (k : Int) := Int.natCast_nonneg _
          have hk1 : (k : Int) < (pl : Int) := by omega
          have hk2 : (k : Int) ≤ (pc : Int) := by omega
          have hsame : Hid (∀ x, x ∈ p.take k ↔ ∃ j, j < k ∧ p.getD j 0 = x) := Lib.hid (fun x => Plc.take_mem (by rw [HPL.out]; omega))
          have HBAD := Lib.hid (fun h => Plc.okP_bad (n := n) (p := p) (k := k) (by rw [HPL.out]; exact hlt) h)
          have HGO := Lib.hid (fun h1 h2 => Plc.preP_step (p := p) (k := k) HPre.out h1 h2)
          clear hcell
          generalize p.getD k 0 = x at *
          cases hin : Circ.inB x 0 24
          · have HF : Hid (Plc.okP n p = false) := Lib.hid (HBAD.out (.inl (by
              intro h
              rw [Circ.in_t h.1 h.2] at hin
              cases hin)))
            have HIN := Lib.hid hin
            clear hin HBAD HGO
            go_upto_region 6 with fail
            go_quiet (first
              | (go_at_call 57; exact Calls.quiet_of_same (l1In_v x _ HIN.out _)))
            go_wp2
            go_ret
            exact ⟨ret_bool (by rw [HE.out, HF.out]), below_drewN HX.out _⟩
          · have h24 : 0 ≤ x ∧ x ≤ 24 := by
              by_cases h : 0 ≤ x ∧ x ≤ 24
              · exact h
              · rw [Circ.in_f (by omega)] at hin
                cases hin
            have HIN := Lib.hid hin
            clear hin
            cases hct : (p.take k).contains x
            · have HPre2 : Hid (Plc.preP p (k + 1)) := Lib.hid (HGO.out h24 (fun j hj e => by
                have : (p.take k).contains x = true := by
                  rw [List.contains_iff_mem, hsame.out]
                  exact ⟨j, hj, e⟩
                rw [hct] at this
                cases this))
              have HCT := Lib.hid hct
              clear hct HBAD HGO HPre
              go_upto_region 6 with fail
              go_quiet (first
                | (go_at_call 57; exact Calls.quiet_of_same (l1In_v x _ HIN.out _))
                | (go_at_call 58; exact Calls.quiet_of_same (l7Has_v _ k _ w.heap.size (p.take k) x _ HCT.out _ (HPr.out.below (below_drewN (Below.refl _ _) _)) HTL.out (by omega))))
              go_wp2
              go_roundw
              case rel => exact ⟨k + 1, by omega, by go_num, HPre2, Lib.hid (below_drewN HX.out _)⟩
              case measure => simp [intOf]; omega
            · have HF : Hid (Plc.okP n p = false) := Lib.hid (HBAD.out (.inr ((hsame.out x).1 (List.contains_iff_mem.1 hct))))
              have HCT := Lib.hid hct
              clear hct HBAD HGO HPre
              go_upto_region 6 with fail
              go_quiet (first
                | (go_at_call 57; exact Calls.quiet_of_same (l1In_v x _ HIN.out _))
                | (go_at_call 58; exact Calls.quiet_of_same (l7Has_v _ k _ w.heap.size (p.take k) x _ HCT.out _ (HPr.out.below (below_drewN (Below.refl _ _) _)) HTL.out (by omega))))
              go_wp2
              go_ret
              exact ⟨ret_bool (by rw [HE.out, HF.out]), below_drewN HX.out _⟩
        · obtain rfl : k = pl := by omega
          have HT : Hid (Plc.okP n p = true) := Lib.hid (by
            have h := Plc.preP_all (p := p) (by rw [HPL.out]; exact HPre.out)
            rw [HPL.out, hpn] at h
            exact h)
          go_wp2
          go_ret
          exact ⟨ret_bool (by rw [HE.out, HT.out]), HX.out⟩
    · have e1 : ((pl : Int) != (n : Int)) = true := by simp; omega
      have HF : Hid (Plc.okP n p = false) := Lib.hid (Plc.okP_len (by rw [HPL.out]; exact hpn))
      clear hpn
      go_wp2
      go_ret
      exact ⟨ret_bool (by rw [HE.out, HF.out]), HL2.out⟩
end Go.Proofs.YtliedgaefgomjaaGreat
