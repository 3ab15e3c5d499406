/- The walk of the law FnEquivalentRuns. -/
import Derived.Test.YthpiddpkcmecfaaY14
import Derived.Test.YthpiddpkcmecfaaB17
import Derived.Test.YthpiddpkcmecfaaB19
import Derived.Test.YthpiddpkcmecfaaB20
import Derived.Deep.DeepCutAuto
import Derived.Deep.CutBlock
namespace Go.Proofs.Ythpiddpkcmecfaa
open Go.RowKit Go.Deep
set_option maxRecDepth 100000

theorem RDraw.on {w w' : World} {base g cap : Nat} {vs : List Value} {rs : List (List Bool)} (h : RDraw w base g cap vs rs) (hb : Below w.heap.size w w') : RDraw w' base g cap vs rs :=
  ⟨h.own.kept (gb_below hb) (.inr (fun e => by cases e)), fun j hj => by
    obtain ⟨z, c, h1, h2, h3, h4⟩ := h.row j hj
    exact ⟨z, c, h1, h2, h3, h4.on hb⟩⟩
theorem cells2_on {w w' : World} {a b : Addr} {u v : Value} (hb : Below w.heap.size w w') (h : w.cell? a = some u ∧ w.cell? b = some v) : w'.cell? a = some u ∧ w'.cell? b = some v :=
  ⟨(hb.cell (World.block_lt_of_cell? w a h.1)).trans h.1, (hb.cell (World.block_lt_of_cell? w b h.2)).trans h.2⟩
theorem cells2_gr {w w' : World} {a b : Addr} {u v : Value} {r : Option Nat} (hg : w.grownBy w' r) (ha : some a.block ≠ r) (hb : some b.block ≠ r) (h : w.cell? a = some u ∧ w.cell? b = some v) : w'.cell? a = some u ∧ w'.cell? b = some v :=
  ⟨hg.cell h.1 ha, hg.cell h.2 hb⟩
theorem rows_ok20 {m : Nat} {rs : List (List Bool)} (h1 : rs.length ≤ 20) (h : ∀ k, k < rs.length → (rs.getD k []).length = m) : Circ.rowsB (m : Int) rs = true ∧ ∀ r, r ∈ rs → (r.length : Int) = (m : Int) := by
  have hr : ∀ r, r ∈ rs → (r.length : Int) = (m : Int) := fun r hr => by
    obtain ⟨k, hk, e⟩ := List.getElem_of_mem hr
    have := h k hk
    simp only [List.getD_eq_getElem?_getD, List.getElem?_eq_getElem hk, Option.getD_some, e] at this
    omega
  refine ⟨?_, hr⟩
  simp only [Circ.rowsB, Circ.lensB, Bool.and_eq_true, decide_eq_true_eq, List.all_eq_true]
  exact ⟨by omega, hr⟩
theorem simulate_vz (m n : Nat) (nA gA oA rA : Option Addr) (nl ol nc gc oc rc : Nat) (ns : List Int) (gs : List (Int × Int)) (os : List Int) (rs zz : List (List Bool)) (w : World) (hn : ns.length = nl) (ho : os.length = ol) (hr : rs.length = n) (hv : Circ.validB (m : Int) ns gs os = true) (hw : Circ.rowsB (m : Int) rs = true)
    (hz : Circ.simV gs os ns rs (List.replicate ns.length false) = zz) (hc : CircAt w w.heap.size nA gA oA ns gs os) (hx : RowsAt w w.heap.size rA rs) :
    Calls Try.prog 24 #[.agg #[.int .i64 (m : Int), .slice nA nl nc, .slice gA gs.length gc, .slice oA ol oc], .slice rA n rc] w fun e w' =>
      ∃ A : Option Addr, e = .returned (.slice A n n) ∧ RowsAt w' w'.heap.size A zz ∧ Below w.heap.size w w' := by
  subst hn ho hr hz
  have e : Circ.simulV (m : Int) ns gs os rs = Circ.simV gs os ns rs (List.replicate ns.length false) := by rw [Circ.simulV, hv, hw]; rfl
  have h40 : rs.length ≤ 40 := by simp only [Circ.rowsB, Bool.and_eq_true, decide_eq_true_eq] at hw; exact hw.1
  have h := simulate_any (m : Int) nA gA oA rA nc gc oc rc ns gs os rs w hc hx (by simp [maxLen]; omega)
  rw [e, Circ.simV_len] at h
  exact h.mono fun _ _ ⟨A, he, hs, hb⟩ => ⟨A, he, hs.rows, hb⟩

set_option maxHeartbeats 4000000 in
theorem feqruns_walk (A M : Option Addr) (bl bc ml mc : Nat) (w : World) (hb : CodeAt w A bl) (hbl : bl ≤ bc) (hbc : bc ≤ maxLen) (hm : CodeAt w M ml) (_hml : ml ≤ mc) (_hmc : mc ≤ maxLen) :
    Calls Try.prog 9 #[.slice A bl bc, .slice M ml mc] w fun e w' => e = .returned (.bool true) ∧ Below w.heap.size w w' := by
  have HB := Lib.hid hb
  have HM := Lib.hid hm
  have HBC := Lib.hid hbc
  unfold maxLen at hbc _hmc
  clear hb hm
  by_cases hsz : 1048576 < bl
  · go_enter Try.func9, Try.ntmps9
    go_wp2
    go_ret
    exact ⟨rfl, Below.refl _ _⟩
  by_cases hsm : 1048576 < ml
  · go_enter Try.func9, Try.ntmps9
    go_wp2
    go_ret
    exact ⟨rfl, Below.refl _ _⟩
  · go_enter Try.func9, Try.ntmps9
    go_wp2_with fail
    refine (drawEquiv_any A bl bc _ HB.out hbl HBC.out).mono ?_
    rintro e w1 ⟨i, nA, gA, oA, nc, gc, oc, ns, gs, os, i', nA', gA', oA', nc', gc', oc', ns', gs', os', rfl, hC1, hD1, hn, hg, ho, hn', hg', ho', hb1⟩
    have hbB : Below w1.heap.size w1 ((w1.alloc (.cells #[.int .i64 i, .slice nA ns.length nc, .slice gA gs.length gc, .slice oA os.length oc] 26)).alloc (.cells #[.int .i64 i', .slice nA' ns'.length nc', .slice gA' gs'.length gc', .slice oA' os'.length oc'] 26)) := ((Below.refl _ _).alloc (Nat.le_refl _) _).alloc (by simp) _
    have HC2 := Lib.hid ((hC1.below hbB).mono hbB.size)
    have HD2 := Lib.hid ((hD1.below hbB).mono hbB.size)
    have HL2 := Lib.hid (hb1.trans (hbB.mono hb1.size))
    have HR2 := Lib.hid (show Row ((w1.alloc (.cells #[.int .i64 i, .slice nA ns.length nc, .slice gA gs.length gc, .slice oA os.length oc] 26)).alloc (.cells #[.int .i64 i', .slice nA' ns'.length nc', .slice gA' gs'.length gc', .slice oA' os'.length oc'] 26)) w1.heap.size 26 #[.int .i64 i, .slice nA ns.length nc, .slice gA gs.length gc, .slice oA os.length oc] from (Below.heap_alloc _ _ _ (by simp)).trans (heap_alloc_new w1 _))
    have HQ2 : Hid (Row ((w1.alloc (.cells #[.int .i64 i, .slice nA ns.length nc, .slice gA gs.length gc, .slice oA os.length oc] 26)).alloc (.cells #[.int .i64 i', .slice nA' ns'.length nc', .slice gA' gs'.length gc', .slice oA' os'.length oc'] 26)) (w1.heap.size + 1) 26 #[.int .i64 i', .slice nA' ns'.length nc', .slice gA' gs'.length gc', .slice oA' os'.length oc']) := Lib.hid (by
      have := heap_alloc_new (w1.alloc (.cells #[.int .i64 i, .slice nA ns.length nc, .slice gA gs.length gc, .slice oA os.length oc] 26)) (.cells #[.int .i64 i', .slice nA' ns'.length nc', .slice gA' gs'.length gc', .slice oA' os'.length oc'] 26)
      simpa [Row] using this)
    clear hC1 hD1 hb1 hbB HB HBC hbc
    go_upto_region 4 with fail
    generalize ((w1.alloc (.cells #[.int .i64 i, .slice nA ns.length nc, .slice gA gs.length gc, .slice oA os.length oc] 26)).alloc (.cells #[.int .i64 i', .slice nA' ns'.length nc', .slice gA' gs'.length gc', .slice oA' os'.length oc'] 26)) = w2 at *
    generalize w1.heap.size = ca at *
    have q0 := HR2.out.cell 0
    have q1 := HR2.out.cell 1
    have q2 := HR2.out.cell 2
    have q3 := HR2.out.cell 3
    have p0 := HQ2.out.cell 0
    have p1 := HQ2.out.cell 1
    have p2 := HQ2.out.cell 2
    have p3 := HQ2.out.cell 3
    simp at q0 q1 q2 q3 p0 p1 p2 p3
    go_wp2_with fail
    refine (equiv_any i nA gA oA nc gc oc ns gs os i' nA' gA' oA' nc' gc' oc' ns' gs' os' _ HC2.out HD2.out).mono ?_
    rintro e w3 ⟨rfl, hb3⟩
    have HC3 := Lib.hid ((HC2.out.below hb3).mono hb3.size)
    have HD3 := Lib.hid ((HD2.out.below hb3).mono hb3.size)
    have HL3 := Lib.hid (HL2.out.trans (hb3.mono HL2.out.size))
    have HR3 := Lib.hid (HR2.out.below hb3 HR2.out.lt)
    have HQ3 := Lib.hid (HQ2.out.below hb3 HQ2.out.lt)
    clear hb3 HC2 HD2 HL2 HR2 HQ2 q0 q1 q2 q3 p0 p1 p2 p3
    generalize hvv : Circ.equivB i ns gs os i' ns' gs' os' = vv at *
    have HVV := Lib.hid hvv
    clear hvv
    have hv1 : (vv != vv) = false := by simp
    have q0 := HR3.out.cell 0
    have q1 := HR3.out.cell 1
    have q2 := HR3.out.cell 2
    have q3 := HR3.out.cell 3
    have p0 := HQ3.out.cell 0
    have p1 := HQ3.out.cell 1
    have p2 := HQ3.out.cell 2
    have p3 := HQ3.out.cell 3
    simp at q0 q1 q2 q3 p0 p1 p2 p3
    go_wp2_with fail
    refine (sequiv_val i nA gA oA nc gc oc ns gs os i' nA' gA' oA' nc' gc' oc' ns' gs' os' vv _ HVV.out HC3.out HD3.out).mono ?_
    rintro e w4 ⟨rfl, hb4⟩
    have HC4 := Lib.hid ((HC3.out.below hb4).mono hb4.size)
    have HD4 := Lib.hid ((HD3.out.below hb4).mono hb4.size)
    have HL4 := Lib.hid (HL3.out.trans (hb4.mono HL3.out.size))
    have HR4 := Lib.hid (HR3.out.below hb4 HR3.out.lt)
    have HQ4 := Lib.hid (HQ3.out.below hb4 HQ3.out.lt)
    clear hb4 HC3 HD3 HL3 HR3 HQ3 q0 q1 q2 q3 p0 p1 p2 p3
    cases vv
    · go_wp2_with (go_at_call 27; refine (alive_any _).mono ?_; rintro e w9 ⟨rfl, hb9⟩)
      go_ret
      exact ⟨rfl, HL4.out.trans (hb9.mono HL4.out.size)⟩
    · obtain ⟨hsi, hag⟩ := Circ.equivB_iff.1 HVV.out
      obtain ⟨hva, hvb, hii, hln, hlo⟩ := Circ.sameIf_inv hsi
      obtain ⟨hi0, hi1, hnl, hgl, hol⟩ := Circ.valid_within hva
      obtain ⟨m, rfl⟩ := Int.eq_ofNat_of_zero_le hi0
      have hm4 : m ≤ 4 := by omega
      subst hii
      have HVA := Lib.hid hva
      have HVB := Lib.hid hvb
      have HAG := Lib.hid hag
      have HLN := Lib.hid hln
      have HLO := Lib.hid hlo
      clear hva hvb hag hln hlo hsi HVV hi0 hi1
      obtain ⟨i0, hi0, hz0, hz1, hz2⟩ := info_parts Try.infoBS
      have HI0 := Lib.hid hi0
      have HZ0 := Lib.hid hz0
      have HZ1 := Lib.hid hz1
      have HZ2 := Lib.hid hz2
      clear hi0 hz0 hz1 hz2
      have hml : ml ≤ 1048576 := by omega
      go_wp2_with fail
      have HO0 : Hid (RDraw (w4.alloc (.cells #[] 33)) w4.heap.size w4.heap.size 0 [] []) := Lib.hid ⟨by
        have h := World.ownsRow_lit (base := w4.heap.size) (e := 33) (size := 1) w4 #[] 0 (Nat.le_refl _) (by simp [maxLen]) (by simp)
        simpa using h, fun j hj => absurd hj (by simp)⟩
      have HB0 := Lib.hid (show Below w4.heap.size w4 (w4.alloc (.cells #[] 33)) from (Below.refl _ _).alloc (Nat.le_refl _) _)
      go_loopw [8, 9] (fun ov kv wr => ∃ (k g cap : Nat) (vs : List Value) (rs : List (List Bool)), k = rs.length ∧ k ≤ ml ∧ k ≤ 20 ∧ kv = .int .i64 k ∧ ov = .slice (some ⟨g, 0, none⟩) k cap ∧ Hid (RDraw wr w4.heap.size g cap vs rs) ∧ Hid (Below w4.heap.size w4 wr) ∧ Hid (∀ j, j < rs.length → (rs.getD j []).length = m)) (fun _ kv _ => 20 - (intOf kv).toNat)
      case atStart => exact ⟨0, _, _, [], [], rfl, by omega, by omega, rfl, rfl, HO0, HB0, Lib.hid (fun j hj => absurd hj (by simp))⟩
      case round =>
        clear HO0 HB0
        obtain ⟨k, g, cap, vs, rs, hk, hkm, hk20, rfl, rfl, HO, HBR, HLE⟩ := hrel
        have HK := Lib.hid hk
        clear hk
        by_cases hlt : k < ml ∧ k < 20
        · obtain ⟨hlt1, hlt2⟩ := hlt
          have hcs := HC4.out
          obtain ⟨mb, mo, z, rfl, hmb, hmz, hz0, hz1⟩ := HM.out k hlt1
          obtain ⟨x, rfl⟩ := Int.eq_ofNat_of_zero_le hz0
          have hzw : IntKind.i64.wrap (x : Int) = (x : Int) := IntWalk.i64_in _ (by omega)
          have hbw := HBR.out
          have hmr : wr.cell? ⟨mb, mo + k, none⟩ = some (.int .u8 (x : Int)) := (hbw.cell (p := ⟨mb, mo + k, none⟩) (by have := HL4.out.size; show mb < _; omega)).trans ((HL4.out.cell (p := ⟨mb, mo + k, none⟩) hmb).trans hmz)
          have HRr := Lib.hid (HR4.out.below hbw HR4.out.lt)
          have r0 := HRr.out.cell 0
          simp at r0
          have hgl4 : w4.heap.size ≤ g := (HO.out.own.lt g rfl).1
          have hgl5 : g < wr.heap.size := (HO.out.own.lt g rfl).2
          have hcal : ca < w4.heap.size := HR4.out.lt
          have hmbl : mb < w4.heap.size := by have := HL4.out.size; omega
          have hws : w4.heap.size ≤ wr.heap.size := hbw.size
          clear hcs hbw
          go_upto_region 13 with fail
          go_region_held3 (fun w' => w'.cell? ⟨mb, mo + k, none⟩ = some (.int .u8 (x : Int)) ∧ w'.cell? ⟨ca, 0, none⟩ = some (.int .i64 (m : Int)))
            (first | go_keep | (exact cells2_on hb1 (by assumption)) | (exact cells2_gr hgrow (by simp [Value.ownBlock]; omega) (by simp [Value.ownBlock]; omega) (by assumption)))
            (first
              | (go_at_call 21; refine (bits_any x m _ (by omega) (by omega)).mono ?_; rintro e u1 ⟨g1, c1, rfl, hg1, hX1, hb1⟩; have hw1 : Below wr.heap.size wr u1 := (Below.refl _ wr).drew.trans hb1; have hO1 := HO.out.on hw1; have hs1 := hw1.size; have hg1' : wr.heap.size ≤ g1 := hg1; have hown1 : u1.ownsRow w4.heap.size 33 1 (.slice (some ⟨g, 0, none⟩) k cap) k vs := (by rw [HK.out]; exact hO1.own))
              | (refine step_append_kept _ (by rfl) _ _ _ (by rfl) w4.heap.size 33 i0 _ 1 24 Try.underlying27 HI0.out HZ0.out HZ1.out HZ2.out rfl (by omega) (.slice (some ⟨g, 0, none⟩) k cap) k vs (by rfl) (hown1.alloc _) ⟨u1.heap.size, 0, none⟩ 1 1 [.slice (some ⟨g1, 0, none⟩) m c1] (by rfl) (by rfl) (World.news_of_block (cs := #[.slice (some ⟨g1, 0, none⟩) m c1]) (t := 33) (fr := (0, 0)) (heap_alloc_new u1 _)) (by simp [Value.oneCell']) (by omega) (by simp [maxLen]; omega) (by omega) (by simp; omega) (u1.heap.size + 1) (by simp) ?_; intro gg cap' w6 hown6 hgrow hat hlt6 hkept))
          have HLN6 : Hid ((rs ++ [Circ.bitsN x m]).length = rs.length + 1) := Lib.hid (by simp)
          have hgs : (u1.alloc (.cells #[.slice (some ⟨g1, 0, none⟩) m c1] 33)).grownBy w6 (some g) := hgrow
          rw [HK.out] at hown6
          have HO6 := Lib.hid (RDraw.app (z := g1) (c := c1) (r := Circ.bitsN x m) (hO1.alloc (.cells #[.slice (some ⟨g1, 0, none⟩) m c1] 33)) (Circ.bitsN_len x m) hown6 hgs (by rcases hat with h | h; (left; simp [Value.ownBlock] at h; exact h.symm); (right; simpa using h)) (by omega) (fun _ => by omega) (hX1.on ((Below.refl _ u1).alloc (Nat.le_refl _) _)))
          have HB6 := Lib.hid ((((HBR.out.trans (hw1.mono HBR.out.size)).alloc (by omega) (.cells #[.slice (some ⟨g1, 0, none⟩) m c1] 33))).grown hgs (by simp; omega) (fun j hj => by injection hj; omega))
          have HLE6 : Hid (∀ j, j < (rs ++ [Circ.bitsN x m]).length → ((rs ++ [Circ.bitsN x m]).getD j []).length = m) := Lib.hid (fun j hj => by
            rw [List.length_append, List.length_singleton] at hj
            by_cases e : j = rs.length
            · subst e; rw [getD_rows_eq]; exact Circ.bitsN_len x m
            · rw [getD_rows_lt (by omega)]; exact HLE.out j (by omega))
          clear hown6 hgrow hgs hat hlt6 hkept HO HBR HLE hO1 hown1 hX1 hb1 hw1 hzw hmr r0
          go_wp2
          go_roundw
          case rel => exact ⟨k + 1, gg, cap', _, rs ++ [Circ.bitsN x m], by rw [HLN6.out, HK.out], by omega, by omega, by go_num, rfl, HO6, HB6, HLE6⟩
          case measure => simp [intOf]; omega
        · have HX := Lib.hid HO.out.rows
          have hrk : rs.length ≤ 20 := by rw [← HK.out]; omega
          have HRN : Hid (rs.length = k) := Lib.hid HK.out.symm
          obtain ⟨hrb, hrl⟩ := rows_ok20 hrk HLE.out
          have HRB := Lib.hid hrb
          obtain ⟨zz, HZ1⟩ : ∃ zz, Hid (Circ.simV gs os ns rs (List.replicate ns.length false) = zz) := ⟨_, Lib.hid rfl⟩
          have HZ2 : Hid (Circ.simV gs' os' ns' rs (List.replicate ns'.length false) = zz) := Lib.hid (by
            rw [← HZ1.out, ← HLN.out]; exact (Circ.agree_sim HAG.out rs _ (by simp) hrl).symm)
          have HSL : Hid (zz.length = k) := Lib.hid (by rw [← HZ1.out, Circ.simV_len, HK.out])
          have HOF : Hid (offs 0 zz zz.length ≤ 2000000) := Lib.hid (by
            have e : Circ.simulV (m : Int) ns gs os rs = zz := by rw [Circ.simulV, HVA.out, hrb, ← HZ1.out]; rfl
            have h3 := (simul_le (m : Int) ns gs os rs 0).2
            rw [e] at h3
            omega)
          have HL := Lib.hid (HL4.out.trans (HBR.out.mono HL4.out.size))
          have HC := Lib.hid ((HC4.out.below HBR.out).mono HBR.out.size)
          have HD := Lib.hid ((HD4.out.below HBR.out).mono HBR.out.size)
          have HR := Lib.hid (HR4.out.below HBR.out HR4.out.lt)
          have HQ := Lib.hid (HQ4.out.below HBR.out HQ4.out.lt)
          clear HO HBR HLE hrb hrl HK HC4 HD4 HR4 HQ4 HL4
          have heqn : ((k : Int) == (k : Int)) = true := by simp
          have hfin : k < ml → ¬ (k < 20) := fun h1 h2 => hlt ⟨h1, h2⟩
          have q0 := HR.out.cell 0
          have q1 := HR.out.cell 1
          have q2 := HR.out.cell 2
          have q3 := HR.out.cell 3
          have p0 := HQ.out.cell 0
          have p1 := HQ.out.cell 1
          have p2 := HQ.out.cell 2
          have p3 := HQ.out.cell 3
          simp at q0 q1 q2 q3 p0 p1 p2 p3
          have hz1 := HR.out.lt
          have hz2 := HQ.out.lt
          have hca : ca ≠ ca + 1 := by omega
          clear hlt
          by_cases hk1 : k < ml
          all_goals
            first | (have hk2 : ¬ (k < 20) := hfin hk1) | skip
            clear hfin
            have tok0 : True := trivial
            go_upto_region 14 with fail
            go_region_held3 (fun w' => (w'.cell? ⟨ca, 0, none⟩ = some (.int .i64 (m : Int)) ∧ w'.cell? ⟨ca, 1, none⟩ = some (.slice nA ns.length nc) ∧ w'.cell? ⟨ca, 2, none⟩ = some (.slice gA gs.length gc) ∧ w'.cell? ⟨ca, 3, none⟩ = some (.slice oA os.length oc)) ∧ w'.cell? ⟨ca + 1, 0, none⟩ = some (.int .i64 (m : Int)) ∧ w'.cell? ⟨ca + 1, 1, none⟩ = some (.slice nA' ns'.length nc') ∧ w'.cell? ⟨ca + 1, 2, none⟩ = some (.slice gA' gs'.length gc') ∧ w'.cell? ⟨ca + 1, 3, none⟩ = some (.slice oA' os'.length oc'))
              (first | go_keep | (exact two_on hb4 (by assumption)) | (exact two_on hb3 (by assumption)) | (exact two_on hb2 (by assumption)) | (exact two_on hb1 (by assumption)))
              (first
                | (have _t := tok0; go_at_call 24; refine (simulate_vz m k nA gA oA _ ns.length os.length nc gc oc cap ns gs os rs zz _ rfl rfl HRN.out HVA.out HRB.out HZ1.out ?_ ?_).mono ?_; (exact HC.out.below (Below.refl _ wr).drew); (exact HX.out.on (Below.refl _ wr).drew); rintro e u1 ⟨R1, rfl, hr1, hb1⟩; have hw1 : Below wr.heap.size wr u1 := (Below.refl _ wr).drew.trans hb1; have hz1' := hw1.size; have tokA : True := trivial; clear tok0)
                | (have _t := tokA; go_at_call 24; refine (simulate_vz m k nA' gA' oA' _ ns'.length os'.length nc' gc' oc' cap ns' gs' os' rs zz _ rfl rfl HRN.out HVB.out HRB.out HZ2.out ((HD.out.below hw1).mono hz1') (HX.out.on hw1)).mono ?_; rintro e u2 ⟨R2, rfl, hr2, hb2⟩; have hr1' := hr1.on hb2; have hw2 := hw1.trans (hb2.mono hz1'); have hz2' := hw2.size; have tokB : True := trivial; clear tokA)
                | (have _t := tokB; go_at_call 23; refine (sameRows_len R1 R2 k _ _ zz _ HSL.out hr1' hr2 (by omega) HOF.out).mono ?_; rintro e u3 ⟨rfl, hb3⟩; have hw3 := hw2.trans (hb3.mono hz2'); have hz3' := hw3.size; have tokC : True := trivial; clear tokB)
                | (have _t := tokC; go_at_call 24; refine (simulate_vz m k nA gA oA _ ns.length os.length nc gc oc cap ns gs os rs zz _ rfl rfl HRN.out HVA.out HRB.out HZ1.out ((HC.out.below hw3).mono hz3') (HX.out.on hw3)).mono ?_; rintro e u4 ⟨R4, rfl, hr4, hb4⟩; have hw4 := hw3.trans (hb4.mono hz3'); clear tokC))
            all_goals
              go_wp2
              go_ret
              exact ⟨rfl, HL.out.trans (hw4.mono HL.out.size)⟩
end Go.Proofs.Ythpiddpkcmecfaa
