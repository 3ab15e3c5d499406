/- The walks of routing: Route of the program. -/
import Derived.Test.YtliedgaefgomjaaGreatRO
import Derived.Test.YtliedgaefgomjaaGreatWL
import Derived.Test.YtliedgaefgomjaaGreatCT
import Derived.Test.YtliedgaefgomjaaGreatFA
import Derived.Test.YtliedgaefgomjaaGreatM6
namespace Plc
theorem pinL_len {m n N : Nat} {ce : List Ce} {ou : List Nat} (h : NetOk m n N ce ou) (v : Nat) : (pinL m ce ou v).length ≤ 100 := by
  by_cases hv : v = 0
  · subst hv
    rw [pinL_zero h]
    simp
  · have ht := congrArg List.length (pinL_tiles h [] hv)
    rw [List.length_map, List.length_append] at ht
    have h1 := (srcP_one h [] (show 1 ≤ v by omega)).1
    have h2 : (snkP ou ce [] v).length ≤ ce.length + ou.length := by
      unfold snkP
      rw [List.length_append, List.length_map, List.length_map]
      have := pickTo_len (fun j => (ce.getD j (0, [], 0, false)).2.1.contains v) ce.length
      have := pickTo_len (fun o => ou.getD o 0 / 2 == v) ou.length
      omega
    have h3 := h.len
    have h4 := h.n17
    have h5 := h.ol
    omega
theorem pinL_ok {m n N : Nat} {ce : List Ce} {ou : List Nat} (h : NetOk m n N ce ou) (v k : Nat) (hk : k < (pinL m ce ou v).length) : okPin n ((pinL m ce ou v).getD k (0, 0)) := by
  refine pinR_ok (v := v) h ((pinL_mem m ce ou v _).1 ?_)
  rw [List.getD_eq_getElem?_getD, List.getElem?_eq_getElem hk]
  exact List.getElem_mem hk
theorem pinL_24 {m n N : Nat} {ce : List Ce} {ou : List Nat} (h : NetOk m n N ce ou) {p : List Nat} (hp : Pl n p) (v : Nat) : ∀ x, x ∈ (pinL m ce ou v).map (tileP p) → x < 25 := fun x hx => by
  obtain ⟨q, hq, rfl⟩ := List.mem_map.1 hx
  have := tileP_le (pinR_ok h ((pinL_mem m ce ou v q).1 hq)) hp.le
  omega
end Plc
namespace Rt
theorem step_unused {pins : List Nat} {net : Nat} {s : Rs} (h : pins = []) : step pins net s = some s := by
  unfold step
  rw [if_pos h]
theorem step_some {pins : List Nat} {net t : Nat} {hs : List Hp} {s : Rs} (h : pins ≠ []) (ho : onTrack s.1 pins 8 0 = some (t, hs)) : step pins net s = some (takeK s.1 t (tiles hs), s.2 ++ [(net, t, hs)]) := by
  unfold step
  rw [if_neg h, ho]
  rfl
theorem step_none {pins : List Nat} {net : Nat} {s : Rs} (h : pins ≠ []) (ho : onTrack s.1 pins 8 0 = none) : step pins net s = none := by
  unfold step
  rw [if_neg h, ho]
end Rt
namespace Go.Proofs.YtliedgaefgomjaaGreat
open Go.RowKit Go.Deep Cut Plc Rt

theorem RoAt.keepW {w w' : World} {B W g cap : Nat} {es : List Ro} {hs : List Value} (h : RoAt w B es hs g cap) (hg : g ≠ W) (hl : ∀ u, u ∈ hs → ∀ b, vblk u = some b → W < b) (hk : ∀ b, B ≤ b → b < w.heap.size → b ≠ W → w'.heap[b]? = w.heap[b]?) (hz : w.heap.size ≤ w'.heap.size) : RoAt w' B es hs g cap := by
  have hgb := h.gb
  refine ⟨own_keepE h.1 (hk g hgb.1 hgb.2 hg), h.2.1, fun k hk2 => ?_⟩
  obtain ⟨A', c', e0, e1, e2, hx⟩ := h.2.2 k hk2
  refine ⟨A', c', e0, e1, e2, ?_⟩
  rcases hx with hx | ⟨b, cs, e, hS, hr, hc⟩
  · exact .inl hx
  · by_cases h0 : (es.getD k (0, 0, [])).2.2 = []
    · exact .inl h0
    · have hb : W < b := hl _ (List.mem_of_getElem? e2) b (by
        rw [e]
        obtain ⟨q, hq⟩ : ∃ q, (es.getD k (0, 0, [])).2.2.length = q + 1 := ⟨(es.getD k (0, 0, [])).2.2.length - 1, by
          have := List.length_pos_iff.2 h0
          omega⟩
        rw [hq]
        rfl)
      exact .inr ⟨b, cs, e, Off.on hz b hS, (hk b hS.1 hS.2.1 (by omega)).trans hr, hc⟩

theorem dist_snoc3 {xs : List Value} {N v t gx m c : Nat} (h : DistH xs) (hl : ∀ u, u ∈ xs → ∀ b, vblk u = some b → b < N) (hg : N ≤ gx) : DistH (xs ++ [.int .i64 v, .int .i64 t, .slice (some ⟨gx, 0, none⟩) m c]) := by
  have e : xs ++ [.int .i64 v, .int .i64 t, .slice (some ⟨gx, 0, none⟩) m c] = ((xs ++ [.int .i64 v]) ++ [.int .i64 t]) ++ [.slice (some ⟨gx, 0, none⟩) m c] := by simp
  rw [e]
  have l1 : ∀ u, u ∈ xs ++ [Value.int .i64 v] → ∀ b, vblk u = some b → b < N := fun u hu b hb => by
    rcases List.mem_append.1 hu with h | h
    · exact hl u h b hb
    · simp at h; subst h; cases hb
  have l2 : ∀ u, u ∈ (xs ++ [Value.int .i64 v]) ++ [.int .i64 t] → ∀ b, vblk u = some b → b < N := fun u hu b hb => by
    rcases List.mem_append.1 hu with h | h
    · exact l1 u h b hb
    · simp at h; subst h; cases hb
  refine DistH.snoc (N := N) (DistH.snoc (N := N) (DistH.snoc (N := N) h hl ?_) l1 ?_) l2 ?_
  · intro b hb; cases hb
  · intro b hb; cases hb
  · intro b hb; have := vblk_slice hb; omega
theorem TimesAt.capR {w : World} {s g cap : Nat} {xs : List Nat} (h : TimesAt w s xs g cap) : xs.length ≤ cap := by
  obtain ⟨_, _, _, h3, _⟩ := own_partsE h
  exact h3
/-- What the program's Route answers. -/
def IRoutes (BS : Nat) (o : Option (List Ro)) (e : Ending) (w' : World) : Prop := match o with
  | none => e = .returned (.tuple #[.slice none 0 0, .bool false])
  | some rs => ∃ (g cap : Nat) (vs : List Value), e = .returned (.tuple #[.slice (some ⟨g, 0, none⟩) rs.length cap, .bool true]) ∧ RoAt w' BS rs vs g cap ∧ DistH vs
/-- The routes of any circuit and any placement. -/
def routesZ (i : Int) (ns : List Int) (gs : List (Int × Int)) (os ps : List Int) : Option (List Ro) := if placeB i ns gs os ps = true then (routeK (pinsP i.toNat (Opt.natL os) (cellsV i ns gs os) (Opt.natL ps)) (Opt.fst i ns + gs.length - 1)).map (·.2) else none
/-- All wires free. -/
def z200 : Array Value := (List.replicate 200 (Value.bool false)).toArray

set_option maxRecDepth 100000 in
set_option maxHeartbeats 4000000 in
theorem iroute_any (i : Int) (nA gA oA A : Option Addr) (nc gc oc pl pc : Nat) (ns : List Int) (gs : List (Int × Int)) (os p : List Int) (w : World) (hc : CircAt w w.heap.size nA gA oA ns gs os) (hgc : gs.length ≤ gc) (hp : IntsAt w w.heap.size A p) (hpl : p.length = pl) (hpm : pl ≤ maxLen) :
    Calls Tryz.prog 7 #[.agg #[.int .i64 i, .slice nA ns.length nc, .slice gA gs.length gc, .slice oA os.length oc], .slice A pl pc] w fun e w' => IRoutes w.heap.size (routesZ i ns gs os p) e w' ∧ Below w.heap.size w w' := by
  have HB0 := Lib.hid (Boxed.new w i nA gA oA ns.length nc gs.length gc os.length oc 26)
  have hbw : Below w.heap.size w (w.alloc (.cells #[.int .i64 i, .slice nA ns.length nc, .slice gA gs.length gc, .slice oA os.length oc] 26)) := (Below.refl _ _).alloc (Nat.le_refl _) _
  have hlt0 : w.heap.size < (w.alloc (.cells #[.int .i64 i, .slice nA ns.length nc, .slice gA gs.length gc, .slice oA os.length oc] 26)).heap.size := by simp
  have HC := Lib.hid hc
  have HP := Lib.hid hp
  have HPL := Lib.hid hpl
  have HL0 := Lib.hid hbw
  clear hc hp hpl hbw
  go_enter Tryz.func7, Tryz.ntmps7
  go_upto_region 1 with fail
  generalize w.alloc (.cells #[.int .i64 i, .slice nA ns.length nc, .slice gA gs.length gc, .slice oA os.length oc] 26) = w0 at *
  have q0 := HB0.out.c0
  have q1 := HB0.out.c1
  have q2 := HB0.out.c2
  have q3 := HB0.out.c3
  go_wp2_with fail
  refine (ivalidP_any i nA gA oA A nc gc oc pl pc ns gs os p _ ((HC.out.below HL0.out).mono HL0.out.size) hgc ((HP.out.below HL0.out).mono HL0.out.size) HPL.out hpm).mono ?_
  rintro e w1 ⟨rfl, hb1⟩
  have HB1 := Lib.hid (HB0.out.below hb1 hlt0)
  have HL1 := Lib.hid (HL0.out.trans (hb1.mono HL0.out.size))
  have hlt1 : w.heap.size < w1.heap.size := by have := hb1.size; omega
  clear hb1 q0 q1 q2 q3 HB0 HL0
  cases hv : placeB i ns gs os p
  · have HE : Hid (routesZ i ns gs os p = none) := Lib.hid (by unfold routesZ; rw [hv, if_neg (by simp)])
    clear hv
    go_wp2
    go_ret2
    exact ⟨by rw [HE.out]; rfl, HL1.out⟩
  · obtain ⟨hvv, hpp, hpe⟩ := placeB_inv hv
    have HE : Hid (routesZ i ns gs os p = (routeK (pinsP i.toNat (Opt.natL os) (cellsV i ns gs os) (Opt.natL p)) (Opt.fst i ns + gs.length - 1)).map (·.2)) := Lib.hid (by unfold routesZ; rw [hv, if_pos rfl])
    have HPP := Lib.hid hpp
    have HPE := Lib.hid hpe
    have HV := Lib.hid hvv
    obtain ⟨h0, h1, h2, h3, h4⟩ := Circ.valid_within hvv
    obtain ⟨m, rfl⟩ := Int.eq_ofNat_of_zero_le h0
    have hff : Opt.fst (m : Int) ns = 1 + m + ns.length := by unfold Opt.fst; omega
    have HFF := Lib.hid hff
    have hnn : (cellsV (m : Int) ns gs os).length = pl := by rw [← HPP.out.len, Opt.natL_len, HPL.out]
    have HNN := Lib.hid hnn
    have hok : NetOk m pl (Opt.fst (m : Int) ns + gs.length) (cellsV (m : Int) ns gs os) (Opt.natL os) := by have h := netOk_of hvv; rw [hnn] at h; exact h
    have HOK := Lib.hid hok
    have hm4 := hok.m4
    have hpl17 := hok.n17
    have hN25 := hok.N25
    have HHP : Hid (Pl pl (Opt.natL p)) := Lib.hid (by have h := hpp; rw [hnn] at h; exact h)
    have HDR : Hid (∀ v, 1 ≤ v → snkP (Opt.natL os) (cellsV (m : Int) ns gs os) (Opt.natL p) v ≠ [] → m < v → ∃ k, k < pl ∧ ((cellsV (m : Int) ns gs os).getD k (0, [], 0, false)).1 = v) := Lib.hid (fun v hv1 hs hmv => by
      obtain ⟨k, hk, e⟩ := drive hvv (net := v) (by rw [Int.toNat_natCast]; exact hmv) (by
        obtain ⟨x, hx⟩ := List.exists_mem_of_ne_nil _ hs
        rcases (snkP_mem _ _ _ v x).1 hx with ⟨j, h1, h2, _⟩ | ⟨o, h1, h2, _⟩
        · exact .inl ⟨j, h1, h2⟩
        · refine .inr ⟨(Opt.natL os).getD o 0, ?_, h2⟩
          rw [List.getD_eq_getElem?_getD, List.getElem?_eq_getElem h1]
          exact List.getElem_mem h1)
      exact ⟨k, by rw [← hnn]; exact hk, e⟩)
    obtain ⟨N, hN⟩ : ∃ N, Opt.fst (m : Int) ns + gs.length = N := ⟨_, rfl⟩
    rw [hN] at hN25
    have HNE := Lib.hid hN
    have HOV : Hid (∀ k, k < os.length → os.getD k 0 = (((Opt.natL os).getD k 0 : Nat) : Int) ∧ (Opt.natL os).getD k 0 / 2 < Opt.fst (m : Int) ns + gs.length) := Lib.hid (fun k hk => ⟨natL_get os k hk (Circ.litsOk_get (Circ.valid_outs hvv) hk).1, hok.ov k (by rw [Opt.natL_len]; exact hk)⟩)
    clear hv hpe hpp hvv h0 hff hnn hok hN
    go_upto_region 4 with fail
    have HR0 := Lib.hid (RoAt.made w1 w1.heap.size (Nat.le_refl _))
    have hba : Below w1.heap.size w1 (w1.alloc (.cells #[] 36)) := (Below.refl _ _).alloc (Nat.le_refl _) _
    have hza : (w1.alloc (.cells #[] 36)).heap.size = w1.heap.size + 1 := by simp
    generalize w1.alloc (.cells #[] 36) = wa at *
    refine wp_region_lit ?_
    refine wpList_buildTo rfl 61 #[] rfl (some 17) rfl z200 (by kernel_rfl) ?_
    refine Go.Great.wpList_allocTo rfl (some 7) rfl (.pointer (some ⟨wa.heap.size, 0, none⟩)) (.cells z200 61) (by kernel_rfl) ?_
    refine wpList_store_rowTo rfl 61 (.tmp 7) (.tmp 17) rfl rfl wa.heap.size z200 rfl rfl 61 z200 (heap_alloc_new wa _) (by kernel_rfl) rfl (by kernel_rfl) ?_
    rw [World.setRow_alloc_new]
    go_upto_region 5 with fail
    have hbb : Below wa.heap.size wa (wa.alloc (.cells z200 61)) := (Below.refl _ _).alloc (Nat.le_refl _) _
    have hzb : (wa.alloc (.cells z200 61)).heap.size = wa.heap.size + 1 := by simp
    have hwb : WAt (wa.alloc (.cells z200 61)) wa.heap.size (List.replicate 8 (List.replicate 25 false)) := by
      unfold WAt
      rw [wRow_zero]
      exact heap_alloc_new wa _
    generalize wa.alloc (.cells z200 61) = wb at *
    have hab := hba.trans (hbb.mono (show w1.heap.size ≤ wa.heap.size by omega))
    have HLB := Lib.hid (HL1.out.trans (hab.mono HL1.out.size))
    have HBB := Lib.hid (HB1.out.below hab hlt1)
    have HRB := Lib.hid (HR0.out.on hbb)
    obtain ⟨W, hW⟩ : ∃ W, wa.heap.size = W := ⟨_, rfl⟩
    rw [hW] at hwb hzb
    rw [hW]
    have hWw : w.heap.size < W := by omega
    have hg0 : w1.heap.size ≠ W := by omega
    have hg0W : w1.heap.size < W := by omega
    have HWB := Lib.hid hwb
    have hltb : w.heap.size < wb.heap.size := by omega
    clear hba hza hbb hab hwb HR0 HB1 HL1 hW
    generalize w1.heap.size = g0 at *
    have q0 := HBB.out.c0
    have q1 := HBB.out.c1
    have q2 := HBB.out.c2
    have q3 := HBB.out.c3
    go_region_held3 (fun w' => w'.cell? ⟨w.heap.size, 0, none⟩ = some (.int .i64 (m : Int)) ∧ w'.cell? ⟨w.heap.size, 1, none⟩ = some (.slice nA ns.length nc) ∧ w'.cell? ⟨w.heap.size, 2, none⟩ = some (.slice gA gs.length gc) ∧ w'.cell? ⟨w.heap.size, 3, none⟩ = some (.slice oA os.length oc)) (first | go_keep | (refine ⟨?_, ?_, ?_, ?_⟩ <;> (rw [hc3 _ _ (by simp; omega)]; simp [*])) | (refine ⟨?_, ?_, ?_, ?_⟩ <;> (rw [hc4 _ _ (by omega), hc3 _ _ (by simp; omega)]; simp [*])))
        (first
          | (go_at_call 12; refine (icells_t (m : Int) nA gA oA nc gc oc ns gs os _ HV.out ((HC.out.below HLB.out.drew).mono HLB.out.drew.size) hgc).mono ?_; rintro e w3 ⟨g3, cc3, hs3, rfl, hu3, _, hb3⟩; obtain ⟨hc3, hf3⟩ := bcell hb3; have hz3 : wb.heap.size ≤ w3.heap.size := hb3.size; have HU3 := Lib.hid hu3.read; have HL3 := Lib.hid (HLB.out.drew.trans (hb3.mono HLB.out.drew.size)))
          | (go_at_call 26; rw [HNN.out]; refine (netPinsL_any m (Opt.fst (m : Int) ns) (Opt.fst (m : Int) ns + gs.length) pl cc3 ns.length nc gc oc nA gA oA (some ⟨g3, 0, none⟩) ns gs os (Opt.natL os) (cellsV (m : Int) ns gs os) _ ((HC.out.below HL3.out).mono HL3.out.size) HU3.out rfl HFF.out rfl hm4 h2 h3 (by omega) HNN.out hpl17 (fun k hk => (HOK.out.net k hk).2) (fun k hk j hj => (HOK.out.inp k hk _ (memD0 hj)).2) (fun k hk => by have := HOK.out.il k hk; omega) (Opt.natL_len os) HOV.out).mono ?_; rintro e w4 ⟨g4, ps, hs4, rfl, hn4, hp4, hb4⟩; obtain ⟨hc4, hf4⟩ := bcell hb4; rw [HNE.out] at hn4; have HN4 := Lib.hid hn4; have HP4 := Lib.hid hp4; have HL4 := Lib.hid (HL3.out.trans (hb4.mono HL3.out.size)); clear hn4 hp4; rw [HNE.out]))
    rename_i _hheld
    have hb34 : Below wb.heap.size wb w4 := ((Below.refl _ wb).drew.trans hb3).trans (hb4.mono hz3)
    have hBN : W < w3.heap.size := by omega
    clear _hheld hc3 hf3 hc4 hf4 q0 q1 q2 q3 hb3 hb4
    have HW4 : Hid (WAt w4 W (List.replicate 8 (List.replicate 25 false))) := Lib.hid (Row.below HWB.out hb34 (by omega))
    have HR4 : Hid (RoAt w4 w.heap.size [] [] g0 0) := Lib.hid (by
      have h := HRB.out.on hb34
      exact ⟨⟨h.1.1, h.1.2.imp id fun ⟨g, cap, cur, e1, e2, e3⟩ => ⟨g, cap, cur, e1, by omega, e3⟩⟩, RoHdrs.nil _ _⟩)
    clear hb34 HBB HRB HWB HLB
    obtain ⟨F, hF⟩ : ∃ F : Nat → List Nat, pinsP m (Opt.natL os) (cellsV (m : Int) ns gs os) (Opt.natL p) = F := ⟨_, rfl⟩
    have HE2 : Hid (routesZ (m : Int) ns gs os p = (routeK F (N - 1)).map (·.2)) := Lib.hid (by rw [HE.out, Int.toNat_natCast, hF, HNE.out])
    have HF25 : Hid (∀ v x, x ∈ F v → x < 25) := Lib.hid (fun v x hx => by
      rw [← hF] at hx
      have := pinsP_le (by rw [HOK.out.len]; exact HHP.out) HOK.out.m4 HOK.out.ol v x hx
      omega)
    have HUSE : Hid (∀ v, 2 ≤ (ps.getD v []).length → 1 ≤ v ∧ F v ≠ [] ∧ ∀ busy, tree busy ((ps.getD v []).map (tileP (Opt.natL p))) = tree busy (F v)) := Lib.hid (fun v h2 => by
      rw [HP4.out v] at h2 ⊢
      have hns : ¬ (v ≠ 0 → snkP (Opt.natL os) (cellsV (m : Int) ns gs os) (Opt.natL p) v = []) := fun x => by
        have := unused_tiles HOK.out (Opt.natL p) x
        omega
      have hv0 : 1 ≤ v := Nat.pos_of_ne_zero (fun e => hns (fun x => absurd e x))
      have hsn : snkP (Opt.natL os) (cellsV (m : Int) ns gs os) (Opt.natL p) v ≠ [] := fun e => hns (fun _ => e)
      rw [← hF]
      exact ⟨hv0, (pins_head HOK.out hv0 hsn (HDR.out v hv0 hsn)).2, (used_tiles HOK.out HHP.out hv0 hsn (HDR.out v hv0 hsn)).2⟩)
    have HUNU : Hid (∀ v, 1 ≤ v → (ps.getD v []).length < 2 → F v = []) := Lib.hid (fun v hv0 h2 => by
      rw [HP4.out v] at h2
      rw [← hF]
      unfold pinsP
      by_cases hsn : snkP (Opt.natL os) (cellsV (m : Int) ns gs os) (Opt.natL p) v = []
      · rw [if_pos hsn]
      · exact absurd (used_tiles HOK.out HHP.out hv0 hsn (HDR.out v hv0 hsn)).1 (by omega))
    have HPL2 : Hid (∀ v, (ps.getD v []).length ≤ 100 ∧ (∀ k, k < (ps.getD v []).length → okPin pl ((ps.getD v []).getD k (0, 0))) ∧ ∀ x, x ∈ (ps.getD v []).map (tileP (Opt.natL p)) → x < 25) := Lib.hid (fun v => by
      rw [HP4.out v]
      exact ⟨pinL_len HOK.out v, pinL_ok HOK.out v, pinL_24 HOK.out HHP.out v⟩)
    have HPI : Hid (IntsAt w w.heap.size A (Opt.intL (Opt.natL p))) := Lib.hid (by rw [← HPE.out]; exact HP.out)
    have HPN : Hid ((Opt.natL p).length = pl) := Lib.hid (by rw [Opt.natL_len, HPL.out])
    clear hF HE HDR HP HPE
    have HK0 : Hid (routeK F (0 - 1) = some (List.replicate 8 (List.replicate 25 false), [])) := Lib.hid rfl
    have HL0 : Hid (([] : List Ro).length = 0) := Lib.hid rfl
    have HD0 := Lib.hid DistH.nil
    have HV0 : Hid (∀ u, u ∈ ([] : List Value) → ∀ b, vblk u = some b → W < b ∧ b < w4.heap.size) := Lib.hid (fun u hu => by cases hu)
    obtain ⟨ZN, hZN⟩ : ∃ ZN, w4.heap.size = ZN := ⟨_, rfl⟩
    have hz34 : W < ZN := by have := HN4.out.lt; have := HN4.out.hB; omega
    have hwz4 : w.heap.size ≤ ZN := by have := HL4.out.size; omega
    have HZN := Lib.hid hZN
    have hz40 : ZN ≤ w4.heap.size := by omega
    clear hZN
    go_upto_region 6 with fail
    go_loopw [6, 23] (fun rv iv wr => ∃ (k g cap n : Nat) (s : Rs) (vs : List Value), k ≤ N ∧ iv = .int .i64 k ∧ rv = .slice (some ⟨g, 0, none⟩) n cap ∧ n ≤ k ∧ g ≠ W ∧ (g < W ∨ ZN ≤ g) ∧ ZN ≤ wr.heap.size ∧ Hid (s.2.length = n) ∧ Hid (routeK F (k - 1) = some s) ∧ Hid (WAt wr W s.1) ∧ Hid (RoAt wr w.heap.size s.2 vs g cap) ∧ Hid (DistH vs) ∧ Hid (∀ u, u ∈ vs → ∀ b, vblk u = some b → W < b ∧ b < wr.heap.size) ∧ Hid (∀ b, w3.heap.size ≤ b → b < ZN → wr.heap[b]? = w4.heap[b]?) ∧ Hid (Below w.heap.size w wr)) (fun _ iv _ => N - (intOf iv).toNat)
    case atStart => exact ⟨0, g0, 0, 0, _, [], Nat.zero_le _, rfl, rfl, Nat.le_refl _, hg0, .inl hg0W, hz40, HL0, HK0, HW4, HR4, HD0, HV0, Lib.hid (fun _ _ _ => rfl), HL4⟩
    case round =>
      clear HL0 HK0 HW4 HR4 HD0 HV0 hz40 hg0 hg0W
      obtain ⟨k, g, cap, n, s, vs, hk, rfl, rfl, hnk, hgW, hgZ, hzr, HLn, HK, HWr, HRr, HDr, HVr, HFr, HXr⟩ := hrel
      have HBk := Lib.hid (routeK_ok HF25.out _ s HK.out).bok
      by_cases hlt : k < N
      · have HNr := Lib.hid (HN4.out.keep (w' := wr) (fun x h1 h2 => HFr.out x h1 (by rw [← HZN.out]; exact h2)))
        obtain ⟨A4, c4, he, hlc, hcm, hga⟩ := HNr.out.read2 hlt
        have hcell := (HNr.out.row.cell k).trans he
        have HGA := Lib.hid hga
        obtain ⟨hp1, hp2, hp3⟩ := HPL2.out k
        have HOKP := Lib.hid hp2
        have H25 := Lib.hid hp3
        have HUk := Lib.hid (HUSE.out k)
        have HNk := Lib.hid (HUNU.out k)
        generalize ps.getD k [] = xs at *
        obtain ⟨l, hl⟩ : ∃ l, xs.length = l := ⟨_, rfl⟩
        rw [hl] at hcell hlc hp1 HOKP HUk HNk
        have HLX := Lib.hid hl
        clear he hl hga hp2 hp3
        by_cases hl2 : 2 ≤ l
        · obtain ⟨hk1, hFk, hTr⟩ := HUk.out hl2
          have HFK := Lib.hid hFk
          have HOT : Hid (onTrack s.1 (xs.map (tileP (Opt.natL p))) 8 0 = onTrack s.1 (F k) 8 0) := Lib.hid (onTrack_congr hTr 8 0)
          have HPr : Hid (IntsAt wr wr.heap.size A (Opt.intL (Opt.natL p))) := Lib.hid ((HPI.out.below HXr.out).mono HXr.out.size)
          clear hFk hTr HUk HNk
          have hgr := HRr.out.gb.2
          obtain ⟨k0, rfl⟩ : ∃ k0, k = k0 + 1 := ⟨k - 1, by omega⟩
          have HK1 : Hid (routeK F (k0 + 1) = Rt.step (F (k0 + 1)) (k0 + 1) s) := Lib.hid (routeK_go (z := k0) HK.out)
          generalize hk1e : k0 + 1 = k at *
          have HKE := Lib.hid hk1e
          clear hk1e
          have hli : ¬ (l : Int) < 2 := by omega
          go_upto_region 9 with fail
          clear hli hcell
          go_wp2_with fail
          refine (tilesOf_any A4 A l c4 pl pc xs (Opt.natL p) wr HGA.out HLX.out (by omega) HPr.out HPN.out (by omega) HOKP.out).mono ?_
          rintro e w6 ⟨gT, cT, rfl, ht6, hb6⟩
          have HT6 := Lib.hid ht6.ints
          have hTc := ht6.capR
          rw [List.length_map, HLX.out] at hTc
          have HWr6 : Hid (WAt w6 W s.1) := Lib.hid (Row.below HWr.out hb6 (Row.lt HWr.out))
          have HX6 := Lib.hid (HXr.out.trans (hb6.mono HXr.out.size))
          have HR6 := Lib.hid (HRr.out.on hb6)
          have hz6 := hb6.size
          have HF6 : Hid (∀ b, w3.heap.size ≤ b → b < ZN → w6.heap[b]? = w4.heap[b]?) := Lib.hid (fun b h1 h2 => (hb6.block b (by omega)).trans (HFr.out b h1 h2))
          have HV6 : Hid (∀ u, u ∈ vs → ∀ b, vblk u = some b → W < b ∧ b < w6.heap.size) := Lib.hid (fun u hu b hb => ⟨(HVr.out u hu b hb).1, by have := (HVr.out u hu b hb).2; omega⟩)
          have HTL : Hid ((xs.map (tileP (Opt.natL p))).length = l) := Lib.hid (by rw [List.length_map, HLX.out])
          clear ht6 hb6 HGA HPr HOKP HNr HWr HXr HRr HFr HVr
          go_wp2_with fail
          refine (route_any W k l cT (some ⟨gT, 0, none⟩) s.1 (xs.map (tileP (Opt.natL p))) w6 HWr6.out HBk.out HT6.out HTL.out (by omega) (by omega) hTc H25.out).mono ?_
          rintro e w7 ⟨hr7, hb7⟩
          rw [HOT.out] at hr7
          have HWr7 : Hid (WAt w7 W s.1) := Lib.hid (Row.below HWr6.out hb7 (Row.lt HWr6.out))
          have HX7 := Lib.hid (HX6.out.trans (hb7.mono HX6.out.size))
          have HR7 := Lib.hid (HR6.out.on hb7)
          have hz7 := hb7.size
          have HF7 : Hid (∀ b, w3.heap.size ≤ b → b < ZN → w7.heap[b]? = w4.heap[b]?) := Lib.hid (fun b h1 h2 => (hb7.block b (by omega)).trans (HF6.out b h1 h2))
          clear hb7 HT6 HWr6 HX6 HR6 HF6
          cases ho : onTrack s.1 (F k) 8 0 with
          | none =>
            rw [ho] at hr7
            obtain rfl : e = .returned (.tuple #[.agg #[.int .i64 0, .int .i64 0, .slice none 0 0], .bool false]) := hr7
            have HNO : Hid (routesZ (m : Int) ns gs os p = none) := Lib.hid (by
              have h := HK1.out
              rw [step_none HFK.out ho] at h
              have h2 := routeK_none h (N - 1 - k)
              rw [show k + (N - 1 - k) = N - 1 by omega] at h2
              rw [HE2.out, h2]
              rfl)
            have hb8 : Below w.heap.size w (w7.alloc (.cells #[.int .i64 0, .int .i64 0, .slice none 0 0] 36)) := HX7.out.alloc HX7.out.size _
            have HX8 := Lib.hid hb8
            clear ho hb8
            go_wp2
            go_ret2
            exact ⟨by rw [HNO.out]; rfl, HX8.out⟩
          | some th =>
            obtain ⟨t, hs⟩ := th
            rw [ho] at hr7
            obtain ⟨g9, c9, rfl, ha9⟩ := hr7
            have ht8 : t < 8 := by have := (onTrack_ok 8 0 ho).2.1; omega
            have HTR := Lib.hid (tree_ok (HF25.out k) HFK.out (onTrack_ok 8 0 ho).2.2).1
            have HKS : Hid (routeK F k = some (takeK s.1 t (tiles hs), s.2 ++ [(k, t, hs)])) := Lib.hid (by rw [HK1.out, step_some HFK.out ho])
            have hlh := HTR.out.len
            have hg9 := ha9.gb
            have HA9 := Lib.hid ha9
            obtain ⟨hl, hhl⟩ : ∃ hl, hs.length = hl := ⟨_, rfl⟩
            have HHL := Lib.hid hhl
            rw [hhl] at hlh ⊢
            clear ho hhl ha9 HK1
            go_upto_region 12 with fail
            have hb8 : Below w7.heap.size w7 (w7.alloc (.cells #[.int .i64 k, .int .i64 t, .slice (some ⟨g9, 0, none⟩) hl c9] 36)) := (Below.refl _ _).alloc (Nat.le_refl _) _
            have hr8 : Row (w7.alloc (.cells #[.int .i64 k, .int .i64 t, .slice (some ⟨g9, 0, none⟩) hl c9] 36)) w7.heap.size 36 #[.int .i64 k, .int .i64 t, .slice (some ⟨g9, 0, none⟩) hl c9] := heap_alloc_new w7 _
            have HWr8 : Hid (WAt (w7.alloc (.cells #[.int .i64 k, .int .i64 t, .slice (some ⟨g9, 0, none⟩) hl c9] 36)) W s.1) := Lib.hid (Row.below HWr7.out hb8 (Row.lt HWr7.out))
            have HX8 := Lib.hid (HX7.out.trans (hb8.mono HX7.out.size))
            have HR8 := Lib.hid (HR7.out.on hb8)
            have HA8 := Lib.hid (HA9.out.on hb8)
            have HF8 : Hid (∀ b, w3.heap.size ≤ b → b < ZN → (w7.alloc (.cells #[.int .i64 k, .int .i64 t, .slice (some ⟨g9, 0, none⟩) hl c9] 36)).heap[b]? = w4.heap[b]?) := Lib.hid (fun b h1 h2 => (hb8.block b (by omega)).trans (HF7.out b h1 h2))
            have hz8 : (w7.alloc (.cells #[.int .i64 k, .int .i64 t, .slice (some ⟨g9, 0, none⟩) hl c9] 36)).heap.size = w7.heap.size + 1 := by simp
            generalize w7.alloc (.cells #[.int .i64 k, .int .i64 t, .slice (some ⟨g9, 0, none⟩) hl c9] 36) = w8 at *
            obtain ⟨q7, hq7⟩ : ∃ q7, w7.heap.size = q7 := ⟨_, rfl⟩
            rw [hq7] at hr8 hz8 hg9 hz7 ⊢
            have z0 := hr8.cell 0
            have z1 := hr8.cell 1
            have z2 := hr8.cell 2
            simp at z0 z1 z2
            have HZ8 := Lib.hid hr8
            clear hb8 hr8 hq7 HWr7 HX7 HR7 HF7 HA9
            go_wp2_with fail
            refine (take_any w.heap.size W k t hl c9 (some ⟨g9, 0, none⟩) s.1 hs w8 HWr8.out HBk.out (by omega) HX8.out.size ht8 HA8.out.read (fun b off e => by
              injection e with e
              injection e with e1
              omega) HHL.out (by omega) (fun x hx => (HTR.out.nodup.2 x hx).1)).mono ?_
            rintro e w9 ⟨rfl, hw9, hb9, hk9⟩
            have hz9 := hb9.size
            have HWr9 := Lib.hid hw9
            have HX9 := Lib.hid (HX8.out.trans hb9)
            have hz89 : w8.heap.size ≤ w9.heap.size := hb9.size
            have HR9 := Lib.hid (HR8.out.keepW (w' := w9) (W := W) hgW (fun u hu b hb => (HV6.out u hu b hb).1) (fun b _ h2 h3 => hk9 b h2 h3) hz89)
            have HA9 := Lib.hid (HA8.out.keep (w' := w9) (hk9 g9 (by omega) (by omega)))
            have HF9 : Hid (∀ b, w3.heap.size ≤ b → b < ZN → w9.heap[b]? = w4.heap[b]?) := Lib.hid (fun b h1 h2 => (hk9 b (by omega) (by omega)).trans (HF8.out b h1 h2))
            have hr9 : Row w9 q7 36 #[.int .i64 k, .int .i64 t, .slice (some ⟨g9, 0, none⟩) hl c9] := (hk9 q7 (by omega) (by omega)).trans HZ8.out
            clear z0 z1 z2
            have z0 := hr9.cell 0
            have z1 := hr9.cell 1
            have z2 := hr9.cell 2
            simp at z0 z1 z2
            have HD9 := Lib.hid (dist_snoc3 (v := k) (t := t) (m := hl) (c := c9) HDr.out (fun u hu b hb => (HV6.out u hu b hb).2) hg9.1)
            have hg9g : g9 ≠ g := by omega
            have HLF : Hid (HLeaf w9 (Off w9 w.heap.size g) (some ⟨g9, 0, none⟩) hs) := Lib.hid (HA9.out.leaf ⟨by omega, by omega, hg9g⟩)
            clear hw9 hb9 hk9 hr9 HWr8 HX8 HR8 HA8 HF8 HZ8 HDr
            go_wp2_with (at_builtin; refine wpList_pushRo rfl (.tmp 43) (.tmp 45) rfl w9 w.heap.size g cap n s.2 vs rfl HLn.out HR9.out (by omega) k t (some ⟨g9, 0, none⟩) hl c9 hs rfl HHL.out HLF.out ?_)
            intro g' cap' w11 hr11 hb11 hk11 hg11
            have HR11 := Lib.hid hr11
            have HX11 := Lib.hid (HX9.out.trans hb11)
            have hz11 := hb11.size
            have HW11 : Hid (WAt w11 W (takeK s.1 t (tiles hs))) := Lib.hid ((hk11 W (by omega) (Ne.symm hgW)).trans HWr9.out)
            have HF11 : Hid (∀ b, w3.heap.size ≤ b → b < ZN → w11.heap[b]? = w4.heap[b]?) := Lib.hid (fun b h1 h2 => (hk11 b (by omega) (by omega)).trans (HF9.out b h1 h2))
            have hz119 : w9.heap.size ≤ w11.heap.size := hb11.size
            have HV11 : Hid (∀ u, u ∈ vs ++ [.int .i64 (k : Int), .int .i64 (t : Int), .slice (some ⟨g9, 0, none⟩) hl c9] → ∀ b, vblk u = some b → W < b ∧ b < w11.heap.size) := Lib.hid (fun u hu b hb => by
              rcases List.mem_append.1 hu with hu | hu
              · have := HV6.out u hu b hb
                omega
              · simp at hu
                rcases hu with rfl | rfl | rfl
                · cases hb
                · cases hb
                · have := vblk_slice hb
                  omega)
            have HL11 : Hid ((s.2 ++ [(k, t, hs)]).length = n + 1) := Lib.hid (by rw [List.length_append, HLn.out]; rfl)
            have HK11 : Hid (routeK F (k + 1 - 1) = some (takeK s.1 t (tiles hs), s.2 ++ [(k, t, hs)])) := HKS
            clear hr11 hb11 hk11 HWr9 HX9 HR9 HA9 HF9 HLF z0 z1 z2
            go_wp2
            go_roundw
            case rel => exact ⟨k + 1, g', cap', n + 1, _, _, by omega, by go_num, rfl, by omega, by omega, by omega, by omega, HL11, HK11, HW11, HR11, HD9, HV11, HF11, HX11⟩
            case measure => simp [intOf]; omega
        · have hli : (l : Int) < 2 := by omega
          have HKS : Hid (routeK F (k + 1 - 1) = some s) := Lib.hid (by
            by_cases hk0 : k = 0
            · subst hk0
              exact HK.out
            · obtain ⟨k0, rfl⟩ : ∃ k0, k = k0 + 1 := ⟨k - 1, by omega⟩
              show routeK F (k0 + 1) = some s
              rw [routeK_go (z := k0) HK.out, step_unused (HNk.out (by omega) (by omega))])
          clear HUk HNk hcm
          go_wp2
          clear hli
          go_roundw
          case rel => exact ⟨k + 1, g, cap, n, s, vs, by omega, by go_num, rfl, by omega, hgW, hgZ, hzr, HLn, HKS, HWr, HRr, HDr, HVr, HFr, HXr⟩
          case measure => simp [intOf]; omega
      · obtain rfl : k = N := by omega
        have HF : Hid (routesZ (m : Int) ns gs os p = some s.2) := Lib.hid (by rw [HE2.out, HK.out]; rfl)
        go_wp2
        go_ret2
        exact ⟨by rw [HF.out]; exact ⟨g, cap, vs, ret_tuple_slice HLn.out.symm, HRr.out, HDr.out⟩, HXr.out⟩
end Go.Proofs.YtliedgaefgomjaaGreat
/- Facts about the routes of a circuit and a placement. -/
namespace Go.Proofs.YtliedgaefgomjaaGreat
open Go.RowKit Go.Deep Cut Plc Rt

/-- The pins of a net of a circuit under a placement. -/
abbrev pinsZ (i : Int) (ns : List Int) (gs : List (Int × Int)) (os ps : List Int) : Nat → List Nat := pinsP i.toNat (Opt.natL os) (cellsV i ns gs os) (Opt.natL ps)
theorem routesZ_ok {i : Int} {ns : List Int} {gs : List (Int × Int)} {os ps : List Int} {rs : List Ro} (h : routesZ i ns gs os ps = some rs) : placeB i ns gs os ps = true ∧ ∃ B, ROk (pinsZ i ns gs os ps) (Opt.fst i ns + gs.length - 1) (B, rs) := by
  unfold routesZ at h
  by_cases hv : placeB i ns gs os ps = true
  · rw [if_pos hv] at h
    refine ⟨hv, ?_⟩
    obtain ⟨hvv, hpp, _⟩ := placeB_inv hv
    have hok := netOk_of hvv
    have hl : ∀ n x, x ∈ pinsZ i ns gs os ps n → x < 25 := fun v x hx => by
      have := pinsP_le (by rw [hok.len]; exact hpp) hok.m4 hok.ol v x hx
      omega
    cases hr : routeK (pinsZ i ns gs os ps) (Opt.fst i ns + gs.length - 1) with
    | none => rw [hr] at h; cases h
    | some s =>
      rw [hr] at h
      injection h with h
      obtain ⟨B, rs'⟩ := s
      obtain rfl : rs' = rs := h
      exact ⟨B, routeK_ok hl _ _ hr⟩
  · rw [if_neg hv] at h; cases h
theorem rok_mem {pinsOf : Nat → List Nat} {z : Nat} {s : Rs} (h : ROk pinsOf z s) {r : Ro} (hr : r ∈ s.2) : 1 ≤ r.1 ∧ r.1 ≤ z ∧ pinsOf r.1 ≠ [] := by
  have h1 : r.1 ∈ s.2.map (·.1) := List.mem_map.2 ⟨r, hr, rfl⟩
  rw [h.nets, List.mem_filter, List.mem_map] at h1
  obtain ⟨⟨a, ha, e⟩, h2⟩ := h1
  rw [List.mem_range] at ha
  exact ⟨by omega, by omega, by simpa using h2⟩
theorem rok_le {pinsOf : Nat → List Nat} {z : Nat} {s : Rs} (h : ROk pinsOf z s) : s.2.length ≤ z := by
  have h1 := congrArg List.length h.nets
  rw [List.length_map] at h1
  rw [h1]
  exact Nat.le_trans (List.length_filter_le _ _) (by simp)
theorem memDR {rs : List Ro} {k : Nat} (hk : k < rs.length) : rs.getD k (0, 0, []) ∈ rs := by
  rw [List.getD_eq_getElem?_getD, List.getElem?_eq_getElem hk]
  exact List.getElem_mem hk
theorem routesZ_bd {i : Int} {ns : List Int} {gs : List (Int × Int)} {os ps : List Int} {rs : List Ro} (h : routesZ i ns gs os ps = some rs) : rs.length ≤ 21 ∧ ∀ k, k < rs.length → (rs.getD k (0, 0, [])).1 ≤ 21 ∧ (rs.getD k (0, 0, [])).2.1 ≤ 7 ∧ (rs.getD k (0, 0, [])).2.2.length ≤ 25 := by
  obtain ⟨hv, B, hk⟩ := routesZ_ok h
  obtain ⟨h0, h1, h2, h3, h4⟩ := Circ.valid_within (placeB_inv hv).1
  have hz : Opt.fst i ns + gs.length - 1 ≤ 21 := by unfold Opt.fst; omega
  refine ⟨Nat.le_trans (rok_le hk) hz, fun k hkl => ?_⟩
  have hm := memDR hkl
  have h5 := rok_mem hk hm
  have h6 := hk.tr _ hm
  obtain ⟨busy, hb⟩ := h6.2.1
  exact ⟨by omega, by omega, hb.len⟩
end Go.Proofs.YtliedgaefgomjaaGreat
/- What the laws of Route need: comparison of routes, the list of used wires. -/
namespace Go.Proofs.YtliedgaefgomjaaGreat
open Go.RowKit Go.Deep Cut Plc Rt
set_option maxRecDepth 100000

section
variable {ops : Array Oper} {o : Oper} {a : Act} {Q : Exit → Act → World → Prop}
theorem step_pushT {K : Act → World → Prop} {E : Prop} (hgd : o.guard = none) (s x : Operand) (ho : o.op = .call { callee := .builtin .append, args := #[s, x], argTypes := #[23, 23] })
    (wr : World) (B g cap n : Nat) (xs : List Nat) (hev : a.eval s = .slice (some ⟨g, 0, none⟩) n cap) (hn : xs.length = n) (h : TimesAt wr B xs g cap) (hnb : n ≤ 1000)
    (y : Nat) (z : Int) (hz : z = (y : Int)) (hx : a.eval x = .slice (some ⟨wr.heap.size, 0, none⟩) 1 1)
    (cont : ∀ g' cap' w5, TimesAt w5 B (xs ++ [y]) g' cap' → Below B wr w5 → (∀ b, b < wr.heap.size → b ≠ g → w5.heap[b]? = wr.heap[b]?) → (g' = g ∨ wr.heap.size < g') → K (a.put o.dst (.slice (some ⟨g', 0, none⟩) (n + 1) cap')) w5) :
    if Region.wanted o (yielded ops a.tmps) = true then Oper.wp Tryz.prog o a (wr.alloc (.cells #[.int .i64 z] 3)) K Q else E := by
  subst hz hn
  obtain ⟨i0, hi0, hz0, hz1, hz2⟩ := info_split Tryz.info3
  obtain ⟨hB, hgl⟩ := h.gb
  refine step_append_kept _ hgd s x 23 ho B 3 i0 _ 1 8 Tryz.underlying23 hi0 hz0 hz1 hz2 rfl (by omega) (.slice (some ⟨g, 0, none⟩) xs.length cap) xs.length (ivs (Opt.intL xs)) hev (World.ownsRow.alloc h _) ⟨wr.heap.size, 0, none⟩ 1 1 [.int .i64 (y : Int)] hx rfl (World.news_of_block (cs := #[.int .i64 (y : Int)]) (t := 3) (fr := (0, 0)) (heap_alloc_new wr _)) (by simp [Value.oneCell']) (by omega) (by simp [maxLen]; omega) (by omega) (by simp; omega) _ rfl ?_
  intro g' cap' w5 hown5 hgr5 hat5 hlt5 hkept5
  refine cont g' cap' w5 ?_ (below_alloc_grown hgr5 (by omega) hB) (off_grown hgr5) ?_
  · unfold TimesAt
    have e : ivs (Opt.intL (xs ++ [y])) = ivs (Opt.intL xs) ++ [.int .i64 (y : Int)] := by simp [ivs, Opt.intL]
    rw [e, List.length_append, List.length_singleton]
    exact hown5
  · rcases hat5 with h1 | h1
    · left; simp [Value.ownBlock] at h1; omega
    · right; simp at h1; omega
end

set_option maxHeartbeats 2000000 in
theorem sameRo_any (A A' : Option Addr) (n cap cap' : Nat) (es : List Ro) (w : World) (hx : RoIn w w.heap.size A es) (hy : RoIn w w.heap.size A' es) (hn : es.length = n) (hl : n ≤ 1000) (hr : RoBd es n) :
    Calls Tryz.prog 9 #[.slice A n cap, .slice A' n cap'] w fun e w' => e = .returned (.bool true) ∧ Below w.heap.size w w' := by
  have HX := Lib.hid hx
  have HY := Lib.hid hy
  have HN := Lib.hid hn
  have HT := Lib.hid hr
  clear hx hy hn hr
  go_enter Tryz.func9, Tryz.ntmps9
  go_upto_region 4 with fail
  go_loopw [5] (fun iv wr => ∃ (k : Nat), k ≤ n ∧ iv = .int .i64 k ∧ Below w.heap.size w wr) (fun iv _ => n - (intOf iv).toNat)
  case atStart => exact ⟨0, Nat.zero_le _, rfl, Below.refl _ _⟩
  case round =>
    obtain ⟨k, hk, rfl, hbr⟩ := hrel
    by_cases hlt : k < n
    · obtain ⟨b, off, rfl, hbl, B1, c1, p0, p1, p2, hbA⟩ := HX.out k (by rw [HN.out]; exact hlt)
      obtain ⟨b', off', rfl, hbl', B2, c2, r0, r1, r2, hbB⟩ := HY.out k (by rw [HN.out]; exact hlt)
      obtain ⟨t1, t2, t3⟩ := HT.out k hlt
      have HBA := Lib.hid hbA
      have HBB := Lib.hid hbB
      have HP := Lib.hid (show Below w.heap.size w w from Below.refl _ _)
      have hz := hbr.size
      have HS := Lib.hid (Rokeep hbr hbl hbl' ⟨p0, p1, p2, r0, r1, r2⟩)
      have HS0 : Hid (w.cell? ⟨b, off + k * 3 + 2, none⟩ = _ ∧ w.cell? ⟨b', off' + k * 3 + 2, none⟩ = _) := Lib.hid ⟨p2, r2⟩
      clear hbA hbB p0 p1 p2 r0 r1 r2
      generalize (es.getD k (0, 0, [])).2.1 = t at *
      generalize (es.getD k (0, 0, [])).2.2 = y at *
      generalize (es.getD k (0, 0, [])).1 = v at *
      obtain ⟨m, hm⟩ : ∃ m, y.length = m := ⟨_, rfl⟩
      rw [hm] at HS t3 HS0
      have HM := Lib.hid hm
      clear hm
      obtain ⟨g0, g1, g2, g3, g4, g5⟩ := HS.out
      have hk0 : (0 : Int) ≤ (k : Int) := Int.natCast_nonneg _
      have hk1 : (k : Int) < (n : Int) := by omega
      have z1 : ((v : Int) != (v : Int)) = false := by simp
      have z2 : ((t : Int) != (t : Int)) = false := by simp
      have z3 : ((m : Int) != (m : Int)) = false := by simp
      go_upto_region 6 with fail
      go_quiet (fail)
      go_upto_region 9 with fail
      clear g0 g1 g2 g3 g4 g5 z1 z2 z3
      go_loopw [6] (fun iv wz => ∃ (j : Nat), j ≤ m ∧ iv = .int .i64 j ∧ Below w.heap.size w wz) (fun iv _ => m - (intOf iv).toNat)
      case atStart => exact ⟨0, Nat.zero_le _, rfl, by first | exact hbr | exact hbr.drew | exact hbr.trans ((below_drewN _ _).mono hbr.size)⟩
      case round =>
        clear HS hbr
        obtain ⟨j, hj, rfl, hbz⟩ := hrel
        have hz2 := hbz.size
        have g2 := (hbz.cell (p := ⟨b, off + k * 3 + 2, none⟩) hbl).trans HS0.out.1
        have g5 := (hbz.cell (p := ⟨b', off' + k * 3 + 2, none⟩) hbl').trans HS0.out.2
        by_cases hlt2 : j < m
        · obtain ⟨d, of1, rfl, hd, c0, c0'⟩ := HBA.out j (by rw [hpI_len, HM.out]; exact hlt2)
          obtain ⟨d', of1', rfl, hd', c1, c1'⟩ := HBB.out j (by rw [hpI_len, HM.out]; exact hlt2)
          rw [← hbz.cell (by exact hd)] at c0 c0'
          rw [← hbz.cell (by exact hd')] at c1 c1'
          rw [hpI_at] at c0 c0' c1 c1'
          generalize (y.getD j (0, 0)).1 = xv at *
          generalize (y.getD j (0, 0)).2 = xu at *
          go_upto_region 11 with fail
          go_quiet (fail)
          go_wp2
          go_roundw
          case rel => exact ⟨j + 1, by omega, by go_num, hbz.trans ((below_drewN _ _).mono hbz.size)⟩
          case measure => simp [intOf]; omega
        · obtain rfl : j = m := by omega
          go_wp2
          go_roundw
          case rel => exact ⟨k + 1, by omega, by go_num, hbz⟩
          case measure => simp [intOf]; omega
    · go_wp2
      go_ret
      exact ⟨rfl, hbr⟩
end Go.Proofs.YtliedgaefgomjaaGreat
