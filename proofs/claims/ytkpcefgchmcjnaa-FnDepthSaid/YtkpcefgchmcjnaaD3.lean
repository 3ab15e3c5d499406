/- The contract of the model's levels. -/
import Derived.Test.YtkpcefgchmcjnaaD1
import Derived.Test.YtkpcefgchmcjnaaK
namespace Go.Proofs.Ytkpcefgchmcjnaa
open Go.RowKit Go.Deep

def ivs (xs : List Int) : List Value := xs.map (Value.int .i64)
theorem ivs_len (xs : List Int) : (ivs xs).length = xs.length := by simp [ivs]
theorem ivs_get {xs : List Int} {k : Nat} (hk : k < xs.length) : (ivs xs)[k]? = some (.int .i64 (xs.getD k 0)) := by
  simp [ivs, List.getD_eq_getElem?_getD, hk]
theorem ivs_take_snoc {xs : List Int} {k : Nat} (hk : k < xs.length) : ivs (xs.take (k + 1)) = ivs (xs.take k) ++ [.int .i64 (xs.getD k 0)] := by
  unfold ivs
  rw [List.take_succ_eq_append_getElem hk, List.map_append]
  simp only [List.getD_eq_getElem?_getD, List.getElem?_eq_getElem hk, Option.getD_some, List.map_cons, List.map_nil]
theorem own_ints {w : World} {base g n cap : Nat} {xs : List Int} (h : w.ownsRow base 3 1 (.slice (some ⟨g, 0, none⟩) n cap) n (ivs xs)) (hn : xs.length = n) : IntsAt w w.heap.size (some ⟨g, 0, none⟩) xs := fun k hk => by
  refine ⟨g, 0, rfl, (h.lt g rfl).2, ?_⟩
  rw [Nat.zero_add, h.cellAt k (by omega)]
  exact ivs_get hk
theorem Row.grown {w w' : World} {row : Option Nat} {g : Nat} {t : TypeId} {cs : Array Value} (h : Row w g t cs) (hb : w.grownBy w' row) (hg : some g ≠ row) : Row w' g t cs := (hb.block g h.lt hg).trans h

set_option maxHeartbeats 800000 in
theorem l1Levels_any (i : Int) (nA gA oA : Option Addr) (nl nc gc ol oc : Nat) (gs : List (Int × Int)) (f : Nat) (w : World) (hg : GatesAt w w.heap.size gA gs) (hgl : gs.length ≤ 14) (h0 : 0 ≤ i) (h1 : i ≤ 4) (h2 : nl ≤ 3) (hf : 1 + i + (nl : Int) = f) (hok : Circ.gatesOk gs f = true) :
    Calls Try.prog 33 #[.agg #[.int .i64 i, .slice nA nl nc, .slice gA gs.length gc, .slice oA ol oc]] w fun e w' => ∃ g cap : Nat, e = .returned (.slice (some ⟨g, 0, none⟩) (f + gs.length) cap) ∧ w.heap.size ≤ g ∧ Below w.heap.size w w' ∧ IntsAt w' w'.heap.size (some ⟨g, 0, none⟩) (Circ.levels gs f) := by
  have HX := Lib.hid hg
  have HOK := Lib.hid hok
  have HF := Lib.hid hf
  have hf8 : f ≤ 8 := by omega
  have HLL := Lib.hid (Circ.levels_len gs f)
  clear hg hok hf
  obtain ⟨i0, hi0, hz0, hz1, hz2⟩ := info_parts Try.info3
  have HI0 := Lib.hid hi0
  have HZ0 := Lib.hid hz0
  have HZ1 := Lib.hid hz1
  have HZ2 := Lib.hid hz2
  clear hi0 hz0 hz1 hz2
  have hbw : Below w.heap.size w (w.alloc (.cells #[.int .i64 i, .slice nA nl nc, .slice gA gs.length gc, .slice oA ol oc] 26)) := (Below.refl _ _).alloc (Nat.le_refl _) _
  have r0 : Row (w.alloc (.cells #[.int .i64 i, .slice nA nl nc, .slice gA gs.length gc, .slice oA ol oc] 26)) w.heap.size 26 #[.int .i64 i, .slice nA nl nc, .slice gA gs.length gc, .slice oA ol oc] := heap_alloc_new w _
  have HL0 := Lib.hid hbw
  have HR0 := Lib.hid r0
  clear hbw r0
  generalize hn : gs.length = n at *
  have HN := Lib.hid hn
  clear hn
  have hmk := fun W => run_make_row' (P := Try.prog) 23 3 (.int .i64 0) 8 Try.underlying23 Try.info3 rfl .i64 .i64 f (by omega) (by omega) W
  go_enter Try.func33, Try.ntmps33
  go_wp2_with fail
  refine (l1First_any _ _ _ _ _ _ _ _ _ _ _ (by omega) (by omega) (by omega)).mono ?_
  rintro e w1 ⟨rfl, hb1⟩
  rw [HF.out]
  have HR1 := Lib.hid (HR0.out.below hb1 HR0.out.lt)
  have HL1 := Lib.hid (HL0.out.trans (hb1.mono HL0.out.size))
  clear hb1 HR0 HL0
  have hz := HR1.out.lt
  go_wp2
  clear hmk
  have HOS := Lib.hid (show (w1.alloc (.cells (madeCells #[.int .i64 0] f) 3)).ownsRow (w.heap.size + 1) 3 1 (.slice (some ⟨w1.heap.size, 0, none⟩) f f) f (ivs ((Circ.levels gs f).take f)) from by
    have h := World.ownsRow_lit (base := w.heap.size + 1) (e := 3) (size := 1) w1 (madeCells #[.int .i64 0] f) f (by omega) (by simp [maxLen]; omega) (by rw [size_madeCells]; omega)
    rw [toList_madeCells_one] at h
    rw [Circ.levels_take, ivs, List.map_replicate]
    exact h)
  have HRS := Lib.hid (show Row (w1.alloc (.cells (madeCells #[.int .i64 0] f) 3)) w.heap.size 26 #[.int .i64 i, .slice nA nl nc, .slice gA n gc, .slice oA ol oc] from (Below.heap_alloc _ _ _ hz).trans HR1.out)
  have HBS := Lib.hid (HL1.out.alloc HL1.out.size (.cells (madeCells #[.int .i64 0] f) 3))
  generalize w1.alloc (.cells (madeCells #[.int .i64 0] f) 3) = w2 at *
  generalize w1.heap.size = g0 at *
  clear HR1 HL1 w1
  go_loopw [3, 4] (fun v iv wr => ∃ (k g cap : Nat), k ≤ n ∧ iv = .int .i64 k ∧ v = .slice (some ⟨g, 0, none⟩) (f + k) cap ∧ Hid (wr.ownsRow (w.heap.size + 1) 3 1 (.slice (some ⟨g, 0, none⟩) (f + k) cap) (f + k) (ivs ((Circ.levels gs f).take (f + k)))) ∧ Hid (Row wr w.heap.size 26 #[.int .i64 i, .slice nA nl nc, .slice gA n gc, .slice oA ol oc]) ∧ Below w.heap.size w wr) (fun _ iv _ => n - (intOf iv).toNat)
  case atStart => exact ⟨0, g0, f, Nat.zero_le _, rfl, rfl, HOS, HRS, HBS.out⟩
  case round =>
    clear HOS HRS HBS hz
    obtain ⟨k, g, cap, hk, rfl, rfl, HOwn, HRow, hbr⟩ := hrel
    have q2 := HRow.out.cell 2
    simp at q2
    by_cases hlt : k < n
    · obtain ⟨b, off, rfl, hbl, hcA, hcB⟩ := HX.out k (by rw [HN.out]; exact hlt)
      rw [← hbr.cell (by exact hbl)] at hcA hcB
      obtain ⟨oA1, oB1⟩ := Circ.gatesOk_get HOK.out (k := k) (by rw [HN.out]; exact hlt)
      obtain ⟨oA2, oA3⟩ := Circ.litOk_inv oA1
      obtain ⟨oB2, oB3⟩ := Circ.litOk_inv oB1
      clear oA1 oB1
      have HAT := Lib.hid (fun a b => Circ.levels_at gs f k a b (by rw [HN.out]; exact hlt))
      generalize (gs.getD k (0, 0)).1 = va at *
      generalize (gs.getD k (0, 0)).2 = vb at *
      obtain ⟨qa, hqa⟩ : ∃ q : Nat, va / 2 = q := ⟨(va / 2).toNat, by omega⟩
      obtain ⟨qb, hqb⟩ : ∃ q : Nat, vb / 2 = q := ⟨(vb / 2).toNat, by omega⟩
      have hqa1 : qa < f + k := by omega
      have hqb1 : qb < f + k := by omega
      have HV := Lib.hid (HAT.out qa qb (by omega) (by omega) hqa1 hqb1)
      clear HAT
      have hbdA := Circ.levels_bd gs f qa
      have hbdB := Circ.levels_bd gs f qb
      rw [HN.out] at hbdA hbdB
      have htl : ((Circ.levels gs f).take (f + k)).length = f + k := by rw [List.length_take, HLL.out]; omega
      have hla : wr.cell? ⟨g, qa, none⟩ = some (.int .i64 ((Circ.levels gs f).getD qa 0)) := by
        rw [HOwn.out.cellAt qa (by omega), ivs_get (by omega)]
        simp [List.getD_eq_getElem?_getD, hqa1]
      have hlb : wr.cell? ⟨g, qb, none⟩ = some (.int .i64 ((Circ.levels gs f).getD qb 0)) := by
        rw [HOwn.out.cellAt qb (by omega), ivs_get (by omega)]
        simp [List.getD_eq_getElem?_getD, hqb1]
      clear htl
      have HSN := Lib.hid (ivs_take_snoc (xs := Circ.levels gs f) (k := f + k) (by rw [HLL.out]; omega))
      rw [HV.out] at HSN
      generalize (Circ.levels gs f).getD qa 0 = la at *
      generalize (Circ.levels gs f).getD qb 0 = lb at *
      have hgl : g < wr.heap.size := (HOwn.out.lt g rfl).2
      have hmax : max la lb = if la < lb then lb else la := by split <;> omega
      rw [hmax] at HSN
      clear hmax HV
      go_wp2
      clear hcA hcB q2
      have HB5 := Lib.hid (hbr.alloc hbr.size (.cells #[.int .i64 va, .int .i64 vb] 31))
      have HO5 := Lib.hid (HOwn.out.alloc (.cells #[.int .i64 va, .int .i64 vb] 31))
      have HR5 := Lib.hid (show Row (wr.alloc (.cells #[.int .i64 va, .int .i64 vb] 31)) w.heap.size 26 #[.int .i64 i, .slice nA nl nc, .slice (some ⟨b, off, none⟩) n gc, .slice oA ol oc] from (Below.heap_alloc _ _ _ HRow.out.lt).trans HRow.out)
      have e0 : (wr.alloc (.cells #[.int .i64 va, .int .i64 vb] 31)).cell? ⟨wr.heap.size, 0, none⟩ = some (.int .i64 va) := by simp
      have e1 : (wr.alloc (.cells #[.int .i64 va, .int .i64 vb] 31)).cell? ⟨wr.heap.size, 1, none⟩ = some (.int .i64 vb) := by simp
      have e2 : (wr.alloc (.cells #[.int .i64 va, .int .i64 vb] 31)).cell? ⟨g, qa, none⟩ = some (.int .i64 la) := (World.cell?_alloc_lt wr _ ⟨g, qa, none⟩ hgl).trans hla
      have e3 : (wr.alloc (.cells #[.int .i64 va, .int .i64 vb] 31)).cell? ⟨g, qb, none⟩ = some (.int .i64 lb) := (World.cell?_alloc_lt wr _ ⟨g, qb, none⟩ hgl).trans hlb
      have hzg : some wr.heap.size ≠ some g := by intro h; injection h; omega
      clear hla hlb HOwn HRow hbr hgl
      generalize wr.alloc (.cells #[.int .i64 va, .int .i64 vb] 31) = w5 at *
      generalize wr.heap.size = z5 at *
      have t1 : (0 : Int) ≤ (qa : Int) := by omega
      have t2 : (qa : Int) < (f : Int) + (k : Int) := by omega
      have t3 : (0 : Int) ≤ (qb : Int) := by omega
      have t4 : (qb : Int) < (f : Int) + (k : Int) := by omega
      have s5 : IntKind.i64.wrap (1 + (if la < lb then lb else la)) = 1 + (if la < lb then lb else la) := IntWalk.i64_in _ (by split <;> omega)
      have u1 : va.tdiv 2 = (qa : Int) := by rw [Int.tdiv_eq_ediv_of_nonneg (by omega)]; exact hqa
      have u2 : vb.tdiv 2 = (qb : Int) := by rw [Int.tdiv_eq_ediv_of_nonneg (by omega)]; exact hqb
      have u3 : IntKind.i64.wrap (qa : Int) = (qa : Int) := IntWalk.i64_in _ (by omega)
      have u4 : IntKind.i64.wrap (qb : Int) = (qb : Int) := IntWalk.i64_in _ (by omega)
      have hgb : w.heap.size + 1 ≤ g := (HO5.out.lt g rfl).1
      have hgl : g < w5.heap.size := (HO5.out.lt g rfl).2
      go_region_held3 (fun w' => w'.cell? ⟨z5, 0, none⟩ = some (.int .i64 va) ∧ w'.cell? ⟨z5, 1, none⟩ = some (.int .i64 vb) ∧ w'.cell? ⟨g, qa, none⟩ = some (.int .i64 la) ∧ w'.cell? ⟨g, qb, none⟩ = some (.int .i64 lb))
        (first | go_keep | (exact ⟨hgrow.cell (by simp [*]) hzg, hgrow.cell (by simp [*]) hzg, (hkept g qa rfl (by omega)).trans (by simp [*]), (hkept g qb rfl (by omega)).trans (by simp [*])⟩))
        ((refine step_append_kept _ (by rfl) _ _ _ (by rfl) (w.heap.size + 1) 3 i0 _ 1 8 Try.underlying23 HI0.out HZ0.out HZ1.out HZ2.out rfl (by omega) (.slice (some ⟨g, 0, none⟩) (f + k) cap) (f + k) (ivs ((Circ.levels gs f).take (f + k))) (by rfl) ((HO5.out.alloc _).drew) ⟨w5.heap.size, 0, none⟩ 1 1 [.int .i64 (1 + (if la < lb then lb else la))] (by rfl) (by rfl) (World.news_of_block (cs := #[.int .i64 (1 + (if la < lb then lb else la))]) (t := 3) (fr := (0, 0)) (heap_alloc_new w5 _)) (by simp [Value.oneCell']) (by omega) (by simp [maxLen]; omega) (by omega) (by simp; omega) (w5.heap.size + 1) (by simp) ?_; intro gg cap' w6 hown6 hgrow hat hlt6 hkept))
      have HB6 := Lib.hid ((HB5.out.alloc HB5.out.size (.cells #[.int .i64 (1 + (if la < lb then lb else la))] 3)).drew.grown hgrow (Nat.le_trans HB5.out.size (by simp)) (fun j hj => by simp [Value.ownBlock] at hj; omega))
      have HR6 := Lib.hid (Row.grown (w := (w5.alloc (.cells #[.int .i64 (1 + (if la < lb then lb else la))] 3)).drew) ((Below.heap_alloc _ _ _ HR5.out.lt).trans HR5.out) hgrow (by simp [Value.ownBlock]; omega))
      have HO6 := Lib.hid hown6
      rw [← HSN.out] at HO6
      clear s5 u1 u2 u3 u4 t1 t2 t3 t4 e0 e1 e2 e3 hgrow hat hlt6 hkept hown6 HB5 HO5 HR5 hqa hqb
      generalize (1 + if la < lb then lb else la) = nv at *
      go_wp2
      go_roundw
      case rel => exact ⟨k + 1, gg, cap', by omega, by go_num, rfl, HO6, HR6, HB6.out⟩
      case measure => simp [intOf]; omega
    · obtain rfl : k = n := by omega
      go_wp2
      go_ret
      refine ⟨g, cap, rfl, Nat.le_of_lt (HOwn.out.lt g rfl).1, hbr, own_ints (n := f + k) (base := w.heap.size + 1) (cap := cap) ?_ (by rw [HLL.out])⟩
      have h := HOwn.out
      rwa [List.take_of_length_le (by rw [HLL.out]; omega)] at h
end Go.Proofs.Ytkpcefgchmcjnaa
