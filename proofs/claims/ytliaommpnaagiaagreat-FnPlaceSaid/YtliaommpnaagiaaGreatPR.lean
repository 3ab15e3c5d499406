/- The program's placer in memory; measure, measureNetsOf. -/
import Derived.Test.YtliaommpnaagiaaGreatPQ
import Derived.Test.YtliaommpnaagiaaGreatPM
import Derived.StillTailTactics
namespace Go.Proofs.YtliaommpnaagiaaGreat
open Go.RowKit Go.Deep Cut Plc

/-- The cells of a placer. -/
def plRow (A1 A2 A3 : Value) (on : List Int) (A4 : Value) (T : Nat) (x y : Int) : Array Value := (A1 :: A2 :: A3 :: (ivs on ++ [A4, .int .i64 (T : Int), .int .i64 x, .int .i64 y])).toArray
section
variable {A1 A2 A3 A4 : Value} {on : List Int} {T : Nat} {x y : Int}
theorem plRow_0 : (plRow A1 A2 A3 on A4 T x y)[0]? = some A1 := rfl
theorem plRow_1 : (plRow A1 A2 A3 on A4 T x y)[1]? = some A2 := rfl
theorem plRow_2 : (plRow A1 A2 A3 on A4 T x y)[2]? = some A3 := rfl
theorem plRow_at (k : Nat) : (plRow A1 A2 A3 on A4 T x y)[3 + k]? = (ivs on ++ [A4, .int .i64 (T : Int), .int .i64 x, .int .i64 y])[k]? := by
  unfold plRow
  rw [List.getElem?_toArray, show 3 + k = k + 1 + 1 + 1 by omega, List.getElem?_cons_succ, List.getElem?_cons_succ, List.getElem?_cons_succ]
theorem plRow_on (hl : on.length = 25) {t : Nat} (ht : t < 25) : (plRow A1 A2 A3 on A4 T x y)[3 + t]? = some (.int .i64 (on.getD t 0)) := by
  rw [plRow_at, List.getElem?_append_left (by rw [ivs_len]; omega)]
  exact ivs_get (by omega)
theorem plRow_tl (hl : on.length = 25) (k : Nat) : (plRow A1 A2 A3 on A4 T x y)[28 + k]? = [A4, .int .i64 (T : Int), .int .i64 x, .int .i64 y][k]? := by
  rw [show 28 + k = 3 + (25 + k) by omega, plRow_at, List.getElem?_append_right (by rw [ivs_len]; omega), ivs_len, hl, Nat.add_sub_cancel_left]
theorem plRow_28 (hl : on.length = 25) : (plRow A1 A2 A3 on A4 T x y)[28]? = some A4 := plRow_tl hl 0
theorem plRow_29 (hl : on.length = 25) : (plRow A1 A2 A3 on A4 T x y)[29]? = some (.int .i64 (T : Int)) := plRow_tl hl 1
theorem plRow_30 (hl : on.length = 25) : (plRow A1 A2 A3 on A4 T x y)[30]? = some (.int .i64 x) := plRow_tl hl 2
theorem plRow_31 (hl : on.length = 25) : (plRow A1 A2 A3 on A4 T x y)[31]? = some (.int .i64 y) := plRow_tl hl 3
theorem plRow_set (k : Nat) (u : Value) : (plRow A1 A2 A3 on A4 T x y).setIfInBounds (3 + k) u = (A1 :: A2 :: A3 :: ((ivs on ++ [A4, .int .i64 (T : Int), .int .i64 x, .int .i64 y]).set k u)).toArray := by
  unfold plRow
  rw [List.setIfInBounds_toArray, show 3 + k = k + 1 + 1 + 1 by omega, List.set_cons_succ, List.set_cons_succ, List.set_cons_succ]
theorem ivs_set (k : Nat) (v : Int) : ivs (on.set k v) = (ivs on).set k (.int .i64 v) := by
  unfold ivs
  rw [List.map_set]
theorem plRow_set_on (hl : on.length = 25) {t : Nat} (ht : t < 25) (v : Int) : (plRow A1 A2 A3 on A4 T x y).setIfInBounds (3 + t) (.int .i64 v) = plRow A1 A2 A3 (on.set t v) A4 T x y := by
  rw [plRow_set, List.set_append_left _ _ (by rw [ivs_len]; omega), ← ivs_set]
  rfl
theorem plRow_set_tl (hl : on.length = 25) (k : Nat) (u : Value) : (plRow A1 A2 A3 on A4 T x y).setIfInBounds (28 + k) u = (A1 :: A2 :: A3 :: (ivs on ++ [A4, .int .i64 (T : Int), .int .i64 x, .int .i64 y].set k u)).toArray := by
  rw [show 28 + k = 3 + (25 + k) by omega, plRow_set, List.set_append_right _ _ (by rw [ivs_len]; omega), ivs_len, hl, Nat.add_sub_cancel_left]
theorem plRow_set_28 (hl : on.length = 25) (u : Value) : (plRow A1 A2 A3 on A4 T x y).setIfInBounds 28 u = plRow A1 A2 A3 on u T x y := plRow_set_tl hl 0 u
theorem plRow_set_29 (hl : on.length = 25) (T' : Nat) : (plRow A1 A2 A3 on A4 T x y).setIfInBounds 29 (.int .i64 (T' : Int)) = plRow A1 A2 A3 on A4 T' x y := plRow_set_tl hl 1 _
theorem plRow_set_30 (hl : on.length = 25) (x' : Int) : (plRow A1 A2 A3 on A4 T x y).setIfInBounds 30 (.int .i64 x') = plRow A1 A2 A3 on A4 T x' y := plRow_set_tl hl 2 _
theorem plRow_set_31 (hl : on.length = 25) (y' : Int) : (plRow A1 A2 A3 on A4 T x y).setIfInBounds 31 (.int .i64 y') = plRow A1 A2 A3 on A4 T x y' := plRow_set_tl hl 3 _
end

/-- What a change of the placer leaves. -/
structure Kp (BS P gp gl : Nat) (w w' : World) : Prop where
  bel : Below BS w w'
  off : ∀ b, b < w.heap.size → b ≠ P → b ≠ gp → b ≠ gl → w'.heap[b]? = w.heap[b]?
theorem Kp.trans {BS P gp gl : Nat} {w w' w'' : World} (h : Kp BS P gp gl w w') (h2 : Kp BS P gp gl w' w'') : Kp BS P gp gl w w'' :=
  ⟨h.bel.trans h2.bel, fun b h1 h3 h4 h5 => (h2.off b (Nat.lt_of_lt_of_le h1 h.bel.size) h3 h4 h5).trans (h.off b h1 h3 h4 h5)⟩
theorem Kp.of {BS P gp gl : Nat} {w w' : World} (h : Below w.heap.size w w') (hz : BS ≤ w.heap.size) : Kp BS P gp gl w w' :=
  ⟨h.mono hz, fun b h1 _ _ _ => h.block b h1⟩
theorem Kp.set {BS P gp gl : Nat} {w w' : World} (h : Kp BS P gp gl w w') {p : Addr} (hp : p.block = P ∨ p.block = gp ∨ p.block = gl) (hB : BS ≤ p.block) (v : Value) : Kp BS P gp gl w (w'.setCell p v) :=
  ⟨h.bel.setCell hB v, fun b h1 h2 h3 h4 => (Below.heap_setCell w' p v b (by rcases hp with e | e | e <;> rw [e] <;> assumption)).trans (h.off b h1 h2 h3 h4)⟩
theorem GatesAt.kept {w w' : World} {A : Option Addr} {xs : List (Int × Int)} (h : GatesAt w w.heap.size A xs) (hz : w.heap.size ≤ w'.heap.size) (hk : ∀ b off, A = some ⟨b, off, none⟩ → b < w.heap.size → w'.heap[b]? = w.heap[b]?) : GatesAt w' w'.heap.size A xs := fun k hk2 => by
  obtain ⟨b, off, e, hlt, hc, hd⟩ := h k hk2
  have hh := hk b off e hlt
  exact ⟨b, off, e, Nat.lt_of_lt_of_le hlt hz, (World.cell?_of_block (a := ⟨b, off + k * 2, none⟩) hh).trans hc, (World.cell?_of_block (a := ⟨b, off + k * 2 + 1, none⟩) hh).trans hd⟩
/-- What is never written: the cells, the pins. -/
structure PSt (w : World) (BS P gp gl g n N : Nat) (AC : Option Addr) (ce : List Cl) (ps : List (List Pn)) : Prop where
  cells : CeIn w BS AC ce
  nets : ∀ v, v < N → ∃ (A : Option Addr) (cap : Nat), w.cell? ⟨g, v, none⟩ = some (.slice A (ps.getD v []).length cap) ∧ (ps.getD v []).length ≤ cap ∧ cap ≤ maxLen ∧ (ps.getD v []).length ≤ 20000 ∧ GatesAt w w.heap.size A (ps.getD v []) ∧ ∀ b off, A = some ⟨b, off, none⟩ → b ≠ P ∧ b ≠ gp ∧ b ≠ gl
  gB : g < w.heap.size
  g1 : g ≠ P
  g2 : g ≠ gp
  g3 : g ≠ gl
  zB : BS ≤ w.heap.size
theorem PSt.keep {w w' : World} {BS P gp gl g n N : Nat} {AC : Option Addr} {ce : List Cl} {ps : List (List Pn)} (h : PSt w BS P gp gl g n N AC ce ps) (hb : Kp BS P gp gl w w') : PSt w' BS P gp gl g n N AC ce ps :=
  ⟨h.cells.below hb.bel, fun v hv => by
    obtain ⟨A, cap, h1, h2, h3, h4, h5, h6⟩ := h.nets v hv
    exact ⟨A, cap, (World.cell?_of_block (a := ⟨g, v, none⟩) (hb.off g h.gB h.g1 h.g2 h.g3)).trans h1, h2, h3, h4, h5.kept hb.bel.size (fun b off e hlt => hb.off b hlt (h6 b off e).1 (h6 b off e).2.1 (h6 b off e).2.2), h6⟩, Nat.lt_of_lt_of_le h.gB hb.bel.size, h.g1, h.g2, h.g3, Nat.le_trans h.zB hb.bel.size⟩
/-- What is written. -/
structure PAt (w : World) (BS P gp gl g n N cc : Nat) (AC : Option Addr) (pl : List Nat) (on : List Int) (L : List Nat) (x y : Int) : Prop where
  row : Row w P 67 (plRow (.slice AC n cc) (.slice (some ⟨g, 0, none⟩) N N) (.slice (some ⟨gp, 0, none⟩) n n) on (.slice (some ⟨gl, 0, none⟩) N N) L.sum x y)
  pos : TimesAt w BS pl gp n
  len : TimesAt w BS L gl N
  pn : pl.length = n
  ln : L.length = N
  on25 : on.length = 25
  l8 : ∀ u, u ∈ L → u ≤ 8
  hP : BS ≤ P
  d1 : P ≠ gp
  d2 : P ≠ gl
  d3 : gp ≠ gl
theorem PAt.keep {w w' : World} {BS P gp gl g n N cc : Nat} {AC : Option Addr} {pl : List Nat} {on : List Int} {L : List Nat} {x y : Int} (h : PAt w BS P gp gl g n N cc AC pl on L x y) (hk : ∀ b, b < w.heap.size → w'.heap[b]? = w.heap[b]?) : PAt w' BS P gp gl g n N cc AC pl on L x y :=
  { h with row := (hk P h.row.lt).trans h.row, pos := h.pos.keep (hk gp h.pos.gb.2), len := h.len.keep (hk gl h.len.gb.2) }
theorem PAt.on {w w' : World} {BS P gp gl g n N cc : Nat} {AC : Option Addr} {pl : List Nat} {on : List Int} {L : List Nat} {x y : Int} (h : PAt w BS P gp gl g n N cc AC pl on L x y) (hb : Below w.heap.size w w') : PAt w' BS P gp gl g n N cc AC pl on L x y := h.keep (fun b hb' => hb.block b hb')
theorem TimesAt.far {w : World} {s g cap : Nat} {xs : List Nat} (h : TimesAt w s xs g cap) {p : Addr} (hp : g ≠ p.block) (u : Value) : TimesAt (w.setCell p u) s xs g cap := h.keep (Below.heap_setCell w p u g hp)
theorem PAt.sum_le {w : World} {BS P gp gl g n N cc : Nat} {AC : Option Addr} {pl : List Nat} {on : List Int} {L : List Nat} {x y : Int} (h : PAt w BS P gp gl g n N cc AC pl on L x y) : L.sum ≤ 8 * N := by rw [← h.ln]; exact Plc.sum_le L h.l8
theorem PAt.setLen {w : World} {BS P gp gl g n N cc : Nat} {AC : Option Addr} {pl : List Nat} {on : List Int} {L : List Nat} {x y : Int} (h : PAt w BS P gp gl g n N cc AC pl on L x y) {v d : Nat} (hd : d ≤ 8) (T : Nat) (hT : T = (L.set v d).sum) :
    PAt ((w.setCell ⟨P, 29, none⟩ (.int .i64 (T : Int))).setCell ⟨gl, v, none⟩ (.int .i64 (d : Int))) BS P gp gl g n N cc AC pl on (L.set v d) x y := by
  subst hT
  refine ⟨?_, (h.pos.far (p := ⟨P, 29, none⟩) h.d1.symm _).far (p := ⟨gl, v, none⟩) h.d3 _, (h.len.far (p := ⟨P, 29, none⟩) h.d2.symm _).put v d, h.pn, by rw [List.length_set]; exact h.ln, h.on25, fun u hu => ?_, h.hP, h.d1, h.d2, h.d3⟩
  · have h1 := (h.row.set 29 (.int .i64 (((L.set v d).sum : Nat) : Int)))
    rw [plRow_set_29 h.on25] at h1
    exact h1.far (p := ⟨gl, v, none⟩) h.d2 _
  · rcases List.mem_or_eq_of_mem_set hu with h1 | h1
    · exact h.l8 u h1
    · omega

set_option maxRecDepth 10000 in
set_option maxHeartbeats 1000000 in
theorem measure_any (BS P gp gl g n N cc v : Nat) (AC : Option Addr) (ce : List Cl) (ps : List (List Pn)) (pl : List Nat) (on : List Int) (L : List Nat) (x y : Int) (w : World) (hS : PSt w BS P gp gl g n N AC ce ps) (hA : PAt w BS P gp gl g n N cc AC pl on L x y) (hp : Pl n pl) (hv : v < N) (hn : n ≤ 17) (hN : N ≤ 25) (hok : ∀ k, k < (ps.getD v []).length → okPin n ((ps.getD v []).getD k (0, 0))) (h8 : lenP pl (ps.getD v []) ≤ 8) :
    Calls Tryz.prog 67 #[.pointer (some ⟨P, 0, none⟩), .int .i64 (v : Int)] w fun e w' => e = .returned (.tuple #[]) ∧ PAt w' BS P gp gl g n N cc AC pl on (L.set v (lenP pl (ps.getD v []))) x y ∧ Below BS w w' ∧ (∀ b, b < w.heap.size → b ≠ P → b ≠ gl → w'.heap[b]? = w.heap[b]?) := by
  obtain ⟨A, cap, e1, e2, e3, e4, e5, _⟩ := hS.nets v hv
  have HGA := Lib.hid e5
  have HPO := Lib.hid hok
  have HP := Lib.hid hp
  have HD := Lib.hid (show lenP pl (ps.getD v []) = lenP pl (ps.getD v []) from rfl)
  generalize hq : ps.getD v [] = q at *
  obtain ⟨d, hd⟩ : ∃ d, lenP pl q = d := ⟨_, rfl⟩
  have HDE := Lib.hid hd
  rw [hd] at h8 ⊢
  obtain ⟨l, hl⟩ : ∃ l, q.length = l := ⟨_, rfl⟩
  rw [hl] at e1 e2 e4 HPO
  have HLQ := Lib.hid hl
  have HA := Lib.hid hA
  have c1 := (hA.row.cell 1).trans plRow_1
  have c2 := (hA.row.cell 2).trans plRow_2
  have HIP := Lib.hid hA.pos.ints
  have hzB := hS.zB
  have hgB := hS.gB
  have hPB := hA.hP
  have hgl := hA.len.gb
  have hgp := hA.pos.gb
  have hPz := hA.row.lt
  have hv0 : (0 : Int) ≤ (v : Int) := Int.natCast_nonneg _
  have hv1 : (v : Int) < (N : Int) := by omega
  clear hok hp hA HD hd hl hq hS e5
  go_enter Tryz.func67, Tryz.ntmps67
  go_upto_region 0 with fail
  go_region_held3 (fun w' => w'.cell? ⟨P, 1, none⟩ = some (.slice (some ⟨g, 0, none⟩) N N) ∧ w'.cell? ⟨g, v, none⟩ = some (.slice A l cap) ∧ w'.cell? ⟨P, 2, none⟩ = some (.slice (some ⟨gp, 0, none⟩) n n))
    (first | go_keep | (refine ⟨?_, ?_, ?_⟩ <;> (rw [hc3 _ _ (by simp; omega)]; simp [*])))
    (first
      | (go_at_call 32; refine (netLen_any A (some ⟨gp, 0, none⟩) l cap n n q pl w.drew (HGA.out.below (Below.refl _ w).drew) HLQ.out e2 (by omega) e3 (HIP.out.below (Below.refl _ w).drew) HP.out.len (by omega) HPO.out HP.out.le).mono ?_; rintro e w3 ⟨rfl, hb3⟩; rw [HDE.out]; obtain ⟨hc3, hf3⟩ := bcell hb3))
  rename_i _hheld
  clear _hheld hc3 hf3 c1 c2 e1 e2
  have hb3' : Below w.heap.size w w3 := (Below.refl _ w).drew.trans hb3
  have HA3 := Lib.hid (HA.out.on hb3')
  have HX3 := Lib.hid hb3'
  clear hb3 hb3' HA HIP HGA
  have c29 := (HA3.out.row.cell 29).trans (plRow_29 HA3.out.on25)
  have c28 := (HA3.out.row.cell 28).trans (plRow_28 HA3.out.on25)
  obtain ⟨cv, fv⟩ := HA3.out.len.row (k := v) (by rw [HA3.out.ln]; exact hv)
  have hsl := HA3.out.sum_le
  have hss := sum_set (L := L) (v := v) (d := d) (by rw [HA3.out.ln]; exact hv)
  obtain ⟨T', hT'⟩ : ∃ T', (L.set v d).sum = T' := ⟨_, rfl⟩
  rw [hT'] at hss
  have HTE := Lib.hid hT'
  obtain ⟨lv, hlve⟩ : ∃ lv, L.getD v 0 = lv := ⟨_, rfl⟩
  obtain ⟨T, hTe⟩ : ∃ T, L.sum = T := ⟨_, rfl⟩
  rw [hlve] at hss cv
  rw [hTe] at hss hsl c29
  have hT2 : (T : Int) + ((d : Int) - (lv : Int)) = (T' : Int) := by omega
  have HT2 := Lib.hid hT2
  have hlv : lv ≤ 1000 := by omega
  have hT8 : T ≤ 200 := by omega
  have HLV := Lib.hid hlve
  have HTT := Lib.hid hTe
  clear hT' hT2 hlve hTe hss hsl
  go_upto_region 1 with fail
  go_still_tail 16, (by kernel_rfl)
  have HA4 := Lib.hid (HA3.out.keep (w' := w3.drew) (fun _ _ => rfl))
  have HX4 := Lib.hid (HX3.out.drew)
  clear c29 c28 cv fv HA3 HX3
  change wpList _ _ _ _ _ w3.drew
  generalize w3.drew = w4 at *
  have c29 := (HA4.out.row.cell 29).trans (plRow_29 HA4.out.on25)
  rw [HTT.out] at c29
  have f29 := HA4.out.row.frozen 29
  have HA5 := Lib.hid (HA4.out.setLen (v := v) h8 T' HTE.out.symm)
  have HK5 : Hid (∀ b, b < w.heap.size → b ≠ P → b ≠ gl → ((w4.setCell ⟨P, 29, none⟩ (.int .i64 (T' : Int))).setCell ⟨gl, v, none⟩ (.int .i64 (d : Int))).heap[b]? = w.heap[b]?) := Lib.hid (fun b h1 h2 h3 => by
    rw [Below.heap_setCell _ ⟨gl, v, none⟩ _ b h3, Below.heap_setCell _ ⟨P, 29, none⟩ _ b h2]
    exact HX4.out.block b h1)
  have HB5 : Hid (Below BS w ((w4.setCell ⟨P, 29, none⟩ (.int .i64 (T' : Int))).setCell ⟨gl, v, none⟩ (.int .i64 (d : Int)))) := Lib.hid ((((HX4.out.mono hzB)).setCell (p := ⟨P, 29, none⟩) hPB _).setCell (p := ⟨gl, v, none⟩) hgl.1 _)
  have HR5 : Hid (PAt w4 BS P gp gl g n N cc AC pl on L x y) := HA4
  obtain ⟨cv0, fv0⟩ := HA4.out.len.row (k := v) (by rw [HA4.out.ln]; exact hv)
  have cv : (w4.setCell ⟨P, 29, none⟩ (.int .i64 (T' : Int))).cell? ⟨gl, v, none⟩ = some (.int .i64 (L.getD v 0 : Nat)) := (World.cell?_of_block (a := ⟨gl, v, none⟩) (Below.heap_setCell w4 ⟨P, 29, none⟩ _ gl (Ne.symm HA4.out.d2))).trans cv0
  have fv : (w4.setCell ⟨P, 29, none⟩ (.int .i64 (T' : Int))).frozen? ⟨gl, v, none⟩ = false := (World.frozen?_of_block (a := ⟨gl, v, none⟩) (Below.heap_setCell w4 ⟨P, 29, none⟩ _ gl (Ne.symm HA4.out.d2))).trans fv0
  have c28 : (w4.setCell ⟨P, 29, none⟩ (.int .i64 (T' : Int))).cell? ⟨P, 28, none⟩ = some (.slice (some ⟨gl, 0, none⟩) N N) := by
    have h1 := HA4.out.row.set 29 (.int .i64 (T' : Int))
    rw [plRow_set_29 HA4.out.on25] at h1
    exact (h1.cell 28).trans (plRow_28 HA4.out.on25)
  have hw1 : IntKind.i64.wrap ((d : Int) - (lv : Int)) = (d : Int) - (lv : Int) := IntWalk.i64_in _ (by omega)
  have hw2 : IntKind.i64.wrap ((T : Int) + ((d : Int) - (lv : Int))) = (T : Int) + ((d : Int) - (lv : Int)) := IntWalk.i64_in _ (by omega)
  rw [hw1, hw2, HT2.out]
  generalize L.getD v 0 = lv2 at *
  clear cv0 fv0 HA4 HR5 HX4 hw1 hw2
  go_wp2_with fail
  go_end0
  exact ⟨rfl, HA5.out, HB5.out, HK5.out⟩
end Go.Proofs.YtliaommpnaagiaaGreat
