/- The contract of l5Best. -/
import Derived.Test.YthcpgbfghededaaM6
namespace Go.Proofs.Ythcpgbfghededaa
open Go.RowKit Go.Deep Cut

/-- What is asked of the cuts of gate k. -/
structure GateK (f k : Nat) (L : Cs) : Prop where
  two : 2 ≤ L.length
  len : L.length ≤ 9
  fit : ∀ j, j < L.length → (L.getD j []).length ≤ 3
  lt : ∀ j, j + 1 < L.length → ∀ l, l ∈ L.getD j [] → l < f + k
def BestOut (w : World) (f gl : Nat) (cs : List Cs) (e : Ending) (w' : World) : Prop := ∃ (g1 c1 g2 c2 : Nat) (hs : List Value), e = .returned (.tuple #[.slice (some ⟨g1, 0, none⟩) (f + gl) c1, .slice (some ⟨g2, 0, none⟩) (f + gl) c2]) ∧ g1 ≠ g2 ∧ BestAt w' (w.heap.size + 1) (mapTo f cs gl).1 hs g1 c1 ∧ TimesAt w' (w.heap.size + 1) (mapTo f cs gl).2 g2 c2 ∧ Below w.heap.size w w'
theorem better_t1 {arr x y : List Nat} (h : late arr x < late arr y) : better arr x y = true := by simp [better, h]
theorem better_t2 {arr x y : List Nat} (h : late arr x = late arr y) (h2 : x.length < y.length) : better arr x y = true := by simp [better, h, h2]
theorem better_f1 {arr x y : List Nat} (h : late arr y < late arr x) : better arr x y = false := by
  have h1 : ¬ late arr x < late arr y := by omega
  have h2 : ¬ late arr x = late arr y := by omega
  simp [better, h1, h2]
theorem better_f2 {arr x y : List Nat} (h : late arr x = late arr y) (h2 : ¬ x.length < y.length) : better arr x y = false := by
  simp only [better, h, h2]
  simp
theorem mapTo_step (f : Nat) (cs : List Cs) (k : Nat) : mapTo f cs (k + 1) = ((mapTo f cs k).1 ++ [bestOf (mapTo f cs k).2 (cs.getD (f + k) [])], (mapTo f cs k).2 ++ [1 + late (mapTo f cs k).2 (bestOf (mapTo f cs k).2 (cs.getD (f + k) []))]) := rfl

theorem ListIn.at3' {w : World} {S : Nat → Prop} {A : Option Addr} {xs : Cs} {B : Nat} (h : ListIn w S A xs) (hS : ∀ b, S b → b < B) : ListAt w B A xs := h.kept (fun _ _ => rfl) hS

set_option maxRecDepth 10000 in
set_option maxHeartbeats 2000000 in
theorem l5Best_any (i : Int) (nA gA oA AC : Option Addr) (nc gc oc nl gl ol f nn cc : Nat) (c : Opt.C) (cs : List Cs) (w : World) (hc : CircAt w w.heap.size nA gA oA (Opt.intL c.ns) (Opt.intG c.gs) (Opt.intL c.os)) (hF : Fits i f nl gl ol c) (hx : CutsAt w w.heap.size AC cs) (hn : cs.length = nn) (hnn : nn = f + gl) (hk : ∀ k, k < gl → GateK f k (cs.getD (f + k) [])) :
    Calls Try.prog 61 #[.agg #[.int .i64 i, .slice nA nl nc, .slice gA gl gc, .slice oA ol oc], .slice AC nn cc] w (BestOut w f gl cs) := by
  have h0 := hF.i0
  have h1 := hF.i4
  have h2 := hF.n3
  have h3 := hF.g14
  have hf1 : 1 ≤ f := by have := hF.hf; omega
  have hf8 : f ≤ 8 := by have := hF.hf; omega
  have HF := Lib.hid hF
  have HC := Lib.hid hc
  have HX := Lib.hid hx
  have HN := Lib.hid hn
  have HK := Lib.hid hk
  clear hc hF hx hn hk
  have HB0 := Lib.hid (Boxed.new w i nA gA oA nl nc gl gc ol oc 26)
  have HW0 : Hid (Below w.heap.size w (w.alloc (.cells #[.int .i64 i, .slice nA nl nc, .slice gA gl gc, .slice oA ol oc] 26))) := Lib.hid ((Below.refl _ _).alloc (Nat.le_refl _) _)
  have hsz0 : (w.alloc (.cells #[.int .i64 i, .slice nA nl nc, .slice gA gl gc, .slice oA ol oc] 26)).heap.size = w.heap.size + 1 := by simp
  have HZ0 := Lib.hid hsz0
  clear hsz0
  have hmk1 := fun W => run_make_row' (P := Try.prog) 23 3 (.int .i64 0) 8 Try.underlying23 Try.info3 rfl .i64 .i64 f (by omega) (by omega) W
  have hmk2 := fun W => run_make_row' (P := Try.prog) 68 23 (.slice none 0 0) 24 Try.underlying68 Try.info23 rfl .i64 .i64 f (by omega) (by omega) W
  go_enter Try.func61, Try.ntmps61
  have hB := HB0.out
  have q0 := hB.c0
  have q1 := hB.c1
  have q2 := hB.c2
  have q3 := hB.c3
  clear hB
  go_wp2_with fail
  generalize w.alloc (.cells #[.int .i64 i, .slice nA nl nc, .slice gA gl gc, .slice oA ol oc] 26) = w0 at *
  refine (l1First_any _ _ _ _ _ _ _ _ _ _ _ (by omega) (by omega) (by omega)).mono ?_
  rintro e w2 ⟨rfl, hb2⟩
  rw [HF.out.hf]
  have HL2 := Lib.hid (hb2.mono (B' := w.heap.size + 1) (by rw [HZ0.out]; exact Nat.le_refl _))
  clear hb2 q0 q1 q2 q3
  have hs2 : w.heap.size + 1 ≤ w2.heap.size := by have := HL2.out.size; have := HZ0.out; omega
  have HT3 := Lib.hid (TimesAt.made w2 (w.heap.size + 1) f hs2 (by omega))
  have HL3 : Hid (Below (w.heap.size + 1) w0 (w2.alloc (.cells (madeCells #[.int .i64 0] f) 3))) := Lib.hid (HL2.out.trans ((Below.refl _ _).alloc hs2 _))
  have hs3 : (w2.alloc (.cells (madeCells #[.int .i64 0] f) 3)).heap.size = w2.heap.size + 1 := by simp
  have hB := HB0.out.below HL3.out (by omega)
  have q0 := hB.c0
  have q1 := hB.c1
  have q2 := hB.c2
  have q3 := hB.c3
  clear hB
  have HMK2 := Lib.hid hmk2
  clear hmk2
  go_upto_region 2 with fail
  clear hmk1
  generalize w2.alloc (.cells (madeCells #[.int .i64 0] f) 3) = w3 at *
  generalize w2.heap.size = g2 at *
  go_wp2_with fail
  refine (l1First_any _ _ _ _ _ _ _ _ _ _ _ (by omega) (by omega) (by omega)).mono ?_
  rintro e w4 ⟨rfl, hb4⟩
  rw [HF.out.hf]
  have HL4 := Lib.hid (HL3.out.trans (hb4.mono (B' := w.heap.size + 1) (by omega)))
  have HT4 := Lib.hid (HT3.out.keep (hb4.block g2 (by omega)))
  have hs4 : g2 < w4.heap.size := by have := hb4.size; omega
  clear hb4 q0 q1 q2 q3 HL3 HT3 hs3
  have HM5 := Lib.hid (BestAt.made w4 (w.heap.size + 1) f (by omega) (by omega))
  have HL5 : Hid (Below (w.heap.size + 1) w0 (w4.alloc (.cells (madeCells #[.slice none 0 0] f) 23))) := Lib.hid (HL4.out.trans ((Below.refl _ _).alloc (by omega) _))
  have HT5 : Hid (TimesAt (w4.alloc (.cells (madeCells #[.slice none 0 0] f) 23)) (w.heap.size + 1) (List.replicate f 0) g2 f) := Lib.hid (HT4.out.keep (((Below.refl w4.heap.size w4).alloc (Nat.le_refl _) _).block g2 hs4))
  have hmk2 := HMK2.out
  go_upto_region 3 with fail
  clear hmk2
  generalize w4.alloc (.cells (madeCells #[.slice none 0 0] f) 23) = w5 at *
  generalize w4.heap.size = g1 at *
  clear HL4 HT4 HL2
  go_wp2
  go_loopw [6, 7, 8] (fun tv bv kv wr => ∃ (k g1 c1 g2 c2 : Nat) (hs : List Value), k ≤ gl ∧ kv = .int .i64 k ∧ tv = .slice (some ⟨g2, 0, none⟩) (f + k) c2 ∧ bv = .slice (some ⟨g1, 0, none⟩) (f + k) c1 ∧ g1 ≠ g2 ∧ Hid (BestAt wr (w.heap.size + 1) (mapTo f cs k).1 hs g1 c1) ∧ Hid (TimesAt wr (w.heap.size + 1) (mapTo f cs k).2 g2 c2) ∧ Hid (Below (w.heap.size + 1) w0 wr)) (fun _ _ kv _ => gl - (intOf kv).toNat)
  case atStart => exact ⟨0, g1, f, g2, f, _, Nat.zero_le _, rfl, rfl, rfl, by omega, HM5, HT5, HL5⟩
  case round =>
    clear HM5 HT5 HL5 hs4 hs2
    obtain ⟨k, g1, c1, g2, c2, hs, hkl, rfl, rfl, rfl, hne, HM, HT, HL⟩ := hrel
    have hB := HB0.out.below HL.out (by omega)
    have q0 := hB.c0
    have q1 := hB.c1
    have q2 := hB.c2
    have q3 := hB.c3
    clear hB
    by_cases hlt : k < gl
    · have hgb1 := HM.out.gb
      have hgb2 := HT.out.gb
      go_upto_region 6 with fail
      go_wp2_with fail
      refine (l1First_any _ _ _ _ _ _ _ _ _ _ _ (by omega) (by omega) (by omega)).mono ?_
      rintro e wa ⟨rfl, hba⟩
      rw [HF.out.hf]
      have HLa := Lib.hid (HL.out.trans (hba.mono (B' := w.heap.size + 1) (by omega)))
      have HMa := Lib.hid (HM.out.keep (hba.mono (B' := w.heap.size + 1) (by omega)) (hba.block g1 (by omega)))
      have HTa := Lib.hid (HT.out.keep (hba.block g2 (by omega)))
      have hga1 : g1 < wa.heap.size := by have := hba.size; omega
      have hga2 : g2 < wa.heap.size := by have := hba.size; omega
      clear hba q0 q1 q2 q3 HL HM HT
      obtain ⟨b, off, rfl, hbl, B1, d1, hcA, hbA⟩ := HX.out (f + k) (by rw [HN.out]; omega)
      have HA := Lib.hid (ListIn.at3' (B := w.heap.size) hbA (fun _ h => h))
      have HGK := Lib.hid (HK.out k hlt)
      rw [← (HW0.out.trans (HLa.out.mono (by omega))).cell (p := ⟨b, off + (f + k), none⟩) hbl] at hcA
      clear hbA
      have hlen : (mapTo f cs k).2.length = f + k := (mapTo_len f cs k).2
      have HLEN1 := Lib.hid (mapTo_len f cs k).1
      have hle : ∀ v, (mapTo f cs k).2.getD v 0 ≤ 1000 := fun v => Nat.le_trans (arr_le f cs k v) (by omega)
      have HSTEP := Lib.hid (mapTo_step f cs k)
      generalize hL : cs.getD (f + k) [] = L at *
      clear hL
      obtain ⟨n2, HN2, hn2, hn22⟩ : ∃ n2, Hid (L.length = n2) ∧ n2 ≤ 9 ∧ 2 ≤ n2 := ⟨_, Lib.hid rfl, HGK.out.len, HGK.out.two⟩
      rw [HN2.out] at hcA
      have HLEN := Lib.hid hlen
      have HLE := Lib.hid hle
      clear hlen hle
      generalize hmp : mapTo f cs k = mp at *
      clear hmp
      have i1 : (0 : Int) ≤ (f : Int) + (k : Int) := by omega
      have i3 : ((f : Int) + (k : Int)).toNat = f + k := by omega
      have i4 : IntKind.i64.wrap ((f : Int) + (k : Int)) = (f : Int) + (k : Int) := IntWalk.i64_in _ (by omega)
      go_upto_region 9 with fail
      clear i1 i3 i4 hcA
      go_loopw [10, 11] (fun pv jv wx => ∃ (j : Nat), 1 ≤ j ∧ j + 1 ≤ n2 ∧ jv = .int .i64 j ∧ pv = .int .i64 (pick mp.2 L (j - 1) : Nat) ∧ Hid (BestAt wx (w.heap.size + 1) mp.1 hs g1 c1) ∧ Hid (TimesAt wx (w.heap.size + 1) mp.2 g2 c2) ∧ Hid (Below (w.heap.size + 1) w0 wx)) (fun _ jv _ => n2 - (intOf jv).toNat)
      case atStart => exact ⟨1, by omega, by omega, rfl, rfl, HMa, HTa, HLa⟩
      case round =>
        clear HMa HTa HLa hga1 hga2
        obtain ⟨j, hj1, hjn, rfl, rfl, HMx, HTx, HLx⟩ := hrel
        have hg1 := HMx.out.gb
        have hg2 := HTx.out.gb
        have hpl := pick_le mp.2 L (j - 1)
        have HW := Lib.hid (HW0.out.trans (HLx.out.mono (by omega)))
        by_cases hltj : j + 1 < n2
        · obtain ⟨b2, off2, rfl, hbl2, B2, d2, hcX, hiX⟩ := HA.out j (by rw [HN2.out]; omega)
          obtain ⟨b3, off3, he3, hbl3, B3, d3, hcY, hiY⟩ := HA.out (pick mp.2 L (j - 1)) (by rw [HN2.out]; omega)
          injection he3 with he3
          injection he3 with e1 e2
          subst e1 e2
          have HPS : Hid (pick mp.2 L (j + 1 - 1) = if better mp.2 (L.getD j []) (L.getD (pick mp.2 L (j - 1)) []) = true then j else pick mp.2 L (j - 1)) := Lib.hid (by
            obtain ⟨d, rfl⟩ : ∃ d, j = d + 1 := ⟨j - 1, by omega⟩
            rfl)
          have hlx := HGK.out.fit j (by rw [HN2.out]; omega)
          have hly := HGK.out.fit (pick mp.2 L (j - 1)) (by rw [HN2.out]; omega)
          have HLX := Lib.hid (HGK.out.lt j (by rw [HN2.out]; omega))
          have HLY := Lib.hid (HGK.out.lt (pick mp.2 L (j - 1)) (by rw [HN2.out]; omega))
          rw [← HW.out.cell (p := ⟨b2, off2 + j, none⟩) hbl2] at hcX
          rw [← HW.out.cell (p := ⟨b2, off2 + pick mp.2 L (j - 1), none⟩) hbl3] at hcY
          have HIX := Lib.hid (((IntsIn.at (B := w.heap.size) hiX (fun _ h => h)).below HW.out).mono HW.out.size)
          have HIY := Lib.hid (((IntsIn.at (B := w.heap.size) hiY (fun _ h => h)).below HW.out).mono HW.out.size)
          clear hiX hiY
          generalize hp : pick mp.2 L (j - 1) = p at *
          have HP := Lib.hid hp
          clear hp
          generalize L.getD j [] = x at *
          generalize L.getD p [] = y at *
          obtain ⟨nx, hnx, HNX⟩ : ∃ nx, nx ≤ 3 ∧ Hid (x.length = nx) := ⟨_, hlx, Lib.hid rfl⟩
          obtain ⟨ny, hny, HNY⟩ : ∃ ny, ny ≤ 3 ∧ Hid (y.length = ny) := ⟨_, hly, Lib.hid rfl⟩
          rw [HNX.out] at hcX
          rw [HNY.out] at hcY
          clear hlx hly
          obtain ⟨a, HAV⟩ : ∃ a, Hid (late mp.2 x = a) := ⟨_, Lib.hid rfl⟩
          obtain ⟨q, HQV⟩ : ∃ q, Hid (late mp.2 y = q) := ⟨_, Lib.hid rfl⟩
          have tok0 : True := trivial
          go_upto_region 11 with fail
          go_upto_region 13 with (first
            | (revert tok0; intro tok0; go_at_call 96; refine (l5Arrive_any (some ⟨g2, 0, none⟩) B2 (f + k) nx c2 d2 mp.2 x _ HTx.out.ints HIX.out HLEN.out HNX.out (by omega) HLX.out HLE.out).mono ?_; rintro e w' ⟨rfl, hw⟩; obtain rfl := hw.symm; clear hw; rw [HAV.out]; have tokA : True := trivial; clear tok0)
            | (revert tokA; intro tokA; go_at_call 96; refine (l5Arrive_any (some ⟨g2, 0, none⟩) B3 (f + k) ny c2 d3 mp.2 y _ HTx.out.ints HIY.out HLEN.out HNY.out (by omega) HLY.out HLE.out).mono ?_; rintro e w' ⟨rfl, hw⟩; obtain rfl := hw.symm; clear hw; rw [HQV.out]; clear tokA))
          rcases Nat.lt_trichotomy a q with hab | hab | hab
          · have HB2 : Hid (pick mp.2 L (j + 1 - 1) = j) := Lib.hid (by rw [HPS.out, if_pos (better_t1 (by rw [HAV.out, HQV.out]; exact hab))])
            have f1 : decide ((a : Int) < (q : Int)) = true := by simp; omega
            go_quiet (fail)
            go_wp2
            go_roundw
            case rel => exact ⟨j + 1, by omega, by omega, by go_num, by rw [HB2.out], Lib.hid HMx.out, Lib.hid HTx.out, Lib.hid (below_drewN HLx.out _)⟩
            case measure => simp [intOf]; omega
          · subst hab
            have f1 : decide ((a : Int) < (a : Int)) = false := by simp
            have f2 : ((a : Int) == (a : Int)) = true := by simp
            by_cases hxy : nx < ny
            · have HB2 : Hid (pick mp.2 L (j + 1 - 1) = j) := Lib.hid (by rw [HPS.out, if_pos (better_t2 (by rw [HAV.out, HQV.out]) (by rw [HNX.out, HNY.out]; exact hxy))])
              have f3 : decide ((nx : Int) < (ny : Int)) = true := by simp; omega
              go_quiet (fail)
              go_wp2
              go_roundw
              case rel => exact ⟨j + 1, by omega, by omega, by go_num, by rw [HB2.out], Lib.hid HMx.out, Lib.hid HTx.out, Lib.hid (below_drewN HLx.out _)⟩
              case measure => simp [intOf]; omega
            · have HB2 : Hid (pick mp.2 L (j + 1 - 1) = p) := Lib.hid (by rw [HPS.out, if_neg (by rw [better_f2 (by rw [HAV.out, HQV.out]) (by rw [HNX.out, HNY.out]; exact hxy)]; simp)])
              have f3 : decide ((nx : Int) < (ny : Int)) = false := by simp; omega
              go_quiet (fail)
              go_wp2
              go_roundw
              case rel => exact ⟨j + 1, by omega, by omega, by go_num, by rw [HB2.out], Lib.hid HMx.out, Lib.hid HTx.out, Lib.hid (below_drewN HLx.out _)⟩
              case measure => simp [intOf]; omega
          · have HB2 : Hid (pick mp.2 L (j + 1 - 1) = p) := Lib.hid (by rw [HPS.out, if_neg (by rw [better_f1 (by rw [HAV.out, HQV.out]; exact hab)]; simp)])
            have f1 : decide ((a : Int) < (q : Int)) = false := by simp; omega
            have f2 : ((a : Int) == (q : Int)) = false := by simp; omega
            have f4 : (a == q) = false := by simp; omega
            have f5 : ¬ a = q := by omega
            have f6 : ¬ a < q := by omega
            go_quiet (fail)
            go_wp2
            go_roundw
            case rel => exact ⟨j + 1, by omega, by omega, by go_num, by rw [HB2.out], Lib.hid HMx.out, Lib.hid HTx.out, Lib.hid (below_drewN HLx.out _)⟩
            case measure => simp [intOf]; omega
        · have hjn2 : j + 1 = n2 := by omega
          obtain ⟨b3, off3, rfl, hbl3, B3, d3, hcY, hiY⟩ := HA.out (pick mp.2 L (j - 1)) (by rw [HN2.out]; omega)
          have HBO : Hid (bestOf mp.2 L = L.getD (pick mp.2 L (j - 1)) []) := Lib.hid (by
            unfold bestOf
            rw [HN2.out, show n2 - 2 = j - 1 by omega])
          have hly := HGK.out.fit (pick mp.2 L (j - 1)) (by rw [HN2.out]; omega)
          have HLY := Lib.hid (HGK.out.lt (pick mp.2 L (j - 1)) (by rw [HN2.out]; omega))
          rw [← HW.out.cell (p := ⟨b3, off3 + pick mp.2 L (j - 1), none⟩) hbl3] at hcY
          have HIY := Lib.hid (((IntsIn.at (B := w.heap.size) hiY (fun _ h => h)).below HW.out).mono (B' := w.heap.size + 1) (by omega))
          clear hiY
          have HST2 : Hid (mapTo f cs (k + 1) = (mp.1 ++ [L.getD (pick mp.2 L (j - 1)) []], mp.2 ++ [1 + late mp.2 (L.getD (pick mp.2 L (j - 1)) [])])) := Lib.hid (by rw [HSTEP.out, HBO.out])
          clear HSTEP HBO
          have hpn : pick mp.2 L (j - 1) < n2 := by omega
          generalize pick mp.2 L (j - 1) = p at *
          generalize L.getD p [] = y at *
          obtain ⟨ny, hny, HNY⟩ : ∃ ny, ny ≤ 3 ∧ Hid (y.length = ny) := ⟨_, hly, Lib.hid rfl⟩
          rw [HNY.out] at hcY
          clear hly
          have hul : late mp.2 y ≤ 1000 := late_le (fun l _ => HLE.out l)
          have HU0 : ∃ u, Hid (late mp.2 y = u) ∧ u ≤ 1000 := ⟨_, Lib.hid rfl, hul⟩
          clear hul
          obtain ⟨u, HUV, hul⟩ := HU0
          rw [HUV.out] at HST2
          go_upto_region 15 with fail
          go_wp2_with (at_builtin; refine wpList_pushI rfl (.tmp 75) (.tmp 80) rfl _ (w.heap.size + 1) g1 c1 (f + k) mp.1 hs rfl HLEN1.out HMx.out (by omega) B3 ny d3 y rfl HNY.out HIY.out ?_)
          intro g1' c1' w5 h5 hb5 hk5 hg5
          have HM5 := Lib.hid h5
          have HT5 := Lib.hid (HTx.out.keep (hk5 g2 hg2.2 (fun h => hne h.symm)))
          have HL5 := Lib.hid (HLx.out.trans hb5)
          have HIY5 := Lib.hid ((HIY.out.below hb5).mono (B' := w5.heap.size) (by have := h5.gb; omega))
          have hg15 := h5.gb
          have hcY5 := (hb5.cell (p := ⟨b3, off3 + p, none⟩) (by show b3 < _; omega)).trans hcY
          clear h5 hb5 hk5 hcY HIY HMx HTx HLx HW
          go_upto_region 16 with fail
          go_wp2_with (first
            | (go_at_call 96; refine (l5Arrive_any (some ⟨g2, 0, none⟩) B3 (f + k) ny c2 d3 mp.2 y _ HT5.out.ints HIY5.out HLEN.out HNY.out (by omega) HLY.out HLE.out).mono ?_; rintro e w' ⟨rfl, hw⟩; obtain rfl := hw.symm; clear hw; rw [HUV.out])
            | (at_builtin; refine wpList_pushT rfl (.tmp 82) (.tmp 90) rfl _ (w.heap.size + 1) g2 c2 (f + k) mp.2 rfl HLEN.out HT5.out (by omega) (1 + u) _ (by omega) rfl ?_))
          intro g2' c2' w6 h6 hb6 hk6 hg6
          have HM6 := Lib.hid (HM5.out.keep hb6 (hk6 g1' hg15.2 (by omega)))
          have HT6 := Lib.hid h6
          have HL6 := Lib.hid (HL5.out.trans hb6)
          have hne' : g1' ≠ g2' := by omega
          clear h6 hb6 hk6 HM5 HT5 HL5
          go_wp2
          go_roundw
          case rel => exact ⟨k + 1, g1', c1', g2', c2', _, by omega, by go_num, rfl, rfl, hne', by rw [HST2.out]; exact HM6, by rw [HST2.out]; exact HT6, HL6⟩
          case measure => simp [intOf]; omega
    · obtain rfl : k = gl := by omega
      have HWr := Lib.hid (HW0.out.trans (HL.out.mono (by omega)))
      go_wp2
      go_ret2
      exact ⟨g1, c1, g2, c2, hs, rfl, hne, HM.out, HT.out, HWr.out⟩
end Go.Proofs.Ythcpgbfghededaa
