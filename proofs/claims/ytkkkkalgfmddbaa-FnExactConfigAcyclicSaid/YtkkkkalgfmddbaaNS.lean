/- The sinks of a net: plain mathematics, and the contracts of both sides. -/
import Derived.Test.YtkkkkalgfmddbaaSC
import Derived.Test.YtkkkkalgfmddbaaCT
namespace Cut
open Opt
/-- Leaves of cuts are not constant false. -/
theorem cutsTo_pos {f : Nat} {gs : List G} (hf : 0 < f) (hg : ordered f gs) : ∀ k, k ≤ gs.length → ∀ v, v < f + k → ∀ x, x ∈ (cutsTo f gs k).getD v [] → ∀ l, l ∈ x → 0 < l
  | 0, _, v, hv => by
    have e : (cutsTo f gs 0).getD v [] = [own v] := by
      simp [cutsTo, List.getD_eq_getElem?_getD]
      rw [List.getElem?_eq_getElem (by simpa using hv)]
      simp
    rw [e]
    intro x hx l hm
    simp at hx
    subst hx
    unfold Cut.own at hm
    split at hm
    · cases hm
    · simp at hm; omega
  | k + 1, hk, v, hv => by
    have ih := cutsTo_pos hf hg k (by omega)
    obtain ⟨h1, h2⟩ := hg k hk
    by_cases e : v < f + k
    · have := cutsTo_pre f gs k 1 v e
      rw [this]
      exact ih v e
    · obtain rfl : v = f + k := by omega
      have e1 : (cutsTo f gs (k + 1)).getD (f + k) [] = uni ((cutsTo f gs k).getD ((at_ gs k).1 / 2) []) ((cutsTo f gs k).getD ((at_ gs k).2 / 2) []) ++ [[f + k]] := by
        show (cutsTo f gs k ++ [_]).getD (f + k) [] = _
        exact Circ.getD_app_at _ _ _ _ (by rw [cutsTo_len])
      rw [e1]
      intro x hx l hm
      rcases List.mem_append.1 hx with h | h
      · refine uni_all (P := fun x => ∀ l, l ∈ x → 0 < l) (fun a ha b hb _ l hl => ?_) x h l hm
        rcases (merge_mem _ _ _).1 hl with h | h
        · exact ih _ h1 a ha l h
        · exact ih _ h2 b hb l h
      · simp at h
        subst h
        simp at hm
        omega
theorem best_pos {f : Nat} {gs : List G} (hf : 0 < f) (hg : ordered f gs) {k : Nat} (hk : k < gs.length) : ∀ l, l ∈ (bests f gs).getD (f + k) [] → 0 < l := fun l hl => by
  have h := bests_mem hf hg hk
  have e : (cuts f gs).getD (f + k) [] = unis f gs k ++ [[f + k]] := cuts_gate f gs k hk hg
  exact cutsTo_pos hf hg gs.length (Nat.le_refl _) (f + k) (by omega) _ (by show _ ∈ (cuts f gs).getD (f + k) []; rw [e]; exact List.mem_append_left _ h) l hl
end Cut
namespace Cut
open Opt
theorem luts_up {f : Nat} {gs : List G} {bs : Cs} {m : Nat} : ∀ k, ((lutsTo f gs bs m k).map (·.1)).Pairwise (· < ·)
  | 0 => List.Pairwise.nil
  | k + 1 => by
    have ih := luts_up (f := f) (gs := gs) (bs := bs) (m := m) k
    unfold lutsTo
    split
    · rw [List.map_append, List.pairwise_append]
      refine ⟨ih, List.pairwise_singleton _ _, fun a ha b hb => ?_⟩
      simp at hb
      subst hb
      obtain ⟨e, he, rfl⟩ := List.mem_map.1 ha
      obtain ⟨j, h1, _, rfl⟩ := luts_form k e he
      show f + j < f + k
      omega
    · exact ih
theorem luts_ge {f : Nat} {gs : List G} {bs : Cs} {m : Nat} (k : Nat) : ∀ e, e ∈ lutsTo f gs bs m k → f ≤ e.1 := fun e he => by
  obtain ⟨j, _, _, rfl⟩ := luts_form k e he
  exact Nat.le_add_right f j
end Cut
namespace Go.Proofs.Ytkkkkalgfmddbaa
open Go.RowKit Go.Deep Cut

/-- The cells of a valid circuit, one by one. -/
theorem cellsV_at {i : Int} {ns : List Int} {gs : List (Int × Int)} {os : List Int} (hv : Circ.validB i ns gs os = true) : (cellsV i ns gs os).length = ns.length + (mapV i ns gs os).length ∧ (∀ k, k < ns.length → (cellsV i ns gs os).getD k (0, [], 0, false) = (1 + i.toNat + k, nextY ((Opt.natL ns).getD k 0), nextT ((Opt.natL ns).getD k 0), true)) ∧ ∀ j, j < (mapV i ns gs os).length → (cellsV i ns gs os).getD (ns.length + j) (0, [], 0, false) = (((mapV i ns gs os).getD j (0, [], 0)).1, ((mapV i ns gs os).getD j (0, [], 0)).2.1, ((mapV i ns gs os).getD j (0, [], 0)).2.2, false) := by
  have hme : mapV i ns gs os = lutsV (Opt.fst i ns) (Opt.natG gs) (Opt.natL ns) (Opt.natL os) := by unfold mapV; rw [if_pos hv]
  have e : cellsV i ns gs os = regsTo (1 + i.toNat) (Opt.natL ns) ns.length ++ lutsC (mapV i ns gs os) := by unfold cellsV; rw [if_pos hv, hme]
  refine ⟨by rw [e, List.length_append, regsTo_len, lutsC_len], fun k hk => ?_, fun j hj => ?_⟩
  · rw [e, Circ.getD_app_lt _ _ _ _ (by rw [regsTo_len]; exact hk), regsTo_at _ _ _ _ hk]
  · rw [← lutsC_at _ j hj, e]
    simp only [List.getD_eq_getElem?_getD]
    rw [List.getElem?_append_right (by rw [regsTo_len]; omega), regsTo_len, Nat.add_sub_cancel_left]
theorem cellsV_f {i : Int} {ns : List Int} {gs : List (Int × Int)} {os : List Int} (hv : Circ.validB i ns gs os = false) : cellsV i ns gs os = [] := by unfold cellsV; rw [hv, if_neg (by simp)]
/-- The inputs of the cells. -/
theorem cellsV_in {i : Int} {ns : List Int} {gs : List (Int × Int)} {os : List Int} (hv : Circ.validB i ns gs os = true) : ∀ k, k < (cellsV i ns gs os).length → Once ((cellsV i ns gs os).getD k (0, [], 0, false)).2.1 ∧ ∀ l, l ∈ ((cellsV i ns gs os).getD k (0, [], 0, false)).2.1 → 0 < l ∧ l < Opt.fst i ns + gs.length := fun k hk => by
  obtain ⟨e1, e2, e3⟩ := cellsV_at hv
  obtain ⟨k0, k1⟩ := Opt.natC_ok hv
  by_cases hkr : k < ns.length
  · rw [e2 k hkr]
    have hb := Circ.litsOk_get (Circ.valid_next hv) hkr
    obtain ⟨h0, h1, h2, h3, h4⟩ := Circ.valid_within hv
    have en := natL_get ns k hkr (by omega)
    have hff : (Opt.fst i ns : Int) = 1 + i + ns.length := by unfold Opt.fst; omega
    generalize (Opt.natL ns).getD k 0 = l at *
    show Once (nextY l) ∧ ∀ m, m ∈ nextY l → 0 < m ∧ m < Opt.fst i ns + gs.length
    unfold nextY
    split
    · exact ⟨fun j k hj => by simp at hj, fun m hm => by cases hm⟩
    · refine ⟨fun j k hj hk _ => by simp at hj hk; omega, fun m hm => ?_⟩
      simp at hm
      subst hm
      omega
  · obtain ⟨j, rfl⟩ : ∃ j, k = ns.length + j := ⟨k - ns.length, by omega⟩
    have hj : j < (mapV i ns gs os).length := by omega
    rw [e3 j hj]
    have hme : mapV i ns gs os = lutsV (Opt.fst i ns) (Opt.natG gs) (Opt.natL ns) (Opt.natL os) := by unfold mapV; rw [if_pos hv]
    rw [hme] at hj ⊢
    obtain ⟨t, h1, _, h3⟩ := luts_form (Opt.natG gs).length _ (memD0 (d := (0, [], 0)) hj)
    have h4 : (lutsV (Opt.fst i ns) (Opt.natG gs) (Opt.natL ns) (Opt.natL os)).getD j (0, [], 0) = lutOf (Opt.fst i ns) (Opt.natG gs) (bests (Opt.fst i ns) (Opt.natG gs)) (Opt.fst i ns + t) := h3
    rw [h4]
    show Once ((bests _ _).getD (Opt.fst i ns + t) []) ∧ ∀ l, l ∈ (bests _ _).getD (Opt.fst i ns + t) [] → _
    refine ⟨best_once k0 k1.ord _, fun l hl => ⟨best_pos k0 k1.ord h1 l hl, ?_⟩⟩
    have := best_lt k0 k1.ord _ l hl
    rw [Opt.natG_len] at h1
    omega
/-- How great the cells are. -/
theorem cellsV_lim {i : Int} {ns : List Int} {gs : List (Int × Int)} {os : List Int} (hv : Circ.validB i ns gs os = true) : (cellsV i ns gs os).length ≤ 17 ∧ ∀ k, k < (cellsV i ns gs os).length → ((cellsV i ns gs os).getD k (0, [], 0, false)).2.1.length ≤ 1000 := by
  obtain ⟨e1, e2, e3⟩ := cellsV_at hv
  obtain ⟨h0, h1, h2, h3, h4⟩ := Circ.valid_within hv
  obtain ⟨b1, b2⟩ := mapV_bd i ns gs os
  refine ⟨by omega, fun k hk => ?_⟩
  by_cases hkr : k < ns.length
  · rw [e2 k hkr]
    have := nextY_len ((Opt.natL ns).getD k 0)
    show (nextY _).length ≤ 1000
    omega
  · obtain ⟨j, rfl⟩ : ∃ j, k = ns.length + j := ⟨k - ns.length, by omega⟩
    have hj : j < (mapV i ns gs os).length := by omega
    rw [e3 j hj]
    have := b2 j hj
    show ((mapV i ns gs os).getD j (0, [], 0)).2.1.length ≤ 1000
    omega
/-- Whether a cell uses a net, and the first k cells' sinks. -/
def usesB (net : Int) (e : Cl) : Bool := (Opt.intL e.2.1).contains net
def sinksTo (net : Int) (ce : List Cl) : Nat → List Nat
  | 0 => []
  | k + 1 => if usesB net (ce.getD k (0, [], 0, false)) = true then sinksTo net ce k ++ [k] else sinksTo net ce k
theorem sinks_len (net : Int) (ce : List Cl) : ∀ k, (sinksTo net ce k).length ≤ k
  | 0 => Nat.le_refl _
  | k + 1 => by
    have := sinks_len net ce k
    unfold sinksTo
    split
    · simp; omega
    · omega
theorem sinks_mem (net : Int) (ce : List Cl) : ∀ k j, j ∈ sinksTo net ce k ↔ j < k ∧ usesB net (ce.getD j (0, [], 0, false)) = true
  | 0, j => by simp [sinksTo]
  | k + 1, j => by
    have ih := sinks_mem net ce k j
    unfold sinksTo
    split
    · next h =>
      rw [List.mem_append, ih, List.mem_singleton]
      constructor
      · rintro (⟨a, b⟩ | rfl)
        · exact ⟨by omega, b⟩
        · exact ⟨by omega, h⟩
      · rintro ⟨a, b⟩
        by_cases e : j = k
        · exact .inr e
        · exact .inl ⟨by omega, b⟩
    · next h =>
      rw [ih]
      constructor
      · rintro ⟨a, b⟩; exact ⟨by omega, b⟩
      · rintro ⟨a, b⟩
        by_cases e : j = k
        · subst e; exact absurd b h
        · exact ⟨by omega, b⟩
theorem sinks_up (net : Int) (ce : List Cl) : ∀ k, (sinksTo net ce k).Pairwise (· < ·)
  | 0 => List.Pairwise.nil
  | k + 1 => by
    have ih := sinks_up net ce k
    unfold sinksTo
    split
    · rw [List.pairwise_append]
      refine ⟨ih, List.pairwise_singleton _ _, fun a ha b hb => ?_⟩
      simp at hb
      subst hb
      exact ((sinks_mem net ce b a).1 ha).1
    · exact ih
/-- The sinks of any circuit. -/
def sinksV (net : Int) (i : Int) (ns : List Int) (gs : List (Int × Int)) (os : List Int) : List Nat := sinksTo net (cellsV i ns gs os) (cellsV i ns gs os).length

theorem ret_slice {A : Option Addr} {l l' c : Nat} (h : l = l') : Ending.returned (.slice A l c) = .returned (.slice A l' c) := by rw [h]

theorem containsZ (A : Option Addr) (m c B : Nat) (lv : List Nat) (net : Int) (w : World) (h : IntsAt w B A (Opt.intL lv)) (hm : lv.length = m) (hb : m ≤ 1000) :
    Calls Try.prog 149 #[.slice A m c, .int .i64 net] w fun e w' => e = .returned (.bool ((Opt.intL lv).contains net)) ∧ w = w' := by
  subst hm
  cases lv with
  | nil => exact (contains_none A c net w).mono (fun e w' ⟨h1, h2⟩ => ⟨h1, h2.symm⟩)
  | cons a r =>
    obtain ⟨b, off, rfl, _, _⟩ := h 0 (by rw [Opt.intL_len]; simp)
    have e : (((Opt.intL (a :: r)).take (a :: r).length).contains net) = (Opt.intL (a :: r)).contains net := by
      rw [List.take_of_length_le (by rw [Opt.intL_len]; exact Nat.le_refl _)]
    rw [← e]
    exact (contains_any b off _ c (Opt.intL (a :: r)) net w (by rw [Opt.intL_len]; exact Nat.le_refl _) (by omega) (fun j hj => by
      obtain ⟨b', off', e', _, hc⟩ := h j hj
      injection e' with e'
      injection e' with e1 e2
      subst e1 e2
      exact hc)).mono (fun e w' ⟨h1, h2⟩ => ⟨h1, h2.symm⟩)

/-- The model's inner loop: what has been found in one cell. -/
def found (net : Int) (k : Nat) (y : List Nat) (j : Nat) : List Nat := if (Opt.intL (y.take j)).contains net = true then [k] else []
theorem found_none {net : Int} {k : Nat} {y : List Nat} {j : Nat} (hj : j < y.length) (h : ((y.getD j 0 : Nat) : Int) ≠ net) : found net k y (j + 1) = found net k y j := by
  unfold found
  have e : (Opt.intL (y.take (j + 1))).contains net = (Opt.intL (y.take j)).contains net := by
    rw [List.take_succ_eq_append_getElem hj]
    unfold Opt.intL
    rw [List.map_append, Bool.eq_iff_iff, List.contains_iff_mem, List.contains_iff_mem, List.mem_append]
    have hn : net ≠ ((y[j] : Nat) : Int) := fun e => h (by rw [e]; simp [List.getD_eq_getElem?_getD, hj])
    simp [hn]
  rw [e]
theorem found_one {net : Int} {k : Nat} {y : List Nat} {j : Nat} (ho : Once y) (hj : j < y.length) (h : ((y.getD j 0 : Nat) : Int) = net) : found net k y j = [] ∧ found net k y (j + 1) = [k] := by
  refine ⟨?_, ?_⟩
  · unfold found
    rw [if_neg]
    intro hc
    rw [List.contains_iff_mem] at hc
    unfold Opt.intL at hc
    obtain ⟨z, hz, e⟩ := List.mem_map.1 hc
    obtain ⟨p, hp⟩ := List.mem_iff_getElem?.1 hz
    have hpl := (List.getElem?_eq_some_iff.1 hp).1
    rw [List.length_take] at hpl
    rw [List.getElem?_take, if_pos (by omega)] at hp
    have e2 : y.getD p 0 = y.getD j 0 := by
      rw [List.getD_eq_getElem?_getD, hp]
      show z = _
      omega
    have := ho p j (by omega) hj e2
    omega
  · unfold found
    rw [if_pos]
    rw [List.contains_iff_mem, List.take_succ_eq_append_getElem hj]
    unfold Opt.intL
    rw [List.map_append, List.mem_append]
    refine .inr ?_
    rw [← h]
    simp [List.getD_eq_getElem?_getD, hj]

set_option maxRecDepth 10000 in
set_option maxHeartbeats 1000000 in
theorem ssinks_any (A : Option Addr) (n cc : Nat) (ce : List Cl) (net : Int) (w : World) (hU : CeIn w w.heap.size A ce) (hn : ce.length = n) (hn17 : n ≤ 17) (hbl : ∀ k, k < n → (ce.getD k (0, [], 0, false)).2.1.length ≤ 1000) (hon : ∀ k, k < n → Once (ce.getD k (0, [], 0, false)).2.1) :
    Calls Try.prog 170 #[.slice A n cc, .int .i64 net] w fun e w' => ∃ (g cap : Nat), e = .returned (.slice (some ⟨g, 0, none⟩) (sinksTo net ce n).length cap) ∧ TimesAt w' w.heap.size (sinksTo net ce n) g cap ∧ Below w.heap.size w w' := by
  have HU := Lib.hid hU
  have HN := Lib.hid hn
  have HBL := Lib.hid hbl
  have HON := Lib.hid hon
  clear hU hn hbl hon
  go_enter Try.func170, Try.ntmps170
  have hba : Below w.heap.size w (w.alloc (.cells #[] 3)) := (Below.refl _ _).alloc (Nat.le_refl _) _
  have HT0 : Hid (TimesAt (w.alloc (.cells #[] 3)) w.heap.size (sinksTo net ce 0) w.heap.size 0) := Lib.hid (World.ownsRow_lit (base := w.heap.size) (e := 3) (size := 1) w #[] 0 (Nat.le_refl _) (by simp [maxLen]) (by simp))
  have HX0 := Lib.hid hba
  have H00 : Hid ((sinksTo net ce 0).length = 0) := Lib.hid rfl
  clear hba
  go_upto_region 3 with fail
  generalize w.alloc (.cells #[] 3) = w1 at *
  generalize hN0 : w.heap.size = N at *
  have HN0 := Lib.hid hN0
  clear hN0
  go_loopw [5, 6] (fun pv iv wr => ∃ (k l g cap : Nat), k ≤ n ∧ iv = .int .i64 k ∧ Hid ((sinksTo net ce k).length = l) ∧ l ≤ k ∧ pv = .slice (some ⟨g, 0, none⟩) l cap ∧ Hid (TimesAt wr N (sinksTo net ce k) g cap) ∧ Hid (Below N w wr)) (fun _ iv _ => n - (intOf iv).toNat)
  case atStart => exact ⟨0, 0, _, _, Nat.zero_le _, rfl, H00, Nat.le_refl _, rfl, HT0, HX0⟩
  case round =>
    clear HT0 HX0 H00
    obtain ⟨k, l, g, cap, hk, rfl, HSL, hlk, rfl, HT, HX⟩ := hrel
    by_cases hlt : k < n
    · obtain ⟨b, off, rfl, hbl, A', c', l0, l1, ⟨l2, l3⟩, hlf⟩ := HU.out k (by rw [HN.out]; exact hlt)
      have hyb := HBL.out k hlt
      have HOY := Lib.hid (HON.out k hlt)
      have HST : Hid (sinksTo net ce (k + 1) = sinksTo net ce k ++ found net k (ce.getD k (0, [], 0, false)).2.1 (ce.getD k (0, [], 0, false)).2.1.length) := Lib.hid (by
        unfold found
        rw [List.take_length]
        show (if (Opt.intL (ce.getD k (0, [], 0, false)).2.1).contains net = true then sinksTo net ce k ++ [k] else sinksTo net ce k) = _
        split
        · rfl
        · rw [List.append_nil])
      have HLF := Lib.hid hlf
      generalize (ce.getD k (0, [], 0, false)).2.1 = y at *
      obtain ⟨yl, hyl⟩ : ∃ yl, y.length = yl := ⟨_, rfl⟩
      rw [hyl] at l1 hyb HST
      have HYL := Lib.hid hyl
      have L1 := Lib.hid l1
      have hk0 : (0 : Int) ≤ (k : Int) := Int.natCast_nonneg _
      have hk1 : (k : Int) < (n : Int) := by omega
      have HTz : Hid (TimesAt wr N (sinksTo net ce k ++ found net k y 0) g cap) := Lib.hid (by
        have e : found net k y 0 = [] := by unfold found; simp [Opt.intL]
        rw [e, List.append_nil]; exact HT.out)
      have HLz : Hid ((sinksTo net ce k ++ found net k y 0).length = l) := Lib.hid (by
        have e : found net k y 0 = [] := by unfold found; simp [Opt.intL]
        rw [e, List.append_nil]; exact HSL.out)
      clear hyl hlf l0 l1 l2 l3
      go_upto_region 6 with fail
      go_loopw [5, 7] (fun pv jv wr => ∃ (j l g cap : Nat), j ≤ yl ∧ jv = .int .i64 j ∧ Hid ((sinksTo net ce k ++ found net k y j).length = l) ∧ l ≤ 18 ∧ pv = .slice (some ⟨g, 0, none⟩) l cap ∧ Hid (TimesAt wr N (sinksTo net ce k ++ found net k y j) g cap) ∧ Hid (Below N w wr)) (fun _ jv _ => yl - (intOf jv).toNat)
      case atStart => exact ⟨0, l, g, cap, Nat.zero_le _, rfl, HLz, by omega, rfl, HTz, HX⟩
      case round =>
        clear HTz HLz HX HT
        obtain ⟨j, l2, g, cap, hj, rfl, HL2, hl2, rfl, HT, HX⟩ := hrel
        have g1 := (HX.out.cell (p := ⟨b, off + k * 4 + 1, none⟩) hbl).trans L1.out
        by_cases hltj : j < yl
        · obtain ⟨b2, off2, rfl, hbl2, hc2⟩ := HLF.out j (by rw [Opt.intL_len, HYL.out]; exact hltj)
          rw [Opt.intL_at] at hc2
          have g2 := (HX.out.cell (p := ⟨b2, off2 + j, none⟩) hbl2).trans hc2
          by_cases he : ((y.getD j 0 : Nat) : Int) = net
          · obtain ⟨f1, f2⟩ := found_one (k := k) HOY.out (by rw [HYL.out]; exact hltj) he
            have HF2 := Lib.hid f2
            have hbe : (((y.getD j 0 : Nat) : Int) == net) = true := by simpa using he
            rw [f1, List.append_nil] at HT HL2
            clear he f1 f2 hc2
            generalize y.getD j 0 = u at *
            go_upto_region 9 with fail
            have hlk2 : l2 ≤ 17 := by have h1 := HL2.out; have h2 := sinks_len net ce k; omega
            go_wp2_with (at_builtin; refine wpList_pushT rfl (.tmp 35) (.tmp 37) rfl _ N g cap l2 (sinksTo net ce k) rfl HL2.out HT.out (by omega) k _ rfl rfl ?_)
            intro g' cap' w7 hT7 hb7 _ _
            have HT7 := Lib.hid hT7
            have HB7 := Lib.hid (HX.out.trans hb7)
            have HL7 : Hid ((sinksTo net ce k ++ found net k y (j + 1)).length = l2 + 1) := Lib.hid (by rw [HF2.out, List.length_append, HL2.out]; rfl)
            clear hT7 hb7 g1 g2 hbe
            go_wp2
            go_roundw
            case rel => exact ⟨j + 1, l2 + 1, g', cap', by omega, by go_num, HL7, by omega, rfl, by rw [HF2.out]; exact HT7, HB7⟩
            case measure => simp [intOf]; omega
          · have f1 := found_none (k := k) (by rw [HYL.out]; exact hltj) he
            have HF1 := Lib.hid f1
            have hbe : (((y.getD j 0 : Nat) : Int) == net) = false := by simpa using he
            clear he f1 hc2
            generalize y.getD j 0 = u at *
            go_wp2
            go_roundw
            case rel => exact ⟨j + 1, l2, g, cap, by omega, by go_num, by rw [HF1.out]; exact HL2, hl2, rfl, by rw [HF1.out]; exact HT, HX⟩
            case measure => simp [intOf]; omega
        · obtain rfl : j = yl := by omega
          have HT9 : Hid (TimesAt wr N (sinksTo net ce (k + 1)) g cap) := Lib.hid (by rw [HST.out]; exact HT.out)
          have HL9 : Hid ((sinksTo net ce (k + 1)).length = l2) := Lib.hid (by rw [HST.out]; exact HL2.out)
          have hl9 : l2 ≤ k + 1 := by have h1 := HL9.out; have h2 := sinks_len net ce (k + 1); omega
          clear HT HL2
          go_wp2
          go_roundw
          case rel => exact ⟨k + 1, l2, g, cap, by omega, by go_num, HL9, hl9, rfl, HT9, HX⟩
          case measure => simp [intOf]; omega
    · obtain rfl : k = n := by omega
      go_wp2
      go_ret
      have hT := HT.out
      have hX := HX.out
      rw [← HN0.out] at hT hX
      exact ⟨g, cap, ret_slice HSL.out.symm, hT, hX⟩

/-- The nets of the cells ascend. -/
theorem cells_up {i : Int} {ns : List Int} {gs : List (Int × Int)} {os : List Int} (hv : Circ.validB i ns gs os = true) : ∀ j k, j < k → k < (cellsV i ns gs os).length → ((cellsV i ns gs os).getD j (0, [], 0, false)).1 < ((cellsV i ns gs os).getD k (0, [], 0, false)).1 := fun j k hjk hk => by
  obtain ⟨e1, e2, e3⟩ := cellsV_at hv
  obtain ⟨h0, h1, h2, h3, h4⟩ := Circ.valid_within hv
  have hme : mapV i ns gs os = lutsV (Opt.fst i ns) (Opt.natG gs) (Opt.natL ns) (Opt.natL os) := by unfold mapV; rw [if_pos hv]
  have hge : ∀ j, j < (mapV i ns gs os).length → Opt.fst i ns ≤ ((mapV i ns gs os).getD j (0, [], 0)).1 := fun j hj => by
    have hm := memD0 (d := (0, [], 0)) hj
    rw [hme] at hm ⊢
    exact luts_ge _ _ hm
  have hff : Opt.fst i ns = 1 + i.toNat + ns.length := by unfold Opt.fst; omega
  by_cases hkr : k < ns.length
  · rw [e2 k hkr, e2 j (by omega)]
    show 1 + i.toNat + j < 1 + i.toNat + k
    omega
  · obtain ⟨q, rfl⟩ : ∃ q, k = ns.length + q := ⟨k - ns.length, by omega⟩
    have hq : q < (mapV i ns gs os).length := by omega
    have h5 := hge q hq
    by_cases hjr : j < ns.length
    · rw [e3 q hq, e2 j hjr]
      show 1 + i.toNat + j < ((mapV i ns gs os).getD q (0, [], 0)).1
      omega
    · obtain ⟨p, rfl⟩ : ∃ p, j = ns.length + p := ⟨j - ns.length, by omega⟩
      have hp : p < (mapV i ns gs os).length := by omega
      rw [e3 q hq, e3 p hp]
      show ((mapV i ns gs os).getD p (0, [], 0)).1 < ((mapV i ns gs os).getD q (0, [], 0)).1
      have h6 : ((mapV i ns gs os).map (·.1)).Pairwise (· < ·) := by rw [hme]; exact luts_up _
      have h7 := List.pairwise_iff_getElem.1 h6 p q (by simpa using hp) (by simpa using hq) (by omega)
      simpa [List.getD_eq_getElem?_getD, hp, hq] using h7
theorem cellsV_bd3 (i : Int) (ns : List Int) (gs : List (Int × Int)) (os : List Int) : (cellsV i ns gs os).length ≤ 17 ∧ ∀ k, k < (cellsV i ns gs os).length → ((cellsV i ns gs os).getD k (0, [], 0, false)).1 ≤ 1000 ∧ ((cellsV i ns gs os).getD k (0, [], 0, false)).2.1.length ≤ 3 ∧ ((cellsV i ns gs os).getD k (0, [], 0, false)).2.2.1 ≤ 1000 := by
  cases hv : Circ.validB i ns gs os
  · have e : cellsV i ns gs os = [] := by unfold cellsV; rw [hv, if_neg (by simp)]
    rw [e]; exact ⟨by simp, fun k hk => absurd hk (by simp)⟩
  · obtain ⟨h0, h1, h2, h3, h4⟩ := Circ.valid_within hv
    have hme : mapV i ns gs os = lutsV (Opt.fst i ns) (Opt.natG gs) (Opt.natL ns) (Opt.natL os) := by unfold mapV; rw [if_pos hv]
    obtain ⟨b1, b2⟩ := mapV_bd i ns gs os
    have e : cellsV i ns gs os = regsTo (1 + i.toNat) (Opt.natL ns) ns.length ++ lutsC (mapV i ns gs os) := by unfold cellsV; rw [if_pos hv, hme]
    generalize mapV i ns gs os = es at *
    have hl : (cellsV i ns gs os).length = ns.length + es.length := by rw [e, List.length_append, regsTo_len, lutsC_len]
    refine ⟨by omega, fun k hk => ?_⟩
    by_cases hkr : k < ns.length
    · rw [e, Circ.getD_app_lt _ _ _ _ (by rw [regsTo_len]; exact hkr), regsTo_at _ _ _ _ hkr]
      have y1 := nextY_len ((Opt.natL ns).getD k 0)
      have y2 := nextT_le ((Opt.natL ns).getD k 0)
      exact ⟨by show 1 + i.toNat + k ≤ 1000; omega, by show (nextY _).length ≤ 3; omega, by show nextT _ ≤ 1000; omega⟩
    · obtain ⟨j, rfl⟩ : ∃ j, k = ns.length + j := ⟨k - ns.length, by omega⟩
      have hj : j < es.length := by omega
      have eg : (cellsV i ns gs os).getD (ns.length + j) (0, [], 0, false) = ((es.getD j (0, [], 0)).1, (es.getD j (0, [], 0)).2.1, (es.getD j (0, [], 0)).2.2, false) := by
        rw [← lutsC_at es j hj, e]
        simp only [List.getD_eq_getElem?_getD]
        rw [List.getElem?_append_right (by rw [regsTo_len]; omega), regsTo_len, Nat.add_sub_cancel_left]
      rw [eg]
      have := b2 j hj
      exact ⟨by show (es.getD j (0, [], 0)).1 ≤ 1000; omega, by show (es.getD j (0, [], 0)).2.1.length ≤ 3; omega, by show (es.getD j (0, [], 0)).2.2 ≤ 1000; omega⟩
end Go.Proofs.Ytkkkkalgfmddbaa
