/- The contract of the library's insertion of one list among sorted lists. -/
import Derived.Test.YthcpgbfghededaaC9
import Derived.Shelf.Spec.SlicesInsert
import Derived.Lib.AppendZerosOnto
namespace Go.Proofs.Ythcpgbfghededaa
open Go.RowKit Go.Deep Cut

def setL (cs : Array Value) (o : Nat) : List Value → Array Value
  | [] => cs
  | v :: r => setL (cs.setIfInBounds o v) (o + 1) r
theorem setL_size : ∀ (vs : List Value) (cs : Array Value) (o : Nat), (setL cs o vs).size = cs.size
  | [], _, _ => rfl
  | v :: r, cs, o => by rw [setL, setL_size r]; simp
theorem setL_get : ∀ (vs : List Value) (cs : Array Value) (o j : Nat), j < cs.size → (setL cs o vs)[j]? = if o ≤ j ∧ j < o + vs.length then vs[j - o]? else cs[j]?
  | [], cs, o, j, hj => by
    rw [setL, if_neg (by simp)]
  | v :: r, cs, o, j, hj => by
    rw [setL, setL_get r _ _ _ (by simpa using hj)]
    by_cases h1 : j = o
    · subst h1
      rw [if_neg (by omega), if_pos (by simp)]
      simp [hj]
    · by_cases h2 : o + 1 ≤ j ∧ j < o + 1 + r.length
      · rw [if_pos h2, if_pos (by simp; omega), show j - o = (j - (o + 1)) + 1 by omega]
        rfl
      · rw [if_neg h2, if_neg (by simp; omega), Array.getElem?_setIfInBounds_ne (by omega)]
theorem Row.setCells {b : Nat} {t : TypeId} : ∀ (vs : List Value) {w : World} {cs : Array Value} (o : Nat), Row w b t cs → Row (w.setCells b o vs) b t (setL cs o vs)
  | [], _, _, _, h => h
  | v :: r, w, cs, o, h => by
    rw [World.setCells, setL]
    exact Row.setCells r (o + 1) (h.set o v)
theorem below_setCells {B b : Nat} {w0 : World} (hb : B ≤ b) : ∀ (vs : List Value) {w : World} (o : Nat), Below B w0 w → Below B w0 (w.setCells b o vs)
  | [], _, _, h => h
  | v :: r, w, o, h => by
    rw [World.setCells]
    exact below_setCells hb r (o + 1) (h.setCell (p := ⟨b, o, none⟩) hb v)
theorem heap_setCells {b k : Nat} (hk : k ≠ b) : ∀ (vs : List Value) (w : World) (o : Nat), (w.setCells b o vs).heap[k]? = w.heap[k]?
  | [], _, _ => rfl
  | v :: r, w, o => by
    rw [World.setCells, heap_setCells hk r]
    exact Below.heap_setCell w ⟨b, o, none⟩ v k (by exact hk)
theorem size_setCells' (b : Nat) : ∀ (vs : List Value) (w : World) (o : Nat), (w.setCells b o vs).heap.size = w.heap.size
  | [], _, _ => rfl
  | v :: r, w, o => by
    rw [World.setCells, size_setCells' b r]
    simp [World.setCell]
/-- The cells with one more among them. -/
def insV (hs : List Value) (i : Nat) (v : Value) : List Value := hs.take i ++ [v] ++ hs.drop i
theorem insV_len {hs : List Value} {i : Nat} (v : Value) (hi : i ≤ hs.length) : (insV hs i v).length = hs.length + 1 := by unfold insV; simp; omega
theorem insV_get {hs : List Value} {i j : Nat} (v : Value) (hi : i ≤ hs.length) : (insV hs i v)[j]? = if j < i then hs[j]? else if j = i then some v else hs[j - 1]? := by
  unfold insV
  simp only [List.append_assoc]
  split
  · next h => rw [List.getElem?_append_left (by simp; omega), List.getElem?_take, if_pos h]
  · next h =>
    rw [List.getElem?_append_right (by simp; omega)]
    have e : (hs.take i).length = i := by simp; omega
    rw [e]
    split
    · next h2 => subst h2; simp
    · next h2 =>
      obtain ⟨q, hq⟩ : ∃ q, j - i = q + 1 := ⟨j - i - 1, by omega⟩
      rw [hq]
      simp
      congr 1
      omega
theorem own_of_row {W : World} {B b cap n : Nat} {t : TypeId} {cs : Array Value} {xs : List Value} (h : Row W b t cs) (hB : B ≤ b) (hs : cs.size = cap) (hn : n ≤ cap) (hm : cap ≤ maxLen) (hx : xs.length = n) (hc : ∀ j, j < n → cs[j]? = xs[j]?) : W.ownsRow B t 1 (.slice (some ⟨b, 0, none⟩) n cap) n xs := by
  refine ⟨by omega, .inr ⟨b, cap, cs, rfl, hB, h, hn, hm, by omega, ?_⟩⟩
  apply List.ext_getElem?
  intro j
  rw [List.getElem?_take, Array.getElem?_toList]
  by_cases hj : j < n
  · rw [if_pos (by omega), hc j hj]
  · rw [if_neg (by omega), List.getElem?_eq_none (by omega)]
/-- Headers with one more among them. -/
theorem Hdrs.ins {w : World} {S : Nat → Prop} {hs : List Value} {K : Cs} {i : Nat} (h : Hdrs w S hs K) (hi : i ≤ K.length) {A : Option Addr} {x : List Nat} {cap : Nat} (hx : LeafIn w S A x) : Hdrs w S (insV hs i (.slice A x.length cap)) (K.take i ++ [x] ++ K.drop i) := by
  have hl := h.1
  refine ⟨by rw [insV_len _ (by omega)]; simp; omega, fun k hk => ?_⟩
  have hk' : k < K.length + 1 := by simp at hk; omega
  rw [getD_ins K x [] i k hi, insV_get _ (by omega)]
  by_cases h1 : k < i
  · rw [if_pos h1, if_pos h1]
    exact h.2 k (by omega)
  · rw [if_neg h1, if_neg h1]
    by_cases h2 : k = i
    · rw [if_pos h2, if_pos h2]
      exact ⟨A, cap, rfl, hx⟩
    · rw [if_neg h2, if_neg h2]
      exact h.2 (k - 1) (by omega)
/-- What an insertion leaves. -/
def InsOut (w : World) (B b n i : Nat) (_ : Cs) (hs : List Value) (A : Option Addr) (x : List Nat) (c : Nat) (e : Ending) (w' : World) : Prop :=
  ∃ b' cap', e = .returned (.slice (some ⟨b', 0, none⟩) (n + 1) cap') ∧ w'.ownsRow B 23 1 (.slice (some ⟨b', 0, none⟩) (n + 1) cap') (n + 1) (insV hs i (.slice A x.length c)) ∧ Below B w w' ∧ (∀ k, k < w.heap.size → k ≠ b → w'.heap[k]? = w.heap[k]?) ∧ (b' = b ∨ w.heap.size ≤ b')

theorem insV_end {hs : List Value} {n : Nat} (v : Value) (h : hs.length = n) : insV hs n v = hs ++ [v] := by
  unfold insV
  rw [List.take_of_length_le (by omega), List.drop_of_length_le (by omega), List.append_nil]
theorem append_as {P : Program} {t t' e : TypeId} (ht : P.underlying t = some (.slice e)) (ht' : P.underlying t' = some (.slice e)) (ty : TypeId) (v x : Value) (w : World) :
    (Builtin.append_ #[t, t'] ty #[v, x]).run P w = (Builtin.append_ #[t', t'] ty #[v, x]).run P w := by
  simp [Builtin.append_, run_underlying ht, run_underlying ht']
set_option maxRecDepth 10000 in
set_option maxHeartbeats 1000000 in
theorem insert_end (B b n cap vb vc : Nat) (hs : List Value) (A : Option Addr) (x : List Nat) (c : Nat) (w : World) (K : Cs) (hown : w.ownsRow B 23 1 (.slice (some ⟨b, 0, none⟩) n cap) n hs) (hnb : n ≤ 1000)
    (hv : w.cell? ⟨vb, 0, none⟩ = some (.slice A x.length c)) :
    Calls Try.prog 115 #[.slice (some ⟨b, 0, none⟩) n cap, .int .i64 n, .slice (some ⟨vb, 0, none⟩) 1 vc] w (InsOut w B b n n K hs A x c) := by
  obtain ⟨i0, hi0, hz0, hz1, hz2⟩ := info_split Try.info23
  have hB : B ≤ b ∧ b < w.heap.size := hown.lt b rfl
  have hcap : n ≤ cap ∧ cap ≤ maxLen := by
    rcases hown.2 with ⟨h, _⟩ | ⟨g', cap', cur, hv, h1, h2, h3, h4, _⟩
    · cases h
    · injection hv with _ _ h5
      subst h5
      exact ⟨h3, h4⟩
  have HE : Hid (insV hs n (.slice A x.length c) = hs ++ [.slice A x.length c]) := Lib.hid (insV_end _ (by have := hown.1; omega))
  obtain ⟨g', cap', w', hr, hown5, hgr5, hat5, hlt5, hkept5⟩ := run_append_kept (P := Try.prog) w 68 129 B 23 i0 _ 1 24 Try.underlying68 hi0 hz0 hz1 hz2 rfl (by omega) (.slice (some ⟨b, 0, none⟩) n cap) n hs hown ⟨vb, 0, none⟩ 1 vc [.slice A x.length c] rfl (fun j u hj => by
    match j, hj with
    | 0, hj => simp at hj; subst hj; exact hv
    | j + 1, hj => simp at hj) (by simp [Value.oneCell']) (by omega) (by simp [maxLen]; omega) (by omega) (by omega)
  rw [← append_as (P := Try.prog) (t := 129) Try.underlying129 Try.underlying68] at hr
  have HOut : Hid (InsOut w B b n n K hs A x c (.returned (.slice (some ⟨g', 0, none⟩) (n + 1) cap')) w') := Lib.hid ⟨g', cap', rfl, by rw [HE.out]; exact hown5, (Below.refl B w).grown hgr5 (by omega) (fun j hj => by simp [Value.ownBlock] at hj; omega), fun k h1 h2 => hgr5.block k h1 (by simp [Value.ownBlock]; exact h2), by
    rcases hat5 with h | h
    · simp [Value.ownBlock] at h; exact .inl h.symm
    · exact .inr (by omega)⟩
  have HR := hr
  have hc63 : cap ≤ 9223372036854775807 := by have := hcap.2; unfold maxLen at this; omega
  have hnc := hcap.1
  clear hr hown5 hgr5 hat5 hlt5 hkept5 hi0 hz0 hz1 hz2 hown hv hcap
  go_enter Try.func115, Try.ntmps115
  go_wp2_with (at_builtin; refine Lib.wpList_append_run _ rfl _ _ _ _ rfl _ _ rfl rfl _ _ HR ?_)
  all_goals (go_ret; exact HOut.out)

theorem overlaps_no (w : World) (vb b o lb cb vc m : Nat) (hvb : vb ≠ b) {cv cb' : Array Value} {tv tb : TypeId} (hv : Row w vb tv cv) (hb : Row w b tb cb') (hk : cb'.size ≠ 0) :
    (callFunc 119 #[.slice (some ⟨vb, 0, none⟩) m vc, .slice (some ⟨b, o, none⟩) lb cb]).run Try.prog w = .ok (.value (.bool false)) w := by
  obtain ⟨i0, hi0, hz0, hz1, hz2⟩ := info_split Try.info23
  have hsz : ∀ w, (Go.sizeOf 23).run Try.prog w = .ok 1 w := fun w => by simp [Go.sizeOf, typeInfo, hi0, hz1]
  have s1 : w.shape? vb = some (tv, cv.size) := by unfold Row at hv; simp [World.shape?, hv]
  have s2 : w.shape? b = some (tb, cb'.size) := by unfold Row at hb; simp [World.shape?, hb]
  rw [run_callFunc_extern Try.func119 (by kernel_rfl) (by kernel_rfl) (by kernel_rfl) (e := Extern.SlicesOverlaps.overlaps #[68, 68] #[4]) (by kernel_rfl),
    Lib.run_overlaps_apart w 68 4 23 Try.underlying68 1 hsz ⟨vb, 0, none⟩ ⟨b, o, none⟩ m vc lb cb hvb tv tb _ _ s1 s2 hk (hv.frozen 0) (hv.frozen _)]
  rfl
theorem own_parts {w : World} {B b n cap : Nat} {t : TypeId} {hs : List Value} (h : w.ownsRow B t 1 (.slice (some ⟨b, 0, none⟩) n cap) n hs) : ∃ cur, Row w b t cur ∧ B ≤ b ∧ n ≤ cap ∧ cap ≤ maxLen ∧ cur.size = cap ∧ hs.length = n ∧ ∀ j, j < n → cur[j]? = hs[j]? := by
  have hl := h.1
  rcases h.2 with ⟨h, _⟩ | ⟨g', cap', cur, hv, h1, h2, h3, h4, h5, h6⟩
  · cases h
  · injection hv with e1 _ e3
    injection e1 with e1
    injection e1 with e1
    subst e1 e3
    refine ⟨cur, h2, h1, h3, h4, by omega, by omega, fun j hj => ?_⟩
    rw [← h6, List.getElem?_take, if_pos (by omega), Array.getElem?_toList]

set_option maxRecDepth 10000 in
set_option maxHeartbeats 1000000 in
theorem insert_shift (B b n cap vb vc i : Nat) (hs : List Value) (A : Option Addr) (x : List Nat) (c : Nat) (w : World) (K : Cs) (hown : w.ownsRow B 23 1 (.slice (some ⟨b, 0, none⟩) n cap) n hs) (hnb : n ≤ 1000) (hi : i < n) (hroom : n + 1 ≤ cap)
    (hvr : Row w vb 23 #[.slice A x.length c]) (hvb : vb ≠ b) (h1s : ∀ v ∈ hs, v.oneCell' = true) :
    Calls Try.prog 115 #[.slice (some ⟨b, 0, none⟩) n cap, .int .i64 i, .slice (some ⟨vb, 0, none⟩) 1 vc] w (InsOut w B b n i K hs A x c) := by
  obtain ⟨cur, hrow, hBb, hnc, hcm, hcs, hhl, hget⟩ := own_parts hown
  obtain ⟨i0, hi0, hz0, hz1, hz2⟩ := info_split Try.info23
  have hsz : (Try.prog.info? 23).map (·.size) = some 1 := by rw [hi0]; simp [hz1]
  have hbl := hrow.lt
  have hcell : ∀ j, j < n → ∀ v, hs[j]? = some v → w.cell? ⟨b, j, none⟩ = some v := fun j hj v h => by rw [hrow.cell, hget j hj]; exact h
  -- the first copy: what stands from i on, one place up
  have hcp1 : ∀ (W : World), Row W b 23 cur → ∀ ty dc sc, (Builtin.copy_ #[129, 129] ty #[.slice (some ⟨b, i + 1, none⟩) (n - i) dc, .slice (some ⟨b, i, none⟩) (n + 1 - i) sc]).run Try.prog W = .ok (goInt (hs.drop i).length) (W.setCells b (i + 1) (hs.drop i)) := fun W hW ty dc sc =>
    run_copy_cells W _ _ ty 23 b (i + 1) (n - i) dc ⟨b, i, none⟩ (n + 1 - i) sc (hs.drop i) Try.underlying129 hsz (by rw [List.length_drop, hhl]; simp only [Nat.min_def]; split <;> omega)
      (fun j v hj => by
        rw [List.getElem?_drop] at hj
        have hjn : i + j < n := by have := (List.getElem?_eq_some_iff.1 hj).1; omega
        rw [Addr.add_lit, hW.cell, hget _ hjn]; exact hj)
      (fun j hj => by rw [List.length_drop] at hj; rw [hW.cell, Array.getElem?_eq_getElem (by omega)]; rfl) (fun j hj => hW.frozen _) (fun v hv => h1s v (List.mem_of_mem_drop hv))
  have hcp2 : ∀ (W : World), Row W vb 23 #[.slice A x.length c] → Row W b 23 (setL cur (i + 1) (hs.drop i)) → ∀ ty dc, (Builtin.copy_ #[129, 68] ty #[.slice (some ⟨b, i, none⟩) (n + 1 - i) dc, .slice (some ⟨vb, 0, none⟩) 1 vc]).run Try.prog W = .ok (goInt [Value.slice A x.length c].length) (W.setCells b i [.slice A x.length c]) := fun W hV hW ty dc =>
    run_copy_cells W _ _ ty 23 b i (n + 1 - i) dc ⟨vb, 0, none⟩ 1 vc [.slice A x.length c] Try.underlying129 hsz (by simp only [Nat.min_def]; split <;> simp <;> omega)
      (fun j v hj => by
        match j, hj with
        | 0, hj => rw [Addr.add_lit, hV.cell]; exact hj
        | j + 1, hj => simp at hj)
      (fun j hj => by simp at hj; rw [hW.cell, Array.getElem?_eq_getElem (by rw [setL_size]; omega)]; rfl) (fun j hj => hW.frozen _) (by simp [Value.oneCell'])
  have HR1 := Lib.hid hrow
  have HV1 := Lib.hid hvr
  have hR2 : Row (w.drew.setCells b (i + 1) (hs.drop i)) b 23 (setL cur (i + 1) (hs.drop i)) := Row.setCells _ _ (w := w.drew) hrow
  have hV2 : Row (w.drew.setCells b (i + 1) (hs.drop i)) vb 23 #[.slice A x.length c] := (heap_setCells hvb _ _ _).trans hvr
  have hov : ∀ lb cb, (callFunc 119 #[.slice (some ⟨vb, 0, none⟩) 1 vc, .slice (some ⟨b, i + 1, none⟩) lb cb]).run Try.prog w = .ok (.value (.bool false)) w := fun lb cb => overlaps_no w vb b (i + 1) lb cb vc 1 hvb hvr hrow (by omega)
  have HOut : Hid (InsOut w B b n i K hs A x c (.returned (.slice (some ⟨b, 0, none⟩) (n + 1) cap)) ((w.drew.setCells b (i + 1) (hs.drop i)).setCells b i [.slice A x.length c])) := Lib.hid (by
    refine ⟨b, cap, rfl, own_of_row (Row.setCells _ _ hR2) hBb (by rw [setL_size, setL_size]; exact hcs) hroom hcm (by rw [insV_len _ (by omega), hhl]) (fun j hj => ?_), below_setCells hBb _ _ (below_setCells hBb _ _ (Below.refl B w).drew), fun k h1 h2 => (heap_setCells h2 _ _ _).trans (heap_setCells h2 _ _ _), .inl rfl⟩
    rw [setL_get _ _ _ _ (by rw [setL_size]; omega), setL_get _ _ _ _ (by omega), insV_get _ (by omega)]
    by_cases h1 : j < i
    · rw [if_neg (by simp; omega), if_neg (by omega), if_pos h1, hget j (by omega)]
    · by_cases h2 : j = i
      · subst h2
        rw [if_pos (by simp), if_neg h1, if_pos rfl]
        simp
      · rw [if_neg (by simp; omega), if_pos (by rw [List.length_drop]; omega), if_neg h1, if_neg h2, List.getElem?_drop]
        congr 1
        omega)
  have hc63 : cap ≤ 9223372036854775807 := by unfold maxLen at hcm; omega
  have hcpA := hcp1 w.drew hrow
  have hcpB := hcp2 _ hV2 hR2
  have hz2' : ¬ ((i : Int) = (n : Int)) := by omega
  have hw1 : IntKind.i64.wrap ((i : Int) + 1) = (i : Int) + 1 := IntWalk.i64_in _ (by omega)
  have hb1 : (0 : Int) ≤ (i : Int) + 1 := by omega
  have htn : ((i : Int) + 1).toNat = i + 1 := by omega
  have hb2 : ¬ (cap = i + 1) := by omega
  have hb3 : (i : Int) ≤ (n : Int) + 1 := by omega
  have hb4 : ¬ (cap = i) := by omega
  have hin : i ≤ n := by omega
  clear hcell hcp1 hcp2 hR2 hV2 hget hown hrow hvr h1s hi0 hz0 hz1 hz2 hsz hcm
  obtain ⟨W1, hW1⟩ : ∃ W1, W1 = w.drew.setCells b (i + 1) (hs.drop i) := ⟨_, rfl⟩
  rw [← hW1] at hcpA hcpB HOut
  clear hW1
  go_enter Try.func115, Try.ntmps115
  go_wp2_with (simp only [hov])
  go_region_law (refine step_copy_runI rfl _ _ 129 129 rfl _ _ (by simp [Act.eval, Act.put]) (by simp [Act.eval, Act.put]) (hcpA _ _ _) ?_)
  go_wp2_with (at_builtin; refine wpList_copy_runI _ rfl _ _ 129 68 rfl _ _ rfl rfl (hcpB _ _) ?_)
  go_ret
  exact HOut.out

set_option maxRecDepth 10000 in
set_option maxHeartbeats 1000000 in
theorem insert_grow (B b n cap vb vc i : Nat) (hs : List Value) (A : Option Addr) (x : List Nat) (c : Nat) (w : World) (K : Cs) (hown : w.ownsRow B 23 1 (.slice (some ⟨b, 0, none⟩) n cap) n hs) (hnb : n ≤ 1000) (hi : i < n) (hroom : cap < n + 1)
    (hvr : Row w vb 23 #[.slice A x.length c]) (h1s : ∀ v ∈ hs, v.oneCell' = true) :
    Calls Try.prog 115 #[.slice (some ⟨b, 0, none⟩) n cap, .int .i64 i, .slice (some ⟨vb, 0, none⟩) 1 vc] w (InsOut w B b n i K hs A x c) := by
  obtain ⟨cur, hrow, hBb, hnc, hcm, hcs, hhl, hget⟩ := own_parts hown
  obtain rfl : cap = n := by omega
  obtain ⟨i0, hi0, hz0, hz1, hz2⟩ := info_split Try.info23
  have hsz : (Try.prog.info? 23).map (·.size) = some 1 := by rw [hi0]; simp [hz1]
  have hbl := hrow.lt
  have hvl := hvr.lt
  have hold : (Builtin.firstCells i0.size i (.slice (some ⟨b, 0, none⟩) i cap)).run Try.prog w.drew = .ok (hs.take i).toArray w.drew := by
    rw [hz1]
    exact run_firstCells_some w.drew 1 i ⟨b, 0, none⟩ i cap (hs.take i) (by rw [List.length_take]; omega) (fun j v hj => by
      rw [List.getElem?_take] at hj
      split at hj
      · next h =>
        rw [Addr.add_lit]
        show w.cell? _ = _
        rw [Nat.zero_add, hrow.cell, hget j (by omega)]; exact hj
      · cases hj)
  have hkk : (cap : Int) + 1 - (i : Int) = ((cap + 1 - i : Nat) : Int) := by omega
  have hik : i + (cap + 1 - i) = cap + 1 := by omega
  obtain ⟨G, hG⟩ : ∃ G, G = grownCap w (cap + 1) cap 23 := ⟨_, rfl⟩
  have hGn : cap + 1 ≤ G := by rw [hG]; exact grownCap_ge w _ _ _
  have hGm : G ≤ maxLen := by rw [hG]; exact grownCap_le_maxLen w (cap + 1) cap _ (by unfold maxLen; omega)
  obtain ⟨ROW, hROW⟩ : ∃ ROW : Array Value, ROW = (hs.take i).toArray ++ Builtin.zeroCells (Value.slice none 0 0).cells (cap + 1 - i) ++ Builtin.zeroCells (Value.slice none 0 0).cells (G - (cap + 1)) := ⟨_, rfl⟩
  have hrz : ∀ ty, (Builtin.append_ #[129, 3] ty #[.slice (some ⟨b, 0, none⟩) i cap, .int .i64 ((cap : Int) + 1 - (i : Int))]).run Try.prog w =
      .ok (.slice (some ⟨w.heap.size, 0, none⟩) (cap + 1) G) (w.drew.alloc (.cells ROW 23)) := fun ty => by
    have h := Lib.run_append_grow_zeros (P := Try.prog) w 129 3 ty 23 i0 _ .i64 .i64 Try.underlying129 Try.underlying3 hi0 hz0 (some ⟨b, 0, none⟩) i cap (hs.take i) hold (cap + 1 - i) (by omega) (by omega) (by omega) (by omega) (by rw [hz2]; omega) (by rw [hz2, hik]; exact growslice_fits hroom (by omega))
    rw [hik, ← hG] at h
    rw [hkk, hROW]
    exact h
  have hzc : (Value.slice none 0 0).cells.size = 1 := rfl
  have hRs : ROW.size = G := by
    rw [hROW]
    simp only [Builtin.zeroCells, hzc, Array.size_append, Array.size_map, Array.size_range, List.size_toArray, List.length_take]
    omega
  have hRg : ∀ j, j < i → ROW[j]? = hs[j]? := fun j hj => by
    rw [hROW, Array.append_assoc, Array.getElem?_append_left (by simp; omega)]
    simp [hj]
  have hbz : b ≠ w.heap.size := by omega
  have hvz : vb ≠ w.heap.size := by omega
  have hrN : Row (w.drew.alloc (.cells ROW 23)) w.heap.size 23 ROW := heap_alloc_new w.drew _
  have hrB : Row (w.drew.alloc (.cells ROW 23)) b 23 cur := (Below.heap_alloc _ _ _ hbl).trans hrow
  have hrV : Row (w.drew.alloc (.cells ROW 23)) vb 23 #[.slice A x.length c] := (Below.heap_alloc _ _ _ hvl).trans hvr
  have hcpA : ∀ (W : World), Row W w.heap.size 23 ROW → Row W vb 23 #[.slice A x.length c] → ∀ ty dc, (Builtin.copy_ #[129, 68] ty #[.slice (some ⟨w.heap.size, i, none⟩) (cap + 1 - i) dc, .slice (some ⟨vb, 0, none⟩) 1 vc]).run Try.prog W = .ok (goInt [Value.slice A x.length c].length) (W.setCells w.heap.size i [.slice A x.length c]) := fun W hW hV ty dc =>
    run_copy_cells W _ _ ty 23 w.heap.size i (cap + 1 - i) dc ⟨vb, 0, none⟩ 1 vc [.slice A x.length c] Try.underlying129 hsz (by simp only [Nat.min_def]; split <;> simp <;> omega)
      (fun j v hj => by
        match j, hj with
        | 0, hj => rw [Addr.add_lit, hV.cell]; exact hj
        | j + 1, hj => simp at hj)
      (fun j hj => by simp at hj; rw [hW.cell, Array.getElem?_eq_getElem (by omega)]; rfl) (fun j hj => hW.frozen _) (by simp [Value.oneCell'])
  have hcpB : ∀ (W : World), Row W w.heap.size 23 (setL ROW i [.slice A x.length c]) → Row W b 23 cur → ∀ ty dc sc, (Builtin.copy_ #[129, 129] ty #[.slice (some ⟨w.heap.size, i + 1, none⟩) (cap - i) dc, .slice (some ⟨b, i, none⟩) (cap - i) sc]).run Try.prog W = .ok (goInt (hs.drop i).length) (W.setCells w.heap.size (i + 1) (hs.drop i)) := fun W hW hV ty dc sc =>
    run_copy_cells W _ _ ty 23 w.heap.size (i + 1) (cap - i) dc ⟨b, i, none⟩ (cap - i) sc (hs.drop i) Try.underlying129 hsz (by rw [List.length_drop, hhl]; simp only [Nat.min_def]; split <;> omega)
      (fun j v hj => by
        rw [List.getElem?_drop] at hj
        have hjn : i + j < cap := by have := (List.getElem?_eq_some_iff.1 hj).1; omega
        rw [Addr.add_lit, hV.cell, hget _ hjn]; exact hj)
      (fun j hj => by rw [List.length_drop] at hj; rw [hW.cell, Array.getElem?_eq_getElem (by rw [setL_size]; omega)]; rfl) (fun j hj => hW.frozen _) (fun v hv => h1s v (List.mem_of_mem_drop hv))
  obtain ⟨W1, hW1⟩ : ∃ W1, W1 = w.drew.alloc (.cells ROW 23) := ⟨_, rfl⟩
  have hb1 : Below B w W1 := by rw [hW1]; exact (Below.refl B w).drew.alloc (by show B ≤ w.heap.size; omega) _
  have hk1 : ∀ k, k < w.heap.size → W1.heap[k]? = w.heap[k]? := fun k hk => by rw [hW1]; exact Below.heap_alloc _ _ _ hk
  rw [← hW1] at hrz hrN hrB hrV
  clear hW1
  have hA := hcpA W1 hrN hrV
  obtain ⟨W2, hW2⟩ : ∃ W2, W2 = W1.setCells w.heap.size i [.slice A x.length c] := ⟨_, rfl⟩
  have hrN2 : Row W2 w.heap.size 23 (setL ROW i [.slice A x.length c]) := by rw [hW2]; exact Row.setCells _ _ hrN
  have hrB2 : Row W2 b 23 cur := by rw [hW2]; exact (heap_setCells hbz _ _ _).trans hrB
  have hb2 : Below B w W2 := by rw [hW2]; exact below_setCells (by omega) _ _ hb1
  have hk2 : ∀ k, k < w.heap.size → W2.heap[k]? = w.heap[k]? := fun k hk => by rw [hW2, heap_setCells (by omega)]; exact hk1 k hk
  rw [← hW2] at hA
  clear hW2
  have hBB := hcpB W2.drew hrN2 hrB2
  have HOut : Hid (InsOut w B b cap i K hs A x c (.returned (.slice (some ⟨w.heap.size, 0, none⟩) (cap + 1) G)) (W2.drew.setCells w.heap.size (i + 1) (hs.drop i))) := Lib.hid (by
    refine ⟨w.heap.size, G, rfl, own_of_row (Row.setCells _ _ (w := W2.drew) hrN2) (by omega) (by rw [setL_size, setL_size]; exact hRs) hGn hGm (by rw [insV_len _ (by omega), hhl]) (fun j hj => ?_), below_setCells (by omega) _ _ hb2.drew, fun k h1 h2 => (heap_setCells (by omega) _ _ _).trans (hk2 k h1), .inr (Nat.le_refl _)⟩
    rw [setL_get _ _ _ _ (by rw [setL_size]; omega), setL_get _ _ _ _ (by omega), insV_get _ (by omega)]
    by_cases h1 : j < i
    · rw [if_neg (by omega), if_neg (by simp; omega), if_pos h1, hRg j h1]
    · by_cases h2 : j = i
      · subst h2
        rw [if_neg (by omega), if_pos (by simp), if_neg h1, if_pos rfl]
        simp
      · rw [if_pos (by rw [List.length_drop]; omega), if_neg h1, if_neg h2, List.getElem?_drop]
        congr 1
        omega)
  have hG63 : G ≤ 9223372036854775807 := by unfold maxLen at hGm; omega
  have hz2' : ¬ ((i : Int) = (cap : Int)) := by omega
  have hz3 : (cap : Int) < (cap : Int) + 1 := by omega
  have hw1 : IntKind.i64.wrap ((i : Int) + 1) = (i : Int) + 1 := IntWalk.i64_in _ (by omega)
  have hx1 : (0 : Int) ≤ (i : Int) + 1 := by omega
  have htn : ((i : Int) + 1).toNat = i + 1 := by omega
  have hx2 : ¬ (G = i + 1) := by omega
  have hx4 : ¬ (G = i) := by omega
  have hx5 : ¬ (cap = i) := by omega
  have hin : i ≤ cap := by omega
  have hx6 : (i : Int) ≤ (cap : Int) := by omega
  clear hcpA hcpB hrN hrB hrV hrN2 hrB2 hb1 hb2 hk1 hk2 hget hown hrow hvr h1s hi0 hz0 hz1 hz2 hsz hcm hGm hkk hik hold hROW hG hRs hRg hzc
  go_enter Try.func115, Try.ntmps115
  go_wp2_with (first
    | (at_builtin; refine Lib.wpList_append_run _ rfl _ _ _ _ rfl _ _ rfl rfl _ _ (hrz _) ?_)
    | (at_builtin; refine wpList_copy_runI _ rfl _ _ 129 68 rfl _ _ rfl rfl (hA _ _) ?_))
  go_region_law (refine step_copy_runI rfl _ _ 129 129 rfl _ _ (by simp [Act.eval, Act.put]) (by simp [Act.eval, Act.put]) (hBB _ _ _) ?_)
  go_wp2
  go_ret
  exact HOut.out
end Go.Proofs.Ythcpgbfghededaa
