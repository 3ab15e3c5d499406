/- The contracts of the program's settingBytes. -/
import Derived.Test.YtkkkkalgfmddbaaKH
import Derived.Test.YtkkkkalgfmddbaaKV
namespace Go.Proofs.Ytkkkkalgfmddbaa
open Go.RowKit Go.Deep

/-- Bytes in memory of the call's own. -/
def ByAt (w : World) (B : Nat) (xs : List Nat) (A : Option Addr) (cap : Nat) : Prop := w.ownsRow B 5 1 (.slice A xs.length cap) xs.length (bys xs)
theorem ByAt.ltA {w : World} {B cap : Nat} {xs : List Nat} {A : Option Addr} (h : ByAt w B xs A cap) : ∀ g, A.map (·.block) = some g → B ≤ g ∧ g < w.heap.size := own_ltA h
theorem ByAt.keep {w w' : World} {B cap : Nat} {xs : List Nat} {A : Option Addr} (h : ByAt w B xs A cap) (hk : ∀ b, B ≤ b → b < w.heap.size → w'.heap[b]? = w.heap[b]?) : ByAt w' B xs A cap :=
  own_keepA h (fun g e => by obtain ⟨h1, h2⟩ := h.ltA g (by rw [e]; rfl); exact hk g h1 h2)
theorem ByAt.on {w w' : World} {B cap : Nat} {xs : List Nat} {A : Option Addr} (h : ByAt w B xs A cap) (hb : Below w.heap.size w w') : ByAt w' B xs A cap := h.keep (fun b _ h2 => hb.block b h2)
theorem ByAt.nil (w : World) (B : Nat) : ByAt w B [] none 0 := World.ownsRow_nil _ _ _ _
theorem ByAt.ptr {w : World} {B cap : Nat} {xs : List Nat} {A : Option Addr} (h : ByAt w B xs A cap) (hn : 0 < xs.length) : ∃ g, A = some ⟨g, 0, none⟩ := by
  rcases h.2 with ⟨hv, h0⟩ | ⟨g', cap', cur, hv, h1, h2, h3⟩
  · omega
  · injection hv with e1; exact ⟨g', e1⟩
theorem ByAt.cells {w : World} {B cap g : Nat} {xs : List Nat} (h : ByAt w B xs (some ⟨g, 0, none⟩) cap) : (∀ j, j < xs.length → w.cell? ⟨g, j, none⟩ = some (.int .u8 (xs.getD j 0 : Nat))) ∧ xs.length ≤ cap ∧ cap ≤ maxLen ∧ g < w.heap.size ∧ B ≤ g := by
  obtain ⟨cur, hrow, hB, hnc, _, _, hget⟩ := own_partsE h
  refine ⟨fun j hj => by rw [hrow.cell, hget j (by omega), bys_get hj], hnc, ?_, hrow.lt, hB⟩
  rcases h.2 with ⟨hv, h0⟩ | ⟨g', cap', cur, hv, h1, h2, h3, h4, h5⟩
  · cases hv
  · injection hv with e1 e2 e3; omega
theorem Try.infoBy : (Try.prog.info? 5).map (fun i => (i.zero, i.size, i.bytes)) = some (some (.int .u8 0), 1, 1) := by kernel_rfl
theorem bys_snoc (xs : List Nat) (v : Nat) : bys (xs ++ [v]) = bys xs ++ [.int .u8 (v : Int)] := by simp [bys]
theorem wpList_pushBy {ops : Array Oper} {rest : List Oper} {o : Oper} {a : Act} {Q : Exit → Act → World → Prop} (hgd : o.guard = none) (s x' : Operand) (ho : o.op = .call { callee := .builtin .append, args := #[s, x'], argTypes := #[22, 22] })
    (wr : World) (B cap n : Nat) (A : Option Addr) (xs : List Nat) (hev : a.eval s = .slice A n cap) (hn : xs.length = n) (h : ByAt wr B xs A cap) (hnb : n ≤ 100000) (hB : B ≤ wr.heap.size)
    (v : Nat) (hx' : a.eval x' = .slice (some ⟨wr.heap.size, 0, none⟩) 1 1)
    (cont : ∀ g' cap' w5, ByAt w5 B (xs ++ [v]) (some ⟨g', 0, none⟩) cap' → Below B wr w5 → (∀ b, b < wr.heap.size → NotB A b → w5.heap[b]? = wr.heap[b]?) → wpList Try.prog ops Q rest (a.put o.dst (.slice (some ⟨g', 0, none⟩) (n + 1) cap')) w5) :
    wpList Try.prog ops Q (o :: rest) a (wr.alloc (.cells #[.int .u8 (v : Int)] 5)) := by
  subst hn
  obtain ⟨i0, hi0, hz0, hz1, hz2⟩ := info_split Try.infoBy
  refine wpList_append_kept _ hgd s x' 22 ho B 5 i0 _ 1 1 Try.underlying22 hi0 hz0 hz1 hz2 rfl (by omega) (.slice A xs.length cap) xs.length (bys xs) hev (World.ownsRow.alloc h _) ⟨wr.heap.size, 0, none⟩ 1 1 [.int .u8 (v : Int)] hx' rfl (World.news_of_block (cs := #[.int .u8 (v : Int)]) (t := 5) (fr := (0, 0)) (heap_alloc_new wr _)) (by simp [Value.oneCell']) (by omega) (by simp [maxLen]; omega) (by omega) (by simp; omega) _ rfl ?_
  intro g' cap' w5 hown5 hgr5 hat5 hlt5 hkept5
  exact cont g' cap' w5 (by unfold ByAt; rw [List.length_append, List.length_singleton, bys_snoc]; exact hown5) (below_alloc_grownA hgr5 hB (fun g e => (own_ltA h g e).1)) (offA_grown hgr5)
/-- Numbers as bytes. -/
def nats (zs : List Int) : List Nat := zs.map Int.toNat
theorem nats_len (zs : List Int) : (nats zs).length = zs.length := by simp [nats]
theorem nats_take (zs : List Int) {k : Nat} (hk : k < zs.length) : nats (zs.take (k + 1)) = nats (zs.take k) ++ [(zs.getD k 0).toNat] := by
  unfold nats
  rw [take_tl zs 0 hk, List.map_append]
  rfl
/-- Every number fits a byte. -/
def Fit (zs : List Int) : Prop := ∀ k, k < zs.length → 0 ≤ zs.getD k 0 ∧ zs.getD k 0 < 256
theorem flag_any (b : Bool) (w : World) : Calls Try.prog 69 #[.bool b] w fun e w' => e = .returned (.int .u8 (b.toNat : Int)) ∧ w = w' := by
  cases b
  · go_enter Try.func69, Try.ntmps69
    go_wp2
    go_ret
    exact ⟨rfl, rfl⟩
  · go_enter Try.func69, Try.ntmps69
    go_wp2
    go_ret
    exact ⟨rfl, rfl⟩
set_option maxRecDepth 10000 in
set_option maxHeartbeats 800000 in
theorem appN_any (B cap n m c : Nat) (A A' : Option Addr) (xs : List Nat) (zs : List Int) (w : World) (hB : B ≤ w.heap.size) (hx : ByAt w B xs A cap) (hn : xs.length = n) (hz : IntsAt w B A' zs) (hm : zs.length = m) (hf : Fit zs) (l1 : n ≤ 1000) (l2 : m ≤ 1000) (h0 : 1 ≤ n) :
    Calls Try.prog 109 #[.slice A n cap, .slice A' m c] w fun e w' => ∃ g' cap' : Nat, e = .returned (.slice (some ⟨g', 0, none⟩) (n + m) cap') ∧ ByAt w' B (xs ++ nats zs) (some ⟨g', 0, none⟩) cap' ∧ Below B w w' := by
  have HX := Lib.hid hx
  have HZ := Lib.hid hz
  have HN := Lib.hid hn
  have HM := Lib.hid hm
  have HF := Lib.hid hf
  clear hx hz hn hm hf
  go_enter Try.func109, Try.ntmps109
  go_wp2
  go_loopw [0, 9] (fun lv iv wr => ∃ (k : Nat) (D : Option Addr) (dc : Nat), k ≤ m ∧ iv = .int .i64 k ∧ lv = .slice D (n + k) dc ∧ Hid (ByAt wr B (xs ++ nats (zs.take k)) D dc) ∧ Hid (Below B w wr)) (fun _ iv _ => m - (intOf iv).toNat)
  case atStart => exact ⟨0, A, cap, Nat.zero_le _, rfl, rfl, Lib.hid (by simpa [nats] using HX.out), Lib.hid (Below.refl _ _)⟩
  case round =>
    obtain ⟨k, D, dc, hk, rfl, rfl, HD, HL⟩ := hrel
    by_cases hlt : k < m
    · obtain ⟨b, off, rfl, hbl, hc⟩ := (HZ.out.below HL.out) k (by rw [HM.out]; exact hlt)
      obtain ⟨f0, f1⟩ := HF.out k (by rw [HM.out]; exact hlt)
      have HT := Lib.hid (nats_take zs (show k < zs.length by rw [HM.out]; exact hlt))
      have HLN : Hid ((xs ++ nats (zs.take k)).length = n + k) := Lib.hid (by rw [List.length_append, HN.out, nats_len, List.length_take, HM.out, Nat.min_eq_left hk])
      have hzw := HL.out.size
      generalize zs.getD k 0 = z at *
      obtain ⟨v, rfl⟩ := Int.eq_ofNat_of_zero_le f0
      rw [Int.toNat_natCast] at HT
      have hwu : IntKind.u8.wrap (v : Int) = (v : Int) := IntWalk.u8_in _ (by omega)
      go_wp2_with (at_builtin; refine wpList_pushBy rfl _ _ rfl wr B dc (n + k) D (xs ++ nats (zs.take k)) rfl HLN.out HD.out (by omega) (by omega) v rfl ?_)
      intro g' cap' w5 hX5 hb5 hk5
      have HX5 : Hid (ByAt w5 B (xs ++ nats (zs.take (k + 1))) (some ⟨g', 0, none⟩) cap') := Lib.hid (by rw [HT.out]; exact hX5)
      have HL5 := Lib.hid (HL.out.trans hb5)
      clear hX5 hb5 hk5 HT HLN HD HL
      go_wp2
      go_roundw
      case rel => exact ⟨k + 1, some ⟨g', 0, none⟩, cap', by omega, by go_num, rfl, HX5, HL5⟩
      case measure => simp [intOf]; omega
    · obtain rfl : k = m := by omega
      have hd := HD.out
      rw [← HM.out, List.take_length] at hd
      obtain ⟨g, rfl⟩ := hd.ptr (by rw [List.length_append, HN.out]; omega)
      have HDD := Lib.hid hd
      clear hd
      go_wp2
      go_ret
      exact ⟨g, dc, rfl, HDD.out, HL.out⟩
/-- The bytes of a tile. -/
def enT (x : Tl) : List Nat := [x.1.toNat] ++ nats x.2.1 ++ [x.2.2.1.toNat] ++ nats x.2.2.2
set_option maxRecDepth 10000 in
set_option maxHeartbeats 1600000 in
theorem setB_any (v : Int) (A A' : Option Addr) (m1 c1 m2 c2 : Nat) (r : Bool) (x y : List Int) (w : World) (hx : IntsAt w w.heap.size A x) (hy : IntsAt w w.heap.size A' y) (h1 : x.length = m1) (h2 : y.length = m2) (hv0 : 0 ≤ v) (hv1 : v < 256) (fx : Fit x) (fy : Fit y) (l1 : m1 ≤ 100) (l2 : m2 ≤ 100) :
    Calls Try.prog 68 #[.agg #[.int .i64 v, .slice A m1 c1, .bool r, .slice A' m2 c2]] w fun e w' => ∃ g' cap' : Nat, e = .returned (.slice (some ⟨g', 0, none⟩) (1 + m1 + 1 + m2) cap') ∧ ByAt w' (w.heap.size + 1) (enT (v, x, r, y)) (some ⟨g', 0, none⟩) cap' ∧ Below w.heap.size w w' := by
  obtain ⟨v, rfl⟩ := Int.eq_ofNat_of_zero_le hv0
  have hwu : IntKind.u8.wrap (v : Int) = (v : Int) := IntWalk.u8_in _ (by omega)
  have HR0 := Lib.hid (row_o1' w (.cells #[.int .u8 (v : Int)] 5) 33 #[.int .i64 (v : Int), .slice A m1 c1, .bool r, .slice A' m2 c2])
  have HV0 : Hid (ByAt ((w.alloc (.cells #[.int .i64 (v : Int), .slice A m1 c1, .bool r, .slice A' m2 c2] 33)).alloc (.cells #[.int .u8 (v : Int)] 5)) (w.heap.size + 1) [v] (some ⟨w.heap.size + 1, 0, none⟩) 1) := Lib.hid (own_full (n := 1) (z := 1) (row_n1 w (.cells #[.int .i64 (v : Int), .slice A m1 c1, .bool r, .slice A' m2 c2] 33) 5 #[.int .u8 (v : Int)]) (Nat.le_refl _) rfl (by simp [maxLen]) rfl (fun j hj => by
    match j, hj with
    | 0, _ => rfl
    | j + 1, hj => simp [bys] at hj))
  have hz0 : w.heap.size + 1 ≤ ((w.alloc (.cells #[.int .i64 (v : Int), .slice A m1 c1, .bool r, .slice A' m2 c2] 33)).alloc (.cells #[.int .u8 (v : Int)] 5)).heap.size := by simp
  have hL0 : Below w.heap.size w ((w.alloc (.cells #[.int .i64 (v : Int), .slice A m1 c1, .bool r, .slice A' m2 c2] 33)).alloc (.cells #[.int .u8 (v : Int)] 5)) := ((Below.refl _ _).alloc (Nat.le_refl _) _).alloc (by simp) _
  have HL0 := Lib.hid hL0
  have HX0 := Lib.hid ((hx.below hL0).mono (Nat.le_succ _))
  have HY0 := Lib.hid ((hy.below hL0).mono (Nat.le_succ _))
  have H1 := Lib.hid h1
  have H2 := Lib.hid h2
  have HFX := Lib.hid fx
  have HFY := Lib.hid fy
  clear hx hy h1 h2 fx fy hL0 hv0
  go_enter Try.func68, Try.ntmps68
  go_wp2_with fail
  generalize (w.alloc (.cells #[.int .i64 (v : Int), .slice A m1 c1, .bool r, .slice A' m2 c2] 33)).alloc (.cells #[.int .u8 (v : Int)] 5) = w1 at *
  refine (appN_any (w.heap.size + 1) 1 1 m1 c1 (some ⟨w.heap.size + 1, 0, none⟩) A [v] x w1 hz0 HV0.out rfl HX0.out H1.out HFX.out (by omega) (by omega) (by omega)).mono ?_
  rintro e w2 ⟨g2, k2, rfl, hX2, hb2⟩
  have hR2 := HR0.out.below hb2 (by omega)
  have c2' := hR2.cell 2
  have c3 := hR2.cell 3
  simp at c2' c3
  have HX2 := Lib.hid hX2
  have HR2 := Lib.hid hR2
  have HL2 := Lib.hid (HL0.out.trans (hb2.mono (by omega)))
  have HY2 := Lib.hid (HY0.out.below hb2)
  have hz2 : w.heap.size + 1 ≤ w2.heap.size := by have := hb2.size; omega
  clear hb2 hX2 hR2 HR0 HV0 HL0 HX0 HY0 hz0
  go_wp2_with (go_at_call 69; refine (flag_any r _).mono ?_; rintro e w3 ⟨rfl, rfl⟩; refine Hid.out ?_)
  refine Lib.hid ?_
  have HLN : Hid (([v] ++ nats x).length = 1 + m1) := Lib.hid (by rw [List.length_append, nats_len, H1.out]; rfl)
  go_wp2_with (at_builtin; refine wpList_pushBy rfl _ _ rfl w2 (w.heap.size + 1) k2 (1 + m1) (some ⟨g2, 0, none⟩) ([v] ++ nats x) rfl HLN.out HX2.out (by omega) hz2 r.toNat rfl ?_)
  intro g4 k4 w4 hX4 hb4 hk4
  have hR4 := HR2.out.below hb4 (by omega)
  have c3 := hR4.cell 3
  simp at c3
  have HX4 := Lib.hid hX4
  have HL4 := Lib.hid (HL2.out.trans (hb4.mono (by omega)))
  have HY4 := Lib.hid (HY2.out.below hb4)
  have hz4 : w.heap.size + 1 ≤ w4.heap.size := by have := hb4.size; omega
  have HLN4 : Hid (([v] ++ nats x ++ [r.toNat]).length = 1 + m1 + 1) := Lib.hid (by rw [List.length_append, HLN.out]; rfl)
  clear hb4 hX4 hR4 hk4 HX2 HL2 HY2 HR2
  go_wp2_with fail
  refine (appN_any (w.heap.size + 1) k4 (1 + m1 + 1) m2 c2 (some ⟨g4, 0, none⟩) A' ([v] ++ nats x ++ [r.toNat]) y w4 hz4 HX4.out HLN4.out HY4.out H2.out HFY.out (by omega) (by omega) (by omega)).mono ?_
  rintro e w5 ⟨g5, k5, rfl, hX5, hb5⟩
  have HX5 := Lib.hid hX5
  have HL5 := Lib.hid (HL4.out.trans (hb5.mono (by omega)))
  clear hX5 hb5
  go_wp2
  go_ret
  exact ⟨g5, k5, rfl, HX5.out, HL5.out⟩
end Go.Proofs.Ytkkkkalgfmddbaa
/- The contract of the program's EncodeConfig. -/
namespace Go.Proofs.Ytkkkkalgfmddbaa
open Go.RowKit Go.Deep Cut

/-- The bytes of all tiles, and of a pad. -/
def enTs (ts : List Tl) : List Nat := ts.flatMap enT
def enP (p : Pd) : List Nat := [p.1.toNat, p.2.toNat]
def enPs (ps : List Pd) : List Nat := ps.flatMap enP
def sumB (s : Nat) : List Nat := [s / 256, s % 256]
/-- The bitstream of a valid configuration. -/
def enc (ts : List Tl) (ps : List Pd) : List Nat := enTs ts ++ enPs ps ++ sumB (Ck.ck 1 (enTs ts ++ enPs ps))
theorem enTs_take (ts : List Tl) {k : Nat} (hk : k < ts.length) : enTs (ts.take (k + 1)) = enTs (ts.take k) ++ enT (ts.getD k tl0) := by
  unfold enTs
  rw [take_tl ts tl0 hk, List.flatMap_append]
  simp
theorem enPs_take (ps : List Pd) {k : Nat} (hk : k < ps.length) : enPs (ps.take (k + 1)) = enPs (ps.take k) ++ enP (ps.getD k pd0) := by
  unfold enPs
  rw [take_tl ps pd0 hk, List.flatMap_append]
  simp
theorem Bf.on {w w' : World} {b : Nat} {A : Option Addr} {cap : Nat} {xs : List Nat} (h : Bf w b A cap xs) (hb : Below w.heap.size w w') : Bf w' b A cap xs := by
  obtain ⟨⟨lr, h1⟩, hrow⟩ := h
  refine ⟨⟨lr, h1.below hb h1.lt⟩, ?_⟩
  rcases hrow with h | ⟨g, cur, e1, e2, e3, e4⟩
  · exact .inl h
  · exact .inr ⟨g, cur, e1, e2, e3.below hb e3.lt, e4⟩
theorem Bf.lt {w : World} {b : Nat} {A : Option Addr} {cap : Nat} {xs : List Nat} (h : Bf w b A cap xs) : ∀ g, A.map (·.block) = some g → g < w.heap.size := fun g e => by
  rcases h.2 with ⟨rfl, _⟩ | ⟨g', cur, rfl, _, e3, _⟩
  · simp at e
  · simp at e; subst e; exact e3.lt
/-- What a valid tile holds. -/
theorem unread_fit {z : Int} (h : unread z = false) : 0 ≤ z ∧ z < 256 := by
  unfold unread at h
  by_cases a : z < 0
  · simp [a] at h; omega
  · by_cases c : 8 ≤ z
    · simp [a, c] at h; omega
    · omega
theorem src_fit {t : Nat} {z : Int} (h : badS t z = false) : 0 ≤ z ∧ z < 256 := by
  unfold badS at h
  have h1 : srcOk t z = true := by simpa using h
  unfold srcOk at h1
  by_cases e0 : z = 0
  · omega
  by_cases e1 : z = 1
  · omega
  by_cases e6 : z = 6
  · omega
  have hn : nbAt t z ≠ -1 := by simpa [e0, e1, e6] using h1
  by_cases e : z = 2 ∨ z = 3 ∨ z = 4 ∨ z = 5
  · omega
  · exact absurd (by unfold nbAt; rw [if_neg (by omega), if_neg (by omega), if_neg (by omega), if_neg (by omega)]) hn
theorem any_false {α : Type} (xs : List α) (d : α) (p : α → Bool) (h : xs.any p = false) {k : Nat} (hk : k < xs.length) : p (xs.getD k d) = false := by
  cases e : p (xs.getD k d) with
  | false => rfl
  | true => rw [any_mem xs d p hk e] at h; exact absurd h (by simp)
theorem tlOk_fit {t : Nat} {x : Tl} (h : tlOk t x = true) : (0 ≤ x.1 ∧ x.1 < 256) ∧ (x.2.1.length = 3 ∧ Fit x.2.1) ∧ (x.2.2.2.length = 8 ∧ Fit x.2.2.2) := by
  unfold tlOk at h
  simp only [Bool.and_eq_true, decide_eq_true_eq, Bool.not_eq_true'] at h
  obtain ⟨⟨⟨h1, h2⟩, h3, h4⟩, h5, h6⟩ := h
  exact ⟨⟨h1, h2⟩, ⟨h3, fun k hk => unread_fit (any_false _ 0 _ h4 hk)⟩, ⟨h5, fun k hk => src_fit (t := t) (any_false _ 0 (fun d => !srcOk t d) h6 hk)⟩⟩
theorem cfOk_parts {ts : List Tl} {ps : List Pd} (h : cfOk ts ps = true) : ts.length = 25 ∧ ps.length = 3 ∧ (∀ k, k < 3 → 0 ≤ (ps.getD k pd0).1 ∧ (ps.getD k pd0).1 < 256) ∧ ∀ k, k < 25 → tlOk k (ts.getD k tl0) = true := by
  unfold cfOk pdsOk tlsOk at h
  simp only [Bool.and_eq_true, decide_eq_true_eq, Bool.not_eq_true', List.all_eq_true, List.mem_range] at h
  obtain ⟨⟨h1, h2, h3⟩, h4⟩ := h
  exact ⟨h1, h2, fun k hk => unread_fit (any_false ps pd0 (fun p => unread p.1) h3 (by omega)), h4⟩
theorem nats_get (zs : List Int) (j : Nat) : (nats zs).getD j 0 = (zs.getD j 0).toNat := by
  unfold nats
  rw [List.getD_eq_getElem?_getD, List.getElem?_map, List.getD_eq_getElem?_getD]
  cases zs[j]? <;> rfl
theorem mem_nats {zs : List Int} (h : Fit zs) : ∀ y ∈ nats zs, y < 256 := fun y hy => by
  unfold nats at hy
  rw [List.mem_map] at hy
  obtain ⟨z, hz, rfl⟩ := hy
  obtain ⟨i, hi, rfl⟩ := List.getElem_of_mem hz
  have h1 := h i hi
  rw [List.getD_eq_getElem?_getD, List.getElem?_eq_getElem hi] at h1
  simp at h1
  omega
theorem enT_lt {t : Nat} {x : Tl} (h : tlOk t x = true) : (enT x).length = 13 ∧ ∀ y ∈ enT x, y < 256 := by
  obtain ⟨⟨h1, h2⟩, ⟨h3, h4⟩, h5, h6⟩ := tlOk_fit h
  refine ⟨by simp [enT, nats_len, h3, h5], fun y hy => ?_⟩
  simp only [enT, List.mem_append, List.mem_singleton] at hy
  rcases hy with ((rfl | hy) | rfl) | hy
  · omega
  · exact mem_nats h4 y hy
  · cases x.2.2.1 <;> decide
  · exact mem_nats h6 y hy
theorem getD_all {ys : List Nat} (h : ∀ y ∈ ys, y < 256) : ∀ j, j < ys.length → ys.getD j 0 < 256 := fun j hj => by
  rw [List.getD_eq_getElem?_getD, List.getElem?_eq_getElem hj]
  exact h _ (List.getElem_mem hj)
theorem enTs_len {ts : List Tl} : ∀ k, k ≤ ts.length → (∀ j, j < k → tlOk j (ts.getD j tl0) = true) → (enTs (ts.take k)).length = 13 * k
  | 0, _, _ => rfl
  | k + 1, hk, h => by
    rw [enTs_take ts (by omega), List.length_append, enTs_len k (by omega) (fun j hj => h j (by omega)), (enT_lt (h k (by omega))).1]
    omega
end Go.Proofs.Ytkkkkalgfmddbaa
/- The program's EncodeConfig walked. -/
namespace Go.Proofs.Ytkkkkalgfmddbaa
open Go.RowKit Go.Deep Cut

/-- The state while the bytes are written: H the configuration's box, b the buffer, wb the writer. -/
structure EncSt (w : World) (H b wb : Nat) (A : Option Addr) (cap : Nat) (xs : List Nat) (TA : Option Addr) (n tc : Nat) (PA : Option Addr) (m pc : Nat) : Prop where
  bf : Bf w b A cap xs
  ck : CkRow w wb b (Ck.ck 1 xs)
  nw : NotB A wb
  ge : ∀ g, A.map (·.block) = some g → b ≤ g
  box : Row w H 26 #[.slice TA n tc, .slice PA m pc]
  hb : H < b
  wz : wb = b + 1
theorem EncSt.on {w w' : World} {H b wb : Nat} {A : Option Addr} {cap : Nat} {xs : List Nat} {TA : Option Addr} {n tc : Nat} {PA : Option Addr} {m pc : Nat} (h : EncSt w H b wb A cap xs TA n tc PA m pc) (hb : Below w.heap.size w w') : EncSt w' H b wb A cap xs TA n tc PA m pc :=
  { h with bf := h.bf.on hb, ck := Row.below (show Row w _ _ _ from h.ck) hb (Row.lt (show Row w _ _ _ from h.ck)), box := h.box.below hb h.box.lt }
/-- One write more. -/
theorem EncSt.write {w w' : World} {H b wb n : Nat} {A : Option Addr} {cap : Nat} {xs ys : List Nat} {TA : Option Addr} {n' tc : Nat} {PA : Option Addr} {m pc : Nat} {e : Ending} (h : EncSt w H b wb A cap xs TA n' tc PA m pc) (ho : CwOut wb b n A (Ck.ck 1 xs) xs ys w e w') :
    e = .returned (.tuple #[.int .i64 n, .nilIface]) ∧ (∃ (A' : Option Addr) (cap' : Nat), EncSt w' H b wb A' cap' (xs ++ ys) TA n' tc PA m pc) ∧ Below b w w' ∧ w.heap.size ≤ w'.heap.size ∧ (∀ k, k < w.heap.size → wb < k → NotB A k → w'.heap[k]? = w.heap[k]?) := by
  obtain ⟨he, A', cap', h1, h2, h3, h4, h5, h6⟩ := ho
  have hbw := h.hb
  have hwz := h.wz
  have hbl : wb < w.heap.size := Row.lt (show Row w _ _ _ from h.ck)
  refine ⟨he, ⟨A', cap', ⟨h1, by rw [Ck.ck_app]; exact h2, ?_, ?_, ?_, h.hb, h.wz⟩⟩, h5 b (Nat.le_refl _) (by omega) h.ge (by omega), h6, fun k k1 k2 k3 => h4 k k1 (by omega) (by omega) k3⟩
  · rcases h3 with rfl | ⟨g, rfl, hg⟩
    · exact h.nw
    · intro e; simp at e; omega
  · rcases h3 with rfl | ⟨g, rfl, hg⟩
    · exact h.ge
    · intro g' e; simp at e; omega
  · exact (h4 H h.box.lt (by omega) (by omega) (fun e => absurd (h.ge _ e) (by omega))).trans h.box
/-- A write, as a call. -/
theorem EncSt.call {w : World} {H b wb n c cap pb : Nat} {A : Option Addr} {xs ys : List Nat} {TA : Option Addr} {n' tc : Nat} {PA : Option Addr} {m pc : Nat} {B : Nat} (h : EncSt w H b wb A cap xs TA n' tc PA m pc) (hy : ByAt w B ys (some ⟨pb, 0, none⟩) c) (hn : ys.length = n) (h1 : 1 ≤ n) (h64 : n ≤ 64) (hlim : xs.length ≤ 100000) (hl : ∀ y ∈ ys, y < 256) (hB1 : wb < B) (hB2 : ∀ g, A.map (·.block) = some g → g < B) :
    Calls Try.prog 67 #[.pointer (some ⟨wb, 0, none⟩), .slice (some ⟨pb, 0, none⟩) n c] w fun e w' => e = .returned (.tuple #[.int .i64 n, .nilIface]) ∧ (∃ (A' : Option Addr) (cap' : Nat), EncSt w' H b wb A' cap' (xs ++ ys) TA n' tc PA m pc) ∧ Below b w w' ∧ w.heap.size ≤ w'.heap.size ∧ (∀ k, k < w.heap.size → wb < k → NotB A k → w'.heap[k]? = w.heap[k]?) := by
  obtain ⟨a1, a2, a3, a4, a5⟩ := hy.cells
  have hwz := h.wz
  exact (cwrite_any wb b n c cap pb (Ck.ck 1 xs) A xs ys w h.bf h.ck hn h1 h64 (by omega) a3 hlim (Ck.ck_lt (by omega) _) (fun j hj => getD_all hl j (by omega)) (by omega) (by omega) (fun e => absurd (hB2 _ e) (by omega)) a4 h.nw (fun j hj => a1 j (by omega))).mono (fun _ _ ho => h.write ho)
theorem Bf.buf {w : World} {B b cap : Nat} {A : Option Addr} {xs : List Nat} (h : Bf w b A cap xs) (hA : ∀ g, A.map (·.block) = some g → B ≤ g) (hB : B ≤ b) (h1 : 1 ≤ xs.length) : Lib.IsBuffer 89 5 B b (bys xs) w := by
  obtain ⟨⟨lr, hk⟩, hr⟩ := h
  rcases hr with ⟨_, e, _⟩ | ⟨g, cur, rfl, hg, hrow, hc1, _, hc2, hc3, hc4⟩
  · rw [e] at h1; simp at h1
  · refine ⟨hB, _, lr, hk, ?_, ?_⟩
    · rw [bys_len]
      exact ⟨by rw [bys_len]; omega, .inr ⟨g, cap, cur, rfl, hA g rfl, hrow, hc2, hc3, by omega, by rw [Nat.mul_one]; exact hc4⟩⟩
    · intro e
      simp [Value.ownBlock] at e
      exact hg e
/-- What EncodeConfig answers. -/
def IEOut (ts : List Tl) (ps : List Pd) (w : World) (e : Ending) (w' : World) : Prop := (if cfOk ts ps = true then ∃ g cap : Nat, e = .returned (.slice (some ⟨g, 0, none⟩) (enc ts ps).length cap) ∧ ByAt w' w.heap.size (enc ts ps) (some ⟨g, 0, none⟩) cap else e = .returned (.slice none 0 0)) ∧ Below w.heap.size w w'
theorem by2_any (w : World) (x y : Nat) : ByAt (w.alloc (.cells #[.int .u8 (x : Int), .int .u8 (y : Int)] 5)) w.heap.size [x, y] (some ⟨w.heap.size, 0, none⟩) 2 :=
  own_full (n := 2) (z := 1) (row_new w 5 #[.int .u8 (x : Int), .int .u8 (y : Int)]) (Nat.le_refl _) rfl (by simp [maxLen]) rfl (fun j hj => by
    match j, hj with
    | 0, _ => rfl
    | 1, _ => rfl
    | j + 2, hj => simp [bys] at hj; omega)
/-- Two bytes written. -/
theorem EncSt.call2 {w : World} {H b wb cap : Nat} {A : Option Addr} {xs : List Nat} {TA : Option Addr} {n' tc : Nat} {PA : Option Addr} {m pc : Nat} (h : EncSt w H b wb A cap xs TA n' tc PA m pc) (x y : Nat) (hx : x < 256) (hy : y < 256) (hlim : xs.length ≤ 100000) :
    Calls Try.prog 67 #[.pointer (some ⟨wb, 0, none⟩), .slice (some ⟨w.heap.size, 0, none⟩) 2 2] (w.alloc (.cells #[.int .u8 (x : Int), .int .u8 (y : Int)] 5)).drew fun e w' => e = .returned (.tuple #[.int .i64 2, .nilIface]) ∧ (∃ (A' : Option Addr) (cap' : Nat), EncSt w' H b wb A' cap' (xs ++ [x, y]) TA n' tc PA m pc) ∧ Below b w w' ∧ w.heap.size ≤ w'.heap.size ∧ (∀ k, k < w.heap.size → wb < k → NotB A k → w'.heap[k]? = w.heap[k]?) := by
  have hb : Below w.heap.size w (w.alloc (.cells #[.int .u8 (x : Int), .int .u8 (y : Int)] 5)).drew := ((Below.refl _ _).alloc (Nat.le_refl _) _).drew
  have hwb : wb < w.heap.size := Row.lt (show Row w _ _ _ from h.ck)
  have hwz := h.wz
  refine (EncSt.call (n := 2) (h.on hb) ((by2_any w x y).on (Below.refl _ _).drew) rfl (by omega) (by omega) hlim (fun z hz => ?_) hwb h.bf.lt).mono ?_
  · simp at hz
    omega
  · rintro e w' ⟨a1, a2, a3, a4, a5⟩
    exact ⟨a1, a2, (hb.mono (by omega)).trans a3, Nat.le_trans hb.size a4, fun k k1 k2 k3 => (a5 k (Nat.lt_of_lt_of_le k1 hb.size) k2 k3).trans (hb.block k k1)⟩
/-- Two bytes written, in a region that draws no order. -/
theorem EncSt.call3 {w : World} {H b wb cap : Nat} {A : Option Addr} {xs : List Nat} {TA : Option Addr} {n' tc : Nat} {PA : Option Addr} {m pc : Nat} (h : EncSt w H b wb A cap xs TA n' tc PA m pc) (x y : Nat) (hx : x < 256) (hy : y < 256) (hlim : xs.length ≤ 100000) :
    Calls Try.prog 67 #[.pointer (some ⟨wb, 0, none⟩), .slice (some ⟨w.heap.size, 0, none⟩) 2 2] (w.alloc (.cells #[.int .u8 (x : Int), .int .u8 (y : Int)] 5)) fun e w' => e = .returned (.tuple #[.int .i64 2, .nilIface]) ∧ (∃ (A' : Option Addr) (cap' : Nat), EncSt w' H b wb A' cap' (xs ++ [x, y]) TA n' tc PA m pc) ∧ Below b w w' ∧ w.heap.size ≤ w'.heap.size ∧ (∀ k, k < w.heap.size → wb < k → NotB A k → w'.heap[k]? = w.heap[k]?) := by
  have hb : Below w.heap.size w (w.alloc (.cells #[.int .u8 (x : Int), .int .u8 (y : Int)] 5)) := (Below.refl _ _).alloc (Nat.le_refl _) _
  have hwb : wb < w.heap.size := Row.lt (show Row w _ _ _ from h.ck)
  have hwz := h.wz
  refine (EncSt.call (n := 2) (h.on hb) (by2_any w x y) rfl (by omega) (by omega) hlim (fun z hz => ?_) hwb h.bf.lt).mono ?_
  · simp at hz
    omega
  · rintro e w' ⟨a1, a2, a3, a4, a5⟩
    exact ⟨a1, a2, (hb.mono (by omega)).trans a3, Nat.le_trans hb.size a4, fun k k1 k2 k3 => (a5 k (Nat.lt_of_lt_of_le k1 hb.size) k2 k3).trans (hb.block k k1)⟩
theorem enPs_len (ps : List Pd) (k : Nat) : (enPs (ps.take k)).length ≤ 2 * k := by
  have h : ∀ qs : List Pd, (enPs qs).length = 2 * qs.length := fun qs => by
    induction qs with
    | nil => rfl
    | cons q qs ih => unfold enPs at ih ⊢; rw [List.flatMap_cons, List.length_append, ih]; simp [enP]; omega
  rw [h]
  have := List.length_take_le k ps
  omega
set_option maxRecDepth 10000 in
set_option maxHeartbeats 3200000 in
theorem ienc_any (TA PA : Option Addr) (n tc m pc : Nat) (ts : List Tl) (ps : List Pd) (w : World) (hx : TlIn w w.heap.size TA ts) (hy : PdIn w w.heap.size PA ps) (hn : ts.length = n) (hm : ps.length = m) (hr : TlBd ts) (hl : m ≤ 2000000) :
    Calls Try.prog 20 #[cfv TA n tc PA m pc] w (IEOut ts ps w) := by
  have hb0 : Below w.heap.size w (w.alloc (.cells #[.slice TA n tc, .slice PA m pc] 26)) := (Below.refl _ _).alloc (Nat.le_refl _) _
  have HB0 := Lib.hid hb0
  have HR0 := Lib.hid (row_new w 26 #[.slice TA n tc, .slice PA m pc])
  have HV := Lib.hid (icv_any TA PA n tc m pc ts ps _ ((hx.below hb0).mono hb0.size) ((hy.below hb0).mono hb0.size) hn hm hr hl)
  have HX := Lib.hid hx
  have HY := Lib.hid hy
  have HN := Lib.hid hn
  have HM := Lib.hid hm
  clear hx hy hn hm hr hb0
  go_enter Try.func20, Try.ntmps20
  go_wp2_with fail
  generalize w.alloc (.cells #[.slice TA n tc, .slice PA m pc] 26) = w0 at *
  refine HV.out.mono ?_
  rintro e w1 ⟨rfl, hb1⟩
  have HR1 := Lib.hid (HR0.out.below hb1 HR0.out.lt)
  have HB1 := Lib.hid (HB0.out.trans (hb1.mono HB0.out.size))
  clear HV hb1 HR0 HB0
  cases hok : cfOk ts ps
  · have HOK := Lib.hid hok
    clear hok
    go_wp2
    go_ret
    exact ⟨by rw [if_neg (by rw [HOK.out]; simp)]; rfl, HB1.out⟩
  · have HOK := Lib.hid hok
    obtain ⟨q1, q2, q3, q4⟩ := cfOk_parts hok
    have HP3 := Lib.hid q3
    have HT4 := Lib.hid q4
    obtain rfl : n = 25 := by rw [← HN.out]; exact q1
    obtain rfl : m = 3 := by rw [← HM.out]; exact q2
    clear hok q1 q2 q3 q4
    have HBZ : Hid (EncSt ((w1.alloc (.cells #[.slice none 0 0, .int .i64 0, .int .i8 0] 89)).alloc (.cells #[.iface 90 (.pointer (some ⟨w1.heap.size, 0, none⟩)), .int .i64 1] 94)) w.heap.size w1.heap.size (w1.heap.size + 1) none 0 [] TA 25 tc PA 3 pc) := Lib.hid
      ⟨⟨⟨0, row_o1' w1 _ _ _⟩, .inl ⟨rfl, rfl, rfl⟩⟩, row_n1 w1 _ _ _, fun e => by simp at e, fun g e => by simp at e, (Below.heap_alloc _ _ _ (by have := HR1.out.lt; simp; omega)).trans ((Below.heap_alloc _ _ _ HR1.out.lt).trans HR1.out), HR1.out.lt, rfl⟩
    have HL2 : Hid (Below w1.heap.size w1 ((w1.alloc (.cells #[.slice none 0 0, .int .i64 0, .int .i8 0] 89)).alloc (.cells #[.iface 90 (.pointer (some ⟨w1.heap.size, 0, none⟩)), .int .i64 1] 94))) := Lib.hid (((Below.refl _ _).alloc (Nat.le_refl _) _).alloc (by simp) _)
    have c0 := HR1.out.cell 0
    have c1 := HR1.out.cell 1
    simp at c0 c1
    have hzw : w.heap.size < w1.heap.size := HR1.out.lt
    go_upto_region 5 with fail
    generalize (w1.alloc (.cells #[.slice none 0 0, .int .i64 0, .int .i8 0] 89)).alloc (.cells #[.iface 90 (.pointer (some ⟨w1.heap.size, 0, none⟩)), .int .i64 1] 94) = w2 at *
    have c0 := HBZ.out.box.cell 0
    simp at c0
    go_wp2
    clear c0 c1
    go_loopw [18] (fun iv wr => ∃ (k : Nat) (A : Option Addr) (cap : Nat), k ≤ 25 ∧ iv = .int .i64 k ∧ Hid (EncSt wr w.heap.size w1.heap.size (w1.heap.size + 1) A cap (enTs (ts.take k)) TA 25 tc PA 3 pc) ∧ Hid (Below w1.heap.size w1 wr)) (fun iv _ => 25 - (intOf iv).toNat)
    case atStart => exact ⟨0, none, 0, Nat.zero_le _, rfl, HBZ, HL2⟩
    case round =>
      clear HBZ HL2 HR1
      obtain ⟨k, A, cap, hk, rfl, HS, HL⟩ := hrel
      have HW : Hid (Below w.heap.size w wr) := Lib.hid (HB1.out.trans (HL.out.mono (by omega)))
      have hz1 : w1.heap.size ≤ wr.heap.size := HL.out.size
      by_cases hlt : k < 25
      · obtain ⟨b, off, rfl, hbl, A1, c1, A2, c2, ⟨p0, p1, p2, p3⟩, ⟨hA1, hA2⟩, _, _⟩ := HX.out k (by rw [HN.out]; exact hlt)
        have htk := HT4.out k hlt
        obtain ⟨⟨v0, v1⟩, ⟨l1, f1⟩, l2, f2⟩ := tlOk_fit htk
        obtain ⟨en1, en2⟩ := enT_lt htk
        have HSN := Lib.hid (enTs_take ts (show k < ts.length by rw [HN.out]; exact hlt))
        have HLEN : Hid ((enTs (ts.take k)).length ≤ 100000) := Lib.hid (by rw [enTs_len k (by rw [HN.out]; omega) (fun j hj => HT4.out j (by omega))]; omega)
        have hbe : enT (ts.getD k tl0) = enT ((ts.getD k tl0).1, (ts.getD k tl0).2.1, (ts.getD k tl0).2.2.1, (ts.getD k tl0).2.2.2) := rfl
        rw [hbe] at en1 en2 HSN
        have q0 := (HW.out.cell (p := ⟨b, off + k * 4, none⟩) hbl).trans p0
        have q1 := (HW.out.cell (p := ⟨b, off + k * 4 + 1, none⟩) hbl).trans p1
        have q2 := (HW.out.cell (p := ⟨b, off + k * 4 + 2, none⟩) hbl).trans p2
        have q3 := (HW.out.cell (p := ⟨b, off + k * 4 + 3, none⟩) hbl).trans p3
        rw [l1] at q1
        rw [l2] at q3
        clear p0 p1 p2 p3 hbe htk
        generalize (ts.getD k tl0).2.2.2 = y at *
        generalize (ts.getD k tl0).2.2.1 = r at *
        generalize (ts.getD k tl0).2.1 = x at *
        generalize (ts.getD k tl0).1 = v at *
        have hb4 : Below wr.heap.size wr (wr.alloc (.cells #[.int .i64 v, .slice A1 3 c1, .bool r, .slice A2 8 c2] 33)) := (Below.refl _ _).alloc (Nat.le_refl _) _
        have HSB := Lib.hid (setB_any v A1 A2 3 c1 8 c2 r x y (wr.alloc (.cells #[.int .i64 v, .slice A1 3 c1, .bool r, .slice A2 8 c2] 33)) ((((hA1.below HW.out).mono HW.out.size).below hb4).mono hb4.size) ((((hA2.below HW.out).mono HW.out.size).below hb4).mono hb4.size) l1 l2 v0 v1 f1 f2 (by omega) (by omega))
        have HS4 := Lib.hid (HS.out.on hb4)
        have HL4 := Lib.hid (HL.out.trans (hb4.mono hz1))
        have HEN := Lib.hid (And.intro en1 en2)
        have hwr : w1.heap.size + 1 < wr.heap.size := Row.lt (show Row wr _ _ _ from HS.out.ck)
        have HAL := Lib.hid HS.out.bf.lt
        have hz4 : (wr.alloc (.cells #[.int .i64 v, .slice A1 3 c1, .bool r, .slice A2 8 c2] 33)).heap.size = wr.heap.size + 1 := by simp
        clear hA1 hA2 v0 v1 l1 l2 f1 f2 en1 en2 hb4 HS HL
        go_wp2_with fail
        obtain ⟨w4, h4⟩ : ∃ w4, w4 = wr.alloc (.cells #[.int .i64 v, .slice A1 3 c1, .bool r, .slice A2 8 c2] 33) := ⟨_, rfl⟩
        rw [← h4] at HSB HS4 HL4 hz4
        rw [← h4]
        clear h4
        refine HSB.out.mono ?_
        rintro e w5 ⟨g5, k5, rfl, hX5, hb5⟩
        have HS5 := Lib.hid (HS4.out.on hb5)
        have HL5 := Lib.hid (HL4.out.trans (hb5.mono (by omega)))
        have HWR := Lib.hid (EncSt.call (n := 13) HS5.out hX5 HEN.out.1 (by omega) (by omega) HLEN.out HEN.out.2 (by omega) (fun g e => by have := HAL.out g e; omega))
        clear HSB HS4 HL4 hX5 hb5 q0 q1 q2 q3
        go_wp2_with fail
        refine HWR.out.mono ?_
        rintro e w6 ⟨rfl, ⟨A6, cap6, hs6⟩, hb6, hz6, _⟩
        have HS6 : Hid (EncSt w6 w.heap.size w1.heap.size (w1.heap.size + 1) A6 cap6 (enTs (ts.take (k + 1))) (some ⟨b, off, none⟩) 25 tc PA 3 pc) := Lib.hid (by rw [HSN.out]; exact hs6)
        have HL6 := Lib.hid (HL5.out.trans hb6)
        clear HWR hs6 hb6 HS5 HL5 HSN HLEN HEN HAL hz4 HW
        go_wp2
        go_roundw
        case rel => exact ⟨k + 1, A6, cap6, by omega, by go_num, HS6, HL6⟩
        case measure => simp [intOf]; omega
      · obtain rfl : k = 25 := by omega
        have hle : (enTs (ts.take 25)).length ≤ 1000 := by rw [enTs_len 25 (by rw [HN.out]; exact Nat.le_refl _) (fun j hj => HT4.out j (by omega))]; omega
        have htk : ts.take 25 = ts := List.take_of_length_le (by rw [HN.out]; exact Nat.le_refl _)
        rw [htk] at hle
        have hs7 : EncSt wr w.heap.size w1.heap.size (w1.heap.size + 1) A cap (enTs ts ++ enPs (ps.take 0)) TA 25 tc PA 3 pc := by
          have h := HS.out
          rw [htk] at h
          simpa [enPs] using h
        have HS7 := Lib.hid hs7
        have HLE := Lib.hid hle
        have cb := HS.out.box.cell 1
        simp at cb
        clear hs7 HS HX HT4 hle htk hlt hk
        obtain ⟨w7, h7⟩ : ∃ w7, w7 = wr := ⟨_, rfl⟩
        subst h7
        go_wp2
        clear cb
        rw [show ((25 : Nat) : Int) = 25 from rfl]
        go_loopw [29] (fun iv wr => ∃ (k : Nat) (A : Option Addr) (cap : Nat), k ≤ 3 ∧ iv = .int .i64 k ∧ Hid (EncSt wr w.heap.size w1.heap.size (w1.heap.size + 1) A cap (enTs ts ++ enPs (ps.take k)) TA 25 tc PA 3 pc) ∧ Hid (Below w1.heap.size w1 wr)) (fun iv _ => 3 - (intOf iv).toNat)
        case atStart => exact ⟨0, A, cap, Nat.zero_le _, rfl, HS7, HL⟩
        case round =>
          clear HS7 HL HW hz1
          obtain ⟨k, A, cap, hk, rfl, HS, HL⟩ := hrel
          have HW : Hid (Below w.heap.size w wr) := Lib.hid (HB1.out.trans (HL.out.mono (by omega)))
          have hz1 : w1.heap.size ≤ wr.heap.size := HL.out.size
          by_cases hlt : k < 3
          · obtain ⟨b, off, rfl, hbl, p0, p1⟩ := HY.out k (by rw [HM.out]; exact hlt)
            obtain ⟨v0, v1⟩ := HP3.out k hlt
            have HSN := Lib.hid (enPs_take ps (show k < ps.length by rw [HM.out]; exact hlt))
            have HLEN : Hid ((enTs ts ++ enPs (ps.take k)).length ≤ 100000) := Lib.hid (by rw [List.length_append]; have := enPs_len ps k; have := HLE.out; omega)
            have hbe : enP (ps.getD k pd0) = [(ps.getD k pd0).1.toNat, (ps.getD k pd0).2.toNat] := rfl
            rw [hbe] at HSN
            have q0 := (HW.out.cell (p := ⟨b, off + k * 2, none⟩) hbl).trans p0
            have q1 := (HW.out.cell (p := ⟨b, off + k * 2 + 1, none⟩) hbl).trans p1
            clear p0 p1 hbe
            generalize (ps.getD k pd0).2 = o at *
            generalize (ps.getD k pd0).1 = v at *
            obtain ⟨v, rfl⟩ := Int.eq_ofNat_of_zero_le v0
            have HSN := Lib.hid (show enPs (ps.take (k + 1)) = enPs (ps.take k) ++ [v, o.toNat] from HSN.out)
            have hb4 : Below wr.heap.size wr (wr.alloc (.cells #[.int .i64 (v : Int), .bool o] 81)) := (Below.refl _ _).alloc (Nat.le_refl _) _
            have HS4 := Lib.hid (HS.out.on hb4)
            have HL4 := Lib.hid (HL.out.trans (hb4.mono hz1))
            have hwr : w1.heap.size + 1 < wr.heap.size := Row.lt (show Row wr _ _ _ from HS.out.ck)
            have HAL := Lib.hid HS.out.bf.lt
            have hz4 : wr.heap.size < (wr.alloc (.cells #[.int .i64 (v : Int), .bool o] 81)).heap.size := by simp
            have HR4 := Lib.hid (row_new wr 81 #[.int .i64 (v : Int), .bool o])
            clear hb4 HS HL
            go_upto_region 13 with fail
            clear c0
            have c0 : (wr.alloc (.cells #[.int .i64 (v : Int), .bool o] 81)).cell? ⟨wr.heap.size, 0, none⟩ = some (.int .i64 (v : Int)) := HR4.out.cell 0
            have c1 : (wr.alloc (.cells #[.int .i64 (v : Int), .bool o] 81)).cell? ⟨wr.heap.size, 1, none⟩ = some (.bool o) := HR4.out.cell 1
            clear HR4 q0 q1 HW
            obtain ⟨w4, h4⟩ : ∃ w4, w4 = wr.alloc (.cells #[.int .i64 (v : Int), .bool o] 81) := ⟨_, rfl⟩
            rw [← h4] at HS4 HL4 hz4 c0 c1
            change Code.wp _ _ _ _ (wr.alloc (.cells #[.int .i64 (v : Int), .bool o] 81))
            rw [← h4]
            clear h4
            have hv8 : IntKind.u8.wrap (v : Int) = (v : Int) := IntWalk.u8_in _ (by omega)
            have HWR := Lib.hid (EncSt.call2 HS4.out v o.toNat (by omega) (by cases o <;> decide) HLEN.out)
            have HFR : Hid (∀ w6 : World, (∀ k, k < w4.heap.size → w1.heap.size + 1 < k → NotB A k → w6.heap[k]? = w4.heap[k]?) → w6.cell? ⟨wr.heap.size, 0, none⟩ = some (.int .i64 (v : Int)) ∧ w6.cell? ⟨wr.heap.size, 1, none⟩ = some (.bool o)) := Lib.hid (fun w6 hf => by
              have hf' := hf wr.heap.size hz4 hwr (fun e => absurd (HAL.out _ e) (Nat.lt_irrefl _))
              exact ⟨(World.cell?_of_block (a := ⟨wr.heap.size, 0, none⟩) hf').trans c0, (World.cell?_of_block (a := ⟨wr.heap.size, 1, none⟩) hf').trans c1⟩)
            go_region_held3 (fun w' => w'.cell? ⟨wr.heap.size, 0, none⟩ = some (.int .i64 (v : Int)) ∧ w'.cell? ⟨wr.heap.size, 1, none⟩ = some (.bool o))
              (first | (with_reducible assumption) | go_keep)
              (first
                | (go_at_call 69; refine (flag_any _ _).mono ?_; rintro e w3 ⟨rfl, rfl⟩)
                | (go_at_call 67; refine HWR.out.mono ?_; rintro e w6 ⟨rfl, ⟨A6, cap6, hs6⟩, hb6, hz6, hf6⟩; have hS3 := HFR.out w6 hf6))
            rename_i _hheld
            clear _hheld hS3 hf6 HFR
            have HS6 : Hid (EncSt w6 w.heap.size w1.heap.size (w1.heap.size + 1) A6 cap6 (enTs ts ++ enPs (ps.take (k + 1))) TA 25 tc (some ⟨b, off, none⟩) 3 pc) := Lib.hid (by rw [HSN.out, ← List.append_assoc]; exact hs6)
            have HL6 := Lib.hid (HL4.out.trans hb6)
            clear HWR hs6 hb6 HS4 HL4 HSN HLEN HAL hz4 hz6 c0 c1
            go_wp2
            go_roundw
            case rel => first | exact ⟨k + 1, A6, cap6, by omega, by go_num, HS6, HL6⟩ | (trace_state; fail "REL")
            case measure => simp [intOf]; omega
          · obtain rfl : k = 3 := by omega
            have htk : ps.take 3 = ps := List.take_of_length_le (by rw [HM.out]; exact Nat.le_refl _)
            have hle : (enTs ts ++ enPs ps).length ≤ 2000 := by
              have h1 := enPs_len ps 3
              rw [htk] at h1
              rw [List.length_append]
              have := HLE.out
              omega
            have hs8 := HS.out
            rw [htk] at hs8
            have HS8 := Lib.hid hs8
            have HLE2 := Lib.hid hle
            clear htk hle hs8 HS HLE
            obtain ⟨w8, h8⟩ : ∃ w8, w8 = wr := ⟨_, rfl⟩
            subst h8
            obtain ⟨sm, hsm⟩ : ∃ sm : Nat, sm = Ck.ck 1 (enTs ts ++ enPs ps) := ⟨_, rfl⟩
            have hs2 : sm < 65521 := by rw [hsm]; exact Ck.ck_lt (by omega) _
            have hck : Row w8 (w1.heap.size + 1) 94 #[.iface 90 (.pointer (some ⟨w1.heap.size, 0, none⟩)), .int .i64 (sm : Int)] := by rw [hsm]; exact HS8.out.ck
            have d1 : w8.cell? ⟨w1.heap.size + 1, 1, none⟩ = some (.int .i64 (sm : Int)) := hck.cell 1
            have HSM := Lib.hid hsm
            have hu1 : IntKind.u8.wrap (sm : Int) = (sm : Int) % 256 := by rw [IntKind.wrap_u8]
            have hu2 : IntKind.u8.wrap ((sm : Int) / 256) = (sm : Int) / 256 := by rw [IntKind.wrap_u8]; omega
            have HW8 := Lib.hid (EncSt.call3 HS8.out (sm / 256) (sm % 256) (by omega) (by omega) (by have := HLE2.out; omega))
            clear hsm hck HS8 hlt hk c0
            go_wp2_with fail
            have hca : ((sm / 256 : Nat) : Int) = (sm : Int) / 256 := by omega
            have hcb : ((sm % 256 : Nat) : Int) = (sm : Int) % 256 := by omega
            have hw8 := HW8.out
            rw [hca, hcb] at hw8
            refine hw8.mono ?_
            clear hw8 hca hcb hu1 hu2 d1 HW8
            rintro e w9 ⟨rfl, ⟨A9, cap9, hs9⟩, hb9, _, _⟩
            have HS9 : Hid (EncSt w9 w.heap.size w1.heap.size (w1.heap.size + 1) A9 cap9 (enc ts ps) TA 25 tc PA 3 pc) := Lib.hid (by unfold enc sumB; rw [← HSM.out]; exact hs9)
            have HL9 := Lib.hid (HW.out.trans (hb9.mono (by omega)))
            clear hs9 hb9 HSM hs2
            go_wp2_with fail
            have hl1 : 1 ≤ (enc ts ps).length := by unfold enc sumB; simp; omega
            refine (bufBytes_any w.heap.size w1.heap.size (bys (enc ts ps)) w9 (HS9.out.bf.buf (fun g e => Nat.le_trans (Nat.le_of_lt hzw) (HS9.out.ge g e)) (Nat.le_of_lt hzw) hl1)).mono ?_
            rintro e w10 ⟨v, rfl, hv, nn, rfl⟩
            rw [bys_len] at hv
            obtain ⟨g, cp, rfl⟩ : ∃ g cp : Nat, v = .slice (some ⟨g, 0, none⟩) (enc ts ps).length cp := by
              rcases hv.2 with ⟨_, h0⟩ | ⟨g, cp, _, e, _⟩
              · omega
              · exact ⟨g, cp, e⟩
            have HV := Lib.hid (show ByAt _ w.heap.size (enc ts ps) (some ⟨g, 0, none⟩) cp from hv)
            have HL10 := Lib.hid (show Below w.heap.size w (w9.drewN nn) from HL9.out.trans ⟨rfl, rfl, rfl, Nat.le_refl _, fun _ _ => rfl⟩)
            clear hv hl1 HS9 HL9
            go_wp2
            go_ret
            exact ⟨by rw [if_pos HOK.out]; exact ⟨g, cp, rfl, HV.out⟩, HL10.out⟩
end Go.Proofs.Ytkkkkalgfmddbaa
/- The model's byte of a flag and its checksum walked. -/
namespace Go.Proofs.Ytkkkkalgfmddbaa
open Go.RowKit Go.Deep Cut

theorem bitS_any (b : Bool) (w : World) : Calls Try.prog 73 #[.bool b] w fun e w' => e = .returned (.int .i64 (b.toNat : Int)) ∧ w = w' := by
  cases b
  · go_enter Try.func73, Try.ntmps73
    go_wp2
    go_ret
    exact ⟨rfl, rfl⟩
  · go_enter Try.func73, Try.ntmps73
    go_wp2
    go_ret
    exact ⟨rfl, rfl⟩
set_option maxRecDepth 10000 in
set_option maxHeartbeats 800000 in
theorem sumS_any (B cap n g : Nat) (xs : List Nat) (w : World) (h : ByAt w B xs (some ⟨g, 0, none⟩) cap) (hn : xs.length = n) (hl : n ≤ 100000) (hb : ∀ j, j < n → xs.getD j 0 < 256) :
    Calls Try.prog 74 #[.slice (some ⟨g, 0, none⟩) n cap] w fun e w' => e = .returned (.int .i64 ((Ck.ck 1 xs : Nat) : Int)) ∧ w = w' := by
  have HS := Lib.hid (h.cells.1)
  have HN := Lib.hid hn
  have HY := Lib.hid hb
  clear h hb
  go_enter Try.func74, Try.ntmps74
  go_wp2
  go_loopw [3, 4] (fun sv iv wr => ∃ (k : Nat), k ≤ n ∧ iv = .int .i64 k ∧ sv = .int .i64 ((Ck.ck 1 (xs.take k) : Nat) : Int) ∧ wr = w) (fun _ iv _ => n - (intOf iv).toNat)
  case atStart => exact ⟨0, Nat.zero_le _, rfl, rfl, rfl⟩
  case round =>
    obtain ⟨k, hk, rfl, rfl, rfl⟩ := hrel
    by_cases hlt : k < n
    · have hp := HS.out k (by rw [HN.out]; exact hlt)
      have hyk := HY.out k hlt
      have HCK := Lib.hid (ck_take 1 xs (show k < xs.length by rw [HN.out]; exact hlt))
      have hsl : Ck.ck 1 (xs.take k) < 65521 := Ck.ck_lt (by omega) _
      generalize xs.getD k 0 = y at *
      obtain ⟨q, hq⟩ : ∃ q, Ck.ck 1 (xs.take k) = q := ⟨_, rfl⟩
      rw [hq] at hsl HCK
      rw [hq]
      have hst : Ck.stepC q y = (q * 257 + y + 1) % 65521 := rfl
      have e1 : ((q : Int) * 257 + (y : Int) + 1).tmod 65521 = ((Ck.stepC q y : Nat) : Int) := by rw [Int.tmod_eq_emod_of_nonneg (by omega), hst]; omega
      have e2 : ((q : Int) * 257 + (y : Int) + 1) % 65521 = ((Ck.stepC q y : Nat) : Int) := by rw [hst]; omega
      have hu8 : IntKind.i64.wrap (y : Int) = (y : Int) := IntWalk.i64_in _ (by omega)
      clear hst hq
      generalize Ck.stepC q y = q2 at *
      go_wp2
      go_roundw
      case rel => exact ⟨k + 1, by omega, by go_num, by rw [HCK.out], trivial⟩
      case measure => simp [intOf]; omega
    · obtain rfl : k = n := by omega
      go_wp2
      go_ret
      rw [← HN.out, List.take_length]
      exact ⟨rfl, rfl⟩
/-- Two bytes appended. -/
theorem wpList_pushBy2 {ops : Array Oper} {rest : List Oper} {o : Oper} {a : Act} {Q : Exit → Act → World → Prop} (hgd : o.guard = none) (s x' : Operand) (ho : o.op = .call { callee := .builtin .append, args := #[s, x'], argTypes := #[22, 22] })
    (wr : World) (B cap n : Nat) (A : Option Addr) (xs : List Nat) (hev : a.eval s = .slice A n cap) (hn : xs.length = n) (h : ByAt wr B xs A cap) (hnb : n ≤ 100000) (hB : B ≤ wr.heap.size)
    (v u : Nat) (hx' : a.eval x' = .slice (some ⟨wr.heap.size, 0, none⟩) 2 2)
    (cont : ∀ g' cap' w5, ByAt w5 B (xs ++ [v, u]) (some ⟨g', 0, none⟩) cap' → Below B wr w5 → (∀ b, b < wr.heap.size → NotB A b → w5.heap[b]? = wr.heap[b]?) → wpList Try.prog ops Q rest (a.put o.dst (.slice (some ⟨g', 0, none⟩) (n + 2) cap')) w5) :
    wpList Try.prog ops Q (o :: rest) a (wr.alloc (.cells #[.int .u8 (v : Int), .int .u8 (u : Int)] 5)) := by
  subst hn
  obtain ⟨i0, hi0, hz0, hz1, hz2⟩ := info_split Try.infoBy
  refine wpList_append_kept _ hgd s x' 22 ho B 5 i0 _ 1 1 Try.underlying22 hi0 hz0 hz1 hz2 rfl (by omega) (.slice A xs.length cap) xs.length (bys xs) hev (World.ownsRow.alloc h _) ⟨wr.heap.size, 0, none⟩ 2 2 [.int .u8 (v : Int), .int .u8 (u : Int)] hx' rfl (World.news_of_block (cs := #[.int .u8 (v : Int), .int .u8 (u : Int)]) (t := 5) (fr := (0, 0)) (heap_alloc_new wr _)) (by simp [Value.oneCell']) (by omega) (by simp [maxLen]; omega) (by omega) (by simp; omega) _ rfl ?_
  intro g' cap' w5 hown5 hgr5 hat5 hlt5 hkept5
  exact cont g' cap' w5 (by unfold ByAt; rw [List.length_append, bys_app]; exact hown5) (below_alloc_grownA hgr5 hB (fun g e => (own_ltA h g e).1)) (offA_grown hgr5)
end Go.Proofs.Ytkkkkalgfmddbaa
/- The contract of the model's EncodeConfig. -/
namespace Go.Proofs.Ytkkkkalgfmddbaa
open Go.RowKit Go.Deep Cut

/-- While the model writes bytes: the bytes, and one box beside them. -/
structure TbSt (w : World) (B tb : Nat) (xs : List Nat) (A : Option Addr) (cap : Nat) (cs : Array Value) : Prop where
  byt : ByAt w B xs A cap
  box : Row w tb 33 cs
  ne : NotB A tb
theorem TbSt.on {w w' : World} {B tb : Nat} {xs : List Nat} {A : Option Addr} {cap : Nat} {cs : Array Value} (h : TbSt w B tb xs A cap cs) (hb : Below w.heap.size w w') : TbSt w' B tb xs A cap cs := ⟨h.byt.on hb, h.box.below hb h.box.lt, h.ne⟩
theorem wpList_pushTb {ops : Array Oper} {rest : List Oper} {o : Oper} {a : Act} {Q : Exit → Act → World → Prop} (hgd : o.guard = none) (s x' : Operand) (ho : o.op = .call { callee := .builtin .append, args := #[s, x'], argTypes := #[22, 22] })
    (wr : World) (B tb cap n : Nat) (A : Option Addr) (xs : List Nat) (cs : Array Value) (hev : a.eval s = .slice A n cap) (hn : xs.length = n) (h : TbSt wr B tb xs A cap cs) (hnb : n ≤ 100000) (hB : B ≤ wr.heap.size)
    (v : Nat) (hx' : a.eval x' = .slice (some ⟨wr.heap.size, 0, none⟩) 1 1)
    (cont : ∀ g' cap' w5, TbSt w5 B tb (xs ++ [v]) (some ⟨g', 0, none⟩) cap' cs → Below B wr w5 → wpList Try.prog ops Q rest (a.put o.dst (.slice (some ⟨g', 0, none⟩) (n + 1) cap')) w5) :
    wpList Try.prog ops Q (o :: rest) a (wr.alloc (.cells #[.int .u8 (v : Int)] 5)) := by
  subst hn
  obtain ⟨i0, hi0, hz0, hz1, hz2⟩ := info_split Try.infoBy
  refine wpList_append_kept _ hgd s x' 22 ho B 5 i0 _ 1 1 Try.underlying22 hi0 hz0 hz1 hz2 rfl (by omega) (.slice A xs.length cap) xs.length (bys xs) hev (World.ownsRow.alloc h.byt _) ⟨wr.heap.size, 0, none⟩ 1 1 [.int .u8 (v : Int)] hx' rfl (World.news_of_block (cs := #[.int .u8 (v : Int)]) (t := 5) (fr := (0, 0)) (heap_alloc_new wr _)) (by simp [Value.oneCell']) (by omega) (by simp [maxLen]; omega) (by omega) (by simp; omega) _ rfl ?_
  intro g' cap' w5 hown5 hgr5 hat5 hlt5 hkept5
  refine cont g' cap' w5 ⟨by unfold ByAt; rw [List.length_append, List.length_singleton, bys_snoc]; exact hown5, (offA_grown hgr5 tb h.box.lt h.ne).trans h.box, ?_⟩ (below_alloc_grownA hgr5 hB (fun g e => (own_ltA h.byt g e).1))
  have h1 := h.box.lt
  rcases hat5 with h2 | h2
  · rw [ownBlock_map] at h2
    unfold NotB
    have h3 := h.ne
    unfold NotB at h3
    rw [h2] at h3
    exact h3
  · simp at h2
    unfold NotB
    simp
    omega
/-- Two bytes appended where the order is drawn. -/
theorem step_pushBy2 {ops : Array Oper} {o : Oper} {a : Act} {Q : Exit → Act → World → Prop} {K : Act → World → Prop} {E : Prop} (hgd : o.guard = none) (s x' : Operand) (ho : o.op = .call { callee := .builtin .append, args := #[s, x'], argTypes := #[22, 22] })
    (wr : World) (B cap n : Nat) (A : Option Addr) (xs : List Nat) (hev : a.eval s = .slice A n cap) (hn : xs.length = n) (h : ByAt wr B xs A cap) (hnb : n ≤ 100000) (hB : B ≤ wr.heap.size)
    (v u : Nat) (hx' : a.eval x' = .slice (some ⟨wr.heap.size, 0, none⟩) 2 2)
    (cont : ∀ g' cap' w5, ByAt w5 B (xs ++ [v, u]) (some ⟨g', 0, none⟩) cap' → Below B wr w5 → K (a.put o.dst (.slice (some ⟨g', 0, none⟩) (n + 2) cap')) w5) :
    if Region.wanted o (yielded ops a.tmps) = true then Oper.wp Try.prog o a (wr.alloc (.cells #[.int .u8 (v : Int), .int .u8 (u : Int)] 5)) K Q else E := by
  subst hn
  obtain ⟨i0, hi0, hz0, hz1, hz2⟩ := info_split Try.infoBy
  refine step_append_kept _ hgd s x' 22 ho B 5 i0 _ 1 1 Try.underlying22 hi0 hz0 hz1 hz2 rfl (by omega) (.slice A xs.length cap) xs.length (bys xs) hev (World.ownsRow.alloc h _) ⟨wr.heap.size, 0, none⟩ 2 2 [.int .u8 (v : Int), .int .u8 (u : Int)] hx' rfl (World.news_of_block (cs := #[.int .u8 (v : Int), .int .u8 (u : Int)]) (t := 5) (fr := (0, 0)) (heap_alloc_new wr _)) (by simp [Value.oneCell']) (by omega) (by simp [maxLen]; omega) (by omega) (by simp; omega) _ rfl ?_
  intro g' cap' w5 hown5 hgr5 hat5 hlt5 hkept5
  exact cont g' cap' w5 (by unfold ByAt; rw [List.length_append, bys_app]; exact hown5) (below_alloc_grownA hgr5 hB (fun g e => (own_ltA h g e).1))
/-- The bytes of a configuration, none if it is invalid. -/
def encS (ts : List Tl) (ps : List Pd) : List Nat := if cfOk ts ps = true then enc ts ps else []
theorem enPs_eq (ps : List Pd) : (enPs ps).length = 2 * ps.length := by
  induction ps with
  | nil => rfl
  | cons a t ih => simp only [enPs, List.flatMap_cons, List.length_append, List.length_cons] at ih ⊢; rw [ih]; simp [enP]; omega
theorem enB_lt {ts : List Tl} {ps : List Pd} (h : cfOk ts ps = true) : ∀ y ∈ enTs ts ++ enPs ps, y < 256 := fun y hy => by
  obtain ⟨h1, h2, h3, h4⟩ := cfOk_parts h
  rw [List.mem_append] at hy
  unfold enTs enPs at hy
  rw [List.mem_flatMap, List.mem_flatMap] at hy
  rcases hy with ⟨t, ht, hy⟩ | ⟨p, hp, hy⟩
  · obtain ⟨i, hi, rfl⟩ := List.getElem_of_mem ht
    have h5 := h4 i (by omega)
    rw [List.getD_eq_getElem?_getD, List.getElem?_eq_getElem hi] at h5
    exact (enT_lt h5).2 y hy
  · obtain ⟨i, hi, rfl⟩ := List.getElem_of_mem hp
    have h5 := h3 i (by omega)
    rw [List.getD_eq_getElem?_getD, List.getElem?_eq_getElem hi] at h5
    simp only [enP, List.mem_cons, List.not_mem_nil, or_false] at hy
    simp at h5
    rcases hy with rfl | rfl
    · omega
    · cases ps[i].2 <;> decide
def SEOut (ts : List Tl) (ps : List Pd) (w : World) (e : Ending) (w' : World) : Prop := (∃ (A : Option Addr) (cap : Nat), e = .returned (.slice A (encS ts ps).length cap) ∧ ByAt w' w.heap.size (encS ts ps) A cap) ∧ Below w.heap.size w w'
theorem IEOut.s {ts : List Tl} {ps : List Pd} {w w' : World} {e : Ending} (h : IEOut ts ps w e w') : SEOut ts ps w e w' := by
  refine ⟨?_, h.2⟩
  have h1 := h.1
  unfold encS
  cases hc : cfOk ts ps
  · rw [if_neg (by rw [hc]; simp)] at h1
    exact ⟨none, 0, by rw [h1]; rfl, ByAt.nil _ _⟩
  · rw [if_pos hc] at h1
    obtain ⟨g, cap, e1, e2⟩ := h1
    exact ⟨_, cap, e1, e2⟩
theorem ByAt.empty (w : World) (B g : Nat) (hB : B ≤ g) (h : Row w g 5 #[]) : ByAt w B [] (some ⟨g, 0, none⟩) 0 :=
  own_full (n := 0) (z := 1) h hB rfl (by simp [maxLen]) rfl (HasC.nil _)
set_option maxRecDepth 10000 in
set_option maxHeartbeats 3200000 in
theorem senc_any (TA PA : Option Addr) (n tc m pc : Nat) (ts : List Tl) (ps : List Pd) (w : World) (hx : TlIn w w.heap.size TA ts) (hy : PdIn w w.heap.size PA ps) (hn : ts.length = n) (hm : ps.length = m) :
    Calls Try.prog 23 #[cfv TA n tc PA m pc] w (SEOut ts ps w) := by
  have hb0 : Below w.heap.size w ((w.alloc (.cells #[.slice TA n tc, .slice PA m pc] 26)).alloc (.cells #[] 5)) := ((Below.refl _ _).alloc (Nat.le_refl _) _).alloc (by simp) _
  have hz0 : ((w.alloc (.cells #[.slice TA n tc, .slice PA m pc] 26)).alloc (.cells #[] 5)).heap.size = w.heap.size + 2 := by simp
  have HB0 := Lib.hid hb0
  have HR0 := Lib.hid (row_o1' w (.cells #[] 5) 26 #[.slice TA n tc, .slice PA m pc])
  have HY0 := Lib.hid (ByAt.empty _ (w.heap.size + 1) (w.heap.size + 1) (Nat.le_refl _) (row_n1 w (.cells #[.slice TA n tc, .slice PA m pc] 26) 5 #[]))
  have HV := Lib.hid (scv_any TA PA n tc m pc ts ps _ ((hx.below hb0).mono hb0.size) ((hy.below hb0).mono hb0.size) hn hm)
  have HX := Lib.hid hx
  have HY := Lib.hid hy
  have HN := Lib.hid hn
  have HM := Lib.hid hm
  have c0 := HR0.out.cell 0
  have c1 := HR0.out.cell 1
  simp at c0 c1
  clear hx hy hn hm hb0
  go_enter Try.func23, Try.ntmps23
  go_wp2_with fail
  have HY0 : Hid (ByAt ((w.alloc (.cells #[.slice TA n tc, .slice PA m pc] 26)).alloc (.cells #[] 5)) (w.heap.size + 1) [] (some ⟨w.heap.size + 1, 0, none⟩) 0) := HY0
  generalize (w.alloc (.cells #[.slice TA n tc, .slice PA m pc] 26)).alloc (.cells #[] 5) = w0 at *
  refine HV.out.mono ?_
  rintro e w1 ⟨rfl, hb1⟩
  have HR1 := Lib.hid (HR0.out.below hb1 HR0.out.lt)
  have HB1 := Lib.hid (HB0.out.trans (hb1.mono HB0.out.size))
  have HY1 := Lib.hid (HY0.out.on hb1)
  have hz1 : w.heap.size + 2 ≤ w1.heap.size := by have := hb1.size; omega
  clear HV hb1 HR0 HB0 HY0 c0 c1
  cases hok : cfOk ts ps
  · have HE : Hid (encS ts ps = []) := Lib.hid (by unfold encS; rw [if_neg (by rw [hok]; simp)])
    clear hok
    go_wp2
    go_ret
    unfold SEOut
    rw [HE.out]
    exact ⟨⟨_, 0, rfl, own_low2 HY1.out (by omega)⟩, HB1.out⟩
  · have HE : Hid (encS ts ps = enc ts ps) := Lib.hid (by unfold encS; rw [if_pos hok])
    obtain ⟨q1, q2, q3, q4⟩ := cfOk_parts hok
    have HP3 := Lib.hid q3
    have HT4 := Lib.hid q4
    have HBY := Lib.hid (enB_lt hok)
    obtain rfl : n = 25 := by rw [← HN.out]; exact q1
    obtain rfl : m = 3 := by rw [← HM.out]; exact q2
    clear hok q1 q2 q3 q4
    have HL1 : Hid (Below (w.heap.size + 1) w1 w1) := Lib.hid (Below.refl _ _)
    go_wp2
    go_loopw [3, 4] (fun sv iv wr => ∃ (k : Nat) (D : Option Addr) (dc : Nat), k ≤ 25 ∧ iv = .int .i64 k ∧ sv = .slice D (13 * k) dc ∧ Hid (ByAt wr (w.heap.size + 1) (enTs (ts.take k)) D dc) ∧ Hid (Below (w.heap.size + 1) w1 wr)) (fun _ iv _ => 25 - (intOf iv).toNat)
    case atStart => exact ⟨0, _, 0, Nat.zero_le _, rfl, rfl, HY1, HL1⟩
    case round =>
      clear HY1 HL1
      obtain ⟨k, D, dc, hk, rfl, rfl, HS, HL⟩ := hrel
      have HW : Hid (Below w.heap.size w wr) := Lib.hid (HB1.out.trans (HL.out.mono (by omega)))
      have hzw : w1.heap.size ≤ wr.heap.size := HL.out.size
      have HRk := Lib.hid (HR1.out.below HL.out (by omega))
      have c0 := HRk.out.cell 0
      have c1 := HRk.out.cell 1
      simp at c0 c1
      by_cases hlt : k < 25
      · obtain ⟨b, off, rfl, hbl, A1, c1', A2, c2', ⟨p0, p1, p2, p3⟩, ⟨hA1, hA2⟩, _, _⟩ := HX.out k (by rw [HN.out]; exact hlt)
        have htk := HT4.out k hlt
        obtain ⟨⟨v0, v1⟩, ⟨l1, f1⟩, l2, f2⟩ := tlOk_fit htk
        have HSN := Lib.hid (enTs_take ts (show k < ts.length by rw [HN.out]; exact hlt))
        have HLEN : Hid ((enTs (ts.take k)).length = 13 * k) := Lib.hid (enTs_len k (by rw [HN.out]; omega) (fun j hj => HT4.out j (by omega)))
        have hbe : enT (ts.getD k tl0) = [(ts.getD k tl0).1.toNat] ++ nats (ts.getD k tl0).2.1 ++ [(ts.getD k tl0).2.2.1.toNat] ++ nats (ts.getD k tl0).2.2.2 := rfl
        rw [hbe] at HSN
        have q0 := (HW.out.cell (p := ⟨b, off + k * 4, none⟩) hbl).trans p0
        have q1 := (HW.out.cell (p := ⟨b, off + k * 4 + 1, none⟩) hbl).trans p1
        have q2 := (HW.out.cell (p := ⟨b, off + k * 4 + 2, none⟩) hbl).trans p2
        have q3 := (HW.out.cell (p := ⟨b, off + k * 4 + 3, none⟩) hbl).trans p3
        rw [l1] at q1
        rw [l2] at q3
        have HA1 := Lib.hid hA1
        have HA2 := Lib.hid hA2
        have HF1 := Lib.hid f1
        have HF2 := Lib.hid f2
        have HL1 := Lib.hid l1
        have HL2 := Lib.hid l2
        clear p0 p1 p2 p3 hbe htk hA1 hA2 f1 f2 l1 l2
        generalize (ts.getD k tl0).2.2.2 = y at *
        generalize (ts.getD k tl0).2.2.1 = r at *
        generalize (ts.getD k tl0).2.1 = x at *
        generalize (ts.getD k tl0).1 = v at *
        obtain ⟨v, rfl⟩ := Int.eq_ofNat_of_zero_le v0
        have hv8 : IntKind.u8.wrap (v : Int) = (v : Int) := IntWalk.u8_in _ (by omega)
        have hb4 : Below wr.heap.size wr (wr.alloc (.cells #[.int .i64 (v : Int), .slice A1 3 c1', .bool r, .slice A2 8 c2'] 33)) := (Below.refl _ _).alloc (Nat.le_refl _) _
        have HS4 : Hid (TbSt (wr.alloc (.cells #[.int .i64 (v : Int), .slice A1 3 c1', .bool r, .slice A2 8 c2'] 33)) (w.heap.size + 1) wr.heap.size (enTs (ts.take k)) D dc #[.int .i64 (v : Int), .slice A1 3 c1', .bool r, .slice A2 8 c2']) := Lib.hid ⟨HS.out.on hb4, row_new wr _ _, fun e => absurd (HS.out.ltA _ e).2 (Nat.lt_irrefl _)⟩
        have HL4 := Lib.hid (HL.out.trans (hb4.mono (by omega)))
        have hz4 : (wr.alloc (.cells #[.int .i64 (v : Int), .slice A1 3 c1', .bool r, .slice A2 8 c2'] 33)).heap.size = wr.heap.size + 1 := by simp
        have t0 : (wr.alloc (.cells #[.int .i64 (v : Int), .slice A1 3 c1', .bool r, .slice A2 8 c2'] 33)).cell? ⟨wr.heap.size, 0, none⟩ = some (.int .i64 (v : Int)) := HS4.out.box.cell 0
        clear hb4 HS HL
        go_upto_region 8 with fail
        obtain ⟨w4, h4⟩ : ∃ w4, w4 = wr.alloc (.cells #[.int .i64 (v : Int), .slice A1 3 c1', .bool r, .slice A2 8 c2'] 33) := ⟨_, rfl⟩
        rw [← h4] at HS4 HL4 hz4 t0
        change Code.wp _ _ _ _ (wr.alloc (.cells #[.int .i64 (v : Int), .slice A1 3 c1', .bool r, .slice A2 8 c2'] 33))
        rw [← h4]
        have hzB : w.heap.size + 1 ≤ w4.heap.size := by omega
        clear h4 q0 q1 q2 q3 hz4
        go_wp2_with (at_builtin; refine wpList_pushTb rfl _ _ rfl w4 (w.heap.size + 1) wr.heap.size dc (13 * k) D (enTs (ts.take k)) _ rfl HLEN.out HS4.out (by omega) hzB v rfl ?_)
        intro g5 k5 w5 hS5 hb5
        have hz5 : wr.heap.size < w5.heap.size := hS5.box.lt
        have HS5 := Lib.hid hS5
        have HL5 := Lib.hid (HL4.out.trans hb5)
        clear hS5 hb5 HS4 HL4 hzB t0
        obtain ⟨ya, hya⟩ : ∃ ya, ya = enTs (ts.take k) ++ [v] := ⟨_, rfl⟩
        have HLV : Hid (ya.length = 13 * k + 1) := Lib.hid (by rw [hya, List.length_append, HLEN.out]; rfl)
        rw [← hya] at HS5
        have HSN1 : Hid (enTs (ts.take (k + 1)) = ya ++ nats x ++ [r.toNat] ++ nats y) := Lib.hid (by rw [HSN.out, hya]; simp)
        have HLs := HL5
        clear hya HSN HLEN HL5
        obtain ⟨tb, htb⟩ : ∃ tb, tb = wr.heap.size := ⟨_, rfl⟩
        rw [← htb] at HS5 hz5 hzw
        go_wp2
        rw [← htb]
        clear htb c0 c1
        go_loopw [3, 6] (fun sv iv wr => ∃ (j : Nat) (D : Option Addr) (dc : Nat), j ≤ 3 ∧ iv = .int .i64 j ∧ sv = .slice D (13 * k + 1 + j) dc ∧ Hid (TbSt wr (w.heap.size + 1) tb (ya ++ nats (x.take j)) D dc #[.int .i64 (v : Int), .slice A1 3 c1', .bool r, .slice A2 8 c2']) ∧ Hid (Below (w.heap.size + 1) w1 wr)) (fun _ iv _ => 3 - (intOf iv).toNat)
        case atStart => exact ⟨0, _, _, Nat.zero_le _, rfl, rfl, Lib.hid (by simpa [nats] using HS5.out), HLs⟩
        case round =>
          clear HS5 HLs
          obtain ⟨j, D, dc, hj, rfl, rfl, HS, HL⟩ := hrel
          have t1 := HS.out.box.cell 1
          simp at t1
          have hzq : tb < wr.heap.size := HS.out.box.lt
          have hzB : w.heap.size + 1 ≤ wr.heap.size := by have := HL.out.size; omega
          have HW : Hid (Below w.heap.size w wr) := Lib.hid (HB1.out.trans (HL.out.mono (by omega)))
          by_cases hlt : j < 3
          · obtain ⟨b1, o1, rfl, hbl1, hc⟩ := (HA1.out.below HW.out) j (by rw [HL1.out]; exact hlt)
            obtain ⟨f0, f1⟩ := HF1.out j (by rw [HL1.out]; exact hlt)
            have HT := Lib.hid (nats_take x (show j < x.length by rw [HL1.out]; exact hlt))
            have HLN : Hid ((ya ++ nats (x.take j)).length = 13 * k + 1 + j) := Lib.hid (by rw [List.length_append, HLV.out, nats_len, List.length_take, HL1.out, Nat.min_eq_left hj])
            generalize x.getD j 0 = z at *
            obtain ⟨z, rfl⟩ := Int.eq_ofNat_of_zero_le f0
            rw [Int.toNat_natCast] at HT
            have hwu : IntKind.u8.wrap (z : Int) = (z : Int) := IntWalk.u8_in _ (by omega)
            go_wp2_with (at_builtin; refine wpList_pushTb rfl _ _ rfl wr (w.heap.size + 1) tb dc (13 * k + 1 + j) D _ _ rfl HLN.out HS.out (by omega) hzB z rfl ?_)
            intro g6 k6 w6 hS6 hb6
            have HS6 : Hid (TbSt w6 (w.heap.size + 1) tb (ya ++ nats (x.take (j + 1))) (some ⟨g6, 0, none⟩) k6 #[.int .i64 (v : Int), .slice (some ⟨b1, o1, none⟩) 3 c1', .bool r, .slice A2 8 c2']) := Lib.hid (by rw [HT.out, ← List.append_assoc]; first | exact hS6 | (rw [List.append_assoc]; exact hS6))
            have HL6 := Lib.hid (HL.out.trans hb6)
            clear hS6 hb6 HT HLN HS HL HW t1 hwu
            go_wp2
            go_roundw
            case rel => exact ⟨j + 1, some ⟨g6, 0, none⟩, k6, by omega, by go_num, rfl, HS6, HL6⟩
            case measure => simp [intOf]; omega
          · obtain rfl : j = 3 := by omega
            have htx : x.take 3 = x := List.take_of_length_le (by rw [HL1.out]; exact Nat.le_refl _)
            have HS7 := HS
            rw [htx] at HS7
            have HLN7 : Hid ((ya ++ nats x).length = 13 * k + 1 + 3) := Lib.hid (by rw [List.length_append, HLV.out, nats_len, HL1.out])
            have t2 := HS7.out.box.cell 2
            simp at t2
            obtain ⟨yb, hyb⟩ : ∃ yb, yb = ya ++ nats x := ⟨_, rfl⟩
            rw [← hyb] at HS7 HLN7 HSN1
            clear t1 htx HS hlt hj hyb HLV HA1 HF1
            obtain ⟨w7, h7⟩ : ∃ w7, w7 = wr := ⟨_, rfl⟩
            subst h7
            have hr8 : IntKind.u8.wrap (r.toNat : Int) = (r.toNat : Int) := by cases r <;> rfl
            go_wp2_with (first | (go_at_call 73; refine (bitS_any r _).mono ?_; rintro e w3 ⟨rfl, rfl⟩) | (at_builtin; refine wpList_pushTb rfl _ _ rfl w7 (w.heap.size + 1) tb dc (13 * k + 1 + 3) D _ _ rfl HLN7.out HS7.out (by omega) hzB r.toNat rfl ?_))
            intro g8 k8 w8 hS8 hb8
            have hz8 : tb < w8.heap.size := hS8.box.lt
            have HS8 := Lib.hid hS8
            have HLs := Lib.hid (HL.out.trans hb8)
            obtain ⟨yc, hyc⟩ : ∃ yc, yc = yb ++ [r.toNat] := ⟨_, rfl⟩
            have HLW : Hid (yc.length = 13 * k + 1 + 3 + 1) := Lib.hid (by rw [hyc, List.length_append, HLN7.out]; rfl)
            rw [← hyc] at HS8 HSN1
            clear hS8 hb8 HS7 HL HLN7 hyc t2 hr8 HW hzq hzB
            go_wp2
            go_loopw [3, 7] (fun sv iv wr => ∃ (j : Nat) (D : Option Addr) (dc : Nat), j ≤ 8 ∧ iv = .int .i64 j ∧ sv = .slice D (13 * k + 1 + 3 + 1 + j) dc ∧ Hid (TbSt wr (w.heap.size + 1) tb (yc ++ nats (y.take j)) D dc #[.int .i64 (v : Int), .slice A1 3 c1', .bool r, .slice A2 8 c2']) ∧ Hid (Below (w.heap.size + 1) w1 wr)) (fun _ iv _ => 8 - (intOf iv).toNat)
            case atStart => exact ⟨0, _, _, Nat.zero_le _, rfl, rfl, Lib.hid (by simpa [nats] using HS8.out), HLs⟩
            case round =>
              clear HS8 HLs
              obtain ⟨j, D, dc, hj, rfl, rfl, HS, HL⟩ := hrel
              have t1 := HS.out.box.cell 3
              simp at t1
              have hzq : tb < wr.heap.size := HS.out.box.lt
              have hzB : w.heap.size + 1 ≤ wr.heap.size := by have := HL.out.size; omega
              have HW : Hid (Below w.heap.size w wr) := Lib.hid (HB1.out.trans (HL.out.mono (by omega)))
              by_cases hlt : j < 8
              · obtain ⟨b1, o1, rfl, hbl1, hc⟩ := (HA2.out.below HW.out) j (by rw [HL2.out]; exact hlt)
                obtain ⟨f0, f1⟩ := HF2.out j (by rw [HL2.out]; exact hlt)
                have HT := Lib.hid (nats_take y (show j < y.length by rw [HL2.out]; exact hlt))
                have HLN : Hid ((yc ++ nats (y.take j)).length = 13 * k + 1 + 3 + 1 + j) := Lib.hid (by rw [List.length_append, HLW.out, nats_len, List.length_take, HL2.out, Nat.min_eq_left hj])
                generalize y.getD j 0 = z at *
                obtain ⟨z, rfl⟩ := Int.eq_ofNat_of_zero_le f0
                rw [Int.toNat_natCast] at HT
                have hwu : IntKind.u8.wrap (z : Int) = (z : Int) := IntWalk.u8_in _ (by omega)
                go_wp2_with (at_builtin; refine wpList_pushTb rfl _ _ rfl wr (w.heap.size + 1) tb dc (13 * k + 1 + 3 + 1 + j) D _ _ rfl HLN.out HS.out (by omega) hzB z rfl ?_)
                intro g6 k6 w6 hS6 hb6
                have HS6 : Hid (TbSt w6 (w.heap.size + 1) tb (yc ++ nats (y.take (j + 1))) (some ⟨g6, 0, none⟩) k6 #[.int .i64 (v : Int), .slice A1 3 c1', .bool r, .slice (some ⟨b1, o1, none⟩) 8 c2']) := Lib.hid (by rw [HT.out, ← List.append_assoc]; first | exact hS6 | (rw [List.append_assoc]; exact hS6))
                have HL6 := Lib.hid (HL.out.trans hb6)
                clear hS6 hb6 HT HLN HS HL HW t1 hwu
                go_wp2
                go_roundw
                case rel => exact ⟨j + 1, some ⟨g6, 0, none⟩, k6, by omega, by go_num, rfl, HS6, HL6⟩
                case measure => simp [intOf]; omega
              · obtain rfl : j = 8 := by omega
                have hty : y.take 8 = y := List.take_of_length_le (by rw [HL2.out]; exact Nat.le_refl _)
                have hs9 := HS.out.byt
                rw [hty, ← HSN1.out] at hs9
                have HS9 := Lib.hid hs9
                have HL9 := HL
                clear hs9 hty HS HL t1 hlt hj HLW HSN1 HA2 HF2 HL1 HL2 HW
                go_wp2
                go_roundw
                case rel => exact ⟨k + 1, D, dc, by omega, by go_num, by rw [show 13 * (k + 1) = 13 * k + 1 + 3 + 1 + 8 by omega], HS9, HL9⟩
                case measure => simp [intOf]; omega
      · obtain rfl : k = 25 := by omega
        have htk : ts.take 25 = ts := List.take_of_length_le (by rw [HN.out]; exact Nat.le_refl _)
        have HLE : Hid ((enTs ts).length = 325) := Lib.hid (by have h := enTs_len 25 (by rw [HN.out]; exact Nat.le_refl _) (fun j hj => HT4.out j (by omega)); rw [htk] at h; exact h)
        have hs7 : ByAt wr (w.heap.size + 1) (enTs ts ++ enPs (ps.take 0)) D dc := by
          have h := HS.out
          rw [htk] at h
          simpa [enPs] using h
        have HS7 := Lib.hid hs7
        clear hs7 HS HX HT4 htk hlt hk HRk HW
        obtain ⟨w7, h7⟩ : ∃ w7, w7 = wr := ⟨_, rfl⟩
        subst h7
        rw [show 13 * 25 = 325 + 2 * 0 from rfl, show ((25 : Nat) : Int) = 25 from rfl]
        go_wp2
        clear c1 c0
        go_loopw [3, 8] (fun sv iv wr => ∃ (k : Nat) (D : Option Addr) (dc : Nat), k ≤ 3 ∧ iv = .int .i64 k ∧ sv = .slice D (325 + 2 * k) dc ∧ Hid (ByAt wr (w.heap.size + 1) (enTs ts ++ enPs (ps.take k)) D dc) ∧ Hid (Below (w.heap.size + 1) w1 wr)) (fun _ iv _ => 3 - (intOf iv).toNat)
        case atStart => exact ⟨0, D, dc, Nat.zero_le _, rfl, rfl, HS7, HL⟩
        case round =>
          clear HS7 HL hzw
          obtain ⟨k, D, dc, hk, rfl, rfl, HS, HL⟩ := hrel
          have HW : Hid (Below w.heap.size w wr) := Lib.hid (HB1.out.trans (HL.out.mono (by omega)))
          have hzw : w1.heap.size ≤ wr.heap.size := HL.out.size
          have hzB : w.heap.size + 1 ≤ wr.heap.size := by omega
          have HRk := Lib.hid (HR1.out.below HL.out (by omega))
          have c1 := HRk.out.cell 1
          simp at c1
          by_cases hlt : k < 3
          · obtain ⟨b, off, rfl, hbl, p0, p1⟩ := HY.out k (by rw [HM.out]; exact hlt)
            obtain ⟨v0, v1⟩ := HP3.out k hlt
            have HSN := Lib.hid (enPs_take ps (show k < ps.length by rw [HM.out]; exact hlt))
            have HLEN : Hid ((enTs ts ++ enPs (ps.take k)).length = 325 + 2 * k) := Lib.hid (by rw [List.length_append, HLE.out, enPs_eq]; rw [List.length_take, HM.out, Nat.min_eq_left hk])
            have hbe : enP (ps.getD k pd0) = [(ps.getD k pd0).1.toNat, (ps.getD k pd0).2.toNat] := rfl
            rw [hbe] at HSN
            have q0 := (HW.out.cell (p := ⟨b, off + k * 2, none⟩) hbl).trans p0
            have q1 := (HW.out.cell (p := ⟨b, off + k * 2 + 1, none⟩) hbl).trans p1
            clear p0 p1 hbe
            generalize (ps.getD k pd0).2 = o at *
            generalize (ps.getD k pd0).1 = v at *
            obtain ⟨v, rfl⟩ := Int.eq_ofNat_of_zero_le v0
            have HSN := Lib.hid (show enPs (ps.take (k + 1)) = enPs (ps.take k) ++ [v, o.toNat] from HSN.out)
            have hv8 : IntKind.u8.wrap (v : Int) = (v : Int) := IntWalk.u8_in _ (by omega)
            have ho8 : IntKind.u8.wrap (o.toNat : Int) = (o.toNat : Int) := by cases o <;> rfl
            go_upto_region 21 with fail
            have HSD := Lib.hid (show ByAt wr.drew (w.heap.size + 1) (enTs ts ++ enPs (ps.take k)) D dc from HS.out)
            have HFR : Hid (∀ w' : World, Below (w.heap.size + 1) wr.drew w' → w'.cell? ⟨w.heap.size, 1, none⟩ = some (.slice (some ⟨b, off, none⟩) 3 pc) ∧ w'.cell? ⟨b, off + k * 2, none⟩ = some (.int .i64 (v : Int)) ∧ w'.cell? ⟨b, off + k * 2 + 1, none⟩ = some (.bool o)) := Lib.hid (fun w' hb => ⟨(hb.cell (p := ⟨w.heap.size, 1, none⟩) (Nat.lt_succ_self _)).trans c1, (hb.cell (p := ⟨b, off + k * 2, none⟩) (by show b < w.heap.size + 1; omega)).trans q0, (hb.cell (p := ⟨b, off + k * 2 + 1, none⟩) (by show b < w.heap.size + 1; omega)).trans q1⟩)
            go_region_held3 (fun w' => w'.cell? ⟨w.heap.size, 1, none⟩ = some (.slice (some ⟨b, off, none⟩) 3 pc) ∧ w'.cell? ⟨b, off + k * 2, none⟩ = some (.int .i64 (v : Int)) ∧ w'.cell? ⟨b, off + k * 2 + 1, none⟩ = some (.bool o))
              (first | (with_reducible assumption) | (exact ⟨c1, q0, q1⟩) | go_keep)
              (first
                | (go_at_call 73; refine (bitS_any o _).mono ?_; rintro e w3 ⟨rfl, rfl⟩)
                | (refine step_pushBy2 (by rfl) _ _ (by rfl) wr.drew (w.heap.size + 1) dc (325 + 2 * k) D (enTs ts ++ enPs (ps.take k)) (by rfl) HLEN.out HSD.out (by omega) hzB v o.toNat (by rfl) ?_; intro g6 k6 w6 hS6 hb6; have hS7 := HFR.out w6 hb6))
            have HS8 : Hid (ByAt w6 (w.heap.size + 1) (enTs ts ++ enPs (ps.take (k + 1))) (some ⟨g6, 0, none⟩) k6) := Lib.hid (by rw [HSN.out, ← List.append_assoc]; exact hS6)
            have HL8 := Lib.hid (HL.out.trans ((Below.refl (w.heap.size + 1) wr).drew.trans hb6))
            clear hS6 hb6 hS7 HFR HSD HS HL HSN HLEN HW HRk q0 q1 c1 hv8 ho8
            go_wp2
            go_roundw
            case rel => exact ⟨k + 1, some ⟨g6, 0, none⟩, k6, by omega, by go_num, by rw [show 325 + 2 * (k + 1) = 325 + 2 * k + 2 by omega], HS8, HL8⟩
            case measure => simp [intOf]; omega
          · obtain rfl : k = 3 := by omega
            have htk : ps.take 3 = ps := List.take_of_length_le (by rw [HM.out]; exact Nat.le_refl _)
            have hlen : (enTs ts ++ enPs ps).length = 331 := by rw [List.length_append, HLE.out, enPs_eq, HM.out]
            have hs9 := HS.out
            rw [htk] at hs9
            obtain ⟨g9, rfl⟩ := hs9.ptr (by omega)
            have HS9 := Lib.hid hs9
            have HLEN := Lib.hid hlen
            have HSUM := Lib.hid (sumS_any (w.heap.size + 1) dc 331 g9 (enTs ts ++ enPs ps) wr hs9 hlen (by omega) (fun j hj => getD_all HBY.out j (by rw [hlen]; exact hj)))
            clear hs9 hlen htk HS hlt hk HRk
            obtain ⟨w8, h8⟩ : ∃ w8, w8 = wr := ⟨_, rfl⟩
            subst h8
            rw [show 325 + 2 * 3 = 331 from rfl, show ((3 : Nat) : Int) = 3 from rfl]
            go_wp2_with fail
            refine HSUM.out.mono ?_
            rintro e w9 ⟨rfl, rfl⟩
            obtain ⟨sm, hsm⟩ : ∃ sm : Nat, sm = Ck.ck 1 (enTs ts ++ enPs ps) := ⟨_, rfl⟩
            have hs2 : sm < 65521 := by rw [hsm]; exact Ck.ck_lt (by omega) _
            rw [← hsm]
            have HSM := Lib.hid hsm
            clear hsm HSUM c1
            have hca : ((sm / 256 : Nat) : Int) = (sm : Int) / 256 := by omega
            have hcb : ((sm % 256 : Nat) : Int) = (sm : Int) % 256 := by omega
            have hu1 : IntKind.u8.wrap ((sm : Int) / 256) = ((sm / 256 : Nat) : Int) := by rw [hca]; exact IntWalk.u8_in _ (by omega)
            have hu2 : IntKind.u8.wrap ((sm : Int) % 256) = ((sm % 256 : Nat) : Int) := by rw [hcb]; exact IntWalk.u8_in _ (by omega)
            clear hca hcb
            generalize hsa : sm / 256 = sa at *
            generalize hsb : sm % 256 = sb at *
            have HAB := Lib.hid (And.intro hsa hsb)
            clear hsa hsb
            go_wp2_with (at_builtin; refine wpList_pushBy2 rfl _ _ rfl w8 (w.heap.size + 1) dc 331 (some ⟨g9, 0, none⟩) (enTs ts ++ enPs ps) rfl HLEN.out HS9.out (by omega) (by omega) sa sb rfl ?_)
            intro g10 k10 w10 hS10 hb10 _
            have HF : Hid (enTs ts ++ enPs ps ++ [sa, sb] = encS ts ps) := Lib.hid (by rw [HE.out]; unfold enc sumB; rw [← HSM.out, HAB.out.1, HAB.out.2])
            have HFL : Hid ((encS ts ps).length = 333) := Lib.hid (by rw [← HF.out, List.length_append, HLEN.out]; rfl)
            first | rw [HF.out] at hS10 | rw [← List.append_assoc, HF.out] at hS10
            have HS10 := Lib.hid hS10
            have HL10 := Lib.hid (HW.out.trans (hb10.mono (by omega)))
            clear hS10 hb10 HS9 HF hu1 hu2
            go_wp2
            go_ret
            unfold SEOut
            rw [HFL.out]
            exact ⟨⟨_, k10, rfl, own_low2 HS10.out (by omega)⟩, HL10.out⟩
end Go.Proofs.Ytkkkkalgfmddbaa
/- Slices of bytes: comparison and marks. -/
namespace Go.Proofs.Ytkkkkalgfmddbaa
open Go.RowKit Go.Deep

/-- Bytes that can be read below B. -/
def BysIn (w : World) (B : Nat) (A : Option Addr) (xs : List Nat) : Prop :=
  ∀ k, k < xs.length → ∃ b off, A = some ⟨b, off, none⟩ ∧ b < B ∧ w.cell? ⟨b, off + k, none⟩ = some (.int .u8 (xs.getD k 0 : Nat))
theorem BysIn.below {w w' : World} {B : Nat} {A : Option Addr} {xs : List Nat} (h : BysIn w B A xs) (hb : Below B w w') : BysIn w' B A xs := fun k hk => by
  obtain ⟨b, off, e, hB, h0⟩ := h k hk
  exact ⟨b, off, e, hB, (hb.cell (by exact hB)).trans h0⟩
theorem BysIn.mono {w : World} {B B' : Nat} {A : Option Addr} {xs : List Nat} (h : BysIn w B A xs) (hb : B ≤ B') : BysIn w B' A xs := fun k hk => by
  obtain ⟨b, off, e, hB, h0⟩ := h k hk
  exact ⟨b, off, e, Nat.lt_of_lt_of_le hB hb, h0⟩
theorem BysIn.on {w w' : World} {A : Option Addr} {xs : List Nat} (h : BysIn w w.heap.size A xs) (hb : Below w.heap.size w w') : BysIn w' w'.heap.size A xs := (h.below hb).mono hb.size
theorem ByAt.read {w : World} {B cap : Nat} {A : Option Addr} {xs : List Nat} (h : ByAt w B xs A cap) : BysIn w w.heap.size A xs := fun k hk => by
  obtain ⟨g, rfl⟩ := h.ptr (by omega)
  obtain ⟨h1, h2, h3, h4, h5⟩ := h.cells
  exact ⟨g, 0, rfl, h4, by rw [Nat.zero_add]; exact h1 k hk⟩
theorem ByAt.low {w : World} {B B' cap : Nat} {A : Option Addr} {xs : List Nat} (h : ByAt w B xs A cap) (hB : B' ≤ B) : ByAt w B' xs A cap := by
  refine ⟨h.1, ?_⟩
  rcases h.2 with hv | ⟨g, c, cur, hv, h1, h2⟩
  · exact .inl hv
  · exact .inr ⟨g, c, cur, hv, Nat.le_trans hB h1, h2⟩

set_option maxHeartbeats 400000 in
theorem eqBy_any (A A' : Option Addr) (n cap cap' : Nat) (xs : List Nat) (w : World) (hx : BysIn w w.heap.size A xs) (hy : BysIn w w.heap.size A' xs) (hn : xs.length = n) (hl : n ≤ 2000000) :
    Calls Try.prog 53 #[.slice A n cap, .slice A' n cap'] w fun e w' => e = .returned (.bool true) ∧ Below w.heap.size w w' := by
  have HX := Lib.hid hx
  have HY := Lib.hid hy
  have HN := Lib.hid hn
  clear hx hy hn
  go_enter Try.func53, Try.ntmps53
  go_wp2
  go_loopw [5] (fun iv wr => ∃ (k : Nat), k ≤ n ∧ iv = .int .i64 k ∧ Below w.heap.size w wr) (fun iv _ => n - (intOf iv).toNat)
  case atStart => exact ⟨0, Nat.zero_le _, rfl, Below.refl _ _⟩
  case round =>
    obtain ⟨k, hk, rfl, hbr⟩ := hrel
    by_cases hlt : k < n
    · obtain ⟨b, off, rfl, hbl, hcA⟩ := HX.out k (by rw [HN.out]; exact hlt)
      obtain ⟨b', off', rfl, hbl', hcB⟩ := HY.out k (by rw [HN.out]; exact hlt)
      rw [← hbr.cell (by exact hbl)] at hcA
      rw [← hbr.cell (by exact hbl')] at hcB
      generalize xs.getD k 0 = v at *
      have hk0 : (0 : Int) ≤ (k : Int) := Int.natCast_nonneg _
      have hk1 : (k : Int) < (n : Int) := by omega
      go_wp2
      go_quiet (fail)
      go_wp2
      go_roundw
      case rel => exact ⟨k + 1, by omega, by go_num, hbr.trans ⟨rfl, rfl, rfl, Nat.le_refl _, fun _ _ => rfl⟩⟩
      case measure => simp [intOf]; omega
    · go_wp2
      go_ret
      exact ⟨rfl, hbr⟩

/-- A row of bytes, the first m of them marked. -/
def MkBy (w : World) (g n m K : Nat) : Prop := ∃ cs, Row w g 5 cs ∧ n ≤ cs.size ∧ ∀ j, j < m → cs[j]? = some (.int .u8 (IntKind.u8.wrap ((K : Int) + j)))
theorem MkBy.set {w : World} {g n m K : Nat} (h : MkBy w g n m K) (hm : m < n) : MkBy (w.setCell ⟨g, m, none⟩ (.int .u8 (IntKind.u8.wrap ((K : Int) + m)))) g n (m + 1) K := by
  obtain ⟨cs, hr, h1, h2⟩ := h
  refine ⟨_, hr.set m _, by simpa using h1, fun j hj => ?_⟩
  by_cases e : j = m
  · subst e
    rw [Array.getElem?_setIfInBounds_self_of_lt (by omega)]
  · rw [Array.getElem?_setIfInBounds_ne (by omega)]
    exact h2 j (by omega)
theorem MkBy.old {w : World} {g n m K : Nat} (h : MkBy w g n m K) {o : Nat} (ho : o < n) : (∃ u, w.cell? ⟨g, o, none⟩ = some u) ∧ w.frozen? ⟨g, o, none⟩ = false := by
  obtain ⟨cs, hr, h1, h2⟩ := h
  exact ⟨⟨cs[o]'(by omega), by rw [hr.cell, Array.getElem?_eq_getElem]⟩, hr.frozen o⟩
theorem MkBy.lt {w : World} {g n m K : Nat} (h : MkBy w g n m K) : g < w.heap.size := by
  obtain ⟨cs, hr, h1, h2⟩ := h
  exact hr.lt
theorem MkBy.below {w w' : World} {g n m K B : Nat} (h : MkBy w g n m K) (hb : Below B w w') (hg : g < B) : MkBy w' g n m K := by
  obtain ⟨cs, hr, h1⟩ := h
  exact ⟨cs, hr.below hb hg, h1⟩
set_option maxHeartbeats 800000 in
theorem markBy_row (g cap n K : Nat) (w : World) (hr : MkBy w g n 0 K) (ht : K ≤ 1000000) (hnb : n ≤ 2000000) :
    Calls Try.prog 54 #[.slice (some ⟨g, 0, none⟩) n cap, .int .i64 K] w fun e w' => e = .returned (.int .i64 (K + n : Nat)) ∧ MkBy w' g n n K ∧ Only (some g) w w' := by
  have HR0 := Lib.hid hr
  clear hr
  go_enter Try.func54, Try.ntmps54
  go_wp2
  go_loopw [1, 5] (fun kv iv wr => ∃ (j : Nat), j ≤ n ∧ iv = .int .i64 j ∧ kv = .int .i64 ((K : Int) + j) ∧ Hid (MkBy wr g n j K) ∧ Hid (Only (some g) w wr)) (fun _ iv _ => n - (intOf iv).toNat)
  case atStart => exact ⟨0, Nat.zero_le _, rfl, by simp, HR0, Lib.hid (Only.refl _ _)⟩
  case round =>
    clear HR0
    obtain ⟨j, hj, rfl, rfl, HR, HO⟩ := hrel
    by_cases hlt : j < n
    · obtain ⟨⟨old0, hc0⟩, hf0⟩ := HR.out.old hlt
      have HR1 := Lib.hid (HR.out.set hlt)
      have HO1 := Lib.hid (HO.out.set j (.int .u8 (IntKind.u8.wrap ((K : Int) + j))))
      clear HR HO
      generalize hwv : IntKind.u8.wrap ((K : Int) + j) = wv at *
      go_wp2
      go_roundw
      case rel => exact ⟨j + 1, by omega, by go_num, by go_num, HR1, HO1⟩
      case measure => simp [intOf]; omega
    · obtain rfl : j = n := by omega
      go_wp2
      go_ret
      exact ⟨rfl, HR.out, HO.out⟩
set_option maxHeartbeats 800000 in
theorem heldBy_row (g cap n K : Nat) (w : World) (hr : MkBy w g n n K) (ht : K ≤ 1000000) (hnb : n ≤ 2000000) :
    Calls Try.prog 55 #[.slice (some ⟨g, 0, none⟩) n cap, .int .i64 K] w fun e w' => e = .returned (.int .i64 (K + n : Nat)) ∧ w = w' := by
  have HR0 := Lib.hid hr
  clear hr
  go_enter Try.func55, Try.ntmps55
  go_wp2
  go_loop [1, 5] (fun kv iv => ∃ (j : Nat), j ≤ n ∧ iv = .int .i64 j ∧ kv = .int .i64 ((K : Int) + j)) (fun _ iv => n - (intOf iv).toNat)
  case atStart => exact ⟨0, Nat.zero_le _, rfl, by simp⟩
  case round =>
    obtain ⟨j, hj, rfl, rfl⟩ := hrel
    by_cases hlt : j < n
    · obtain ⟨cs, hrow, _, hm⟩ := HR0.out
      have hc0 := (hrow.cell j).trans (hm j hlt)
      clear hrow hm
      generalize hwv : IntKind.u8.wrap ((K : Int) + j) = wv at *
      go_wp2
      go_round
      case rel => exact ⟨j + 1, by omega, by go_num, by go_num⟩
      case measure => simp [intOf]; omega
    · obtain rfl : j = n := by omega
      go_wp2
      go_ret
      exact ⟨rfl, rfl⟩
theorem markBy_nil (A : Option Addr) (cap : Nat) (K : Int) (w : World) :
    Calls Try.prog 54 #[.slice A 0 cap, .int .i64 K] w fun e w' => e = .returned (.int .i64 K) ∧ w = w' := by
  go_enter Try.func54, Try.ntmps54
  go_wp2
  go_loop [1, 5] (fun kv iv => iv = .int .i64 0 ∧ kv = .int .i64 K) (fun _ _ => 0)
  case atStart => exact ⟨rfl, rfl⟩
  case round =>
    obtain ⟨rfl, rfl⟩ := hrel
    go_wp2
    go_ret
    exact ⟨rfl, rfl⟩
theorem heldBy_nil (A : Option Addr) (cap : Nat) (K : Int) (w : World) :
    Calls Try.prog 55 #[.slice A 0 cap, .int .i64 K] w fun e w' => e = .returned (.int .i64 K) ∧ w = w' := by
  go_enter Try.func55, Try.ntmps55
  go_wp2
  go_loop [1, 5] (fun kv iv => iv = .int .i64 0 ∧ kv = .int .i64 K) (fun _ _ => 0)
  case atStart => exact ⟨rfl, rfl⟩
  case round =>
    obtain ⟨rfl, rfl⟩ := hrel
    go_wp2
    go_ret
    exact ⟨rfl, rfl⟩
/-- Bytes marked, where there are any. -/
def MkAt (w : World) (A : Option Addr) (B n K : Nat) : Prop := n = 0 ∨ ∃ g, A = some ⟨g, 0, none⟩ ∧ B ≤ g ∧ MkBy w g n n K
theorem MkAt.on {w w' : World} {A : Option Addr} {B n K : Nat} (h : MkAt w A B n K) (hb : Below w.heap.size w w') : MkAt w' A B n K := by
  rcases h with h | ⟨g, e, h1, h2⟩
  · exact .inl h
  · exact .inr ⟨g, e, h1, h2.below hb h2.lt⟩
theorem markBy_any (A : Option Addr) (B cap n K : Nat) (xs : List Nat) (w : World) (h : ByAt w B xs A cap) (hn : xs.length = n) (ht : K ≤ 1000000) (hnb : n ≤ 2000000) (hB : B ≤ w.heap.size) :
    Calls Try.prog 54 #[.slice A n cap, .int .i64 K] w fun e w' => e = .returned (.int .i64 (K + n : Nat)) ∧ MkAt w' A B n K ∧ Below B w w' := by
  by_cases h0 : n = 0
  · subst h0
    exact (markBy_nil A cap K w).mono fun _ _ ⟨e, hw⟩ => by subst hw; exact ⟨e, .inl rfl, Below.refl _ _⟩
  · obtain ⟨g, rfl⟩ := h.ptr (by omega)
    obtain ⟨cur, hrow, hBg, hnc, hcs, _, hget⟩ := own_partsE h
    exact (markBy_row g cap n K w ⟨cur, hrow, by omega, fun j hj => absurd hj (by omega)⟩ ht hnb).mono fun _ _ ⟨e, h1, h2⟩ => ⟨e, .inr ⟨g, rfl, hBg, h1⟩, h2.below (fun q e => by injection e with e; omega) hB⟩
theorem heldBy_any (A : Option Addr) (B cap n K : Nat) (w : World) (h : MkAt w A B n K) (ht : K ≤ 1000000) (hnb : n ≤ 2000000) :
    Calls Try.prog 55 #[.slice A n cap, .int .i64 K] w fun e w' => e = .returned (.int .i64 (K + n : Nat)) ∧ w = w' := by
  rcases h with rfl | ⟨g, rfl, _, h1⟩
  · exact heldBy_nil A cap K w
  · exact heldBy_row g cap n K w h1 ht hnb
end Go.Proofs.Ytkkkkalgfmddbaa
