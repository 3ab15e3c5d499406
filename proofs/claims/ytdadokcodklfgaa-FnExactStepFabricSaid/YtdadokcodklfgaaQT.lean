/- Plain mathematics of the fabric: what a wire's value follows from; asking with a memory. -/
import Derived.Test.YtdadokcodklfgaaKV
import Derived.Test.YtdadokcodklfgaaKZ
import Derived.Test.YtdadokcodklfgaaKN
import Derived.Test.YtdadokcodklfgaaKH
import Derived.Laws.EntriesVeiled
import Derived.Deep.RegionWith
namespace Go.Proofs.Ytdadokcodklfgaa
open Go.RowKit Go.Deep Cut

/-- A wire: its tile and its track. -/
abbrev Wr := Nat × Nat
def wi (x : Wr) : Nat := 8 * x.1 + x.2
def WrOk (x : Wr) : Prop := x.1 < 25 ∧ x.2 < 8
theorem WrOk.lt {x : Wr} (h : WrOk x) : wi x < 200 := by
  obtain ⟨h1, h2⟩ := h
  unfold wi
  omega
/-- What decides an answer: other answers, one after another. -/
inductive Ask where
  | ans (b : Bool)
  | ask (x : Wr) (k : Bool → Ask)
/-- Whether all of them are. -/
def allOf : List Wr → Ask
  | [] => .ans true
  | x :: xs => .ask x fun b => if b then allOf xs else .ans false
def runQ (g : List Nat → Wr → Bool × List Nat) : List Nat → Ask → Bool × List Nat
  | M, .ans b => (b, M)
  | M, .ask x k => runQ g (g M x).2 (k (g M x).1)
/-- Asking with a memory: 0 not asked, 1 asked and false (or not known yet), 2 true. -/
def memo (c : Wr → Ask) : Nat → List Nat → Wr → Bool × List Nat
  | 0, M, x => (M.getD (wi x) 0 == 2, M)
  | f + 1, M, x =>
    if M.getD (wi x) 0 ≠ 0 then (M.getD (wi x) 0 == 2, M)
    else ((runQ (memo c f) (M.set (wi x) 1) (c x)).1, (runQ (memo c f) (M.set (wi x) 1) (c x)).2.set (wi x) (if (runQ (memo c f) (M.set (wi x) 1) (c x)).1 then 2 else 1))
theorem memo_old (c : Wr → Ask) (f : Nat) (M : List Nat) (x : Wr) (h : M.getD (wi x) 0 ≠ 0) : memo c f M x = (M.getD (wi x) 0 == 2, M) := by
  cases f with
  | zero => rfl
  | succ f => simp only [memo]; rw [if_pos h]
theorem memo_new (c : Wr → Ask) (f : Nat) (M : List Nat) (x : Wr) (h : M.getD (wi x) 0 = 0) : memo c (f + 1) M x = ((runQ (memo c f) (M.set (wi x) 1) (c x)).1, (runQ (memo c f) (M.set (wi x) 1) (c x)).2.set (wi x) (if (runQ (memo c f) (M.set (wi x) 1) (c x)).1 then 2 else 1)) := by
  simp only [memo]
  rw [if_neg (by omega)]
theorem getD_set (M : List Nat) (i j v : Nat) : (M.set i v).getD j 0 = if i = j ∧ j < M.length then v else M.getD j 0 := by
  rw [List.getD_eq_getElem?_getD, List.getElem?_set, List.getD_eq_getElem?_getD]
  by_cases h : i = j
  · subst h
    by_cases h2 : i < M.length
    · simp [h2]
    · simp [h2]
  · simp [h]
/-- Nothing that was asked is forgotten. -/
def Kp (M M' : List Nat) : Prop := M'.length = M.length ∧ ∀ i, M.getD i 0 ≠ 0 → M'.getD i 0 = M.getD i 0
theorem Kp.refl (M : List Nat) : Kp M M := ⟨rfl, fun _ _ => rfl⟩
theorem Kp.trans {M M' M'' : List Nat} (h : Kp M M') (k : Kp M' M'') : Kp M M'' := ⟨k.1.trans h.1, fun i hi => by
  have h1 := h.2 i hi
  rw [k.2 i (by rw [h1]; exact hi), h1]⟩
theorem runQ_kp {g : List Nat → Wr → Bool × List Nat} (hg : ∀ M x, Kp M (g M x).2) (q : Ask) : ∀ M, Kp M (runQ g M q).2 := by
  induction q with
  | ans b => intro M; exact Kp.refl M
  | ask x k ih => intro M; exact (hg M x).trans (ih _ _)
theorem memo_kp (c : Wr → Ask) : ∀ (f : Nat) (M : List Nat) (x : Wr), Kp M (memo c f M x).2
  | 0, M, _ => Kp.refl M
  | f + 1, M, x => by
    by_cases h : M.getD (wi x) 0 = 0
    · rw [memo_new c f M x h]
      have h1 := runQ_kp (memo_kp c f) (c x) (M.set (wi x) 1)
      refine ⟨by simp [h1.1], fun i hi => ?_⟩
      have hne : wi x ≠ i := fun e => hi (e ▸ h)
      show (List.set _ _ _).getD i 0 = _
      rw [getD_set, if_neg (fun e => hne e.1)]
      have h2 : (M.set (wi x) 1).getD i 0 = M.getD i 0 := by rw [getD_set, if_neg (fun e => hne e.1)]
      rw [h1.2 i (by rw [h2]; exact hi), h2]
    · rw [memo_old c (f + 1) M x h]
      exact Kp.refl M
/-- How many have not been asked. -/
def zeros (M : List Nat) : Nat := (List.range 200).countP fun i => M.getD i 0 == 0
theorem countP_lt {α : Type} {p q : α → Bool} (a : α) : ∀ l : List α, (∀ x ∈ l, p x = true → q x = true) → a ∈ l → p a = false → q a = true → l.countP p + 1 ≤ l.countP q
  | [], _, ha, _, _ => by simp at ha
  | x :: xs, h, ha, hp, hq => by
    have h1 : xs.countP p ≤ xs.countP q := List.countP_mono_left fun y hy => h y (by simp [hy])
    rw [List.countP_cons, List.countP_cons]
    rcases List.mem_cons.1 ha with rfl | ha
    · rw [if_neg (by rw [hp]; simp), if_pos hq]
      omega
    · have h2 := countP_lt a xs (fun y hy => h y (by simp [hy])) ha hp hq
      by_cases e : p x = true
      · rw [if_pos e, if_pos (h x (by simp) e)]
        omega
      · rw [if_neg e]
        split <;> omega
theorem zeros_kp {M M' : List Nat} (h : Kp M M') : zeros M' ≤ zeros M := List.countP_mono_left fun i _ hi => by
  rw [beq_iff_eq] at hi ⊢
  by_cases e : M.getD i 0 = 0
  · exact e
  · have := h.2 i e
    omega
theorem zeros_set {M : List Nat} {i : Nat} (hl : M.length = 200) (hi : i < 200) (h : M.getD i 0 = 0) : zeros (M.set i 1) + 1 ≤ zeros M := by
  refine countP_lt i _ (fun j _ hj => ?_) (List.mem_range.2 hi) ?_ (by rw [h]; rfl)
  · rw [beq_iff_eq] at hj ⊢
    rw [getD_set] at hj
    split at hj
    · omega
    · exact hj
  · rw [getD_set, if_pos ⟨rfl, by omega⟩]
    rfl
theorem zeros_some {M : List Nat} {i : Nat} (hi : i < 200) (h : M.getD i 0 = 0) : 1 ≤ zeros M := by
  have h1 := countP_lt (p := fun _ => false) (q := fun i => M.getD i 0 == 0) i (List.range 200) (fun _ _ e => by simp at e) (List.mem_range.2 hi) rfl (by rw [h]; rfl)
  unfold zeros
  omega
/-- What is asked stays as it is while others are asked. -/
theorem memo_one (c : Wr → Ask) (f : Nat) (M : List Nat) (x : Wr) (hl : M.length = 200) (hx : wi x < 200) : (runQ (memo c f) (M.set (wi x) 1) (c x)).2.getD (wi x) 0 = 1 := by
  have h1 := runQ_kp (memo_kp c f) (c x) (M.set (wi x) 1)
  have h2 : (M.set (wi x) 1).getD (wi x) 0 = 1 := by rw [getD_set, if_pos ⟨rfl, by omega⟩]
  rw [h1.2 _ (by rw [h2]; decide), h2]
/-- The wires from whose values that of a wire follows at once. -/
def srcs (ts : List Tl) (x : Wr) : List Wr :=
  if (ts.getD x.1 tl0).2.2.2.getD x.2 0 = 1 then (if (ts.getD x.1 tl0).2.2.1 = true then [] else ((ts.getD x.1 tl0).2.1.filter fun z => decide (z ≠ 15)).map fun z => (x.1, z.toNat))
  else if (ts.getD x.1 tl0).2.2.2.getD x.2 0 = 0 ∨ (ts.getD x.1 tl0).2.2.2.getD x.2 0 = 6 then []
  else [((nbAt x.1 ((ts.getD x.1 tl0).2.2.2.getD x.2 0)).toNat, x.2)]
def cyc (ts : List Tl) (x : Wr) : Ask := allOf (srcs ts x)
/-- All wires in order, as long as none leads back to itself. -/
def topM (ts : List Tl) : Nat → Bool × List Nat
  | 0 => (true, List.replicate 200 0)
  | k + 1 => if (topM ts k).1 = true then memo (cyc ts) 201 (topM ts k).2 (k / 8, k % 8) else topM ts k
def acyc (ts : List Tl) : Bool := (topM ts 200).1
theorem topM_false (ts : List Tl) {k : Nat} (h : (topM ts k).1 = false) : ∀ d, (topM ts (k + d)).1 = false
  | 0 => h
  | d + 1 => by
    show (topM ts (k + d + 1)).1 = false
    simp only [topM]
    rw [if_neg (by rw [topM_false ts h d]; simp)]
    exact topM_false ts h d
theorem acyc_false {ts : List Tl} {k : Nat} (hk : k ≤ 200) (h : (topM ts k).1 = false) : acyc ts = false := by
  have := topM_false ts h (200 - k)
  rwa [show k + (200 - k) = 200 by omega] at this
end Go.Proofs.Ytdadokcodklfgaa
/- Memory of lists of wires; the program's feeders. -/
namespace Go.Proofs.Ytdadokcodklfgaa
open Go.RowKit Go.Deep Cut

def wvs (xs : List Wr) : List Value := xs.flatMap fun x => [.int .i64 (x.1 : Int), .int .i64 (x.2 : Int)]
theorem wvs_snoc (xs : List Wr) (x : Wr) : wvs (xs ++ [x]) = wvs xs ++ [.int .i64 (x.1 : Int), .int .i64 (x.2 : Int)] := by simp [wvs]
theorem wvs_get : ∀ (xs : List Wr) (k : Nat), k < xs.length → (wvs xs)[k * 2]? = some (.int .i64 ((xs.getD k (0, 0)).1 : Int)) ∧ (wvs xs)[k * 2 + 1]? = some (.int .i64 ((xs.getD k (0, 0)).2 : Int))
  | [], _, h => by simp at h
  | x :: xs, 0, _ => ⟨rfl, rfl⟩
  | x :: xs, k + 1, h => by
    have := wvs_get xs k (by simpa using h)
    have e : wvs (x :: xs) = .int .i64 (x.1 : Int) :: .int .i64 (x.2 : Int) :: wvs xs := rfl
    rw [e, show (k + 1) * 2 = k * 2 + 1 + 1 by omega]
    simpa using this
def WrAt (w : World) (B : Nat) (xs : List Wr) (A : Option Addr) (cap : Nat) : Prop := w.ownsRow B 152 2 (.slice A xs.length cap) xs.length (wvs xs)
/-- A list of wires that can be read. -/
def WrIn (w : World) (B : Nat) (A : Option Addr) (xs : List Wr) : Prop :=
  ∀ k, k < xs.length → ∃ b off, A = some ⟨b, off, none⟩ ∧ b < B ∧ w.cell? ⟨b, off + k * 2, none⟩ = some (.int .i64 ((xs.getD k (0, 0)).1 : Int)) ∧ w.cell? ⟨b, off + k * 2 + 1, none⟩ = some (.int .i64 ((xs.getD k (0, 0)).2 : Int))
theorem WrAt.ltA {w : World} {B cap : Nat} {xs : List Wr} {A : Option Addr} (h : WrAt w B xs A cap) : ∀ g, A.map (·.block) = some g → B ≤ g ∧ g < w.heap.size := own_ltA h
theorem WrAt.keep {w w' : World} {B cap : Nat} {xs : List Wr} {A : Option Addr} (h : WrAt w B xs A cap) (hk : ∀ b, B ≤ b → b < w.heap.size → w'.heap[b]? = w.heap[b]?) : WrAt w' B xs A cap :=
  own_keepA h (fun g e => by obtain ⟨h1, h2⟩ := h.ltA g (by rw [e]; rfl); exact hk g h1 h2)
theorem WrAt.on {w w' : World} {B cap : Nat} {xs : List Wr} {A : Option Addr} (h : WrAt w B xs A cap) (hb : Below w.heap.size w w') : WrAt w' B xs A cap := h.keep (fun b _ h2 => hb.block b h2)
theorem WrAt.low {w : World} {B B' cap : Nat} {xs : List Wr} {A : Option Addr} (h : WrAt w B xs A cap) (hb : B' ≤ B) : WrAt w B' xs A cap := own_mono h hb
theorem WrAt.ptr {w : World} {B cap : Nat} {xs : List Wr} {A : Option Addr} (h : WrAt w B xs A cap) (hn : 0 < xs.length) : ∃ g, A = some ⟨g, 0, none⟩ := by
  rcases h.2 with ⟨hv, h0⟩ | ⟨g', cap', cur, hv, h1, h2, h3⟩
  · omega
  · injection hv with e1; exact ⟨g', e1⟩
theorem WrAt.read {w : World} {B cap : Nat} {xs : List Wr} {A : Option Addr} (h : WrAt w B xs A cap) : WrIn w w.heap.size A xs := fun k hk => by
  obtain ⟨g, rfl⟩ := h.ptr (by omega)
  obtain ⟨cur, hrow, _, _, _, _, hget⟩ := own_partsE h
  obtain ⟨e0, e1⟩ := wvs_get xs k hk
  refine ⟨g, 0, rfl, hrow.lt, ?_, ?_⟩ <;> (rw [Nat.zero_add, hrow.cell, hget _ (by omega)]; assumption)
theorem WrAt.nil (w : World) (B : Nat) : WrAt w B [] none 0 := World.ownsRow_nil _ _ _ _
theorem WrAt.empty (w : World) (B g : Nat) (hB : B ≤ g) (h : Row w g 152 #[]) : WrAt w B [] (some ⟨g, 0, none⟩) 0 :=
  own_full (n := 0) (z := 2) h hB rfl (by simp [maxLen]) rfl (HasC.nil _)
theorem WrAt.one (w : World) (x : Wr) : WrAt (w.alloc (.cells #[.int .i64 (x.1 : Int), .int .i64 (x.2 : Int)] 152)) w.heap.size [x] (some ⟨w.heap.size, 0, none⟩) 1 :=
  own_full (n := 1) (z := 2) (row_new w _ _) (Nat.le_refl _) rfl (by simp [maxLen]) rfl (fun j hj => by
    match j, hj with
    | 0, _ => rfl
    | 1, _ => rfl
    | j + 2, hj => simp [wvs] at hj; omega)
theorem Try.infoWr : (Try.prog.info? 152).map (fun i => (i.zero, i.size, i.bytes)) = some (some (.agg #[.int .i64 0, .int .i64 0]), 2, 16) := by kernel_rfl
section
variable {ops : Array Oper} {rest : List Oper} {o : Oper} {a : Act} {Q : Exit → Act → World → Prop}
/-- One more wire. -/
theorem wpList_pushWr (hgd : o.guard = none) (s x' : Operand) (ho : o.op = .call { callee := .builtin .append, args := #[s, x'], argTypes := #[154, 154] })
    (wr : World) (B cap n : Nat) (A : Option Addr) (xs : List Wr) (hev : a.eval s = .slice A n cap) (hn : xs.length = n) (h : WrAt wr B xs A cap) (hnb : n ≤ 1000) (hB : B ≤ wr.heap.size)
    (t u : Nat) (hx' : a.eval x' = .slice (some ⟨wr.heap.size, 0, none⟩) 1 1)
    (cont : ∀ g' cap' w5, WrAt w5 B (xs ++ [(t, u)]) (some ⟨g', 0, none⟩) cap' → Below B wr w5 → wpList Try.prog ops Q rest (a.put o.dst (.slice (some ⟨g', 0, none⟩) (n + 1) cap')) w5) :
    wpList Try.prog ops Q (o :: rest) a (wr.alloc (.cells #[.int .i64 (t : Int), .int .i64 (u : Int)] 152)) := by
  subst hn
  obtain ⟨i0, hi0, hz0, hz1, hz2⟩ := info_split Try.infoWr
  refine wpList_append_kept _ hgd s x' 154 ho B 152 i0 _ 2 16 Try.underlying154 hi0 hz0 hz1 hz2 rfl (by omega) (.slice A xs.length cap) xs.length (wvs xs) hev (World.ownsRow.alloc h _) ⟨wr.heap.size, 0, none⟩ 1 1 [.int .i64 (t : Int), .int .i64 (u : Int)] hx' rfl (World.news_of_block (cs := #[.int .i64 (t : Int), .int .i64 (u : Int)]) (t := 152) (fr := (0, 0)) (heap_alloc_new wr _)) (by simp [Value.oneCell']) (by omega) (by simp [maxLen]; omega) (by omega) (by simp; omega) _ rfl ?_
  intro g' cap' w5 hown5 hgr5 hat5 hlt5 hkept5
  exact cont g' cap' w5 (by unfold WrAt; rw [List.length_append, List.length_singleton, wvs_snoc]; exact hown5) (below_alloc_grownA hgr5 hB (fun g e => (h.ltA g e).1))
end
/-- The wires that selectors choose. -/
def selW (t : Nat) (zs : List Int) : List Wr := (zs.filter fun z => decide (z ≠ 15)).map fun z => (t, z.toNat)
theorem selW_take (t : Nat) (zs : List Int) {k : Nat} (hk : k < zs.length) : selW t (zs.take (k + 1)) = if zs.getD k 0 = 15 then selW t (zs.take k) else selW t (zs.take k) ++ [(t, (zs.getD k 0).toNat)] := by
  unfold selW
  rw [take_tl zs 0 hk, List.filter_append, List.map_append]
  by_cases h : zs.getD k 0 = 15
  · rw [if_pos h, List.filter_cons_of_neg (p := fun z : Int => decide (z ≠ 15)) (by rw [h]; decide)]; simp
  · rw [if_neg h, List.filter_cons_of_pos (p := fun z : Int => decide (z ≠ 15)) (decide_eq_true h)]; rfl
theorem selW_len (t : Nat) (zs : List Int) : (selW t zs).length ≤ zs.length := by
  unfold selW
  rw [List.length_map]
  exact List.length_filter_le _ _
set_option maxHeartbeats 800000 in
theorem wiresRead_any (t n c : Nat) (A : Option Addr) (zs : List Int) (w : World) (hz : IntsAt w w.heap.size A zs) (hn : zs.length = n) (hs : ∀ k, k < n → 0 ≤ zs.getD k 0) (hl : n ≤ 100) :
    Calls Try.prog 141 #[.int .i64 (t : Int), .slice A n c] w fun e w' => ∃ (D : Option Addr) (dc : Nat), e = .returned (.slice D (selW t zs).length dc) ∧ WrAt w' w.heap.size (selW t zs) D dc ∧ Below w.heap.size w w' := by
  have HZ := Lib.hid hz
  have HN := Lib.hid hn
  have HS := Lib.hid hs
  have HL0 := Lib.hid (show Below w.heap.size w (w.alloc (.cells #[] 152)) from (Below.refl _ _).alloc (Nat.le_refl _) _)
  have HW0 := Lib.hid (WrAt.empty _ w.heap.size w.heap.size (Nat.le_refl _) (row_new w 152 #[]))
  clear hz hn hs
  go_enter Try.func141, Try.ntmps141
  go_wp2
  go_loopw [5, 11] (fun lv iv wr => ∃ (k : Nat) (D : Option Addr) (dc m : Nat), k ≤ n ∧ iv = .int .i64 k ∧ lv = .slice D m dc ∧ Hid ((selW t (zs.take k)).length = m) ∧ Hid (WrAt wr w.heap.size (selW t (zs.take k)) D dc) ∧ Hid (Below w.heap.size w wr)) (fun _ iv _ => n - (intOf iv).toNat)
  case atStart => exact ⟨0, _, 0, 0, Nat.zero_le _, rfl, rfl, Lib.hid rfl, HW0, HL0⟩
  case round =>
    clear HW0 HL0
    obtain ⟨k, D, dc, m, hk, rfl, rfl, HM, HW, HL⟩ := hrel
    by_cases hlt : k < n
    · obtain ⟨b, off, rfl, hbl, hc⟩ := (HZ.out.below HL.out) k (by rw [HN.out]; exact hlt)
      have h0 := HS.out k hlt
      have HT := Lib.hid (selW_take t zs (show k < zs.length by rw [HN.out]; exact hlt))
      have hm : m ≤ 100 := by rw [← HM.out]; have := selW_len t (zs.take k); rw [List.length_take] at this; omega
      have hzw := HL.out.size
      generalize zs.getD k 0 = z at *
      by_cases h15 : z = 15
      · have HT2 : Hid (selW t (zs.take (k + 1)) = selW t (zs.take k)) := Lib.hid (by rw [HT.out, if_pos h15])
        subst h15
        have HM2 : Hid ((selW t (zs.take (k + 1))).length = m) := Lib.hid (by rw [HT2.out]; exact HM.out)
        have HW2 : Hid (WrAt wr w.heap.size (selW t (zs.take (k + 1))) D dc) := Lib.hid (by rw [HT2.out]; exact HW.out)
        clear HT HT2 HM HW
        go_wp2
        go_roundw
        case rel => exact ⟨k + 1, D, dc, m, by omega, by go_num, rfl, HM2, HW2, HL⟩
        case measure => simp [intOf]; omega
      · have HT2 : Hid (selW t (zs.take (k + 1)) = selW t (zs.take k) ++ [(t, z.toNat)]) := Lib.hid (by rw [HT.out, if_neg h15])
        obtain ⟨v, rfl⟩ := Int.eq_ofNat_of_zero_le h0
        rw [Int.toNat_natCast] at HT2
        have hne : ((v : Int) != 15) = true := by rw [bne_iff_ne]; exact h15
        have hne2 : ((v : Int) == 15) = false := by rw [beq_eq_false_iff_ne]; exact h15
        have HM2 : Hid ((selW t (zs.take (k + 1))).length = m + 1) := Lib.hid (by rw [HT2.out, List.length_append, HM.out]; rfl)
        clear HT
        go_wp2_with (at_builtin; refine wpList_pushWr rfl _ _ rfl wr w.heap.size dc m D (selW t (zs.take k)) rfl HM.out HW.out (by omega) hzw t v rfl ?_)
        intro g' cap' w5 hW5 hb5
        have HW5 : Hid (WrAt w5 w.heap.size (selW t (zs.take (k + 1))) (some ⟨g', 0, none⟩) cap') := Lib.hid (by rw [HT2.out]; exact hW5)
        have HL5 := Lib.hid (HL.out.trans hb5)
        clear hW5 hb5 HT2 HM HW HL
        go_wp2
        go_roundw
        case rel => exact ⟨k + 1, some ⟨g', 0, none⟩, cap', m + 1, by omega, by go_num, rfl, HM2, HW5, HL5⟩
        case measure => simp [intOf]; omega
    · obtain rfl : k = n := by omega
      have hw := HW.out
      have hm := HM.out
      rw [← HN.out, List.take_length] at hw hm
      have HWW := Lib.hid hw
      have HMM := Lib.hid hm
      clear hw hm
      go_wp2
      go_ret
      exact ⟨D, dc, by rw [HMM.out]; rfl, HWW.out, HL.out⟩
end Go.Proofs.Ytdadokcodklfgaa
/- The contract of the program's feeders. -/
namespace Go.Proofs.Ytdadokcodklfgaa
open Go.RowKit Go.Deep Cut

/-- A list of wires in memory of the call's own. -/
def FOut (L : List Wr) (w : World) (e : Ending) (w' : World) : Prop := ∃ (D : Option Addr) (dc : Nat), e = .returned (.slice D L.length dc) ∧ WrAt w' w.heap.size L D dc ∧ Below w.heap.size w w'
theorem tlOk_sel {t : Nat} {x : Tl} (h : tlOk t x = true) : ∀ k, k < x.2.1.length → 0 ≤ x.2.1.getD k 0 ∧ x.2.1.getD k 0 < 16 ∧ (x.2.1.getD k 0 ≠ 15 → x.2.1.getD k 0 < 8) := fun k hk => by
  unfold tlOk at h
  simp only [Bool.and_eq_true, decide_eq_true_eq, Bool.not_eq_true'] at h
  have h1 := any_false _ 0 _ h.1.2.2 hk
  unfold unread at h1
  simp only [Bool.and_eq_false_iff, Bool.or_eq_false_iff, decide_eq_false_iff_not] at h1
  omega
theorem tlOk_src {t : Nat} {x : Tl} (h : tlOk t x = true) {u : Nat} (hu : u < 8) : srcOk t (x.2.2.2.getD u 0) = true := by
  unfold tlOk at h
  simp only [Bool.and_eq_true, decide_eq_true_eq, Bool.not_eq_true'] at h
  have h1 := any_false _ 0 (fun d => !srcOk t d) h.2.2 (k := u) (by omega)
  simpa using h1
theorem nb_ok {t : Nat} {d : Int} (ht : t < 25) (h : srcOk t d = true) (h0 : d ≠ 0) (h1 : d ≠ 1) (h6 : d ≠ 6) : 0 ≤ nbAt t d ∧ nbAt t d < 25 := by
  unfold srcOk at h
  have hn : nbAt t d ≠ -1 := by simpa [h0, h1, h6] using h
  unfold nbAt at hn ⊢
  split
  · omega
  · split
    · omega
    · split
      · omega
      · split
        · omega
        · rename_i a b c e
          rw [if_neg a, if_neg b, if_neg c, if_neg e] at hn
          omega
set_option maxRecDepth 10000 in
set_option maxHeartbeats 1600000 in
theorem feeders_any (TA PA : Option Addr) (n tc m pc t u : Nat) (ts : List Tl) (w : World) (hx : TlIn w w.heap.size TA ts) (hn : ts.length = n) (hok : tlOk t (ts.getD t tl0) = true) (ht : t < n) (h25 : t < 25) (hu : u < 8) :
    Calls Try.prog 115 #[cfv TA n tc PA m pc, .agg #[.int .i64 (t : Int), .int .i64 (u : Int)]] w (FOut (srcs ts (t, u)) w) := by
  obtain ⟨b, off, rfl, hbl, A1, c1, A2, c2, ⟨p0, p1, p2, p3⟩, ⟨hA1, hA2⟩, hc1, hc2⟩ := hx t (by omega)
  obtain ⟨⟨v0, v1⟩, ⟨l1, f1⟩, l2, f2⟩ := tlOk_fit hok
  have hsel := tlOk_sel hok
  have hsrc := tlOk_src hok hu
  have hES : srcs ts (t, u) = if (ts.getD t tl0).2.2.2.getD u 0 = 1 then (if (ts.getD t tl0).2.2.1 = true then [] else selW t (ts.getD t tl0).2.1) else if (ts.getD t tl0).2.2.2.getD u 0 = 0 ∨ (ts.getD t tl0).2.2.2.getD u 0 = 6 then [] else [((nbAt t ((ts.getD t tl0).2.2.2.getD u 0)).toNat, u)] := rfl
  obtain ⟨b2, o2, rfl, hb2l, hcd⟩ := hA2 u (by omega)
  rw [hES]
  clear hES hok f1 f2 hx
  generalize (ts.getD t tl0).2.2.2.getD u 0 = d at *
  rw [l1] at p1
  rw [l2] at p3
  generalize (ts.getD t tl0).2.2.2 = y at *
  generalize (ts.getD t tl0).2.2.1 = r at *
  generalize (ts.getD t tl0).2.1 = x at *
  generalize (ts.getD t tl0).1 = v at *
  obtain ⟨w1, hw1⟩ : ∃ w1, w1 = (w.alloc (.cells #[.slice (some ⟨b, off, none⟩) n tc, .slice PA m pc] 26)).alloc (.cells #[.int .i64 (t : Int), .int .i64 (u : Int)] 152) := ⟨_, rfl⟩
  have hb1 : Below w.heap.size w w1 := by rw [hw1]; exact ((Below.refl _ _).alloc (Nat.le_refl _) _).alloc (by simp) _
  have hK1 : Row w1 w.heap.size 26 #[.slice (some ⟨b, off, none⟩) n tc, .slice PA m pc] := by rw [hw1]; exact row_o1' w _ _ _
  have hW1 : Row w1 (w.heap.size + 1) 152 #[.int .i64 (t : Int), .int .i64 (u : Int)] := by rw [hw1]; exact row_n1 w _ _ _
  have hz1 : w1.heap.size = w.heap.size + 2 := by rw [hw1]; simp
  have q0 := (hb1.cell (p := ⟨b, off + t * 4, none⟩) hbl).trans p0
  have q1 := (hb1.cell (p := ⟨b, off + t * 4 + 1, none⟩) hbl).trans p1
  have q2 := (hb1.cell (p := ⟨b, off + t * 4 + 2, none⟩) hbl).trans p2
  have q3 := (hb1.cell (p := ⟨b, off + t * 4 + 3, none⟩) hbl).trans p3
  have k0 := hK1.cell 0
  have x0 := hW1.cell 0
  have x1 := hW1.cell 1
  simp at k0 x0 x1
  obtain ⟨w2, hw2⟩ : ∃ w2, w2 = w1.alloc (.cells #[.int .i64 v, .slice A1 3 c1, .bool r, .slice (some ⟨b2, o2, none⟩) 8 c2] 33) := ⟨_, rfl⟩
  have hb2 : Below w1.heap.size w1 w2 := by rw [hw2]; exact (Below.refl _ _).alloc (Nat.le_refl _) _
  have hT2 : Row w2 w1.heap.size 33 #[.int .i64 v, .slice A1 3 c1, .bool r, .slice (some ⟨b2, o2, none⟩) 8 c2] := by rw [hw2]; exact row_new w1 _ _
  have hW2 := hW1.below hb2 (by omega)
  have HB2 := Lib.hid (hb1.trans (hb2.mono (by omega)))
  have y0 := hW2.cell 0
  have y1 := hW2.cell 1
  have t1 := hT2.cell 1
  have t2 := hT2.cell 2
  have t3 := hT2.cell 3
  simp at y0 y1 t1 t2 t3
  rw [hz1] at t1 t2 t3
  have d2 := (HB2.out.cell (p := ⟨b2, o2 + u, none⟩) hb2l).trans hcd
  have HA1 := Lib.hid hA1
  have HSEL := Lib.hid hsel
  have HSRC := Lib.hid hsrc
  have HL1 := Lib.hid l1
  have hz2 : w1.heap.size < w2.heap.size := hT2.lt
  clear hb1 hK1 hW1 hb2 hT2 hW2 hcd p0 p1 p2 p3 hA1 hA2 hsel hsrc l1 l2
  have iu0 : (0 : Int) ≤ (u : Int) := Int.natCast_nonneg _
  have iu1 : (u : Int) < 8 := by omega
  go_enter Try.func115, Try.ntmps115
  go_upto_region 1 with fail
  change Code.wp _ _ _ _ ((w.alloc (.cells #[.slice (some ⟨b, off, none⟩) n tc, .slice PA m pc] 26)).alloc (.cells #[.int .i64 (t : Int), .int .i64 (u : Int)] 152))
  rw [← hw1]
  clear hw1
  go_upto_region 2 with fail
  change Code.wp _ _ _ _ (w1.alloc (.cells #[.int .i64 v, .slice A1 3 c1, .bool r, .slice (some ⟨b2, o2, none⟩) 8 c2] 33))
  rw [← hw2]
  clear hw2 q0 q1 q2 q3 k0 x0 x1
  have hzw : w.heap.size + 2 < w2.heap.size := by omega
  by_cases h0 : d = 0
  · subst h0
    go_wp2
    go_ret
    exact ⟨none, 0, rfl, WrAt.nil _ _, HB2.out⟩
  by_cases h6 : d = 6
  · subst h6
    go_wp2
    go_ret
    exact ⟨none, 0, rfl, WrAt.nil _ _, HB2.out⟩
  by_cases h1 : d = 1
  · subst h1
    cases r
    · have HWR := Lib.hid (wiresRead_any t 3 c1 A1 x w2 ((HA1.out.below HB2.out).mono HB2.out.size) HL1.out (fun k hk => (HSEL.out k (by rw [HL1.out]; exact hk)).1) (by omega))
      go_wp2_with fail
      refine HWR.out.mono ?_
      rintro e w3 ⟨D, dc, rfl, hw3, hb3⟩
      have HW3 := Lib.hid (hw3.low HB2.out.size)
      have HB3 := Lib.hid (HB2.out.trans (hb3.mono HB2.out.size))
      clear hw3 hb3 HWR
      go_wp2
      go_ret
      exact ⟨D, dc, rfl, HW3.out, HB3.out⟩
    · go_wp2
      go_ret
      exact ⟨none, 0, rfl, WrAt.nil _ _, HB2.out⟩
  · obtain ⟨n0, n1⟩ := nb_ok h25 HSRC.out h0 h1 h6
    have HNB := Lib.hid (nbAt_any t d w2.drew h25)
    have e0 : (d == 0) = false := by rw [beq_eq_false_iff_ne]; exact h0
    have e1 : (d == 1) = false := by rw [beq_eq_false_iff_ne]; exact h1
    have e6 : (d == 6) = false := by rw [beq_eq_false_iff_ne]; exact h6
    rw [if_neg h1, if_neg (by omega)]
    obtain ⟨nb, hnb⟩ : ∃ nb : Nat, nbAt t d = nb := ⟨(nbAt t d).toNat, by omega⟩
    rw [hnb] at HNB
    have HNE : Hid ((nbAt t d).toNat = nb) := Lib.hid (by rw [hnb, Int.toNat_natCast])
    have HFR : Hid (∀ w' : World, Below w2.heap.size w2.drew w' → w'.cell? ⟨w.heap.size + 1, 0, none⟩ = some (.int .i64 (t : Int)) ∧ w'.cell? ⟨w.heap.size + 1, 1, none⟩ = some (.int .i64 (u : Int))) := Lib.hid (fun w' hb => ⟨(hb.cell (p := ⟨w.heap.size + 1, 0, none⟩) (by show w.heap.size + 1 < w2.heap.size; omega)).trans y0, (hb.cell (p := ⟨w.heap.size + 1, 1, none⟩) (by show w.heap.size + 1 < w2.heap.size; omega)).trans y1⟩)
    clear hnb n0 n1 HSRC
    go_upto_region 4 with fail
    go_region_held3 (fun w' => w'.cell? ⟨w.heap.size + 1, 0, none⟩ = some (.int .i64 (t : Int)) ∧ w'.cell? ⟨w.heap.size + 1, 1, none⟩ = some (.int .i64 (u : Int)))
      (first | (with_reducible assumption) | (exact ⟨y0, y1⟩) | go_keep)
      (first | (go_at_call 142; go_fit HNB.out; rintro e w3 ⟨rfl, hb3⟩; have hS3 := HFR.out w3 hb3))
    all_goals
      have HW3 := Lib.hid ((WrAt.one w3 (nb, u)).low (show w.heap.size ≤ w3.heap.size by have h3 : w2.heap.size ≤ w3.heap.size := hb3.size; omega))
      have HB3 := Lib.hid ((HB2.out.trans (((Below.refl w2.heap.size w2).drew.trans hb3).mono (by omega))).trans (show Below w.heap.size w3 (w3.alloc (.cells #[.int .i64 (nb : Int), .int .i64 (u : Int)] 152)) from (Below.refl _ _).alloc (by have h3 : w2.heap.size ≤ w3.heap.size := hb3.size; omega) _))
      clear hb3 hS3 HFR HNB
      rename_i _hheld
      clear _hheld
      go_wp2
      go_ret
      exact ⟨some ⟨w3.heap.size, 0, none⟩, 1, rfl, by rw [HNE.out]; exact HW3.out, HB3.out⟩
end Go.Proofs.Ytdadokcodklfgaa
/- The program's asking with a memory. -/
namespace Go.Proofs.Ytdadokcodklfgaa
open Go.RowKit Go.Deep Cut

/-- A yes or no for every wire. -/
def BArr (w : World) (a : Nat) (f : Nat → Bool) : Prop := ∃ cs : Array Value, Row w a 186 cs ∧ cs.size = 200 ∧ ∀ i, i < 200 → cs[i]? = some (.bool (f i))
theorem BArr.lt {w : World} {a : Nat} {f : Nat → Bool} (h : BArr w a f) : a < w.heap.size := by
  obtain ⟨cs, h1, _⟩ := h
  exact h1.lt
theorem BArr.cell {w : World} {a : Nat} {f : Nat → Bool} (h : BArr w a f) {i : Nat} (hi : i < 200) : w.cell? ⟨a, i, none⟩ = some (.bool (f i)) := by
  obtain ⟨cs, h1, h2, h3⟩ := h
  rw [h1.cell]
  exact h3 i hi
theorem BArr.frozen {w : World} {a : Nat} {f : Nat → Bool} (h : BArr w a f) (i : Nat) : w.frozen? ⟨a, i, none⟩ = false := by
  obtain ⟨cs, h1, h2, h3⟩ := h
  exact h1.frozen i
theorem BArr.set {w : World} {a : Nat} {f g : Nat → Bool} (h : BArr w a f) {i : Nat} (hi : i < 200) (v : Bool) (hg : ∀ j, j < 200 → g j = if j = i then v else f j) : BArr (w.setCell ⟨a, i, none⟩ (.bool v)) a g := by
  obtain ⟨cs, h1, h2, h3⟩ := h
  refine ⟨_, h1.set i _, by simpa using h2, fun j hj => ?_⟩
  rw [hg j hj]
  by_cases e : j = i
  · subst e
    rw [Array.getElem?_setIfInBounds_self_of_lt (by omega), if_pos rfl]
  · rw [Array.getElem?_setIfInBounds_ne (by omega), if_neg e]
    exact h3 j hj
theorem BArr.keep {w w' : World} {a : Nat} {f : Nat → Bool} (h : BArr w a f) (hk : w'.heap[a]? = w.heap[a]?) : BArr w' a f := by
  obtain ⟨cs, h1, h2⟩ := h
  exact ⟨cs, hk.trans h1, h2⟩
theorem BArr.eq {w : World} {a : Nat} {f g : Nat → Bool} (h : BArr w a f) (hg : ∀ j, j < 200 → g j = f j) : BArr w a g := by
  obtain ⟨cs, h1, h2, h3⟩ := h
  exact ⟨cs, h1, h2, fun j hj => by rw [hg j hj]; exact h3 j hj⟩
/-- What has been asked and answered. -/
structure MSt (w : World) (a1 a2 : Nat) (M : List Nat) : Prop where
  len : M.length = 200
  asked : BArr w a1 (fun i => M.getD i 0 != 0)
  ans : BArr w a2 (fun i => M.getD i 0 == 2)
/-- All but the two tables stands. -/
structure KpM (a1 a2 B : Nat) (w w' : World) : Prop where
  below : Below B w w'
  keep : ∀ k, k < w.heap.size → k ≠ a1 → k ≠ a2 → w'.heap[k]? = w.heap[k]?
theorem KpM.refl (a1 a2 B : Nat) (w : World) : KpM a1 a2 B w w := ⟨Below.refl _ _, fun _ _ _ _ => rfl⟩
theorem KpM.trans {a1 a2 B : Nat} {w w' w'' : World} (h : KpM a1 a2 B w w') (k : KpM a1 a2 B w' w'') : KpM a1 a2 B w w'' := ⟨h.below.trans k.below, fun j hj h1 h2 => (k.keep j (Nat.lt_of_lt_of_le hj h.below.size) h1 h2).trans (h.keep j hj h1 h2)⟩
theorem KpM.more {a1 a2 B : Nat} {w w' : World} (h : Below w.heap.size w w') (hB : B ≤ w.heap.size) : KpM a1 a2 B w w' := ⟨h.mono hB, fun k hk _ _ => h.block k hk⟩
theorem KpM.set1 {a1 a2 B : Nat} {w w' : World} (h : KpM a1 a2 B w w') (hB : B ≤ a1) (i : Nat) (u : Value) : KpM a1 a2 B w (w'.setCell ⟨a1, i, none⟩ u) := ⟨h.below.setCell (p := ⟨a1, i, none⟩) hB u, fun k hk h1 h2 => (Below.heap_setCell _ _ _ _ h1).trans (h.keep k hk h1 h2)⟩
theorem KpM.set2 {a1 a2 B : Nat} {w w' : World} (h : KpM a1 a2 B w w') (hB : B ≤ a2) (i : Nat) (u : Value) : KpM a1 a2 B w (w'.setCell ⟨a2, i, none⟩ u) := ⟨h.below.setCell (p := ⟨a2, i, none⟩) hB u, fun k hk h1 h2 => (Below.heap_setCell _ _ _ _ h2).trans (h.keep k hk h1 h2)⟩
theorem MSt.on {w w' : World} {a1 a2 : Nat} {M : List Nat} (h : MSt w a1 a2 M) (hb : Below w.heap.size w w') : MSt w' a1 a2 M := ⟨h.len, h.asked.keep (hb.block _ h.asked.lt), h.ans.keep (hb.block _ h.ans.lt)⟩
/-- Asked, and not known yet. -/
theorem MSt.open' {w : World} {a1 a2 : Nat} {M : List Nat} (h : MSt w a1 a2 M) (hne : a1 ≠ a2) {i : Nat} (hi : i < 200) (h0 : M.getD i 0 = 0) : MSt (w.setCell ⟨a1, i, none⟩ (.bool true)) a1 a2 (M.set i 1) := by
  refine ⟨by simp [h.len], h.asked.set hi true (fun j hj => ?_), (h.ans.keep (Below.heap_setCell _ _ _ _ (Ne.symm hne))).eq (fun j hj => ?_)⟩
  · rw [getD_set]
    by_cases e : j = i
    · subst e
      rw [if_pos ⟨rfl, by rw [h.len]; exact hi⟩, if_pos rfl]
      rfl
    · rw [if_neg (fun e2 => e e2.1.symm), if_neg e]
  · rw [getD_set]
    by_cases e : j = i
    · subst e
      rw [if_pos ⟨rfl, by rw [h.len]; exact hi⟩, h0]
      rfl
    · rw [if_neg (fun e2 => e e2.1.symm)]
/-- Answered. -/
theorem MSt.close {w : World} {a1 a2 : Nat} {M : List Nat} (h : MSt w a1 a2 M) (hne : a1 ≠ a2) {i : Nat} (hi : i < 200) (h1 : M.getD i 0 = 1) (b : Bool) : MSt (w.setCell ⟨a2, i, none⟩ (.bool b)) a1 a2 (M.set i (if b = true then 2 else 1)) := by
  refine ⟨by simp [h.len], (h.asked.keep (Below.heap_setCell _ _ _ _ hne)).eq (fun j hj => ?_), h.ans.set hi b (fun j hj => ?_)⟩
  · rw [getD_set]
    by_cases e : j = i
    · subst e
      rw [if_pos ⟨rfl, by rw [h.len]; exact hi⟩, h1]
      cases b <;> rfl
    · rw [if_neg (fun e2 => e e2.1.symm)]
  · rw [getD_set]
    by_cases e : j = i
    · subst e
      rw [if_pos ⟨rfl, by rw [h.len]; exact hi⟩, if_pos rfl]
      cases b <;> rfl
    · rw [if_neg (fun e2 => e e2.1.symm), if_neg e]
/-- The value of the closure that asks. -/
abbrev askF (a1 cb ab a2 : Nat) : Value := .func (.func 139) #[] #[.pointer (some ⟨a1, 0, none⟩), .pointer (some ⟨cb, 0, none⟩), .pointer (some ⟨ab, 0, none⟩), .pointer (some ⟨a2, 0, none⟩)]
/-- What lies around while wires are asked. -/
structure EnvC (w : World) (S a1 a2 cb ab kb : Nat) (TA : Option Addr) (tc : Nat) (PA : Option Addr) (pc : Nat) (ts : List Tl) : Prop where
  rcb : Row w cb 156 #[.func (.func 113) #[] #[.pointer (some ⟨kb, 0, none⟩)]]
  rab : Row w ab 149 #[askF a1 cb ab a2]
  rkb : Row w kb 26 #[.slice TA 25 tc, .slice PA 3 pc]
  tl : TlIn w S TA ts
  ord : S ≤ kb ∧ kb < cb ∧ cb < a1 ∧ a1 < a2 ∧ a2 < ab
theorem EnvC.kp {w w' : World} {S a1 a2 cb ab kb : Nat} {TA : Option Addr} {tc : Nat} {PA : Option Addr} {pc : Nat} {ts : List Tl} (h : EnvC w S a1 a2 cb ab kb TA tc PA pc ts) (hk : KpM a1 a2 S w w') : EnvC w' S a1 a2 cb ab kb TA tc PA pc ts := by
  obtain ⟨o1, o2, o3, o4, o5⟩ := h.ord
  exact ⟨(hk.keep _ h.rcb.lt (by omega) (by omega)).trans h.rcb, (hk.keep _ h.rab.lt (by omega) (by omega)).trans h.rab, (hk.keep _ h.rkb.lt (by omega) (by omega)).trans h.rkb, h.tl.below hk.below, h.ord⟩
/-- What asking answers. -/
def MkOut (a1 a2 S : Nat) (r : Bool × List Nat) (w : World) (e : Ending) (w' : World) : Prop := e = .returned (.bool r.1) ∧ MSt w' a1 a2 r.2 ∧ KpM a1 a2 S w w'
/-- Asking about a wire, while no more than f have not been asked. -/
def AskC (S a1 a2 cb ab kb : Nat) (TA : Option Addr) (tc : Nat) (PA : Option Addr) (pc : Nat) (ts : List Tl) (f : Nat) : Prop :=
  ∀ (M : List Nat) (t u : Nat) (w : World), t < 25 → u < 8 → EnvC w S a1 a2 cb ab kb TA tc PA pc ts → MSt w a1 a2 M → zeros M ≤ f →
    Calls Try.prog 139 #[.agg #[.int .i64 (t : Int), .int .i64 (u : Int)], .pointer (some ⟨a1, 0, none⟩), .pointer (some ⟨cb, 0, none⟩), .pointer (some ⟨ab, 0, none⟩), .pointer (some ⟨a2, 0, none⟩)] w (MkOut a1 a2 S (memo (cyc ts) (f + 1) M (t, u)) w)
/-- Computing the answer for a wire, while no more than f have not been asked. -/
def CompC (S a1 a2 cb ab kb : Nat) (TA : Option Addr) (tc : Nat) (PA : Option Addr) (pc : Nat) (ts : List Tl) (f : Nat) : Prop :=
  ∀ (M : List Nat) (t u : Nat) (w : World), t < 25 → u < 8 → EnvC w S a1 a2 cb ab kb TA tc PA pc ts → MSt w a1 a2 M → zeros M ≤ f →
    Calls Try.prog 113 #[.agg #[.int .i64 (t : Int), .int .i64 (u : Int)], askF a1 cb ab a2, .pointer (some ⟨kb, 0, none⟩)] w (MkOut a1 a2 S (runQ (memo (cyc ts) (f + 1)) M (cyc ts (t, u))) w)
set_option maxRecDepth 10000 in
set_option maxHeartbeats 1600000 in
theorem ask_step (S a1 a2 cb ab kb : Nat) (TA : Option Addr) (tc : Nat) (PA : Option Addr) (pc : Nat) (ts : List Tl) (f : Nat) (hC : ∀ f', f = f' + 1 → CompC S a1 a2 cb ab kb TA tc PA pc ts f') : AskC S a1 a2 cb ab kb TA tc PA pc ts f := by
  intro M t u w ht hu hE hM hz
  have hi : 8 * t + u < 200 := by omega
  have hwi : wi (t, u) = t * 8 + u := by unfold wi; omega
  obtain ⟨o1, o2, o3, o4, o5⟩ := hE.ord
  obtain ⟨w1, hw1⟩ : ∃ w1, w1 = w.alloc (.cells #[.int .i64 (t : Int), .int .i64 (u : Int)] 152) := ⟨_, rfl⟩
  have hb1 : Below w.heap.size w w1 := by rw [hw1]; exact (Below.refl _ _).alloc (Nat.le_refl _) _
  have hX1 : Row w1 w.heap.size 152 #[.int .i64 (t : Int), .int .i64 (u : Int)] := by rw [hw1]; exact row_new w _ _
  have hz1 : w1.heap.size = w.heap.size + 1 := by rw [hw1]; simp
  have hM1 := hM.on hb1
  have hab := hE.rab.lt
  have hK1 : KpM a1 a2 S w w1 := KpM.more hb1 (by omega)
  have hE1 := hE.kp hK1
  have x0 := hX1.cell 0
  have x1 := hX1.cell 1
  simp at x0 x1
  have m1 := hM1.asked.cell (i := t * 8 + u) (by omega)
  have m2 := hM1.ans.cell (i := t * 8 + u) (by omega)
  have it0 : (0 : Int) ≤ (t : Int) := Int.natCast_nonneg _
  have it1 : (t : Int) < 25 := by omega
  have iu0 : (0 : Int) ≤ (u : Int) := Int.natCast_nonneg _
  have iu1 : (u : Int) < 8 := by omega
  by_cases h0 : M.getD (t * 8 + u) 0 = 0
  · obtain ⟨f', hf'⟩ : ∃ f', f = f' + 1 := ⟨f - 1, by have := zeros_some (M := M) (i := t * 8 + u) (by omega) h0; omega⟩
    have HC := Lib.hid (hC f' hf')
    have hzm := zeros_set (M := M) (i := t * 8 + u) hM.len (by omega) h0
    have hR : memo (cyc ts) (f + 1) M (t, u) = ((runQ (memo (cyc ts) (f' + 1)) (M.set (t * 8 + u) 1) (cyc ts (t, u))).1, (runQ (memo (cyc ts) (f' + 1)) (M.set (t * 8 + u) 1) (cyc ts (t, u))).2.set (t * 8 + u) (if (runQ (memo (cyc ts) (f' + 1)) (M.set (t * 8 + u) 1) (cyc ts (t, u))).1 then 2 else 1)) := by
      rw [memo_new (cyc ts) f M (t, u) (by rw [hwi]; exact h0), hwi, hf']
    have hone : (runQ (memo (cyc ts) (f' + 1)) (M.set (t * 8 + u) 1) (cyc ts (t, u))).2.getD (t * 8 + u) 0 = 1 := by
      have h5 := memo_one (cyc ts) (f' + 1) M (t, u) hM.len (by rw [hwi]; omega)
      rw [hwi] at h5
      exact h5
    have hzM : zeros (M.set (t * 8 + u) 1) ≤ f' := by omega
    have m1' : w1.cell? ⟨a1, t * 8 + u, none⟩ = some (.bool false) := by rw [m1, h0]; rfl
    have HR := Lib.hid hR
    have HONE := Lib.hid hone
    have HM1 := Lib.hid hM1
    have HK1 := Lib.hid hK1
    have HE1 := Lib.hid hE1
    clear m1 m2 hM hM1 hK1 hE hE1 hR hone hC hzm hz
    go_enter Try.func139, Try.ntmps139
    go_upto_region 1 with fail
    change Code.wp _ _ _ _ (w.alloc (.cells #[.int .i64 (t : Int), .int .i64 (u : Int)] 152))
    rw [← hw1]
    clear hw1
    go_quiet (fail)
    obtain ⟨w2, hw2⟩ : ∃ w2, w2 = w1.drewN nq := ⟨_, rfl⟩
    have y0 : w2.cell? ⟨w.heap.size, 0, none⟩ = some (.int .i64 (t : Int)) := by rw [hw2]; exact x0
    have y1 : w2.cell? ⟨w.heap.size, 1, none⟩ = some (.int .i64 (u : Int)) := by rw [hw2]; exact x1
    have y2 : w2.cell? ⟨a1, t * 8 + u, none⟩ = some (.bool false) := by rw [hw2]; exact m1'
    have hd : Below w1.heap.size w1 w2 := by rw [hw2]; exact ⟨rfl, rfl, rfl, Nat.le_refl _, fun _ _ => rfl⟩
    have HM2 := Lib.hid (HM1.out.on hd)
    have hk12 : KpM a1 a2 S w1 w2 := KpM.more hd (by omega)
    have HK2 := Lib.hid (HK1.out.trans hk12)
    have HE2 := Lib.hid (HE1.out.kp hk12)
    have hz2 : w2.heap.size = w.heap.size + 1 := by rw [hw2]; exact hz1
    have hX2 := hX1.below hd (by omega)
    have f2 := HM2.out.asked.frozen (t * 8 + u)
    rw [← hw2]
    clear hw2 hd x0 x1 m1' HM1 HK1 HE1 hk12 hX1
    go_upto_region 2 with fail
    go_region_held3 (fun w' => w'.cell? ⟨w.heap.size, 0, none⟩ = some (.int .i64 (t : Int)) ∧ w'.cell? ⟨w.heap.size, 1, none⟩ = some (.int .i64 (u : Int)))
      (first | (with_reducible assumption) | (exact ⟨y0, y1⟩) | (exact ⟨(World.cell?_of_block (a := ⟨w.heap.size, 0, none⟩) (Below.heap_setCell _ _ _ _ (by show w.heap.size ≠ a1; omega))).trans y0, (World.cell?_of_block (a := ⟨w.heap.size, 1, none⟩) (Below.heap_setCell _ _ _ _ (by show w.heap.size ≠ a1; omega))).trans y1⟩) | go_keep)
      (fail)
    rename_i _hheld
    clear _hheld
    obtain ⟨w3, hw3⟩ : ∃ w3, w3 = (w2.setCell ⟨a1, t * 8 + u, none⟩ (.bool true)).drew := ⟨_, rfl⟩
    have hM3 : MSt w3 a1 a2 (M.set (t * 8 + u) 1) := by
      rw [hw3]
      exact (HM2.out.open' (by omega) (by omega) h0).on (Below.refl _ _).drew
    have hk23 : KpM a1 a2 S w2 w3 := by
      rw [hw3]
      have h5 := (KpM.refl a1 a2 S w2).set1 (by omega) (t * 8 + u) (.bool true)
      exact ⟨h5.below.drew, h5.keep⟩
    have hz3 : w3.heap.size = w.heap.size + 1 := by rw [hw3]; show (w2.setCell _ _).heap.size = _; simp [World.setCell]; exact hz2
    have hX3 : Row w3 w.heap.size 152 #[.int .i64 (t : Int), .int .i64 (u : Int)] := (hk23.keep _ (by omega) (by omega) (by omega)).trans hX2
    have hE3 := HE2.out.kp hk23
    have HK3 := Lib.hid (HK2.out.trans hk23)
    rw [← hw3]
    clear hw3 HM2 HK2 HE2 hk23 hX2 y0 y1 y2 f2 hz2
    have y0 := hX3.cell 0
    have y1 := hX3.cell 1
    simp at y0 y1
    have y2 := hE3.rcb.cell 0
    have y3 := hE3.rab.cell 0
    simp at y2 y3
    have hd3 : Below w3.heap.size w3 w3.drew := (Below.refl _ _).drew
    have HCC := Lib.hid (HC.out (M.set (t * 8 + u) 1) t u w3.drew ht hu (hE3.kp (KpM.more hd3 (by omega))) (hM3.on hd3) hzM)
    generalize runQ (memo (cyc ts) (f' + 1)) (M.set (t * 8 + u) 1) (cyc ts (t, u)) = r at *
    have HFR : Hid (∀ w' : World, KpM a1 a2 S w3.drew w' → w'.cell? ⟨w.heap.size, 0, none⟩ = some (.int .i64 (t : Int)) ∧ w'.cell? ⟨w.heap.size, 1, none⟩ = some (.int .i64 (u : Int)) ∧ w'.cell? ⟨cb, 0, none⟩ = some (.func (.func 113) #[] #[.pointer (some ⟨kb, 0, none⟩)]) ∧ w'.cell? ⟨ab, 0, none⟩ = some (askF a1 cb ab a2)) := Lib.hid (fun w' hk => ⟨(World.cell?_of_block (a := ⟨w.heap.size, 0, none⟩) (hk.keep w.heap.size (by show w.heap.size < w3.heap.size; omega) (by omega) (by omega))).trans y0, (World.cell?_of_block (a := ⟨w.heap.size, 1, none⟩) (hk.keep w.heap.size (by show w.heap.size < w3.heap.size; omega) (by omega) (by omega))).trans y1, (World.cell?_of_block (a := ⟨cb, 0, none⟩) (hk.keep cb (by show cb < w3.heap.size; omega) (by omega) (by omega))).trans y2, (World.cell?_of_block (a := ⟨ab, 0, none⟩) (hk.keep ab (by show ab < w3.heap.size; omega) (by omega) (by omega))).trans y3⟩)
    have HX3 := Lib.hid hX3
    clear HC hE3 hM3 hX3 hd3
    go_upto_region 3 with fail
    go_region_held3 (fun w' => w'.cell? ⟨w.heap.size, 0, none⟩ = some (.int .i64 (t : Int)) ∧ w'.cell? ⟨w.heap.size, 1, none⟩ = some (.int .i64 (u : Int)) ∧ w'.cell? ⟨cb, 0, none⟩ = some (.func (.func 113) #[] #[.pointer (some ⟨kb, 0, none⟩)]) ∧ w'.cell? ⟨ab, 0, none⟩ = some (askF a1 cb ab a2))
      (first | (with_reducible assumption) | (exact ⟨y0, y1, y2, y3⟩) | (exact hS6) | go_keep)
      (first | (go_at_call 113; go_fit HCC.out; rintro e w5 ⟨rfl, hm5, hk5⟩; have hS5 := HFR.out w5 hk5; have c5 := hm5.ans.cell (i := t * 8 + u) (by omega); have f5 := hm5.ans.frozen (t * 8 + u); have hS6 := HFR.out _ (hk5.set2 (by omega) (t * 8 + u) (.bool r.1))))
    rename_i _hheld
    clear _hheld
    obtain ⟨w6, hw6⟩ : ∃ w6, w6 = w5.setCell ⟨a2, t * 8 + u, none⟩ (.bool r.1) := ⟨_, rfl⟩
    have hM6 : MSt w6 a1 a2 (r.2.set (t * 8 + u) (if r.1 = true then 2 else 1)) := by
      rw [hw6]
      exact hm5.close (by omega) (by omega) HONE.out r.1
    have hk36 : KpM a1 a2 S w3 w6 := by
      rw [hw6]
      have h5 : KpM a1 a2 S w3 w5 := ⟨(Below.refl _ _).drew.trans hk5.below, hk5.keep⟩
      exact h5.set2 (by omega) (t * 8 + u) (.bool r.1)
    have hX6 : Row w6 w.heap.size 152 #[.int .i64 (t : Int), .int .i64 (u : Int)] := (hk36.keep _ (by omega) (by omega) (by omega)).trans HX3.out
    have HK6 := Lib.hid (HK3.out.trans hk36)
    have HM6 := Lib.hid hM6
    have z6 : w6.cell? ⟨a2, t * 8 + u, none⟩ = some (.bool r.1) := by
      rw [hM6.ans.cell (by omega), getD_set, if_pos ⟨rfl, by have := hM6.len; simpa using (show t * 8 + u < r.2.length by simp at this; omega)⟩]
      cases r.1 <;> rfl
    rw [← hw6]
    clear hw6 hm5 hk5 hS5 hS6 c5 f5 hM6 hk36 HX3 HFR HK3 y0 y1 y2 y3 HCC
    have y0 := hX6.cell 0
    have y1 := hX6.cell 1
    simp at y0 y1
    go_wp2
    go_quiet (fail)
    go_wp2
    go_ret
    unfold MkOut
    rw [HR.out]
    have hd : ∀ k, Below w6.heap.size w6 (w6.drewN k) := fun _ => ⟨rfl, rfl, rfl, Nat.le_refl _, fun _ _ => rfl⟩
    exact ⟨rfl, HM6.out.on (hd _), HK6.out.trans (KpM.more (hd _) (by have := HK6.out.below.size; omega))⟩
  · have hR : memo (cyc ts) (f + 1) M (t, u) = (M.getD (t * 8 + u) 0 == 2, M) := by rw [← hwi]; exact memo_old _ _ _ _ (by rw [hwi]; exact h0)
    have m1' : w1.cell? ⟨a1, t * 8 + u, none⟩ = some (.bool true) := by rw [m1, bne_iff_ne.2 h0]
    have HR := Lib.hid hR
    have HM1 := Lib.hid hM1
    have HK1 := Lib.hid hK1
    clear m1 hM hM1 hK1 hE hE1 hR hX1 hC
    generalize (M.getD (t * 8 + u) 0 == 2) = q at *
    go_enter Try.func139, Try.ntmps139
    go_upto_region 1 with fail
    change Code.wp _ _ _ _ (w.alloc (.cells #[.int .i64 (t : Int), .int .i64 (u : Int)] 152))
    rw [← hw1]
    clear hw1
    go_quiet (fail)
    obtain ⟨w2, hw2⟩ : ∃ w2, w2 = w1.drewN nq := ⟨_, rfl⟩
    have y0 : w2.cell? ⟨w.heap.size, 0, none⟩ = some (.int .i64 (t : Int)) := by rw [hw2]; exact x0
    have y1 : w2.cell? ⟨w.heap.size, 1, none⟩ = some (.int .i64 (u : Int)) := by rw [hw2]; exact x1
    have y2 : w2.cell? ⟨a2, t * 8 + u, none⟩ = some (.bool q) := by rw [hw2]; exact m2
    have hd : Below w1.heap.size w1 w2 := by rw [hw2]; exact ⟨rfl, rfl, rfl, Nat.le_refl _, fun _ _ => rfl⟩
    have HM2 := Lib.hid (HM1.out.on hd)
    have HK2 := Lib.hid (HK1.out.trans (KpM.more hd (by omega)))
    rw [← hw2]
    clear hw2 hd x0 x1 m2 m1' HM1 HK1
    go_wp2
    go_quiet (fail)
    go_wp2
    go_ret
    unfold MkOut
    rw [HR.out]
    have hd : ∀ k, Below w2.heap.size w2 (w2.drewN k) := fun _ => ⟨rfl, rfl, rfl, Nat.le_refl _, fun _ _ => rfl⟩
    exact ⟨rfl, HM2.out.on (hd _), HK2.out.trans (KpM.more (hd _) (by have := HK2.out.below.size; omega))⟩
end Go.Proofs.Ytdadokcodklfgaa
/- The program's answer for a wire, while others are asked. -/
namespace Go.Proofs.Ytdadokcodklfgaa
open Go.RowKit Go.Deep Cut

set_option maxHeartbeats 800000 in
theorem negAsk_any (S a1 a2 cb ab kb : Nat) (TA : Option Addr) (tc : Nat) (PA : Option Addr) (pc : Nat) (ts : List Tl) (f : Nat) (hA : AskC S a1 a2 cb ab kb TA tc PA pc ts f) (M : List Nat) (t u qb : Nat) (w : World) (ht : t < 25) (hu : u < 8) (hE : EnvC w S a1 a2 cb ab kb TA tc PA pc ts) (hM : MSt w a1 a2 M) (hz : zeros M ≤ f) (hq : Row w qb 149 #[askF a1 cb ab a2]) :
    Calls Try.prog 116 #[.agg #[.int .i64 (t : Int), .int .i64 (u : Int)], .pointer (some ⟨qb, 0, none⟩)] w fun e w' => e = .returned (.bool (!(memo (cyc ts) (f + 1) M (t, u)).1)) ∧ MSt w' a1 a2 (memo (cyc ts) (f + 1) M (t, u)).2 ∧ KpM a1 a2 S w w' := by
  have eg : ∀ args w, (callFunc 139 args).run Try.prog w = .ok (.enter 139 args) w := enters_of Try.func139 (by kernel_rfl) rfl
  obtain ⟨w1, hw1⟩ : ∃ w1, w1 = w.alloc (.cells #[.int .i64 (t : Int), .int .i64 (u : Int)] 152) := ⟨_, rfl⟩
  have hb1 : Below w.heap.size w w1 := by rw [hw1]; exact (Below.refl _ _).alloc (Nat.le_refl _) _
  have hX1 : Row w1 w.heap.size 152 #[.int .i64 (t : Int), .int .i64 (u : Int)] := by rw [hw1]; exact row_new w _ _
  have hSw : S ≤ w.heap.size := by have h1 := hE.ord; have h2 := hE.rkb.lt; omega
  have hK1 : KpM a1 a2 S w w1 := KpM.more hb1 hSw
  have HA := Lib.hid (hA M t u w1 ht hu (hE.kp hK1) (hM.on hb1) hz)
  have HK1 := Lib.hid hK1
  have q0 := (hq.below hb1 hq.lt).cell 0
  have x0 := hX1.cell 0
  have x1 := hX1.cell 1
  simp at q0 x0 x1
  clear hA hE hM hK1 hb1 hX1 hq
  go_enter Try.func116, Try.ntmps116
  go_upto_region 1 with fail
  change Code.wp _ _ _ _ (w.alloc (.cells #[.int .i64 (t : Int), .int .i64 (u : Int)] 152))
  rw [← hw1]
  clear hw1
  go_wp2_with fail
  refine HA.out.mono ?_
  rintro e w2 ⟨rfl, hm2, hk2⟩
  have HM2 := Lib.hid hm2
  have HK2 := Lib.hid (HK1.out.trans hk2)
  clear hm2 hk2 HA HK1 q0 x0 x1
  go_wp2
  go_ret
  exact ⟨rfl, HM2.out, HK2.out⟩
/-- Whether one of them is not. -/
def IdxOut (a1 a2 S : Nat) (r : Bool × List Nat) (w : World) (e : Ending) (w' : World) : Prop := (∃ z : Int, e = .returned (.int .i64 z) ∧ decide (0 ≤ z) = !r.1) ∧ MSt w' a1 a2 r.2 ∧ KpM a1 a2 S w w'
theorem WrAt.kp {w w' : World} {B cap a1 a2 S : Nat} {xs : List Wr} {A : Option Addr} (h : WrAt w B xs A cap) (hk : KpM a1 a2 S w w') (h1 : a1 < B) (h2 : a2 < B) : WrAt w' B xs A cap := h.keep (fun b hb hb2 => hk.keep b hb2 (by omega) (by omega))
theorem drop_cons (L : List Wr) {k : Nat} (hk : k < L.length) : L.drop k = L.getD k (0, 0) :: L.drop (k + 1) := by
  rw [List.getD_eq_getElem?_getD, List.getElem?_eq_getElem hk, List.drop_eq_getElem_cons hk]
  rfl
set_option maxHeartbeats 1600000 in
theorem indexW_any (S a1 a2 cb ab kb : Nat) (TA : Option Addr) (tc : Nat) (PA : Option Addr) (pc : Nat) (ts : List Tl) (f : Nat) (hA : AskC S a1 a2 cb ab kb TA tc PA pc ts f) (M : List Nat) (B n c qb : Nat) (D : Option Addr) (L : List Wr) (w : World) (hL : WrAt w B L D c) (hn : L.length = n) (hok : ∀ x ∈ L, WrOk x) (hB : ab < B) (hqb : ab < qb) (hE : EnvC w S a1 a2 cb ab kb TA tc PA pc ts) (hM : MSt w a1 a2 M) (hz : zeros M ≤ f) (hq : Row w qb 149 #[askF a1 cb ab a2]) (hnb : n ≤ 1000) :
    Calls Try.prog 140 #[.slice D n c, .func (.func 116) #[] #[.pointer (some ⟨qb, 0, none⟩)]] w (IdxOut a1 a2 S (runQ (memo (cyc ts) (f + 1)) M (allOf L)) w) := by
  have eg : ∀ args w, (callFunc 116 args).run Try.prog w = .ok (.enter 116 args) w := enters_of Try.func116 (by kernel_rfl) rfl
  obtain ⟨o1, o2, o3, o4, o5⟩ := hE.ord
  have HA := Lib.hid hA
  have HLW := Lib.hid hL
  have HN := Lib.hid hn
  have HOK := Lib.hid hok
  have HE := Lib.hid hE
  have HQ := Lib.hid hq
  have HM := Lib.hid hM
  have HZ := Lib.hid hz
  obtain ⟨R, hR⟩ : ∃ R, R = runQ (memo (cyc ts) (f + 1)) M (allOf L) := ⟨_, rfl⟩
  rw [← hR]
  have HR := Lib.hid hR
  clear hA hL hn hok hE hq hM hz hR
  go_enter Try.func140, Try.ntmps140
  go_wp2
  go_loopw [8] (fun iv wr => ∃ (k : Nat) (Mk : List Nat), k ≤ n ∧ iv = .int .i64 k ∧ Hid (R = runQ (memo (cyc ts) (f + 1)) Mk (allOf (L.drop k))) ∧ Hid (zeros Mk ≤ f) ∧ Hid (MSt wr a1 a2 Mk) ∧ Hid (KpM a1 a2 S w wr)) (fun iv _ => n - (intOf iv).toNat)
  case atStart => exact ⟨0, M, Nat.zero_le _, rfl, HR, HZ, HM, Lib.hid (KpM.refl _ _ _ _)⟩
  case round =>
    clear HR HZ HM
    obtain ⟨k, Mk, hk, rfl, HR, HZ, HM, HK⟩ := hrel
    by_cases hlt : k < n
    · obtain ⟨b, off, rfl, hbl, hc0, hc1⟩ := (HLW.out.kp HK.out (by omega) (by omega)).read k (by rw [HN.out]; exact hlt)
      have hD := drop_cons L (show k < L.length by rw [HN.out]; exact hlt)
      have hx : WrOk (L.getD k (0, 0)) := HOK.out _ (by rw [List.getD_eq_getElem?_getD, List.getElem?_eq_getElem (show k < L.length by rw [HN.out]; exact hlt)]; exact List.getElem_mem _)
      have hr := HR.out
      rw [hD] at hr
      simp only [allOf, runQ] at hr
      generalize L.getD k (0, 0) = x at *
      obtain ⟨t, u⟩ := x
      have hx1 : t < 25 := hx.1
      have hx2 : u < 8 := hx.2
      have hqw : Row wr qb 149 #[askF a1 cb ab a2] := (HK.out.keep _ HQ.out.lt (by omega) (by omega)).trans HQ.out
      have HNG := Lib.hid (negAsk_any S a1 a2 cb ab kb TA tc PA pc ts f HA.out Mk t u qb wr hx1 hx2 (HE.out.kp HK.out) HM.out HZ.out hqw)
      have HKP := Lib.hid (memo_kp (cyc ts) (f + 1) Mk (t, u))
      have HR2 := Lib.hid hr
      clear hr hD hx hqw HR HM
      generalize memo (cyc ts) (f + 1) Mk (t, u) = g at *
      go_wp2_with fail
      refine HNG.out.mono ?_
      rintro e w2 ⟨rfl, hm2, hk2⟩
      have HM2 := Lib.hid hm2
      have HK2 := Lib.hid (HK.out.trans hk2)
      clear hm2 hk2 HNG hc0 hc1 HK
      obtain ⟨g1, g2⟩ := g
      cases g1
      · have HR3 : Hid (R = (false, g2)) := Lib.hid HR2.out
        clear HR2 HKP
        go_wp2
        go_ret
        unfold IdxOut
        rw [HR3.out]
        exact ⟨⟨(k : Int), rfl, by simp⟩, HM2.out, HK2.out⟩
      · have HR3 : Hid (R = runQ (memo (cyc ts) (f + 1)) g2 (allOf (L.drop (k + 1)))) := Lib.hid HR2.out
        have HZ3 : Hid (zeros g2 ≤ f) := Lib.hid (Nat.le_trans (zeros_kp HKP.out) HZ.out)
        clear HR2 HKP
        go_wp2
        go_roundw
        case rel => exact ⟨k + 1, g2, by omega, by go_num, HR3, HZ3, HM2, HK2⟩
        case measure => simp [intOf]; omega
    · obtain rfl : k = n := by omega
      have hr := HR.out
      rw [← HN.out, List.drop_length] at hr
      simp only [allOf, runQ] at hr
      have HR3 := Lib.hid hr
      clear hr
      go_wp2
      go_ret
      unfold IdxOut
      rw [HR3.out]
      exact ⟨⟨-1, rfl, rfl⟩, HM.out, HK.out⟩
theorem containsW_any (S a1 a2 cb ab kb : Nat) (TA : Option Addr) (tc : Nat) (PA : Option Addr) (pc : Nat) (ts : List Tl) (f : Nat) (hA : AskC S a1 a2 cb ab kb TA tc PA pc ts f) (M : List Nat) (B n c qb : Nat) (D : Option Addr) (L : List Wr) (w : World) (hL : WrAt w B L D c) (hn : L.length = n) (hok : ∀ x ∈ L, WrOk x) (hB : ab < B) (hqb : ab < qb) (hE : EnvC w S a1 a2 cb ab kb TA tc PA pc ts) (hM : MSt w a1 a2 M) (hz : zeros M ≤ f) (hq : Row w qb 149 #[askF a1 cb ab a2]) (hnb : n ≤ 1000) :
    Calls Try.prog 114 #[.slice D n c, .func (.func 116) #[] #[.pointer (some ⟨qb, 0, none⟩)]] w fun e w' => e = .returned (.bool (!(runQ (memo (cyc ts) (f + 1)) M (allOf L)).1)) ∧ MSt w' a1 a2 (runQ (memo (cyc ts) (f + 1)) M (allOf L)).2 ∧ KpM a1 a2 S w w' := by
  have H := Lib.hid (indexW_any S a1 a2 cb ab kb TA tc PA pc ts f hA M B n c qb D L w hL hn hok hB hqb hE hM hz hq hnb)
  clear hA hL hn hok hE hM hz hq
  generalize runQ (memo (cyc ts) (f + 1)) M (allOf L) = r at *
  go_enter Try.func114, Try.ntmps114
  go_wp2_with fail
  refine H.out.mono ?_
  rintro e w1 ⟨⟨z, rfl, hz⟩, hm, hk⟩
  have HMM := Lib.hid hm
  have HKK := Lib.hid hk
  have HZ := Lib.hid hz
  clear H hm hk hz
  go_wp2
  go_ret
  exact ⟨by rw [← HZ.out]; rfl, HMM.out, HKK.out⟩
end Go.Proofs.Ytdadokcodklfgaa
/- The program's ConfigAcyclic. -/
namespace Go.Proofs.Ytdadokcodklfgaa
open Go.RowKit Go.Deep Cut

theorem srcs_ok {ts : List Tl} {t u : Nat} (ht : t < 25) (hu : u < 8) (hok : tlOk t (ts.getD t tl0) = true) : ∀ x ∈ srcs ts (t, u), WrOk x := fun x hx => by
  unfold srcs at hx
  simp only at hx
  have hsrc := tlOk_src hok hu
  generalize hd : (ts.getD t tl0).2.2.2.getD u 0 = d at *
  split at hx
  · split at hx
    · simp at hx
    · rw [List.mem_map] at hx
      obtain ⟨z, hz, rfl⟩ := hx
      rw [List.mem_filter] at hz
      obtain ⟨h1, h2⟩ := hz
      obtain ⟨i, hi, rfl⟩ := List.getElem_of_mem h1
      have h3 := tlOk_sel hok i hi
      rw [List.getD_eq_getElem?_getD, List.getElem?_eq_getElem hi] at h3
      simp only [Option.getD_some] at h3
      have h4 : (ts.getD t tl0).2.1[i] ≠ 15 := by simpa using h2
      exact ⟨ht, by show Int.toNat _ < 8; have := h3.2.2 h4; omega⟩
  · split at hx
    · simp at hx
    · rename_i a b
      simp only [List.mem_singleton] at hx
      subst hx
      obtain ⟨n0, n1⟩ := nb_ok ht hsrc (by omega) (by omega) (by omega)
      exact ⟨by show Int.toNat _ < 25; omega, hu⟩
theorem srcs_len (ts : List Tl) (t u : Nat) (h : (ts.getD t tl0).2.1.length ≤ 100) : (srcs ts (t, u)).length ≤ 1000 := by
  unfold srcs
  split
  · split
    · simp
    · rw [List.length_map]
      have := List.length_filter_le (fun z : Int => decide (z ≠ 15)) (ts.getD t tl0).2.1
      exact Nat.le_trans this (by omega)
  · split <;> simp
set_option maxRecDepth 10000 in
set_option maxHeartbeats 1600000 in
theorem comp_step (S a1 a2 cb ab kb : Nat) (TA : Option Addr) (tc : Nat) (PA : Option Addr) (pc : Nat) (ts : List Tl) (f : Nat) (hn : ts.length = 25) (hok : ∀ k, k < 25 → tlOk k (ts.getD k tl0) = true) (hA : AskC S a1 a2 cb ab kb TA tc PA pc ts f) : CompC S a1 a2 cb ab kb TA tc PA pc ts f := by
  intro M t u w ht hu hE hM hz
  obtain ⟨o1, o2, o3, o4, o5⟩ := hE.ord
  have hab := hE.rab.lt
  obtain ⟨w1, hw1⟩ : ∃ w1, w1 = (w.alloc (.cells #[.int .i64 (t : Int), .int .i64 (u : Int)] 152)).alloc (.cells #[askF a1 cb ab a2] 149) := ⟨_, rfl⟩
  have hb1 : Below w.heap.size w w1 := by rw [hw1]; exact ((Below.refl _ _).alloc (Nat.le_refl _) _).alloc (by simp) _
  have hX1 : Row w1 w.heap.size 152 #[.int .i64 (t : Int), .int .i64 (u : Int)] := by rw [hw1]; exact row_o1' w _ _ _
  have hQ1 : Row w1 (w.heap.size + 1) 149 #[askF a1 cb ab a2] := by rw [hw1]; exact row_n1 w _ _ _
  have hz1 : w1.heap.size = w.heap.size + 2 := by rw [hw1]; simp
  have hK1 : KpM a1 a2 S w w1 := KpM.more hb1 (by omega)
  have hE1 := hE.kp hK1
  have hM1 := hM.on hb1
  have x0 := hX1.cell 0
  have x1 := hX1.cell 1
  have k0 := hE1.rkb.cell 0
  have k1 := hE1.rkb.cell 1
  simp at x0 x1 k0 k1
  have HF := Lib.hid (feeders_any TA PA 25 tc 3 pc t u ts w1 (hE1.tl.mono (by omega)) hn (hok t ht) ht ht hu)
  have hL := srcs_ok ht hu (hok t ht)
  have hLn := srcs_len ts t u (by have := (tlOk_fit (hok t ht)).2.1.1; omega)
  obtain ⟨L, hLe⟩ : ∃ L, L = srcs ts (t, u) := ⟨_, rfl⟩
  have hcy : cyc ts (t, u) = allOf L := by rw [hLe]; rfl
  rw [hcy]
  rw [← hLe] at HF hL hLn
  have HL := Lib.hid hL
  have HK1 := Lib.hid hK1
  have HE1 := Lib.hid hE1
  have HM1 := Lib.hid hM1
  have HQ1 := Lib.hid hQ1
  have HA := Lib.hid hA
  have HZ := Lib.hid hz
  clear hE hM hK1 hE1 hM1 hQ1 hX1 hb1 hL hLe hcy hA hz
  go_enter Try.func113, Try.ntmps113
  go_upto_region 1 with fail
  change Code.wp _ _ _ _ ((w.alloc (.cells #[.int .i64 (t : Int), .int .i64 (u : Int)] 152)).alloc (.cells #[askF a1 cb ab a2] 149))
  rw [← hw1]
  clear hw1
  go_wp2_with fail
  refine HF.out.mono ?_
  rintro e w2 ⟨D, dc, rfl, hw2, hb2⟩
  have hk2 : KpM a1 a2 S w1 w2 := KpM.more hb2 (by omega)
  have HC := Lib.hid (containsW_any S a1 a2 cb ab kb TA tc PA pc ts f HA.out M w1.heap.size L.length dc (w.heap.size + 1) D L w2 hw2 rfl HL.out (by omega) (by omega) (HE1.out.kp hk2) (HM1.out.on hb2) HZ.out (HQ1.out.below hb2 (by omega)) hLn)
  have HK2 := Lib.hid (HK1.out.trans hk2)
  clear hw2 hb2 hk2 HF HE1 HM1 HQ1 HK1 HL HA x0 x1 k0 k1
  generalize runQ (memo (cyc ts) (f + 1)) M (allOf L) = r at *
  go_wp2_with fail
  refine HC.out.mono ?_
  rintro e w3 ⟨rfl, hm3, hk3⟩
  have HM3 := Lib.hid hm3
  have HK3 := Lib.hid (HK2.out.trans hk3)
  clear hm3 hk3 HC HK2
  go_wp2
  go_ret
  exact ⟨by simp, HM3.out, HK3.out⟩
theorem ask_all (S a1 a2 cb ab kb : Nat) (TA : Option Addr) (tc : Nat) (PA : Option Addr) (pc : Nat) (ts : List Tl) (hn : ts.length = 25) (hok : ∀ k, k < 25 → tlOk k (ts.getD k tl0) = true) : ∀ f, AskC S a1 a2 cb ab kb TA tc PA pc ts f
  | 0 => ask_step S a1 a2 cb ab kb TA tc PA pc ts 0 (fun f' h => by omega)
  | f + 1 => ask_step S a1 a2 cb ab kb TA tc PA pc ts (f + 1) (fun f' h => by
    obtain rfl : f' = f := by omega
    exact comp_step S a1 a2 cb ab kb TA tc PA pc ts f' hn hok (ask_all S a1 a2 cb ab kb TA tc PA pc ts hn hok f'))
end Go.Proofs.Ytdadokcodklfgaa
/- The program's memory of asking, made; ConfigAcyclic. -/
namespace Go.Proofs.Ytdadokcodklfgaa
open Go.RowKit Go.Deep Cut

def zw200 : Array Value := (List.replicate 200 (Value.bool false)).toArray
theorem BArr.zw {w : World} {a : Nat} (h : Row w a 186 zw200) : BArr w a (fun _ => false) :=
  ⟨zw200, h, by unfold zw200; rw [List.size_toArray, List.length_replicate], fun i hi => by unfold zw200; rw [List.getElem?_toArray, List.getElem?_replicate, if_pos hi]⟩
/-- What memoized answers. -/
def MemOut (S kb : Nat) (TA : Option Addr) (tc : Nat) (PA : Option Addr) (pc : Nat) (ts : List Tl) (w : World) (e : Ending) (w' : World) : Prop :=
  ∃ a1 a2 cb ab : Nat, e = .returned (askF a1 cb ab a2) ∧ EnvC w' S a1 a2 cb ab kb TA tc PA pc ts ∧ MSt w' a1 a2 (List.replicate 200 0) ∧ Below w.heap.size w w'
set_option maxRecDepth 10000 in
set_option maxHeartbeats 1600000 in
theorem memoized_any (S kb : Nat) (TA : Option Addr) (tc : Nat) (PA : Option Addr) (pc : Nat) (ts : List Tl) (w : World) (hk : Row w kb 26 #[.slice TA 25 tc, .slice PA 3 pc]) (hx : TlIn w S TA ts) (hS : S ≤ kb) :
    Calls Try.prog 112 #[(.func (.func 113) #[] #[.pointer (some ⟨kb, 0, none⟩)])] w (MemOut S kb TA tc PA pc ts w) := by
  have hkl := hk.lt
  obtain ⟨w1, hw1⟩ : ∃ w1, w1 = w.alloc (.cells #[(.func (.func 113) #[] #[.pointer (some ⟨kb, 0, none⟩)])] 156) := ⟨_, rfl⟩
  have hb1 : Below w.heap.size w w1 := by rw [hw1]; exact (Below.refl _ _).alloc (Nat.le_refl _) _
  have hC1 : Row w1 w.heap.size 156 #[(.func (.func 113) #[] #[.pointer (some ⟨kb, 0, none⟩)])] := by rw [hw1]; exact row_new w _ _
  have hz1 : w1.heap.size = w.heap.size + 1 := by rw [hw1]; simp
  have HB1 := Lib.hid hb1
  have HC1 := Lib.hid hC1
  have HK := Lib.hid hk
  have HX := Lib.hid hx
  clear hb1 hC1 hk hx
  go_enter Try.func112, Try.ntmps112
  go_upto_region 1 with fail
  change Code.wp _ _ _ _ (w.alloc (.cells #[(.func (.func 113) #[] #[.pointer (some ⟨kb, 0, none⟩)])] 156))
  rw [← hw1]
  clear hw1
  refine wp_region_lit ?_
  refine wpList_buildTo rfl 186 #[] rfl (some 6) rfl zw200 (by kernel_rfl) ?_
  refine wpList_buildTo rfl 186 #[] rfl (some 7) rfl zw200 (by kernel_rfl) ?_
  refine Go.Great.wpList_allocTo rfl (some 3) rfl (.pointer (some ⟨w1.heap.size, 0, none⟩)) (.cells zw200 186) (by kernel_rfl) ?_
  refine Go.Great.wpList_allocTo rfl (some 4) rfl (.pointer (some ⟨(w1.alloc (.cells zw200 186)).heap.size, 0, none⟩)) (.cells zw200 186) (by kernel_rfl) ?_
  have hz2 : (w1.alloc (.cells zw200 186)).heap.size = w1.heap.size + 1 := by simp
  obtain ⟨w2, hw2⟩ : ∃ w2, w2 = (w1.alloc (.cells zw200 186)).alloc (.cells zw200 186) := ⟨_, rfl⟩
  have hA2 : Row w2 w1.heap.size 186 zw200 := by rw [hw2]; exact row_o1' w1 _ _ _
  have hB2 : Row w2 (w1.heap.size + 1) 186 zw200 := by rw [hw2]; exact row_n1 w1 _ _ _
  have hb2 : Below w1.heap.size w1 w2 := by rw [hw2]; exact ((Below.refl _ _).alloc (Nat.le_refl _) _).alloc (by simp) _
  have hz3 : w2.heap.size = w1.heap.size + 2 := by rw [hw2]; simp
  rw [hz2, ← hw2]
  clear hw2 hz2
  refine wpList_store_rowTo rfl 186 (.tmp 3) (.tmp 6) rfl rfl w1.heap.size zw200 rfl rfl 186 zw200 hA2 (by kernel_rfl) rfl (by kernel_rfl) ?_
  have hB3 : Row (w2.setRow w1.heap.size zw200) (w1.heap.size + 1) 186 zw200 := (setRow_other _ _ _ _ (by omega)).trans hB2
  refine wpList_store_rowTo rfl 186 (.tmp 4) (.tmp 7) rfl rfl (w1.heap.size + 1) zw200 rfl rfl 186 zw200 hB3 (by kernel_rfl) rfl (by kernel_rfl) ?_
  obtain ⟨w4, hw4⟩ : ∃ w4, w4 = (w2.setRow w1.heap.size zw200).setRow (w1.heap.size + 1) zw200 := ⟨_, rfl⟩
  have hA4 : Row w4 w1.heap.size 186 zw200 := by rw [hw4]; exact (setRow_other _ _ _ _ (by omega)).trans (setRow_heap _ _ _ _ _ _ hA2)
  have hB4 : Row w4 (w1.heap.size + 1) 186 zw200 := by rw [hw4]; exact setRow_heap _ _ _ _ _ _ hB3
  have hz4 : w4.heap.size = w1.heap.size + 2 := by rw [hw4, setRow_size, setRow_size, hz3]
  have hb4 : Below w1.heap.size w1 w4 := by rw [hw4]; exact below_setRow (below_setRow hb2 (Nat.le_refl _) _) (by omega) _
  rw [← hw4]
  clear hw4 hA2 hB2 hB3 hb2 hz3
  have HA4 := Lib.hid (BArr.zw hA4)
  have HB4 := Lib.hid (BArr.zw hB4)
  have HC4 := Lib.hid (HC1.out.below hb4 (by omega))
  have HL4 := Lib.hid (HB1.out.trans (hb4.mono (by omega)))
  have HK4 := Lib.hid ((HK.out.below HL4.out hkl))
  clear hA4 hB4 hb4 HB1 HC1 HK
  obtain ⟨w5, hw5⟩ : ∃ w5, w5 = w4.alloc (.cells #[.nilFunc] 149) := ⟨_, rfl⟩
  have hb5 : Below w4.heap.size w4 w5 := by rw [hw5]; exact (Below.refl _ _).alloc (Nat.le_refl _) _
  have hQ5 : Row w5 w4.heap.size 149 #[.nilFunc] := by rw [hw5]; exact row_new w4 _ _
  have hz5 : w4.heap.size = w.heap.size + 1 + 2 := by omega
  rw [hz5] at hQ5
  rw [hz1] at HA4 HB4
  have q0 : w5.cell? ⟨w.heap.size + 1 + 2, 0, none⟩ = some .nilFunc := hQ5.cell 0
  have fq : w5.frozen? ⟨w.heap.size + 1 + 2, 0, none⟩ = false := hQ5.frozen 0
  obtain ⟨w6, hw6⟩ : ∃ w6, w6 = w5.setCell ⟨w.heap.size + 1 + 2, 0, none⟩ (askF (w.heap.size + 1) w.heap.size (w.heap.size + 1 + 2) (w.heap.size + 1 + 1)) := ⟨_, rfl⟩
  have hQ6 : Row w6 (w.heap.size + 1 + 2) 149 #[askF (w.heap.size + 1) w.heap.size (w.heap.size + 1 + 2) (w.heap.size + 1 + 1)] := by
    rw [hw6]
    have h := hQ5.set 0 (askF (w.heap.size + 1) w.heap.size (w.heap.size + 1 + 2) (w.heap.size + 1 + 1))
    simpa using h
  have hk6 : ∀ k, k < w.heap.size + 1 + 2 → w6.heap[k]? = w4.heap[k]? := fun k hk => by
    rw [hw6]
    exact (Below.heap_setCell _ _ _ _ (by show k ≠ w.heap.size + 1 + 2; omega)).trans (hb5.block k (by omega))
  have hL6 : Below w.heap.size w w6 := by
    rw [hw6]
    exact (HL4.out.trans (hb5.mono (by omega))).setCell (p := ⟨w.heap.size + 1 + 2, 0, none⟩) (by show w.heap.size ≤ w.heap.size + 1 + 2; omega) _
  have HE6 : Hid (EnvC w6 S (w.heap.size + 1) (w.heap.size + 1 + 1) w.heap.size (w.heap.size + 1 + 2) kb TA tc PA pc ts) := Lib.hid ⟨(hk6 _ (by omega)).trans HC4.out, hQ6, (hk6 _ (by omega)).trans HK4.out, HX.out.below (hL6.mono (by omega)), by omega⟩
  have HM6 : Hid (MSt w6 (w.heap.size + 1) (w.heap.size + 1 + 1) (List.replicate 200 0)) := Lib.hid ⟨List.length_replicate, (HA4.out.keep (hk6 _ (by omega))).eq (fun j hj => by rw [List.getD_eq_getElem?_getD, List.getElem?_replicate, if_pos hj]; rfl), (HB4.out.keep (hk6 _ (by omega))).eq (fun j hj => by rw [List.getD_eq_getElem?_getD, List.getElem?_replicate, if_pos hj]; rfl)⟩
  have HL6 := Lib.hid hL6
  clear hQ5 hQ6 hk6 hL6 hb5 HA4 HB4 HC4 HK4 HX
  go_upto_region 3 with fail
  change Code.wp _ _ _ _ (w4.alloc (.cells #[.nilFunc] 149))
  rw [← hw5]
  clear hw5
  go_wp2
  go_ret
  change MemOut S kb TA tc PA pc ts w _ (w5.setCell ⟨w.heap.size + 1 + 2, 0, none⟩ (askF (w.heap.size + 1) w.heap.size (w.heap.size + 1 + 2) (w.heap.size + 1 + 1)))
  rw [← hw6]
  exact ⟨w.heap.size + 1, w.heap.size + 1 + 1, w.heap.size, w.heap.size + 1 + 2, rfl, HE6.out, HM6.out, HL6.out⟩
end Go.Proofs.Ytdadokcodklfgaa
/- The contract of the program's ConfigAcyclic. -/
namespace Go.Proofs.Ytdadokcodklfgaa
open Go.RowKit Go.Deep Cut

theorem zeros_le (M : List Nat) : zeros M ≤ 200 := by
  have h := List.countP_le_length (p := fun i => M.getD i 0 == 0) (l := List.range 200)
  rw [List.length_range] at h
  exact h
theorem topM_step (ts : List Tl) {t u : Nat} (hu : u < 8) (h : (topM ts (8 * t + u)).1 = true) : topM ts (8 * t + (u + 1)) = memo (cyc ts) 201 (topM ts (8 * t + u)).2 (t, u) := by
  show topM ts (8 * t + u + 1) = _
  simp only [topM]
  rw [if_pos h, show (8 * t + u) / 8 = t by omega, show (8 * t + u) % 8 = u by omega]
set_option maxRecDepth 10000 in
set_option maxHeartbeats 1600000 in
theorem iacy_any (TA PA : Option Addr) (n tc m pc : Nat) (ts : List Tl) (ps : List Pd) (w : World) (hx : TlIn w w.heap.size TA ts) (hy : PdIn w w.heap.size PA ps) (hn : ts.length = n) (hm : ps.length = m) (hr : TlBd ts) (hl : m ≤ 2000000) :
    Calls Try.prog 75 #[cfv TA n tc PA m pc] w fun e w' => e = .returned (.bool (cfOk ts ps && acyc ts)) ∧ Below w.heap.size w w' := by
  obtain ⟨w0, hw0⟩ : ∃ w0, w0 = w.alloc (.cells #[.slice TA n tc, .slice PA m pc] 26) := ⟨_, rfl⟩
  have hb0 : Below w.heap.size w w0 := by rw [hw0]; exact (Below.refl _ _).alloc (Nat.le_refl _) _
  have hR0 : Row w0 w.heap.size 26 #[.slice TA n tc, .slice PA m pc] := by rw [hw0]; exact row_new w _ _
  have HB0 := Lib.hid hb0
  have HR0 := Lib.hid hR0
  have HV := Lib.hid (icv_any TA PA n tc m pc ts ps w0 ((hx.below hb0).mono hb0.size) ((hy.below hb0).mono hb0.size) hn hm hr hl)
  have HX := Lib.hid hx
  have HN := Lib.hid hn
  have HM := Lib.hid hm
  have c0 := hR0.cell 0
  have c1 := hR0.cell 1
  simp at c0 c1
  clear hx hy hn hm hr hb0 hR0
  go_enter Try.func75, Try.ntmps75
  go_wp2_with fail
  rw [← hw0]
  clear hw0
  refine HV.out.mono ?_
  rintro e w1 ⟨rfl, hb1⟩
  have HR1 := Lib.hid (HR0.out.below hb1 HR0.out.lt)
  have HB1 := Lib.hid (HB0.out.trans (hb1.mono HB0.out.size))
  clear HV hb1 HR0 HB0 c0 c1
  cases hok : cfOk ts ps
  · have HCF := Lib.hid hok
    clear hok
    go_wp2
    go_ret
    exact ⟨by rw [HCF.out]; rfl, HB1.out⟩
  · obtain ⟨q1, q2, q3, q4⟩ := cfOk_parts hok
    obtain rfl : n = 25 := by rw [← HN.out]; exact q1
    obtain rfl : m = 3 := by rw [← HM.out]; exact q2
    have HOK := Lib.hid q4
    have HCF := Lib.hid hok
    clear hok q1 q2 q3 q4
    have hkz := HR1.out.lt
    have HMEM := Lib.hid (memoized_any w.heap.size w.heap.size TA tc PA pc ts w1 HR1.out (HX.out.below HB1.out) (Nat.le_refl _))
    go_wp2_with fail
    refine HMEM.out.mono ?_
    rintro e w2 ⟨a1, a2, cb, ab, rfl, hE, hM, hb2⟩
    have HA := Lib.hid (ask_all w.heap.size a1 a2 cb ab w.heap.size TA tc PA pc ts HN.out HOK.out 200)
    have HE2 := Lib.hid hE
    have HM2 : Hid (MSt w2 a1 a2 (topM ts (8 * 0)).2) := Lib.hid hM
    have HB2 := Lib.hid (HB1.out.trans (hb2.mono (by omega)))
    have HT2 : Hid ((topM ts (8 * 0)).1 = true) := Lib.hid rfl
    clear hE hM hb2 HMEM HR1 HB1
    have eg : ∀ args w, (callFunc 139 args).run Try.prog w = .ok (.enter 139 args) w := enters_of Try.func139 (by kernel_rfl) rfl
    go_wp2
    go_loopw [11] (fun iv wr => ∃ t : Nat, t ≤ 25 ∧ iv = .int .i64 t ∧ Hid ((topM ts (8 * t)).1 = true) ∧ Hid (MSt wr a1 a2 (topM ts (8 * t)).2) ∧ Hid (KpM a1 a2 w.heap.size w2 wr)) (fun iv _ => 25 - (intOf iv).toNat)
    case atStart => exact ⟨0, by omega, rfl, HT2, HM2, Lib.hid (KpM.refl _ _ _ _)⟩
    case round =>
      clear HT2 HM2
      obtain ⟨t, ht, rfl, HT, HM, HK⟩ := hrel
      obtain ⟨w3, h3⟩ : ∃ w3, w3 = wr := ⟨_, rfl⟩
      subst h3
      by_cases hlt : t < 25
      · have HT0 : Hid ((topM ts (8 * t + 0)).1 = true) := HT
        have HM0 : Hid (MSt w3 a1 a2 (topM ts (8 * t + 0)).2) := HM
        clear HT HM
        go_wp2
        rw [show decide ((t : Int) < 25) = true from by simp; omega]
        go_loopw [14] (fun iv wr => ∃ u : Nat, u ≤ 8 ∧ iv = .int .i64 u ∧ Hid ((topM ts (8 * t + u)).1 = true) ∧ Hid (MSt wr a1 a2 (topM ts (8 * t + u)).2) ∧ Hid (KpM a1 a2 w.heap.size w2 wr)) (fun iv _ => 8 - (intOf iv).toNat)
        case atStart => exact ⟨0, by omega, rfl, HT0, HM0, HK⟩
        case round =>
          clear HT0 HM0 HK
          obtain ⟨u, hu, rfl, HT, HM, HK⟩ := hrel
          by_cases hlu : u < 8
          · have HAS := Lib.hid (HA.out _ t u wr hlt hlu (HE2.out.kp HK.out) HM.out (zeros_le _))
            have HST := Lib.hid (topM_step ts hlu HT.out)
            rw [← HST.out] at HAS
            clear HM HT
            go_wp2_with fail
            refine HAS.out.mono ?_
            rintro e w5 ⟨rfl, hm5, hk5⟩
            have HM5 := Lib.hid hm5
            have HK5 := Lib.hid (HK.out.trans hk5)
            clear hm5 hk5 HAS HST HK
            cases hq : (topM ts (8 * t + (u + 1))).1
            · have HF : Hid (acyc ts = false) := Lib.hid (acyc_false (k := 8 * t + (u + 1)) (by omega) hq)
              clear hq
              go_wp2
              go_ret
              exact ⟨by rw [HF.out, HCF.out]; rfl, HB2.out.trans HK5.out.below⟩
            · have HT5 := Lib.hid hq
              clear hq
              go_wp2
              go_roundw
              case rel => exact ⟨u + 1, by omega, by go_num, HT5, HM5, HK5⟩
              case measure => simp [intOf]; omega
          · obtain rfl : u = 8 := by omega
            have HT5 : Hid ((topM ts (8 * (t + 1))).1 = true) := HT
            have HM5 : Hid (MSt wr a1 a2 (topM ts (8 * (t + 1))).2) := HM
            clear HT HM
            go_wp2
            go_roundw
            case rel => exact ⟨t + 1, by omega, by go_num, HT5, HM5, HK⟩
            case measure => simp [intOf]; omega
      · obtain rfl : t = 25 := by omega
        have HF : Hid (acyc ts = true) := Lib.hid HT.out
        go_wp2
        go_ret
        exact ⟨by rw [HF.out, HCF.out]; rfl, HB2.out.trans HK.out.below⟩
end Go.Proofs.Ytdadokcodklfgaa
/- The model's marks. -/
namespace Go.Proofs.Ytdadokcodklfgaa
open Go.RowKit Go.Deep Cut

/-- The model's marks in memory: a row of rows. -/
structure Mk (w : World) (B go : Nat) (gs : List Nat) (M : List Nat) : Prop where
  len : M.length = 200
  hdr : ∃ cs : Array Value, Row w go 31 cs ∧ ∀ i, i < 25 → cs[i]? = some (.slice (some ⟨gs.getD i 0, 0, none⟩) 8 8)
  row : ∀ i, i < 25 → ∃ cs : Array Value, Row w (gs.getD i 0) 3 cs ∧ cs.size = 8 ∧ ∀ j, j < 8 → cs[j]? = some (.int .i64 (M.getD (i * 8 + j) 0 : Nat))
  dist : ∀ i j, i < 25 → j < 25 → i ≠ j → gs.getD i 0 ≠ gs.getD j 0
  ge : B ≤ go ∧ ∀ i, i < 25 → B ≤ gs.getD i 0
theorem Mk.lt {w : World} {B go : Nat} {gs M : List Nat} (h : Mk w B go gs M) {i : Nat} (hi : i < 25) : gs.getD i 0 < w.heap.size := by
  obtain ⟨cs, h1, _⟩ := h.row i hi
  exact h1.lt
theorem Mk.lto {w : World} {B go : Nat} {gs M : List Nat} (h : Mk w B go gs M) : go < w.heap.size := by
  obtain ⟨cs, h1, _⟩ := h.hdr
  exact h1.lt
theorem Mk.off {w : World} {B go : Nat} {gs M : List Nat} (h : Mk w B go gs M) {i : Nat} (hi : i < 25) : go ≠ gs.getD i 0 := by
  obtain ⟨cs, h1, _⟩ := h.hdr
  obtain ⟨ds, h2, _⟩ := h.row i hi
  exact h1.ne h2 (by decide)
theorem Mk.head {w : World} {B go : Nat} {gs M : List Nat} (h : Mk w B go gs M) {i : Nat} (hi : i < 25) : w.cell? ⟨go, i, none⟩ = some (.slice (some ⟨gs.getD i 0, 0, none⟩) 8 8) := by
  obtain ⟨cs, h1, h2⟩ := h.hdr
  rw [h1.cell]
  exact h2 i hi
theorem Mk.cell {w : World} {B go : Nat} {gs M : List Nat} (h : Mk w B go gs M) {i j : Nat} (hi : i < 25) (hj : j < 8) : w.cell? ⟨gs.getD i 0, j, none⟩ = some (.int .i64 (M.getD (i * 8 + j) 0 : Nat)) := by
  obtain ⟨cs, h1, _, h3⟩ := h.row i hi
  rw [h1.cell]
  exact h3 j hj
theorem Mk.frozen {w : World} {B go : Nat} {gs M : List Nat} (h : Mk w B go gs M) {i : Nat} (hi : i < 25) (j : Nat) : w.frozen? ⟨gs.getD i 0, j, none⟩ = false := by
  obtain ⟨cs, h1, _⟩ := h.row i hi
  exact h1.frozen j
theorem Mk.on {w w' : World} {B go : Nat} {gs M : List Nat} (h : Mk w B go gs M) (hb : Below w.heap.size w w') : Mk w' B go gs M := by
  refine ⟨h.len, ?_, fun i hi => ?_, h.dist, h.ge⟩
  · obtain ⟨cs, h1, h2⟩ := h.hdr
    exact ⟨cs, h1.below hb h1.lt, h2⟩
  · obtain ⟨cs, h1, h2⟩ := h.row i hi
    exact ⟨cs, h1.below hb h1.lt, h2⟩
theorem Mk.set {w : World} {B go : Nat} {gs M : List Nat} (h : Mk w B go gs M) {t u : Nat} (ht : t < 25) (hu : u < 8) (v : Nat) : Mk (w.setCell ⟨gs.getD t 0, u, none⟩ (.int .i64 (v : Nat))) B go gs (M.set (t * 8 + u) v) := by
  refine ⟨by simp [h.len], ?_, fun i hi => ?_, h.dist, h.ge⟩
  · obtain ⟨cs, h1, h2⟩ := h.hdr
    exact ⟨cs, h1.far (p := ⟨gs.getD t 0, u, none⟩) (h.off ht) _, h2⟩
  · obtain ⟨cs, h1, h2, h3⟩ := h.row i hi
    by_cases e : i = t
    · subst e
      refine ⟨_, h1.set u _, by simpa using h2, fun j hj => ?_⟩
      rw [getD_set]
      by_cases e2 : j = u
      · subst e2
        rw [Array.getElem?_setIfInBounds_self_of_lt (by omega), if_pos ⟨rfl, by rw [h.len]; omega⟩]
      · rw [Array.getElem?_setIfInBounds_ne (by omega), if_neg (by omega)]
        exact h3 j hj
    · refine ⟨cs, h1.far (p := ⟨gs.getD t 0, u, none⟩) (h.dist i t hi ht e) _, h2, fun j hj => ?_⟩
      rw [getD_set, if_neg (by omega)]
      exact h3 j hj
/-- All but the rows of the marks stands. -/
structure KpS (gs : List Nat) (B : Nat) (w w' : World) : Prop where
  below : Below B w w'
  keep : ∀ k, k < w.heap.size → (∀ i, i < 25 → k ≠ gs.getD i 0) → w'.heap[k]? = w.heap[k]?
theorem KpS.refl (gs : List Nat) (B : Nat) (w : World) : KpS gs B w w := ⟨Below.refl _ _, fun _ _ _ => rfl⟩
theorem KpS.trans {gs : List Nat} {B : Nat} {w w' w'' : World} (h : KpS gs B w w') (k : KpS gs B w' w'') : KpS gs B w w'' := ⟨h.below.trans k.below, fun j hj h1 => (k.keep j (Nat.lt_of_lt_of_le hj h.below.size) h1).trans (h.keep j hj h1)⟩
theorem KpS.more {gs : List Nat} {B : Nat} {w w' : World} (h : Below w.heap.size w w') (hB : B ≤ w.heap.size) : KpS gs B w w' := ⟨h.mono hB, fun k hk _ => h.block k hk⟩
theorem KpS.set {gs : List Nat} {B : Nat} {w w' : World} (h : KpS gs B w w') {t : Nat} (ht : t < 25) (hB : B ≤ gs.getD t 0) (i : Nat) (u : Value) : KpS gs B w (w'.setCell ⟨gs.getD t 0, i, none⟩ u) := ⟨h.below.setCell (p := ⟨gs.getD t 0, i, none⟩) hB u, fun k hk h1 => (Below.heap_setCell _ _ _ _ (h1 t ht)).trans (h.keep k hk h1)⟩
/-- What the model's search answers. -/
def MkOutS (gs : List Nat) (B go : Nat) (r : Bool × List Nat) (w : World) (e : Ending) (w' : World) : Prop := e = .returned (.bool r.1) ∧ Mk w' B go gs r.2 ∧ KpS gs B w w'
/-- Marking a wire, while no more than f are not marked. -/
def MarkC (gs : List Nat) (B go mc : Nat) (TA : Option Addr) (tc : Nat) (PA : Option Addr) (pc : Nat) (ts : List Tl) (f : Nat) : Prop :=
  ∀ (M : List Nat) (t u : Nat) (w : World), t < 25 → u < 8 → TlIn w B TA ts → Mk w B go gs M → zeros M ≤ f →
    Calls Try.prog 137 #[cfv TA 25 tc PA 3 pc, .int .i64 (t : Int), .int .i64 (u : Int), .slice (some ⟨go, 0, none⟩) 25 mc] w (MkOutS gs B go (memo (cyc ts) (f + 1) M (t, u)) w)
set_option maxRecDepth 10000 in
set_option maxHeartbeats 1600000 in
theorem mark_old (gs : List Nat) (B go mc : Nat) (TA : Option Addr) (tc : Nat) (PA : Option Addr) (pc : Nat) (ts : List Tl) (f : Nat) (M : List Nat) (t u : Nat) (w : World) (ht : t < 25) (hu : u < 8) (hM : Mk w B go gs M) (h0 : M.getD (t * 8 + u) 0 ≠ 0) :
    Calls Try.prog 137 #[cfv TA 25 tc PA 3 pc, .int .i64 (t : Int), .int .i64 (u : Int), .slice (some ⟨go, 0, none⟩) 25 mc] w (MkOutS gs B go (memo (cyc ts) (f + 1) M (t, u)) w) := by
  have hwi : wi (t, u) = t * 8 + u := by unfold wi; omega
  have hR : memo (cyc ts) (f + 1) M (t, u) = (M.getD (t * 8 + u) 0 == 2, M) := by rw [← hwi]; exact memo_old _ _ _ _ (by rw [hwi]; exact h0)
  obtain ⟨w1, hw1⟩ : ∃ w1, w1 = w.alloc (.cells #[.slice TA 25 tc, .slice PA 3 pc] 26) := ⟨_, rfl⟩
  have hb1 : Below w.heap.size w w1 := by rw [hw1]; exact (Below.refl _ _).alloc (Nat.le_refl _) _
  have hM1 := hM.on hb1
  have m1 := hM1.head ht
  have m2 := hM1.cell ht hu
  have hgo := hM.lto
  have hge := hM.ge.1
  have HR := Lib.hid hR
  have HM1 := Lib.hid hM1
  have HK1 := Lib.hid (KpS.more (gs := gs) (B := B) hb1 (by omega))
  have it0 : (0 : Int) ≤ (t : Int) := Int.natCast_nonneg _
  have it1 : (t : Int) < 25 := by omega
  have iu0 : (0 : Int) ≤ (u : Int) := Int.natCast_nonneg _
  have iu1 : (u : Int) < 8 := by omega
  clear hR hM hM1 hb1
  generalize M.getD (t * 8 + u) 0 = q at *
  generalize gs.getD t 0 = gt at m1 m2
  have e0 : ((q : Int) != 0) = true := by rw [bne_iff_ne]; omega
  have e2 : ((q : Int) == 2) = (q == 2) := by
    by_cases h : q = 2
    · subst h; rfl
    · rw [beq_eq_false_iff_ne.2 h, beq_eq_false_iff_ne.2 (by omega)]
  go_enter Try.func137, Try.ntmps137
  go_upto_region 1 with fail
  change Code.wp _ _ _ _ (w.alloc (.cells #[.slice TA 25 tc, .slice PA 3 pc] 26))
  rw [← hw1]
  clear hw1
  go_wp2
  go_ret
  unfold MkOutS
  rw [HR.out]
  exact ⟨rfl, HM1.out, HK1.out⟩
theorem set_id {M : List Nat} {i v : Nat} (h : M.getD i 0 = v) (hi : i < M.length) : M.set i v = M := by
  apply List.ext_getElem?
  intro j
  rw [List.getElem?_set]
  by_cases e : i = j
  · subst e
    rw [if_pos rfl, if_pos hi, ← h, List.getD_eq_getElem?_getD, List.getElem?_eq_getElem hi]
    rfl
  · rw [if_neg e]
theorem selW_drop (t : Nat) (x : List Int) {n : Nat} (hn : n < x.length) : selW t (x.drop n) = if x.getD n 0 = 15 then selW t (x.drop (n + 1)) else (t, (x.getD n 0).toNat) :: selW t (x.drop (n + 1)) := by
  have hd : x.drop n = x.getD n 0 :: x.drop (n + 1) := by
    rw [List.getD_eq_getElem?_getD, List.getElem?_eq_getElem hn, List.drop_eq_getElem_cons hn]
    rfl
  unfold selW
  rw [hd]
  by_cases h : x.getD n 0 = 15
  · rw [if_pos h, List.filter_cons_of_neg (p := fun z : Int => decide (z ≠ 15)) (by rw [h]; decide)]
  · rw [if_neg h, List.filter_cons_of_pos (p := fun z : Int => decide (z ≠ 15)) (decide_eq_true h)]
    rfl
theorem runQ_one (c : Wr → Ask) (f : Nat) (M : List Nat) (x : Wr) : runQ (memo c f) M (allOf [x]) = memo c f M x := by
  show runQ (memo c f) (memo c f M x).2 (if (memo c f M x).1 = true then allOf [] else .ans false) = memo c f M x
  cases h : (memo c f M x).1
  · exact Prod.ext h.symm rfl
  · exact Prod.ext h.symm rfl
set_option maxRecDepth 10000 in
set_option maxHeartbeats 3200000 in
theorem mark_new (gs : List Nat) (B go mc : Nat) (TA : Option Addr) (tc : Nat) (PA : Option Addr) (pc : Nat) (ts : List Tl) (f : Nat) (hn : ts.length = 25) (hok : ∀ k, k < 25 → tlOk k (ts.getD k tl0) = true) (hC : MarkC gs B go mc TA tc PA pc ts f) (M : List Nat) (t u : Nat) (w : World) (ht : t < 25) (hu : u < 8) (hx : TlIn w B TA ts) (hM : Mk w B go gs M) (hz : zeros M ≤ f + 1) (h0 : M.getD (t * 8 + u) 0 = 0) :
    Calls Try.prog 137 #[cfv TA 25 tc PA 3 pc, .int .i64 (t : Int), .int .i64 (u : Int), .slice (some ⟨go, 0, none⟩) 25 mc] w (MkOutS gs B go (memo (cyc ts) (f + 1 + 1) M (t, u)) w) := by
  have hwi : wi (t, u) = t * 8 + u := by unfold wi; omega
  have hR : memo (cyc ts) (f + 1 + 1) M (t, u) = ((runQ (memo (cyc ts) (f + 1)) (M.set (t * 8 + u) 1) (cyc ts (t, u))).1, (runQ (memo (cyc ts) (f + 1)) (M.set (t * 8 + u) 1) (cyc ts (t, u))).2.set (t * 8 + u) (if (runQ (memo (cyc ts) (f + 1)) (M.set (t * 8 + u) 1) (cyc ts (t, u))).1 then 2 else 1)) := by
    rw [memo_new (cyc ts) (f + 1) M (t, u) (by rw [hwi]; exact h0), hwi]
  have hone : (runQ (memo (cyc ts) (f + 1)) (M.set (t * 8 + u) 1) (cyc ts (t, u))).2.getD (t * 8 + u) 0 = 1 := by
    have h5 := memo_one (cyc ts) (f + 1) M (t, u) hM.len (by rw [hwi]; omega)
    rw [hwi] at h5
    exact h5
  have hzM : zeros (M.set (t * 8 + u) 1) ≤ f := by
    have := zeros_set (M := M) (i := t * 8 + u) hM.len (by omega) h0
    omega
  have hBw : B ≤ w.heap.size := by have h1 := hM.ge.1; have h2 := hM.lto; omega
  obtain ⟨w1, hw1⟩ : ∃ w1, w1 = w.alloc (.cells #[.slice TA 25 tc, .slice PA 3 pc] 26) := ⟨_, rfl⟩
  have hb1 : Below w.heap.size w w1 := by rw [hw1]; exact (Below.refl _ _).alloc (Nat.le_refl _) _
  have hk1 : Row w1 w.heap.size 26 #[.slice TA 25 tc, .slice PA 3 pc] := by rw [hw1]; exact row_new w _ _
  have hz1 : w1.heap.size = w.heap.size + 1 := by rw [hw1]; simp
  have hM1 := hM.on hb1
  have hgt := hM.lt ht
  have hgB := hM.ge.2 t ht
  obtain ⟨w2, hw2⟩ : ∃ w2, w2 = w1.setCell ⟨gs.getD t 0, u, none⟩ (.int .i64 1) := ⟨_, rfl⟩
  have hM2 : Mk w2 B go gs (M.set (t * 8 + u) 1) := by rw [hw2]; exact hM1.set ht hu 1
  have hK2 : KpS gs B w w2 := by rw [hw2]; exact (KpS.more hb1 hBw).set ht hgB u (.int .i64 1)
  have hgn : ∀ i, i < 25 → gs.getD i 0 < w.heap.size := fun i hi => hM.lt hi
  have hk2 : Row w2 w.heap.size 26 #[.slice TA 25 tc, .slice PA 3 pc] := by rw [hw2]; exact (Below.heap_setCell _ _ _ _ (by show w.heap.size ≠ gs.getD t 0; omega)).trans hk1
  have hz2 : w2.heap.size = w.heap.size + 1 := by rw [hw2]; simp [World.setCell]; exact hz1
  have m1 := hM1.head ht
  have m2 := hM1.cell ht hu
  have m3 := hM1.frozen ht u
  rw [h0] at m2
  have kc0 := hk2.cell 0
  simp at kc0
  obtain ⟨b, off, rfl, hbl, A1, c1, A2, c2, ⟨p0, p1, p2, p3⟩, ⟨hA1, hA2⟩, _, _⟩ := (hx.below hK2.below) t (by omega)
  obtain ⟨_, ⟨l1, _⟩, l2, _⟩ := tlOk_fit (hok t ht)
  have hsel := tlOk_sel (hok t ht)
  have hsrc := tlOk_src (hok t ht) hu
  have hES : srcs ts (t, u) = if (ts.getD t tl0).2.2.2.getD u 0 = 1 then (if (ts.getD t tl0).2.2.1 = true then [] else selW t (ts.getD t tl0).2.1) else if (ts.getD t tl0).2.2.2.getD u 0 = 0 ∨ (ts.getD t tl0).2.2.2.getD u 0 = 6 then [] else [((nbAt t ((ts.getD t tl0).2.2.2.getD u 0)).toNat, u)] := rfl
  obtain ⟨b2, o2, rfl, hb2l, hcd⟩ := hA2 u (by omega)
  obtain ⟨R, hRe⟩ : ∃ R, R = runQ (memo (cyc ts) (f + 1)) (M.set (t * 8 + u) 1) (cyc ts (t, u)) := ⟨_, rfl⟩
  rw [← hRe] at hR hone
  have hcy : cyc ts (t, u) = allOf (srcs ts (t, u)) := rfl
  rw [hcy, hES] at hRe
  clear hES hcy
  generalize (ts.getD t tl0).2.2.2.getD u 0 = d at *
  rw [l1] at p1
  rw [l2] at p3
  generalize (ts.getD t tl0).2.2.2 = y at *
  generalize (ts.getD t tl0).2.2.1 = r at *
  generalize (ts.getD t tl0).2.1 = x at *
  generalize (ts.getD t tl0).1 = v at *
  obtain ⟨w3, hw3⟩ : ∃ w3, w3 = w2.alloc (.cells #[.int .i64 v, .slice A1 3 c1, .bool r, .slice (some ⟨b2, o2, none⟩) 8 c2] 33) := ⟨_, rfl⟩
  have hb3 : Below w2.heap.size w2 w3 := by rw [hw3]; exact (Below.refl _ _).alloc (Nat.le_refl _) _
  have hT3 : Row w3 w2.heap.size 33 #[.int .i64 v, .slice A1 3 c1, .bool r, .slice (some ⟨b2, o2, none⟩) 8 c2] := by rw [hw3]; exact row_new w2 _ _
  have hz3 : w3.heap.size = w.heap.size + 2 := by rw [hw3]; simp; omega
  have hk3 := hk2.below hb3 (by omega)
  have HM3 := Lib.hid (hM2.on hb3)
  have HK3 := Lib.hid (hK2.trans (KpS.more hb3 (by omega)))
  have HX3 := Lib.hid (hx.below HK3.out.below)
  have d3 := ((hb3.mono (show B ≤ w2.heap.size by omega)).cell (p := ⟨b2, o2 + u, none⟩) hb2l).trans hcd
  rw [hz2] at hT3
  have t1 : w3.cell? ⟨w.heap.size + 1, 1, none⟩ = some (.slice A1 3 c1) := hT3.cell 1
  have t2 : w3.cell? ⟨w.heap.size + 1, 2, none⟩ = some (.bool r) := hT3.cell 2
  have t3 : w3.cell? ⟨w.heap.size + 1, 3, none⟩ = some (.slice (some ⟨b2, o2, none⟩) 8 c2) := hT3.cell 3
  have k0 := hk3.cell 0
  have k1 := hk3.cell 1
  simp at k0 k1
  have it0 : (0 : Int) ≤ (t : Int) := Int.natCast_nonneg _
  have it1 : (t : Int) < 25 := by omega
  have iu0 : (0 : Int) ≤ (u : Int) := Int.natCast_nonneg _
  have iu1 : (u : Int) < 8 := by omega
  have HR := Lib.hid hR
  have HONE := Lib.hid hone
  have HRE := Lib.hid hRe
  have HSRC := Lib.hid hsrc
  have HSEL := Lib.hid hsel
  have HA1 := Lib.hid (hA1.below (hb3.mono (show B ≤ w2.heap.size by omega)))
  have HT3 := Lib.hid hT3
  have HKB := Lib.hid hk3
  have HL1 := Lib.hid l1
  have HC := Lib.hid hC
  have HGN := Lib.hid hgn
  clear hR hone hRe hsrc hsel hC hM hM1 hM2 hK2 hk1 hk2 hk3 hb1 hb3 hT3 hcd hA1 hA2 hx hgn hok
  generalize gs.getD t 0 = gt at m1 m2 m3 hw2
  go_enter Try.func137, Try.ntmps137
  go_upto_region 1 with fail
  change Code.wp _ _ _ _ (w.alloc (.cells #[.slice (some ⟨b, off, none⟩) 25 tc, .slice PA 3 pc] 26))
  rw [← hw1]
  clear hw1
  go_upto_region 4 with fail
  change Code.wp _ _ _ _ (w1.setCell ⟨gt, u, none⟩ (.int .i64 1))
  rw [← hw2]
  clear hw2 m1 m2 m3
  go_upto_region 5 with fail
  change Code.wp _ _ _ _ (w2.alloc (.cells #[.int .i64 v, .slice A1 3 c1, .bool r, .slice (some ⟨b2, o2, none⟩) 8 c2] 33))
  rw [← hw3]
  clear hw3 kc0 p0 p1 p2 p3
  go_wp2_with fail
  by_cases hdir : 2 ≤ d ∧ d ≤ 5
  · have hin : inn d 2 5 = true := by unfold inn; rw [decide_eq_true hdir.1, decide_eq_true hdir.2]; rfl
    refine (inn_any d 2 5 w3).mono ?_
    rintro e w4 ⟨rfl, rfl⟩
    rw [hin]
    obtain ⟨n0, n1⟩ := nb_ok ht HSRC.out (by omega) (by omega) (by omega)
    obtain ⟨nb, hnb⟩ : ∃ nb : Nat, nbAt t d = nb := ⟨(nbAt t d).toNat, by omega⟩
    have hRE := HRE.out
    rw [if_neg (by omega), if_neg (by omega), hnb, Int.toNat_natCast, runQ_one] at hRE
    have HMC := Lib.hid (HC.out (M.set (t * 8 + u) 1) nb u w3.drew (by omega) hu (HX3.out.below (Below.refl _ _).drew) (HM3.out.on (Below.refl _ _).drew) hzM)
    rw [← hRE] at HMC
    have HNB := Lib.hid (snb_any t d w3.drew ht)
    rw [hnb] at HNB
    have e1 : (d == 1) = false := by rw [beq_eq_false_iff_ne]; omega
    have hd1 : ¬ d = 1 := by omega
    clear hRE HRE hnb n0 n1 HSRC HSEL hin
    go_upto_region 8 with fail
    go_region_held3 (fun w' => w'.cell? ⟨w.heap.size, 0, none⟩ = some (.slice (some ⟨b, off, none⟩) 25 tc) ∧ w'.cell? ⟨w.heap.size, 1, none⟩ = some (.slice PA 3 pc))
      (first | (with_reducible assumption) | (exact ⟨k0, k1⟩) | go_keep)
      (first
        | (go_at_call 97; go_fit HNB.out; rintro e w4 ⟨rfl, rfl⟩)
        | (go_at_call 137; go_fit HMC.out; rintro e w5 ⟨rfl, hm5, hk5⟩; have hS5 := And.intro ((World.cell?_of_block (a := ⟨w.heap.size, 0, none⟩) (hk5.keep w.heap.size (by show w.heap.size < w3.heap.size; omega) (fun i hi => by have := HGN.out i hi; omega))).trans k0) ((World.cell?_of_block (a := ⟨w.heap.size, 1, none⟩) (hk5.keep w.heap.size (by show w.heap.size < w3.heap.size; omega) (fun i hi => by have := HGN.out i hi; omega))).trans k1)))
    rename_i _hheld
    clear _hheld
    have HM5 := Lib.hid hm5
    have HK5 := Lib.hid (HK3.out.trans (⟨(Below.refl _ _).drew.trans hk5.below, hk5.keep⟩ : KpS gs B w3 w5))
    have hz5 : w3.heap.size ≤ w5.heap.size := hk5.below.size
    clear hm5 hk5 hS5 HMC HNB HX3 HM3 HK3 t1 t2 t3 k0 k1 d3
    obtain ⟨r1, r2⟩ := R
    have m5 := HM5.out.head ht
    have n5 := HM5.out.cell ht hu
    have f5 := HM5.out.frozen ht u
    have HS5 := Lib.hid (HM5.out.set ht hu 2)
    have HQ5 := Lib.hid (HK5.out.set ht (HM5.out.ge.2 t ht) u (.int .i64 2))
    generalize gs.getD t 0 = g5 at *
    go_wp2
    go_loopw [11, 12] (fun okv iv wr => okv = .bool r1 ∧ iv = .int .i64 0 ∧ wr = w5) (fun _ _ _ => 0)
    case atStart => exact ⟨rfl, rfl, rfl⟩
    case round =>
      obtain ⟨rfl, rfl, rfl⟩ := hrel
      cases r1
      · have HE : Hid (r2.set (t * 8 + u) 1 = r2) := Lib.hid (set_id HONE.out (by have h : r2.length = 200 := HM5.out.len; omega))
        go_wp2
        go_ret
        unfold MkOutS
        rw [HR.out]
        refine ⟨rfl, ?_, HK5.out⟩
        show Mk wr B go gs (r2.set (t * 8 + u) 1)
        rw [HE.out]
        exact HM5.out
      · go_wp2
        go_ret
        unfold MkOutS
        rw [HR.out]
        exact ⟨rfl, HS5.out, HQ5.out⟩
  · have hin : inn d 2 5 = false := by
      unfold inn
      by_cases h : 2 ≤ d
      · rw [decide_eq_false (by omega : ¬ d ≤ 5)]; simp
      · rw [decide_eq_false h]; rfl
    refine (inn_any d 2 5 w3).mono ?_
    rintro e w4 ⟨rfl, rfl⟩
    rw [hin]
    clear hin
    by_cases h1 : d = 1
    · subst h1
      cases r
      · have hRE := HRE.out
        rw [if_pos rfl, if_neg (by simp)] at hRE
        have HRX : Hid (R = if true = true then runQ (memo (cyc ts) (f + 1)) (M.set (t * 8 + u) 1) (allOf (selW t (x.drop 0))) else (false, M.set (t * 8 + u) 1)) := Lib.hid hRE
        have HZ0 := Lib.hid hzM
        have HK0 := Lib.hid (KpS.refl gs B w3)
        clear hRE HRE k0 k1 t1 t2 t3 d3
        go_wp2
        go_loopw [11, 12] (fun okv iv wr => ∃ (n : Nat) (Mn : List Nat) (ok : Bool), n ≤ 3 ∧ okv = .bool ok ∧ iv = .int .i64 n ∧ Hid (R = if ok = true then runQ (memo (cyc ts) (f + 1)) Mn (allOf (selW t (x.drop n))) else (false, Mn)) ∧ Hid (zeros Mn ≤ f) ∧ Hid (Mk wr B go gs Mn) ∧ Hid (KpS gs B w3 wr)) (fun _ iv _ => 3 - (intOf iv).toNat)
        case atStart => exact ⟨0, _, true, by omega, rfl, rfl, HRX, HZ0, HM3, HK0⟩
        case round =>
          clear HRX HZ0 HM3 HK0
          obtain ⟨n, Mn, ok, hn3, rfl, rfl, HRX, HZ, HMn, HKn⟩ := hrel
          have hgg : ∀ i, i < 25 → w.heap.size + 1 ≠ gs.getD i 0 ∧ w.heap.size ≠ gs.getD i 0 := fun i hi => by have := HGN.out i hi; omega
          have hTn : Row wr (w.heap.size + 1) 33 #[.int .i64 v, .slice A1 3 c1, .bool false, .slice (some ⟨b2, o2, none⟩) 8 c2] := (HKn.out.keep _ (by omega) (fun i hi => (hgg i hi).1)).trans HT3.out
          have hKn : Row wr w.heap.size 26 #[.slice (some ⟨b, off, none⟩) 25 tc, .slice PA 3 pc] := (HKn.out.keep _ (by omega) (fun i hi => (hgg i hi).2)).trans HKB.out
          have t1 : wr.cell? ⟨w.heap.size + 1, 1, none⟩ = some (.slice A1 3 c1) := hTn.cell 1
          have t2 : wr.cell? ⟨w.heap.size + 1, 2, none⟩ = some (.bool false) := hTn.cell 2
          have k0 : wr.cell? ⟨w.heap.size, 0, none⟩ = some (.slice (some ⟨b, off, none⟩) 25 tc) := hKn.cell 0
          have k1 : wr.cell? ⟨w.heap.size, 1, none⟩ = some (.slice PA 3 pc) := hKn.cell 1
          by_cases hlt : n < 3
          · have hsd := selW_drop t x (n := n) (by rw [HL1.out]; exact hlt)
            obtain ⟨b1, o1, rfl, hb1l, hcz⟩ := (HA1.out.below HKn.out.below) n (by rw [HL1.out]; exact hlt)
            obtain ⟨z0, _, z8⟩ := HSEL.out n (by rw [HL1.out]; exact hlt)
            generalize x.getD n 0 = z at *
            by_cases h15 : z = 15
            · subst h15
              rw [if_pos rfl] at hsd
              have HR2 : Hid (R = if ok = true then runQ (memo (cyc ts) (f + 1)) Mn (allOf (selW t (x.drop (n + 1)))) else (false, Mn)) := Lib.hid (by rw [← hsd]; exact HRX.out)
              clear hsd HRX
              go_wp2
              go_roundw
              case rel => exact ⟨n + 1, Mn, ok, by omega, by go_num, by go_num, HR2, HZ, HMn, HKn⟩
              case measure => simp [intOf]; omega
            · rw [if_neg h15] at hsd
              obtain ⟨z, rfl⟩ := Int.eq_ofNat_of_zero_le z0
              rw [Int.toNat_natCast] at hsd
              have hne : ((z : Int) != 15) = true := by rw [bne_iff_ne]; exact h15
              have hne2 : ((z : Int) == 15) = false := by rw [beq_eq_false_iff_ne]; exact h15
              have hz8 : z < 8 := by have := z8 h15; omega
              cases ok
              · have HR2 : Hid (R = if false = true then runQ (memo (cyc ts) (f + 1)) Mn (allOf (selW t (x.drop (n + 1)))) else (false, Mn)) := Lib.hid HRX.out
                clear hsd HRX
                go_upto_region 13 with fail
                go_quiet (fail)
                go_wp2
                go_roundw
                case rel => exact ⟨n + 1, Mn, false, by omega, by go_num, by go_num, HR2, HZ, Lib.hid (HMn.out.on ⟨rfl, rfl, rfl, Nat.le_refl _, fun _ _ => rfl⟩), Lib.hid ⟨HKn.out.below.trans ⟨rfl, rfl, rfl, Nat.le_refl _, fun _ _ => rfl⟩, HKn.out.keep⟩⟩
                case measure => simp [intOf]; omega
              · have hrx := HRX.out
                rw [if_pos rfl, hsd] at hrx
                have HMC := Lib.hid (HC.out Mn t z wr.drew ht hz8 ((HX3.out.below HKn.out.below).below (Below.refl _ _).drew) (HMn.out.on (Below.refl _ _).drew) HZ.out)
                have HKP := Lib.hid (memo_kp (cyc ts) (f + 1) Mn (t, z))
                have HR2 : Hid (R = if (memo (cyc ts) (f + 1) Mn (t, z)).1 = true then runQ (memo (cyc ts) (f + 1)) (memo (cyc ts) (f + 1) Mn (t, z)).2 (allOf (selW t (x.drop (n + 1)))) else (false, (memo (cyc ts) (f + 1) Mn (t, z)).2)) := Lib.hid (by
                  rw [hrx]
                  show runQ _ _ (if (memo (cyc ts) (f + 1) Mn (t, z)).1 = true then allOf (selW t (x.drop (n + 1))) else .ans false) = _
                  cases (memo (cyc ts) (f + 1) Mn (t, z)).1 <;> rfl)
                clear hsd HRX hrx
                generalize memo (cyc ts) (f + 1) Mn (t, z) = g at *
                obtain ⟨g1, g2⟩ := g
                have HZ2 : Hid (zeros g2 ≤ f) := Lib.hid (Nat.le_trans (zeros_kp HKP.out) HZ.out)
                have hbz : b1 < B := hb1l
                have HFR : Hid (∀ w' : World, KpS gs B wr.drew w' → w'.cell? ⟨w.heap.size, 0, none⟩ = some (.slice (some ⟨b, off, none⟩) 25 tc) ∧ w'.cell? ⟨w.heap.size, 1, none⟩ = some (.slice PA 3 pc) ∧ w'.cell? ⟨w.heap.size + 1, 1, none⟩ = some (.slice (some ⟨b1, o1, none⟩) 3 c1) ∧ w'.cell? ⟨b1, o1 + n, none⟩ = some (.int .i64 (z : Int))) := Lib.hid (fun w' hk => ⟨(World.cell?_of_block (a := ⟨w.heap.size, 0, none⟩) (hk.keep w.heap.size (by show w.heap.size < wr.heap.size; have := HKn.out.below.size; omega) (fun i hi => (hgg i hi).2))).trans k0, (World.cell?_of_block (a := ⟨w.heap.size, 1, none⟩) (hk.keep w.heap.size (by show w.heap.size < wr.heap.size; have := HKn.out.below.size; omega) (fun i hi => (hgg i hi).2))).trans k1, (World.cell?_of_block (a := ⟨w.heap.size + 1, 1, none⟩) (hk.keep (w.heap.size + 1) (by show w.heap.size + 1 < wr.heap.size; have := HKn.out.below.size; omega) (fun i hi => (hgg i hi).1))).trans t1, (hk.below.cell (p := ⟨b1, o1 + n, none⟩) hbz).trans hcz⟩)
                clear HKP
                go_upto_region 13 with fail
                first
                  | go_region_held3 (fun w' => w'.cell? ⟨w.heap.size, 0, none⟩ = some (.slice (some ⟨b, off, none⟩) 25 tc) ∧ w'.cell? ⟨w.heap.size, 1, none⟩ = some (.slice PA 3 pc) ∧ w'.cell? ⟨w.heap.size + 1, 1, none⟩ = some (.slice (some ⟨b1, o1, none⟩) 3 c1) ∧ w'.cell? ⟨b1, o1 + n, none⟩ = some (.int .i64 (z : Int)))
                      (first | (with_reducible assumption) | (exact ⟨k0, k1, t1, hcz⟩) | go_keep)
                      (first | (go_at_call 137; go_fit HMC.out; rintro e w5 ⟨rfl, hm5, hk5⟩; have hS5 := HFR.out w5 hk5))
                  | fail "HELD"
                all_goals
                  have HM5 := Lib.hid hm5
                  have HK5 : Hid (KpS gs B w3 w5) := Lib.hid (HKn.out.trans ⟨(Below.refl _ _).drew.trans hk5.below, hk5.keep⟩)
                  rename_i _hheld
                  clear _hheld hm5 hk5 hS5 HFR HMC HMn HKn
                  go_wp2
                  go_roundw
                  case rel => exact ⟨n + 1, g2, g1, by omega, by go_num, by go_num, HR2, HZ2, HM5, HK5⟩
                  case measure => simp [intOf]; omega
          · obtain rfl : n = 3 := by omega
            have hrx := HRX.out
            rw [List.drop_of_length_le (by rw [HL1.out]; exact Nat.le_refl _)] at hrx
            have HRF : Hid (R = (ok, Mn)) := Lib.hid (by rw [hrx]; cases ok <;> rfl)
            have HM5 := HMn
            have HK5 := Lib.hid (HK3.out.trans HKn.out)
            have m5 := HM5.out.head ht
            have n5 := HM5.out.cell ht hu
            have f5 := HM5.out.frozen ht u
            have HS5 := Lib.hid (HM5.out.set ht hu 2)
            have HQ5 := Lib.hid (HK5.out.set ht (HM5.out.ge.2 t ht) u (.int .i64 2))
            have HON : Hid (Mn.getD (t * 8 + u) 0 = 1) := Lib.hid (by have h := HONE.out; rw [HRF.out] at h; exact h)
            clear hrx HMn HKn HC HX3
            generalize gs.getD t 0 = g5 at *
            cases ok
            · have HE : Hid (Mn.set (t * 8 + u) 1 = Mn) := Lib.hid (set_id HON.out (by have h := HM5.out.len; omega))
              go_wp2
              go_ret
              unfold MkOutS
              rw [HR.out, HRF.out]
              refine ⟨rfl, ?_, HK5.out⟩
              show Mk wr B go gs (Mn.set (t * 8 + u) 1)
              rw [HE.out]
              exact HM5.out
            · go_wp2
              go_ret
              unfold MkOutS
              rw [HR.out, HRF.out]
              exact ⟨rfl, HS5.out, HQ5.out⟩
      · have hRE := HRE.out
        rw [if_pos rfl, if_pos rfl] at hRE
        simp only [allOf, runQ] at hRE
        have HRE := Lib.hid hRE
        clear hRE
        have HM5 := HM3
        have HK5 := HK3
        have m5 := HM5.out.head ht
        have n5 := HM5.out.cell ht hu
        have f5 := HM5.out.frozen ht u
        have HS5 := Lib.hid (HM5.out.set ht hu 2)
        have HQ5 := Lib.hid (HK5.out.set ht (HM5.out.ge.2 t ht) u (.int .i64 2))
        clear HM3 HK3 HC HX3
        generalize gs.getD t 0 = g5 at *
        go_wp2
        go_loopw [11, 12] (fun okv iv wr => okv = .bool true ∧ iv = .int .i64 0 ∧ wr = w3) (fun _ _ _ => 0)
        case atStart => exact ⟨rfl, rfl, rfl⟩
        case round =>
          obtain ⟨rfl, rfl, rfl⟩ := hrel
          go_wp2
          go_ret
          unfold MkOutS
          rw [HR.out, HRE.out]
          exact ⟨rfl, HS5.out, HQ5.out⟩
    · have h06 : d = 0 ∨ d = 6 := by
        have h := HSRC.out
        unfold srcOk at h
        by_cases h0 : d = 0
        · exact .inl h0
        by_cases h6 : d = 6
        · exact .inr h6
        have hn : nbAt t d ≠ -1 := by simpa [h0, h1, h6] using h
        exact absurd (by unfold nbAt; rw [if_neg (by omega), if_neg (by omega), if_neg (by omega), if_neg (by omega)]) hn
      have hRE := HRE.out
      rw [if_neg h1, if_pos h06] at hRE
      simp only [allOf, runQ] at hRE
      have HRE := Lib.hid hRE
      have e1 : (d == 1) = false := by rw [beq_eq_false_iff_ne]; exact h1
      clear hRE
      have HM5 := HM3
      have HK5 := HK3
      have m5 := HM5.out.head ht
      have n5 := HM5.out.cell ht hu
      have f5 := HM5.out.frozen ht u
      have HS5 := Lib.hid (HM5.out.set ht hu 2)
      have HQ5 := Lib.hid (HK5.out.set ht (HM5.out.ge.2 t ht) u (.int .i64 2))
      clear HM3 HK3 HC HX3
      generalize gs.getD t 0 = g5 at *
      go_wp2
      go_loopw [11, 12] (fun okv iv wr => okv = .bool true ∧ iv = .int .i64 0 ∧ wr = w3) (fun _ _ _ => 0)
      case atStart => exact ⟨rfl, rfl, rfl⟩
      case round =>
        obtain ⟨rfl, rfl, rfl⟩ := hrel
        go_wp2
        go_ret
        unfold MkOutS
        rw [HR.out, HRE.out]
        exact ⟨rfl, HS5.out, HQ5.out⟩
theorem mark_all (gs : List Nat) (B go mc : Nat) (TA : Option Addr) (tc : Nat) (PA : Option Addr) (pc : Nat) (ts : List Tl) (hn : ts.length = 25) (hok : ∀ k, k < 25 → tlOk k (ts.getD k tl0) = true) : ∀ f, MarkC gs B go mc TA tc PA pc ts f
  | 0 => fun M t u w ht hu _ hM hz => by
    by_cases h0 : M.getD (t * 8 + u) 0 = 0
    · have := zeros_some (M := M) (i := t * 8 + u) (by omega) h0
      omega
    · exact mark_old gs B go mc TA tc PA pc ts 0 M t u w ht hu hM h0
  | f + 1 => fun M t u w ht hu hx hM hz => by
    by_cases h0 : M.getD (t * 8 + u) 0 = 0
    · exact mark_new gs B go mc TA tc PA pc ts f hn hok (mark_all gs B go mc TA tc PA pc ts hn hok f) M t u w ht hu hx hM hz h0
    · exact mark_old gs B go mc TA tc PA pc ts (f + 1) M t u w ht hu hM h0
end Go.Proofs.Ytdadokcodklfgaa
/- The model's search for cycles. -/
namespace Go.Proofs.Ytdadokcodklfgaa
open Go.RowKit Go.Deep Cut

def hdv (gs : List Nat) : List Value := gs.map fun q => .slice (some ⟨q, 0, none⟩) 8 8
/-- The marks while they are made: k rows of zeros. -/
structure MkB (w : World) (B : Nat) (gs : List Nat) (A : Option Addr) (cap k : Nat) : Prop where
  own : w.ownsRow B 31 1 (.slice A k cap) k (hdv gs)
  len : gs.length = k
  row : ∀ q ∈ gs, B ≤ q ∧ Row w q 3 (madeCells #[.int .i64 0] 8)
  nodup : gs.Nodup
theorem MkB.keep {w w' : World} {B cap k : Nat} {gs : List Nat} {A : Option Addr} (h : MkB w B gs A cap k) (hb : Below w.heap.size w w') : MkB w' B gs A cap k :=
  ⟨own_keepA h.own (fun g e => hb.block g (own_ltA h.own g (by rw [e]; rfl)).2), h.len, fun q hq => ⟨(h.row q hq).1, (h.row q hq).2.below hb (h.row q hq).2.lt⟩, h.nodup⟩
section
variable {ops : Array Oper} {rest : List Oper} {o : Oper} {a : Act} {Q : Exit → Act → World → Prop}
theorem wpList_pushMk (hgd : o.guard = none) (s x' : Operand) (ho : o.op = .call { callee := .builtin .append, args := #[s, x'], argTypes := #[181, 181] })
    (wr : World) (B cap k q : Nat) (A : Option Addr) (gs : List Nat) (hev : a.eval s = .slice A k cap) (h : MkB wr B gs A cap k) (hnb : k ≤ 1000) (hB : B ≤ wr.heap.size) (hq : Row wr q 3 (madeCells #[.int .i64 0] 8)) (hqB : B ≤ q) (hqn : q ∉ gs)
    (hx' : a.eval x' = .slice (some ⟨wr.heap.size, 0, none⟩) 1 1)
    (cont : ∀ g' cap' w5, MkB w5 B (gs ++ [q]) (some ⟨g', 0, none⟩) cap' (k + 1) → Below B wr w5 → wpList Try.prog ops Q rest (a.put o.dst (.slice (some ⟨g', 0, none⟩) (k + 1) cap')) w5) :
    wpList Try.prog ops Q (o :: rest) a (wr.alloc (.cells #[.slice (some ⟨q, 0, none⟩) 8 8] 31)) := by
  obtain ⟨i0, hi0, hz0, hz1, hz2⟩ := info_split Try.info23
  refine wpList_append_kept _ hgd s x' 181 ho B 31 i0 _ 1 24 Try.underlying181 hi0 hz0 hz1 hz2 rfl (by omega) (.slice A k cap) k (hdv gs) hev (World.ownsRow.alloc h.own _) ⟨wr.heap.size, 0, none⟩ 1 1 [.slice (some ⟨q, 0, none⟩) 8 8] hx' rfl (World.news_of_block (cs := #[.slice (some ⟨q, 0, none⟩) 8 8]) (t := 31) (fr := (0, 0)) (heap_alloc_new wr _)) (by simp [Value.oneCell']) (by omega) (by simp [maxLen]; omega) (by omega) (by simp; omega) _ rfl ?_
  intro g' cap' w5 hown5 hgr5 hat5 hlt5 hkept5
  have hrow : ∀ p, Row wr p 3 (madeCells #[.int .i64 0] 8) → Row w5 p 3 (madeCells #[.int .i64 0] 8) := fun p hp => by
    refine (offA_grown hgr5 p hp.lt (fun e => ?_)).trans hp
    rcases h.own.2 with ⟨hv, _⟩ | ⟨g0, c0, cur, hv, h1, h2, _⟩
    · injection hv with e1
      subst e1
      simp at e
    · injection hv with e1
      subst e1
      simp at e
      subst e
      exact (show Row wr g0 31 cur from h2).ne hp (by decide) rfl
  refine cont g' cap' w5 ⟨by rw [show hdv (gs ++ [q]) = hdv gs ++ [.slice (some ⟨q, 0, none⟩) 8 8] from by simp [hdv]]; exact hown5, by rw [List.length_append, h.len]; rfl, fun p hp => ?_, ?_⟩ (below_alloc_grownA hgr5 hB (fun g e => (own_ltA h.own g e).1))
  · rw [List.mem_append] at hp
    rcases hp with hp | hp
    · exact ⟨(h.row p hp).1, hrow p (h.row p hp).2⟩
    · simp at hp
      subst hp
      exact ⟨hqB, hrow p hq⟩
  · rw [List.nodup_append]
    exact ⟨h.nodup, by simp, fun a ha b hb e => by simp at hb; subst hb; subst e; exact hqn ha⟩
end
theorem MkB.done {w : World} {B cap go : Nat} {gs : List Nat} (h : MkB w B gs (some ⟨go, 0, none⟩) cap 25) : Mk w B go gs (List.replicate 200 0) := by
  obtain ⟨cur, hrow, hBg, hnc, _, _, hget⟩ := own_partsE h.own
  have hmem : ∀ i, i < 25 → gs.getD i 0 ∈ gs := fun i hi => by
    rw [List.getD_eq_getElem?_getD, List.getElem?_eq_getElem (by rw [h.len]; exact hi)]
    exact List.getElem_mem _
  refine ⟨List.length_replicate, ⟨cur, hrow, fun i hi => ?_⟩, fun i hi => ⟨_, (h.row _ (hmem i hi)).2, by rw [size_madeCells], fun j hj => ?_⟩, fun i j hi hj hij e => ?_, hBg, fun i hi => (h.row _ (hmem i hi)).1⟩
  · rw [hget i (by omega)]
    unfold hdv
    rw [List.getElem?_map, List.getD_eq_getElem?_getD, List.getElem?_eq_getElem (show i < gs.length by rw [h.len]; exact hi)]
    rfl
  · rw [made_int 8 j hj, List.getD_eq_getElem?_getD, List.getElem?_replicate, if_pos (by omega)]
    rfl
  · have hi' : i < gs.length := by rw [h.len]; exact hi
    have hj' : j < gs.length := by rw [h.len]; exact hj
    rw [List.getD_eq_getElem?_getD, List.getElem?_eq_getElem hi', List.getD_eq_getElem?_getD, List.getElem?_eq_getElem hj'] at e
    have e : gs[i] = gs[j] := e
    rcases Nat.lt_or_gt_of_ne hij with hl | hl
    · exact List.pairwise_iff_getElem.1 h.nodup i j hi' hj' hl e
    · exact List.pairwise_iff_getElem.1 h.nodup j i hj' hi' hl e.symm
set_option maxRecDepth 10000 in
set_option maxHeartbeats 1600000 in
theorem sacL_any (TA PA : Option Addr) (tc pc : Nat) (ts : List Tl) (w : World) (hx : TlIn w w.heap.size TA ts) (hn : ts.length = 25) (hok : ∀ k, k < 25 → tlOk k (ts.getD k tl0) = true) :
    Calls Try.prog 107 #[cfv TA 25 tc PA 3 pc] w fun e w' => e = .returned (.bool (acyc ts)) ∧ Below w.heap.size w w' := by
  have hmk : ∀ W, (Instr.makeSlice 31 (.int .i64 8) (.int .i64 8)).run Try.prog W = .ok (.slice (some ⟨W.heap.size, 0, none⟩) 8 8) (W.alloc (.cells (madeCells #[.int .i64 0] 8) 3)) := fun W => run_make_row' (P := Try.prog) 31 3 (.int .i64 0) 8 Try.underlying31 Try.info3 rfl .i64 .i64 8 (by omega) (by omega) W
  obtain ⟨w0, hw0⟩ : ∃ w0, w0 = (w.alloc (.cells #[.slice TA 25 tc, .slice PA 3 pc] 26)).alloc (.cells #[] 31) := ⟨_, rfl⟩
  have hb0 : Below w.heap.size w w0 := by rw [hw0]; exact ((Below.refl _ _).alloc (Nat.le_refl _) _).alloc (by simp) _
  have hk0 : Row w0 w.heap.size 26 #[.slice TA 25 tc, .slice PA 3 pc] := by rw [hw0]; exact row_o1' w _ _ _
  have hm0 : MkB w0 (w.heap.size + 1) [] (some ⟨w.heap.size + 1, 0, none⟩) 0 0 := ⟨own_full (n := 0) (z := 1) (by rw [hw0]; exact row_n1 w _ 31 #[]) (Nat.le_refl _) rfl (by simp [maxLen]) rfl (HasC.nil _), rfl, fun q hq => by simp at hq, List.nodup_nil⟩
  have hz0 : w.heap.size + 1 ≤ w0.heap.size := by rw [hw0]; simp
  have HB0 := Lib.hid hb0
  have HK0 := Lib.hid hk0
  have HM0 := Lib.hid hm0
  have HX := Lib.hid hx
  clear hb0 hk0 hm0 hx
  generalize hZ : madeCells #[Value.int .i64 0] 8 = Z at *
  have HZ := Lib.hid hZ
  clear hZ
  go_enter Try.func107, Try.ntmps107
  go_upto_region 2 with fail
  change Code.wp _ _ _ _ ((w.alloc (.cells #[.slice TA 25 tc, .slice PA 3 pc] 26)).alloc (.cells #[] 31))
  rw [← hw0]
  clear hw0
  go_wp2
  go_loopw [3, 4] (fun lv iv wr => ∃ (k cap : Nat) (gs : List Nat) (A : Option Addr), k ≤ 25 ∧ iv = .int .i64 k ∧ lv = .slice A k cap ∧ Hid (MkB wr (w.heap.size + 1) gs A cap k) ∧ Hid (Below (w.heap.size + 1) w0 wr)) (fun _ iv _ => 25 - (intOf iv).toNat)
  case atStart => exact ⟨0, 0, [], _, by omega, rfl, rfl, HM0, Lib.hid (Below.refl _ _)⟩
  case round =>
    clear HM0
    obtain ⟨k, cap, gs, A, hk, rfl, rfl, HM, HL⟩ := hrel
    have hzr : w.heap.size + 1 ≤ wr.heap.size := Nat.le_trans hz0 HL.out.size
    by_cases hlt : k < 25
    · have hb1 : Below wr.heap.size wr (wr.alloc (.cells Z 3)) := (Below.refl _ _).alloc (Nat.le_refl _) _
      have HM1 := Lib.hid (HM.out.keep hb1)
      have HR1 : Hid (Row (wr.alloc (.cells Z 3)) wr.heap.size 3 (madeCells #[.int .i64 0] 8)) := Lib.hid (by rw [HZ.out]; exact row_new wr _ _)
      have hqn : wr.heap.size ∉ gs := fun hq => absurd ((HM.out.row _ hq).2.lt) (Nat.lt_irrefl _)
      have HQN := Lib.hid hqn
      have HSZ : Hid ((wr.alloc (.cells Z 3)).heap.size = wr.heap.size + 1) := Lib.hid (by simp)
      have HL1 := Lib.hid (HL.out.trans (hb1.mono hzr))
      have hz1 : w.heap.size + 1 ≤ (wr.alloc (.cells Z 3)).heap.size := Nat.le_trans hzr hb1.size
      clear hqn hb1
      go_upto_region 5 with fail
      go_wp2_with (at_builtin; refine wpList_pushMk rfl _ _ rfl (wr.alloc (.cells Z 3)) (w.heap.size + 1) cap k wr.heap.size A gs rfl HM1.out (by omega) hz1 HR1.out hzr HQN.out (by rw [HSZ.out]; rfl) ?_)
      intro g' cap' w5 hm5 hb5
      have HM5 := Lib.hid hm5
      have HL5 := Lib.hid (HL1.out.trans hb5)
      clear hm5 hb5 HM1 HR1 HM HL HL1
      go_wp2
      go_roundw
      case rel => exact ⟨k + 1, cap', _, _, by omega, by go_num, rfl, HM5, HL5⟩
      case measure => simp [intOf]; omega
    · obtain rfl : k = 25 := by omega
      obtain ⟨go, rfl⟩ : ∃ go, A = some ⟨go, 0, none⟩ := by
        rcases HM.out.own.2 with ⟨hv, h0⟩ | ⟨g', cap', cur, hv, _⟩
        · omega
        · injection hv with e1; exact ⟨g', e1⟩
      have HMM : Hid (Mk wr (w.heap.size + 1) go gs (topM ts (8 * 0)).2) := Lib.hid HM.out.done
      have HT2 : Hid ((topM ts (8 * 0)).1 = true) := Lib.hid rfl
      obtain ⟨w2, h2⟩ : ∃ w2, w2 = wr := ⟨_, rfl⟩
      subst h2
      have HW2 := Lib.hid (HB0.out.trans (HL.out.mono (by omega)))
      have HKB := Lib.hid (HK0.out.below HL.out (by omega))
      have HXB := Lib.hid ((HX.out.below HW2.out).mono (Nat.le_succ _))
      have HA := Lib.hid (mark_all gs (w.heap.size + 1) go cap TA tc PA pc ts hn hok 200)
      rw [show ((25 : Nat) : Int) = 25 from rfl]
      clear HM HL HB0 HK0 hk hlt hmk
      go_wp2
      go_loopw [5] (fun iv wr => ∃ t : Nat, t ≤ 25 ∧ iv = .int .i64 t ∧ Hid ((topM ts (8 * t)).1 = true) ∧ Hid (Mk wr (w.heap.size + 1) go gs (topM ts (8 * t)).2) ∧ Hid (KpS gs (w.heap.size + 1) w2 wr)) (fun iv _ => 25 - (intOf iv).toNat)
      case atStart => exact ⟨0, by omega, rfl, HT2, HMM, Lib.hid (KpS.refl _ _ _)⟩
      case round =>
        clear HT2 HMM
        obtain ⟨t, ht, rfl, HT, HM, HK⟩ := hrel
        obtain ⟨w3, h3⟩ : ∃ w3, w3 = wr := ⟨_, rfl⟩
        subst h3
        by_cases hlt : t < 25
        · have HT0 : Hid ((topM ts (8 * t + 0)).1 = true) := HT
          have HM0 : Hid (Mk w3 (w.heap.size + 1) go gs (topM ts (8 * t + 0)).2) := HM
          clear HT HM
          go_wp2
          rw [show decide ((t : Int) < 25) = true from by simp; omega]
          go_loopw [6] (fun iv wr => ∃ u : Nat, u ≤ 8 ∧ iv = .int .i64 u ∧ Hid ((topM ts (8 * t + u)).1 = true) ∧ Hid (Mk wr (w.heap.size + 1) go gs (topM ts (8 * t + u)).2) ∧ Hid (KpS gs (w.heap.size + 1) w2 wr)) (fun iv _ => 8 - (intOf iv).toNat)
          case atStart => exact ⟨0, by omega, rfl, HT0, HM0, HK⟩
          case round =>
            clear HT0 HM0 HK
            obtain ⟨u, hu, rfl, HT, HM, HK⟩ := hrel
            by_cases hlu : u < 8
            · have HAS := Lib.hid (HA.out _ t u wr hlt hlu (HXB.out.below HK.out.below) HM.out (zeros_le _))
              have HST := Lib.hid (topM_step ts hlu HT.out)
              rw [← HST.out] at HAS
              have hkr := HKB.out.below HK.out.below (Nat.lt_succ_self _)
              have k0 : wr.cell? ⟨w.heap.size, 0, none⟩ = some (.slice TA 25 tc) := hkr.cell 0
              have k1 : wr.cell? ⟨w.heap.size, 1, none⟩ = some (.slice PA 3 pc) := hkr.cell 1
              clear HM HT hkr
              go_wp2_with fail
              refine HAS.out.mono ?_
              rintro e w5 ⟨rfl, hm5, hk5⟩
              have HM5 := Lib.hid hm5
              have HK5 := Lib.hid (HK.out.trans hk5)
              clear hm5 hk5 HAS HST HK k0 k1
              cases hq : (topM ts (8 * t + (u + 1))).1
              · have HF : Hid (acyc ts = false) := Lib.hid (acyc_false (k := 8 * t + (u + 1)) (by omega) hq)
                clear hq
                go_wp2
                go_ret
                exact ⟨by rw [HF.out]; rfl, HW2.out.trans (HK5.out.below.mono (Nat.le_succ _))⟩
              · have HT5 := Lib.hid hq
                clear hq
                go_wp2
                go_roundw
                case rel => exact ⟨u + 1, by omega, by go_num, HT5, HM5, HK5⟩
                case measure => simp [intOf]; omega
            · obtain rfl : u = 8 := by omega
              have HT5 : Hid ((topM ts (8 * (t + 1))).1 = true) := HT
              have HM5 : Hid (Mk wr (w.heap.size + 1) go gs (topM ts (8 * (t + 1))).2) := HM
              clear HT HM
              go_wp2
              go_roundw
              case rel => exact ⟨t + 1, by omega, by go_num, HT5, HM5, HK⟩
              case measure => simp [intOf]; omega
        · obtain rfl : t = 25 := by omega
          have HF : Hid (acyc ts = true) := Lib.hid HT.out
          go_wp2
          go_ret
          exact ⟨by rw [HF.out]; rfl, HW2.out.trans (HK.out.below.mono (Nat.le_succ _))⟩
set_option maxRecDepth 10000 in
set_option maxHeartbeats 800000 in
theorem sacy_any (TA PA : Option Addr) (n tc m pc : Nat) (ts : List Tl) (ps : List Pd) (w : World) (hx : TlIn w w.heap.size TA ts) (hy : PdIn w w.heap.size PA ps) (hn : ts.length = n) (hm : ps.length = m) :
    Calls Try.prog 71 #[cfv TA n tc PA m pc] w fun e w' => e = .returned (.bool (cfOk ts ps && acyc ts)) ∧ Below w.heap.size w w' := by
  obtain ⟨w0, hw0⟩ : ∃ w0, w0 = w.alloc (.cells #[.slice TA n tc, .slice PA m pc] 26) := ⟨_, rfl⟩
  have hb0 : Below w.heap.size w w0 := by rw [hw0]; exact (Below.refl _ _).alloc (Nat.le_refl _) _
  have hR0 : Row w0 w.heap.size 26 #[.slice TA n tc, .slice PA m pc] := by rw [hw0]; exact row_new w _ _
  have HB0 := Lib.hid hb0
  have HR0 := Lib.hid hR0
  have HV := Lib.hid (scv_any TA PA n tc m pc ts ps w0 ((hx.below hb0).mono hb0.size) ((hy.below hb0).mono hb0.size) hn hm)
  have HX := Lib.hid hx
  have HN := Lib.hid hn
  have HM := Lib.hid hm
  have c0 := hR0.cell 0
  have c1 := hR0.cell 1
  simp at c0 c1
  clear hx hy hn hm hb0 hR0
  go_enter Try.func71, Try.ntmps71
  go_wp2_with fail
  rw [← hw0]
  clear hw0
  refine HV.out.mono ?_
  rintro e w1 ⟨rfl, hb1⟩
  have hR1 := HR0.out.below hb1 HR0.out.lt
  have HB1 := Lib.hid (HB0.out.trans (hb1.mono HB0.out.size))
  clear HV hb1 HR0 HB0 c0 c1
  cases hok : cfOk ts ps
  · have HCF := Lib.hid hok
    clear hok hR1
    go_wp2
    go_ret
    exact ⟨by rw [HCF.out]; rfl, HB1.out⟩
  · obtain ⟨q1, q2, q3, q4⟩ := cfOk_parts hok
    obtain rfl : n = 25 := by rw [← HN.out]; exact q1
    obtain rfl : m = 3 := by rw [← HM.out]; exact q2
    have HCF := Lib.hid hok
    have HSA := Lib.hid (sacL_any TA PA tc pc ts w1 ((HX.out.below HB1.out).mono HB1.out.size) q1 q4)
    have c0 := hR1.cell 0
    have c1 := hR1.cell 1
    simp at c0 c1
    clear hok q1 q2 q3 q4 hR1
    go_wp2_with fail
    refine HSA.out.mono ?_
    rintro e w2 ⟨rfl, hb2⟩
    have HB2 := Lib.hid (HB1.out.trans (hb2.mono HB1.out.size))
    clear HSA hb2
    go_wp2
    go_ret
    exact ⟨by rw [HCF.out]; rfl, HB2.out⟩
end Go.Proofs.Ytdadokcodklfgaa
