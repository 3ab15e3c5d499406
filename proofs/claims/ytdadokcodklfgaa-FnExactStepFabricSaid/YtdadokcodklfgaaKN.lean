/- The contracts of the program's settingBytes. -/
import Derived.Test.YtdadokcodklfgaaKH
import Derived.Test.YtdadokcodklfgaaKV
namespace Go.Proofs.Ytdadokcodklfgaa
open Go.RowKit Go.Deep

/-- Bytes in memory of the call's own. -/
def ByAt (w : World) (B : Nat) (xs : List Nat) (A : Option Addr) (cap : Nat) : Prop := w.ownsRow B 5 1 (.slice A xs.length cap) xs.length (bys xs)
theorem ByAt.ltA {w : World} {B cap : Nat} {xs : List Nat} {A : Option Addr} (h : ByAt w B xs A cap) : ∀ g, A.map (·.block) = some g → B ≤ g ∧ g < w.heap.size := own_ltA h
theorem ByAt.keep {w w' : World} {B cap : Nat} {xs : List Nat} {A : Option Addr} (h : ByAt w B xs A cap) (hk : ∀ b, B ≤ b → b < w.heap.size → w'.heap[b]? = w.heap[b]?) : ByAt w' B xs A cap :=
  own_keepA h (fun g e => by obtain ⟨h1, h2⟩ := h.ltA g (by rw [e]; rfl); exact hk g h1 h2)
theorem ByAt.on {w w' : World} {B cap : Nat} {xs : List Nat} {A : Option Addr} (h : ByAt w B xs A cap) (hb : Below w.heap.size w w') : ByAt w' B xs A cap := h.keep (fun b _ h2 => hb.block b h2)
theorem ByAt.nil (w : World) (B : Nat) : ByAt w B [] none 0 := World.ownsRow_nil _ _ _ _
theorem ByAt.ptr {w : World} {B cap : Nat} {xs : List Nat} {A : Option Addr} (h : ByAt w B xs A cap) (hn : 0 < xs.length) : ∃ g, A = some ⟨g, 0, none⟩ := by
  rcases h.2 with ⟨hv, h0⟩ | ⟨g', cap', cur, hv, h1, h2, h3⟩
  · omega
  · injection hv with e1; exact ⟨g', e1⟩
theorem ByAt.cells {w : World} {B cap g : Nat} {xs : List Nat} (h : ByAt w B xs (some ⟨g, 0, none⟩) cap) : (∀ j, j < xs.length → w.cell? ⟨g, j, none⟩ = some (.int .u8 (xs.getD j 0 : Nat))) ∧ xs.length ≤ cap ∧ cap ≤ maxLen ∧ g < w.heap.size ∧ B ≤ g := by
  obtain ⟨cur, hrow, hB, hnc, _, _, hget⟩ := own_partsE h
  refine ⟨fun j hj => by rw [hrow.cell, hget j (by omega), bys_get hj], hnc, ?_, hrow.lt, hB⟩
  rcases h.2 with ⟨hv, h0⟩ | ⟨g', cap', cur, hv, h1, h2, h3, h4, h5⟩
  · cases hv
  · injection hv with e1 e2 e3; omega
/-- Numbers as bytes. -/
def nats (zs : List Int) : List Nat := zs.map Int.toNat
/-- Every number fits a byte. -/
def Fit (zs : List Int) : Prop := ∀ k, k < zs.length → 0 ≤ zs.getD k 0 ∧ zs.getD k 0 < 256
/-- The bytes of a tile. -/
def enT (x : Tl) : List Nat := [x.1.toNat] ++ nats x.2.1 ++ [x.2.2.1.toNat] ++ nats x.2.2.2
end Go.Proofs.Ytdadokcodklfgaa
/- The contract of the program's EncodeConfig. -/
namespace Go.Proofs.Ytdadokcodklfgaa
open Go.RowKit Go.Deep Cut

/-- The bytes of all tiles, and of a pad. -/
def enTs (ts : List Tl) : List Nat := ts.flatMap enT
def enP (p : Pd) : List Nat := [p.1.toNat, p.2.toNat]
def enPs (ps : List Pd) : List Nat := ps.flatMap enP
def sumB (s : Nat) : List Nat := [s / 256, s % 256]
/-- The bitstream of a valid configuration. -/
def enc (ts : List Tl) (ps : List Pd) : List Nat := enTs ts ++ enPs ps ++ sumB (Ck.ck 1 (enTs ts ++ enPs ps))
theorem Bf.on {w w' : World} {b : Nat} {A : Option Addr} {cap : Nat} {xs : List Nat} (h : Bf w b A cap xs) (hb : Below w.heap.size w w') : Bf w' b A cap xs := by
  obtain ⟨⟨lr, h1⟩, hrow⟩ := h
  refine ⟨⟨lr, h1.below hb h1.lt⟩, ?_⟩
  rcases hrow with h | ⟨g, cur, e1, e2, e3, e4⟩
  · exact .inl h
  · exact .inr ⟨g, cur, e1, e2, e3.below hb e3.lt, e4⟩
theorem Bf.lt {w : World} {b : Nat} {A : Option Addr} {cap : Nat} {xs : List Nat} (h : Bf w b A cap xs) : ∀ g, A.map (·.block) = some g → g < w.heap.size := fun g e => by
  rcases h.2 with ⟨rfl, _⟩ | ⟨g', cur, rfl, _, e3, _⟩
  · simp at e
  · simp at e; subst e; exact e3.lt
/-- What a valid tile holds. -/
theorem unread_fit {z : Int} (h : unread z = false) : 0 ≤ z ∧ z < 256 := by
  unfold unread at h
  by_cases a : z < 0
  · simp [a] at h; omega
  · by_cases c : 8 ≤ z
    · simp [a, c] at h; omega
    · omega
theorem src_fit {t : Nat} {z : Int} (h : badS t z = false) : 0 ≤ z ∧ z < 256 := by
  unfold badS at h
  have h1 : srcOk t z = true := by simpa using h
  unfold srcOk at h1
  by_cases e0 : z = 0
  · omega
  by_cases e1 : z = 1
  · omega
  by_cases e6 : z = 6
  · omega
  have hn : nbAt t z ≠ -1 := by simpa [e0, e1, e6] using h1
  by_cases e : z = 2 ∨ z = 3 ∨ z = 4 ∨ z = 5
  · omega
  · exact absurd (by unfold nbAt; rw [if_neg (by omega), if_neg (by omega), if_neg (by omega), if_neg (by omega)]) hn
theorem any_false {α : Type} (xs : List α) (d : α) (p : α → Bool) (h : xs.any p = false) {k : Nat} (hk : k < xs.length) : p (xs.getD k d) = false := by
  cases e : p (xs.getD k d) with
  | false => rfl
  | true => rw [any_mem xs d p hk e] at h; exact absurd h (by simp)
theorem tlOk_fit {t : Nat} {x : Tl} (h : tlOk t x = true) : (0 ≤ x.1 ∧ x.1 < 256) ∧ (x.2.1.length = 3 ∧ Fit x.2.1) ∧ (x.2.2.2.length = 8 ∧ Fit x.2.2.2) := by
  unfold tlOk at h
  simp only [Bool.and_eq_true, decide_eq_true_eq, Bool.not_eq_true'] at h
  obtain ⟨⟨⟨h1, h2⟩, h3, h4⟩, h5, h6⟩ := h
  exact ⟨⟨h1, h2⟩, ⟨h3, fun k hk => unread_fit (any_false _ 0 _ h4 hk)⟩, ⟨h5, fun k hk => src_fit (t := t) (any_false _ 0 (fun d => !srcOk t d) h6 hk)⟩⟩
theorem cfOk_parts {ts : List Tl} {ps : List Pd} (h : cfOk ts ps = true) : ts.length = 25 ∧ ps.length = 3 ∧ (∀ k, k < 3 → 0 ≤ (ps.getD k pd0).1 ∧ (ps.getD k pd0).1 < 256) ∧ ∀ k, k < 25 → tlOk k (ts.getD k tl0) = true := by
  unfold cfOk pdsOk tlsOk at h
  simp only [Bool.and_eq_true, decide_eq_true_eq, Bool.not_eq_true', List.all_eq_true, List.mem_range] at h
  obtain ⟨⟨h1, h2, h3⟩, h4⟩ := h
  exact ⟨h1, h2, fun k hk => unread_fit (any_false ps pd0 (fun p => unread p.1) h3 (by omega)), h4⟩
theorem getD_all {ys : List Nat} (h : ∀ y ∈ ys, y < 256) : ∀ j, j < ys.length → ys.getD j 0 < 256 := fun j hj => by
  rw [List.getD_eq_getElem?_getD, List.getElem?_eq_getElem hj]
  exact h _ (List.getElem_mem hj)
end Go.Proofs.Ytdadokcodklfgaa
/- The program's EncodeConfig walked. -/
namespace Go.Proofs.Ytdadokcodklfgaa
open Go.RowKit Go.Deep Cut

/-- The state while the bytes are written: H the configuration's box, b the buffer, wb the writer. -/
structure EncSt (w : World) (H b wb : Nat) (A : Option Addr) (cap : Nat) (xs : List Nat) (TA : Option Addr) (n tc : Nat) (PA : Option Addr) (m pc : Nat) : Prop where
  bf : Bf w b A cap xs
  ck : CkRow w wb b (Ck.ck 1 xs)
  nw : NotB A wb
  ge : ∀ g, A.map (·.block) = some g → b ≤ g
  box : Row w H 26 #[.slice TA n tc, .slice PA m pc]
  hb : H < b
  wz : wb = b + 1
theorem EncSt.on {w w' : World} {H b wb : Nat} {A : Option Addr} {cap : Nat} {xs : List Nat} {TA : Option Addr} {n tc : Nat} {PA : Option Addr} {m pc : Nat} (h : EncSt w H b wb A cap xs TA n tc PA m pc) (hb : Below w.heap.size w w') : EncSt w' H b wb A cap xs TA n tc PA m pc :=
  { h with bf := h.bf.on hb, ck := Row.below (show Row w _ _ _ from h.ck) hb (Row.lt (show Row w _ _ _ from h.ck)), box := h.box.below hb h.box.lt }
/-- One write more. -/
theorem EncSt.write {w w' : World} {H b wb n : Nat} {A : Option Addr} {cap : Nat} {xs ys : List Nat} {TA : Option Addr} {n' tc : Nat} {PA : Option Addr} {m pc : Nat} {e : Ending} (h : EncSt w H b wb A cap xs TA n' tc PA m pc) (ho : CwOut wb b n A (Ck.ck 1 xs) xs ys w e w') :
    e = .returned (.tuple #[.int .i64 n, .nilIface]) ∧ (∃ (A' : Option Addr) (cap' : Nat), EncSt w' H b wb A' cap' (xs ++ ys) TA n' tc PA m pc) ∧ Below b w w' ∧ w.heap.size ≤ w'.heap.size ∧ (∀ k, k < w.heap.size → wb < k → NotB A k → w'.heap[k]? = w.heap[k]?) := by
  obtain ⟨he, A', cap', h1, h2, h3, h4, h5, h6⟩ := ho
  have hbw := h.hb
  have hwz := h.wz
  have hbl : wb < w.heap.size := Row.lt (show Row w _ _ _ from h.ck)
  refine ⟨he, ⟨A', cap', ⟨h1, by rw [Ck.ck_app]; exact h2, ?_, ?_, ?_, h.hb, h.wz⟩⟩, h5 b (Nat.le_refl _) (by omega) h.ge (by omega), h6, fun k k1 k2 k3 => h4 k k1 (by omega) (by omega) k3⟩
  · rcases h3 with rfl | ⟨g, rfl, hg⟩
    · exact h.nw
    · intro e; simp at e; omega
  · rcases h3 with rfl | ⟨g, rfl, hg⟩
    · exact h.ge
    · intro g' e; simp at e; omega
  · exact (h4 H h.box.lt (by omega) (by omega) (fun e => absurd (h.ge _ e) (by omega))).trans h.box
/-- A write, as a call. -/
theorem EncSt.call {w : World} {H b wb n c cap pb : Nat} {A : Option Addr} {xs ys : List Nat} {TA : Option Addr} {n' tc : Nat} {PA : Option Addr} {m pc : Nat} {B : Nat} (h : EncSt w H b wb A cap xs TA n' tc PA m pc) (hy : ByAt w B ys (some ⟨pb, 0, none⟩) c) (hn : ys.length = n) (h1 : 1 ≤ n) (h64 : n ≤ 64) (hlim : xs.length ≤ 100000) (hl : ∀ y ∈ ys, y < 256) (hB1 : wb < B) (hB2 : ∀ g, A.map (·.block) = some g → g < B) :
    Calls Try.prog 59 #[.pointer (some ⟨wb, 0, none⟩), .slice (some ⟨pb, 0, none⟩) n c] w fun e w' => e = .returned (.tuple #[.int .i64 n, .nilIface]) ∧ (∃ (A' : Option Addr) (cap' : Nat), EncSt w' H b wb A' cap' (xs ++ ys) TA n' tc PA m pc) ∧ Below b w w' ∧ w.heap.size ≤ w'.heap.size ∧ (∀ k, k < w.heap.size → wb < k → NotB A k → w'.heap[k]? = w.heap[k]?) := by
  obtain ⟨a1, a2, a3, a4, a5⟩ := hy.cells
  have hwz := h.wz
  exact (cwrite_any wb b n c cap pb (Ck.ck 1 xs) A xs ys w h.bf h.ck hn h1 h64 (by omega) a3 hlim (Ck.ck_lt (by omega) _) (fun j hj => getD_all hl j (by omega)) (by omega) (by omega) (fun e => absurd (hB2 _ e) (by omega)) a4 h.nw (fun j hj => a1 j (by omega))).mono (fun _ _ ho => h.write ho)
/-- What EncodeConfig answers. -/
def IEOut (ts : List Tl) (ps : List Pd) (w : World) (e : Ending) (w' : World) : Prop := (if cfOk ts ps = true then ∃ g cap : Nat, e = .returned (.slice (some ⟨g, 0, none⟩) (enc ts ps).length cap) ∧ ByAt w' w.heap.size (enc ts ps) (some ⟨g, 0, none⟩) cap else e = .returned (.slice none 0 0)) ∧ Below w.heap.size w w'
end Go.Proofs.Ytdadokcodklfgaa
/- The model's byte of a flag and its checksum walked. -/
namespace Go.Proofs.Ytdadokcodklfgaa
open Go.RowKit Go.Deep Cut

end Go.Proofs.Ytdadokcodklfgaa
/- The contract of the model's EncodeConfig. -/
namespace Go.Proofs.Ytdadokcodklfgaa
open Go.RowKit Go.Deep Cut

/-- While the model writes bytes: the bytes, and one box beside them. -/
structure TbSt (w : World) (B tb : Nat) (xs : List Nat) (A : Option Addr) (cap : Nat) (cs : Array Value) : Prop where
  byt : ByAt w B xs A cap
  box : Row w tb 33 cs
  ne : NotB A tb
theorem TbSt.on {w w' : World} {B tb : Nat} {xs : List Nat} {A : Option Addr} {cap : Nat} {cs : Array Value} (h : TbSt w B tb xs A cap cs) (hb : Below w.heap.size w w') : TbSt w' B tb xs A cap cs := ⟨h.byt.on hb, h.box.below hb h.box.lt, h.ne⟩
/-- The bytes of a configuration, none if it is invalid. -/
def encS (ts : List Tl) (ps : List Pd) : List Nat := if cfOk ts ps = true then enc ts ps else []
def SEOut (ts : List Tl) (ps : List Pd) (w : World) (e : Ending) (w' : World) : Prop := (∃ (A : Option Addr) (cap : Nat), e = .returned (.slice A (encS ts ps).length cap) ∧ ByAt w' w.heap.size (encS ts ps) A cap) ∧ Below w.heap.size w w'
theorem IEOut.s {ts : List Tl} {ps : List Pd} {w w' : World} {e : Ending} (h : IEOut ts ps w e w') : SEOut ts ps w e w' := by
  refine ⟨?_, h.2⟩
  have h1 := h.1
  unfold encS
  cases hc : cfOk ts ps
  · rw [if_neg (by rw [hc]; simp)] at h1
    exact ⟨none, 0, by rw [h1]; rfl, ByAt.nil _ _⟩
  · rw [if_pos hc] at h1
    obtain ⟨g, cap, e1, e2⟩ := h1
    exact ⟨_, cap, e1, e2⟩
theorem ByAt.empty (w : World) (B g : Nat) (hB : B ≤ g) (h : Row w g 5 #[]) : ByAt w B [] (some ⟨g, 0, none⟩) 0 :=
  own_full (n := 0) (z := 1) h hB rfl (by simp [maxLen]) rfl (HasC.nil _)
end Go.Proofs.Ytdadokcodklfgaa
/- Slices of bytes: comparison and marks. -/
namespace Go.Proofs.Ytdadokcodklfgaa
open Go.RowKit Go.Deep

/-- Bytes that can be read below B. -/
def BysIn (w : World) (B : Nat) (A : Option Addr) (xs : List Nat) : Prop :=
  ∀ k, k < xs.length → ∃ b off, A = some ⟨b, off, none⟩ ∧ b < B ∧ w.cell? ⟨b, off + k, none⟩ = some (.int .u8 (xs.getD k 0 : Nat))
theorem BysIn.below {w w' : World} {B : Nat} {A : Option Addr} {xs : List Nat} (h : BysIn w B A xs) (hb : Below B w w') : BysIn w' B A xs := fun k hk => by
  obtain ⟨b, off, e, hB, h0⟩ := h k hk
  exact ⟨b, off, e, hB, (hb.cell (by exact hB)).trans h0⟩
theorem BysIn.mono {w : World} {B B' : Nat} {A : Option Addr} {xs : List Nat} (h : BysIn w B A xs) (hb : B ≤ B') : BysIn w B' A xs := fun k hk => by
  obtain ⟨b, off, e, hB, h0⟩ := h k hk
  exact ⟨b, off, e, Nat.lt_of_lt_of_le hB hb, h0⟩
theorem BysIn.on {w w' : World} {A : Option Addr} {xs : List Nat} (h : BysIn w w.heap.size A xs) (hb : Below w.heap.size w w') : BysIn w' w'.heap.size A xs := (h.below hb).mono hb.size
theorem ByAt.read {w : World} {B cap : Nat} {A : Option Addr} {xs : List Nat} (h : ByAt w B xs A cap) : BysIn w w.heap.size A xs := fun k hk => by
  obtain ⟨g, rfl⟩ := h.ptr (by omega)
  obtain ⟨h1, h2, h3, h4, h5⟩ := h.cells
  exact ⟨g, 0, rfl, h4, by rw [Nat.zero_add]; exact h1 k hk⟩
theorem ByAt.low {w : World} {B B' cap : Nat} {A : Option Addr} {xs : List Nat} (h : ByAt w B xs A cap) (hB : B' ≤ B) : ByAt w B' xs A cap := by
  refine ⟨h.1, ?_⟩
  rcases h.2 with hv | ⟨g, c, cur, hv, h1, h2⟩
  · exact .inl hv
  · exact .inr ⟨g, c, cur, hv, Nat.le_trans hB h1, h2⟩

/-- A row of bytes, the first m of them marked. -/
def MkBy (w : World) (g n m K : Nat) : Prop := ∃ cs, Row w g 5 cs ∧ n ≤ cs.size ∧ ∀ j, j < m → cs[j]? = some (.int .u8 (IntKind.u8.wrap ((K : Int) + j)))
theorem MkBy.set {w : World} {g n m K : Nat} (h : MkBy w g n m K) (hm : m < n) : MkBy (w.setCell ⟨g, m, none⟩ (.int .u8 (IntKind.u8.wrap ((K : Int) + m)))) g n (m + 1) K := by
  obtain ⟨cs, hr, h1, h2⟩ := h
  refine ⟨_, hr.set m _, by simpa using h1, fun j hj => ?_⟩
  by_cases e : j = m
  · subst e
    rw [Array.getElem?_setIfInBounds_self_of_lt (by omega)]
  · rw [Array.getElem?_setIfInBounds_ne (by omega)]
    exact h2 j (by omega)
theorem MkBy.old {w : World} {g n m K : Nat} (h : MkBy w g n m K) {o : Nat} (ho : o < n) : (∃ u, w.cell? ⟨g, o, none⟩ = some u) ∧ w.frozen? ⟨g, o, none⟩ = false := by
  obtain ⟨cs, hr, h1, h2⟩ := h
  exact ⟨⟨cs[o]'(by omega), by rw [hr.cell, Array.getElem?_eq_getElem]⟩, hr.frozen o⟩
theorem MkBy.lt {w : World} {g n m K : Nat} (h : MkBy w g n m K) : g < w.heap.size := by
  obtain ⟨cs, hr, h1, h2⟩ := h
  exact hr.lt
theorem MkBy.below {w w' : World} {g n m K B : Nat} (h : MkBy w g n m K) (hb : Below B w w') (hg : g < B) : MkBy w' g n m K := by
  obtain ⟨cs, hr, h1⟩ := h
  exact ⟨cs, hr.below hb hg, h1⟩
/-- Bytes marked, where there are any. -/
def MkAt (w : World) (A : Option Addr) (B n K : Nat) : Prop := n = 0 ∨ ∃ g, A = some ⟨g, 0, none⟩ ∧ B ≤ g ∧ MkBy w g n n K
theorem MkAt.on {w w' : World} {A : Option Addr} {B n K : Nat} (h : MkAt w A B n K) (hb : Below w.heap.size w w') : MkAt w' A B n K := by
  rcases h with h | ⟨g, e, h1, h2⟩
  · exact .inl h
  · exact .inr ⟨g, e, h1, h2.below hb h2.lt⟩
end Go.Proofs.Ytdadokcodklfgaa
