/- What a bitstream's bytes stand for; reading what was written. -/
import Derived.Test.YtkkkkalgfmddbaaKN
import Derived.Deep.RegionWith
namespace Go.Proofs.Ytkkkkalgfmddbaa
open Go.RowKit Go.Deep Cut

/-- n bytes from a on, as numbers. -/
def rdN (bs : List Nat) (a n : Nat) : List Int := (List.range n).map fun j => ((bs.getD (a + j) 0 : Nat) : Int)
theorem rdN_len (bs : List Nat) (a n : Nat) : (rdN bs a n).length = n := by simp [rdN]
theorem rdN_get (bs : List Nat) (a n : Nat) {j : Nat} (hj : j < n) : (rdN bs a n).getD j 0 = ((bs.getD (a + j) 0 : Nat) : Int) := by
  simp [rdN, List.getD_eq_getElem?_getD, hj]
theorem rdN_succ (bs : List Nat) (a n : Nat) : rdN bs a (n + 1) = rdN bs a n ++ [((bs.getD (a + n) 0 : Nat) : Int)] := by
  simp [rdN, List.range_succ]
/-- The tile, the pad that bytes stand for, where f reads a flag. -/
def rdT (f : Nat → Bool) (bs : List Nat) (i : Nat) : Tl := (((bs.getD (13 * i) 0 : Nat) : Int), rdN bs (13 * i + 1) 3, f (bs.getD (13 * i + 4) 0), rdN bs (13 * i + 5) 8)
def rdTs (f : Nat → Bool) (bs : List Nat) (k : Nat) : List Tl := (List.range k).map (rdT f bs)
def rdP (f : Nat → Bool) (bs : List Nat) (o : Nat) : Pd := (((bs.getD (325 + 2 * o) 0 : Nat) : Int), f (bs.getD (325 + 2 * o + 1) 0))
def rdPs (f : Nat → Bool) (bs : List Nat) (k : Nat) : List Pd := (List.range k).map (rdP f bs)
theorem rdTs_len (f : Nat → Bool) (bs : List Nat) (k : Nat) : (rdTs f bs k).length = k := by simp [rdTs]
theorem rdPs_len (f : Nat → Bool) (bs : List Nat) (k : Nat) : (rdPs f bs k).length = k := by simp [rdPs]
theorem rdTs_succ (f : Nat → Bool) (bs : List Nat) (k : Nat) : rdTs f bs (k + 1) = rdTs f bs k ++ [rdT f bs k] := by simp [rdTs, List.range_succ]
theorem rdPs_succ (f : Nat → Bool) (bs : List Nat) (k : Nat) : rdPs f bs (k + 1) = rdPs f bs k ++ [rdP f bs k] := by simp [rdPs, List.range_succ]
theorem rdTs_get (f : Nat → Bool) (bs : List Nat) {k i : Nat} (hi : i < k) : (rdTs f bs k).getD i tl0 = rdT f bs i := by
  simp [rdTs, List.getD_eq_getElem?_getD, hi]
theorem rdTs_bd (f : Nat → Bool) (bs : List Nat) : TlBd (rdTs f bs 25) := ⟨by rw [rdTs_len]; omega, fun k hk => by
  rw [rdTs_len] at hk
  rw [rdTs_get f bs hk]
  exact ⟨by show (rdN bs _ 3).length ≤ _; rw [rdN_len]; omega, by show (rdN bs _ 8).length ≤ _; rw [rdN_len]; omega⟩⟩
theorem getD_appR {α : Type} (a b : List α) (j : Nat) (d : α) (n : Nat) (h : a.length = n) : (a ++ b).getD (n + j) d = b.getD j d := by
  subst h
  rw [List.getD_eq_getElem?_getD, List.getElem?_append_right (by omega), List.getD_eq_getElem?_getD, Nat.add_sub_cancel_left]
theorem getD_appL {α : Type} (a b : List α) (j : Nat) (d : α) (h : j < a.length) : (a ++ b).getD j d = a.getD j d := by
  rw [List.getD_eq_getElem?_getD, List.getElem?_append_left h, List.getD_eq_getElem?_getD]
theorem drop_tl {α : Type} (ts : List α) (d : α) {k : Nat} (hk : k < ts.length) : ts = ts.take k ++ (ts.getD k d :: ts.drop (k + 1)) := by
  rw [List.getD_eq_getElem?_getD, List.getElem?_eq_getElem hk]
  simp
theorem enc_tile {ts : List Tl} {ps : List Pd} (h : cfOk ts ps = true) {i j : Nat} (hi : i < 25) (hj : j < 13) : (enc ts ps).getD (13 * i + j) 0 = (enT (ts.getD i tl0)).getD j 0 := by
  obtain ⟨h1, h2, h3, h4⟩ := cfOk_parts h
  have hl := enTs_len i (by omega) (fun j hj => h4 j (by omega))
  have hd : enTs ts = enTs (ts.take i) ++ (enT (ts.getD i tl0) ++ enTs (ts.drop (i + 1))) := by
    conv => lhs; rw [drop_tl ts tl0 (show i < ts.length by omega)]
    unfold enTs
    rw [List.flatMap_append, List.flatMap_cons]
  unfold enc
  rw [hd, List.append_assoc, List.append_assoc, getD_appR _ _ _ _ _ hl, List.append_assoc, getD_appL _ _ _ _ (by rw [(enT_lt (h4 i hi)).1]; exact hj)]
theorem enc_pad {ts : List Tl} {ps : List Pd} (h : cfOk ts ps = true) {o j : Nat} (ho : o < 3) (hj : j < 2) : (enc ts ps).getD (325 + 2 * o + j) 0 = (enP (ps.getD o pd0)).getD j 0 := by
  obtain ⟨h1, h2, h3, h4⟩ := cfOk_parts h
  have hl := enTs_len 25 (by omega) (fun j hj => h4 j (by omega))
  rw [List.take_of_length_le (by omega)] at hl
  have hp : (enPs (ps.take o)).length = 2 * o := by rw [enPs_eq, List.length_take, h2, Nat.min_eq_left (by omega)]
  have hd : enPs ps = enPs (ps.take o) ++ (enP (ps.getD o pd0) ++ enPs (ps.drop (o + 1))) := by
    conv => lhs; rw [drop_tl ps pd0 (show o < ps.length by omega)]
    unfold enPs
    rw [List.flatMap_append, List.flatMap_cons]
  unfold enc
  rw [List.append_assoc, show 325 + 2 * o + j = 325 + (2 * o + j) by omega, getD_appR _ _ _ _ _ hl, hd, List.append_assoc, getD_appR _ _ _ _ _ hp, List.append_assoc, getD_appL _ _ _ _ (by show j < 2; exact hj)]
theorem list_nats {zs : List Int} (n : Nat) (hl : zs.length = n) (hf : Fit zs) (g : Nat → Nat) (hg : ∀ j, j < n → g j = (nats zs).getD j 0) : ((List.range n).map fun j => ((g j : Nat) : Int)) = zs := by
  apply List.ext_getElem?
  intro j
  by_cases hj : j < n
  · have h1 := hg j hj
    rw [nats_get] at h1
    have h2 := hf j (by omega)
    rw [List.getD_eq_getElem?_getD, List.getElem?_eq_getElem (show j < zs.length by omega)] at h1 h2
    rw [List.getElem?_map, List.getElem?_range hj, List.getElem?_eq_getElem (show j < zs.length by omega)]
    simp at h1 h2 ⊢
    omega
  · rw [List.getElem?_eq_none (by simp; omega), List.getElem?_eq_none (by omega)]
/-- Reading what was written. -/
theorem read_enc {ts : List Tl} {ps : List Pd} (h : cfOk ts ps = true) (f : Nat → Bool) (f0 : f 0 = false) (f1 : f 1 = true) : rdTs f (enc ts ps) 25 = ts ∧ rdPs f (enc ts ps) 3 = ps := by
  obtain ⟨h1, h2, h3, h4⟩ := cfOk_parts h
  have fb : ∀ b : Bool, f b.toNat = b := fun b => by cases b <;> assumption
  constructor
  · apply List.ext_getElem?
    intro i
    by_cases hi : i < 25
    · obtain ⟨⟨v0, v1⟩, ⟨l1, g1⟩, l2, g2⟩ := tlOk_fit (h4 i hi)
      have e : ts[i]? = some (ts.getD i tl0) := by rw [List.getD_eq_getElem?_getD, List.getElem?_eq_getElem (show i < ts.length by omega)]; rfl
      rw [e]
      unfold rdTs
      rw [List.getElem?_map, List.getElem?_range hi]
      simp only [Option.map_some]
      congr 1
      unfold rdT rdN
      have E : ∀ j, j < 13 → (enc ts ps).getD (13 * i + j) 0 = ([(ts.getD i tl0).1.toNat] ++ (nats (ts.getD i tl0).2.1 ++ ([(ts.getD i tl0).2.2.1.toNat] ++ nats (ts.getD i tl0).2.2.2))).getD j 0 := fun j hj => by
        rw [enc_tile h hi hj]
        simp [enT]
      have n1 : (nats (ts.getD i tl0).2.1).length = 3 := by rw [nats_len, l1]
      have a0 : (enc ts ps).getD (13 * i) 0 = (ts.getD i tl0).1.toNat := E 0 (by omega)
      have a4 : (enc ts ps).getD (13 * i + 4) 0 = (ts.getD i tl0).2.2.1.toNat := by
        rw [E 4 (by omega), show 4 = 1 + (3 + 0) from rfl, getD_appR _ _ _ _ 1 rfl, getD_appR _ _ _ _ 3 n1]
        rfl
      have a1 := list_nats 3 l1 g1 (fun j => (enc ts ps).getD (13 * i + 1 + j) 0) (fun j hj => by
        show (enc ts ps).getD (13 * i + 1 + j) 0 = _
        rw [show 13 * i + 1 + j = 13 * i + (1 + j) by omega, E (1 + j) (by omega), getD_appR _ _ _ _ 1 rfl, getD_appL _ _ _ _ (by omega)])
      have a5 := list_nats 8 l2 g2 (fun j => (enc ts ps).getD (13 * i + 5 + j) 0) (fun j hj => by
        show (enc ts ps).getD (13 * i + 5 + j) 0 = _
        rw [show 13 * i + 5 + j = 13 * i + (1 + (3 + (1 + j))) by omega, E (1 + (3 + (1 + j))) (by omega), getD_appR _ _ _ _ 1 rfl, getD_appR _ _ _ _ 3 n1, getD_appR _ _ _ _ 1 rfl])
      rw [a0, a4, fb, a1, a5]
      refine Prod.ext ?_ rfl
      show ((ts.getD i tl0).1.toNat : Int) = (ts.getD i tl0).1
      omega
    · rw [List.getElem?_eq_none (by rw [rdTs_len]; omega), List.getElem?_eq_none (by omega)]
  · apply List.ext_getElem?
    intro o
    by_cases ho : o < 3
    · have e : ps[o]? = some (ps.getD o pd0) := by rw [List.getD_eq_getElem?_getD, List.getElem?_eq_getElem (show o < ps.length by omega)]; rfl
      rw [e]
      unfold rdPs
      rw [List.getElem?_map, List.getElem?_range ho]
      simp only [Option.map_some]
      congr 1
      unfold rdP
      have a0 : (enc ts ps).getD (325 + 2 * o) 0 = (ps.getD o pd0).1.toNat := enc_pad h ho (j := 0) (by omega)
      have a1 : (enc ts ps).getD (325 + 2 * o + 1) 0 = (ps.getD o pd0).2.toNat := enc_pad h ho (j := 1) (by omega)
      rw [a0, a1, fb]
      refine Prod.ext ?_ rfl
      show ((ps.getD o pd0).1.toNat : Int) = (ps.getD o pd0).1
      have := h3 o ho
      omega
    · rw [List.getElem?_eq_none (by rw [rdPs_len]; omega), List.getElem?_eq_none (by omega)]
/-- What the program and the model answer: the same. -/
def fP (v : Nat) : Bool := v != 0
def fM (v : Nat) : Bool := v == 1
def dec (f : Nat → Bool) (bs : List Nat) : Bool := decide (encS (rdTs f bs 25) (rdPs f bs 3) = bs)
theorem dec_ok {f : Nat → Bool} {bs : List Nat} (hl : bs.length = 333) (h : dec f bs = true) : cfOk (rdTs f bs 25) (rdPs f bs 3) = true ∧ enc (rdTs f bs 25) (rdPs f bs 3) = bs := by
  have h1 : encS (rdTs f bs 25) (rdPs f bs 3) = bs := of_decide_eq_true h
  unfold encS at h1
  by_cases hc : cfOk (rdTs f bs 25) (rdPs f bs 3) = true
  · rw [if_pos hc] at h1
    exact ⟨hc, h1⟩
  · rw [if_neg hc] at h1
    subst h1
    simp at hl
theorem dec_any {f g : Nat → Bool} {bs : List Nat} (hl : bs.length = 333) (g0 : g 0 = false) (g1 : g 1 = true) (h : dec f bs = true) : rdTs g bs 25 = rdTs f bs 25 ∧ rdPs g bs 3 = rdPs f bs 3 ∧ dec g bs = true := by
  obtain ⟨h1, h2⟩ := dec_ok hl h
  have h3 := read_enc h1 g g0 g1
  rw [h2] at h3
  refine ⟨h3.1, h3.2, ?_⟩
  unfold dec at h ⊢
  rw [h3.1, h3.2]
  exact h
theorem dec_same {bs : List Nat} (hl : bs.length = 333) : dec fM bs = dec fP bs := by
  cases e : dec fP bs
  · cases e2 : dec fM bs
    · rfl
    · rw [(dec_any (g := fP) hl rfl rfl e2).2.2] at e
      exact absurd e (by simp)
  · exact (dec_any (g := fM) hl rfl rfl e).2.2
end Go.Proofs.Ytkkkkalgfmddbaa
/- The program's reader of bytes. -/
namespace Go.Proofs.Ytkkkkalgfmddbaa
open Go.RowKit Go.Deep

/-- A reader that has read p of 333 bytes. -/
structure RdSt (w : World) (r b o c p : Nat) (bs : List Nat) : Prop where
  box : Row w r 144 #[.slice (some ⟨b, o + p, none⟩) (333 - p) (c - p)]
  byt : ∀ k, k < 333 → w.cell? ⟨b, o + k, none⟩ = some (.int .u8 (bs.getD k 0 : Nat))
  lt : b < r
  cap : 333 ≤ c ∧ c ≤ maxLen
  u8 : ∀ k, k < 333 → bs.getD k 0 < 256
theorem RdSt.keep {w w' : World} {r b o c p : Nat} {bs : List Nat} (h : RdSt w r b o c p bs) (hr : w'.heap[r]? = w.heap[r]?) (hb : w'.heap[b]? = w.heap[b]?) : RdSt w' r b o c p bs :=
  { h with box := hr.trans h.box, byt := fun k hk => (World.cell?_of_block (a := ⟨b, o + k, none⟩) hb).trans (h.byt k hk) }
theorem RdSt.on {w w' : World} {r b o c p : Nat} {bs : List Nat} (h : RdSt w r b o c p bs) (hb : Below w.heap.size w w') : RdSt w' r b o c p bs := h.keep (hb.block _ h.box.lt) (hb.block _ (Nat.lt_trans h.lt h.box.lt))
theorem RdSt.next {w : World} {r b o c p : Nat} {bs : List Nat} (h : RdSt w r b o c p bs) : RdSt (w.setCell ⟨r, 0, none⟩ (.slice (some ⟨b, o + (p + 1), none⟩) (333 - (p + 1)) (c - (p + 1)))) r b o c (p + 1) bs :=
  { h with box := (by have h1 := h.box.set 0 (.slice (some ⟨b, o + (p + 1), none⟩) (333 - (p + 1)) (c - (p + 1))); simpa using h1)
           byt := fun k hk => (World.cell?_of_block (a := ⟨b, o + k, none⟩) (Below.heap_setCell _ _ _ _ (by show b ≠ r; have := h.lt; omega))).trans (h.byt k hk) }
set_option maxHeartbeats 800000 in
theorem number_any (r b o c p v : Nat) (bs : List Nat) (w : World) (h : RdSt w r b o c p bs) (hp : p < 332) (hv : bs.getD p 0 = v) :
    Calls Try.prog 110 #[.pointer (some ⟨r, 0, none⟩)] w fun e w' => e = .returned (.int .i64 (v : Int)) ∧ RdSt w' r b o c (p + 1) bs ∧ Only (some r) w w' := by
  have hv8 := h.u8 p (by omega)
  rw [hv] at hv8
  have c0 := h.box.cell 0
  simp at c0
  have f0 := h.box.frozen 0
  have hc0 := h.byt p (by omega)
  rw [hv] at hc0
  have HN := Lib.hid h.next
  have HO := Lib.hid ((Only.refl (some r) w).set 0 (.slice (some ⟨b, o + (p + 1), none⟩) (333 - (p + 1)) (c - (p + 1))))
  obtain ⟨k1, k2⟩ := h.cap
  unfold maxLen at k2
  have hwv : IntKind.i64.wrap (v : Int) = (v : Int) := IntWalk.i64_in _ (by omega)
  clear h hv
  obtain ⟨l, hl⟩ : ∃ l, l = 333 - (p + 1) := ⟨_, rfl⟩
  obtain ⟨cc, hcc⟩ : ∃ cc, cc = c - (p + 1) := ⟨_, rfl⟩
  rw [show 333 - p = l + 1 by omega, show c - p = cc + 1 by omega] at c0
  rw [← hl, ← hcc] at HN HO
  have hl1 : 1 ≤ l := by omega
  have hlc : l ≤ cc := by omega
  rw [show o + (p + 1) = o + p + 1 by omega] at HN HO
  clear hl hcc k1
  go_enter Try.func110, Try.ntmps110
  go_wp2
  go_ret
  exact ⟨rfl, HN.out, HO.out⟩
theorem flag_r_any (r b o c p v : Nat) (bs : List Nat) (w : World) (h : RdSt w r b o c p bs) (hp : p < 332) (hv : bs.getD p 0 = v) :
    Calls Try.prog 112 #[.pointer (some ⟨r, 0, none⟩)] w fun e w' => e = .returned (.bool (fP v)) ∧ RdSt w' r b o c (p + 1) bs ∧ Only (some r) w w' := by
  have HN := Lib.hid (number_any r b o c p v bs w h hp hv)
  clear h hv
  go_enter Try.func112, Try.ntmps112
  go_wp2_with fail
  refine HN.out.mono ?_
  rintro e w1 ⟨rfl, h1, h2⟩
  have H1 := Lib.hid h1
  have H2 := Lib.hid h2
  clear HN h1 h2
  have hf : ((v : Int) != 0) = fP v := by
    unfold fP
    by_cases e : v = 0
    · subst e; rfl
    · rw [bne_iff_ne.2 e, bne_iff_ne.2 (by omega)]
  go_wp2
  go_ret
  exact ⟨rfl, H1.out, H2.out⟩
/-- All blocks but r stand. -/
structure KpR (r : Nat) (w w' : World) : Prop where
  below : Below r w w'
  keep : ∀ k, k < w.heap.size → k ≠ r → w'.heap[k]? = w.heap[k]?
theorem KpR.refl (r : Nat) (w : World) : KpR r w w := ⟨Below.refl _ _, fun _ _ _ => rfl⟩
theorem KpR.trans {r : Nat} {w w' w'' : World} (h : KpR r w w') (k : KpR r w' w'') : KpR r w w'' := ⟨h.below.trans k.below, fun j hj hn => (k.keep j (Nat.lt_of_lt_of_le hj h.below.size) hn).trans (h.keep j hj hn)⟩
theorem KpR.only {r : Nat} {w w' : World} (h : Only (some r) w w') (hr : r < w.heap.size) : KpR r w w' := ⟨h.below (fun g e => by injection e with e; omega) (by omega), fun k hk hn => h.grown.block k hk (fun e => by injection e with e; exact hn e)⟩
theorem KpR.more {r : Nat} {w w' : World} (h : Below w.heap.size w w') (hr : r < w.heap.size) : KpR r w w' := ⟨h.mono (by omega), fun k hk _ => h.block k hk⟩
theorem KpR.over {r g : Nat} {w w' : World} (h : KpR r w w') (hg : w.heap.size ≤ g) (hr : r < w.heap.size) (j : Nat) (u : Value) : KpR r w (w'.setCell ⟨g, j, none⟩ u) := ⟨h.below.setCell (p := ⟨g, j, none⟩) (by show r ≤ g; omega) u, fun k hk hn => (Below.heap_setCell _ _ _ _ (by show k ≠ g; omega)).trans (h.keep k hk hn)⟩
set_option maxHeartbeats 800000 in
theorem numbers_any (r b o c p m : Nat) (bs : List Nat) (w : World) (h : RdSt w r b o c p bs) (hp : p + m ≤ 332) (hm : m ≤ 8) :
    Calls Try.prog 111 #[.pointer (some ⟨r, 0, none⟩), .int .i64 (m : Int)] w fun e w' => e = .returned (.slice (some ⟨w.heap.size, 0, none⟩) m m) ∧ IRow w' w.heap.size (rdN bs p m) ∧ RdSt w' r b o c (p + m) bs ∧ KpR r w w' := by
  have hmk := fun W => run_make_row' (P := Try.prog) 31 3 (.int .i64 0) 8 Try.underlying31 Try.info3 rfl .i64 .i64 m (by omega) (by omega) W
  have hrl := h.box.lt
  have hb1 : Below w.heap.size w (w.alloc (.cells (madeCells #[.int .i64 0] m) 3)) := (Below.refl _ _).alloc (Nat.le_refl _) _
  have HS0 := Lib.hid (h.on hb1)
  have HK0 := Lib.hid (KpR.more hb1 hrl)
  have HR0 : Hid (Row (w.alloc (.cells (madeCells #[.int .i64 0] m) 3)) w.heap.size 3 (madeCells #[.int .i64 0] m)) := Lib.hid (heap_alloc_new w _)
  have HF0 : Hid (FilledI (madeCells #[.int .i64 0] m) (rdN bs p m) 0) := Lib.hid (FilledI.start (by rw [size_madeCells, rdN_len]))
  clear hb1 h
  go_enter Try.func111, Try.ntmps111
  go_wp2
  clear hmk
  go_loopw [11] (fun iv wr => ∃ (j : Nat) (cs : Array Value), j ≤ m ∧ iv = .int .i64 j ∧ Hid (Row wr w.heap.size 3 cs) ∧ Hid (FilledI cs (rdN bs p m) j) ∧ Hid (RdSt wr r b o c (p + j) bs) ∧ Hid (KpR r w wr)) (fun iv _ => m - (intOf iv).toNat)
  case atStart => exact ⟨0, _, Nat.zero_le _, rfl, HR0, HF0, HS0, HK0⟩
  case round =>
    clear HR0 HF0 HS0 HK0
    obtain ⟨j, cs, hj, rfl, HR, HF, HS, HK⟩ := hrel
    by_cases hlt : j < m
    · obtain ⟨v, hv⟩ : ∃ v, bs.getD (p + j) 0 = v := ⟨_, rfl⟩
      have HV : Hid ((rdN bs p m).getD j 0 = (v : Int)) := Lib.hid (by rw [rdN_get bs p m hlt, hv])
      have HNUM := Lib.hid (number_any r b o c (p + j) v bs wr HS.out (by omega) hv)
      have hrw := HS.out.box.lt
      have HF2 := Lib.hid (HF.out.step (by rw [rdN_len]; exact hlt))
      have hsz : j < cs.size := by rw [HF.out.1, rdN_len]; exact hlt
      rw [HV.out] at HF2
      clear hv HV HF HS
      go_wp2_with fail
      refine HNUM.out.mono ?_
      rintro e w1 ⟨rfl, hs1, ho1⟩
      have hr1 := ho1.row HR.out (fun e => by injection e with e; omega)
      have hc0 : w1.cell? ⟨w.heap.size, j, none⟩ = some cs[j] := by rw [hr1.cell, Array.getElem?_eq_getElem hsz]
      have hf0 := hr1.frozen j
      have HR2 := Lib.hid (hr1.set j (.int .i64 (v : Int)))
      have HS2 : Hid (RdSt (w1.setCell ⟨w.heap.size, j, none⟩ (.int .i64 (v : Int))) r b o c (p + (j + 1)) bs) := Lib.hid (hs1.keep (Below.heap_setCell _ _ _ _ (by show r ≠ w.heap.size; omega)) (Below.heap_setCell _ _ _ _ (by show b ≠ w.heap.size; have := hs1.lt; omega)))
      have HK2 := Lib.hid ((HK.out.trans (KpR.only ho1 hrw)).over (Nat.le_refl _) hrl j (.int .i64 (v : Int)))
      clear hs1 ho1 hr1 HNUM HR HK
      generalize cs[j] = old at *
      go_wp2
      go_roundw
      case rel => exact ⟨j + 1, _, by omega, by go_num, HR2, HF2, HS2, HK2⟩
      case measure => simp [intOf]; omega
    · obtain rfl : j = m := by omega
      go_wp2
      go_ret
      exact ⟨rfl, ⟨_, HR.out, by rw [rdN_len]; exact HF.out⟩, HS.out, HK.out⟩
end Go.Proofs.Ytkkkkalgfmddbaa
/- The contract of the program's readConfig. -/
namespace Go.Proofs.Ytkkkkalgfmddbaa
open Go.RowKit Go.Deep Cut

theorem leaf_irow {w : World} {S : Nat → Prop} {g : Nat} {x : List Int} (h : IRow w g x) (hS : S g) : LeafZ w S (some ⟨g, 0, none⟩) x := by
  obtain ⟨cs, hr, hf⟩ := h
  exact .inr ⟨g, cs, rfl, hS, hr, fun j hj => hf.2 j hj⟩
theorem IRow.kp {w w' : World} {g r : Nat} {x : List Int} (h : IRow w g x) (hk : KpR r w w') (hg : g < w.heap.size) (hr : g ≠ r) : IRow w' g x := by
  obtain ⟨cs, h1, hf⟩ := h
  exact ⟨cs, (hk.keep g hg hr).trans h1, hf⟩
theorem IRow.lt' {w : World} {g : Nat} {x : List Int} (h : IRow w g x) : g < w.heap.size := by
  obtain ⟨cs, h1, hf⟩ := h
  exact h1.lt
theorem rd_tile {wr w3 w4 w5 w6 : World} {B r tc : Nat} {A : Option Addr} {ts : List Tl} {hs : List Value} {x y : List Int} (h : TlAt wr.drew B ts hs A tc) (hBz : B ≤ wr.heap.size) (hr : r < B) (k3 : KpR r wr.drew w3) (h4 : IRow w4 w3.heap.size x) (k4 : KpR r w3 w4) (k5 : KpR r w4 w5) (h6 : IRow w6 w5.heap.size y) (k6 : KpR r w5 w6) :
    TlAt w6 B ts hs A tc ∧ LeafZ w6 (OffA w6 B A) (some ⟨w3.heap.size, 0, none⟩) x ∧ LeafZ w6 (OffA w6 B A) (some ⟨w5.heap.size, 0, none⟩) y ∧ B ≤ w6.heap.size ∧ w3.heap.size < w5.heap.size ∧ wr.heap.size ≤ w3.heap.size ∧ w5.heap.size < w6.heap.size := by
  have z3 : wr.heap.size ≤ w3.heap.size := k3.below.size
  have z4 := h4.lt'
  have z5 := k5.below.size
  have z6 := h6.lt'
  have kk := (k3.trans k4).trans (k5.trans k6)
  have hlt : ∀ g, A.map (·.block) = some g → B ≤ g ∧ g < wr.heap.size := fun g e => h.ltA g e
  refine ⟨TlAt.keep h (fun b h1 h2 => kk.keep b h2 (by omega)) kk.below.size, ?_, ?_, by omega, by omega, by omega, by omega⟩
  · exact leaf_irow ((h4.kp k5 z4 (by omega)).kp k6 (by omega) (by omega)) ⟨by omega, by omega, fun e => absurd (hlt _ e).2 (by omega)⟩
  · exact leaf_irow h6 ⟨by omega, by omega, fun e => absurd (hlt _ e).2 (by omega)⟩
section
variable {ops : Array Oper} {rest : List Oper} {o : Oper} {a : Act} {Q : Exit → Act → World → Prop}
/-- One more pad, where the order is drawn. -/
theorem step_pushPd {K : Act → World → Prop} {E : Prop} (hgd : o.guard = none) (s x' : Operand) (ho : o.op = .call { callee := .builtin .append, args := #[s, x'], argTypes := #[24, 24] })
    (wr : World) (B cap n : Nat) (A : Option Addr) (ps : List Pd) (hev : a.eval s = .slice A n cap) (hn : ps.length = n) (h : PdAt wr B ps A cap) (hnb : n ≤ 1000) (hB : B ≤ wr.heap.size)
    (v : Int) (r : Bool) (hx' : a.eval x' = .slice (some ⟨wr.heap.size, 0, none⟩) 1 1)
    (cont : ∀ g' cap' w5, PdAt w5 B (ps ++ [(v, r)]) (some ⟨g', 0, none⟩) cap' → Below B wr w5 → (∀ b, b < wr.heap.size → NotB A b → w5.heap[b]? = wr.heap[b]?) → (A = some ⟨g', 0, none⟩ ∨ wr.heap.size < g') → K (a.put o.dst (.slice (some ⟨g', 0, none⟩) (n + 1) cap')) w5) :
    if Region.wanted o (yielded ops a.tmps) = true then Oper.wp Try.prog o a (wr.alloc (.cells #[.int .i64 v, .bool r] 81)) K Q else E := by
  subst hn
  obtain ⟨i0, hi0, hz0, hz1, hz2⟩ := info_split Try.infoPd
  refine step_append_kept _ hgd s x' 24 ho B 81 i0 _ 2 16 Try.underlying24 hi0 hz0 hz1 hz2 rfl (by omega) (.slice A ps.length cap) ps.length (pvs ps) hev (World.ownsRow.alloc h _) ⟨wr.heap.size, 0, none⟩ 1 1 [.int .i64 v, .bool r] hx' rfl (World.news_of_block (cs := #[.int .i64 v, .bool r]) (t := 81) (fr := (0, 0)) (heap_alloc_new wr _)) (by simp [Value.oneCell']) (by omega) (by simp [maxLen]; omega) (by omega) (by simp; omega) _ rfl ?_
  intro g' cap' w5 hown5 hgr5 hat5 hlt5 hkept5
  refine cont g' cap' w5 (by unfold PdAt; rw [List.length_append, List.length_singleton, pvs_snoc]; exact hown5) (below_alloc_grownA hgr5 hB (fun g e => (h.ltA g e).1)) (offA_grown hgr5) ?_
  rcases hat5 with h1 | h1
  · left
    exact own_addr h h1
  · right; simp at h1; omega
end
/-- What readConfig answers. -/
def RCOut (bs : List Nat) (w : World) (e : Ending) (w' : World) : Prop := ∃ (g tc gp pc : Nat) (hs : List Value), e = .returned (cfv (some ⟨g, 0, none⟩) 25 tc (some ⟨gp, 0, none⟩) 3 pc) ∧ CfAt w' w.heap.size (rdTs fP bs 25) (rdPs fP bs 3) hs (some ⟨g, 0, none⟩) tc (some ⟨gp, 0, none⟩) pc ∧ Below w.heap.size w w'
set_option maxRecDepth 10000 in
set_option maxHeartbeats 3200000 in
theorem readC_any (b o c : Nat) (bs : List Nat) (w : World) (hby : ∀ k, k < 333 → w.cell? ⟨b, o + k, none⟩ = some (.int .u8 (bs.getD k 0 : Nat))) (hb : b < w.heap.size) (hc : 333 ≤ c ∧ c ≤ maxLen) (hu : ∀ k, k < 333 → bs.getD k 0 < 256) :
    Calls Try.prog 71 #[.slice (some ⟨b, o, none⟩) 333 c] w (RCOut bs w) := by
  obtain ⟨w0, hw0⟩ : ∃ w0, w0 = ((w.alloc (.cells #[.slice none 0 0, .slice none 0 0] 26)).alloc (.cells #[.slice none 0 0, .slice none 0 0] 26)).alloc (.cells #[.slice (some ⟨b, o, none⟩) 333 c] 144) := ⟨_, rfl⟩
  have hz0 : w0.heap.size = w.heap.size + 3 := by rw [hw0]; simp
  have HB0 : Hid (EBox w w0 none 0 0 none 0 0) := Lib.hid (by rw [hw0]; exact ⟨row_o2' w _ _ _ _, row_m2 w _ _ _ _⟩)
  have HL0 : Hid (Below w.heap.size w w0) := Lib.hid (by rw [hw0]; exact (((Below.refl _ w).alloc (Nat.le_refl _) _).alloc (by simp) _).alloc (by simp; omega) _)
  have HS0 : Hid (RdSt w0 (w.heap.size + 2) b o c (13 * 0) bs) := Lib.hid ⟨by rw [hw0]; exact row_m3 w _ _ _ _, fun k hk => (HL0.out.cell (p := ⟨b, o + k, none⟩) hb).trans (hby k hk), by omega, hc, hu⟩
  clear hby hc hu
  go_enter Try.func71, Try.ntmps71
  go_upto_region 2 with fail
  change Code.wp _ _ _ _ (((w.alloc (.cells #[.slice none 0 0, .slice none 0 0] 26)).alloc (.cells #[.slice none 0 0, .slice none 0 0] 26)).alloc (.cells #[.slice (some ⟨b, o, none⟩) 333 c] 144))
  rw [← hw0]
  clear hw0
  have hz0' : w.heap.size + 3 ≤ w0.heap.size := by omega
  clear hz0
  go_wp2
  go_loopw [8] (fun iv wr => ∃ (k : Nat) (A : Option Addr) (tc : Nat) (hs : List Value), k ≤ 25 ∧ iv = .int .i64 k ∧ Hid (EBox w wr A k tc none 0 0) ∧ Hid (RdSt wr (w.heap.size + 2) b o c (13 * k) bs) ∧ Hid (TlAt wr (w.heap.size + 3) (rdTs fP bs k) hs A tc) ∧ Hid (DistH hs ∧ HdsLt hs wr.heap.size) ∧ w.heap.size + 3 ≤ wr.heap.size ∧ Hid (Below w.heap.size w wr)) (fun iv _ => 25 - (intOf iv).toNat)
  case atStart => exact ⟨0, none, 0, [], by omega, rfl, HB0, HS0, Lib.hid (TlAt.nil _ _), Lib.hid ⟨DistH.nil, fun u hu => by simp at hu⟩, hz0', HL0⟩
  case round =>
    clear HB0 HL0 HS0 hz0'
    obtain ⟨k, A, tc, hs, hk, rfl, HB, HS, HT, HD, hzr, HL⟩ := hrel
    by_cases hlt : k < 25
    · have c0 := HB.out.r1.cell 0
      have f0 := HB.out.r1.frozen 0
      simp at c0
      have hHz : w.heap.size + 1 < wr.heap.size := by omega
      have hrz : w.heap.size + 2 < wr.heap.size := by omega
      have HFR : Hid (∀ w' : World, KpR (w.heap.size + 2) wr.drew w' → w'.cell? ⟨w.heap.size + 1, 0, none⟩ = some (.slice A k tc) ∧ w'.frozen? ⟨w.heap.size + 1, 0, none⟩ = false) := Lib.hid (fun w' h => by
        have h1 := h.keep (w.heap.size + 1) hHz (by omega)
        exact ⟨(World.cell?_of_block (a := ⟨w.heap.size + 1, 0, none⟩) h1).trans c0, (World.frozen?_of_block (a := ⟨w.heap.size + 1, 0, none⟩) h1).trans f0⟩)
      obtain ⟨v0, hv0⟩ : ∃ v0, bs.getD (13 * k) 0 = v0 := ⟨_, rfl⟩
      obtain ⟨v4, hv4⟩ : ∃ v4, bs.getD (13 * k + 1 + 3) 0 = v4 := ⟨_, rfl⟩
      have HV0 := Lib.hid hv0
      have HV4 := Lib.hid hv4
      have HSd := Lib.hid (RdSt.mk (w := wr.drew) HS.out.box HS.out.byt HS.out.lt HS.out.cap HS.out.u8)
      have HTd := Lib.hid (show TlAt wr.drew (w.heap.size + 3) (rdTs fP bs k) hs A tc from HT.out)
      clear hv0 hv4
      have hnA : NotB A (w.heap.size + 1) := (fun e => absurd (HT.out.ltA _ e).1 (by omega))
      go_upto_region 4 with fail
      rw [lateLd_of 23 (.tmp 10)]
      go_region_held3 (fun _ => True) (exact trivial)
        (first
          | (go_at_call 110; go_fit (number_any (w.heap.size + 2) b o c (13 * k) v0 bs wr.drew HSd.out (by omega) HV0.out); rintro e w3 ⟨rfl, hs3, ho3⟩; have hk3 := KpR.only ho3 hrz; obtain ⟨hS3, hf3⟩ := HFR.out w3 hk3)
          | (go_at_call 111; go_fit (numbers_any (w.heap.size + 2) b o c (13 * k + 1) 3 bs w3 hs3 (by omega) (by omega)); rintro e w4 ⟨rfl, hi4, hs4, hk4'⟩; have hk4 := hk3.trans hk4'; obtain ⟨hS4, hf4⟩ := HFR.out w4 hk4)
          | (go_at_call 112; go_fit (flag_r_any (w.heap.size + 2) b o c (13 * k + 1 + 3) v4 bs w4 hs4 (by omega) HV4.out); rintro e w5 ⟨rfl, hs5, ho5⟩; have hk5' := KpR.only ho5 hs4.box.lt; have hk5 := hk4.trans hk5'; obtain ⟨hS5, hf5⟩ := HFR.out w5 hk5)
          | (go_at_call 111; go_fit (numbers_any (w.heap.size + 2) b o c (13 * k + 1 + 3 + 1) 8 bs w5 hs5 (by omega) (by omega)); rintro e w6 ⟨rfl, hi6, hs6, hk6'⟩; have hk6 := hk5.trans hk6'; obtain ⟨hS6, hf6⟩ := HFR.out w6 hk6; obtain ⟨ht6, hx1, hx2, ⟨z1, z2, z3, z4⟩⟩ := rd_tile HTd.out hzr (by omega) hk3 hi4 hk4' hk5' hi6 hk6'; have hH6 : w.heap.size + 1 < w6.heap.size := (by omega); have c6o := (fun o => (World.cell?_alloc_lt w6 o ⟨w.heap.size + 1, 0, none⟩ hH6).trans hS6))
          | (refine step_pushTl (by rfl) _ _ (by rfl) w6 (w.heap.size + 3) tc k A (rdTs fP bs k) hs (by rfl) (rdTs_len _ _ _) ht6 (by omega) z1 (v0 : Int) (some ⟨w3.heap.size, 0, none⟩) 3 3 (rdN bs (13 * k + 1) 3) (fP v4) (some ⟨w5.heap.size, 0, none⟩) 8 8 (rdN bs (13 * k + 1 + 3 + 1) 8) (by rfl) (rdN_len _ _ _) (rdN_len _ _ _) hx1 hx2 (by omega) (by omega) ?_; intro g' cap' w7 hT7 hb7 hk7 hg7; have c7 := (World.cell?_of_block (a := ⟨w.heap.size + 1, 0, none⟩) (hk7 _ (by show w.heap.size + 1 < _; omega) hnA)).trans hS6; have f7 := (World.frozen?_of_block (a := ⟨w.heap.size + 1, 0, none⟩) (hk7 _ (by show w.heap.size + 1 < _; omega) hnA)).trans hf6))
      all_goals
        have hb06 : Below (w.heap.size + 2) wr w6 := (Below.refl (w.heap.size + 2) wr).drew.trans hk6.below
        have HE7 : Hid (EBox w w7 A k tc none 0 0) := Lib.hid (HB.out.on (fun q hq => (hk7 q (by omega) (fun e => absurd (HT.out.ltA _ e).1 (by omega))).trans (hk6.keep q (by show q < wr.heap.size; omega) (by omega))))
        have hz7 := hb7.size
        have HE8 := Lib.hid (HE7.out.setT (some ⟨g', 0, none⟩) (k + 1) cap')
        have hs7 : RdSt w7 (w.heap.size + 2) b o c (13 * k + 1 + 3 + 1 + 8) bs := hs6.keep (hk7 _ (by omega) (fun e => absurd (HT.out.ltA _ e).1 (by omega))) (hk7 _ (by omega) (fun e => absurd (HT.out.ltA _ e).1 (by omega)))
        have HS8 : Hid (RdSt (w7.setCell ⟨w.heap.size + 1, 0, none⟩ (.slice (some ⟨g', 0, none⟩) (k + 1) cap')) (w.heap.size + 2) b o c (13 * (k + 1)) bs) := Lib.hid (by rw [show 13 * (k + 1) = 13 * k + 1 + 3 + 1 + 8 by omega]; exact hs7.keep (Below.heap_setCell _ _ _ _ (by show w.heap.size + 2 ≠ w.heap.size + 1; omega)) (Below.heap_setCell _ _ _ _ (by show b ≠ w.heap.size + 1; omega)))
        have HRE : Hid (rdTs fP bs k ++ [((v0 : Int), rdN bs (13 * k + 1) 3, fP v4, rdN bs (13 * k + 1 + 3 + 1) 8)] = rdTs fP bs (k + 1)) := Lib.hid (by rw [rdTs_succ]; unfold rdT; rw [HV0.out, show 13 * k + 4 = 13 * k + 1 + 3 by omega, HV4.out, show 13 * k + 5 = 13 * k + 1 + 3 + 1 by omega])
        have hT8 := hT7.set ⟨w.heap.size + 1, 0, none⟩ (by show w.heap.size + 1 < w.heap.size + 3; omega) (.slice (some ⟨g', 0, none⟩) (k + 1) cap')
        rw [HRE.out] at hT8
        have HT8 := Lib.hid hT8
        have hz8 : (w7.setCell ⟨w.heap.size + 1, 0, none⟩ (.slice (some ⟨g', 0, none⟩) (k + 1) cap')).heap.size = w7.heap.size := by simp [World.setCell]
        have HD8 : Hid (DistH (hs ++ tlv (v0 : Int) (some ⟨w3.heap.size, 0, none⟩) 3 3 (fP v4) (some ⟨w5.heap.size, 0, none⟩) 8 8) ∧ HdsLt (hs ++ tlv (v0 : Int) (some ⟨w3.heap.size, 0, none⟩) 3 3 (fP v4) (some ⟨w5.heap.size, 0, none⟩) 8 8) (w7.setCell ⟨w.heap.size + 1, 0, none⟩ (.slice (some ⟨g', 0, none⟩) (k + 1) cap')).heap.size) := Lib.hid ⟨dist_snoc_tl HD.out.1 HD.out.2 (by omega) (by omega) (by omega), by rw [hz8]; exact (HD.out.2.mono z3).snoc (by omega) (by omega) (by omega)⟩
        have hzz : w.heap.size + 3 ≤ (w7.setCell ⟨w.heap.size + 1, 0, none⟩ (.slice (some ⟨g', 0, none⟩) (k + 1) cap')).heap.size := by rw [hz8]; omega
        have HL8 := Lib.hid (((HL.out.trans (hb06.mono (by omega))).trans (hb7.mono (by omega))).setCell (p := ⟨w.heap.size + 1, 0, none⟩) (by show w.heap.size ≤ w.heap.size + 1; omega) (.slice (some ⟨g', 0, none⟩) (k + 1) cap'))
        clear hb06 HE7 hs7 HRE hT8 hT7 hb7 hk7 hg7 c7 f7 hz8 hz7 c6o hH6 ht6 hx1 hx2 hS3 hS4 hS5 hS6 hf3 hf4 hf5 hf6 hk3 hk4 hk5 hk6 hk4' hk5' hk6' hs3 hs4 hs5 hs6 hi4 hi6 ho3 ho5 z1 z2 z3 z4 HTd HSd HFR HB HS HT HD HL HV0 HV4 c0 f0 hnA hHz hrz
        go_wp2
        go_roundw
        case rel => exact ⟨k + 1, some ⟨g', 0, none⟩, cap', _, by omega, by go_num, HE8, HS8, HT8, HD8, hzz, HL8⟩
        case measure => simp [intOf]; omega
    · obtain rfl : k = 25 := by omega
      obtain ⟨g, rfl⟩ := HT.out.ptr (by rw [rdTs_len]; omega)
      rw [show ((25 : Nat) : Int) = 25 from rfl]
      clear hlt hk
      obtain ⟨w8, h8⟩ : ∃ w8, w8 = wr := ⟨_, rfl⟩
      subst h8
      have HT8 := HT
      have HS8 : Hid (RdSt w8 (w.heap.size + 2) b o c (325 + 2 * 0) bs) := HS
      clear HT HS
      go_wp2
      go_loopw [21] (fun iv wr => ∃ (j : Nat) (PA : Option Addr) (pc : Nat), j ≤ 3 ∧ iv = .int .i64 j ∧ Hid (EBox w wr (some ⟨g, 0, none⟩) 25 tc PA j pc) ∧ Hid (RdSt wr (w.heap.size + 2) b o c (325 + 2 * j) bs) ∧ Hid (∀ q, w.heap.size + 3 ≤ q → q < w8.heap.size → wr.heap[q]? = w8.heap[q]?) ∧ Hid (PdAt wr w8.heap.size (rdPs fP bs j) PA pc) ∧ w.heap.size + 3 ≤ w8.heap.size ∧ w8.heap.size ≤ wr.heap.size ∧ Hid (Below w.heap.size w wr)) (fun iv _ => 3 - (intOf iv).toNat)
      case atStart => exact ⟨0, none, 0, by omega, rfl, HB, HS8, Lib.hid (fun _ _ _ => rfl), Lib.hid (PdAt.nil _ _), hzr, Nat.le_refl _, HL⟩
      case round =>
        clear HB HS8 HL
        obtain ⟨j, PA, pc, hj, rfl, HB, HS, HK, HP, hzr, hzx, HL⟩ := hrel
        by_cases hlt : j < 3
        · have c1 := HB.out.r1.cell 1
          have f1 := HB.out.r1.frozen 1
          simp at c1
          have hHz : w.heap.size + 1 < wr.heap.size := by omega
          have hrz : w.heap.size + 2 < wr.heap.size := by omega
          have HFR : Hid (∀ w' : World, KpR (w.heap.size + 2) wr.drew w' → w'.cell? ⟨w.heap.size + 1, 1, none⟩ = some (.slice PA j pc) ∧ w'.frozen? ⟨w.heap.size + 1, 1, none⟩ = false) := Lib.hid (fun w' h => by
            have h1 := h.keep (w.heap.size + 1) hHz (by omega)
            exact ⟨(World.cell?_of_block (a := ⟨w.heap.size + 1, 1, none⟩) h1).trans c1, (World.frozen?_of_block (a := ⟨w.heap.size + 1, 1, none⟩) h1).trans f1⟩)
          obtain ⟨v0, hv0⟩ : ∃ v0, bs.getD (325 + 2 * j) 0 = v0 := ⟨_, rfl⟩
          obtain ⟨v4, hv4⟩ : ∃ v4, bs.getD (325 + 2 * j + 1) 0 = v4 := ⟨_, rfl⟩
          have HV0 := Lib.hid hv0
          have HV4 := Lib.hid hv4
          have HSd := Lib.hid (RdSt.mk (w := wr.drew) HS.out.box HS.out.byt HS.out.lt HS.out.cap HS.out.u8)
          have HPd := Lib.hid (show PdAt wr.drew w8.heap.size (rdPs fP bs j) PA pc from HP.out)
          have hnA : NotB PA (w.heap.size + 1) := (fun e => absurd (HP.out.ltA _ e).1 (by omega))
          clear hv0 hv4
          go_upto_region 8 with fail
          rw [lateLd_of 24 (.tmp 23)]
          go_region_held3 (fun _ => True) (exact trivial)
            (first
              | (go_at_call 110; go_fit (number_any (w.heap.size + 2) b o c (325 + 2 * j) v0 bs wr.drew HSd.out (by omega) HV0.out); rintro e w3 ⟨rfl, hs3, ho3⟩; have hk3 := KpR.only ho3 hrz; obtain ⟨hS3, hf3⟩ := HFR.out w3 hk3)
              | (go_at_call 112; go_fit (flag_r_any (w.heap.size + 2) b o c (325 + 2 * j + 1) v4 bs w3 hs3 (by omega) HV4.out); rintro e w5 ⟨rfl, hs5, ho5⟩; have hk5' := KpR.only ho5 hs3.box.lt; have hk5 := hk3.trans hk5'; obtain ⟨hS5, hf5⟩ := HFR.out w5 hk5; have hz5 : wr.heap.size ≤ w5.heap.size := hk5.below.size; have hH5 : w.heap.size + 1 < w5.heap.size := (by omega); have c5o := (fun o => (World.cell?_alloc_lt w5 o ⟨w.heap.size + 1, 1, none⟩ hH5).trans hS5); have hp5 := PdAt.keep HPd.out (fun q h1 h2 => hk5.keep q h2 (by omega)))
              | (refine step_pushPd (by rfl) _ _ (by rfl) w5 w8.heap.size pc j PA (rdPs fP bs j) (by rfl) (rdPs_len _ _ _) hp5 (by omega) (by omega) (v0 : Int) (fP v4) (by rfl) ?_; intro g' cap' w7 hP7 hb7 hk7 hg7; have c7 := (World.cell?_of_block (a := ⟨w.heap.size + 1, 1, none⟩) (hk7 _ (by show w.heap.size + 1 < _; omega) hnA)).trans hS5; have f7 := (World.frozen?_of_block (a := ⟨w.heap.size + 1, 1, none⟩) (hk7 _ (by show w.heap.size + 1 < _; omega) hnA)).trans hf5))
          all_goals
            have hb05 : Below (w.heap.size + 2) wr w5 := (Below.refl (w.heap.size + 2) wr).drew.trans hk5.below
            have hnq : ∀ q, q < w8.heap.size → NotB PA q := fun q hq e => absurd (HP.out.ltA _ e).1 (by omega)
            have HE7 : Hid (EBox w w7 (some ⟨g, 0, none⟩) 25 tc PA j pc) := Lib.hid (HB.out.on (fun q hq => (hk7 q (by omega) (hnq q (by omega))).trans (hk5.keep q (by show q < wr.heap.size; omega) (by omega))))
            have hz7 := hb7.size
            have HE8 := Lib.hid (HE7.out.setP (some ⟨g', 0, none⟩) (j + 1) cap')
            have hs7 : RdSt w7 (w.heap.size + 2) b o c (325 + 2 * j + 1 + 1) bs := hs5.keep (hk7 _ (by omega) (hnq _ (by omega))) (hk7 _ (by omega) (hnq _ (by omega)))
            have HS8 : Hid (RdSt (w7.setCell ⟨w.heap.size + 1, 1, none⟩ (.slice (some ⟨g', 0, none⟩) (j + 1) cap')) (w.heap.size + 2) b o c (325 + 2 * (j + 1)) bs) := Lib.hid (by rw [show 325 + 2 * (j + 1) = 325 + 2 * j + 1 + 1 by omega]; exact hs7.keep (Below.heap_setCell _ _ _ _ (by show w.heap.size + 2 ≠ w.heap.size + 1; omega)) (Below.heap_setCell _ _ _ _ (by show b ≠ w.heap.size + 1; omega)))
            have HRE : Hid (rdPs fP bs j ++ [((v0 : Int), fP v4)] = rdPs fP bs (j + 1)) := Lib.hid (by rw [rdPs_succ]; unfold rdP; rw [HV0.out, HV4.out])
            have hP8 := hP7.set ⟨w.heap.size + 1, 1, none⟩ (by show w.heap.size + 1 < w8.heap.size; omega) (.slice (some ⟨g', 0, none⟩) (j + 1) cap')
            rw [HRE.out] at hP8
            have HP8 := Lib.hid hP8
            have HK8 : Hid (∀ q, w.heap.size + 3 ≤ q → q < w8.heap.size → (w7.setCell ⟨w.heap.size + 1, 1, none⟩ (.slice (some ⟨g', 0, none⟩) (j + 1) cap')).heap[q]? = w8.heap[q]?) := Lib.hid (fun q h1 h2 => (Below.heap_setCell _ _ _ _ (by show q ≠ w.heap.size + 1; omega)).trans ((hk7 q (by omega) (hnq q h2)).trans ((hk5.keep q (by show q < wr.heap.size; omega) (by omega)).trans (HK.out q h1 h2))))
            have hzz : w8.heap.size ≤ (w7.setCell ⟨w.heap.size + 1, 1, none⟩ (.slice (some ⟨g', 0, none⟩) (j + 1) cap')).heap.size := by simp [World.setCell]; omega
            have HL8 := Lib.hid (((HL.out.trans (hb05.mono (by omega))).trans (hb7.mono (by omega))).setCell (p := ⟨w.heap.size + 1, 1, none⟩) (by show w.heap.size ≤ w.heap.size + 1; omega) (.slice (some ⟨g', 0, none⟩) (j + 1) cap'))
            clear hb05 HE7 hs7 HRE hP8 hP7 hb7 hk7 hg7 c7 f7 hz7 c5o hH5 hp5 hS3 hS5 hf3 hf5 hk3 hk5 hk5' hs3 hs5 ho3 ho5 hz5 HPd HSd HFR HB HS HP HK HL HV0 HV4 c1 f1 hnA hHz hrz hnq
            go_wp2
            go_roundw
            case rel => exact ⟨j + 1, some ⟨g', 0, none⟩, cap', by omega, by go_num, HE8, HS8, HK8, HP8, hzr, hzz, HL8⟩
            case measure => simp [intOf]; omega
        · obtain rfl : j = 3 := by omega
          obtain ⟨gp, rfl⟩ := HP.out.ptr (by rw [rdPs_len]; omega)
          have c0 := HB.out.r1.cell 0
          have c1 := HB.out.r1.cell 1
          have d0 := HB.out.r0.cell 0
          have d1 := HB.out.r0.cell 1
          have e0 := HB.out.r0.frozen 0
          have e1 := HB.out.r0.frozen 1
          simp at c0 c1 d0 d1
          have HT9 := HT8.out.keep (w' := wr) (fun b h1 h2 => HK.out b h1 h2) hzx
          have hR0 := (HB.out.r0.set 0 (.slice (some ⟨g, 0, none⟩) 25 tc)).set 1 (.slice (some ⟨gp, 0, none⟩) 3 pc)
          have HCF : Hid (CfAt ((wr.setCell ⟨w.heap.size, 0, none⟩ (.slice (some ⟨g, 0, none⟩) 25 tc)).setCell ⟨w.heap.size, 1, none⟩ (.slice (some ⟨gp, 0, none⟩) 3 pc)) w.heap.size (rdTs fP bs 25) (rdPs fP bs 3) hs (some ⟨g, 0, none⟩) tc (some ⟨gp, 0, none⟩) pc) := Lib.hid ⟨((HT9.set ⟨w.heap.size, 0, none⟩ (by show w.heap.size < w.heap.size + 3; omega) _).set ⟨w.heap.size, 1, none⟩ (by show w.heap.size < w.heap.size + 3; omega) _).low (by omega), ((HP.out.set ⟨w.heap.size, 0, none⟩ (by show w.heap.size < w8.heap.size; omega) _).set ⟨w.heap.size, 1, none⟩ (by show w.heap.size < w8.heap.size; omega) _).low (by omega), HD.out.1⟩
          have HLf := Lib.hid ((HL.out.setCell (p := ⟨w.heap.size, 0, none⟩) (by show w.heap.size ≤ w.heap.size; omega) (.slice (some ⟨g, 0, none⟩) 25 tc)).setCell (p := ⟨w.heap.size, 1, none⟩) (by show w.heap.size ≤ w.heap.size; omega) (.slice (some ⟨gp, 0, none⟩) 3 pc))
          have t0 := hR0.cell 0
          have t1 := hR0.cell 1
          simp at t0 t1
          clear HK HP HL HT9 hR0 HT8 HS
          go_wp2
          exact bodyPost_ret (v := cfv (some ⟨g, 0, none⟩) 25 tc (some ⟨gp, 0, none⟩) 3 pc) (by simp [results, Try.results71, go_sem, t0, t1]) rfl ⟨g, tc, gp, pc, hs, rfl, HCF.out, HLf.out⟩
end Go.Proofs.Ytkkkkalgfmddbaa
/- The contract of the program's DecodeConfig. -/
namespace Go.Proofs.Ytkkkkalgfmddbaa
open Go.RowKit Go.Deep Cut

/-- Bytes as numbers. -/
def ints (bs : List Nat) : List Int := bs.map fun (x : Nat) => (x : Int)
theorem ints_len (bs : List Nat) : (ints bs).length = bs.length := by simp [ints]
theorem ints_get (bs : List Nat) (k : Nat) : (ints bs).getD k 0 = ((bs.getD k 0 : Nat) : Int) := by
  unfold ints
  rw [List.getD_eq_getElem?_getD, List.getElem?_map, List.getD_eq_getElem?_getD]
  cases bs[k]? <;> rfl
theorem bytesOf_ints {us bs : List Nat} (ha : ∀ y ∈ us, y < 256) (hb : ∀ y ∈ bs, y < 256) : (Lib.bytesOf (ints us) == Lib.bytesOf (ints bs)) = decide (us = bs) := by
  by_cases h : us = bs
  · subst h
    simp
  · rw [decide_eq_false h, beq_eq_false_iff_ne]
    intro e
    apply h
    unfold Lib.bytesOf ints at e
    rw [List.map_map, List.map_map] at e
    have hl := congrArg List.length e
    simp only [List.length_map] at hl
    apply List.ext_getElem hl
    intro i h1 h2
    have e1 := congrArg (fun l => l[i]?) e
    simp only [List.getElem?_map, List.getElem?_eq_getElem h1, List.getElem?_eq_getElem h2, Option.map_some, Option.some.injEq] at e1
    have a1 := ha _ (List.getElem_mem h1)
    have a2 := hb _ (List.getElem_mem h2)
    have e2 := congrArg UInt8.toNat e1
    simp at e2
    omega
theorem BysIn.lib {w : World} {B : Nat} {A : Option Addr} {bs : List Nat} (h : BysIn w B A bs) : Lib.BytesIn w A bs.length (ints bs) := fun hn => by
  obtain ⟨b, off, e, _, _⟩ := h 0 hn
  subst e
  refine ⟨b, off, rfl, fun i hi => ?_⟩
  obtain ⟨b2, off2, e2, _, h2⟩ := h i hi
  injection e2 with e2
  injection e2 with x1 x2
  subst x1 x2
  rw [ints_get]
  exact h2
theorem enc_lt {ts : List Tl} {ps : List Pd} (h : cfOk ts ps = true) : ∀ y ∈ enc ts ps, y < 256 := fun y hy => by
  unfold enc sumB at hy
  rw [List.mem_append] at hy
  rcases hy with hy | hy
  · exact enB_lt h y hy
  · have hs : Ck.ck 1 (enTs ts ++ enPs ps) < 65521 := Ck.ck_lt (by omega) _
    simp only [List.mem_cons, List.not_mem_nil, or_false] at hy
    rcases hy with rfl | rfl <;> omega
theorem encS_lt (ts : List Tl) (ps : List Pd) : ∀ y ∈ encS ts ps, y < 256 := fun y hy => by
  unfold encS at hy
  by_cases h : cfOk ts ps = true
  · rw [if_pos h] at hy; exact enc_lt h y hy
  · rw [if_neg h] at hy; simp at hy
theorem getD_all_n {bs : List Nat} {n : Nat} (h : ∀ y ∈ bs, y < 256) (hn : bs.length = n) : ∀ j, j < n → bs.getD j 0 < 256 := fun j hj => getD_all h j (by omega)
/-- What decoding answers. -/
def okD (bs : List Nat) : Bool := decide (bs.length = 333) && dec fP bs
def IDOut (bs : List Nat) (w : World) (e : Ending) (w' : World) : Prop :=
  (if okD bs = true then ∃ (g tc gp pc : Nat) (hs : List Value), e = .returned (.tuple #[cfv (some ⟨g, 0, none⟩) 25 tc (some ⟨gp, 0, none⟩) 3 pc, .bool true]) ∧ CfAt w' w.heap.size (rdTs fP bs 25) (rdPs fP bs 3) hs (some ⟨g, 0, none⟩) tc (some ⟨gp, 0, none⟩) pc
  else e = .returned (.tuple #[cfv none 0 0 none 0 0, .bool false])) ∧ Below w.heap.size w w'
set_option maxRecDepth 10000 in
set_option maxHeartbeats 1600000 in
theorem idec_any (A : Option Addr) (n c : Nat) (bs : List Nat) (w : World) (hx : BysIn w w.heap.size A bs) (hn : bs.length = n) (hc : n ≤ c ∧ c ≤ maxLen) (hu : ∀ y ∈ bs, y < 256) :
    Calls Try.prog 21 #[.slice A n c] w (IDOut bs w) := by
  obtain ⟨w0, hw0⟩ : ∃ w0, w0 = w.alloc (.cells #[.slice none 0 0, .slice none 0 0] 26) := ⟨_, rfl⟩
  have hb0 : Below w.heap.size w w0 := by rw [hw0]; exact (Below.refl _ _).alloc (Nat.le_refl _) _
  have hR0 : Row w0 w.heap.size 26 #[.slice none 0 0, .slice none 0 0] := by rw [hw0]; exact row_new w _ _
  have hz0 : w0.heap.size = w.heap.size + 1 := by rw [hw0]; simp
  have hmax := hc.2
  unfold maxLen at hmax
  by_cases h333 : n = 333
  · subst h333
    obtain ⟨b, off, rfl, hbl, _⟩ := hx 0 (by omega)
    have HX0 := Lib.hid ((hx.below hb0).mono hb0.size)
    have HRC := Lib.hid (readC_any b off c bs w0 (fun k hk => by
      obtain ⟨b2, off2, e2, _, h2⟩ := (hx.below hb0) k (by omega)
      injection e2 with e2
      injection e2 with x1 x2
      subst x1 x2
      exact h2) (by omega) hc (getD_all_n hu hn))
    have HB0 := Lib.hid hb0
    have HR0 := Lib.hid hR0
    have HN := Lib.hid hn
    have HU := Lib.hid hu
    clear hx hb0 hR0 hn hu
    go_enter Try.func21, Try.ntmps21
    go_wp2_with fail
    rw [← hw0]
    refine HRC.out.mono ?_
    rintro e w1 ⟨g, tc, gp, pc, hs, rfl, hcf, hb1⟩
    have hb2 : Below w1.heap.size w1 (w1.alloc (.cells #[.slice (some ⟨g, 0, none⟩) 25 tc, .slice (some ⟨gp, 0, none⟩) 3 pc] 26)) := (Below.refl _ _).alloc (Nat.le_refl _) _
    have HK2 := Lib.hid (row_new w1 26 #[.slice (some ⟨g, 0, none⟩) 25 tc, .slice (some ⟨gp, 0, none⟩) 3 pc])
    have hz1 := hb1.size
    have HCF2 := Lib.hid (hcf.on hb2)
    have HR2 := Lib.hid ((HR0.out.below hb1 HR0.out.lt).below hb2 (by have := HR0.out.lt; omega))
    have HB2 := Lib.hid ((HB0.out.trans (hb1.mono (by omega))).trans (hb2.mono (by omega)))
    have HX2 := Lib.hid ((HX0.out.on hb1).on hb2)
    have HEN := Lib.hid (ienc_any _ _ 25 tc 3 pc (rdTs fP bs 25) (rdPs fP bs 3) (w1.alloc (.cells #[.slice (some ⟨g, 0, none⟩) 25 tc, .slice (some ⟨gp, 0, none⟩) 3 pc] 26)) HCF2.out.tl.read HCF2.out.pd.read (rdTs_len _ _ _) (rdPs_len _ _ _) (rdTs_bd _ _) (by omega))
    clear HRC HB0 HR0 HX0 hb1 hb2 hcf
    go_wp2_with fail
    obtain ⟨w2, hw2⟩ : ∃ w2, w2 = w1.alloc (.cells #[.slice (some ⟨g, 0, none⟩) 25 tc, .slice (some ⟨gp, 0, none⟩) 3 pc] 26) := ⟨_, rfl⟩
    rw [← hw2] at HK2 HCF2 HR2 HB2 HX2 HEN
    rw [← hw2]
    clear hw2
    obtain ⟨k1, hk1⟩ : ∃ k1, k1 = w1.heap.size := ⟨_, rfl⟩
    rw [← hk1] at HK2 hz1
    rw [← hk1]
    clear hk1
    refine HEN.out.mono ?_
    intro e w3 hie
    obtain ⟨⟨AE, ce, rfl, hes⟩, hb3⟩ := hie.s
    clear hie HEN
    obtain ⟨nE, hnE⟩ : ∃ nE, (encS (rdTs fP bs 25) (rdPs fP bs 3)).length = nE := ⟨_, rfl⟩
    have HQ := Lib.hid (bytesEq_any AE (some ⟨b, off, none⟩) nE ce 333 c (ints (encS (rdTs fP bs 25) (rdPs fP bs 3))) (ints bs) w3 (by rw [ints_len, hnE]) (by rw [ints_len, HN.out]) (by rw [← hnE]; exact hes.read.lib) (by rw [← HN.out]; exact (HX2.out.on hb3).lib))
    rw [bytesOf_ints (encS_lt _ _) HU.out] at HQ
    rw [hnE]
    have HK3 := Lib.hid (HK2.out.below hb3 HK2.out.lt)
    have HR3 := Lib.hid (HR2.out.below hb3 HR2.out.lt)
    have HCF3 := Lib.hid (HCF2.out.on hb3)
    have HB3 := Lib.hid (HB2.out.trans (hb3.mono HB2.out.size))
    clear HK2 HR2 HCF2 HB2 hb3 hes hnE HX2
    go_wp2_with fail
    refine HQ.out.mono ?_
    rintro e w4 ⟨rfl, rfl⟩
    have hok : okD bs = decide (encS (rdTs fP bs 25) (rdPs fP bs 3) = bs) := by unfold okD dec; rw [HN.out]; simp
    rw [← hok]
    clear HQ
    have d0 := HR3.out.cell 0
    have d1 := HR3.out.cell 1
    have e0 := HR3.out.frozen 0
    have e1 := HR3.out.frozen 1
    have c0 := HK3.out.cell 0
    have c1 := HK3.out.cell 1
    simp at d0 d1 c0 c1
    cases hq : okD bs
    · have HQ := Lib.hid hq
      have hR4 := (HR3.out.set 0 (.slice none 0 0)).set 1 (.slice none 0 0)
      have t0 := hR4.cell 0
      have t1 := hR4.cell 1
      simp at t0 t1
      have HL4 := Lib.hid ((HB3.out.setCell (p := ⟨w.heap.size, 0, none⟩) (Nat.le_refl _) (.slice none 0 0)).setCell (p := ⟨w.heap.size, 1, none⟩) (Nat.le_refl _) (.slice none 0 0))
      clear hR4 hq hok
      go_wp2
      exact bodyPost_ret (v := .tuple #[cfv none 0 0 none 0 0, .bool false]) (by simp [results, Try.results21, go_sem, t0, t1]) rfl ⟨by rw [if_neg (by rw [HQ.out]; simp)], HL4.out⟩
    · have HQ := Lib.hid hq
      have hR4 := (HR3.out.set 0 (.slice (some ⟨g, 0, none⟩) 25 tc)).set 1 (.slice (some ⟨gp, 0, none⟩) 3 pc)
      have t0 := hR4.cell 0
      have t1 := hR4.cell 1
      simp at t0 t1
      have HL4 := Lib.hid ((HB3.out.setCell (p := ⟨w.heap.size, 0, none⟩) (Nat.le_refl _) (.slice (some ⟨g, 0, none⟩) 25 tc)).setCell (p := ⟨w.heap.size, 1, none⟩) (Nat.le_refl _) (.slice (some ⟨gp, 0, none⟩) 3 pc))
      clear hR4 hq hok
      go_wp2
      have hlt : w.heap.size < w0.heap.size := by omega
      have HCF4 : Hid (CfAt ((w4.setCell ⟨w.heap.size, 0, none⟩ (.slice (some ⟨g, 0, none⟩) 25 tc)).setCell ⟨w.heap.size, 1, none⟩ (.slice (some ⟨gp, 0, none⟩) 3 pc)) w.heap.size (rdTs fP bs 25) (rdPs fP bs 3) hs (some ⟨g, 0, none⟩) tc (some ⟨gp, 0, none⟩) pc) := Lib.hid ⟨((HCF3.out.tl.set ⟨w.heap.size, 0, none⟩ hlt _).set ⟨w.heap.size, 1, none⟩ hlt _).low (by omega), ((HCF3.out.pd.set ⟨w.heap.size, 0, none⟩ hlt _).set ⟨w.heap.size, 1, none⟩ hlt _).low (by omega), HCF3.out.dist⟩
      exact bodyPost_ret (v := .tuple #[cfv (some ⟨g, 0, none⟩) 25 tc (some ⟨gp, 0, none⟩) 3 pc, .bool true]) (by simp [results, Try.results21, go_sem, t0, t1]) rfl ⟨by rw [if_pos HQ.out]; exact ⟨g, tc, gp, pc, hs, rfl, HCF4.out⟩, HL4.out⟩
  · have HB0 := Lib.hid hb0
    have HQ : Hid (okD bs = false) := Lib.hid (by unfold okD; rw [hn, decide_eq_false h333]; rfl)
    have d0 := hR0.cell 0
    have d1 := hR0.cell 1
    have e0 := hR0.frozen 0
    have e1 := hR0.frozen 1
    simp at d0 d1
    have hne : ((n : Int) == 333) = false := by rw [beq_eq_false_iff_ne]; omega
    have hne2 : ((n : Int) != 333) = true := by rw [bne_iff_ne]; omega
    go_enter Try.func21, Try.ntmps21
    go_wp2
    rw [← hw0]
    exact bodyPost_ret (v := .tuple #[cfv none 0 0 none 0 0, .bool false]) (by simp [results, Try.results21, go_sem, d0, d1]) rfl ⟨by rw [if_neg (by rw [HQ.out]; simp)], HB0.out⟩
end Go.Proofs.Ytkkkkalgfmddbaa
/- The contract of the model's DecodeConfig. -/
namespace Go.Proofs.Ytkkkkalgfmddbaa
open Go.RowKit Go.Deep Cut

section
variable {ops : Array Oper} {rest : List Oper} {o : Oper} {a : Act} {Q : Exit → Act → World → Prop}
/-- One more integer, where the order is drawn. -/
theorem step_pushZ {K : Act → World → Prop} {E : Prop} (hgd : o.guard = none) (s x' : Operand) (ho : o.op = .call { callee := .builtin .append, args := #[s, x'], argTypes := #[31, 31] })
    (wr : World) (B cap n : Nat) (A : Option Addr) (xs : List Int) (hev : a.eval s = .slice A n cap) (hn : xs.length = n) (h : LzAt wr B xs A cap) (hnb : n ≤ 1000) (hB : B ≤ wr.heap.size)
    (v : Int) (hx' : a.eval x' = .slice (some ⟨wr.heap.size, 0, none⟩) 1 1)
    (cont : ∀ g' cap' w5, LzAt w5 B (xs ++ [v]) (some ⟨g', 0, none⟩) cap' → Below B wr w5 → (∀ b, b < wr.heap.size → NotB A b → w5.heap[b]? = wr.heap[b]?) → (A = some ⟨g', 0, none⟩ ∨ wr.heap.size < g') → K (a.put o.dst (.slice (some ⟨g', 0, none⟩) (n + 1) cap')) w5) :
    if Region.wanted o (yielded ops a.tmps) = true then Oper.wp Try.prog o a (wr.alloc (.cells #[.int .i64 v] 3)) K Q else E := by
  subst hn
  obtain ⟨i0, hi0, hz0, hz1, hz2⟩ := info_split Try.info3
  refine step_append_kept _ hgd s x' 31 ho B 3 i0 _ 1 8 Try.underlying31 hi0 hz0 hz1 hz2 rfl (by omega) (.slice A xs.length cap) xs.length (ivs xs) hev (World.ownsRow.alloc h _) ⟨wr.heap.size, 0, none⟩ 1 1 [.int .i64 v] hx' rfl (World.news_of_block (cs := #[.int .i64 v]) (t := 3) (fr := (0, 0)) (heap_alloc_new wr _)) (by simp [Value.oneCell']) (by omega) (by simp [maxLen]; omega) (by omega) (by simp; omega) _ rfl ?_
  intro g' cap' w5 hown5 hgr5 hat5 hlt5 hkept5
  refine cont g' cap' w5 (by unfold LzAt; rw [List.length_append, List.length_singleton, ivs_snocZ]; exact hown5) (below_alloc_grownA hgr5 hB (fun g e => (own_ltA h g e).1)) (offA_grown hgr5) ?_
  rcases hat5 with h1 | h1
  · left
    exact own_addr h h1
  · right; simp at h1; omega
end
/-- What the model's decoding answers. -/
def SDOut (bs : List Nat) (w : World) (e : Ending) (w' : World) : Prop :=
  (if okD bs = true then ∃ (g tc gp pc : Nat) (hs : List Value), e = .returned (.tuple #[cfv (some ⟨g, 0, none⟩) 25 tc (some ⟨gp, 0, none⟩) 3 pc, .bool true]) ∧ CfAt w' w.heap.size (rdTs fM bs 25) (rdPs fM bs 3) hs (some ⟨g, 0, none⟩) tc (some ⟨gp, 0, none⟩) pc
  else e = .returned (.tuple #[cfv none 0 0 none 0 0, .bool false])) ∧ Below w.heap.size w w'
theorem fM_eq (v : Nat) : ((v : Int) == 1) = fM v := by
  unfold fM
  by_cases e : v = 1
  · subst e; rfl
  · rw [beq_eq_false_iff_ne.2 e, beq_eq_false_iff_ne.2 (by omega)]
set_option maxRecDepth 10000 in
set_option maxHeartbeats 6400000 in
theorem sdec_any (A0 : Option Addr) (n c : Nat) (bs : List Nat) (w : World) (hx : BysIn w w.heap.size A0 bs) (hn : bs.length = n) (hc : n ≤ c ∧ c ≤ maxLen) (hu : ∀ y ∈ bs, y < 256) :
    Calls Try.prog 22 #[.slice A0 n c] w (SDOut bs w) := by
  have hmax := hc.2
  unfold maxLen at hmax
  by_cases h333 : n = 333
  · subst h333
    obtain ⟨b, off, rfl, hbl, _⟩ := hx 0 (by omega)
    obtain ⟨w0, hw0⟩ : ∃ w0, w0 = (w.alloc (.cells #[.slice none 0 0, .slice none 0 0] 26)).alloc (.cells #[.slice none 0 0, .slice none 0 0] 26) := ⟨_, rfl⟩
    have HB0 : Hid (EBox w w0 none 0 0 none 0 0) := Lib.hid (by rw [hw0]; exact ⟨row_o1' w _ _ _, row_n1 w _ _ _⟩)
    have HL0 : Hid (Below w.heap.size w w0) := Lib.hid (by rw [hw0]; exact ((Below.refl _ w).alloc (Nat.le_refl _) _).alloc (by simp) _)
    have hz0 : w0.heap.size = w.heap.size + 2 := by rw [hw0]; simp
    have HBY : Hid (∀ k, k < 333 → w.cell? ⟨b, off + k, none⟩ = some (.int .u8 (bs.getD k 0 : Nat))) := Lib.hid (fun k hk => by
      obtain ⟨b2, off2, e2, _, h2⟩ := hx k (by omega)
      injection e2 with e2
      injection e2 with x1 x2
      subst x1 x2
      exact h2)
    have HU8 := Lib.hid (getD_all_n hu hn)
    have HX := Lib.hid hx
    have HN := Lib.hid hn
    have HU := Lib.hid hu
    clear hx hn hu
    go_enter Try.func22, Try.ntmps22
    go_upto_region 5 with fail
    change Code.wp _ _ _ _ ((w.alloc (.cells #[.slice none 0 0, .slice none 0 0] 26)).alloc (.cells #[.slice none 0 0, .slice none 0 0] 26))
    rw [← hw0]
    clear hw0
    have hz0' : w.heap.size + 2 ≤ w0.heap.size := by omega
    clear hz0
    go_wp2
    go_loopw [6, 7] (fun av iv wr => ∃ (k p : Nat) (A : Option Addr) (tc : Nat) (hs : List Value), k ≤ 25 ∧ p = 13 * k ∧ av = .int .i64 p ∧ iv = .int .i64 k ∧ Hid (EBox w wr A k tc none 0 0) ∧ Hid (TlAt wr (w.heap.size + 2) (rdTs fM bs k) hs A tc) ∧ Hid (DistH hs ∧ HdsLt hs wr.heap.size) ∧ w.heap.size + 2 ≤ wr.heap.size ∧ Hid (Below w.heap.size w wr)) (fun _ iv _ => 25 - (intOf iv).toNat)
    case atStart => exact ⟨0, 0, none, 0, [], by omega, rfl, rfl, rfl, HB0, Lib.hid (TlAt.nil _ _), Lib.hid ⟨DistH.nil, fun u hu => by simp at hu⟩, hz0', HL0⟩
    case round =>
      clear HB0 HL0 hz0'
      obtain ⟨k, p, A, tc, hs, hk, hp, rfl, rfl, HB, HT, HD, hzr, HL⟩ := hrel
      obtain ⟨w8, h8⟩ : ∃ w8, w8 = wr := ⟨_, rfl⟩
      subst h8
      by_cases hlt : k < 25
      · have hp333 : p + 13 ≤ 333 := by omega
        obtain ⟨v0, hv0⟩ : ∃ v0, bs.getD p 0 = v0 := ⟨_, rfl⟩
        obtain ⟨v4, hv4⟩ : ∃ v4, bs.getD (p + 1 + 3) 0 = v4 := ⟨_, rfl⟩
        have hv0u := HU8.out p (by omega)
        rw [hv0] at hv0u
        have b0 := (HL.out.cell (p := ⟨b, off + p, none⟩) hbl).trans (HBY.out p (by omega))
        have b4 := (HL.out.cell (p := ⟨b, off + (p + 1 + 3), none⟩) hbl).trans (HBY.out (p + 1 + 3) (by omega))
        rw [hv0] at b0
        rw [hv4] at b4
        have HV0 := Lib.hid hv0
        have HV4 := Lib.hid hv4
        clear hv0 hv4
        have hf4 := fM_eq v4
        have HPK := Lib.hid hp
        clear hp
        have i0 : (0 : Int) ≤ (p : Int) := Int.natCast_nonneg _
        have i1 : (p : Int) < 333 := by omega
        have i2 : (0 : Int) ≤ (p : Int) + 1 + 3 := by omega
        have i3 : (p : Int) + 1 + 3 < 333 := by omega
        have i6 : ((p : Int) + 1 + 3).toNat = p + 1 + 3 := by omega
        have i4 : IntKind.i64.wrap ((p : Int) + 1) = (p : Int) + 1 := IntWalk.i64_in _ (by omega)
        have i5 : IntKind.i64.wrap ((p : Int) + 1 + 3) = (p : Int) + 1 + 3 := IntWalk.i64_in _ (by omega)
        have hi0 : IntKind.i64.wrap (v0 : Int) = (v0 : Int) := IntWalk.i64_in _ (by omega)
        go_upto_region 9 with fail
        go_region_held3 (fun w' => w'.cell? ⟨b, off + p, none⟩ = some (.int .u8 (v0 : Nat)) ∧ w'.cell? ⟨b, off + (p + 1 + 3), none⟩ = some (.int .u8 (v4 : Nat)))
          (first | (with_reducible assumption) | (exact ⟨b0, b4⟩) | go_keep)
          (fail)
        obtain ⟨w2, hw2⟩ : ∃ w2, w2 = (w8.alloc (.cells #[.int .i64 (v0 : Int), .slice none 0 0, .bool (fM v4), .slice none 0 0] 33)).drew := ⟨_, rfl⟩
        have HQ0 : Hid (Row w2 w8.heap.size 33 #[.int .i64 (v0 : Int), .slice none 0 0, .bool (fM v4), .slice none 0 0]) := Lib.hid (by rw [hw2]; exact row_new w8 _ _)
        have HK0 : Hid (Below w8.heap.size w8 w2) := Lib.hid (by rw [hw2]; exact ((Below.refl _ _).alloc (Nat.le_refl _) _).drew)
        have hz2 : w8.heap.size + 1 ≤ w2.heap.size := by rw [hw2]; show w8.heap.size + 1 ≤ (w8.alloc _).heap.size; simp
        rw [← hw2]
        clear hw2
        rename_i _hheld
        clear _hheld
        clear b0 b4 hf4 hi0 hv0u i2 i3 i5 i6
        go_wp2
        go_loopw [9] (fun jv wr => ∃ (j : Nat) (SA : Option Addr) (sc : Nat), j ≤ 3 ∧ jv = .int .i64 j ∧ Hid (Row wr w8.heap.size 33 #[.int .i64 (v0 : Int), .slice SA j sc, .bool (fM v4), .slice none 0 0]) ∧ Hid (LzAt wr (w8.heap.size + 1) (rdN bs (p + 1) j) SA sc) ∧ Hid (Below w8.heap.size w8 wr) ∧ w8.heap.size + 1 ≤ wr.heap.size) (fun jv _ => 3 - (intOf jv).toNat)
        case atStart => exact ⟨0, none, 0, by omega, rfl, HQ0, Lib.hid (LzAt.nil _ _), HK0, hz2⟩
        case round =>
          clear HQ0 HK0 hz2
          obtain ⟨j, SA, sc, hj, rfl, HQ, HS, HK, hzx⟩ := hrel
          by_cases hlj : j < 3
          · have c1 := HQ.out.cell 1
            have f1 := HQ.out.frozen 1
            simp at c1
            have hNP : NotB SA w8.heap.size := fun e => absurd (HS.out.ltA _ e).1 (by omega)
            obtain ⟨vj, hvj⟩ : ∃ vj, bs.getD (p + 1 + j) 0 = vj := ⟨_, rfl⟩
            have hvju := HU8.out (p + 1 + j) (by omega)
            rw [hvj] at hvju
            have bj := (((HL.out.trans (HK.out.mono (by omega))).cell (p := ⟨b, off + (p + 1 + j), none⟩) hbl).trans (HBY.out (p + 1 + j) (by omega)))
            rw [hvj] at bj
            have HVJ := Lib.hid hvj
            clear hvj
            have hwj : IntKind.i64.wrap (vj : Int) = (vj : Int) := IntWalk.i64_in _ (by omega)
            have j2 : (0 : Int) ≤ (p : Int) + 1 + (j : Int) := by omega
            have j3 : (p : Int) + 1 + (j : Int) < 333 := by omega
            have j5 : IntKind.i64.wrap ((p : Int) + 1 + (j : Int)) = (p : Int) + 1 + (j : Int) := IntWalk.i64_in _ (by omega)
            have j6 : ((p : Int) + 1 + (j : Int)).toNat = p + 1 + j := by omega
            have hH : w8.heap.size < wr.heap.size := by omega
            have c1o := (fun o => (World.cell?_alloc_lt wr.drew o ⟨w8.heap.size, 1, none⟩ hH).trans c1)
            have HSd := Lib.hid (show LzAt wr.drew (w8.heap.size + 1) (rdN bs (p + 1) j) SA sc from HS.out)
            have HFB : Hid (∀ w' : World, Below (w8.heap.size + 1) wr.drew w' → w'.cell? ⟨b, off + (p + 1 + j), none⟩ = some (.int .u8 (vj : Nat))) := Lib.hid (fun w' hb => (hb.cell (p := ⟨b, off + (p + 1 + j), none⟩) (by show b < w8.heap.size + 1; omega)).trans bj)
            go_upto_region 13 with fail
            rw [lateLd_of 31 (.tmp 42)]
            go_region_held3 (fun w' => w'.cell? ⟨b, off + (p + 1 + j), none⟩ = some (.int .u8 (vj : Nat)))
              (first | (with_reducible assumption) | (exact bj) | (exact (World.cell?_of_block (a := ⟨b, off + (p + 1 + j), none⟩) (Below.heap_setCell _ _ _ _ (by show b ≠ w8.heap.size; omega))).trans bj5) | go_keep)
              (first | (refine step_pushZ (by rfl) _ _ (by rfl) wr.drew (w8.heap.size + 1) sc j SA (rdN bs (p + 1) j) (by rfl) (rdN_len _ _ _) HSd.out (by omega) hzx (vj : Int) (by rfl) ?_; intro g' cap' w5 hS5 hb5 hk5 hg5; have bj5 := HFB.out w5 hb5; have c5 := (World.cell?_of_block (a := ⟨w8.heap.size, 1, none⟩) (hk5 _ hH hNP)).trans c1; have f5 := (World.frozen?_of_block (a := ⟨w8.heap.size, 1, none⟩) (hk5 _ hH hNP)).trans f1))
            all_goals
              have hz5 := hb5.size
              have HQ6 := Lib.hid (Row.set (show Row w5 _ _ _ from (hk5 _ hH hNP).trans HQ.out) 1 (.slice (some ⟨g', 0, none⟩) (j + 1) cap'))
              have hS6 := hS5.set ⟨w8.heap.size, 1, none⟩ (by show w8.heap.size < w8.heap.size + 1; omega) (.slice (some ⟨g', 0, none⟩) (j + 1) cap')
              have HRE : Hid (rdN bs (p + 1) j ++ [(vj : Int)] = rdN bs (p + 1) (j + 1)) := Lib.hid (by rw [rdN_succ, HVJ.out])
              rw [HRE.out] at hS6
              have HS6 := Lib.hid hS6
              have hb05 : Below (w8.heap.size + 1) wr w5 := (Below.refl (w8.heap.size + 1) wr).drew.trans hb5
              have HK6 := Lib.hid ((HK.out.trans (hb05.mono (by omega))).setCell (p := ⟨w8.heap.size, 1, none⟩) (by show w8.heap.size ≤ w8.heap.size; omega) (.slice (some ⟨g', 0, none⟩) (j + 1) cap'))
              have hz7 : w8.heap.size + 1 ≤ (w5.setCell ⟨w8.heap.size, 1, none⟩ (.slice (some ⟨g', 0, none⟩) (j + 1) cap')).heap.size := by simp [World.setCell]; have h5 : wr.heap.size ≤ w5.heap.size := hz5; omega
              clear hS5 hS6 hb5 hk5 hg5 hb05 bj5 c5 f5 hz5 HQ HS HK HSd HFB c1o c1 f1 hNP bj hwj j2 j3 j5 j6 hH HVJ hvju HRE
              rename_i _hheld
              clear _hheld
              go_wp2
              go_roundw
              case rel => exact ⟨j + 1, some ⟨g', 0, none⟩, cap', by omega, by go_num, HQ6, HS6, HK6, hz7⟩
              case measure => simp [intOf]; omega
          · obtain rfl : j = 3 := by omega
            obtain ⟨g1, rfl⟩ := HS.out.ptr (by rw [rdN_len]; omega)
            obtain ⟨w9, h9⟩ : ∃ w9, w9 = wr := ⟨_, rfl⟩
            subst h9
            have HS9 := HS
            rw [show ((3 : Nat) : Int) = 3 from rfl]
            clear HS hj hlj
            have i7 : IntKind.i64.wrap ((p : Int) + 2) = (p : Int) + 2 := IntWalk.i64_in _ (by omega)
            have i8 : IntKind.i64.wrap ((p : Int) + 2 + 3) = (p : Int) + 2 + 3 := IntWalk.i64_in _ (by omega)
            go_wp2
            go_loopw [10] (fun jv wr => ∃ (j : Nat) (DA : Option Addr) (dc : Nat), j ≤ 8 ∧ jv = .int .i64 j ∧ Hid (Row wr w8.heap.size 33 #[.int .i64 (v0 : Int), .slice (some ⟨g1, 0, none⟩) 3 sc, .bool (fM v4), .slice DA j dc]) ∧ Hid (LzAt wr w9.heap.size (rdN bs (p + 2 + 3) j) DA dc) ∧ Hid (∀ q, w8.heap.size + 1 ≤ q → q < w9.heap.size → wr.heap[q]? = w9.heap[q]?) ∧ Hid (Below w8.heap.size w8 wr) ∧ w9.heap.size ≤ wr.heap.size) (fun jv _ => 8 - (intOf jv).toNat)
            case atStart => exact ⟨0, none, 0, by omega, rfl, HQ, Lib.hid (LzAt.nil _ _), Lib.hid (fun _ _ _ => rfl), HK, Nat.le_refl _⟩
            case round =>
              clear HQ HK
              obtain ⟨j, DA, dc, hj, rfl, HQ, HS, HM, HK, hzq⟩ := hrel
              by_cases hlj : j < 8
              · have c1 := HQ.out.cell 3
                have f1 := HQ.out.frozen 3
                simp at c1
                have hNP : NotB DA w8.heap.size := fun e => absurd (HS.out.ltA _ e).1 (by omega)
                have hNM : ∀ q, q < w9.heap.size → NotB DA q := fun q hq e => absurd (HS.out.ltA _ e).1 (by omega)
                obtain ⟨vj, hvj⟩ : ∃ vj, bs.getD (p + 2 + 3 + j) 0 = vj := ⟨_, rfl⟩
                have hvju := HU8.out (p + 2 + 3 + j) (by omega)
                rw [hvj] at hvju
                have bj := (((HL.out.trans (HK.out.mono (by omega))).cell (p := ⟨b, off + (p + 2 + 3 + j), none⟩) hbl).trans (HBY.out (p + 2 + 3 + j) (by omega)))
                rw [hvj] at bj
                have HVJ := Lib.hid hvj
                clear hvj
                have hwj : IntKind.i64.wrap (vj : Int) = (vj : Int) := IntWalk.i64_in _ (by omega)
                have j2 : (0 : Int) ≤ (p : Int) + 2 + 3 + (j : Int) := by omega
                have j3 : (p : Int) + 2 + 3 + (j : Int) < 333 := by omega
                have j5 : IntKind.i64.wrap ((p : Int) + 2 + 3 + (j : Int)) = (p : Int) + 2 + 3 + (j : Int) := IntWalk.i64_in _ (by omega)
                have j6 : ((p : Int) + 2 + 3 + (j : Int)).toNat = p + 2 + 3 + j := by omega
                have hH : w8.heap.size < wr.heap.size := by omega
                have c1o := (fun o => (World.cell?_alloc_lt wr.drew o ⟨w8.heap.size, 3, none⟩ hH).trans c1)
                have HSd := Lib.hid (show LzAt wr.drew w9.heap.size (rdN bs (p + 2 + 3) j) DA dc from HS.out)
                have HFB : Hid (∀ w' : World, Below (w8.heap.size + 1) wr.drew w' → w'.cell? ⟨b, off + (p + 2 + 3 + j), none⟩ = some (.int .u8 (vj : Nat))) := Lib.hid (fun w' hb => (hb.cell (p := ⟨b, off + (p + 2 + 3 + j), none⟩) (by show b < w8.heap.size + 1; omega)).trans bj)
                go_upto_region 17 with fail
                rw [lateLd_of 31 (.tmp 59)]
                go_region_held3 (fun w' => w'.cell? ⟨b, off + (p + 2 + 3 + j), none⟩ = some (.int .u8 (vj : Nat)))
                  (first | (with_reducible assumption) | (exact bj) | (exact (World.cell?_of_block (a := ⟨b, off + (p + 2 + 3 + j), none⟩) (Below.heap_setCell _ _ _ _ (by show b ≠ w8.heap.size; omega))).trans bj5) | go_keep)
                  (first | (refine step_pushZ (by rfl) _ _ (by rfl) wr.drew w9.heap.size dc j DA (rdN bs (p + 2 + 3) j) (by rfl) (rdN_len _ _ _) HSd.out (by omega) hzq (vj : Int) (by rfl) ?_; intro g' cap' w5 hS5 hb5 hk5 hg5; have bj5 := HFB.out w5 (hb5.mono (by omega)); have c5 := (World.cell?_of_block (a := ⟨w8.heap.size, 3, none⟩) (hk5 _ hH hNP)).trans c1; have f5 := (World.frozen?_of_block (a := ⟨w8.heap.size, 3, none⟩) (hk5 _ hH hNP)).trans f1))
                all_goals
                  have hz5 := hb5.size
                  have hz50 : wr.heap.size ≤ w5.heap.size := hz5
                  have HQ6 := Lib.hid (Row.set (show Row w5 _ _ _ from (hk5 _ hH hNP).trans HQ.out) 3 (.slice (some ⟨g', 0, none⟩) (j + 1) cap'))
                  have hS6 := hS5.set ⟨w8.heap.size, 3, none⟩ (by show w8.heap.size < w9.heap.size; omega) (.slice (some ⟨g', 0, none⟩) (j + 1) cap')
                  have HRE : Hid (rdN bs (p + 2 + 3) j ++ [(vj : Int)] = rdN bs (p + 2 + 3) (j + 1)) := Lib.hid (by rw [rdN_succ, HVJ.out])
                  rw [HRE.out] at hS6
                  have HS6 := Lib.hid hS6
                  have HM6 : Hid (∀ q, w8.heap.size + 1 ≤ q → q < w9.heap.size → (w5.setCell ⟨w8.heap.size, 3, none⟩ (.slice (some ⟨g', 0, none⟩) (j + 1) cap')).heap[q]? = w9.heap[q]?) := Lib.hid (fun q h1 h2 => (Below.heap_setCell _ _ _ _ (by show q ≠ w8.heap.size; omega)).trans ((hk5 q (by show q < wr.heap.size; omega) (hNM q h2)).trans (HM.out q h1 h2)))
                  have hb05 : Below w9.heap.size wr w5 := (Below.refl w9.heap.size wr).drew.trans hb5
                  have HK6 := Lib.hid ((HK.out.trans (hb05.mono (by omega))).setCell (p := ⟨w8.heap.size, 3, none⟩) (by show w8.heap.size ≤ w8.heap.size; omega) (.slice (some ⟨g', 0, none⟩) (j + 1) cap'))
                  have hz7 : w9.heap.size ≤ (w5.setCell ⟨w8.heap.size, 3, none⟩ (.slice (some ⟨g', 0, none⟩) (j + 1) cap')).heap.size := by simp [World.setCell]; omega
                  clear hS5 hS6 hb5 hk5 hg5 hb05 bj5 c5 f5 hz5 hz50 HQ HS HM HK HSd HFB c1o c1 f1 hNP hNM bj hwj j2 j3 j5 j6 hH HVJ hvju HRE
                  rename_i _hheld
                  clear _hheld
                  go_wp2
                  go_roundw
                  case rel => exact ⟨j + 1, some ⟨g', 0, none⟩, cap', by omega, by go_num, HQ6, HS6, HM6, HK6, hz7⟩
                  case measure => simp [intOf]; omega
              · obtain rfl : j = 8 := by omega
                obtain ⟨g2, rfl⟩ := HS.out.ptr (by rw [rdN_len]; omega)
                have c0 := HQ.out.cell 0
                have c1 := HQ.out.cell 1
                have c2 := HQ.out.cell 2
                have c3 := HQ.out.cell 3
                simp at c0 c1 c2 c3
                have HE3 : Hid (EBox w wr A k tc none 0 0) := Lib.hid (HB.out.on (fun q hq => HK.out.block q (by omega)))
                have b0 := HE3.out.r1.cell 0
                have fb := HE3.out.r1.frozen 0
                simp at b0
                have HT3 := Lib.hid (HT.out.on HK.out)
                have hg1 := (HS9.out.ltA g1 rfl)
                have hg2 := (HS.out.ltA g2 rfl)
                have hle1 := HS9.out.le
                have hle2 := HS.out.le
                rw [rdN_len] at hle1 hle2
                have hS9r : LzAt wr (w8.heap.size + 1) (rdN bs (p + 1) 3) (some ⟨g1, 0, none⟩) sc := HS9.out.keep (fun q h1 h2 => HM.out q h1 h2)
                have hzk := HK.out.size
                have HX1 := Lib.hid (leafZ_own (T := OffA wr (w.heap.size + 2) A) hS9r ⟨by omega, by omega, fun e => absurd (HT.out.ltA _ e).2 (by omega)⟩)
                have HX2 := Lib.hid (leafZ_own (T := OffA wr (w.heap.size + 2) A) HS.out ⟨by omega, by omega, fun e => absurd (HT.out.ltA _ e).2 (by omega)⟩)
                have HNA : Hid (NotB A (w.heap.size + 1)) := Lib.hid (fun e => absurd (HT.out.ltA _ e).1 (by omega))
                rw [show ((8 : Nat) : Int) = 8 from rfl]
                clear hS9r HQ HS hj hlj
                go_wp2_with (at_builtin; refine wpList_pushTl rfl _ _ rfl wr (w.heap.size + 2) tc k A (rdTs fM bs k) hs rfl (rdTs_len _ _ _) HT3.out (by omega) (by omega) (v0 : Int) (some ⟨g1, 0, none⟩) 3 sc (rdN bs (p + 1) 3) (fM v4) (some ⟨g2, 0, none⟩) 8 dc (rdN bs (p + 2 + 3) 8) rfl (rdN_len _ _ _) (rdN_len _ _ _) HX1.out HX2.out hle1 hle2 ?_)
                intro g' cap' w5 hT5 hb5 hk5 hg5
                have hz5 := hb5.size
                have c5 := (World.cell?_of_block (a := ⟨w.heap.size + 1, 0, none⟩) (hk5 _ (by show w.heap.size + 1 < _; omega) HNA.out)).trans b0
                have f5 := (World.frozen?_of_block (a := ⟨w.heap.size + 1, 0, none⟩) (hk5 _ (by show w.heap.size + 1 < _; omega) HNA.out)).trans fb
                have HE5 : Hid (EBox w w5 A k tc none 0 0) := Lib.hid (HE3.out.on (fun q hq => hk5 q (by omega) (fun e => absurd (HT3.out.ltA _ e).1 (by omega))))
                have HD5 : Hid (DistH (hs ++ tlv (v0 : Int) (some ⟨g1, 0, none⟩) 3 sc (fM v4) (some ⟨g2, 0, none⟩) 8 dc) ∧ HdsLt (hs ++ tlv (v0 : Int) (some ⟨g1, 0, none⟩) 3 sc (fM v4) (some ⟨g2, 0, none⟩) 8 dc) w5.heap.size) := Lib.hid ⟨dist_snoc_tl HD.out.1 HD.out.2 (by omega) (by omega) (by omega), (HD.out.2.mono (by omega)).snoc (Nat.le_refl _) (by omega) (by omega)⟩
                have HE6 := Lib.hid (HE5.out.setT (some ⟨g', 0, none⟩) (k + 1) cap')
                have hT6 := hT5.set ⟨w.heap.size + 1, 0, none⟩ (by show w.heap.size + 1 < w.heap.size + 2; omega) (.slice (some ⟨g', 0, none⟩) (k + 1) cap')
                have HL6 := Lib.hid (((HL.out.trans (HK.out.mono (by omega))).trans (hb5.mono (by omega))).setCell (p := ⟨w.heap.size + 1, 0, none⟩) (by show w.heap.size ≤ w.heap.size + 1; omega) (.slice (some ⟨g', 0, none⟩) (k + 1) cap'))
                have hz6 : (w5.setCell ⟨w.heap.size + 1, 0, none⟩ (.slice (some ⟨g', 0, none⟩) (k + 1) cap')).heap.size = w5.heap.size := by simp [World.setCell]
                rw [← hz6] at HD5
                have hz7 : w.heap.size + 2 ≤ (w5.setCell ⟨w.heap.size + 1, 0, none⟩ (.slice (some ⟨g', 0, none⟩) (k + 1) cap')).heap.size := by omega
                have HRE : Hid (rdTs fM bs k ++ [((v0 : Int), rdN bs (p + 1) 3, fM v4, rdN bs (p + 2 + 3) 8)] = rdTs fM bs (k + 1)) := Lib.hid (by rw [rdTs_succ]; unfold rdT; rw [← HPK.out, HV0.out, show p + 4 = p + 1 + 3 by omega, HV4.out, show p + 5 = p + 2 + 3 by omega])
                rw [HRE.out] at hT6
                have HT6 := Lib.hid hT6
                have hp13 : p + 13 = 13 * (k + 1) := by have := HPK.out; omega
                have HP13 := Lib.hid hp13
                have i9 : IntKind.i64.wrap ((p : Int) + 13) = (p : Int) + 13 := IntWalk.i64_in _ (by omega)
                clear HE5 hT5 hT6 hk5 hb5 hg5 b0 fb HE3 HT3 HX1 HX2 HT HB HD HL hz6 HRE HNA HK HM HS9 hp13 c0 c1 c2 c3 HV0 HV4 hle1 hle2 hg1 hg2 hzk
                go_wp2
                go_roundw
                case rel => exact ⟨k + 1, p + 13, some ⟨g', 0, none⟩, cap', _, by omega, HP13.out, by go_num, by go_num, HE6, HT6, HD5, hz7, HL6⟩
                case measure => simp [intOf]; omega
      · obtain rfl : k = 25 := by omega
        obtain ⟨g, rfl⟩ := HT.out.ptr (by rw [rdTs_len]; omega)
        obtain rfl : p = 325 := by omega
        rw [show ((25 : Nat) : Int) = 25 from rfl, show ((325 : Nat) : Int) = 325 from rfl]
        clear hlt hk hp
        have HT8 := HT
        go_wp2
        go_loopw [6, 11] (fun av iv wr => ∃ (j p : Nat) (PA : Option Addr) (pc : Nat), j ≤ 3 ∧ p = 325 + 2 * j ∧ av = .int .i64 p ∧ iv = .int .i64 j ∧ Hid (EBox w wr (some ⟨g, 0, none⟩) 25 tc PA j pc) ∧ Hid (∀ q, w.heap.size + 2 ≤ q → q < w8.heap.size → wr.heap[q]? = w8.heap[q]?) ∧ Hid (PdAt wr w8.heap.size (rdPs fM bs j) PA pc) ∧ w.heap.size + 2 ≤ w8.heap.size ∧ w8.heap.size ≤ wr.heap.size ∧ Hid (Below w.heap.size w wr)) (fun _ iv _ => 3 - (intOf iv).toNat)
        case atStart => exact ⟨0, 325, none, 0, by omega, rfl, rfl, rfl, HB, Lib.hid (fun _ _ _ => rfl), Lib.hid (PdAt.nil _ _), hzr, Nat.le_refl _, HL⟩
        case round =>
          clear HB HT HL
          obtain ⟨j, p, PA, pc, hj, hp, rfl, rfl, HB, HK, HP, hzr, hzx, HL⟩ := hrel
          by_cases hlt : j < 3
          · have c1 := HB.out.r1.cell 1
            have f1 := HB.out.r1.frozen 1
            simp at c1
            have hnA : NotB PA (w.heap.size + 1) := (fun e => absurd (HP.out.ltA _ e).1 (by omega))
            have hnq : ∀ q, q < w8.heap.size → NotB PA q := fun q hq e => absurd (HP.out.ltA _ e).1 (by omega)
            have hp333 : p + 2 ≤ 333 := by omega
            obtain ⟨v0, hv0⟩ : ∃ v0, bs.getD p 0 = v0 := ⟨_, rfl⟩
            obtain ⟨v4, hv4⟩ : ∃ v4, bs.getD (p + 1) 0 = v4 := ⟨_, rfl⟩
            have hv0u := HU8.out p (by omega)
            rw [hv0] at hv0u
            have b0 := (HL.out.cell (p := ⟨b, off + p, none⟩) hbl).trans (HBY.out p (by omega))
            have b4 := (HL.out.cell (p := ⟨b, off + (p + 1), none⟩) hbl).trans (HBY.out (p + 1) (by omega))
            rw [hv0] at b0
            rw [hv4] at b4
            have HV0 := Lib.hid hv0
            have HV4 := Lib.hid hv4
            have HPK := Lib.hid hp
            clear hv0 hv4 hp
            have hf4 := fM_eq v4
            have hi0 : IntKind.i64.wrap (v0 : Int) = (v0 : Int) := IntWalk.i64_in _ (by omega)
            have i0 : (0 : Int) ≤ (p : Int) := Int.natCast_nonneg _
            have i1 : (p : Int) < 333 := by omega
            have i2 : (0 : Int) ≤ (p : Int) + 1 := by omega
            have i3 : (p : Int) + 1 < 333 := by omega
            have i4 : IntKind.i64.wrap ((p : Int) + 1) = (p : Int) + 1 := IntWalk.i64_in _ (by omega)
            have i6 : ((p : Int) + 1).toNat = p + 1 := by omega
            have hH : w.heap.size + 1 < wr.heap.size := by omega
            have c1o := (fun o => (World.cell?_alloc_lt wr.drew o ⟨w.heap.size + 1, 1, none⟩ hH).trans c1)
            have HPd := Lib.hid (show PdAt wr.drew w8.heap.size (rdPs fM bs j) PA pc from HP.out)
            have HFB : Hid (∀ w' : World, Below w8.heap.size wr.drew w' → w'.cell? ⟨b, off + p, none⟩ = some (.int .u8 (v0 : Nat)) ∧ w'.cell? ⟨b, off + (p + 1), none⟩ = some (.int .u8 (v4 : Nat))) := Lib.hid (fun w' hb => ⟨(hb.cell (p := ⟨b, off + p, none⟩) (by show b < w8.heap.size; omega)).trans b0, (hb.cell (p := ⟨b, off + (p + 1), none⟩) (by show b < w8.heap.size; omega)).trans b4⟩)
            go_upto_region 23 with fail
            rw [lateLd_of 24 (.tmp 86)]
            go_region_held3 (fun w' => w'.cell? ⟨b, off + p, none⟩ = some (.int .u8 (v0 : Nat)) ∧ w'.cell? ⟨b, off + (p + 1), none⟩ = some (.int .u8 (v4 : Nat)))
              (first | (with_reducible assumption) | (exact ⟨b0, b4⟩) | (exact ⟨(World.cell?_of_block (a := ⟨b, off + p, none⟩) (Below.heap_setCell _ _ _ _ (by show b ≠ w.heap.size + 1; omega))).trans bj5.1, (World.cell?_of_block (a := ⟨b, off + (p + 1), none⟩) (Below.heap_setCell _ _ _ _ (by show b ≠ w.heap.size + 1; omega))).trans bj5.2⟩) | go_keep)
              (first | (refine step_pushPd (by rfl) _ _ (by rfl) wr.drew w8.heap.size pc j PA (rdPs fM bs j) (by rfl) (rdPs_len _ _ _) HPd.out (by omega) hzx (v0 : Int) (fM v4) (by rfl) ?_; intro g' cap' w7 hP7 hb7 hk7 hg7; have bj5 := HFB.out w7 hb7; have c7 := (World.cell?_of_block (a := ⟨w.heap.size + 1, 1, none⟩) (hk7 _ hH hnA)).trans c1; have f7 := (World.frozen?_of_block (a := ⟨w.heap.size + 1, 1, none⟩) (hk7 _ hH hnA)).trans f1))
            all_goals
              have hb07 : Below w8.heap.size wr w7 := (Below.refl w8.heap.size wr).drew.trans hb7
              have HE7 : Hid (EBox w w7 (some ⟨g, 0, none⟩) 25 tc PA j pc) := Lib.hid (HB.out.on (fun q hq => hk7 q (by show q < wr.heap.size; omega) (hnq q (by omega))))
              have hz7 := hb07.size
              have HE8 := Lib.hid (HE7.out.setP (some ⟨g', 0, none⟩) (j + 1) cap')
              have HRE : Hid (rdPs fM bs j ++ [((v0 : Int), fM v4)] = rdPs fM bs (j + 1)) := Lib.hid (by rw [rdPs_succ]; unfold rdP; rw [← HPK.out, HV0.out, HV4.out])
              have hP8 := hP7.set ⟨w.heap.size + 1, 1, none⟩ (by show w.heap.size + 1 < w8.heap.size; omega) (.slice (some ⟨g', 0, none⟩) (j + 1) cap')
              rw [HRE.out] at hP8
              have HP8 := Lib.hid hP8
              have HK8 : Hid (∀ q, w.heap.size + 2 ≤ q → q < w8.heap.size → (w7.setCell ⟨w.heap.size + 1, 1, none⟩ (.slice (some ⟨g', 0, none⟩) (j + 1) cap')).heap[q]? = w8.heap[q]?) := Lib.hid (fun q h1 h2 => (Below.heap_setCell _ _ _ _ (by show q ≠ w.heap.size + 1; omega)).trans ((hk7 q (by show q < wr.heap.size; omega) (hnq q h2)).trans (HK.out q h1 h2)))
              have hzz : w8.heap.size ≤ (w7.setCell ⟨w.heap.size + 1, 1, none⟩ (.slice (some ⟨g', 0, none⟩) (j + 1) cap')).heap.size := by simp [World.setCell]; omega
              have HL8 := Lib.hid ((HL.out.trans (hb07.mono (by omega))).setCell (p := ⟨w.heap.size + 1, 1, none⟩) (by show w.heap.size ≤ w.heap.size + 1; omega) (.slice (some ⟨g', 0, none⟩) (j + 1) cap'))
              have HP13 : Hid (p + 2 = 325 + 2 * (j + 1)) := Lib.hid (by have := HPK.out; omega)
              have i9 : IntKind.i64.wrap ((p : Int) + 2) = (p : Int) + 2 := IntWalk.i64_in _ (by omega)
              clear hb07 HE7 HRE hP8 hP7 hb7 hk7 hg7 c7 f7 hz7 c1o HPd HFB HB HP HK HL HV0 HV4 HPK c1 f1 hnA hnq bj5 b0 b4 hf4 hi0 hv0u i2 i3 i4 i6 hH
              rename_i _hheld
              clear _hheld
              go_wp2
              go_roundw
              case rel => exact ⟨j + 1, p + 2, some ⟨g', 0, none⟩, cap', by omega, HP13.out, by go_num, by go_num, HE8, HK8, HP8, hzr, hzz, HL8⟩
              case measure => simp [intOf]; omega
          · obtain rfl : j = 3 := by omega
            obtain rfl : p = 331 := by omega
            obtain ⟨gp, rfl⟩ := HP.out.ptr (by rw [rdPs_len]; omega)
            rw [show ((3 : Nat) : Int) = 3 from rfl, show ((331 : Nat) : Int) = 331 from rfl]
            have c0 := HB.out.r1.cell 0
            have c1 := HB.out.r1.cell 1
            simp at c0 c1
            have HT9 := HT8.out.keep (w' := wr) (fun q h1 h2 => HK.out q h1 h2) hzx
            have HCF : Hid (CfAt wr.drew (w.heap.size + 2) (rdTs fM bs 25) (rdPs fM bs 3) hs (some ⟨g, 0, none⟩) tc (some ⟨gp, 0, none⟩) pc) := Lib.hid (CfAt.drew ⟨HT9, HP.out.low hzr, HD.out.1⟩)
            clear HT9 HT8 HP HK hlt hj hp
            have hH : w.heap.size + 1 < wr.heap.size := by omega
            have HFB : Hid (∀ w' : World, Below wr.heap.size wr.drew w' → w'.cell? ⟨w.heap.size + 1, 0, none⟩ = some (.slice (some ⟨g, 0, none⟩) 25 tc) ∧ w'.cell? ⟨w.heap.size + 1, 1, none⟩ = some (.slice (some ⟨gp, 0, none⟩) 3 pc)) := Lib.hid (fun w' hb => ⟨(hb.cell (p := ⟨w.heap.size + 1, 0, none⟩) hH).trans c0, (hb.cell (p := ⟨w.heap.size + 1, 1, none⟩) hH).trans c1⟩)
            have HFC : Hid (∀ w' : World, Below wr.heap.size wr.drew w' → ∀ k, k < 333 → w'.cell? ⟨b, off + k, none⟩ = some (.int .u8 (bs.getD k 0 : Nat))) := Lib.hid (fun w' hb k hk => (hb.cell (p := ⟨b, off + k, none⟩) (by show b < wr.heap.size; omega)).trans ((HL.out.cell (p := ⟨b, off + k, none⟩) hbl).trans (HBY.out k hk)))
            have HR := Lib.hid HB.out.r0
            have hokD : okD bs = decide (encS (rdTs fM bs 25) (rdPs fM bs 3) = bs) := by unfold okD; rw [HN.out, ← dec_same HN.out]; simp [dec]
            have hV := scv_any _ _ 25 tc 3 pc (rdTs fM bs 25) (rdPs fM bs 3) wr.drew HCF.out.tl.read HCF.out.pd.read (rdTs_len _ _ _) (rdPs_len _ _ _)
            cases hcf : cfOk (rdTs fM bs 25) (rdPs fM bs 3)
            · have HQ : Hid (okD bs = false) := Lib.hid (by
                rw [hokD, decide_eq_false]
                intro e
                unfold encS at e
                rw [if_neg (by rw [hcf]; simp)] at e
                have h1 := HN.out
                rw [← e] at h1
                simp at h1)
              rw [hcf] at hV
              have HV := Lib.hid hV
              clear hV hcf hokD
              go_upto_region 25 with fail
              first | (go_region_with (go_at_call 15; go_fit HV.out; rintro e w3 ⟨rfl, hb3⟩; obtain ⟨hS3, hS3b⟩ := HFB.out w3 hb3)) | fail "WITH"
              all_goals
                have hb03 : Below wr.heap.size wr w3 := (Below.refl wr.heap.size wr).drew.trans hb3
                have hR3 := HR.out.below hb03 (by omega)
                have HL3 := Lib.hid ((HL.out.trans (hb03.mono (by omega))).setCell (p := ⟨w.heap.size, 0, none⟩) (Nat.le_refl _) (.slice none 0 0) |>.setCell (p := ⟨w.heap.size, 1, none⟩) (Nat.le_refl _) (.slice none 0 0))
                have d0 := hR3.cell 0
                have d1 := hR3.cell 1
                have e0 := hR3.frozen 0
                have e1 := hR3.frozen 1
                have hR4 := (hR3.set 0 (.slice none 0 0)).set 1 (.slice none 0 0)
                have t0 := hR4.cell 0
                have t1 := hR4.cell 1
                simp at d0 d1 t0 t1
                clear hb03 hR3 hR4 hb3
                go_wp2
                exact bodyPost_ret (v := .tuple #[cfv none 0 0 none 0 0, .bool false]) (by simp [results, Try.results22, go_sem, t0, t1]) rfl ⟨by rw [if_neg (by rw [HQ.out]; simp)], HL3.out⟩
            · rw [hcf] at hV
              have HV := Lib.hid hV
              have HCK := Lib.hid hcf
              obtain ⟨E, hE⟩ : ∃ E, E = encS (rdTs fM bs 25) (rdPs fM bs 3) := ⟨_, rfl⟩
              obtain ⟨sE, hsE⟩ : ∃ sE, sE = strOfNums (ints E) := ⟨_, rfl⟩
              obtain ⟨sB, hsB⟩ : ∃ sB, sB = strOfNums (ints bs) := ⟨_, rfl⟩
              have heq : (sE.toList == sB.toList) = okD bs := by
                rw [hsE, hsB, Lib.strOfNums_toList, Lib.strOfNums_toList, bytesOf_ints (by rw [hE]; exact encS_lt _ _) HU.out, hokD, hE]
              have HE := Lib.hid hE
              have HSE := Lib.hid hsE
              have HSB := Lib.hid hsB
              have HEL : Hid (E.length = 333) := Lib.hid (by
                rw [hE]
                unfold encS
                rw [if_pos hcf]
                obtain ⟨h1, h2, _, h4⟩ := cfOk_parts hcf
                have h5 := enTs_len 25 (by omega) (fun j hj => h4 j hj)
                rw [List.take_of_length_le (by omega)] at h5
                unfold enc sumB
                rw [List.length_append, List.length_append, h5, enPs_eq, h2]
                rfl)
              have HCV : Hid (∀ (W : World) (bb oo cc : Nat) (xs : List Nat), xs.length = 333 → (∀ k, k < 333 → W.cell? ⟨bb, oo + k, none⟩ = some (.int .u8 (xs.getD k 0 : Nat))) → (convert 22 9 (.slice (some ⟨bb, oo, none⟩) 333 cc)).run Try.prog W = .ok (.string (strOfNums (ints xs))) W) := Lib.hid (fun W bb oo cc xs h1 h2 => run_convert_bytes_arg W 22 5 Try.underlying22 Try.underlying5 bb oo 333 cc (ints xs) (by rw [ints_len, h1]) (fun k hk => by rw [ints_get]; exact h2 k hk) 9 Try.underlying9)
              clear hV hcf hokD hE hsE hsB
              go_upto_region 25 with fail
              first | (go_region_with
                (first
                  | (go_at_call 15; go_fit HV.out; rintro e w3 ⟨rfl, hb3⟩; obtain ⟨hS3, hS3b⟩ := HFB.out w3 hb3; have hcf3 := HCF.out.on hb3; have hq3 := HCV.out w3 b off c bs HN.out (HFC.out w3 hb3); rw [← HSB.out] at hq3)
                  | (go_at_call 23; go_fit (senc_any _ _ 25 tc 3 pc (rdTs fM bs 25) (rdPs fM bs 3) w3 hcf3.tl.read hcf3.pd.read (rdTs_len _ _ _) (rdPs_len _ _ _)); intro e w4 hse; rw [SEOut, ← HE.out, HEL.out] at hse; obtain ⟨⟨AE, ce, rfl, hes⟩, hb4⟩ := hse; obtain ⟨gE, rfl⟩ := ByAt.ptr hes (by have := HEL.out; omega); have hb34 := hb3.trans (hb4.mono (show wr.heap.size ≤ w3.heap.size from hb3.size)); obtain ⟨hS4, hS4b⟩ := HFB.out w4 hb34; have hq4 := HCV.out w4 b off c bs HN.out (HFC.out w4 hb34); have hr4 := HCV.out w4 gE 0 ce E HEL.out (fun k hk => by rw [Nat.zero_add]; exact (ByAt.cells hes).1 k (by rw [HEL.out]; exact hk)); rw [← HSB.out] at hq4; rw [← HSE.out] at hr4))) | fail "WITH"
              all_goals
                have hb04 : Below wr.heap.size wr w4 := (Below.refl wr.heap.size wr).drew.trans hb34
                have hR4 := HR.out.below hb04 (by omega)
                have hHz4 := hb04.size
                have HL4 := Lib.hid (HL.out.trans (hb04.mono (by omega)))
                have hcf4 := hcf3.on hb4
                have d0 := hR4.cell 0
                have d1 := hR4.cell 1
                have e0 := hR4.frozen 0
                have e1 := hR4.frozen 1
                simp at d0 d1
                cases hq : okD bs
                · have HQ := Lib.hid hq
                  have hR5 := (hR4.set 0 (.slice none 0 0)).set 1 (.slice none 0 0)
                  have t0 := hR5.cell 0
                  have t1 := hR5.cell 1
                  simp at t0 t1
                  have HL5 := Lib.hid ((HL4.out.setCell (p := ⟨w.heap.size, 0, none⟩) (Nat.le_refl _) (.slice none 0 0)).setCell (p := ⟨w.heap.size, 1, none⟩) (Nat.le_refl _) (.slice none 0 0))
                  clear hR5 hR4 hb04 hq
                  go_wp2
                  exact bodyPost_ret (v := .tuple #[cfv none 0 0 none 0 0, .bool false]) (by simp [results, Try.results22, go_sem, t0, t1]) rfl ⟨by rw [if_neg (by rw [HQ.out]; simp)], HL5.out⟩
                · have HQ := Lib.hid hq
                  have hR5 := (hR4.set 0 (.slice (some ⟨g, 0, none⟩) 25 tc)).set 1 (.slice (some ⟨gp, 0, none⟩) 3 pc)
                  have t0 := hR5.cell 0
                  have t1 := hR5.cell 1
                  simp at t0 t1
                  have HL5 := Lib.hid ((HL4.out.setCell (p := ⟨w.heap.size, 0, none⟩) (Nat.le_refl _) (.slice (some ⟨g, 0, none⟩) 25 tc)).setCell (p := ⟨w.heap.size, 1, none⟩) (Nat.le_refl _) (.slice (some ⟨gp, 0, none⟩) 3 pc))
                  have HCF5 : Hid (CfAt ((w4.setCell ⟨w.heap.size, 0, none⟩ (.slice (some ⟨g, 0, none⟩) 25 tc)).setCell ⟨w.heap.size, 1, none⟩ (.slice (some ⟨gp, 0, none⟩) 3 pc)) w.heap.size (rdTs fM bs 25) (rdPs fM bs 3) hs (some ⟨g, 0, none⟩) tc (some ⟨gp, 0, none⟩) pc) := Lib.hid ⟨((hcf4.tl.set ⟨w.heap.size, 0, none⟩ (by show w.heap.size < w.heap.size + 2; omega) _).set ⟨w.heap.size, 1, none⟩ (by show w.heap.size < w.heap.size + 2; omega) _).low (by omega), ((hcf4.pd.set ⟨w.heap.size, 0, none⟩ (by show w.heap.size < w.heap.size + 2; omega) _).set ⟨w.heap.size, 1, none⟩ (by show w.heap.size < w.heap.size + 2; omega) _).low (by omega), hcf4.dist⟩
                  clear hR5 hR4 hb04 hq
                  go_wp2
                  exact bodyPost_ret (v := .tuple #[cfv (some ⟨g, 0, none⟩) 25 tc (some ⟨gp, 0, none⟩) 3 pc, .bool true]) (by simp [results, Try.results22, go_sem, t0, t1]) rfl ⟨by rw [if_pos HQ.out]; exact ⟨g, tc, gp, pc, hs, rfl, HCF5.out⟩, HL5.out⟩
  · have hb0 : Below w.heap.size w (w.alloc (.cells #[.slice none 0 0, .slice none 0 0] 26)) := (Below.refl _ _).alloc (Nat.le_refl _) _
    have HB0 := Lib.hid hb0
    have HQ : Hid (okD bs = false) := Lib.hid (by unfold okD; rw [hn, decide_eq_false h333]; rfl)
    have hR0 := row_new w 26 #[.slice none 0 0, .slice none 0 0]
    have d0 := hR0.cell 0
    have d1 := hR0.cell 1
    have e0 := hR0.frozen 0
    have e1 := hR0.frozen 1
    have hne : ((n : Int) == 333) = false := by rw [beq_eq_false_iff_ne]; omega
    have hne2 : ((n : Int) != 333) = true := by rw [bne_iff_ne]; omega
    clear hb0
    go_enter Try.func22, Try.ntmps22
    go_wp2
    change bodyPost _ _ _ _ _ (w.alloc (.cells #[.slice none 0 0, .slice none 0 0] 26))
    obtain ⟨w0, hw0⟩ : ∃ w0, w0 = w.alloc (.cells #[.slice none 0 0, .slice none 0 0] 26) := ⟨_, rfl⟩
    rw [← hw0] at d0 d1 HB0
    rw [← hw0]
    simp at d0 d1
    exact bodyPost_ret (v := .tuple #[cfv none 0 0 none 0 0, .bool false]) (by simp [results, Try.results22, go_sem, d0, d1]) rfl ⟨by rw [if_neg (by rw [HQ.out]; simp)], HB0.out⟩
end Go.Proofs.Ytkkkkalgfmddbaa
/- Copies of bytes; decoded configurations compared and marked. -/
namespace Go.Proofs.Ytkkkkalgfmddbaa
open Go.RowKit Go.Deep Cut

def FilledY (cs : Array Value) (xs : List Nat) (k : Nat) : Prop := cs.size = xs.length ∧ ∀ j, j < k → cs[j]? = some (.int .u8 (xs.getD j 0 : Nat))
theorem FilledY.step {cs : Array Value} {xs : List Nat} {k : Nat} (h : FilledY cs xs k) (hk : k < xs.length) : FilledY (cs.setIfInBounds k (.int .u8 (xs.getD k 0 : Nat))) xs (k + 1) := by
  refine ⟨by simpa using h.1, fun j hj => ?_⟩
  by_cases e : j = k
  · subst e
    rw [Array.getElem?_setIfInBounds_self_of_lt (by rw [h.1]; exact hk)]
  · rw [Array.getElem?_setIfInBounds_ne (by omega)]
    exact h.2 j (by omega)
theorem FilledY.own {w : World} {B g : Nat} {cs : Array Value} {xs : List Nat} (h : FilledY cs xs xs.length) (hr : Row w g 5 cs) (hB : B ≤ g) (hl : xs.length ≤ 2000000) : ByAt w B xs (some ⟨g, 0, none⟩) xs.length :=
  own_full (n := xs.length) (z := 1) hr hB (by rw [h.1]; omega) (by unfold maxLen; omega) (by rw [bys_len]; omega) (fun j hj => by
    rw [bys_len] at hj
    rw [h.2 j hj, bys_get hj])
set_option maxHeartbeats 400000 in
theorem toByteS_any (A : Option Addr) (n cap : Nat) (xs : List Nat) (w : World) (hx : BysIn w w.heap.size A xs) (hn : xs.length = n) (hl : n ≤ 2000000) :
    Calls Try.prog 56 #[.slice A n cap] w fun e w' => e = .returned (.slice (some ⟨w.heap.size, 0, none⟩) n n) ∧ Below w.heap.size w w' ∧ ByAt w' w.heap.size xs (some ⟨w.heap.size, 0, none⟩) n := by
  have HX := Lib.hid hx
  have HN := Lib.hid hn
  clear hx hn
  have hmk := fun W => run_make_row' (P := Try.prog) 22 5 (.int .u8 0) 1 Try.underlying22 Try.infoBy rfl .i64 .i64 n (by omega) (by omega) W
  go_enter Try.func56, Try.ntmps56
  go_wp2
  clear hmk
  go_loopw [4] (fun iv wr => ∃ (k : Nat) (cs : Array Value), k ≤ n ∧ iv = .int .i64 k ∧ Hid (Row wr w.heap.size 5 cs) ∧ Hid (FilledY cs xs k) ∧ Below w.heap.size w wr) (fun iv _ => n - (intOf iv).toNat)
  case atStart => exact ⟨0, _, Nat.zero_le _, rfl, Lib.hid (heap_alloc_new w _), Lib.hid ⟨by rw [size_madeCells, HN.out], fun j hj => absurd hj (by omega)⟩, (Below.refl _ _).alloc (Nat.le_refl _) _⟩
  case round =>
    obtain ⟨k, cs, hk, rfl, HRow, HF, hbr⟩ := hrel
    by_cases hlt : k < n
    · obtain ⟨b, off, rfl, hbl, hcell⟩ := HX.out k (by rw [HN.out]; exact hlt)
      rw [← hbr.cell (by exact hbl)] at hcell
      have HF2 := Lib.hid (HF.out.step (by rw [HN.out]; exact hlt))
      have hsz : k < cs.size := by rw [HF.out.1, HN.out]; exact hlt
      have hc0 : wr.cell? ⟨w.heap.size, k, none⟩ = some cs[k] := by rw [HRow.out.cell, Array.getElem?_eq_getElem hsz]
      have hf0 := HRow.out.frozen k
      have HB := Lib.hid (hbr.setCell (p := ⟨w.heap.size, k, none⟩) (Nat.le_refl _) (.int .u8 (xs.getD k 0 : Nat)))
      have HR2 := Lib.hid (HRow.out.set k (.int .u8 (xs.getD k 0 : Nat)))
      generalize xs.getD k 0 = v at *
      generalize cs[k] = old at *
      go_wp2
      go_roundw
      case rel => exact ⟨k + 1, _, by omega, by go_num, HR2, HF2, HB.out⟩
      case measure => simp [intOf]; omega
    · obtain rfl : k = n := by omega
      go_wp2
      go_ret
      refine ⟨rfl, hbr, ?_⟩
      have h := FilledY.own (B := w.heap.size) (by rw [HN.out]; exact HF.out) HRow.out (Nat.le_refl _) (by rw [HN.out]; exact hl)
      rw [HN.out] at h
      exact h
/-- What decoding answers, in one form. -/
def dT (bs : List Nat) : List Tl := if okD bs = true then rdTs fP bs 25 else []
def dP (bs : List Nat) : List Pd := if okD bs = true then rdPs fP bs 3 else []
def DOut (bs : List Nat) (w : World) (e : Ending) (w' : World) : Prop :=
  (∃ (TA PA : Option Addr) (tc pc : Nat) (hs : List Value), e = .returned (.tuple #[cfv TA (dT bs).length tc PA (dP bs).length pc, .bool (okD bs)]) ∧ CfAt w' w.heap.size (dT bs) (dP bs) hs TA tc PA pc ∧ ((TA = none ∧ PA = none ∧ dT bs = [] ∧ dP bs = []) ∨ (dT bs).length = 25 ∧ (dP bs).length = 3)) ∧ Below w.heap.size w w'
theorem IDOut.d {bs : List Nat} {w w' : World} {e : Ending} (h : IDOut bs w e w') : DOut bs w e w' := by
  refine ⟨?_, h.2⟩
  have h1 := h.1
  unfold dT dP
  cases hq : okD bs
  · rw [if_neg (by rw [hq]; simp)] at h1
    rw [if_neg (by simp), if_neg (by simp)]
    exact ⟨none, none, 0, 0, [], h1, ⟨TlAt.nil _ _, PdAt.nil _ _, DistH.nil⟩, .inl ⟨rfl, rfl, rfl, rfl⟩⟩
  · rw [if_pos hq] at h1
    rw [if_pos rfl, if_pos rfl, rdTs_len, rdPs_len]
    obtain ⟨g, tc, gp, pc, hs, e1, e2⟩ := h1
    exact ⟨_, _, tc, pc, hs, e1, e2, .inr ⟨rfl, rfl⟩⟩
theorem SDOut.d {bs : List Nat} {w w' : World} {e : Ending} (h : SDOut bs w e w') : DOut bs w e w' := by
  refine ⟨?_, h.2⟩
  have h1 := h.1
  unfold dT dP
  cases hq : okD bs
  · rw [if_neg (by rw [hq]; simp)] at h1
    rw [if_neg (by simp), if_neg (by simp)]
    exact ⟨none, none, 0, 0, [], h1, ⟨TlAt.nil _ _, PdAt.nil _ _, DistH.nil⟩, .inl ⟨rfl, rfl, rfl, rfl⟩⟩
  · rw [if_pos hq] at h1
    rw [if_pos rfl, if_pos rfl, rdTs_len, rdPs_len]
    obtain ⟨g, tc, gp, pc, hs, e1, e2⟩ := h1
    have hq2 := hq
    unfold okD at hq2
    simp only [Bool.and_eq_true, decide_eq_true_eq] at hq2
    obtain ⟨h3, h4, _⟩ := dec_any (g := fM) hq2.1 rfl rfl hq2.2
    rw [h3, h4] at e2
    exact ⟨_, _, tc, pc, hs, e1, e2, .inr ⟨rfl, rfl⟩⟩
theorem dT_bd (bs : List Nat) : TlBd (dT bs) := by
  unfold dT
  by_cases h : okD bs = true
  · rw [if_pos h]; exact rdTs_bd _ _
  · rw [if_neg h]; exact ⟨by simp, fun k hk => by simp at hk⟩
theorem lensD_le {ts : List Tl} {n : Nat} (h : TlBd ts) (hn : ts.length = n) : ∀ j, j < 2 * n → (lensT ts).getD j 0 ≤ 2000000 := fun j hj => by
  rw [lensT_get ts (by omega)]
  have h1 := h.2 (j / 2) (by omega)
  by_cases e : j % 2 = 0
  · rw [if_pos e]; exact h1.1
  · rw [if_neg e]; exact h1.2
theorem dT_tot (bs : List Nat) : 1 + ofT 1 (lensT (dT bs)) (2 * (dT bs).length) ≤ 50000000 := by
  rw [ofT_tot _ _ (Nat.le_refl _)]
  have h : ∀ k, k ≤ 25 → totT (rdTs fP bs 25) k = 11 * k := fun k hk => by
    induction k with
    | zero => rfl
    | succ k ih =>
      simp only [totT]
      rw [ih (by omega), rdTs_get fP bs (show k < 25 by omega)]
      show 11 * k + ((rdN bs _ 3).length + (rdN bs _ 8).length) = 11 * (k + 1)
      rw [rdN_len, rdN_len]
      omega
  unfold dT
  by_cases hq : okD bs = true
  · rw [if_pos hq, rdTs_len, h 25 (by omega)]; omega
  · rw [if_neg hq]; simp [totT]
theorem markTl_nil (K : Int) (w : World) : Calls Try.prog 93 #[.slice none 0 0, .int .i64 K] w fun e w' => e = .returned (.int .i64 K) ∧ w = w' := by
  go_enter Try.func93, Try.ntmps93
  go_wp2
  go_loop [1, 5] (fun kv iv => iv = .int .i64 0 ∧ kv = .int .i64 K) (fun _ _ => 0)
  case atStart => exact ⟨rfl, rfl⟩
  case round =>
    obtain ⟨rfl, rfl⟩ := hrel
    go_wp2
    go_ret
    exact ⟨rfl, rfl⟩
theorem markPd_nil (K : Int) (w : World) : Calls Try.prog 94 #[.slice none 0 0, .int .i64 K] w fun e w' => e = .returned (.int .i64 K) ∧ w = w' := by
  go_enter Try.func94, Try.ntmps94
  go_wp2
  go_loop [1, 5] (fun kv iv => iv = .int .i64 0 ∧ kv = .int .i64 K) (fun _ _ => 0)
  case atStart => exact ⟨rfl, rfl⟩
  case round =>
    obtain ⟨rfl, rfl⟩ := hrel
    go_wp2
    go_ret
    exact ⟨rfl, rfl⟩
theorem heldTl_nil (K : Int) (w : World) : Calls Try.prog 96 #[.slice none 0 0, .int .i64 K] w fun e w' => e = .returned (.int .i64 K) ∧ w = w' := by
  go_enter Try.func96, Try.ntmps96
  go_wp2
  go_loop [1, 5] (fun kv iv => iv = .int .i64 0 ∧ kv = .int .i64 K) (fun _ _ => 0)
  case atStart => exact ⟨rfl, rfl⟩
  case round =>
    obtain ⟨rfl, rfl⟩ := hrel
    go_wp2
    go_ret
    exact ⟨rfl, rfl⟩
theorem heldPd_nil (K : Int) (w : World) : Calls Try.prog 97 #[.slice none 0 0, .int .i64 K] w fun e w' => e = .returned (.int .i64 K) ∧ w = w' := by
  go_enter Try.func97, Try.ntmps97
  go_wp2
  go_loop [1, 5] (fun kv iv => iv = .int .i64 0 ∧ kv = .int .i64 K) (fun _ _ => 0)
  case atStart => exact ⟨rfl, rfl⟩
  case round =>
    obtain ⟨rfl, rfl⟩ := hrel
    go_wp2
    go_ret
    exact ⟨rfl, rfl⟩
theorem markCf_nil (K : Nat) (w : World) (_hK : K ≤ 1000000) : Calls Try.prog 42 #[cfv none 0 0 none 0 0, .int .i64 (K : Int)] w fun e w' => e = .returned (.int .i64 (K : Int)) ∧ Below w.heap.size w w' := by
  have HL := Lib.hid (show Below w.heap.size w (w.alloc (.cells #[.slice none 0 0, .slice none 0 0] 26)) from (Below.refl _ _).alloc (Nat.le_refl _) _)
  have hR := row_new w 26 #[.slice none 0 0, .slice none 0 0]
  have c0 : (w.alloc (.cells #[.slice none 0 0, .slice none 0 0] 26)).cell? ⟨w.heap.size, 0, none⟩ = some (.slice none 0 0) := hR.cell 0
  have c1 : (w.alloc (.cells #[.slice none 0 0, .slice none 0 0] 26)).cell? ⟨w.heap.size, 1, none⟩ = some (.slice none 0 0) := hR.cell 1
  clear hR
  go_enter Try.func42, Try.ntmps42
  go_wp2_with fail
  generalize w.alloc (.cells #[.slice none 0 0, .slice none 0 0] 26) = w1 at *
  refine (markTl_nil (K : Int) w1).mono ?_
  rintro e w2 ⟨rfl, rfl⟩
  go_wp2_with fail
  refine (markPd_nil (K : Int) w1).mono ?_
  rintro e w2 ⟨rfl, rfl⟩
  go_wp2
  go_ret
  exact ⟨rfl, HL.out⟩
theorem heldCf_nil (K : Nat) (w : World) (_hK : K ≤ 1000000) : Calls Try.prog 57 #[cfv none 0 0 none 0 0, .int .i64 (K : Int)] w fun e w' => e = .returned (.int .i64 (K : Int)) ∧ Below w.heap.size w w' := by
  have HL := Lib.hid (show Below w.heap.size w (w.alloc (.cells #[.slice none 0 0, .slice none 0 0] 26)) from (Below.refl _ _).alloc (Nat.le_refl _) _)
  have hR := row_new w 26 #[.slice none 0 0, .slice none 0 0]
  have c0 : (w.alloc (.cells #[.slice none 0 0, .slice none 0 0] 26)).cell? ⟨w.heap.size, 0, none⟩ = some (.slice none 0 0) := hR.cell 0
  have c1 : (w.alloc (.cells #[.slice none 0 0, .slice none 0 0] 26)).cell? ⟨w.heap.size, 1, none⟩ = some (.slice none 0 0) := hR.cell 1
  clear hR
  go_enter Try.func57, Try.ntmps57
  go_wp2_with fail
  generalize w.alloc (.cells #[.slice none 0 0, .slice none 0 0] 26) = w1 at *
  refine (heldTl_nil (K : Int) w1).mono ?_
  rintro e w2 ⟨rfl, rfl⟩
  go_wp2_with fail
  refine (heldPd_nil (K : Int) w1).mono ?_
  rintro e w2 ⟨rfl, rfl⟩
  go_wp2
  go_ret
  exact ⟨rfl, HL.out⟩
/-- A decoded configuration, marked from 1 on. -/
def MkC (w : World) (B : Nat) (TA : Option Addr) (tc : Nat) (PA : Option Addr) (pc n m : Nat) (ls : List Nat) : Prop := (n = 0 ∧ m = 0 ∧ TA = none ∧ PA = none ∧ tc = 0 ∧ pc = 0) ∨ ∃ g gp hds, TA = some ⟨g, 0, none⟩ ∧ PA = some ⟨gp, 0, none⟩ ∧ CMk w B g gp n m (2 * n) m 1 hds ls
theorem MkC.on {w w' : World} {B : Nat} {TA PA : Option Addr} {tc pc n m : Nat} {ls : List Nat} (h : MkC w B TA tc PA pc n m ls) (hb : Below w.heap.size w w') : MkC w' B TA tc PA pc n m ls := by
  rcases h with h | ⟨g, gp, hds, e1, e2, h⟩
  · exact .inl h
  · exact .inr ⟨g, gp, hds, e1, e2, h.on hb⟩
theorem markCf_any (bs : List Nat) (B : Nat) (TA PA : Option Addr) (tc pc n m : Nat) (hs : List Value) (w : World) (h : CfAt w B (dT bs) (dP bs) hs TA tc PA pc) (hc : (TA = none ∧ PA = none ∧ dT bs = [] ∧ dP bs = []) ∨ (dT bs).length = 25 ∧ (dP bs).length = 3) (hn : (dT bs).length = n) (hm : (dP bs).length = m) (hB : B ≤ w.heap.size) :
    Calls Try.prog 42 #[cfv TA n tc PA m pc, .int .i64 (1 : Nat)] w fun e w' => e = .returned (.int .i64 (1 + ofT 1 (lensT (dT bs)) (2 * n) + m * 2 : Nat)) ∧ MkC w' B TA tc PA pc n m (lensT (dT bs)) ∧ Below B w w' ∧ RKeep3 w w' := by
  rcases hc with ⟨rfl, rfl, h1, h2⟩ | ⟨h1, h2⟩
  · have htc : tc = 0 := by
      rcases h.tl.1.2 with ⟨hv, _⟩ | ⟨g', cap', cur, hv, _⟩
      · injection hv
      · cases hv
    have hpc : pc = 0 := by
      have h5 : World.ownsRow _ _ _ _ _ _ _ := h.pd
      rcases h5.2 with ⟨hv, _⟩ | ⟨g', cap', cur, hv, _⟩
      · injection hv
      · cases hv
    subst htc hpc
    rw [h1] at hn ⊢
    rw [h2] at hm
    simp at hn hm
    subst hn hm
    exact (markCf_nil 1 w (by omega)).mono fun _ _ ⟨a, b⟩ => ⟨a, .inl ⟨rfl, rfl, rfl, rfl, rfl, rfl⟩, b.mono hB, fun q t cs _ _ _ r => r.below b r.lt⟩
  · obtain ⟨g, rfl⟩ := h.tl.ptr (by omega)
    obtain ⟨gp, rfl⟩ := h.pd.ptr (by omega)
    obtain ⟨hds, hmk⟩ := h.marks 1 (lensD_le (dT_bd bs) rfl) (dT_tot bs) (by omega) (by omega)
    rw [hn, hm] at hmk
    exact (markConfig_any g gp n m tc pc 1 B hds _ w hmk).mono fun _ _ ⟨a, b, c, d⟩ => ⟨a, .inr ⟨g, gp, hds, rfl, rfl, b⟩, c, d⟩
theorem heldCf_any (B : Nat) (TA PA : Option Addr) (tc pc n m : Nat) (ls : List Nat) (w : World) (h : MkC w B TA tc PA pc n m ls) :
    Calls Try.prog 57 #[cfv TA n tc PA m pc, .int .i64 (1 : Nat)] w fun e w' => e = .returned (.int .i64 (1 + ofT 1 ls (2 * n) + m * 2 : Nat)) ∧ Below w.heap.size w w' := by
  rcases h with ⟨rfl, rfl, rfl, rfl, rfl, rfl⟩ | ⟨g, gp, hds, rfl, rfl, h⟩
  · exact heldCf_nil 1 w (by omega)
  · exact heldConfig_any g gp n m tc pc 1 B hds ls w h
theorem markBy_at (g B cap n K : Nat) (xs : List Nat) (w : World) (h : ByAt w B xs (some ⟨g, 0, none⟩) cap) (hn : xs.length = n) (ht : K ≤ 1000000) (hnb : n ≤ 2000000) :
    Calls Try.prog 54 #[.slice (some ⟨g, 0, none⟩) n cap, .int .i64 K] w fun e w' => e = .returned (.int .i64 (K + n : Nat)) ∧ Only (some g) w w' := by
  have hl := h.cells.2.1
  obtain ⟨cur, hcur, hsz⟩ : ∃ cur, Row w g 5 cur ∧ n ≤ cur.size := by
    rcases h.2 with ⟨hv, _⟩ | ⟨g', c', cur, hv, _, h2, h3, _, h5, _⟩
    · cases hv
    · injection hv with e1 e2 e3
      injection e1 with e1
      injection e1 with e1
      subst e1 e3
      exact ⟨cur, h2, by omega⟩
  exact (markBy_row g cap n K w ⟨cur, hcur, hsz, fun j hj => absurd hj (by omega)⟩ ht hnb).mono fun _ _ ⟨a, _, b⟩ => ⟨a, b⟩
theorem CfAt.keep {w w' : World} {B : Nat} {ts : List Tl} {ps : List Pd} {hs : List Value} {TA : Option Addr} {tc : Nat} {PA : Option Addr} {pc : Nat} (h : CfAt w B ts ps hs TA tc PA pc) (hk : ∀ b, B ≤ b → b < w.heap.size → w'.heap[b]? = w.heap[b]?) (hz : w.heap.size ≤ w'.heap.size) : CfAt w' B ts ps hs TA tc PA pc := ⟨h.tl.keep hk hz, h.pd.keep hk, h.dist⟩
end Go.Proofs.Ytkkkkalgfmddbaa
