/- The contract of the program's unions of cuts. -/
import Derived.Test.YtliedgaefgomjaaGreatCB
namespace Go.Proofs.YtliedgaefgomjaaGreat
open Go.RowKit Go.Deep Cut

/-- The block of a slice that is not empty. -/
def vblk : Value → Option Nat
  | .slice (some a) (_ + 1) _ => some a.block
  | _ => none
/-- No two slices share a block. -/
def DistH (hs : List Value) : Prop := ∀ (j k : Nat), j < k → ∀ (u v : Value), hs[j]? = some u → hs[k]? = some v → ∀ b, vblk u = some b → vblk v ≠ some b
theorem DistH.nil : DistH [] := fun j k _ u v hu => by simp at hu
theorem DistH.snoc {hs : List Value} {v : Value} {N : Nat} (h : DistH hs) (hl : ∀ u, u ∈ hs → ∀ b, vblk u = some b → b < N) (hv : ∀ b, vblk v = some b → N ≤ b) : DistH (hs ++ [v]) := by
  intro j k hjk u v' hu hv' b hb hb'
  have hk := (List.getElem?_eq_some_iff.1 hv').1
  simp at hk
  rw [List.getElem?_append_left (by omega)] at hu
  by_cases e : k < hs.length
  · rw [List.getElem?_append_left e] at hv'
    exact h j k hjk u v' hu hv' b hb hb'
  · obtain rfl : k = hs.length := by omega
    simp at hv'
    subst hv'
    have h1 := hl u (List.mem_of_getElem? hu) b hb
    have h2 := hv b hb'
    omega
theorem LeafIn.blk {w : World} {S : Nat → Prop} {A : Option Addr} {x : List Nat} {c : Nat} (h : LeafIn w S A x) : ∀ b, vblk (.slice A x.length c) = some b → S b := by
  intro b hb
  rcases h with h | ⟨b', cs, e, hs, _⟩
  · subst h; cases A <;> simp [vblk] at hb
  · subst e
    cases x with
    | nil => simp [vblk] at hb
    | cons y ys => simp [vblk] at hb; subst hb; exact hs
theorem Hdrs.blk {w : World} {S : Nat → Prop} {hs : List Value} {K : Cs} (h : Hdrs w S hs K) : ∀ u, u ∈ hs → ∀ b, vblk u = some b → S b := by
  intro u hu b hb
  obtain ⟨k, hk, e⟩ := List.mem_iff_getElem.1 hu
  obtain ⟨A, cap, e2, hx⟩ := h.2 k (by have := h.1; omega)
  rw [List.getElem?_eq_getElem hk] at e2
  injection e2 with e2
  rw [← e, e2] at hb
  exact hx.blk b hb
section
variable {ops : Array Oper} {rest : List Oper} {o : Oper} {a : Act} {Q : Exit → Act → World → Prop}
/-- One more list; where the row lies behind it. -/
theorem wpList_push2b (hgd : o.guard = none) (s x : Operand) (ho : o.op = .call { callee := .builtin .append, args := #[s, x], argTypes := #[125, 125] })
    (wr : World) (B g cap n : Nat) (xs : Cs) (hs : List Value) (hev : a.eval s = .slice (some ⟨g, 0, none⟩) n cap) (hn : xs.length = n) (h : LstAt wr B xs hs g cap) (hnb : n ≤ 1000)
    (A : Option Addr) (m c : Nat) (y : List Nat) (hx : a.eval x = .slice (some ⟨wr.heap.size, 0, none⟩) 1 1) (hm : y.length = m) (hL : LeafIn wr (Off wr B g) A y)
    (cont : ∀ g' cap' w5, LstAt w5 B (xs ++ [y]) (hs ++ [.slice A m c]) g' cap' → Below B wr w5 → (∀ b, b < wr.heap.size → b ≠ g → w5.heap[b]? = wr.heap[b]?) → (g' = g ∨ wr.heap.size ≤ g') → wpList Tryz.prog ops Q rest (a.put o.dst (.slice (some ⟨g', 0, none⟩) (n + 1) cap')) w5) :
    wpList Tryz.prog ops Q (o :: rest) a (wr.alloc (.cells #[.slice A m c] 23)) := by
  subst hn
  obtain ⟨i0, hi0, hz0, hz1, hz2⟩ := info_split Tryz.info23
  obtain ⟨hB, hgl⟩ := h.gb
  refine wpList_append_kept _ hgd s x 125 ho B 23 i0 _ 1 24 Tryz.underlying125 hi0 hz0 hz1 hz2 rfl (by omega) (.slice (some ⟨g, 0, none⟩) xs.length cap) xs.length hs hev (h.1.alloc _) ⟨wr.heap.size, 0, none⟩ 1 1 [.slice A m c] hx rfl (World.news_of_block (cs := #[.slice A m c]) (t := 23) (fr := (0, 0)) (heap_alloc_new wr _)) (by simp [Value.oneCell']) (by omega) (by simp [maxLen]; omega) (by omega) (by simp; omega) _ rfl ?_
  intro g' cap' w5 hown5 hgr5 hat5 hlt5 hkept5
  refine cont g' cap' w5 ⟨by rw [List.length_append, List.length_singleton]; exact hown5, ?_⟩ (below_alloc_grown hgr5 (by omega) hB) (off_grown hgr5) ?_
  · exact (h.2.kept (fun b hb => off_grown hgr5 b hb.2.1 hb.2.2) (off_step hgr5 hat5)).snoc hm (hL.kept (fun b hb => off_grown hgr5 b hb.2.1 hb.2.2) (off_step hgr5 hat5))
  · rcases hat5 with h | h
    · simp [Value.ownBlock] at h; exact .inl h.symm
    · simp at h; exact .inr (by omega)
end
/-- Two other blocks have turned. -/
theorem LstAt.beside2 {w w' : World} {B g cap g2 g3 : Nat} {xs : Cs} {hs : List Value} {t2 t3 : TypeId} {c2 c3 : Array Value} (h : LstAt w B xs hs g cap) (n2 : g ≠ g2) (n3 : g ≠ g3) (h2 : Row w g2 t2 c2) (h3 : Row w g3 t3 c3) (e2 : t2 ≠ 3) (e3 : t3 ≠ 3) (hsame : ∀ b, b < w.heap.size → b ≠ g2 → b ≠ g3 → w'.heap[b]? = w.heap[b]?) (hsz : w.heap.size ≤ w'.heap.size) : LstAt w' B xs hs g cap :=
  ⟨ownsRow_keep h.1 (hsame g h.gb.2 n2 n3), ((h.2.off (T := fun b => Off w B g b ∧ b ≠ g2) h2 e2 (fun _ h1 h2 => ⟨h1, h2⟩)).off (T := fun b => (Off w B g b ∧ b ≠ g2) ∧ b ≠ g3) h3 e3 (fun _ h1 h2 => ⟨h1, h2⟩)).kept (fun b hb => hsame b hb.1.1.2.1 hb.1.2 hb.2) (fun b hb => Off.on hsz b hb.1.1)⟩
theorem LeafIn.beside2 {w w' : World} {S T : Nat → Prop} {A : Option Addr} {x : List Nat} {g2 g3 : Nat} {t2 t3 : TypeId} {c2 c3 : Array Value} (h : LeafIn w S A x) (h2 : Row w g2 t2 c2) (h3 : Row w g3 t3 c3) (e2 : t2 ≠ 3) (e3 : t3 ≠ 3) (hsame : ∀ b, b < w.heap.size → b ≠ g2 → b ≠ g3 → w'.heap[b]? = w.heap[b]?) (hS : ∀ b, S b → b < w.heap.size) (hT : ∀ b, S b → T b) : LeafIn w' T A x :=
  ((h.off (T := fun b => S b ∧ b ≠ g2) h2 e2 (fun _ h1 h2 => ⟨h1, h2⟩)).off (T := fun b => (S b ∧ b ≠ g2) ∧ b ≠ g3) h3 e3 (fun _ h1 h2 => ⟨h1, h2⟩)).kept (fun b hb => hsame b (hS b hb.1.1) hb.1.2 hb.2) (fun b hb => hT b hb.1.1)
theorem Sorted.on {w w' : World} {B kb gk ck : Nat} {K : Cs} {hk : List Value} (h : Sorted w B kb K hk gk ck) (hb : Below w.heap.size w w') : Sorted w' B kb K hk gk ck := ⟨h.lst.on hb, h.box.below hb h.box.lt, h.ls, h.fit⟩
theorem Sorted.beside {w w' : World} {B kb gk ck g : Nat} {K : Cs} {hk : List Value} {cs : Array Value} (h : Sorted w B kb K hk gk ck) (hne : gk ≠ g) (hg : Row w g 23 cs) (hsame : ∀ b, b < w.heap.size → b ≠ g → w'.heap[b]? = w.heap[b]?) (hsz : w.heap.size ≤ w'.heap.size) : Sorted w' B kb K hk gk ck :=
  ⟨h.lst.beside hne hg (by decide) hsame hsz, (hsame kb h.box.lt (h.box.ne hg (by decide))).trans h.box, h.ls, h.fit⟩
/-- What the loops of the unions keep. -/
structure UInv (w wr : World) (B kb : Nat) (U : Cs) (gu cu : Nat) : Prop where
  ex : ∃ hs K hk gk ck, LstAt wr B U hs gu cu ∧ Sorted wr B kb K hk gk ck ∧ gu ≠ gk ∧ (∀ z, z ∈ K ↔ z ∈ U) ∧ K.length = U.length ∧ DistH hs
  lt : U.length < 8
  low : Below B w wr
def UCOut (w : World) (U : Cs) (e : Ending) (w' : World) : Prop := ∃ hs g cap, e = .returned (.slice (some ⟨g, 0, none⟩) U.length cap) ∧ LstAt w' w.heap.size U hs g cap ∧ DistH hs ∧ Below w.heap.size w w'
theorem UInv.on {w wr w' : World} {B kb gu cu : Nat} {U : Cs} (h : UInv w wr B kb U gu cu) (hb : Below wr.heap.size wr w') (hB : B ≤ wr.heap.size) : UInv w w' B kb U gu cu := by
  obtain ⟨hs, K, hk, gk, ck, h1, h2, h3, h4, h5, h6⟩ := h.ex
  exact ⟨⟨hs, K, hk, gk, ck, h1.on hb, h2.on hb, h3, h4, h5, h6⟩, h.lt, h.low.trans (hb.mono hB)⟩
theorem uinv_start (w : World) : UInv w (((w.alloc (.cells #[] 23)).alloc (.cells #[] 23)).alloc (.cells #[.slice (some ⟨w.heap.size + 1, 0, none⟩) 0 0] 158)) w.heap.size (w.heap.size + 1 + 1) [] w.heap.size 0 := by
  have hs1 : (w.alloc (.cells #[] 23)).heap.size = w.heap.size + 1 := by simp
  have hs2 : ((w.alloc (.cells #[] 23)).alloc (.cells #[] 23)).heap.size = w.heap.size + 1 + 1 := by simp
  have b1 : Below w.heap.size w (w.alloc (.cells #[] 23)) := (Below.refl _ _).alloc (Nat.le_refl _) _
  have c1 : Below (w.alloc (.cells #[] 23)).heap.size (w.alloc (.cells #[] 23)) ((w.alloc (.cells #[] 23)).alloc (.cells #[] 23)) := (Below.refl _ _).alloc (Nat.le_refl _) _
  have c2 : Below ((w.alloc (.cells #[] 23)).alloc (.cells #[] 23)).heap.size ((w.alloc (.cells #[] 23)).alloc (.cells #[] 23)) (((w.alloc (.cells #[] 23)).alloc (.cells #[] 23)).alloc (.cells #[.slice (some ⟨w.heap.size + 1, 0, none⟩) 0 0] 158)) := (Below.refl _ _).alloc (Nat.le_refl _) _
  have l1 : LstAt (w.alloc (.cells #[] 23)) w.heap.size [] [] w.heap.size 0 := ⟨World.ownsRow_lit (base := w.heap.size) (e := 23) (size := 1) w #[] 0 (by omega) (by simp [maxLen]) (by simp), Hdrs.nil _ _⟩
  have o2 := World.ownsRow_lit (base := w.heap.size) (e := 23) (size := 1) (w.alloc (.cells #[] 23)) #[] 0 (by rw [hs1]; omega) (by simp [maxLen]) (by simp)
  rw [hs1] at o2
  have l2 : LstAt ((w.alloc (.cells #[] 23)).alloc (.cells #[] 23)) w.heap.size [] [] (w.heap.size + 1) 0 := ⟨o2, Hdrs.nil _ _⟩
  have r3 := heap_alloc_new ((w.alloc (.cells #[] 23)).alloc (.cells #[] 23)) (.cells #[.slice (some ⟨w.heap.size + 1, 0, none⟩) 0 0] 158)
  rw [hs2] at r3
  refine ⟨⟨[], [], [], w.heap.size + 1, 0, (l1.on c1).on c2, ⟨l2.on c2, r3, fun i j _ hj => by simp at hj, fun x hx => by simp at hx⟩, by omega, fun z => Iff.rfl, rfl, DistH.nil⟩, by simp, (b1.trans (c1.mono (by omega))).trans (c2.mono (by omega))⟩

set_option maxRecDepth 4000 in
set_option maxHeartbeats 1000000 in
theorem unionCuts_any (A A' : Option Addr) (n m cap cap' : Nat) (P Qs : Cs) (w : World) (hp : ListAt w w.heap.size A P) (hq : ListAt w w.heap.size A' Qs) (hn : P.length = n) (hm : Qs.length = m) (hnb : n ≤ 9) (hmb : m ≤ 9)
    (fp : ∀ x, x ∈ P → x.length ≤ 3) (fq : ∀ x, x ∈ Qs → x.length ≤ 3) (sp : ∀ x, x ∈ P → SA x) (sq : ∀ x, x ∈ Qs → SA x) :
    Calls Tryz.prog 107 #[.slice A n cap, .slice A' m cap'] w (UCOut w (uni P Qs)) := by
  have HP := Lib.hid hp
  have HQ := Lib.hid hq
  have HN := Lib.hid hn
  have HM := Lib.hid hm
  have HFP := Lib.hid fp
  have HFQ := Lib.hid fq
  have HSP := Lib.hid sp
  have HSQ := Lib.hid sq
  have HI0 := Lib.hid (uinv_start w)
  clear hp hq hn hm fp fq sp sq
  go_enter Tryz.func107, Tryz.ntmps107
  go_wp2
  generalize ((w.alloc (.cells #[] 23)).alloc (.cells #[] 23)).alloc (.cells #[.slice (some ⟨w.heap.size + 1, 0, none⟩) 0 0] 158) = w0 at *
  go_loopw [5, 16] (fun lv av wr => ∃ (a gu cu : Nat), a ≤ n ∧ av = .int .i64 a ∧ lv = .slice (some ⟨gu, 0, none⟩) (uniA [] (P.take a) Qs).length cu ∧ Hid (UInv w wr w.heap.size (w.heap.size + 1 + 1) (uniA [] (P.take a) Qs) gu cu)) (fun _ av _ => n - (intOf av).toNat)
  case atStart => exact ⟨0, _, _, Nat.zero_le _, rfl, rfl, HI0⟩
  case round =>
    clear HI0
    obtain ⟨a, gu, cu, ha, rfl, rfl, HI⟩ := hrel
    by_cases hap : a < n
    · have haP : a < P.length := by rw [HN.out]; exact hap
      obtain ⟨bp, op, rfl, hbp, Ax, cx, hcx, hx⟩ := HP.out a haP
      have hcxr := (HI.out.low.cell (p := ⟨bp, op + a, none⟩) hbp).trans hcx
      have HX := Lib.hid (IntsIn.at2 (B := w.heap.size) hx (fun _ h => h))
      have hxl := HFP.out _ (getD_memC haP)
      have HXS := Lib.hid (HSP.out _ (getD_memC haP))
      have HSA := Lib.hid (uniA_step [] P Qs a haP)
      have HDN := Lib.hid (fun k => uni_done P Qs a k haP)
      have HI1 : Hid (UInv w wr w.heap.size (w.heap.size + 1 + 1) (uni1 (uniA [] (P.take a) Qs) (P.getD a []) (Qs.take 0)) gu cu) := HI
      clear hx hcx HI haP
      generalize P.getD a [] = x at *
      generalize uniA [] (P.take a) Qs = U0 at *
      go_wp2
      clear hcxr
      go_loopw [5, 22] (fun lv dv wr => ∃ (d gu cu : Nat), d ≤ m ∧ dv = .int .i64 d ∧ lv = .slice (some ⟨gu, 0, none⟩) (uni1 U0 x (Qs.take d)).length cu ∧ Hid (UInv w wr w.heap.size (w.heap.size + 1 + 1) (uni1 U0 x (Qs.take d)) gu cu)) (fun _ dv _ => m - (intOf dv).toNat)
      case atStart => exact ⟨0, gu, cu, Nat.zero_le _, rfl, rfl, HI1⟩
      case round =>
        clear HI1
        obtain ⟨d, gu, cu, hd, rfl, rfl, HI⟩ := hrel
        by_cases hdm : d < m
        · have hdQ : d < Qs.length := by rw [HM.out]; exact hdm
          obtain ⟨bq, oq, rfl, hbq, Ay, cy, hcy, hy⟩ := HQ.out d hdQ
          have hcyr := (HI.out.low.cell (p := ⟨bq, oq + d, none⟩) hbq).trans hcy
          have hyl := HFQ.out _ (getD_memC hdQ)
          have HYS := Lib.hid (HSQ.out _ (getD_memC hdQ))
          have hy' := IntsIn.at2 (B := w.heap.size) hy (fun _ h => h)
          have hbs := HI.out.low.size
          have HXr := Lib.hid ((HX.out.below HI.out.low).mono hbs)
          have HYr := Lib.hid ((hy'.below HI.out.low).mono hbs)
          have HSU := Lib.hid (uni1_step U0 x Qs d hdQ)
          have HDN1 := Lib.hid (HDN.out (d + 1))
          obtain ⟨hs, K, hk, gk, ck, h1, h2, h3, h4, h5, h6⟩ := HI.out.ex
          have hgu := h1.gb
          have HBK := Lib.hid (fun u hu b hb => (h1.2.blk u hu b hb).2.1)
          have H1w := Lib.hid h1
          have H2w := Lib.hid h2
          have H4 := Lib.hid h4
          have H5 := Lib.hid h5
          have H6 := Lib.hid h6
          clear h1 h2 h4 h5 h6
          clear hy hy' hcy hdQ
          generalize Qs.getD d [] = y at *
          rw [HSU.out] at HDN1
          generalize uni1 U0 x (Qs.take d) = U at *
          go_wp2_with fail
          refine (unionOf_any Ax Ay x.length y.length cx cy x y _ HXr.out HYr.out rfl rfl (by omega) (by omega) HXS.out HYS.out).mono ?_
          rintro e w5 ⟨Az, cz, rfl, hL5, hb5⟩
          have HL5 := Lib.hid hL5
          have HI5 := Lib.hid (HI.out.on hb5 hbs)
          have H1 := Lib.hid (H1w.out.on hb5)
          have H2 := Lib.hid (H2w.out.on hb5)
          have HLW := Lib.hid (HI.out.low.trans (hb5.mono hbs))
          clear H1w H2w
          have hml := merge_len x y
          have hz5 : wr.heap.size ≤ w5.heap.size := hb5.size
          have hu8 := HI.out.lt
          clear hL5 hb5 HXr HYr hcyr HI
          have HPUT : Hid (put U (merge x y) = if (merge x y).length ≤ 3 ∧ U.length < 8 ∧ merge x y ∉ U then U ++ [merge x y] else U) := Lib.hid rfl
          generalize merge x y = mg at *
          by_cases hl3 : mg.length ≤ 3
          · have hkl : K.length ≤ 8 := by have := H5.out; omega
            have HF5 : Hid (LeafIn w5 (From w5 w.heap.size) Az mg) := Lib.hid (HL5.out.kept (fun _ _ => rfl) (fun b hb => ⟨by have := hb.1; omega, hb.2⟩))
            have hz0 : w.heap.size ≤ w5.heap.size := by omega
            go_wp2_with fail
            refine (insM_any w.heap.size (w.heap.size + 1 + 1) gk ck cz K hk Az mg _ H2.out (by omega) (by omega) hl3 HF5.out).mono ?_
            rintro e w6 (⟨hmem, rfl, rfl⟩ | ⟨hmem, rfl, hb6, hk6, K', hk', gk', ck', hS6, hm6, hl6, hor6⟩)
            · have HPE : Hid (uni1 U0 x (Qs.take (d + 1)) = U) := Lib.hid (by rw [HSU.out, HPUT.out, if_neg (fun h => h.2.2 ((H4.out mg).1 hmem))])
              clear hmem
              go_wp2
              go_roundw
              case rel => exact ⟨d + 1, gu, cu, by omega, by go_num, by rw [HPE.out], by rw [HPE.out]; exact HI5⟩
              case measure => simp [intOf]; omega
            · obtain ⟨cgk, hrgk⟩ := H2.out.lst.row
              obtain ⟨cgu, hrgu⟩ := H1.out.row
              have hngb : gu ≠ w.heap.size + 1 + 1 := hrgu.ne H2.out.box (by decide)
              have HM6 := Lib.hid (H1.out.beside2 h3 hngb hrgk H2.out.box (by decide) (by decide) hk6 hb6.size)
              have hz6 : w5.heap.size ≤ w6.heap.size := hb6.size
              have HL6 : Hid (LeafIn w6 (Off w6 w.heap.size gu) Az mg) := Lib.hid (HL5.out.beside2 hrgk H2.out.box (by decide) (by decide) hk6 (fun b hb => hb.2) (fun b hb => ⟨by have := hb.1; omega, by have := hb.2; omega, by have := hb.1; omega⟩))
              have hgg : gk' ≠ gu := by
                rcases hor6 with h | h
                · rw [h]; exact Ne.symm h3
                · omega
              have HS6 := Lib.hid hS6
              have HPE : Hid (put U mg = U ++ [mg]) := Lib.hid (by rw [HPUT.out, if_pos ⟨hl3, hu8, fun h => hmem ((H4.out mg).2 h)⟩])
              have HD6 : Hid (DistH (hs ++ [.slice Az mg.length cz])) := Lib.hid (H6.out.snoc (N := wr.heap.size) HBK.out (fun b hb => (HL5.out.blk b hb).1))
              have HMM : Hid (∀ z, z ∈ K' ↔ z ∈ U ++ [mg]) := Lib.hid (fun z => by rw [hm6 z, List.mem_append, H4.out z]; simp)
              have HLL : Hid (K'.length = U.length + 1) := Lib.hid (by rw [hl6, H5.out])
              have HB6 := Lib.hid (HLW.out.trans hb6)
              clear hrgk hrgu hk6 hb6 hS6 hm6 hl6 hor6 hmem H1 H2 H4 H5 H6 HL5 HBK HLW HI5 HF5
              go_wp2_with (at_builtin; refine wpList_push2b rfl (.tmp 37) (.tmp 39) rfl _ w.heap.size gu cu U.length U hs rfl rfl HM6.out (by omega) Az mg.length cz mg rfl rfl HL6.out ?_)
              intro gu7 cu7 w7 hM7 hb7 hk7 hor7
              obtain ⟨cg6, hr6⟩ := HM6.out.row
              have hS7 := HS6.out.beside hgg hr6 hk7 hb7.size
              have hg7 : gu7 ≠ gk' := by
                rcases hor7 with h | h
                · rw [h]; exact Ne.symm hgg
                · have := HS6.out.lst.gb.2; omega
              have HM7 := Lib.hid hM7
              have HS7 := Lib.hid hS7
              have HB7 := Lib.hid (HB6.out.trans hb7)
              have hln : (U ++ [mg]).length = U.length + 1 := by simp
              have HLN := Lib.hid hln
              rw [HPE.out] at HSU HDN1
              clear hM7 hS7 hb7 hk7 hor7 hr6 hgg HM6 HS6 HB6 HL6 hln
              by_cases h8 : U.length + 1 = 8
              · have HE : Hid (uni P Qs = U ++ [mg]) := Lib.hid (HDN1.out (by rw [HLN.out]; exact h8))
                go_wp2
                go_ret
                exact ⟨_, gu7, cu7, by rw [HE.out, HLN.out]; rfl, by rw [HE.out]; exact HM7.out, HD6.out, HB7.out⟩
              · have HI7 : Hid (UInv w w7 w.heap.size (w.heap.size + 1 + 1) (uni1 U0 x (Qs.take (d + 1))) gu7 cu7) := Lib.hid (by
                  rw [HSU.out]
                  exact ⟨⟨_, _, _, _, _, HM7.out, HS7.out, hg7, HMM.out, by rw [HLL.out, HLN.out], HD6.out⟩, by rw [HLN.out]; omega, HB7.out⟩)
                clear HDN1 HM7 HS7 HB7 HD6 HMM HLL
                go_wp2
                go_roundw
                case rel => exact ⟨d + 1, gu7, cu7, by omega, by go_num, by rw [HSU.out, HLN.out], HI7⟩
                case measure => simp [intOf]; omega
          · have HPE : Hid (uni1 U0 x (Qs.take (d + 1)) = U) := Lib.hid (by rw [HSU.out, HPUT.out, if_neg (fun h => hl3 h.1)])
            go_wp2
            go_roundw
            case rel => exact ⟨d + 1, gu, cu, by omega, by go_num, by rw [HPE.out], by rw [HPE.out]; exact HI5⟩
            case measure => simp [intOf]; omega
        · obtain rfl : d = m := by omega
          have HE : Hid (uni1 U0 x (Qs.take d) = uniA [] (P.take (a + 1)) Qs) := Lib.hid (by rw [List.take_of_length_le (by rw [HM.out]; exact Nat.le_refl _)]; exact HSA.out.symm)
          rw [HE.out] at HI
          clear HSA HDN
          go_wp2
          go_roundw
          case rel => exact ⟨a + 1, gu, cu, by omega, by go_num, by rw [HE.out], HI⟩
          case measure => simp [intOf]; omega
    · obtain rfl : a = n := by omega
      have hTk : P.take a = P := List.take_of_length_le (by rw [HN.out]; exact Nat.le_refl _)
      rw [hTk] at HI ⊢
      have HU : Hid (uniA [] P Qs = uni P Qs) := Lib.hid rfl
      clear hTk
      obtain ⟨hs, K, hk, gk, ck, h1, h2, h3, h4, h5, h6⟩ := HI.out.ex
      have HR : Hid (UCOut w (uni P Qs) (.returned (.slice (some ⟨gu, 0, none⟩) (uniA [] P Qs).length cu)) wr) := Lib.hid ⟨hs, gu, cu, by rw [HU.out], h1, h6, HI.out.low⟩
      clear h1 h2 h3 h4 h5 h6 HI
      go_wp2
      go_ret
      exact HR.out
end Go.Proofs.YtliedgaefgomjaaGreat
