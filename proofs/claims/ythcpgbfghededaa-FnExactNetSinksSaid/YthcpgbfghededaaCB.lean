/- The contract of the program's insertion into sorted lists. -/
import Derived.Test.YthcpgbfghededaaCA
namespace Go.Proofs.Ythcpgbfghededaa
open Go.RowKit Go.Deep Cut

theorem ListIn.at2 {w : World} {S : Nat → Prop} {A : Option Addr} {xs : Cs} {B : Nat} (h : ListIn w S A xs) (hS : ∀ b, S b → b < B) : ListAt w B A xs := h.kept (fun _ _ => rfl) hS
theorem IntsIn.at2 {w : World} {S : Nat → Prop} {A : Option Addr} {xs : List Int} {B : Nat} (h : IntsIn w S A xs) (hS : ∀ b, S b → b < B) : IntsAt w B A xs := h.kept (fun _ _ => rfl) hS
theorem getD_memC {xs : Cs} {k : Nat} (hk : k < xs.length) : xs.getD k [] ∈ xs := by
  rw [List.getD_eq_getElem?_getD, List.getElem?_eq_getElem hk]
  exact List.getElem_mem hk
theorem Hdrs.one {w : World} {S : Nat → Prop} {hs : List Value} {K : Cs} (h : Hdrs w S hs K) : ∀ v ∈ hs, v.oneCell' = true := fun v hv => by
  obtain ⟨k, hk, e⟩ := List.mem_iff_getElem.1 hv
  obtain ⟨A, cap, e2, _⟩ := h.2 k (by have := h.1; omega)
  rw [List.getElem?_eq_getElem hk] at e2
  injection e2 with e2
  rw [← e, e2]
  rfl
theorem insert_any (B b n cap vb vc i : Nat) (hs : List Value) (A : Option Addr) (x : List Nat) (c : Nat) (w : World) (K : Cs) (hown : w.ownsRow B 23 1 (.slice (some ⟨b, 0, none⟩) n cap) n hs) (hnb : n ≤ 1000) (hi : i ≤ n)
    (hvr : Row w vb 23 #[.slice A x.length c]) (hvb : vb ≠ b) (h1s : ∀ v ∈ hs, v.oneCell' = true) :
    Calls Try.prog 115 #[.slice (some ⟨b, 0, none⟩) n cap, .int .i64 i, .slice (some ⟨vb, 0, none⟩) 1 vc] w (InsOut w B b n i K hs A x c) := by
  by_cases h1 : i = n
  · subst h1
    exact insert_end B b i cap vb vc hs A x c w K hown hnb (hvr.cell 0)
  · by_cases h2 : n + 1 ≤ cap
    · exact insert_shift B b n cap vb vc i hs A x c w K hown hnb (by omega) h2 hvr hvb h1s
    · exact insert_grow B b n cap vb vc i hs A x c w K hown hnb (by omega) (by omega) hvr h1s
theorem Row.ne {w : World} {a b : Nat} {t t' : TypeId} {cs cs' : Array Value} (h : Row w a t cs) (h' : Row w b t' cs') (ht : t ≠ t') : a ≠ b := fun e => by
  subst e
  unfold Row at h h'
  rw [h] at h'
  injection h' with h'
  injection h' with _ h'
  exact ht h'
/-- Lists lie elsewhere than a block of another type. -/
theorem LeafIn.off {w : World} {S T : Nat → Prop} {A : Option Addr} {x : List Nat} {g : Nat} {t : TypeId} {cs : Array Value} (h : LeafIn w S A x) (hg : Row w g t cs) (ht : t ≠ 3) (hT : ∀ b, S b → b ≠ g → T b) : LeafIn w T A x := by
  rcases h with h | ⟨b, cs', e, hs, hr, hc⟩
  · exact .inl h
  · exact .inr ⟨b, cs', e, hT b hs (hr.ne hg (Ne.symm ht)), hr, hc⟩
theorem Hdrs.off {w : World} {S T : Nat → Prop} {hs : List Value} {K : Cs} {g : Nat} {t : TypeId} {cs : Array Value} (h : Hdrs w S hs K) (hg : Row w g t cs) (ht : t ≠ 3) (hT : ∀ b, S b → b ≠ g → T b) : Hdrs w T hs K := ⟨h.1, fun k hk => by
  obtain ⟨A, cap, e, hx⟩ := h.2 k hk
  exact ⟨A, cap, e, hx.off hg ht hT⟩⟩
theorem LstAt.row {w : World} {B g cap : Nat} {xs : Cs} {hs : List Value} (h : LstAt w B xs hs g cap) : ∃ cur, Row w g 23 cur := by
  obtain ⟨cur, hr, _⟩ := own_parts h.1
  exact ⟨cur, hr⟩
/-- A list of lists beside which another block has turned. -/
theorem LstAt.beside {w w' : World} {B g cap g2 : Nat} {xs : Cs} {hs : List Value} {t : TypeId} {cs : Array Value} (h : LstAt w B xs hs g cap) (hne : g ≠ g2) (h2 : Row w g2 t cs) (ht : t ≠ 3) (hsame : ∀ b, b < w.heap.size → b ≠ g2 → w'.heap[b]? = w.heap[b]?) (hsz : w.heap.size ≤ w'.heap.size) : LstAt w' B xs hs g cap :=
  ⟨ownsRow_keep h.1 (hsame g h.gb.2 hne), (h.2.off (T := fun b => Off w B g b ∧ b ≠ g2) h2 ht (fun _ h1 h2 => ⟨h1, h2⟩)).kept (fun b hb => hsame b hb.1.2.1 hb.2) (fun b hb => Off.on hsz b hb.1)⟩
theorem LeafIn.beside {w w' : World} {S T : Nat → Prop} {A : Option Addr} {x : List Nat} {g2 : Nat} {t : TypeId} {cs : Array Value} (h : LeafIn w S A x) (h2 : Row w g2 t cs) (ht : t ≠ 3) (hS : ∀ b, S b → b < w.heap.size) (hsame : ∀ b, b < w.heap.size → b ≠ g2 → w'.heap[b]? = w.heap[b]?) (hT : ∀ b, S b → T b) : LeafIn w' T A x :=
  (h.off (T := fun b => S b ∧ b ≠ g2) h2 ht (fun _ h1 h2 => ⟨h1, h2⟩)).kept (fun b hb => hsame b (hS b hb.1) hb.2) (fun b hb => hT b hb.1)

/-- What is known of the sorted lists. -/
structure Sorted (w : World) (B kb : Nat) (K : Cs) (hk : List Value) (gk ck : Nat) : Prop where
  lst : LstAt w B K hk gk ck
  box : Row w kb 129 #[.slice (some ⟨gk, 0, none⟩) K.length ck]
  ls : LS K
  fit : ∀ x, x ∈ K → x.length ≤ 3
def InMOut (w : World) (B kb gk : Nat) (K : Cs) (x : List Nat) (e : Ending) (w' : World) : Prop :=
  (x ∈ K ∧ e = .returned (.bool false) ∧ w = w') ∨
  (x ∉ K ∧ e = .returned (.bool true) ∧ Below B w w' ∧ (∀ k, k < w.heap.size → k ≠ gk → k ≠ kb → w'.heap[k]? = w.heap[k]?) ∧
    ∃ K' hk' gk' ck', Sorted w' B kb K' hk' gk' ck' ∧ (∀ z, z ∈ K' ↔ z ∈ K ∨ z = x) ∧ K'.length = K.length + 1 ∧ (gk' = gk ∨ w.heap.size ≤ gk'))

set_option maxHeartbeats 1000000 in
theorem insM_any (B kb gk ck c : Nat) (K : Cs) (hk : List Value) (A : Option Addr) (x : List Nat) (w : World) (hS : Sorted w B kb K hk gk ck) (hkb : B ≤ kb) (hn : K.length ≤ 100) (hx3 : x.length ≤ 3) (hx : LeafIn w (From w B) A x) :
    Calls Try.prog 108 #[.pointer (some ⟨kb, 0, none⟩), .slice A x.length c] w (InMOut w B kb gk K x) := by
  obtain ⟨cur, hrow⟩ := hS.lst.row
  have hgk := hS.lst.gb
  have hkl := hS.box.lt
  have hne : gk ≠ kb := hrow.ne hS.box (by decide)
  have hbox := hS.box.cell 0
  simp at hbox
  have HS := Lib.hid hS
  have HX := Lib.hid hx
  have HR := Lib.hid hrow
  have HLK : Hid (ListAt w w.heap.size (some ⟨gk, 0, none⟩) K) := Lib.hid (ListIn.at2 (own_row (T := fun b => b < w.heap.size) hS.lst.1 hS.lst.2 (fun b hb => hb.2.1) hgk.2).lists (fun _ h => h))
  have HIX : Hid (IntsAt w w.heap.size A (Opt.intL x)) := Lib.hid (IntsIn.at2 hx.ints (fun b hb => hb.2))
  clear hS hx hrow
  go_enter Try.func108, Try.ntmps108
  go_wp2_with fail
  refine (search_any (some ⟨gk, 0, none⟩) A K.length x.length ck c K x _ HLK.out HIX.out rfl rfl (by omega) (by omega) (fun k hk => by have := HS.out.fit _ (getD_memC hk); omega) HS.out.ls).mono ?_
  rintro e w1 ⟨⟨p, hp, rfl⟩, rfl⟩
  have HP := Lib.hid hp
  have hpl := hp.le
  clear hp
  cases hd : decide (x ∈ K) with
  | true =>
    have HD := Lib.hid hd
    clear hd
    go_wp2
    go_ret
    exact .inl ⟨by simpa using HD.out, rfl, rfl⟩
  | false =>
    have HD : Hid (x ∉ K) := Lib.hid (by simpa using hd)
    clear hd
    have hb1 : Below B w (w.alloc (.cells #[.slice A x.length c] 23)) := (Below.refl B w).alloc (by omega) _
    have hbw : Below w.heap.size w (w.alloc (.cells #[.slice A x.length c] 23)) := (Below.refl _ w).alloc (Nat.le_refl _) _
    have HB1 := Lib.hid hb1
    have HK1 : Hid (∀ k, k < w.heap.size → (w.alloc (.cells #[.slice A x.length c] 23)).heap[k]? = w.heap[k]?) := Lib.hid (fun k hk => hbw.block k hk)
    have HL1 := Lib.hid (HS.out.lst.on hbw)
    have HV1 : Hid (Row (w.alloc (.cells #[.slice A x.length c] 23)) w.heap.size 23 #[.slice A x.length c]) := Lib.hid (heap_alloc_new w _)
    have HX1 := Lib.hid (HX.out.kept (T := From w B) (fun b hb => hbw.block b hb.2) (fun _ h => h))
    have hz1 : (w.alloc (.cells #[.slice A x.length c] 23)).heap.size = w.heap.size + 1 := by simp
    have HBX1 := Lib.hid (HS.out.box.below hbw hkl)
    have HR1 := Lib.hid (HR.out.below hbw hgk.2)
    clear hb1 hbw
    go_wp2_with fail
    generalize w.alloc (.cells #[.slice A x.length c] 23) = w2 at *
    refine (insert_any B gk K.length ck w.heap.size 1 p hk A x c _ K HL1.out.1 (by omega) hpl HV1.out (by omega) HL1.out.2.one).mono ?_
    rintro e w3 ⟨b', cap', rfl, hown3, hb3, hk3, hor3⟩
    have hbx3 : Row w3 kb 129 #[.slice (some ⟨gk, 0, none⟩) K.length ck] := (hk3 kb (by omega) (fun e => hne e.symm)).trans HBX1.out
    have y0 := hbx3.cell 0
    have x0 := hbx3.frozen 0
    simp at y0
    have HBX3 := Lib.hid hbx3
    have HO3 := Lib.hid hown3
    have HB3 := Lib.hid hb3
    have HK3 := Lib.hid hk3
    clear hbx3 hown3 hb3 hk3
    have hkl' : (K.take p ++ [x] ++ K.drop p).length = K.length + 1 := by simp; omega
    have hbk : b' ≠ kb := by
      rcases hor3 with h | h
      · rw [h]; exact hne
      · omega
    have hz3 : w2.heap.size ≤ w3.heap.size := HB3.out.size
    have hHd : Hdrs w3 (Off w3 B b') (insV hk p (.slice A x.length c)) (K.take p ++ [x] ++ K.drop p) :=
      (HL1.out.2.ins hpl (HX1.out.off (T := Off w2 B gk) HR1.out (by decide) (fun b h1 h2 => ⟨h1.1, by have := h1.2; omega, h2⟩))).kept (fun b hb => HK3.out b hb.2.1 hb.2.2) (fun b hb => ⟨hb.1, by have := hb.2.1; omega, by
        rcases hor3 with h | h
        · rw [h]; exact hb.2.2
        · have := hb.2.1; omega⟩)
    have hL3 : LstAt w3 B (K.take p ++ [x] ++ K.drop p) (insV hk p (.slice A x.length c)) b' cap' := ⟨by rw [hkl']; exact HO3.out, hHd⟩
    have HL4 := Lib.hid (hL3.beside (w' := w3.setCell ⟨kb, 0, none⟩ (.slice (some ⟨b', 0, none⟩) (K.length + 1) cap')) hbk HBX3.out (by decide) (fun b h1 h2 => Below.heap_setCell w3 ⟨kb, 0, none⟩ _ b (by exact h2)) (by simp [World.setCell]))
    have hb4 := HBX3.out.set 0 (.slice (some ⟨b', 0, none⟩) (K.length + 1) cap')
    have HB4 : Hid (Row (w3.setCell ⟨kb, 0, none⟩ (.slice (some ⟨b', 0, none⟩) (K.length + 1) cap')) kb 129 #[.slice (some ⟨b', 0, none⟩) (K.take p ++ [x] ++ K.drop p).length cap']) := Lib.hid (by rw [hkl']; simpa using hb4)
    have HKL := Lib.hid hkl'
    have HF : Hid (Below B w (w3.setCell ⟨kb, 0, none⟩ (.slice (some ⟨b', 0, none⟩) (K.length + 1) cap'))) := Lib.hid ((HB1.out.trans HB3.out).setCell (p := ⟨kb, 0, none⟩) hkb _)
    have HK4 : Hid (∀ k, k < w.heap.size → k ≠ gk → k ≠ kb → (w3.setCell ⟨kb, 0, none⟩ (.slice (some ⟨b', 0, none⟩) (K.length + 1) cap')).heap[k]? = w.heap[k]?) := Lib.hid (fun k h1 h2 h3 => (Below.heap_setCell w3 ⟨kb, 0, none⟩ _ k (by exact h3)).trans ((HK3.out k (by omega) h2).trans (HK1.out k h1)))
    have HOR : Hid (b' = gk ∨ w.heap.size ≤ b') := Lib.hid (by
      rcases hor3 with h | h
      · exact .inl h
      · exact .inr (by omega))
    clear hHd hL3 hb4 hkl' hor3
    go_wp2
    go_ret
    exact .inr ⟨HD.out, rfl, HF.out, HK4.out, _, _, _, _, ⟨HL4.out, HB4.out, HP.out.ins HS.out.ls HD.out, fun z hz => by
      rcases (ins_mem z).1 hz with h | h
      · exact HS.out.fit z h
      · rw [h]; exact hx3⟩, fun z => ins_mem z, HKL.out, HOR.out⟩
end Go.Proofs.Ythcpgbfghededaa
