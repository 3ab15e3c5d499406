/- The model's pins of a net. -/
import Derived.Test.YtliaommpnaagiaaNS
import Derived.Test.YtliaommpnaagiaaPV
import Derived.Test.YtliaommpnaagiaaNP
import Derived.Deep.DeepCutAuto
import Derived.Test.YtliaommpnaagiaaFC
namespace Plc
theorem pickTo_succ (P : Nat → Bool) (k : Nat) : pickTo P (k + 1) = pickTo P k ++ (if P k = true then [k] else []) := by
  show (if P k = true then pickTo P k ++ [k] else pickTo P k) = _
  split
  · rfl
  · rw [List.append_nil]
end Plc
namespace Go.Proofs.Ytliaommpnaagiaa
open Go.RowKit Go.Deep Cut Plc

theorem contains_nat (y : List Nat) (net : Nat) : (Opt.intL y).contains ((net : Nat) : Int) = y.contains net := by
  rw [Bool.eq_iff_iff, List.contains_iff_mem, List.contains_iff_mem]
  unfold Opt.intL
  rw [List.mem_map]
  exact ⟨fun ⟨z, hz, e⟩ => by obtain rfl : z = net := by omega
                              exact hz, fun h => ⟨net, h, rfl⟩⟩
theorem sinks_pick (net : Nat) (ce : List Cl) : ∀ k, sinksTo ((net : Nat) : Int) ce k = pickTo (fun j => (ce.getD j (0, [], 0, false)).2.1.contains net) k
  | 0 => rfl
  | k + 1 => by
    show (if usesB _ _ = true then _ else _) = (if _ then _ else _)
    rw [sinks_pick net ce k]
    unfold usesB
    rw [contains_nat]

end Go.Proofs.Ytliaommpnaagiaa
/- The wire length: what the pins of a net have to do with the model's; sums. -/
namespace Plc
theorem addTo_len : ∀ (ts out : List Nat), (addTo out ts).length ≤ out.length + ts.length
  | [], out => by simp [addTo]
  | t :: r, out => by
    show (addTo (if out.contains t = true then out else out ++ [t]) r).length ≤ _
    have := addTo_len r (if out.contains t = true then out else out ++ [t])
    split at this
    · next h => rw [if_pos h]; simp; omega
    · next h => rw [if_neg h]; simp at this ⊢; omega
theorem pinsP_len (m : Nat) (os : List Nat) (ce : List Ce) (p : List Nat) (net : Nat) : (pinsP m os ce p net).length ≤ 1 + ce.length + ce.length + os.length := by
  unfold pinsP
  split
  · simp
  · have h1 := addTo_len (snkP os ce p net) (srcP m ce p net)
    have h2 : (srcP m ce p net).length ≤ 1 + ce.length := by
      unfold srcP
      rw [List.length_append, List.length_map]
      have := pickTo_len (fun j => (ce.getD j (0, [], 0, false)).1 == net) ce.length
      split
      · show 1 + _ ≤ 1 + ce.length; omega
      · show 0 + _ ≤ 1 + ce.length; omega
    have h3 : (snkP os ce p net).length ≤ ce.length + os.length := by
      unfold snkP
      rw [List.length_append, List.length_map, List.length_map]
      have := pickTo_len (fun j => (ce.getD j (0, [], 0, false)).2.1.contains net) ce.length
      have := pickTo_len (fun o => os.getD o 0 / 2 == net) os.length
      omega
    omega
/-- One tile, however often, has no length. -/
theorem dist_one {ts : List Nat} (h : ∀ x y, x ∈ ts → y ∈ ts → x = y) (hl : ∀ x, x ∈ ts → x ≤ 24) : dist ts = 0 := by
  cases ts with
  | nil => rfl
  | cons t r =>
    have ht := hl t (by simp)
    rw [dist_ext (b := [t]) (fun x => ⟨fun hx => by rw [h x t hx (by simp)]; simp, fun hx => by simp at hx; subst hx; simp⟩), dist_first [] ht]
    simp [hi, lo]
/-- Tiles of pins. -/
theorem tile_in (p : List Nat) (t : Nat) : tileP p (inP t) = t * 5 := by
  unfold tileP inP
  rw [if_pos rfl]
  rfl
theorem tile_ou (p : List Nat) (t : Nat) : tileP p (ouP t) = t * 5 + 4 := by
  unfold tileP ouP
  rw [if_pos rfl]
  rfl
theorem tile_ce (p : List Nat) (t : Nat) : tileP p (ceP t) = p.getD t 0 := by
  unfold tileP ceP
  rw [if_neg (by show ¬ ((t : Int) = -1); omega)]
  rfl
theorem srcP_mem (m : Nat) (ce : List Ce) (p : List Nat) (v x : Nat) : x ∈ srcP m ce p v ↔ (1 ≤ v ∧ v ≤ m ∧ x = (v - 1) * 5) ∨ ∃ j, j < ce.length ∧ (ce.getD j (0, [], 0, false)).1 = v ∧ x = p.getD j 0 := by
  unfold srcP
  rw [List.mem_append, List.mem_map]
  apply or_congr
  · split
    · next h => simp [h]
    · next h => simp; intro h1 h2; exact absurd ⟨h1, h2⟩ h
  · constructor
    · rintro ⟨j, hj, e⟩
      obtain ⟨h1, h2⟩ := (pickTo_mem _ _ j).1 hj
      exact ⟨j, h1, by simpa using h2, e.symm⟩
    · rintro ⟨j, h1, h2, e⟩
      exact ⟨j, (pickTo_mem _ _ j).2 ⟨h1, by simpa using h2⟩, e.symm⟩
theorem snkP_mem (os : List Nat) (ce : List Ce) (p : List Nat) (v x : Nat) : x ∈ snkP os ce p v ↔ (∃ j, j < ce.length ∧ v ∈ (ce.getD j (0, [], 0, false)).2.1 ∧ x = p.getD j 0) ∨ ∃ o, o < os.length ∧ os.getD o 0 / 2 = v ∧ x = o * 5 + 4 := by
  unfold snkP
  rw [List.mem_append, List.mem_map, List.mem_map]
  apply or_congr
  · constructor
    · rintro ⟨j, hj, e⟩
      obtain ⟨h1, h2⟩ := (pickTo_mem _ _ j).1 hj
      exact ⟨j, h1, by simpa using h2, e.symm⟩
    · rintro ⟨j, h1, h2, e⟩
      exact ⟨j, (pickTo_mem _ _ j).2 ⟨h1, by simpa using h2⟩, e.symm⟩
  · constructor
    · rintro ⟨j, hj, e⟩
      obtain ⟨h1, h2⟩ := (pickTo_mem _ _ j).1 hj
      exact ⟨j, h1, by simpa using h2, e.symm⟩
    · rintro ⟨j, h1, h2, e⟩
      exact ⟨j, (pickTo_mem _ _ j).2 ⟨h1, by simpa using h2⟩, e.symm⟩
/-- The tiles of a net's pins. -/
theorem tiles_mem {m : Nat} {os : List Nat} {ce : List Ce} {p : List Nat} {v x : Nat} (hv : v ≠ 0) : (∃ q, pinR m ce os v q ∧ tileP p q = x) ↔ x ∈ srcP m ce p v ∨ x ∈ snkP os ce p v := by
  rw [srcP_mem, snkP_mem]
  constructor
  · rintro ⟨q, ((⟨t, h1, h2, rfl⟩ | ⟨t, h1, h2, rfl⟩) | ⟨t, h1, h2, rfl⟩) | ⟨t, h1, h2, h3, rfl⟩, e⟩
    · rw [tile_in] at e
      exact .inl (.inl ⟨by omega, by omega, by rw [← e, h2]; simp⟩)
    · rw [tile_ce] at e
      exact .inl (.inr ⟨t, h1, h2.symm, e.symm⟩)
    · rw [tile_ce] at e
      exact .inr (.inl ⟨t, h1, h2, e.symm⟩)
    · rw [tile_ou] at e
      exact .inr (.inr ⟨t, h1, h2.symm, e.symm⟩)
  · rintro ((⟨h1, h2, h3⟩ | ⟨j, h1, h2, h3⟩) | (⟨j, h1, h2, h3⟩ | ⟨j, h1, h2, h3⟩))
    · exact ⟨inP (v - 1), .inl (.inl (.inl ⟨v - 1, by omega, by omega, rfl⟩)), by rw [tile_in, h3]⟩
    · exact ⟨ceP j, .inl (.inl (.inr ⟨j, h1, h2.symm, rfl⟩)), by rw [tile_ce, h3]⟩
    · exact ⟨ceP j, .inl (.inr ⟨j, h1, h2, rfl⟩), by rw [tile_ce, h3]⟩
    · exact ⟨ouP j, .inr ⟨j, h1, h2.symm, hv, rfl⟩, by rw [tile_ou, h3]⟩
/-- What is known of a circuit's nets. -/
structure NetOk (m n N : Nat) (ce : List Ce) (ou : List Nat) : Prop where
  len : ce.length = n
  n17 : n ≤ 17
  m4 : m ≤ 4
  N25 : N ≤ 25
  mN : m < N
  ol : ou.length ≤ 3
  ov : ∀ k, k < ou.length → ou.getD k 0 / 2 < N
  net : ∀ k, k < n → m < (ce.getD k (0, [], 0, false)).1 ∧ (ce.getD k (0, [], 0, false)).1 < N
  up : ∀ j k, j < k → k < n → (ce.getD j (0, [], 0, false)).1 < (ce.getD k (0, [], 0, false)).1
  inp : ∀ k, k < n → ∀ l, l ∈ (ce.getD k (0, [], 0, false)).2.1 → 0 < l ∧ l < N
  il : ∀ k, k < n → (ce.getD k (0, [], 0, false)).2.1.length ≤ 3
  once : ∀ k, k < n → Cut.Once (ce.getD k (0, [], 0, false)).2.1
theorem pinR_ok {m n N : Nat} {ce : List Ce} {ou : List Nat} (h : NetOk m n N ce ou) {v : Nat} {x : Pn} (hx : pinR m ce ou v x) : okPin n x := by
  have h0 := h.len
  have h1 := h.m4
  have h2 := h.ol
  rcases hx with ((⟨t, h3, _, rfl⟩ | ⟨t, h3, _, rfl⟩) | ⟨t, h3, _, rfl⟩) | ⟨t, h3, _, _, rfl⟩
  · exact .inl ⟨rfl, by show (0 : Int) ≤ ((t * 5 : Nat) : Int); omega, by show ((t * 5 : Nat) : Int) ≤ 24; omega⟩
  · exact .inr ⟨by show (0 : Int) ≤ ((t : Nat) : Int); omega, by show ((t : Nat) : Int) < n; omega⟩
  · exact .inr ⟨by show (0 : Int) ≤ ((t : Nat) : Int); omega, by show ((t : Nat) : Int) < n; omega⟩
  · exact .inl ⟨rfl, by show (0 : Int) ≤ ((t * 5 + 4 : Nat) : Int); omega, by show ((t * 5 + 4 : Nat) : Int) ≤ 24; omega⟩
/-- The program's length of a net is the model's. -/
theorem net_len {m n N : Nat} {ce : List Ce} {ou : List Nat} (h : NetOk m n N ce ou) {ps : List (List Pn)} (hps : Pins ps (pinR m ce ou)) {p : List Nat} (hp : Pl n p) (v : Nat) : lenP p (ps.getD v []) = if v = 0 then 0 else dist (pinsP m ou ce p v) := by
  have hT : ∀ x, x ∈ (ps.getD v []).map (tileP p) ↔ ∃ q, pinR m ce ou v q ∧ tileP p q = x := fun x => by
    rw [List.mem_map]
    exact ⟨fun ⟨q, h1, h2⟩ => ⟨q, (hps v q).1 h1, h2⟩, fun ⟨q, h1, h2⟩ => ⟨q, (hps v q).2 h1, h2⟩⟩
  have h24 : ∀ x, x ∈ (ps.getD v []).map (tileP p) → x ≤ 24 := fun x hx => by
    obtain ⟨q, h1, rfl⟩ := (hT x).1 hx
    exact tileP_le (pinR_ok h h1) hp.le
  unfold lenP
  split
  · next e =>
    subst e
    have : ps.getD 0 [] = [] := by
      cases hq : ps.getD 0 [] with
      | nil => rfl
      | cons q r =>
        have hm : q ∈ ps.getD 0 [] := by rw [hq]; simp
        rcases (hps 0 q).1 hm with ((⟨t, h3, h4, _⟩ | ⟨t, h3, h4, _⟩) | ⟨t, h3, h4, _⟩) | ⟨t, h3, _, h4, _⟩
        · omega
        · have := (h.net t (by rw [← h.len]; exact h3)).1
          omega
        · have := (h.inp t (by rw [← h.len]; exact h3) _ h4).1
          omega
        · exact absurd rfl h4
    rw [this]
    rfl
  · next hv =>
    by_cases hs : snkP ou ce p v = []
    · have e : pinsP m ou ce p v = [] := by unfold pinsP; rw [if_pos hs]
      rw [e]
      show dist _ = 0
      refine dist_one (fun x y hx hy => ?_) h24
      rw [hT, tiles_mem hv, hs, srcP_mem] at hx hy
      simp only [List.not_mem_nil, or_false] at hx hy
      rcases hx with ⟨a1, a2, a3⟩ | ⟨j, a1, a2, a3⟩
      · rcases hy with ⟨b1, b2, b3⟩ | ⟨k, b1, b2, b3⟩
        · rw [a3, b3]
        · have := (h.net k (by rw [← h.len]; exact b1)).1
          omega
      · rcases hy with ⟨b1, b2, b3⟩ | ⟨k, b1, b2, b3⟩
        · have := (h.net j (by rw [← h.len]; exact a1)).1
          omega
        · have hjk : j = k := by
            rcases Nat.lt_trichotomy j k with c | c | c
            · have := h.up j k c (by rw [← h.len]; exact b1)
              omega
            · exact c
            · have := h.up k j c (by rw [← h.len]; exact a1)
              omega
          rw [a3, b3, hjk]
    · exact dist_ext (fun x => by rw [hT, tiles_mem hv, pinsP_mem]; exact ⟨fun a => ⟨hs, a⟩, fun a => a.2⟩)
/-- The sum of the first k. -/
def sumB (d : Nat → Nat) : Nat → Nat
  | 0 => 0
  | k + 1 => sumB d k + d k
theorem sumB_sumTo (d e : Nat → Nat) (h0 : d 0 = 0) (h : ∀ v, v ≠ 0 → d v = e v) : ∀ z, sumB d (z + 1) = sumTo e z
  | 0 => by simp [sumB, sumTo, h0]
  | z + 1 => by
    show sumB d (z + 1) + d (z + 1) = sumTo e z + e (z + 1)
    rw [sumB_sumTo d e h0 h z, h (z + 1) (by omega)]
theorem sumB_le {d : Nat → Nat} {b : Nat} (h : ∀ v, d v ≤ b) : ∀ k, sumB d k ≤ b * k
  | 0 => by simp [sumB]
  | k + 1 => by
    have := sumB_le h k
    have := h k
    simp only [sumB, Nat.mul_succ]
    omega
theorem cost_sum {m n N : Nat} {ce : List Ce} {ou : List Nat} (h : NetOk m n N ce ou) {ps : List (List Pn)} (hps : Pins ps (pinR m ce ou)) {p : List Nat} (hp : Pl n p) : sumB (fun v => lenP p (ps.getD v [])) N = costP m (N - 1) ou ce p := by
  have := h.mN
  obtain ⟨z, rfl⟩ : ∃ z, N = z + 1 := ⟨N - 1, by omega⟩
  unfold costP
  exact sumB_sumTo _ _ (by rw [net_len h hps hp 0, if_pos rfl]) (fun v hv => by rw [net_len h hps hp v, if_neg hv]) z
end Plc
namespace Go.Proofs.Ytliaommpnaagiaa
open Go.RowKit Go.Deep Cut Plc

/-- The nets of a valid circuit. -/
theorem netOk_of {i : Int} {ns : List Int} {gs : List (Int × Int)} {os : List Int} (hv : Circ.validB i ns gs os = true) : NetOk i.toNat (cellsV i ns gs os).length (Opt.fst i ns + gs.length) (cellsV i ns gs os) (Opt.natL os) := by
  obtain ⟨h0, h1, h2, h3, h4⟩ := Circ.valid_within hv
  obtain ⟨e1, e2, e3⟩ := cellsV_at hv
  have hff : Opt.fst i ns = 1 + i.toNat + ns.length := by unfold Opt.fst; omega
  have hme : mapV i ns gs os = lutsV (Opt.fst i ns) (Opt.natG gs) (Opt.natL ns) (Opt.natL os) := by unfold mapV; rw [if_pos hv]
  have hin := cellsV_in hv
  have hb := cellsV_bd3 i ns gs os
  have hol : (Opt.natL os).length = os.length := Opt.natL_len os
  refine ⟨rfl, (cellsV_lim hv).1, by omega, by omega, by omega, by omega, fun k hk => ?_, fun k hk => ?_, cells_up hv, fun k hk => (hin k hk).2, fun k hk => (hb.2 k hk).2.1, fun k hk => (hin k hk).1⟩
  · have hk' : k < os.length := by omega
    have hb := Circ.litsOk_get (Circ.valid_outs hv) hk'
    have e := natL_get os k hk' hb.1
    omega
  · by_cases hkr : k < ns.length
    · rw [e2 k hkr]
      show i.toNat < 1 + i.toNat + k ∧ 1 + i.toNat + k < _
      omega
    · obtain ⟨q, rfl⟩ : ∃ q, k = ns.length + q := ⟨k - ns.length, by omega⟩
      have hq : q < (mapV i ns gs os).length := by omega
      rw [e3 q hq]
      show i.toNat < ((mapV i ns gs os).getD q (0, [], 0)).1 ∧ ((mapV i ns gs os).getD q (0, [], 0)).1 < _
      have hm := memD0 (d := (0, [], 0)) hq
      rw [hme] at hm ⊢
      obtain ⟨t, h5, _, h6⟩ := luts_form (Opt.natG gs).length _ hm
      have h7 : ((lutsV (Opt.fst i ns) (Opt.natG gs) (Opt.natL ns) (Opt.natL os)).getD q (0, [], 0)).1 = Opt.fst i ns + t := by rw [h6]; rfl
      rw [Opt.natG_len] at h5
      omega
def costV (i : Int) (ns : List Int) (gs : List (Int × Int)) (os : List Int) (p : List Nat) : Nat := costP i.toNat (Opt.fst i ns + gs.length - 1) (Opt.natL os) (cellsV i ns gs os) p
theorem costV_le {i : Int} {ns : List Int} {gs : List (Int × Int)} {os : List Int} (hv : Circ.validB i ns gs os = true) {p : List Nat} (hp : Pl (cellsV i ns gs os).length p) : costV i ns gs os p ≤ 8 * (Opt.fst i ns + gs.length - 1) := costP_le hp (netOk_of hv).m4 (netOk_of hv).ol
end Go.Proofs.Ytliaommpnaagiaa
/- WireLength of the program and of the model. -/
namespace Go.Proofs.Ytliaommpnaagiaa
open Go.RowKit Go.Deep Cut Plc

/-- The wire length of any placement of any circuit. -/
def wireZ (i : Int) (ns : List Int) (gs : List (Int × Int)) (os ps : List Int) : Int := if placeB i ns gs os ps = true then (costV i ns gs os (Opt.natL ps) : Int) else -1
theorem placeB_inv {i : Int} {ns : List Int} {gs : List (Int × Int)} {os ps : List Int} (h : placeB i ns gs os ps = true) : Circ.validB i ns gs os = true ∧ Pl (cellsV i ns gs os).length (Opt.natL ps) ∧ ps = Opt.intL (Opt.natL ps) := by
  unfold placeB at h
  rw [Bool.and_eq_true] at h
  obtain ⟨q, h1, h2⟩ := okP_nat h.2
  have e : Opt.natL ps = q := by
    rw [h2]
    unfold Opt.natL Opt.intL
    rw [List.map_map]
    exact (List.map_congr_left (fun x _ => rfl)).trans (List.map_id q)
  rw [e]
  exact ⟨h.1, h1, h2⟩

end Go.Proofs.Ytliaommpnaagiaa
