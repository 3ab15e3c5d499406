/- Plain mathematics of optimization: both passes together: the normal form, the size, the levels, the values, and that optimizing again changes nothing. -/
import Derived.Test.YthpiddpkcmecfaaQ3
namespace Opt
theorem Lev.zero (f : Nat) : Lev f [] (fun _ => 0) := ⟨fun _ _ => rfl, fun k hk => absurd hk (by simp)⟩
theorem lev_ex (f : Nat) (gs : List G) (hg : ordered f gs) : ∃ L, Lev f gs L := by
  have key : ∀ k, k ≤ gs.length → ∃ L, Lev f (gs.take k) L := by
    intro k
    induction k with
    | zero => intro _; exact ⟨_, by rw [List.take_zero]; exact Lev.zero f⟩
    | succ k ih =>
      intro hk
      obtain ⟨L, hL⟩ := ih (by omega)
      have hl : (gs.take k).length = k := by simp; omega
      obtain ⟨o1, o2⟩ := hg k (by omega)
      refine ⟨fun v => if v = f + k then 1 + max (L ((at_ gs k).1 / 2)) (L ((at_ gs k).2 / 2)) else L v, fun v hv => ?_, fun j hj => ?_⟩
      · (try dsimp only); rw [if_neg (by omega)]; exact hL.base v hv
      · have hj' : j < k + 1 := by simp at hj; omega
        rw [at_take hj']
        by_cases e : j = k
        · subst e
          rw [if_pos rfl, if_neg (by omega), if_neg (by omega)]
        · have hjk := hg j (by omega)
          try dsimp only
          rw [if_neg (by omega), if_neg (by omega), if_neg (by omega)]
          have := hL.gate j (by omega)
          rwa [at_take (by omega)] at this
  have := key gs.length (Nat.le_refl _)
  rwa [List.take_of_length_le (Nat.le_refl _)] at this
theorem sem_ex (f : Nat) (hf : 0 < f) (gs : List G) (hg : ordered f gs) (b : Nat → Bool) (hb : b 0 = false) : ∃ v, Sem f gs v ∧ ∀ w, w < f → v w = b w := by
  have key : ∀ k, k ≤ gs.length → ∃ L, Sem f (gs.take k) L ∧ ∀ w, w < f → L w = b w := by
    intro k
    induction k with
    | zero => intro _; exact ⟨b, ⟨hb, fun k hk => absurd hk (by simp)⟩, fun _ _ => rfl⟩
    | succ k ih =>
      intro hk
      obtain ⟨L, hL, hw⟩ := ih (by omega)
      have hl : (gs.take k).length = k := by simp; omega
      obtain ⟨o1, o2⟩ := hg k (by omega)
      have lit : ∀ z l, l / 2 < f + k → litB (fun v => if v = f + k then z else L v) l = litB L l := fun z l h => by
        unfold litB
        try dsimp only
        rw [if_neg (by omega)]
      refine ⟨fun v => if v = f + k then (litB L (at_ gs k).1 && litB L (at_ gs k).2) else L v, ⟨?_, fun j hj => ?_⟩, fun w hw' => ?_⟩
      · (try dsimp only); rw [if_neg (by omega)]; exact hL.zero
      · have hj' : j < k + 1 := by simp at hj; omega
        rw [at_take hj']
        have hjk := hg j (by omega)
        rw [lit _ _ (by omega), lit _ _ (by omega)]
        by_cases e : j = k
        · subst e
          rw [if_pos rfl]
        · try dsimp only
          rw [if_neg (by omega)]
          have := hL.gate j (by omega)
          rwa [at_take (by omega)] at this
      · (try dsimp only); rw [if_neg (by omega)]; exact hw w hw'
  have := key gs.length (Nat.le_refl _)
  rwa [List.take_of_length_le (Nat.le_refl _)] at this

section
variable {f : Nat} {gs : List G} {roots : List Nat}
theorem root_live (hr : ∀ r, r ∈ roots → r / 2 < f + gs.length) {r : Nat} (h : r ∈ roots) : live f (gs.zip (used f gs roots)) (r / 2) := by
  have hu := used_len f gs roots
  by_cases e : r / 2 < f
  · exact .inl e
  · have h1 := hr r h
    refine .inr ⟨by omega, ?_⟩
    rw [zip_U _ _ hu (by omega)]
    exact (used_use f gs roots).root _ (by omega) ⟨r, h, by omega⟩
theorem hashed_take : built true f ((gs.zip (used f gs roots)).take gs.length) = hashed f gs roots := by
  rw [List.take_of_length_le (by rw [zip_len _ _ (used_len f gs roots)]; exact Nat.le_refl _)]; rfl
theorem hashed_lev (hf : 0 < f) (hg : ordered f gs) (hr : ∀ r, r ∈ roots → r / 2 < f + gs.length) {L K : Nat → Nat} (hL : Lev f gs L) (hK : Lev f (hashed f gs roots).1 K) {r : Nat} (h : r ∈ roots) :
    K (mapL (hashed f gs roots).2 r / 2) ≤ L (r / 2) := by
  rw [mapL_var, ← hashed_take]
  exact built_lev hf hg (used_use f gs roots) hL hK gs.length (Nat.le_refl _) _ (hr r h) (root_live hr h)
theorem hashed_sem (hf : 0 < f) (hg : ordered f gs) (hr : ∀ r, r ∈ roots → r / 2 < f + gs.length) {v y : Nat → Bool} (hv : Sem f gs v) (hy : Sem f (hashed f gs roots).1 y) (hb : ∀ w, w < f → y w = v w) {r : Nat} (h : r ∈ roots) :
    litB y (mapL (hashed f gs roots).2 r) = litB v r := by
  have := built_sem hf hg (used_use f gs roots) hv hy hb gs.length (Nat.le_refl _) _ (hr r h) (root_live hr h)
  rw [hashed_take] at this
  unfold mapL
  rw [litB_xl _ _ _ (Nat.mod_lt _ (by omega)), this]
  rfl
theorem pruned_rl (hg : ordered f gs) (hr : ∀ r, r ∈ roots → r / 2 < f + gs.length) {r : Nat} (h : r ∈ roots) : mapL (pruned f gs roots).2 r = rl f (gs.zip (used f gs roots)) r :=
  (pruned_rem hg roots).lit f _ (hr r h) (root_live hr h)
theorem pruned_lev (hg : ordered f gs) (hr : ∀ r, r ∈ roots → r / 2 < f + gs.length) {L K : Nat → Nat} (hL : Lev f gs L) (hK : Lev f (pruned f gs roots).1 K) {r : Nat} (h : r ∈ roots) :
    K (mapL (pruned f gs roots).2 r / 2) = L (r / 2) := by
  rw [pruned_rl hg hr h, rl_var]
  exact rem_lev (pruned_rem hg roots) hg (used_use f gs roots) hL hK gs.length (Nat.le_refl _) _ (hr r h) (root_live hr h)
theorem pruned_sem (hg : ordered f gs) (hr : ∀ r, r ∈ roots → r / 2 < f + gs.length) {v y : Nat → Bool} (hv : Sem f gs v) (hy : Sem f (pruned f gs roots).1 y) (hb : ∀ w, w < f → y w = v w) {r : Nat} (h : r ∈ roots) :
    litB y (mapL (pruned f gs roots).2 r) = litB v r := by
  have := rem_sem (pruned_rem hg roots) hg (used_use f gs roots) hv hy hb gs.length (Nat.le_refl _) _ (hr r h) (root_live hr h)
  rw [pruned_rl hg hr h]
  have h3 : rl f (gs.zip (used f gs roots)) r % 2 = r % 2 := by unfold rl; omega
  unfold litB
  rw [rl_var, this, h3]
theorem hashed_root (hf : 0 < f) (hg : ordered f gs) (hr : ∀ r, r ∈ roots → r / 2 < f + gs.length) {r : Nat} (h : r ∈ roots) : mapL (hashed f gs roots).2 r / 2 < f + (hashed f gs roots).1.length := by
  rw [mapL_var]
  exact (hashed_good hf hg roots).var _ (hr r h)
end

/-- Gates, outputs and next states. -/
structure C where
  gs : List G
  os : List Nat
  ns : List Nat
def C.roots (c : C) : List Nat := c.os ++ c.ns
structure Ok (f : Nat) (c : C) : Prop where
  ord : ordered f c.gs
  root : ∀ r, r ∈ c.roots → r / 2 < f + c.gs.length
/-- One pass: the circuit rebuilt, with sharing or without. -/
def bld (share : Bool) (f : Nat) (c : C) : C :=
  ⟨(built share f (c.gs.zip (used f c.gs c.roots))).1, c.os.map (mapL (built share f (c.gs.zip (used f c.gs c.roots))).2), c.ns.map (mapL (built share f (c.gs.zip (used f c.gs c.roots))).2)⟩
def opt (f : Nat) (c : C) : C := bld false f (bld true f c)
theorem bld_roots (share : Bool) (f : Nat) (c : C) : (bld share f c).roots = c.roots.map (mapL (built share f (c.gs.zip (used f c.gs c.roots))).2) := by
  simp [C.roots, bld]
theorem bld_t_gs (f : Nat) (c : C) : (bld true f c).gs = (hashed f c.gs c.roots).1 := rfl
theorem bld_t_roots (f : Nat) (c : C) : (bld true f c).roots = c.roots.map (mapL (hashed f c.gs c.roots).2) := bld_roots true f c
theorem bld_f_gs (f : Nat) (c : C) : (bld false f c).gs = (pruned f c.gs c.roots).1 := rfl
theorem bld_f_roots (f : Nat) (c : C) : (bld false f c).roots = c.roots.map (mapL (pruned f c.gs c.roots).2) := bld_roots false f c
theorem bld_t_ok {f : Nat} {c : C} (hf : 0 < f) (h : Ok f c) : Ok f (bld true f c) ∧ Norm f (bld true f c).gs ∧ (bld true f c).gs.length ≤ c.gs.length := by
  have hG := hashed_good hf h.ord c.roots
  refine ⟨⟨hG.norm.ordered, fun r hr => ?_⟩, hG.norm, hG.le⟩
  rw [bld_t_roots, List.mem_map] at hr
  obtain ⟨q, hq, rfl⟩ := hr
  exact hashed_root hf h.ord h.root hq
theorem bld_f_ok {f : Nat} {c : C} (hf : 0 < f) (h : Ok f c) (hn : Norm f c.gs) : Ok f (bld false f c) ∧ Norm f (bld false f c).gs ∧ (bld false f c).gs.length ≤ c.gs.length ∧ AllUsed f (bld false f c).gs (bld false f c).roots := by
  refine ⟨⟨(pruned_norm hf hn _).ordered, fun r hr => ?_⟩, pruned_norm hf hn _, pruned_len h.ord _, ?_⟩
  · rw [bld_f_roots, List.mem_map] at hr
    obtain ⟨q, hq, rfl⟩ := hr
    exact pruned_root h.ord c.roots h.root q hq
  · rw [bld_f_roots]
    exact pruned_used h.ord c.roots h.root
/-- The normal form. -/
structure Form (f : Nat) (c : C) : Prop where
  ok : Ok f c
  norm : Norm f c.gs
  use : AllUsed f c.gs c.roots
theorem opt_form {f : Nat} {c : C} (hf : 0 < f) (h : Ok f c) : Form f (opt f c) ∧ (opt f c).gs.length ≤ c.gs.length ∧ (opt f c).os.length = c.os.length ∧ (opt f c).ns.length = c.ns.length := by
  obtain ⟨a1, a2, a3⟩ := bld_t_ok hf h
  obtain ⟨b1, b2, b3, b4⟩ := bld_f_ok hf a1 a2
  exact ⟨⟨b1, b2, b4⟩, Nat.le_trans b3 a3, by simp [opt, bld], by simp [opt, bld]⟩
theorem map_id_of {xs : List Nat} {g : Nat → Nat} (h : ∀ x, x ∈ xs → g x = x) : xs.map g = xs := by
  induction xs with
  | nil => rfl
  | cons x r ih => rw [List.map_cons, h x (by simp), ih (fun y hy => h y (by simp [hy]))]
theorem bld_same {f : Nat} {c : C} (h : Form f c) (share : Bool) : bld share f c = c := by
  have e : built share f (c.gs.zip (used f c.gs c.roots)) = (c.gs, evens (f + c.gs.length)) := by
    cases share
    · exact pruned_same h.norm h.use
    · exact hashed_same h.norm h.use
  unfold bld
  rw [e]
  have hm : ∀ x, x ∈ c.roots → mapL (evens (f + c.gs.length)) x = x := fun x hx => mapL_evens (h.ok.root x hx)
  rw [map_id_of (fun x hx => hm x (by simp [C.roots, hx])), map_id_of (fun x hx => hm x (by simp [C.roots, hx]))]
theorem opt_same {f : Nat} {c : C} (h : Form f c) : opt f c = c := by
  unfold opt
  rw [bld_same h true, bld_same h false]
/-- The literals of the two passes. -/
def lits (f : Nat) (c : C) (l : Nat) : Nat := mapL (pruned f (bld true f c).gs (bld true f c).roots).2 (mapL (hashed f c.gs c.roots).2 l)
theorem opt_os (f : Nat) (c : C) : (opt f c).os = c.os.map (lits f c) := by
  show (c.os.map _).map _ = _
  rw [List.map_map]; rfl
theorem opt_ns (f : Nat) (c : C) : (opt f c).ns = c.ns.map (lits f c) := by
  show (c.ns.map _).map _ = _
  rw [List.map_map]; rfl
theorem opt_lev {f : Nat} {c : C} (hf : 0 < f) (h : Ok f c) {L M : Nat → Nat} (hL : Lev f c.gs L) (hM : Lev f (opt f c).gs M) {r : Nat} (hr : r ∈ c.roots) : M (lits f c r / 2) ≤ L (r / 2) := by
  obtain ⟨a1, a2, a3⟩ := bld_t_ok hf h
  obtain ⟨K, hK⟩ := lev_ex f _ a1.ord
  have h1 := hashed_lev hf h.ord h.root hL hK hr
  have hq : mapL (hashed f c.gs c.roots).2 r ∈ (bld true f c).roots := by rw [bld_t_roots]; exact List.mem_map_of_mem hr
  have h2 := pruned_lev a1.ord a1.root hK hM hq
  show M (mapL _ (mapL _ r) / 2) ≤ _
  rw [h2]
  exact h1
theorem opt_sem {f : Nat} {c : C} (hf : 0 < f) (h : Ok f c) {v y : Nat → Bool} (hv : Sem f c.gs v) (hy : Sem f (opt f c).gs y) (hb : ∀ w, w < f → y w = v w) {r : Nat} (hr : r ∈ c.roots) : litB y (lits f c r) = litB v r := by
  obtain ⟨a1, a2, a3⟩ := bld_t_ok hf h
  obtain ⟨z, hz, hzb⟩ := sem_ex f hf _ a1.ord v hv.zero
  have h1 := hashed_sem hf h.ord h.root hv hz (fun w hw => hzb w hw) hr
  have hq : mapL (hashed f c.gs c.roots).2 r ∈ (bld true f c).roots := by rw [bld_t_roots]; exact List.mem_map_of_mem hr
  have h2 := pruned_sem a1.ord a1.root hz hy (fun w hw => by rw [hb w hw, hzb w hw]) hq
  show litB y (mapL _ (mapL _ r)) = _
  rw [h2]
  exact h1
end Opt
