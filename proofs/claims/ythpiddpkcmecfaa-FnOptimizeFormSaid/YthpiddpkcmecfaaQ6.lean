/- Plain mathematics of optimization: in a circuit in normal form sharing finds nothing to share, so the second pass may share or not. -/
import Derived.Test.YthpiddpkcmecfaaQ5
namespace Opt
theorem and3_new {f : Nat} {x : List G} {a b : Nat} (h1 : 2 ≤ a) (h2 : a < b) (h3 : a / 2 ≠ b / 2) (h4 : ∀ j, j < x.length → at_ x j ≠ (a, b)) : and3 f x a b = (x ++ [(a, b)], 2 * (f + x.length)) := by
  have hmin : min a b = a := by omega
  have hmax : max a b = b := by omega
  unfold and3
  rw [hmin, hmax, if_neg (by omega), if_neg (by omega), if_neg]
  intro h
  exact h4 _ h (idx_at h)
theorem built_tf {f : Nat} (hf : 0 < f) {gs : List G} {u : List Bool} {roots : List Nat} (hn : Norm f gs) (hU : Use f gs roots u) :
    ∀ k, k ≤ gs.length → built true f ((gs.zip u).take k) = built false f ((gs.zip u).take k) := by
  have hl := zip_len gs u hU.len
  have hg := ordered_gOk hn.ordered u hU.len
  have hO := hU.of
  intro k
  induction k with
  | zero => intro _; rfl
  | succ k ih =>
    intro hk
    have R := built_rem f (gs.zip u) hO hg k (by omega)
    rw [built_snoc _ _ _ _ (by omega), built_snoc _ _ _ _ (by omega), ih (by omega)]
    generalize built false f ((gs.zip u).take k) = s at R
    unfold bstep
    by_cases hu : U (gs.zip u) k = true
    · have hu' : ((gs.zip u).getD k ((0, 0), false)).2 = true := hu
      rw [if_pos hu', if_pos hu', if_pos rfl, if_neg (by simp)]
      obtain ⟨l1, l2⟩ := hO.live f (gs.zip u) hg (by omega) hu
      obtain ⟨o1, o2⟩ := hg k (by omega)
      have ea : mapL s.2 ((gs.zip u).getD k ((0, 0), false)).1.1 = rl f (gs.zip u) (A (gs.zip u) k) := R.lit f _ o1 l1
      have eb : mapL s.2 ((gs.zip u).getD k ((0, 0), false)).1.2 = rl f (gs.zip u) (B (gs.zip u) k) := R.lit f _ o2 l2
      have a1 := zip_A gs u hU.len (t := k) (by omega)
      have b1 := zip_B gs u hU.len (t := k) (by omega)
      have n1 := hn.low k (by omega)
      have n2 := hn.ord k (by omega)
      have n3 := hn.dif k (by omega)
      rw [← a1] at n1 n2 n3
      rw [← b1] at n2 n3
      have r0 : ren f (gs.zip u) 0 < ren f (gs.zip u) (A (gs.zip u) k / 2) := ren_lt f _ (by omega) (.inl hf)
      have r1 : ren f (gs.zip u) (A (gs.zip u) k / 2) < ren f (gs.zip u) (B (gs.zip u) k / 2) := ren_lt f _ (by omega) l1
      have hnew := and3_new (f := f) (x := s.1) (a := rl f (gs.zip u) (A (gs.zip u) k)) (b := rl f (gs.zip u) (B (gs.zip u) k)) (by unfold rl; omega) (by unfold rl; omega) (by rw [rl_var, rl_var]; omega) (fun j hj e => by
        rw [R.sz] at hj
        obtain ⟨t, h1, h2, h3⟩ := rank_surj _ _ _ hj
        have hgt := R.gate t h1 h2
        rw [h3, e] at hgt
        injection hgt with e1 e2
        obtain ⟨m1, m2⟩ := hO.live f (gs.zip u) hg (t := t) (by omega) h2
        have x1 := rl_inj f _ l1 m1 e1
        have x2 := rl_inj f _ l2 m2 e2
        refine hn.inj t k h1 (by omega) ?_
        have a2 := zip_A gs u hU.len (t := t) (by omega)
        have b2 := zip_B gs u hU.len (t := t) (by omega)
        exact Prod.ext (by rw [← a1, ← a2, x1]) (by rw [← b1, ← b2, x2]))
      rw [ea, eb, hnew]
    · have hu' : ¬ ((gs.zip u).getD k ((0, 0), false)).2 = true := hu
      rw [if_neg hu', if_neg hu']
theorem bld_tf {f : Nat} (hf : 0 < f) {c : C} (hn : Norm f c.gs) : bld true f c = bld false f c := by
  have h := built_tf hf hn (used_use f c.gs c.roots) c.gs.length (Nat.le_refl _)
  rw [List.take_of_length_le (by rw [zip_len _ _ (used_len f c.gs c.roots)]; exact Nat.le_refl _)] at h
  unfold bld
  rw [h]
/-- Both passes may share. -/
theorem opt_tt {f : Nat} (hf : 0 < f) {c : C} (h : Ok f c) : bld true f (bld true f c) = opt f c := bld_tf hf (bld_t_ok hf h).2.1
end Opt
