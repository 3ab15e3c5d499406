/- The contract of the model's conjunction. -/
import Derived.Test.YthpiddpkcmecfaaU1
import Derived.Test.YthpiddpkcmecfaaT5
namespace Go.Proofs.Ythpiddpkcmecfaa
open Go.RowKit Go.Deep Go.Maps Go.WideMaps
set_option maxRecDepth 100000

def SAndOut (w : World) (base : Nat) (i : Int) (vN vO : Value) (r : List Opt.G × Nat) (e : Ending) (w' : World) : Prop :=
  ∃ vG, e = .returned (.tuple #[.agg #[.int .i64 i, vN, vG, vO], .int .i64 (r.2 : Nat)]) ∧ w'.ownsRow base 46 2 vG r.1.length (gvs (Opt.intG r.1)) ∧ Below w.heap.size w w'

theorem own_below' {w w' : World} {base e size n : Nat} {v : Value} {xs : List Value} (h : w.ownsRow base e size v n xs) (hb : Below w.heap.size w w') : w'.ownsRow base e size v n xs :=
  h.kept (row := none) ⟨hb.os, hb.tape, hb.output, hb.size, fun k hk _ => hb.block k hk⟩ (by cases v.ownBlock <;> simp)

set_option maxHeartbeats 2000000 in
theorem sand_t (a c lo hi : Nat) (h : (lo ≤ hi ∧ lo = a ∧ hi = c) ∨ (lo < hi ∧ lo = c ∧ hi = a)) (base _f nl nc gl gc ol oc : Nat) (i : Int) (nA gA oA : Option Addr) (x : List Opt.G) (w : World)
    (hG : w.ownsRow base 46 2 (.slice gA gl gc) x.length (gvs (Opt.intG x))) (hs : (simpl lo hi).2 = true) (h1 : lo < 1000000) (h2 : hi < 1000000) :
    Calls Try.prog 92 #[.agg #[.int .i64 i, .slice nA nl nc, .slice gA gl gc, .slice oA ol oc], .int .i64 a, .int .i64 c] w (SAndOut w base i (.slice nA nl nc) (.slice oA ol oc) (x, (simpl lo hi).1)) := by
  have hle : lo ≤ hi := by omega
  have HG := Lib.hid hG
  have hw0 : Below w.heap.size w ((w.alloc (.cells #[.int .i64 i, .slice nA nl nc, .slice gA gl gc, .slice oA ol oc] 26)).alloc (.cells #[.int .i64 0, .slice none 0 0, .slice none 0 0, .slice none 0 0] 26)) := ((Below.refl _ _).alloc (Nat.le_refl _) _).alloc (by simp) _
  have HW0 := Lib.hid hw0
  clear hw0 hG
  have hcase : (lo = 0 ∧ (simpl lo hi).1 = 0) ∨ (lo ≠ 0 ∧ lo + 1 = hi ∧ lo % 2 = 0 ∧ (simpl lo hi).1 = 0) ∨ (lo = 1 ∧ (hi = 2 ∨ hi ≠ 2) ∧ (simpl lo hi).1 = hi) ∨ (lo = hi ∧ lo ≠ 0 ∧ lo ≠ 1 ∧ (simpl lo hi).1 = hi) := by
    have hn : lo = Opt.neg1 hi ↔ lo + 1 = hi ∧ lo % 2 = 0 := by unfold Opt.neg1; split <;> omega
    by_cases e0 : lo = 0
    · exact .inl ⟨e0, by simp [simpl, e0]⟩
    · by_cases e1 : lo + 1 = hi ∧ lo % 2 = 0
      · exact .inr (.inl ⟨e0, e1.1, e1.2, by unfold simpl; rw [if_pos (.inr (hn.mpr e1))]⟩)
      · have hnn : ¬ (lo = 0 ∨ lo = Opt.neg1 hi) := by rw [hn]; omega
        unfold simpl at hs ⊢
        rw [if_neg hnn] at hs ⊢
        by_cases e2 : lo = 1
        · exact .inr (.inr (.inl ⟨e2, by omega, by rw [if_pos (.inl e2)]⟩))
        · by_cases e3 : lo = hi
          · exact .inr (.inr (.inr ⟨e3, e0, e2, by rw [if_pos (.inr e3)]⟩))
          · rw [if_neg (by omega)] at hs
            cases hs
  clear hs
  have hfb : Below w.heap.size w ((w.alloc (.cells #[.int .i64 i, .slice nA nl nc, .slice gA gl gc, .slice oA ol oc] 26)).alloc (.cells #[.int .i64 i, .slice nA nl nc, .slice gA gl gc, .slice oA ol oc] 26)) := ((Below.refl _ _).alloc (Nat.le_refl _) _).alloc (by simp) _
  have hfin := And.intro (own_below' HG.out hfb) hfb
  clear hfb
  have HFin := Lib.hid hfin
  clear hfin
  rcases hcase with ⟨rfl, hr⟩ | ⟨c1, c2, c3, hr⟩ | ⟨rfl, c1, hr⟩ | ⟨rfl, c1, c2, hr⟩
  · have HR := Lib.hid hr
    clear hr
    rcases h with ⟨h, rfl, rfl⟩ | ⟨h, rfl, rfl⟩
    all_goals
      go_enter Try.func92, Try.ntmps92
      go_wp2
      refine bodyPost_ret (v := .tuple #[.agg #[.int .i64 i, .slice nA nl nc, .slice gA gl gc, .slice oA ol oc], .int .i64 0]) (by simp [results, Try.results92, go_sem]) rfl ⟨_, by rw [HR.out]; rfl, HFin.out.1, HFin.out.2⟩
  · have HR := Lib.hid hr
    have q0 : ((lo : Int) == 0) = false := by simp; omega
    have q1 : ((lo : Int) == (hi : Int) - 1) = true := by simp; omega
    have q2 : (lo : Int) % 2 = 0 := by omega
    clear hr c1 c2 c3
    rcases h with ⟨h, rfl, rfl⟩ | ⟨h, rfl, rfl⟩
    all_goals
      go_enter Try.func92, Try.ntmps92
      go_wp2
      refine bodyPost_ret (v := .tuple #[.agg #[.int .i64 i, .slice nA nl nc, .slice gA gl gc, .slice oA ol oc], .int .i64 0]) (by simp [results, Try.results92, go_sem]) rfl ⟨_, by rw [HR.out]; rfl, HFin.out.1, HFin.out.2⟩
  · have HR := Lib.hid hr
    clear hr
    rcases c1 with rfl | c1
    · rcases h with ⟨h, rfl, rfl⟩ | ⟨h, rfl, rfl⟩
      all_goals
        go_enter Try.func92, Try.ntmps92
        go_wp2
        refine bodyPost_ret (v := .tuple #[.agg #[.int .i64 i, .slice nA nl nc, .slice gA gl gc, .slice oA ol oc], .int .i64 2]) (by simp [results, Try.results92, go_sem]) rfl ⟨_, by rw [HR.out]; rfl, HFin.out.1, HFin.out.2⟩
    · have q1 : ((1 : Int) == (hi : Int) - 1) = false := by simp; omega
      rcases h with ⟨h, rfl, rfl⟩ | ⟨h, rfl, rfl⟩
      all_goals
        go_enter Try.func92, Try.ntmps92
        go_wp2
        refine bodyPost_ret (v := .tuple #[.agg #[.int .i64 i, .slice nA nl nc, .slice gA gl gc, .slice oA ol oc], .int .i64 hi]) (by simp [results, Try.results92, go_sem]) rfl ⟨_, by rw [HR.out], HFin.out.1, HFin.out.2⟩
  · have HR := Lib.hid hr
    have q0 : ((lo : Int) == 0) = false := by simp; omega
    have q1 : ((lo : Int) == (lo : Int) - 1) = false := by simp; omega
    have q2 : ((lo : Int) == 1) = false := by simp; omega
    clear hr c1 c2
    obtain ⟨rfl, rfl⟩ : lo = a ∧ lo = c := by omega
    clear h
    go_enter Try.func92, Try.ntmps92
    go_wp2
    refine bodyPost_ret (v := .tuple #[.agg #[.int .i64 i, .slice nA nl nc, .slice gA gl gc, .slice oA ol oc], .int .i64 lo]) (by simp [results, Try.results92, go_sem]) rfl ⟨_, by rw [HR.out], HFin.out.1, HFin.out.2⟩

theorem gates_src {w : World} {B : Nat} {A : Option Addr} {gs : List (Int × Int)} (h : GatesAt w B A gs) : ∀ j u, (gvs gs)[j]? = some u → ∃ ad, A = some ad ∧ w.cell? (ad.add j) = some u := by
  intro j u hu
  have hj : j < gs.length * 2 := by have := (List.getElem?_eq_some_iff.1 hu).1; rwa [gvs_len] at this
  obtain ⟨b, off, e, _, h1, h2⟩ := h (j / 2) (by omega)
  obtain ⟨g1, g2⟩ := gvs_get gs (j / 2) (by omega)
  refine ⟨_, e, ?_⟩
  rcases Nat.mod_two_eq_zero_or_one j with hm | hm
  · have ej : j / 2 * 2 = j := by omega
    rw [ej] at g1 h1
    rw [g1] at hu
    injection hu with hu
    subst hu
    rw [← h1]; unfold Addr.add; split <;> simp_all
  · have ej : j / 2 * 2 + 1 = j := by omega
    rw [ej] at g2
    rw [g2] at hu
    injection hu with hu
    subst hu
    rw [← h2, Nat.add_assoc, ej]; unfold Addr.add; split <;> simp_all
theorem idx_step {x : List Opt.G} {g : Opt.G} {k : Nat} (h : k ≤ Opt.idx x g) (hk : k < x.length) (hne : Opt.at_ x k ≠ g) : k + 1 ≤ Opt.idx x g := by
  by_cases e : k = Opt.idx x g
  · subst e
    exact absurd (Opt.idx_at hk) hne
  · omega
theorem idx_hit {x : List Opt.G} {g : Opt.G} {k : Nat} (h : k ≤ Opt.idx x g) (he : Opt.at_ x k = g) : Opt.idx x g = k := by
  by_cases e : k < Opt.idx x g
  · exact absurd he (Opt.idx_ne e)
  · omega

end Go.Proofs.Ythpiddpkcmecfaa
