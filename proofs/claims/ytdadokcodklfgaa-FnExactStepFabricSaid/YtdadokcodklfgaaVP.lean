/- Plain mathematics: the values of a fabric without cycles; a configuration as it is built; what it computes. -/
import Derived.Test.YtdadokcodklfgaaQT
import Derived.Test.YtdadokcodklfgaaRO
namespace Go.Proofs.Ytdadokcodklfgaa
open Go.RowKit Go.Deep Cut Plc Rt
namespace Fz

theorem nbrs_dir {t v : Nat} (h : v ∈ nbrs t) : (5 ≤ t ∧ v = t - 5) ∨ (0 < t % 5 ∧ v = t - 1) ∨ (t % 5 < 4 ∧ v = t + 1) ∨ (t < 20 ∧ v = t + 5) := by
  unfold nbrs at h
  simp only [List.mem_append] at h
  have one : ∀ {c : Prop} [Decidable c] {x : Nat}, v ∈ (if c then [x] else []) → c ∧ v = x := fun h => by
    split at h
    · next hc => exact ⟨hc, List.mem_singleton.1 h⟩
    · simp at h
  rcases h with ((h | h) | h) | h
  · exact .inl (one h)
  · exact .inr (.inl (one h))
  · exact .inr (.inr (.inl (one h)))
  · exact .inr (.inr (.inr (one h)))
/-- The track of every net, the first routes looked at. -/
def trTo (N : Nat) (rs : List Ro) : Nat → List Int
  | 0 => List.replicate N 15
  | k + 1 => (trTo N rs k).set (rs.getD k (0, 0, [])).1 ((rs.getD k (0, 0, [])).2.1 : Nat)
def selTo (tr : List Int) (y : List Nat) (old : List Int) : Nat → List Int
  | 0 => old
  | n + 1 => (selTo tr y old n).set n (tr.getD (y.getD n 0) 0)
def cellT (tr : List Int) (c : Ce) (t : Tl) : Tl := (((c.2.2.1 : Nat) : Int), selTo tr c.2.1 t.2.1 c.2.1.length, c.2.2.2, t.2.2.2)
def cellsTo (tr : List Int) (ce : List Ce) (p : List Nat) : Nat → List Tl
  | 0 => List.replicate 25 etl
  | k + 1 => (cellsTo tr ce p k).set (p.getD k 0) (cellT tr (ce.getD k (0, [], 0, false)) ((cellsTo tr ce p k).getD (p.getD k 0) tl0))
/-- The source of a hop's wire. -/
def hopS (m net : Nat) (h : Hp) : Int := if h.2 < 0 then (if net ≤ m then 6 else 1) else if nbAt h.1 2 = h.2 then 2 else if nbAt h.1 3 = h.2 then 3 else if nbAt h.1 4 = h.2 then 4 else if nbAt h.1 5 = h.2 then 5 else 0
def drvT (u : Nat) (v : Int) (t : Tl) : Tl := (t.1, t.2.1, t.2.2.1, t.2.2.2.set u v)
def hopsTo (m : Nat) (r : Ro) (ts : List Tl) : Nat → List Tl
  | 0 => ts
  | j + 1 => (hopsTo m r ts j).set (r.2.2.getD j (0, 0)).1 (drvT r.2.1 (hopS m r.1 (r.2.2.getD j (0, 0))) ((hopsTo m r ts j).getD (r.2.2.getD j (0, 0)).1 tl0))
def routesTo (m : Nat) (rs : List Ro) (ts : List Tl) : Nat → List Tl
  | 0 => ts
  | k + 1 => hopsTo m (rs.getD k (0, 0, [])) (routesTo m rs ts k) (rs.getD k (0, 0, [])).2.2.length
def padT (tr : List Int) (o : Nat) : Pd := (tr.getD (o / 2) 0, decide (o % 2 = 1))
def padsTo (tr : List Int) (ou : List Nat) : Nat → List Pd
  | 0 => List.replicate 3 (15, false)
  | k + 1 => (padsTo tr ou k).set k (padT tr (ou.getD k 0))
def buildT (m N : Nat) (ce : List Ce) (p : List Nat) (rs : List Ro) : List Tl := routesTo m rs (cellsTo (trTo N rs rs.length) ce p ce.length) rs.length
def buildP (N : Nat) (ou : List Nat) (rs : List Ro) : List Pd := padsTo (trTo N rs rs.length) ou ou.length
/-- What every route keeps. -/
def RtOk (m N : Nat) (r : Ro) : Prop := r.2.1 < 8 ∧ (∀ j, j < r.2.2.length → HopOk r.2.2 j) ∧ 1 ≤ r.1 ∧ r.1 < N ∧ (r.1 ≤ m → (r.2.2.getD 0 (0, 0)).1 = (r.1 - 1) * 5)
theorem getD_setD {α : Type} (l : List α) (i j : Nat) (v d : α) : (l.set i v).getD j d = if i = j ∧ j < l.length then v else l.getD j d := by
  rw [List.getD_eq_getElem?_getD, List.getElem?_set, List.getD_eq_getElem?_getD]
  by_cases h : i = j
  · subst h
    by_cases h2 : i < l.length
    · simp [h2]
    · simp [h2]
  · simp [h]
theorem trTo_len (N : Nat) (rs : List Ro) : ∀ k, (trTo N rs k).length = N
  | 0 => List.length_replicate
  | k + 1 => by show (List.set _ _ _).length = N; rw [List.length_set]; exact trTo_len N rs k
/-- All tiles are fine. -/
def TsOk (ts : List Tl) : Prop := ts.length = 25 ∧ ∀ k, k < 25 → tlOk k (ts.getD k tl0) = true
theorem TsOk.set {ts : List Tl} (h : TsOk ts) (t : Nat) {x : Tl} (hx : t < 25 → tlOk t x = true) : TsOk (ts.set t x) := ⟨(List.length_set ..).trans h.1, fun k hk => by
  rw [getD_setD]
  split
  · rename_i e
    obtain ⟨e1, _⟩ := e
    subst e1
    exact hx hk
  · exact h.2 k hk⟩
/-- Every question is one of these. -/
inductive AskIn (S : List Wr) : Ask → Prop where
  | ans (b : Bool) : AskIn S (.ans b)
  | ask (x : Wr) (k : Bool → Ask) (hx : x ∈ S) (hk : ∀ b, AskIn S (k b)) : AskIn S (.ask x k)
/-- The output of a lookup table, once its inputs from one on are known. -/
def tabA (T : Int) (t : Nat) : List Int → Nat → Nat → Ask
  | [], _, x => .ans ((T / 2 ^ x) % 2 == 1)
  | z :: zs, n, x => if z = 15 then tabA T t zs (n + 1) x else .ask (t, z.toNat) fun b => tabA T t zs (n + 1) (if b then x + 2 ^ n else x)
/-- The output of the lookup table of a tile. -/
def lutA (ts : List Tl) (t : Nat) : Ask := tabA (ts.getD t tl0).1 t (ts.getD t tl0).2.1 0 0
/-- The value of a wire, from those of others. -/
def valA (ts : List Tl) (rs ins : List Bool) (x : Wr) : Ask :=
  if (ts.getD x.1 tl0).2.2.2.getD x.2 0 = 1 then (if (ts.getD x.1 tl0).2.2.1 = true then .ans (rs.getD x.1 false) else lutA ts x.1)
  else if (ts.getD x.1 tl0).2.2.2.getD x.2 0 = 0 then .ans false
  else if (ts.getD x.1 tl0).2.2.2.getD x.2 0 = 6 then .ans (ins.getD (x.1 / 5) false)
  else .ask ((nbAt x.1 ((ts.getD x.1 tl0).2.2.2.getD x.2 0)).toNat, x.2) .ans
def runP (g : Wr → Bool) : Ask → Bool
  | .ans b => b
  | .ask x k => runP g (k (g x))
/-- The value of a wire, as far as fuel goes. -/
def wvF (c : Wr → Ask) : Nat → Wr → Bool
  | 0, _ => false
  | f + 1, x => runP (wvF c f) (c x)
theorem tabA_in (T : Int) (t : Nat) (S : List Wr) : ∀ (zs : List Int) (n x : Nat), (∀ z ∈ zs, z ≠ 15 → (t, z.toNat) ∈ S) → AskIn S (tabA T t zs n x)
  | [], _, _, _ => .ans _
  | z :: zs, n, x, h => by
    simp only [tabA]
    split
    · exact tabA_in T t S zs _ _ fun y hy => h y (by simp [hy])
    · rename_i hz
      exact .ask _ _ (h z (by simp) hz) fun b => tabA_in T t S zs _ _ fun y hy => h y (by simp [hy])
theorem valA_in (ts : List Tl) (rs ins : List Bool) (x : Wr) : AskIn (srcs ts x) (valA ts rs ins x) := by
  unfold valA srcs
  by_cases h1 : (ts.getD x.1 tl0).2.2.2.getD x.2 0 = 1
  · rw [if_pos h1, if_pos h1]
    split
    · exact .ans _
    · refine tabA_in _ _ _ _ _ _ fun z hz hn => ?_
      exact List.mem_map.2 ⟨z, List.mem_filter.2 ⟨hz, decide_eq_true hn⟩, rfl⟩
  · rw [if_neg h1, if_neg h1]
    by_cases h0 : (ts.getD x.1 tl0).2.2.2.getD x.2 0 = 0
    · rw [if_pos h0]; exact .ans _
    · rw [if_neg h0]
      by_cases h6 : (ts.getD x.1 tl0).2.2.2.getD x.2 0 = 6
      · rw [if_pos h6]; exact .ans _
      · rw [if_neg h6, if_neg (by omega)]
        exact .ask _ _ (by simp) fun b => .ans b
/-- A wire none of whose sources leads back to it. -/
inductive Wf (ts : List Tl) : Nat → Wr → Prop where
  | mk (n : Nat) (x : Wr) (h : ∀ y ∈ srcs ts x, Wf ts n y) : Wf ts (n + 1) x
theorem Wf.up {ts : List Tl} {n : Nat} {x : Wr} (h : Wf ts n x) : ∀ {m : Nat}, n ≤ m → Wf ts m x := by
  induction h with
  | mk n x _ ih =>
    intro m hm
    obtain ⟨m', rfl⟩ : ∃ m', m = m' + 1 := ⟨m - 1, by omega⟩
    exact .mk m' x fun y hy => ih y hy (by omega)
theorem wf_common (ts : List Tl) : ∀ l : List Wr, (∀ x ∈ l, ∃ n, Wf ts n x) → ∃ N, ∀ x ∈ l, Wf ts N x
  | [], _ => ⟨0, fun _ h => by simp at h⟩
  | x :: l, h => by
    obtain ⟨n, hn⟩ := h x (by simp)
    obtain ⟨m, hm⟩ := wf_common ts l fun y hy => h y (by simp [hy])
    refine ⟨n + m, fun y hy => ?_⟩
    rcases List.mem_cons.1 hy with rfl | hy
    · exact hn.up (by omega)
    · exact (hm y hy).up (by omega)
/-- What is known to be true leads nowhere back. -/
def Fine (ts : List Tl) (M : List Nat) : Prop := ∀ x, WrOk x → M.getD (wi x) 0 = 2 → ∃ n, Wf ts n x
theorem wi_inj {x y : Wr} (hx : WrOk x) (hy : WrOk y) (h : wi x = wi y) : x = y := by
  obtain ⟨a, b⟩ := x
  obtain ⟨c, d⟩ := y
  unfold wi at h
  obtain ⟨h1, h2⟩ := hx
  obtain ⟨h3, h4⟩ := hy
  simp only at h h1 h2 h3 h4
  exact Prod.ext (by show a = c; omega) (by show b = d; omega)
theorem runQ_fine {ts : List Tl} {g : List Nat → Wr → Bool × List Nat} (hg : ∀ M x, WrOk x → Fine ts M → Fine ts (g M x).2 ∧ ((g M x).1 = true → ∃ n, Wf ts n x)) : ∀ (xs : List Wr) (M : List Nat), (∀ x ∈ xs, WrOk x) → Fine ts M → Fine ts (runQ g M (allOf xs)).2 ∧ ((runQ g M (allOf xs)).1 = true → ∀ x ∈ xs, ∃ n, Wf ts n x)
  | [], M, _, hM => ⟨hM, fun _ x hx => by simp at hx⟩
  | x :: xs, M, hok, hM => by
    obtain ⟨h1, h2⟩ := hg M x (hok x (by simp)) hM
    simp only [allOf, runQ]
    by_cases e : (g M x).1 = true
    · rw [if_pos e]
      obtain ⟨h3, h4⟩ := runQ_fine hg xs (g M x).2 (fun y hy => hok y (by simp [hy])) h1
      refine ⟨h3, fun ht y hy => ?_⟩
      rcases List.mem_cons.1 hy with rfl | hy
      · exact h2 e
      · exact h4 ht y hy
    · rw [if_neg e]
      exact ⟨h1, fun ht => by simp [runQ] at ht⟩
theorem memo_fine {ts : List Tl} (hs : ∀ x, WrOk x → ∀ y ∈ srcs ts x, WrOk y) : ∀ (f : Nat) (M : List Nat) (x : Wr), WrOk x → Fine ts M → Fine ts (memo (cyc ts) f M x).2 ∧ ((memo (cyc ts) f M x).1 = true → ∃ n, Wf ts n x)
  | 0, M, x, hx, hM => ⟨hM, fun h => hM x hx (by simpa [memo] using h)⟩
  | f + 1, M, x, hx, hM => by
    by_cases h : M.getD (wi x) 0 = 0
    · rw [memo_new _ f M x h]
      have hM1 : Fine ts (M.set (wi x) 1) := fun y hy e => by
        rw [getD_set] at e
        split at e
        · omega
        · exact hM y hy e
      obtain ⟨h1, h2⟩ := runQ_fine (fun M x => memo_fine hs f M x) (srcs ts x) (M.set (wi x) 1) (hs x hx) hM1
      have hw : (runQ (memo (cyc ts) f) (M.set (wi x) 1) (cyc ts x)).1 = true → ∃ n, Wf ts n x := fun e => by
        obtain ⟨N, hN⟩ := wf_common ts _ (h2 e)
        exact ⟨N + 1, .mk N x hN⟩
      refine ⟨fun y hy e => ?_, hw⟩
      simp only [] at e
      rw [getD_set] at e
      split at e
      · rename_i hc
        have hyx := wi_inj hx hy hc.1
        subst hyx
        split at e
        · rename_i ht; exact hw ht
        · omega
      · exact h1 y hy e
    · rw [memo_old _ _ M x h]
      exact ⟨hM, fun e => hM x hx (by simpa using e)⟩
theorem topM_fine {ts : List Tl} (hs : ∀ x, WrOk x → ∀ y ∈ srcs ts x, WrOk y) : ∀ k, k ≤ 200 → Fine ts (topM ts k).2 ∧ ((topM ts k).1 = true → ∀ j, j < k → ∃ n, Wf ts n (j / 8, j % 8))
  | 0, _ => ⟨fun x _ e => by
      exfalso
      have : (topM ts 0).2 = List.replicate 200 0 := rfl
      rw [this, List.getD_eq_getElem?_getD, List.getElem?_replicate] at e
      split at e <;> simp at e, fun _ j hj => by omega⟩
  | k + 1, hk => by
    obtain ⟨h1, h2⟩ := topM_fine hs k (by omega)
    simp only [topM]
    by_cases e : (topM ts k).1 = true
    · rw [if_pos e]
      obtain ⟨h3, h4⟩ := memo_fine hs 201 (topM ts k).2 (k / 8, k % 8) ⟨by show k / 8 < 25; omega, by show k % 8 < 8; omega⟩ h1
      refine ⟨h3, fun ht j hj => ?_⟩
      by_cases hjk : j = k
      · subst hjk; exact h4 ht
      · exact h2 e j (by omega)
    · rw [if_neg e]
      exact ⟨h1, fun ht => absurd ht e⟩
/-- Without a cycle no wire leads back to itself. -/
theorem acyc_wf {ts : List Tl} (hs : ∀ x, WrOk x → ∀ y ∈ srcs ts x, WrOk y) (h : acyc ts = true) : ∃ N, ∀ x, WrOk x → Wf ts N x := by
  obtain ⟨_, h2⟩ := topM_fine hs 200 (Nat.le_refl _)
  have h3 := h2 h
  obtain ⟨N, hN⟩ := wf_common ts ((List.range 200).map fun j => (j / 8, j % 8)) fun x hx => by
    obtain ⟨j, hj, rfl⟩ := List.mem_map.1 hx
    exact h3 j (List.mem_range.1 hj)
  refine ⟨N, fun x hx => hN x (List.mem_map.2 ⟨wi x, List.mem_range.2 hx.lt, ?_⟩)⟩
  obtain ⟨a, b⟩ := x
  obtain ⟨h3, h4⟩ := hx
  unfold wi
  simp only at h3 h4 ⊢
  exact Prod.ext (by show (8 * a + b) / 8 = a; omega) (by show (8 * a + b) % 8 = b; omega)
theorem runP_in {S : List Wr} {g h : Wr → Bool} (hgh : ∀ x ∈ S, g x = h x) {q : Ask} (hq : AskIn S q) : runP g q = runP h q := by
  induction hq with
  | ans b => rfl
  | ask x k hx _ ih => simp only [runP]; rw [hgh x hx]; exact ih _
/-- The value of a wire is settled once fuel suffices. -/
theorem wvF_fix {ts : List Tl} {c : Wr → Ask} (hc : ∀ x, AskIn (srcs ts x) (c x)) {n : Nat} {x : Wr} (h : Wf ts n x) : ∀ {m m' : Nat}, n ≤ m → n ≤ m' → wvF c m x = wvF c m' x := by
  induction h with
  | mk n x _ ih =>
    intro m m' hm hm'
    obtain ⟨k, rfl⟩ : ∃ k, m = k + 1 := ⟨m - 1, by omega⟩
    obtain ⟨k', rfl⟩ : ∃ k', m' = k' + 1 := ⟨m' - 1, by omega⟩
    simp only [wvF]
    exact runP_in (fun y hy => ih y hy (by omega) (by omega)) (hc x)
theorem wvF_eq {ts : List Tl} {c : Wr → Ask} (hc : ∀ x, AskIn (srcs ts x) (c x)) {N : Nat} {x : Wr} (h : Wf ts N x) : wvF c N x = runP (wvF c N) (c x) :=
  (wvF_fix hc h (Nat.le_refl _) (Nat.le_succ _)).trans rfl
/-- What a wire's value depends on, itself among it. -/
inductive Dep (ts : List Tl) : Wr → Wr → Prop where
  | refl (x : Wr) : Dep ts x x
  | step {x y z : Wr} (h : y ∈ srcs ts x) (k : Dep ts y z) : Dep ts x z
theorem Dep.snoc {ts : List Tl} {x y z : Wr} (h : Dep ts x y) (k : z ∈ srcs ts y) : Dep ts x z := by
  induction h with
  | refl x => exact .step k (.refl z)
  | step h1 _ ih => exact .step h1 (ih k)
theorem Wf.back {ts : List Tl} {n : Nat} {x : Wr} (h : Wf ts n x) : ∀ y ∈ srcs ts x, ¬ Dep ts y x := by
  induction h with
  | mk n x _ ih =>
    intro y hy hd
    cases hd with
    | refl => exact ih _ hy _ hy (.refl _)
    | step h1 k => exact ih y hy _ h1 (k.snoc hy)
/-- What was asked newly is known. -/
def News (V : Wr → Bool) (M M' : List Nat) : Prop := ∀ y, WrOk y → M.getD (wi y) 0 = 0 → M'.getD (wi y) 0 ≠ 0 → (M'.getD (wi y) 0 == 2) = V y
/-- What this wire depends on is known, if it was asked. -/
def Right (ts : List Tl) (V : Wr → Bool) (M : List Nat) (x : Wr) : Prop := ∀ y, WrOk y → Dep ts x y → M.getD (wi y) 0 ≠ 0 → (M.getD (wi y) 0 == 2) = V y
theorem News.refl (V : Wr → Bool) (M : List Nat) : News V M M := fun _ _ h h' => absurd h h'
theorem News.trans {V : Wr → Bool} {M M' M'' : List Nat} (h : News V M M') (k : News V M' M'') (hk : Kp M' M'') : News V M M'' := fun y hy h0 h1 => by
  by_cases e : M'.getD (wi y) 0 = 0
  · exact k y hy e h1
  · rw [hk.2 _ e]; exact h y hy h0 e
theorem Right.news {ts : List Tl} {V : Wr → Bool} {M M' : List Nat} {x : Wr} (h : Right ts V M x) (k : News V M M') (hk : Kp M M') : Right ts V M' x := fun y hy hd h1 => by
  by_cases e : M.getD (wi y) 0 = 0
  · exact k y hy e h1
  · rw [hk.2 _ e]; exact h y hy hd e
theorem runQ_val {ts : List Tl} {V : Wr → Bool} {c : Wr → Ask} {f : Nat} {S : List Wr} (hg : ∀ M x, x ∈ S → M.length = 200 → zeros M ≤ f → Right ts V M x → (memo c (f + 1) M x).1 = V x ∧ News V M (memo c (f + 1) M x).2) {q : Ask} (hq : AskIn S q) : ∀ M, M.length = 200 → zeros M ≤ f → (∀ x ∈ S, Right ts V M x) → (runQ (memo c (f + 1)) M q).1 = runP V q ∧ News V M (runQ (memo c (f + 1)) M q).2 := by
  induction hq with
  | ans b => intro M _ _ _; exact ⟨rfl, News.refl V M⟩
  | ask x k hx _ ih =>
    intro M hl hz hr
    obtain ⟨h1, h2⟩ := hg M x hx hl hz (hr x hx)
    have hk := memo_kp c (f + 1) M x
    obtain ⟨h3, h4⟩ := ih (memo c (f + 1) M x).1 (memo c (f + 1) M x).2 (hk.1.trans hl) (Nat.le_trans (zeros_kp hk) hz) fun y hy => (hr y hy).news h2 hk
    simp only [runQ, runP]
    refine ⟨?_, h2.trans h4 (runQ_kp (memo_kp c (f + 1)) _ _)⟩
    rw [h3, h1]
/-- Asking with a memory answers what the value is. -/
theorem memo_val {ts : List Tl} (hs : ∀ x, WrOk x → ∀ y ∈ srcs ts x, WrOk y) {N : Nat} (hw : ∀ x, WrOk x → Wf ts N x) {c : Wr → Ask} (hc : ∀ x, AskIn (srcs ts x) (c x)) {V : Wr → Bool} (hV : ∀ x, WrOk x → V x = runP V (c x)) : ∀ (f : Nat) (M : List Nat) (x : Wr), WrOk x → M.length = 200 → zeros M ≤ f → Right ts V M x → (memo c (f + 1) M x).1 = V x ∧ News V M (memo c (f + 1) M x).2
  | f, M, x, hx, hl, hz, hr => by
    by_cases h : M.getD (wi x) 0 = 0
    · obtain ⟨f', rfl⟩ : ∃ f', f = f' + 1 := ⟨f - 1, by have := zeros_some (M := M) (i := wi x) hx.lt h; omega⟩
      rw [memo_new c (f' + 1) M x h]
      have hz1 := zeros_set (M := M) (i := wi x) hl hx.lt h
      have hr1 : ∀ y ∈ srcs ts x, Right ts V (M.set (wi x) 1) y := fun y hy z hz2 hd e => by
        have hne : wi x ≠ wi z := fun e2 => by
          have := wi_inj hx hz2 e2
          subst this
          exact (hw x hx).back y hy hd
        rw [getD_set, if_neg (fun e2 => hne e2.1)] at e ⊢
        exact hr z hz2 (.step hy hd) e
      obtain ⟨h1, h2⟩ := runQ_val (ts := ts) (V := V) (c := c) (f := f') (S := srcs ts x) (fun M y hy hl hz hr => memo_val hs hw hc hV f' M y (hs x hx y hy) hl hz hr) (hc x) (M.set (wi x) 1) (by simp [hl]) (by omega) hr1
      have h3 : (runQ (memo c (f' + 1)) (M.set (wi x) 1) (c x)).1 = V x := h1.trans (hV x hx).symm
      refine ⟨h3, fun y hy h0 hne => ?_⟩
      simp only [] at hne ⊢
      rw [getD_set] at hne ⊢
      split at hne
      · rename_i hcc
        have := wi_inj hx hy hcc.1
        subst this
        rw [if_pos hcc, h3]
        cases V x <;> rfl
      · rename_i hcc
        rw [if_neg hcc]
        refine h2 y hy ?_ hne
        rw [getD_set]
        by_cases e : wi x = wi y
        · exfalso
          apply hcc
          refine ⟨e, ?_⟩
          rw [(runQ_kp (memo_kp c (f' + 1)) (c x) (M.set (wi x) 1)).1, List.length_set, hl]
          exact hy.lt
        · rw [if_neg (fun e2 => e e2.1)]; exact h0
    · rw [memo_old c (f + 1) M x h]
      exact ⟨hr x hx (.refl x) h, News.refl V M⟩
termination_by f => f
/-- The tile of a hop. -/
def tlh (r : Ro) (j : Nat) : Nat := (r.2.2.getD j (0, 0)).1
def rto (rs : List Ro) (k : Nat) : Ro := rs.getD k (0, 0, [])
/-- All that is known of routes. -/
structure RtsOk (m N : Nat) (rs : List Ro) : Prop where
  ok : ∀ k, k < rs.length → RtOk m N (rto rs k)
  nd : ∀ k, k < rs.length → ∀ a b, a < b → b < (rto rs k).2.2.length → tlh (rto rs k) a ≠ tlh (rto rs k) b
  ap : ∀ i k, i < k → k < rs.length → (rto rs i).2.1 = (rto rs k).2.1 → ∀ a b, a < (rto rs i).2.2.length → b < (rto rs k).2.2.length → tlh (rto rs i) a ≠ tlh (rto rs k) b
  un : ∀ i k, i < k → k < rs.length → (rto rs i).1 ≠ (rto rs k).1
theorem RtsOk.one {m N : Nat} {rs : List Ro} (h : RtsOk m N rs) {i k : Nat} (hi : i < rs.length) (hk : k < rs.length) (e : (rto rs i).1 = (rto rs k).1) : i = k := by
  rcases Nat.lt_trichotomy i k with h1 | h1 | h1
  · exact absurd e (h.un i k h1 hk)
  · exact h1
  · exact absurd e.symm (h.un k i h1 hi)
/-- The track of a net that has a route, or 15. -/
theorem trTo_at {m N : Nat} {rs : List Ro} (h : RtsOk m N rs) {i : Nat} (hi : i < rs.length) : ∀ k, i < k → k ≤ rs.length → (trTo N rs k).getD (rto rs i).1 0 = ((rto rs i).2.1 : Nat)
  | 0, h0, _ => by omega
  | k + 1, hik, hk => by
    show (List.set _ (rto rs k).1 _).getD (rto rs i).1 0 = _
    rw [getD_setD]
    by_cases e : i = k
    · subst e
      rw [if_pos ⟨rfl, by rw [trTo_len]; exact (h.ok i hi).2.2.2.1⟩]
      rfl
    · rw [if_neg (fun c => h.un i k (by omega) hk c.1.symm)]
      exact trTo_at h hi k (by omega) (by omega)
theorem trTo_none {N : Nat} {rs : List Ro} {v : Nat} (hv : v < N) : ∀ k, k ≤ rs.length → (∀ i, i < k → (rto rs i).1 ≠ v) → (trTo N rs k).getD v 0 = 15
  | 0, _, _ => by
    show (List.replicate N (15 : Int)).getD v 0 = 15
    rw [List.getD_eq_getElem?_getD, List.getElem?_replicate, if_pos hv]; rfl
  | k + 1, hk, hn => by
    show (List.set _ (rto rs k).1 _).getD v 0 = _
    rw [getD_setD, if_neg (fun c => hn k (by omega) c.1)]
    exact trTo_none hv k (by omega) fun i hi => hn i (by omega)
theorem cellsTo_len (tr : List Int) (ce : List Ce) (p : List Nat) : ∀ k, (cellsTo tr ce p k).length = 25
  | 0 => List.length_replicate
  | k + 1 => (List.length_set ..).trans (cellsTo_len tr ce p k)
theorem cellsTo_off (tr : List Int) (ce : List Ce) (p : List Nat) {t : Nat} (ht : t < 25) : ∀ k, (∀ j, j < k → p.getD j 0 ≠ t) → (cellsTo tr ce p k).getD t tl0 = etl
  | 0, _ => by
    show (List.replicate 25 etl).getD t tl0 = etl
    rw [List.getD_eq_getElem?_getD, List.getElem?_replicate, if_pos ht]; rfl
  | k + 1, h => by
    show (List.set _ _ _).getD t tl0 = etl
    rw [getD_setD, if_neg (fun c => h k (by omega) c.1)]
    exact cellsTo_off tr ce p ht k fun j hj => h j (by omega)
theorem cellsTo_at (tr : List Int) (ce : List Ce) (p : List Nat) {n : Nat} (hne : ∀ i j, i < j → j < n → p.getD i 0 ≠ p.getD j 0) (hle : ∀ j, j < n → p.getD j 0 < 25) {j : Nat} : ∀ k, j < k → k ≤ n → (cellsTo tr ce p k).getD (p.getD j 0) tl0 = cellT tr (ce.getD j (0, [], 0, false)) etl
  | 0, h, _ => by omega
  | k + 1, hjk, hk => by
    show (List.set _ _ _).getD _ tl0 = _
    rw [getD_setD]
    by_cases e : j = k
    · subst e
      rw [if_pos ⟨rfl, by rw [cellsTo_len]; exact hle j (by omega)⟩, cellsTo_off tr ce p (hle j (by omega)) j fun i hi => hne i j hi (by omega)]
    · rw [if_neg (fun c => hne j k (by omega) (by omega) c.1.symm)]
      exact cellsTo_at tr ce p hne hle k (by omega) (by omega)
theorem hopsTo_len (m : Nat) (r : Ro) (ts : List Tl) : ∀ j, (hopsTo m r ts j).length = ts.length
  | 0 => rfl
  | j + 1 => (List.length_set ..).trans (hopsTo_len m r ts j)
theorem hopsTo_off (m : Nat) (r : Ro) (ts : List Tl) {t : Nat} : ∀ j, (∀ a, a < j → tlh r a ≠ t) → (hopsTo m r ts j).getD t tl0 = ts.getD t tl0
  | 0, _ => rfl
  | j + 1, h => by
    show (List.set _ (tlh r j) _).getD t tl0 = _
    rw [getD_setD, if_neg (fun c => h j (by omega) c.1)]
    exact hopsTo_off m r ts j fun a ha => h a (by omega)
theorem hopsTo_at (m : Nat) (r : Ro) (ts : List Tl) {n : Nat} (hnd : ∀ a b, a < b → b < n → tlh r a ≠ tlh r b) (hlt : ∀ a, a < n → tlh r a < ts.length) {a : Nat} : ∀ j, a < j → j ≤ n → (hopsTo m r ts j).getD (tlh r a) tl0 = drvT r.2.1 (hopS m r.1 (r.2.2.getD a (0, 0))) (ts.getD (tlh r a) tl0)
  | 0, h, _ => by omega
  | j + 1, haj, hj => by
    show (List.set _ (tlh r j) _).getD _ tl0 = _
    rw [getD_setD]
    by_cases e : a = j
    · subst e
      rw [if_pos ⟨rfl, by rw [hopsTo_len]; exact hlt a (by omega)⟩]
      have h1 := hopsTo_off m r ts a (t := tlh r a) fun b hb => hnd b a hb (by omega)
      show drvT _ _ ((hopsTo m r ts a).getD (tlh r a) tl0) = _
      rw [h1]
    · rw [if_neg (fun c => hnd a j (by omega) (by omega) c.1.symm)]
      exact hopsTo_at m r ts hnd hlt j (by omega) (by omega)
theorem routesTo_len (m : Nat) (rs : List Ro) (ts : List Tl) : ∀ k, (routesTo m rs ts k).length = ts.length
  | 0 => rfl
  | k + 1 => (hopsTo_len _ _ _ _).trans (routesTo_len m rs ts k)
/-- Whether a tile is one of a route's. -/
theorem tile_or (r : Ro) (t : Nat) : ∀ n, (∀ a, a < n → tlh r a ≠ t) ∨ ∃ a, a < n ∧ tlh r a = t
  | 0 => .inl fun a h => by omega
  | n + 1 => by
    rcases tile_or r t n with h | ⟨a, h1, h2⟩
    · by_cases e : tlh r n = t
      · exact .inr ⟨n, by omega, e⟩
      · refine .inl fun a ha => ?_
        by_cases e2 : a = n
        · subst e2; exact e
        · exact h a (by omega)
    · exact .inr ⟨a, by omega, h2⟩
theorem RtsOk.lt {m N : Nat} {rs : List Ro} (h : RtsOk m N rs) {k : Nat} (hk : k < rs.length) : ∀ a, a < (rto rs k).2.2.length → tlh (rto rs k) a < 25 := fun a ha => ((h.ok k hk).2.1 a ha).1
/-- One route changes nothing but the sources of its wires. -/
theorem hops_same {m N : Nat} {rs : List Ro} (h : RtsOk m N rs) {k : Nat} (hk : k < rs.length) {ts : List Tl} (hl : ts.length = 25) (t : Nat) :
    ((hopsTo m (rto rs k) ts (rto rs k).2.2.length).getD t tl0).1 = (ts.getD t tl0).1 ∧ ((hopsTo m (rto rs k) ts (rto rs k).2.2.length).getD t tl0).2.1 = (ts.getD t tl0).2.1 ∧ ((hopsTo m (rto rs k) ts (rto rs k).2.2.length).getD t tl0).2.2.1 = (ts.getD t tl0).2.2.1 ∧ ((hopsTo m (rto rs k) ts (rto rs k).2.2.length).getD t tl0).2.2.2.length = (ts.getD t tl0).2.2.2.length ∧
    ∀ u, ((rto rs k).2.1 = u → ∀ a, a < (rto rs k).2.2.length → tlh (rto rs k) a ≠ t) → ((hopsTo m (rto rs k) ts (rto rs k).2.2.length).getD t tl0).2.2.2.getD u 0 = (ts.getD t tl0).2.2.2.getD u 0 := by
  rcases tile_or (rto rs k) t (rto rs k).2.2.length with h1 | ⟨a, ha, rfl⟩
  · rw [hopsTo_off m (rto rs k) ts _ h1]
    exact ⟨rfl, rfl, rfl, rfl, fun _ _ => rfl⟩
  · rw [hopsTo_at m (rto rs k) ts (h.nd k hk) (fun b hb => by rw [hl]; exact h.lt hk b hb) _ ha (Nat.le_refl _)]
    refine ⟨rfl, rfl, rfl, List.length_set .., fun u hu => ?_⟩
    show (List.set _ _ _).getD u 0 = _
    rw [getD_setD, if_neg (fun c => hu c.1 a ha rfl)]
theorem routes_same {m N : Nat} {rs : List Ro} (h : RtsOk m N rs) {ts : List Tl} (hl : ts.length = 25) (t : Nat) : ∀ k, k ≤ rs.length →
    ((routesTo m rs ts k).getD t tl0).1 = (ts.getD t tl0).1 ∧ ((routesTo m rs ts k).getD t tl0).2.1 = (ts.getD t tl0).2.1 ∧ ((routesTo m rs ts k).getD t tl0).2.2.1 = (ts.getD t tl0).2.2.1 ∧ ((routesTo m rs ts k).getD t tl0).2.2.2.length = (ts.getD t tl0).2.2.2.length ∧
    ∀ u, (∀ i, i < k → (rto rs i).2.1 = u → ∀ a, a < (rto rs i).2.2.length → tlh (rto rs i) a ≠ t) → ((routesTo m rs ts k).getD t tl0).2.2.2.getD u 0 = (ts.getD t tl0).2.2.2.getD u 0
  | 0, _ => ⟨rfl, rfl, rfl, rfl, fun _ _ => rfl⟩
  | k + 1, hk => by
    obtain ⟨a1, a2, a3, a5, a4⟩ := routes_same h hl t k (by omega)
    obtain ⟨b1, b2, b3, b5, b4⟩ := hops_same h (show k < rs.length by omega) (ts := routesTo m rs ts k) ((routesTo_len m rs ts k).trans hl) t
    refine ⟨b1.trans a1, b2.trans a2, b3.trans a3, b5.trans a5, fun u hu => ?_⟩
    exact (b4 u (hu k (by omega))).trans (a4 u fun i hi => hu i (by omega))
theorem routes_at {m N : Nat} {rs : List Ro} (h : RtsOk m N rs) {ts : List Tl} (hl : ts.length = 25) (hd : ∀ t, t < 25 → (ts.getD t tl0).2.2.2.length = 8) {i a : Nat} (hi : i < rs.length) (ha : a < (rto rs i).2.2.length) : ∀ k, i < k → k ≤ rs.length →
    ((routesTo m rs ts k).getD (tlh (rto rs i) a) tl0).2.2.2.getD (rto rs i).2.1 0 = hopS m (rto rs i).1 ((rto rs i).2.2.getD a (0, 0))
  | 0, h0, _ => by omega
  | k + 1, hik, hk => by
    by_cases e : i = k
    · subst e
      show ((hopsTo m (rto rs i) (routesTo m rs ts i) (rto rs i).2.2.length).getD _ tl0).2.2.2.getD _ 0 = _
      rw [hopsTo_at m (rto rs i) (routesTo m rs ts i) (h.nd i hi) (fun b hb => by rw [routesTo_len, hl]; exact h.lt hi b hb) _ ha (Nat.le_refl _)]
      show (List.set _ _ _).getD _ 0 = _
      have h8 := (routes_same h hl (tlh (rto rs i) a) i (by omega)).2.2.2.1
      rw [getD_setD, if_pos ⟨rfl, by rw [h8, hd _ (h.lt hi a ha)]; exact (h.ok i hi).1⟩]
    · have h1 := (hops_same h (show k < rs.length by omega) (ts := routesTo m rs ts k) ((routesTo_len m rs ts k).trans hl) (tlh (rto rs i) a)).2.2.2.2 (rto rs i).2.1 fun e2 b hb e3 => h.ap i k (by omega) (by omega) e2.symm a b ha hb e3.symm
      exact h1.trans (routes_at h hl hd hi ha k (by omega) (by omega))
def ceo (ce : List Ce) (k : Nat) : Ce := ce.getD k (0, [], 0, false)
/-- All that is known of cells, their places and routes. -/
structure Fab (m N : Nat) (ce : List Ce) (ou p : List Nat) (rs : List Ro) : Prop where
  rt : RtsOk m N rs
  pl : Pl ce.length p
  tb : ∀ k, k < ce.length → (ceo ce k).2.2.1 < 256
  il : ∀ k, k < ce.length → (ceo ce k).2.1.length ≤ 3
  inp : ∀ k, k < ce.length → ∀ l, l ∈ (ceo ce k).2.1 → ∃ i, i < rs.length ∧ (rto rs i).1 = l ∧ ∃ a, a < (rto rs i).2.2.length ∧ tlh (rto rs i) a = p.getD k 0
  outp : ∀ o, o < ou.length → 0 < ou.getD o 0 / 2 → ∃ i, i < rs.length ∧ (rto rs i).1 = ou.getD o 0 / 2 ∧ ∃ a, a < (rto rs i).2.2.length ∧ tlh (rto rs i) a = o * 5 + 4
  src : ∀ i, i < rs.length → 0 < (rto rs i).2.2.length ∧ (m < (rto rs i).1 → ∃ k, k < ce.length ∧ (ceo ce k).1 = (rto rs i).1 ∧ tlh (rto rs i) 0 = p.getD k 0)
  up : ∀ k, k < ce.length → (ceo ce k).2.2.2 = false → ∀ l, l ∈ (ceo ce k).2.1 → l < (ceo ce k).1
  m4 : m ≤ 4
  N0 : 0 < N
  ol : ou.length ≤ 3
theorem Fab.tr {m N : Nat} {ce : List Ce} {ou p : List Nat} {rs : List Ro} (h : Fab m N ce ou p rs) {i : Nat} (hi : i < rs.length) : (trTo N rs rs.length).getD (rto rs i).1 0 = ((rto rs i).2.1 : Nat) := trTo_at h.rt hi rs.length hi (Nat.le_refl _)
theorem Fab.tiles {m N : Nat} {ce : List Ce} {ou p : List Nat} {rs : List Ro} (h : Fab m N ce ou p rs) (t : Nat) :
    ((buildT m N ce p rs).getD t tl0).1 = ((cellsTo (trTo N rs rs.length) ce p ce.length).getD t tl0).1 ∧ ((buildT m N ce p rs).getD t tl0).2.1 = ((cellsTo (trTo N rs rs.length) ce p ce.length).getD t tl0).2.1 ∧ ((buildT m N ce p rs).getD t tl0).2.2.1 = ((cellsTo (trTo N rs rs.length) ce p ce.length).getD t tl0).2.2.1 := by
  obtain ⟨h1, h2, h3, _⟩ := routes_same h.rt (cellsTo_len (trTo N rs rs.length) ce p ce.length) t rs.length (Nat.le_refl _)
  exact ⟨h1, h2, h3⟩
theorem Fab.cell {m N : Nat} {ce : List Ce} {ou p : List Nat} {rs : List Ro} (h : Fab m N ce ou p rs) {k : Nat} (hk : k < ce.length) :
    ((buildT m N ce p rs).getD (p.getD k 0) tl0).1 = ((ceo ce k).2.2.1 : Nat) ∧ ((buildT m N ce p rs).getD (p.getD k 0) tl0).2.1 = selTo (trTo N rs rs.length) (ceo ce k).2.1 [15, 15, 15] (ceo ce k).2.1.length ∧ ((buildT m N ce p rs).getD (p.getD k 0) tl0).2.2.1 = (ceo ce k).2.2.2 := by
  obtain ⟨h1, h2, h3⟩ := h.tiles (p.getD k 0)
  have e := cellsTo_at (trTo N rs rs.length) ce p h.pl.ne (fun j hj => by have := h.pl.le j hj; omega) ce.length hk (Nat.le_refl _)
  rw [e] at h1 h2 h3
  exact ⟨h1, h2, h3⟩
theorem Fab.off {m N : Nat} {ce : List Ce} {ou p : List Nat} {rs : List Ro} (h : Fab m N ce ou p rs) {t : Nat} (ht : t < 25) (hn : ∀ k, k < ce.length → p.getD k 0 ≠ t) :
    ((buildT m N ce p rs).getD t tl0).1 = 0 ∧ ((buildT m N ce p rs).getD t tl0).2.1 = [15, 15, 15] ∧ ((buildT m N ce p rs).getD t tl0).2.2.1 = false := by
  obtain ⟨h1, h2, h3⟩ := h.tiles t
  rw [cellsTo_off (trTo N rs rs.length) ce p ht ce.length hn] at h1 h2 h3
  exact ⟨h1, h2, h3⟩
theorem cells_drv (tr : List Int) (ce : List Ce) (p : List Nat) {t : Nat} (ht : t < 25) : ∀ k, ((cellsTo tr ce p k).getD t tl0).2.2.2 = [0, 0, 0, 0, 0, 0, 0, 0]
  | 0 => by
    show ((List.replicate 25 etl).getD t tl0).2.2.2 = _
    rw [List.getD_eq_getElem?_getD, List.getElem?_replicate, if_pos ht]; rfl
  | k + 1 => by
    show ((List.set _ _ _).getD t tl0).2.2.2 = _
    rw [getD_setD]
    split
    · rename_i e
      have := cells_drv tr ce p ht k
      obtain ⟨e1, _⟩ := e
      subst e1
      exact this
    · exact cells_drv tr ce p ht k
theorem Fab.hop {m N : Nat} {ce : List Ce} {ou p : List Nat} {rs : List Ro} (h : Fab m N ce ou p rs) {i a : Nat} (hi : i < rs.length) (ha : a < (rto rs i).2.2.length) :
    ((buildT m N ce p rs).getD (tlh (rto rs i) a) tl0).2.2.2.getD (rto rs i).2.1 0 = hopS m (rto rs i).1 ((rto rs i).2.2.getD a (0, 0)) :=
  routes_at h.rt (cellsTo_len _ _ _ _) (fun t ht => by rw [cells_drv _ _ _ ht]; rfl) hi ha rs.length hi (Nat.le_refl _)
theorem tb_bit (T x : Nat) : (((T : Int) / 2 ^ x) % 2 == 1) = T.testBit x := by
  rw [Nat.testBit_eq_decide_div_mod_eq]
  have e : ((T : Int) / 2 ^ x) % 2 = ((T / 2 ^ x % 2 : Nat) : Int) := by simp
  rw [e]
  by_cases h : T / 2 ^ x % 2 = 1
  · rw [h]; rfl
  · rw [decide_eq_false h]
    rw [beq_eq_false_iff_ne]
    omega
/-- The output of the lookup table of a cell. -/
theorem lut_num {tr : List Int} {y : List Nat} (hy : y.length ≤ 3) (V : Wr → Bool) (X : Nat → Bool) (T t : Nat) (h : ∀ l, l ∈ y → tr.getD l 0 ≠ 15 ∧ V (t, (tr.getD l 0).toNat) = X l) :
    runP V (tabA (T : Int) t (selTo tr y [15, 15, 15] y.length) 0 0) = T.testBit (num (y.map X)) := by
  rw [← tb_bit]
  match y, hy with
  | [], _ => rfl
  | [a], _ =>
    obtain ⟨a1, a2⟩ := h a (by simp)
    show runP V (tabA (T : Int) t [tr.getD a 0, 15, 15] 0 0) = _
    simp only [tabA, if_neg a1, runP, a2, if_true]
    cases ha : X a <;> simp [num, ha]
  | [a, b], _ =>
    obtain ⟨a1, a2⟩ := h a (by simp)
    obtain ⟨b1, b2⟩ := h b (by simp)
    show runP V (tabA (T : Int) t [tr.getD a 0, tr.getD b 0, 15] 0 0) = _
    simp only [tabA, if_neg a1, if_neg b1, runP, a2, b2, if_true]
    cases ha : X a <;> cases hb : X b <;> simp [num, ha, hb]
  | [a, b, c], _ =>
    obtain ⟨a1, a2⟩ := h a (by simp)
    obtain ⟨b1, b2⟩ := h b (by simp)
    obtain ⟨c1, c2⟩ := h c (by simp)
    show runP V (tabA (T : Int) t [tr.getD a 0, tr.getD b 0, tr.getD c 0] 0 0) = _
    simp only [tabA, if_neg a1, if_neg b1, if_neg c1, runP, a2, b2, c2]
    cases ha : X a <;> cases hb : X b <;> cases hc : X c <;> simp [num, ha, hb, hc]
  | _ :: _ :: _ :: _ :: _, hy => simp at hy
theorem Fab.lut {m N : Nat} {ce : List Ce} {ou p : List Nat} {rs : List Ro} (h : Fab m N ce ou p rs) {k : Nat} (hk : k < ce.length) (V : Wr → Bool) (X : Nat → Bool) (hX : ∀ i a, i < rs.length → a < (rto rs i).2.2.length → (rto rs i).1 ∈ (ceo ce k).2.1 → V (tlh (rto rs i) a, (rto rs i).2.1) = X (rto rs i).1) :
    runP V (lutA (buildT m N ce p rs) (p.getD k 0)) = (ceo ce k).2.2.1.testBit (num ((ceo ce k).2.1.map X)) := by
  obtain ⟨h1, h2, _⟩ := h.cell hk
  unfold lutA
  rw [h1, h2]
  refine lut_num (h.il k hk) V X _ _ fun l hl => ?_
  obtain ⟨i, hi, rfl, a, ha, e⟩ := h.inp k hk l hl
  rw [h.tr hi, ← e]
  have := (h.rt.ok i hi).1
  exact ⟨by omega, hX i a hi ha hl⟩
/-- Where the source of a hop leads. -/
theorem hopS_nb {m N : Nat} {r : Ro} (hr : RtOk m N r) {j : Nat} (hj : j < r.2.2.length) (h0 : 0 < j) : ∃ i, i < j ∧ nbAt (tlh r j) (hopS m r.1 (r.2.2.getD j (0, 0))) = (tlh r i : Nat) ∧ hopS m r.1 (r.2.2.getD j (0, 0)) ≠ 0 ∧ hopS m r.1 (r.2.2.getD j (0, 0)) ≠ 1 ∧ hopS m r.1 (r.2.2.getD j (0, 0)) ≠ 6 := by
  obtain ⟨hlt, _, hc⟩ := hr.2.1 j hj
  obtain ⟨_, u, hu, hu25, hin, hnb⟩ : 0 < j ∧ ∃ u : Nat, (r.2.2.getD j (0, 0)).2 = (u : Int) ∧ u < 25 ∧ ((tiles r.2.2).take j).contains u = true ∧ (r.2.2.getD j (0, 0)).1 ∈ nbrs u := by
    rcases hc with hc | hc
    · omega
    · exact hc
  have hi : ∃ i, i < j ∧ tlh r i = u := by
    rw [List.contains_iff_mem] at hin
    obtain ⟨i, hi, e⟩ := List.mem_iff_getElem.1 hin
    rw [List.length_take] at hi
    refine ⟨i, by omega, ?_⟩
    rw [List.getElem_take] at e
    unfold tlh
    rw [List.getD_eq_getElem?_getD, List.getElem?_eq_getElem (by unfold tiles at hi; rw [List.length_map] at hi; omega)]
    simpa [tiles] using e
  obtain ⟨i, hij, rfl⟩ := hi
  refine ⟨i, hij, ?_⟩
  unfold tlh at *
  generalize (r.2.2.getD i (0, 0)).1 = v at *
  generalize r.2.2.getD j (0, 0) = x at *
  obtain ⟨t, f⟩ := x
  simp only at hu hlt hnb ⊢
  subst hu
  unfold hopS
  rw [if_neg (by simp)]
  simp only
  have ex : nbAt t 2 = (v : Int) ∨ nbAt t 3 = (v : Int) ∨ nbAt t 4 = (v : Int) ∨ nbAt t 5 = (v : Int) := by
    rcases nbrs_dir hnb with ⟨a, b⟩ | ⟨a, b⟩ | ⟨a, b⟩ | ⟨a, b⟩
    · right; right; right; unfold nbAt; rw [if_neg (by omega), if_neg (by omega), if_neg (by omega), if_pos (by omega)]; omega
    · right; right; left; unfold nbAt; rw [if_neg (by omega), if_neg (by omega), if_pos (by omega)]; omega
    · right; left; unfold nbAt; rw [if_neg (by omega), if_pos (by omega)]; omega
    · left; unfold nbAt; rw [if_pos (by omega)]; omega
  by_cases e2 : nbAt t 2 = (v : Int)
  · rw [if_pos e2]; exact ⟨e2, by decide, by decide, by decide⟩
  · rw [if_neg e2]
    by_cases e3 : nbAt t 3 = (v : Int)
    · rw [if_pos e3]; exact ⟨e3, by decide, by decide, by decide⟩
    · rw [if_neg e3]
      by_cases e4 : nbAt t 4 = (v : Int)
      · rw [if_pos e4]; exact ⟨e4, by decide, by decide, by decide⟩
      · rw [if_neg e4]
        have e5 : nbAt t 5 = (v : Int) := by
          rcases ex with e | e | e | e
          · exact absurd e e2
          · exact absurd e e3
          · exact absurd e e4
          · exact e
        rw [if_pos e5]
        exact ⟨e5, by decide, by decide, by decide⟩
theorem hopS_0 {m N : Nat} {r : Ro} (hr : RtOk m N r) (hl : 0 < r.2.2.length) : hopS m r.1 (r.2.2.getD 0 (0, 0)) = if r.1 ≤ m then 6 else 1 := by
  obtain ⟨_, _, hc⟩ := hr.2.1 0 hl
  unfold hopS
  rcases hc with hc | hc
  · rw [if_pos (by rw [hc.2]; decide)]
  · omega
/-- Every wire of a route has the value of its net. -/
theorem Fab.val {m N : Nat} {ce : List Ce} {ou p : List Nat} {rs : List Ro} (h : Fab m N ce ou p rs) {sr ins : List Bool} {V : Wr → Bool} (hV : ∀ x, WrOk x → V x = runP V (valA (buildT m N ce p rs) sr ins x)) {X : Nat → Bool}
    (hin : ∀ v, 1 ≤ v → v ≤ m → ins.getD (v - 1) false = X v) (hreg : ∀ k, k < ce.length → (ceo ce k).2.2.2 = true → sr.getD (p.getD k 0) false = X (ceo ce k).1)
    (hlut : ∀ k, k < ce.length → (ceo ce k).2.2.2 = false → (ceo ce k).2.2.1.testBit (num ((ceo ce k).2.1.map X)) = X (ceo ce k).1) :
    ∀ v i a, i < rs.length → a < (rto rs i).2.2.length → (rto rs i).1 = v → V (tlh (rto rs i) a, (rto rs i).2.1) = X v := by
  intro v
  induction v using Nat.strongRecOn with
  | _ v ihv =>
    intro i a
    induction a using Nat.strongRecOn with
    | _ a iha =>
      intro hi ha hv
      have hr := h.rt.ok i hi
      have hok : WrOk (tlh (rto rs i) a, (rto rs i).2.1) := ⟨h.rt.lt hi a ha, hr.1⟩
      rw [hV _ hok]
      unfold valA
      simp only
      rw [h.hop hi ha]
      by_cases h0 : a = 0
      · subst h0
        rw [hopS_0 hr ha]
        obtain ⟨_, hs⟩ := h.src i hi
        by_cases hm : (rto rs i).1 ≤ m
        · rw [if_pos hm, if_neg (by decide), if_neg (by decide), if_pos rfl]
          have e : tlh (rto rs i) 0 / 5 = v - 1 := by
            have := hr.2.2.2.2 hm
            unfold tlh
            rw [this, hv]
            omega
          simp only [runP]
          rw [e]
          exact hin v (by rw [← hv]; exact hr.2.2.1) (by rw [← hv]; exact hm)
        · rw [if_neg hm, if_pos rfl]
          obtain ⟨k, hk, ek, et⟩ := hs (by omega)
          rw [et, (h.cell hk).2.2]
          by_cases hrg : (ceo ce k).2.2.2 = true
          · rw [if_pos hrg]
            simp only [runP]
            rw [hreg k hk hrg, ek, hv]
          · rw [if_neg hrg]
            have hrf : (ceo ce k).2.2.2 = false := by simpa using hrg
            rw [h.lut hk V X fun i' a' hi' ha' hmem => ihv _ (by rw [← hv, ← ek]; exact h.up k hk hrf _ hmem) i' a' hi' ha' rfl, hlut k hk hrf, ek, hv]
      · obtain ⟨b, hb, e1, e2, e3, e4⟩ := hopS_nb hr ha (by omega)
        rw [if_neg e3, if_neg e2, if_neg e4, e1]
        simp only [runP]
        exact iha b hb hi (by omega) hv
/-- No wire leads back to itself. -/
theorem Fab.wf {m N : Nat} {ce : List Ce} {ou p : List Nat} {rs : List Ro} (h : Fab m N ce ou p rs) : ∀ v i a, i < rs.length → a < (rto rs i).2.2.length → (rto rs i).1 = v → ∃ n, Wf (buildT m N ce p rs) n (tlh (rto rs i) a, (rto rs i).2.1) := by
  intro v
  induction v using Nat.strongRecOn with
  | _ v ihv =>
    intro i a
    induction a using Nat.strongRecOn with
    | _ a iha =>
      intro hi ha hv
      have hr := h.rt.ok i hi
      have key : ∀ y ∈ srcs (buildT m N ce p rs) (tlh (rto rs i) a, (rto rs i).2.1), ∃ n, Wf (buildT m N ce p rs) n y := by
        intro y hy
        unfold srcs at hy
        simp only at hy
        rw [h.hop hi ha] at hy
        by_cases h0 : a = 0
        · subst h0
          rw [hopS_0 hr ha] at hy
          obtain ⟨_, hs⟩ := h.src i hi
          by_cases hm : (rto rs i).1 ≤ m
          · rw [if_pos hm, if_neg (by decide), if_pos (by decide)] at hy
            cases hy
          · rw [if_neg hm, if_pos rfl] at hy
            obtain ⟨k, hk, ek, et⟩ := hs (by omega)
            rw [et, (h.cell hk).2.2] at hy
            by_cases hrg : (ceo ce k).2.2.2 = true
            · rw [if_pos hrg] at hy; cases hy
            · rw [if_neg hrg, (h.cell hk).2.1] at hy
              have hrf : (ceo ce k).2.2.2 = false := by simpa using hrg
              obtain ⟨z, hz, rfl⟩ := List.mem_map.1 hy
              obtain ⟨hz1, hz2⟩ := List.mem_filter.1 hz
              have hz15 : z ≠ 15 := of_decide_eq_true hz2
              have hsel : ∀ n, z ∈ selTo (trTo N rs rs.length) (ceo ce k).2.1 [15, 15, 15] n → n ≤ (ceo ce k).2.1.length → ∃ l, l ∈ (ceo ce k).2.1 ∧ z = (trTo N rs rs.length).getD l 0 := by
                intro n
                induction n with
                | zero => intro hz _; simp [selTo] at hz; exact absurd hz hz15
                | succ n ih =>
                  intro hz hn
                  rcases List.mem_or_eq_of_mem_set hz with h5 | h5
                  · exact ih h5 (by omega)
                  · refine ⟨_, ?_, h5⟩
                    rw [List.getD_eq_getElem?_getD, List.getElem?_eq_getElem (show n < (ceo ce k).2.1.length by omega)]
                    exact List.getElem_mem _
              obtain ⟨l, hl, rfl⟩ := hsel _ hz1 (Nat.le_refl _)
              obtain ⟨i', hi', el, a', ha', e'⟩ := h.inp k hk l hl
              subst el
              rw [h.tr hi', ← e']
              exact ihv _ (by rw [← hv, ← ek]; exact h.up k hk hrf _ hl) i' a' hi' ha' rfl
        · obtain ⟨b, hb, e1, e2, e3, e4⟩ := hopS_nb hr ha (by omega)
          rw [if_neg e3, if_neg (by omega), e1] at hy
          obtain rfl := List.mem_singleton.1 hy
          exact iha b hb hi (by omega) hv
      obtain ⟨M, hM⟩ := wf_common _ _ key
      exact ⟨M + 1, .mk M _ hM⟩
/-- The output of a pad. -/
def outF (V : Wr → Bool) (p : Pd) (o : Nat) : Bool := (decide (p.1 ≠ 15) && V (o * 5 + 4, p.1.toNat)) != p.2
def outsF (V : Wr → Bool) (ps : List Pd) : List Bool := (List.range 3).map fun o => outF V (ps.getD o pd0) o
def regF (V : Wr → Bool) (ts : List Tl) (t : Nat) : Bool := (ts.getD t tl0).2.2.1 && runP V (lutA ts t)
def regsF (V : Wr → Bool) (ts : List Tl) : List Bool := (List.range 25).map (regF V ts)
def valF (ts : List Tl) (N : Nat) (sr ins : List Bool) : Wr → Bool := wvF (valA ts sr ins) N
theorem outsF_len (V : Wr → Bool) (ps : List Pd) : (outsF V ps).length = 3 := by simp [outsF]
theorem regsF_len (V : Wr → Bool) (ts : List Tl) : (regsF V ts).length = 25 := by simp [regsF]
theorem regsF_at (V : Wr → Bool) (ts : List Tl) {t : Nat} (ht : t < 25) : (regsF V ts).getD t false = regF V ts t := by
  unfold regsF
  rw [List.getD_eq_getElem?_getD, List.getElem?_map, List.getElem?_range ht]
  rfl
theorem outsF_at (V : Wr → Bool) (ps : List Pd) {o : Nat} (ho : o < 3) : (outsF V ps).getD o false = outF V (ps.getD o pd0) o := by
  unfold outsF
  rw [List.getD_eq_getElem?_getD, List.getElem?_map, List.getElem?_range ho]
  rfl
theorem padsTo_len (tr : List Int) (ou : List Nat) : ∀ k, (padsTo tr ou k).length = 3
  | 0 => rfl
  | k + 1 => (List.length_set ..).trans (padsTo_len tr ou k)
theorem padsTo_at (tr : List Int) (ou : List Nat) {o : Nat} (h3 : o < 3) : ∀ k, (padsTo tr ou k).getD o pd0 = if o < k then padT tr (ou.getD o 0) else (15, false)
  | 0 => by
    show (List.replicate 3 ((15 : Int), false)).getD o pd0 = _
    rw [List.getD_eq_getElem?_getD, List.getElem?_replicate, if_pos h3, if_neg (by omega)]; rfl
  | k + 1 => by
    show (List.set _ _ _).getD o pd0 = _
    rw [getD_setD]
    by_cases e : k = o
    · subst e
      rw [if_pos ⟨rfl, by rw [padsTo_len]; exact h3⟩, if_pos (by omega)]
    · rw [if_neg (fun c => e c.1), padsTo_at tr ou h3 k]
      by_cases e2 : o < k
      · rw [if_pos e2, if_pos (by omega)]
      · rw [if_neg e2, if_neg (by omega)]
theorem Fab.out {m N : Nat} {ce : List Ce} {ou p : List Nat} {rs : List Ro} (h : Fab m N ce ou p rs) {V : Wr → Bool} {X : Nat → Bool} (h0 : X 0 = false)
    (hX : ∀ i a, i < rs.length → a < (rto rs i).2.2.length → V (tlh (rto rs i) a, (rto rs i).2.1) = X (rto rs i).1) {o : Nat} (ho : o < 3) :
    outF V ((buildP N ou rs).getD o pd0) o = if o < ou.length then X (ou.getD o 0 / 2) != decide (ou.getD o 0 % 2 = 1) else false := by
  unfold buildP
  rw [padsTo_at _ _ ho]
  by_cases e : o < ou.length
  · rw [if_pos e, if_pos e]
    unfold outF padT
    simp only
    by_cases z : ou.getD o 0 / 2 = 0
    · have hn := trTo_none (N := N) (rs := rs) (v := 0) h.N0 rs.length (Nat.le_refl _) fun i hi e2 => by have := (h.rt.ok i hi).2.2.1; omega
      rw [z, hn, h0]
      rfl
    · obtain ⟨i, hi, e1, a, ha, e2⟩ := h.outp o e (by omega)
      rw [← e1, h.tr hi, ← e2]
      have h8 := (h.rt.ok i hi).1
      rw [show decide ((((rto rs i).2.1 : Nat) : Int) ≠ 15) = true from decide_eq_true (by omega)]
      rw [show (((rto rs i).2.1 : Nat) : Int).toNat = (rto rs i).2.1 from rfl, hX i a hi ha, Bool.true_and]
  · rw [if_neg e, if_neg e]
    rfl
end Fz
end Go.Proofs.Ytdadokcodklfgaa
