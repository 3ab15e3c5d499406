/- The contract of the library's concatenation of two slices. -/
import Derived.Test.YtdadokcodklfgaaC4
import Derived.Shelf.Spec.SlicesGrow
import Derived.Lib.OwnBridge
import Derived.Shelf.Spec.SlicesInsert
import Derived.Lib.AppendZerosOnto
import Derived.Test.YtdadokcodklfgaaW6
import Derived.Test.YtdadokcodklfgaaB1a
import Derived.Test.YtdadokcodklfgaaEL
namespace Go.Proofs.Ytdadokcodklfgaa
open Go.RowKit Go.Deep Cut
end Go.Proofs.Ytdadokcodklfgaa
/- The contract of the program's union of two cuts. -/
namespace Go.Proofs.Ytdadokcodklfgaa
open Go.RowKit Go.Deep Cut Go.Lib Go.Sort

structure CUp (d : Array Int) (m : Nat) : Prop where
  up : (compactUpTo d m).Pairwise (· < ·)
  mem : ∀ z, z ∈ compactUpTo d m ↔ ∃ j, j < m ∧ z = d[j]!
  le : ∀ z, z ∈ compactUpTo d m → 0 < m → z ≤ d[m - 1]!
theorem CUp.all (d : Array Int) (hs : ∀ i, i + 1 < d.size → d[i]! ≤ d[i + 1]!) : ∀ m, m ≤ d.size → CUp d m
  | 0, _ => ⟨by simp [compactUpTo], fun z => by simp [compactUpTo], fun z hz => by simp [compactUpTo] at hz⟩
  | m + 1, hm => by
    have ih := CUp.all d hs m (by omega)
    have hst : 0 < m → d[m - 1]! ≤ d[m]! := fun h => by
      have := hs (m - 1) (by omega)
      rwa [show m - 1 + 1 = m by omega] at this
    by_cases hk : keeps d m = true
    · have e : compactUpTo d (m + 1) = compactUpTo d m ++ [d[m]!] := by rw [compactUpTo_succ, if_pos hk]
      have hne : 0 < m → d[m]! ≠ d[m - 1]! := fun h => by
        simp [keeps] at hk
        rcases hk with h0 | h0
        · omega
        · exact h0
      refine ⟨?_, fun z => ?_, fun z hz _ => ?_⟩
      · rw [e, List.pairwise_append]
        refine ⟨ih.up, by simp, fun a ha b hb => ?_⟩
        simp at hb
        subst hb
        have hpos : 0 < m := by
          obtain ⟨j, hj, _⟩ := (ih.mem a).1 ha
          omega
        have h1 := ih.le a ha hpos
        have h2 := hst hpos
        have h3 := hne hpos
        omega
      · rw [e, List.mem_append, ih.mem]
        constructor
        · rintro (⟨j, hj, e⟩ | h)
          · exact ⟨j, by omega, e⟩
          · simp at h; exact ⟨m, by omega, h⟩
        · rintro ⟨j, hj, ez⟩
          by_cases h : j < m
          · exact .inl ⟨j, h, ez⟩
          · obtain rfl : j = m := by omega
            exact .inr (by simp [ez])
      · rw [e, List.mem_append] at hz
        rw [Nat.add_sub_cancel]
        rcases hz with h | h
        · have hpos : 0 < m := by
            obtain ⟨j, hj, _⟩ := (ih.mem z).1 h
            omega
          have h1 := ih.le z h hpos
          have h2 := hst hpos
          omega
        · simp at h; omega
    · have e : compactUpTo d (m + 1) = compactUpTo d m := by rw [compactUpTo_succ, if_neg hk, List.append_nil]
      have hm0 : 0 < m := by
        rcases Nat.eq_zero_or_pos m with h | h
        · exact absurd (by simp [keeps, h]) hk
        · exact h
      have heq : d[m]! = d[m - 1]! := by
        simp [keeps] at hk
        exact hk.2
      refine ⟨by rw [e]; exact ih.up, fun z => ?_, fun z hz _ => ?_⟩
      · rw [e, ih.mem]
        constructor
        · rintro ⟨j, hj, e⟩
          exact ⟨j, by omega, e⟩
        · rintro ⟨j, hj, ez⟩
          by_cases h : j < m
          · exact ⟨j, h, ez⟩
          · obtain rfl : j = m := by omega
            exact ⟨j - 1, by omega, by rw [ez, heq]⟩
      · rw [e] at hz
        rw [Nat.add_sub_cancel, heq]
        exact ih.le z hz hm0
/-- The blocks from B on. -/
def From (w : World) (B b : Nat) : Prop := B ≤ b ∧ b < w.heap.size
end Go.Proofs.Ytdadokcodklfgaa
/- The contracts of the library's comparison of lists, and of its search among sorted lists. -/
namespace Cut
/-- The order of lists: negative, zero or positive. -/
def lexC : List Nat → List Nat → Int
  | [], [] => 0
  | [], _ :: _ => -1
  | _ :: _, [] => 1
  | x :: xs, y :: ys => if x < y then -1 else if y < x then 1 else lexC xs ys
theorem lexC_lt {x y : Nat} (xs ys : List Nat) (h : x < y) : lexC (x :: xs) (y :: ys) = -1 := by rw [lexC, if_pos h]
theorem lexC_gt {x y : Nat} (xs ys : List Nat) (h : y < x) : lexC (x :: xs) (y :: ys) = 1 := by rw [lexC, if_neg (by omega), if_pos h]
theorem lexC_same (x : Nat) (xs ys : List Nat) : lexC (x :: xs) (x :: ys) = lexC xs ys := by rw [lexC, if_neg (by omega), if_neg (by omega)]
theorem lexC_eq : ∀ (a b : List Nat), lexC a b = 0 ↔ a = b
  | [], [] => by simp [lexC]
  | [], _ :: _ => by simp [lexC]
  | _ :: _, [] => by simp [lexC]
  | x :: xs, y :: ys => by
    rcases Nat.lt_trichotomy x y with h | h | h
    · rw [lexC_lt _ _ h]; simp; omega
    · subst h; rw [lexC_same, lexC_eq xs ys]; simp
    · rw [lexC_gt _ _ h]; simp; omega
theorem lexC_anti : ∀ (a b : List Nat), lexC b a = - lexC a b
  | [], [] => by simp [lexC]
  | [], _ :: _ => by simp [lexC]
  | _ :: _, [] => by simp [lexC]
  | x :: xs, y :: ys => by
    rcases Nat.lt_trichotomy x y with h | h | h
    · rw [lexC_lt _ _ h, lexC_gt _ _ h]; rfl
    · subst h; rw [lexC_same, lexC_same]; exact lexC_anti xs ys
    · rw [lexC_gt _ _ h, lexC_lt _ _ h]
/-- Strictly sorted. -/
def LS (K : Cs) : Prop := ∀ i j, i < j → j < K.length → lexC (K.getD i []) (K.getD j []) < 0
/-- How many lists precede x; whether x is there. -/
structure Pos (K : Cs) (x : List Nat) (p : Nat) : Prop where
  le : p ≤ K.length
  lo : ∀ t, t < p → lexC (K.getD t []) x < 0
  hi : ∀ t, p ≤ t → t < K.length → 0 ≤ lexC (K.getD t []) x
theorem getD_ins {α : Type} (K : List α) (x d : α) (p t : Nat) (hp : p ≤ K.length) : (K.take p ++ [x] ++ K.drop p).getD t d = if t < p then K.getD t d else if t = p then x else K.getD (t - 1) d := by
  simp only [List.getD_eq_getElem?_getD, List.append_assoc]
  split
  · next h => rw [List.getElem?_append_left (by simp; omega), List.getElem?_take, if_pos h]
  · next h =>
    rw [List.getElem?_append_right (by simp; omega)]
    have e : (K.take p).length = p := by simp; omega
    rw [e]
    split
    · next h2 => subst h2; simp
    · next h2 =>
      obtain ⟨q, hq⟩ : ∃ q, t - p = q + 1 := ⟨t - p - 1, by omega⟩
      rw [hq]
      simp
      congr 2
      omega
theorem Pos.ins {K : Cs} {x : List Nat} {p : Nat} (h : Pos K x p) (hs : LS K) (hx : x ∉ K) : LS (K.take p ++ [x] ++ K.drop p) := by
  intro i j hij hj
  have hp := h.le
  have hl : (K.take p ++ [x] ++ K.drop p).length = K.length + 1 := by simp; omega
  rw [hl] at hj
  have hgt : ∀ t, p ≤ t → t < K.length → lexC x (K.getD t []) < 0 := fun t h1 h2 => by
    have h3 := h.hi t h1 h2
    have h4 : lexC (K.getD t []) x ≠ 0 := fun e => by
      rw [lexC_eq] at e
      apply hx
      rw [← e, List.getD_eq_getElem?_getD, List.getElem?_eq_getElem h2]
      exact List.getElem_mem h2
    rw [lexC_anti (K.getD t []) x]
    omega
  rw [getD_ins K x [] p i hp, getD_ins K x [] p j hp]
  by_cases h1 : j < p
  · rw [if_pos (by omega), if_pos h1]; exact hs i j hij (by omega)
  · rw [if_neg h1]
    by_cases h2 : j = p
    · rw [if_pos h2, if_pos (by omega)]; exact h.lo i (by omega)
    · rw [if_neg h2]
      by_cases h3 : i < p
      · rw [if_pos h3]; exact hs i (j - 1) (by omega) (by omega)
      · rw [if_neg h3]
        by_cases h4 : i = p
        · rw [if_pos h4]; exact hgt (j - 1) (by omega) (by omega)
        · rw [if_neg h4]; exact hs (i - 1) (j - 1) (by omega) (by omega)
end Cut
namespace Go.Proofs.Ytdadokcodklfgaa
open Go.RowKit Go.Deep Cut

end Go.Proofs.Ytdadokcodklfgaa
/- The contract of the library's search among sorted lists. -/
namespace Go.Proofs.Ytdadokcodklfgaa
open Go.RowKit Go.Deep Cut

end Go.Proofs.Ytdadokcodklfgaa
/- The contract of the library's insertion of one list among sorted lists. -/
namespace Go.Proofs.Ytdadokcodklfgaa
open Go.RowKit Go.Deep Cut

/-- The cells with one more among them. -/
def insV (hs : List Value) (i : Nat) (v : Value) : List Value := hs.take i ++ [v] ++ hs.drop i
theorem insV_len {hs : List Value} {i : Nat} (v : Value) (hi : i ≤ hs.length) : (insV hs i v).length = hs.length + 1 := by unfold insV; simp; omega
theorem insV_get {hs : List Value} {i j : Nat} (v : Value) (hi : i ≤ hs.length) : (insV hs i v)[j]? = if j < i then hs[j]? else if j = i then some v else hs[j - 1]? := by
  unfold insV
  simp only [List.append_assoc]
  split
  · next h => rw [List.getElem?_append_left (by simp; omega), List.getElem?_take, if_pos h]
  · next h =>
    rw [List.getElem?_append_right (by simp; omega)]
    have e : (hs.take i).length = i := by simp; omega
    rw [e]
    split
    · next h2 => subst h2; simp
    · next h2 =>
      obtain ⟨q, hq⟩ : ∃ q, j - i = q + 1 := ⟨j - i - 1, by omega⟩
      rw [hq]
      simp
      congr 1
      omega
/-- Headers with one more among them. -/
theorem Hdrs.ins {w : World} {S : Nat → Prop} {hs : List Value} {K : Cs} {i : Nat} (h : Hdrs w S hs K) (hi : i ≤ K.length) {A : Option Addr} {x : List Nat} {cap : Nat} (hx : LeafIn w S A x) : Hdrs w S (insV hs i (.slice A x.length cap)) (K.take i ++ [x] ++ K.drop i) := by
  have hl := h.1
  refine ⟨by rw [insV_len _ (by omega)]; simp; omega, fun k hk => ?_⟩
  have hk' : k < K.length + 1 := by simp at hk; omega
  rw [getD_ins K x [] i k hi, insV_get _ (by omega)]
  by_cases h1 : k < i
  · rw [if_pos h1, if_pos h1]
    exact h.2 k (by omega)
  · rw [if_neg h1, if_neg h1]
    by_cases h2 : k = i
    · rw [if_pos h2, if_pos h2]
      exact ⟨A, cap, rfl, hx⟩
    · rw [if_neg h2, if_neg h2]
      exact h.2 (k - 1) (by omega)
theorem own_parts {w : World} {B b n cap : Nat} {t : TypeId} {hs : List Value} (h : w.ownsRow B t 1 (.slice (some ⟨b, 0, none⟩) n cap) n hs) : ∃ cur, Row w b t cur ∧ B ≤ b ∧ n ≤ cap ∧ cap ≤ maxLen ∧ cur.size = cap ∧ hs.length = n ∧ ∀ j, j < n → cur[j]? = hs[j]? := by
  have hl := h.1
  rcases h.2 with ⟨h, _⟩ | ⟨g', cap', cur, hv, h1, h2, h3, h4, h5, h6⟩
  · cases h
  · injection hv with e1 _ e3
    injection e1 with e1
    injection e1 with e1
    subst e1 e3
    refine ⟨cur, h2, h1, h3, h4, by omega, by omega, fun j hj => ?_⟩
    rw [← h6, List.getElem?_take, if_pos (by omega), Array.getElem?_toList]

end Go.Proofs.Ytdadokcodklfgaa
/- The contract of the program's insertion into sorted lists. -/
namespace Go.Proofs.Ytdadokcodklfgaa
open Go.RowKit Go.Deep Cut

theorem Hdrs.one {w : World} {S : Nat → Prop} {hs : List Value} {K : Cs} (h : Hdrs w S hs K) : ∀ v ∈ hs, v.oneCell' = true := fun v hv => by
  obtain ⟨k, hk, e⟩ := List.mem_iff_getElem.1 hv
  obtain ⟨A, cap, e2, _⟩ := h.2 k (by have := h.1; omega)
  rw [List.getElem?_eq_getElem hk] at e2
  injection e2 with e2
  rw [← e, e2]
  rfl
theorem Row.ne {w : World} {a b : Nat} {t t' : TypeId} {cs cs' : Array Value} (h : Row w a t cs) (h' : Row w b t' cs') (ht : t ≠ t') : a ≠ b := fun e => by
  subst e
  unfold Row at h h'
  rw [h] at h'
  injection h' with h'
  injection h' with _ h'
  exact ht h'
/-- Lists lie elsewhere than a block of another type. -/
theorem LeafIn.off {w : World} {S T : Nat → Prop} {A : Option Addr} {x : List Nat} {g : Nat} {t : TypeId} {cs : Array Value} (h : LeafIn w S A x) (hg : Row w g t cs) (ht : t ≠ 3) (hT : ∀ b, S b → b ≠ g → T b) : LeafIn w T A x := by
  rcases h with h | ⟨b, cs', e, hs, hr, hc⟩
  · exact .inl h
  · exact .inr ⟨b, cs', e, hT b hs (hr.ne hg (Ne.symm ht)), hr, hc⟩
theorem Hdrs.off {w : World} {S T : Nat → Prop} {hs : List Value} {K : Cs} {g : Nat} {t : TypeId} {cs : Array Value} (h : Hdrs w S hs K) (hg : Row w g t cs) (ht : t ≠ 3) (hT : ∀ b, S b → b ≠ g → T b) : Hdrs w T hs K := ⟨h.1, fun k hk => by
  obtain ⟨A, cap, e, hx⟩ := h.2 k hk
  exact ⟨A, cap, e, hx.off hg ht hT⟩⟩
theorem LstAt.row {w : World} {B g cap : Nat} {xs : Cs} {hs : List Value} (h : LstAt w B xs hs g cap) : ∃ cur, Row w g 31 cur := by
  obtain ⟨cur, hr, _⟩ := own_parts h.1
  exact ⟨cur, hr⟩
/-- A list of lists beside which another block has turned. -/
theorem LstAt.beside {w w' : World} {B g cap g2 : Nat} {xs : Cs} {hs : List Value} {t : TypeId} {cs : Array Value} (h : LstAt w B xs hs g cap) (hne : g ≠ g2) (h2 : Row w g2 t cs) (ht : t ≠ 3) (hsame : ∀ b, b < w.heap.size → b ≠ g2 → w'.heap[b]? = w.heap[b]?) (hsz : w.heap.size ≤ w'.heap.size) : LstAt w' B xs hs g cap :=
  ⟨ownsRow_keep h.1 (hsame g h.gb.2 hne), (h.2.off (T := fun b => Off w B g b ∧ b ≠ g2) h2 ht (fun _ h1 h2 => ⟨h1, h2⟩)).kept (fun b hb => hsame b hb.1.2.1 hb.2) (fun b hb => Off.on hsz b hb.1)⟩
theorem LeafIn.beside {w w' : World} {S T : Nat → Prop} {A : Option Addr} {x : List Nat} {g2 : Nat} {t : TypeId} {cs : Array Value} (h : LeafIn w S A x) (h2 : Row w g2 t cs) (ht : t ≠ 3) (hS : ∀ b, S b → b < w.heap.size) (hsame : ∀ b, b < w.heap.size → b ≠ g2 → w'.heap[b]? = w.heap[b]?) (hT : ∀ b, S b → T b) : LeafIn w' T A x :=
  (h.off (T := fun b => S b ∧ b ≠ g2) h2 ht (fun _ h1 h2 => ⟨h1, h2⟩)).kept (fun b hb => hsame b (hS b hb.1) hb.2) (fun b hb => hT b hb.1)

end Go.Proofs.Ytdadokcodklfgaa
/- The contract of the program's unions of cuts. -/
namespace Go.Proofs.Ytdadokcodklfgaa
open Go.RowKit Go.Deep Cut

/-- The block of a slice that is not empty. -/
def vblk : Value → Option Nat
  | .slice (some a) (_ + 1) _ => some a.block
  | _ => none
/-- No two slices share a block. -/
def DistH (hs : List Value) : Prop := ∀ (j k : Nat), j < k → ∀ (u v : Value), hs[j]? = some u → hs[k]? = some v → ∀ b, vblk u = some b → vblk v ≠ some b
theorem DistH.nil : DistH [] := fun j k _ u v hu => by simp at hu
theorem DistH.snoc {hs : List Value} {v : Value} {N : Nat} (h : DistH hs) (hl : ∀ u, u ∈ hs → ∀ b, vblk u = some b → b < N) (hv : ∀ b, vblk v = some b → N ≤ b) : DistH (hs ++ [v]) := by
  intro j k hjk u v' hu hv' b hb hb'
  have hk := (List.getElem?_eq_some_iff.1 hv').1
  simp at hk
  rw [List.getElem?_append_left (by omega)] at hu
  by_cases e : k < hs.length
  · rw [List.getElem?_append_left e] at hv'
    exact h j k hjk u v' hu hv' b hb hb'
  · obtain rfl : k = hs.length := by omega
    simp at hv'
    subst hv'
    have h1 := hl u (List.mem_of_getElem? hu) b hb
    have h2 := hv b hb'
    omega
section
variable {ops : Array Oper} {rest : List Oper} {o : Oper} {a : Act} {Q : Exit → Act → World → Prop}
end
end Go.Proofs.Ytdadokcodklfgaa
/- The contracts of comparison and marks of a list. -/
namespace Go.Proofs.Ytdadokcodklfgaa
open Go.RowKit Go.Deep Cut

/-- The first n cells bear marks from k on. -/
def MarksC (cs : Array Value) (k n : Nat) : Prop := ∀ t, t < n → cs[t]? = some (.int .i64 ((k + t : Nat) : Int))
set_option maxHeartbeats 400000 in
theorem markLeaf_any (g n cap k : Nat) (cs : Array Value) (w : World) (hr : Row w g 3 cs) (hs : n ≤ cs.size) (hn : n ≤ 2000000) (hk : k ≤ 1000000000) :
    Calls Try.prog 123 #[.slice (some ⟨g, 0, none⟩) n cap, .int .i64 k] w fun e w' => e = .returned (.int .i64 ((k + n : Nat) : Int)) ∧ (∃ cs', Row w' g 3 cs' ∧ cs'.size = cs.size ∧ MarksC cs' k n) ∧ Only (some g) w w' := by
  have HR0 := Lib.hid hr
  clear hr
  generalize hcz : cs.size = z at *
  have HCZ := Lib.hid hcz
  clear hcz
  go_enter Try.func123, Try.ntmps123
  go_wp2
  go_loopw [1, 5] (fun kv iv wr => ∃ (i : Nat) (cs : Array Value), i ≤ n ∧ iv = .int .i64 i ∧ kv = .int .i64 ((k : Int) + i) ∧ Hid (Row wr g 3 cs) ∧ Hid (cs.size = z) ∧ Hid (MarksC cs k i) ∧ Hid (Only (some g) w wr)) (fun _ iv _ => n - (intOf iv).toNat)
  case atStart => exact ⟨0, cs, Nat.zero_le _, rfl, by simp, HR0, HCZ, Lib.hid (fun t ht => absurd ht (by omega)), Lib.hid (Only.refl _ _)⟩
  case round =>
    clear HR0 HCZ cs
    obtain ⟨i, cs, hi, rfl, rfl, HRow, HZ, HF, HO⟩ := hrel
    by_cases hlt : i < n
    · have hsz : i < cs.size := by rw [HZ.out]; omega
      have HF2 : Hid (MarksC (cs.setIfInBounds i (.int .i64 ((k : Int) + i))) k (i + 1)) := Lib.hid (fun t ht => by
        by_cases e : i = t
        · subst e; simp [hsz]
        · rw [Array.getElem?_setIfInBounds_ne e]; exact HF.out t (by omega))
      have HZ2 : Hid ((cs.setIfInBounds i (.int .i64 ((k : Int) + i))).size = z) := Lib.hid (by simpa using HZ.out)
      have hc0 : wr.cell? ⟨g, i, none⟩ = some cs[i] := by rw [HRow.out.cell, Array.getElem?_eq_getElem hsz]
      have hf0 := HRow.out.frozen i
      have HO2 := Lib.hid (HO.out.set i (.int .i64 ((k : Int) + i)))
      have HR2 := Lib.hid (HRow.out.set i (.int .i64 ((k : Int) + i)))
      generalize cs[i] = old at *
      go_wp2
      go_roundw
      case rel => exact ⟨i + 1, _, by omega, by go_num, by go_num, HR2, HZ2, HF2, HO2⟩
      case measure => simp [intOf]; omega
    · obtain rfl : i = n := by omega
      go_wp2
      go_ret
      exact ⟨rfl, ⟨_, HRow.out, HZ.out, HF.out⟩, HO.out⟩
set_option maxHeartbeats 400000 in
theorem markNone_any (A : Option Addr) (cap k : Nat) (w : World) : Calls Try.prog 123 #[.slice A 0 cap, .int .i64 k] w fun e w' => e = .returned (.int .i64 ((k + 0 : Nat) : Int)) ∧ w = w' := by
  go_enter Try.func123, Try.ntmps123
  go_wp2
  go_loop [1, 5] (fun kv iv => kv = .int .i64 k ∧ iv = .int .i64 0) (fun _ iv => 0)
  case atStart => exact ⟨rfl, rfl⟩
  case round =>
    obtain ⟨rfl, rfl⟩ := hrel
    go_wp2
    go_ret
    exact ⟨rfl, rfl⟩
end Go.Proofs.Ytdadokcodklfgaa
/- The contracts of comparing lookup tables. -/
namespace Go.Proofs.Ytdadokcodklfgaa
open Go.RowKit Go.Deep Cut

end Go.Proofs.Ytdadokcodklfgaa
/- Marks on the leaves of a list of structs; no function of the laws. -/
namespace Go.Proofs.Ytdadokcodklfgaa
open Go.RowKit Go.Deep Cut

def ofT (T : Nat) (ls : List Nat) : Nat → Nat
  | 0 => 0
  | j + 1 => ofT T ls j + (ls.getD j 0 + T)
theorem ofT_mono (T : Nat) (ls : List Nat) {j l : Nat} (h : j ≤ l) : ofT T ls j ≤ ofT T ls l := by
  induction l with
  | zero => obtain rfl : j = 0 := by omega
            exact Nat.le_refl _
  | succ l ih =>
    by_cases e : j = l + 1
    · subst e; exact Nat.le_refl _
    · have := ih (by omega)
      simp only [ofT]
      omega
/-- Leaves in blocks of their own from B on, the first m of them marked. -/
structure HT (w : World) (B T : Nat) (hs : List Value) (ls : List Nat) (m K : Nat) : Prop where
  len : hs.length = ls.length
  lf : ∀ j, j < ls.length → ∃ (A : Option Addr) (cap : Nat), hs[j]? = some (.slice A (ls.getD j 0) cap) ∧ (ls.getD j 0 = 0 ∨ ∃ (b : Nat) (cs : Array Value), A = some ⟨b, 0, none⟩ ∧ B ≤ b ∧ Row w b 3 cs ∧ ls.getD j 0 ≤ cs.size ∧ (j < m → MarksC cs (K + ofT T ls j + 1) (ls.getD j 0)))
theorem HT.on {w w' : World} {B T m K : Nat} {hs : List Value} {ls : List Nat} (h : HT w B T hs ls m K) (hb : Below w.heap.size w w') : HT w' B T hs ls m K := ⟨h.len, fun j hj => by
  obtain ⟨A, cap, e, h1⟩ := h.lf j hj
  refine ⟨A, cap, e, ?_⟩
  rcases h1 with h1 | ⟨b, cs, e1, h2, h3, h4, h5⟩
  · exact .inl h1
  · exact .inr ⟨b, cs, e1, h2, h3.below hb h3.lt, h4, h5⟩⟩
theorem HT.set {w : World} {B T m K g : Nat} {t : TypeId} {cg : Array Value} {hs : List Value} {ls : List Nat} (h : HT w B T hs ls m K) (hg : Row w g t cg) (ht : t ≠ 3) (i : Nat) (u : Value) : HT (w.setCell ⟨g, i, none⟩ u) B T hs ls m K := ⟨h.len, fun j hj => by
  obtain ⟨A, cap, e, h1⟩ := h.lf j hj
  refine ⟨A, cap, e, ?_⟩
  rcases h1 with h1 | ⟨b, cs, e1, h2, h3, h4, h5⟩
  · exact .inl h1
  · exact .inr ⟨b, cs, e1, h2, h3.far (p := ⟨g, i, none⟩) (h3.ne hg (fun e => ht e.symm)) u, h4, h5⟩⟩
/-- One more slice is marked. -/
theorem HT.mark {w w' : World} {B T m K b : Nat} {hs : List Value} {ls : List Nat} {cs' : Array Value} {cap : Nat} (h : HT w B T hs ls m K) (hd : DistH hs) (hm : m < ls.length) (he : hs[m]? = some (.slice (some ⟨b, 0, none⟩) (ls.getD m 0) cap)) (hpos : 0 < ls.getD m 0)
    (ho : Only (some b) w w') (hB : B ≤ b) (hr : Row w' b 3 cs') (hs' : ls.getD m 0 ≤ cs'.size) (hk : MarksC cs' (K + ofT T ls m + 1) (ls.getD m 0)) : HT w' B T hs ls (m + 1) K := ⟨h.len, fun j hj => by
  by_cases e : j = m
  · subst e
    exact ⟨_, cap, he, .inr ⟨b, cs', rfl, hB, hr, hs', fun _ => hk⟩⟩
  · obtain ⟨A, cap2, e2, h1⟩ := h.lf j hj
    refine ⟨A, cap2, e2, ?_⟩
    rcases h1 with h1 | ⟨b2, cs2, e1, h2, h3, h4, h5⟩
    · exact .inl h1
    · by_cases hz : ls.getD j 0 = 0
      · exact .inl hz
      · refine .inr ⟨b2, cs2, e1, h2, ho.row h3 (fun eb => ?_), h4, fun hjm => h5 (by omega)⟩
        injection eb with eb
        subst eb e1
        have v1 : vblk (.slice (some ⟨b2, 0, none⟩) (ls.getD j 0) cap2) = some b2 := by
          obtain ⟨q, hq⟩ : ∃ q, ls.getD j 0 = q + 1 := ⟨ls.getD j 0 - 1, by omega⟩
          rw [hq]; rfl
        have v2 : vblk (.slice (some ⟨b2, 0, none⟩) (ls.getD m 0) cap) = some b2 := by
          obtain ⟨q, hq⟩ : ∃ q, ls.getD m 0 = q + 1 := ⟨ls.getD m 0 - 1, by omega⟩
          rw [hq]; rfl
        rcases Nat.lt_or_gt_of_ne e with h6 | h6
        · exact hd j m h6 _ _ e2 he b2 v1 v2
        · exact hd m j h6 _ _ he e2 b2 v2 v1⟩
theorem HT.skip {w : World} {B T m K : Nat} {hs : List Value} {ls : List Nat} (h : HT w B T hs ls m K) (hz : ls.getD m 0 = 0) : HT w B T hs ls (m + 1) K := ⟨h.len, fun j hj => by
  obtain ⟨A, cap, e, h1⟩ := h.lf j hj
  refine ⟨A, cap, e, ?_⟩
  rcases h1 with h1 | ⟨b, cs, e1, h2, h3, h4, h5⟩
  · exact .inl h1
  · by_cases hj2 : j = m
    · subst hj2; exact .inl hz
    · exact .inr ⟨b, cs, e1, h2, h3, h4, fun h => h5 (by omega)⟩⟩
end Go.Proofs.Ytdadokcodklfgaa
/- The contracts of marks on lookup tables. -/
namespace Go.Proofs.Ytdadokcodklfgaa
open Go.RowKit Go.Deep Cut

/-- What the marks on struct j of such a row are. -/
def LuMk (cs : Array Value) (ls : List Nat) (K j : Nat) : Prop := cs[j * 3]? = some (.int .i64 (K + ofT 2 ls j : Nat)) ∧ cs[j * 3 + 2]? = some (.int .i64 (K + ofT 2 ls j + 1 + ls.getD j 0 : Nat))
/-- The row of the structs, the first m of them marked. -/
def LuRow (w : World) (g : Nat) (hs : List Value) (ls : List Nat) (m K : Nat) : Prop := ∃ cs, Row w g 194 cs ∧ ls.length * 3 ≤ cs.size ∧ (∀ j, j < ls.length → cs[j * 3 + 1]? = hs[j]?) ∧ ∀ j, j < m → LuMk cs ls K j
theorem LuRow.below {w w' : World} {g m K B : Nat} {hs : List Value} {ls : List Nat} (h : LuRow w g hs ls m K) (hb : Below B w w') (hg : g < B) : LuRow w' g hs ls m K := by
  obtain ⟨cs, hr, h1, h2, h3⟩ := h
  exact ⟨cs, hr.below hb hg, h1, h2, h3⟩
theorem LuRow.lt {w : World} {g m K : Nat} {hs : List Value} {ls : List Nat} (h : LuRow w g hs ls m K) : g < w.heap.size := by
  obtain ⟨cs, hr, _⟩ := h
  exact hr.lt
theorem LuMk.set {cs : Array Value} {hs : List Value} {ls : List Nat} {m K : Nat} (h1 : ls.length * 3 ≤ cs.size) (h2 : ∀ j, j < ls.length → cs[j * 3 + 1]? = hs[j]?) (h3 : ∀ j, j < m → LuMk cs ls K j) (hm : m < ls.length) :
    ls.length * 3 ≤ ((cs.setIfInBounds (m * 3) (.int .i64 (K + ofT 2 ls m : Nat))).setIfInBounds (m * 3 + 2) (.int .i64 (K + ofT 2 ls m + 1 + ls.getD m 0 : Nat))).size ∧ (∀ j, j < ls.length → ((cs.setIfInBounds (m * 3) (.int .i64 (K + ofT 2 ls m : Nat))).setIfInBounds (m * 3 + 2) (.int .i64 (K + ofT 2 ls m + 1 + ls.getD m 0 : Nat)))[j * 3 + 1]? = hs[j]?) ∧ ∀ j, j < m + 1 → LuMk ((cs.setIfInBounds (m * 3) (.int .i64 (K + ofT 2 ls m : Nat))).setIfInBounds (m * 3 + 2) (.int .i64 (K + ofT 2 ls m + 1 + ls.getD m 0 : Nat))) ls K j := by
  refine ⟨by simpa using h1, fun j hj => ?_, fun j hj => ?_⟩
  · rw [Array.getElem?_setIfInBounds_ne (by omega), Array.getElem?_setIfInBounds_ne (by omega)]
    exact h2 j hj
  · by_cases e : j = m
    · subst e
      refine ⟨?_, ?_⟩
      · rw [Array.getElem?_setIfInBounds_ne (by omega), Array.getElem?_setIfInBounds_self_of_lt (by omega)]
      · rw [Array.getElem?_setIfInBounds_self_of_lt (by simp; omega)]
    · obtain ⟨a, b⟩ := h3 j (by omega)
      refine ⟨?_, ?_⟩
      · rw [Array.getElem?_setIfInBounds_ne (by omega), Array.getElem?_setIfInBounds_ne (by omega)]; exact a
      · rw [Array.getElem?_setIfInBounds_ne (by omega), Array.getElem?_setIfInBounds_ne (by omega)]; exact b

end Go.Proofs.Ytdadokcodklfgaa
/- Memory of lists of Ce: headers of leaves among other cells. -/
namespace Go.Proofs.Ytdadokcodklfgaa
open Go.RowKit Go.Deep Cut

abbrev Cl := Nat × List Nat × Nat × Bool
/-- The cells of such a list, the leaves in S. -/
def CeHdrs (w : World) (S : Nat → Prop) (hs : List Value) (es : List Cl) : Prop :=
  hs.length = es.length * 4 ∧ ∀ k, k < es.length → ∃ (A' : Option Addr) (cap : Nat), hs[k * 4]? = some (.int .i64 ((es.getD k (0, [], 0, false)).1 : Nat)) ∧ hs[k * 4 + 1]? = some (.slice A' (es.getD k (0, [], 0, false)).2.1.length cap) ∧ (hs[k * 4 + 2]? = some (.int .i64 ((es.getD k (0, [], 0, false)).2.2.1 : Nat)) ∧ hs[k * 4 + 3]? = some (.bool (es.getD k (0, [], 0, false)).2.2.2)) ∧ LeafIn w S A' (es.getD k (0, [], 0, false)).2.1
theorem CeHdrs.kept {w w' : World} {S T : Nat → Prop} {hs : List Value} {es : List Cl} (h : CeHdrs w S hs es) (hS : ∀ b, S b → w'.heap[b]? = w.heap[b]?) (hT : ∀ b, S b → T b) : CeHdrs w' T hs es := ⟨h.1, fun k hk => by
  obtain ⟨A', cap, e0, e1, e2, hx⟩ := h.2 k hk
  exact ⟨A', cap, e0, e1, e2, hx.kept hS hT⟩⟩
theorem CeHdrs.nil (w : World) (S : Nat → Prop) : CeHdrs w S [] [] := ⟨rfl, fun k hk => absurd hk (by simp)⟩
theorem CeHdrs.snoc {w : World} {S : Nat → Prop} {hs : List Value} {es : List Cl} (h : CeHdrs w S hs es) (v : Nat) {A : Option Addr} {m c : Nat} {y : List Nat} (t : Nat) (r : Bool) (hm : y.length = m) (hx : LeafIn w S A y) : CeHdrs w S (hs ++ [.int .i64 v, .slice A m c, .int .i64 t, .bool r]) (es ++ [(v, y, t, r)]) := by
  subst hm
  have hl := h.1
  refine ⟨by simp [hl]; omega, fun k hk => ?_⟩
  by_cases e : k < es.length
  · obtain ⟨A', cap, e0, e1, e2, hx'⟩ := h.2 k e
    rw [Circ.getD_app_lt _ _ _ _ e]
    refine ⟨A', cap, ?_, ?_, ?_, hx'⟩
    · rw [List.getElem?_append_left (by omega)]; exact e0
    · rw [List.getElem?_append_left (by omega)]; exact e1
    · refine ⟨?_, ?_⟩
      · rw [List.getElem?_append_left (by omega)]; exact e2.1
      · rw [List.getElem?_append_left (by omega)]; exact e2.2
  · obtain rfl : k = es.length := by simp at hk; omega
    rw [Circ.getD_app_at _ _ _ _ rfl]
    refine ⟨A, c, ?_, ?_, ?_, hx⟩
    · rw [List.getElem?_append_right (by omega), hl, Nat.sub_self]; rfl
    · rw [List.getElem?_append_right (by omega), hl, show es.length * 4 + 1 - es.length * 4 = 1 by omega]; rfl
    · refine ⟨?_, ?_⟩
      · rw [List.getElem?_append_right (by omega), hl, show es.length * 4 + 2 - es.length * 4 = 2 by omega]; rfl
      · rw [List.getElem?_append_right (by omega), hl, show es.length * 4 + 3 - es.length * 4 = 3 by omega]; rfl
/-- Such a list that can be read. -/
def CeIn (w : World) (B : Nat) (A : Option Addr) (es : List Cl) : Prop :=
  ∀ k, k < es.length → ∃ (b off : Nat), A = some ⟨b, off, none⟩ ∧ b < B ∧ ∃ (A' : Option Addr) (c' : Nat), w.cell? ⟨b, off + k * 4, none⟩ = some (.int .i64 ((es.getD k (0, [], 0, false)).1 : Nat)) ∧ w.cell? ⟨b, off + k * 4 + 1, none⟩ = some (.slice A' (es.getD k (0, [], 0, false)).2.1.length c') ∧ (w.cell? ⟨b, off + k * 4 + 2, none⟩ = some (.int .i64 ((es.getD k (0, [], 0, false)).2.2.1 : Nat)) ∧ w.cell? ⟨b, off + k * 4 + 3, none⟩ = some (.bool (es.getD k (0, [], 0, false)).2.2.2)) ∧ IntsAt w B A' (Opt.intL (es.getD k (0, [], 0, false)).2.1)
theorem CeIn.below {w w' : World} {B : Nat} {A : Option Addr} {es : List Cl} (h : CeIn w B A es) (hb : Below B w w') : CeIn w' B A es := fun k hk => by
  obtain ⟨b, off, e, hB, A', c', e0, e1, e2, hx⟩ := h k hk
  refine ⟨b, off, e, hB, A', c', (hb.cell (by exact hB)).trans e0, (hb.cell (by exact hB)).trans e1, ?_, hx.below hb⟩
  exact ⟨(hb.cell (by exact hB)).trans e2.1, (hb.cell (by exact hB)).trans e2.2⟩
theorem CeIn.mono {w : World} {B B' : Nat} {A : Option Addr} {es : List Cl} (h : CeIn w B A es) (hb : B ≤ B') : CeIn w B' A es := fun k hk => by
  obtain ⟨b, off, e, hB, A', c', e0, e1, e2, hx⟩ := h k hk
  exact ⟨b, off, e, Nat.lt_of_lt_of_le hB hb, A', c', e0, e1, e2, hx.mono hb⟩
/-- Such a list in memory of the call's own. -/
def CeAt (w : World) (B : Nat) (es : List Cl) (hs : List Value) (g cap : Nat) : Prop := w.ownsRow B 190 4 (.slice (some ⟨g, 0, none⟩) es.length cap) es.length hs ∧ CeHdrs w (Off w B g) hs es
theorem CeAt.gb {w : World} {B g cap : Nat} {es : List Cl} {hs : List Value} (h : CeAt w B es hs g cap) : B ≤ g ∧ g < w.heap.size := h.1.lt g rfl
theorem CeAt.on {w w' : World} {B g cap : Nat} {es : List Cl} {hs : List Value} (h : CeAt w B es hs g cap) (hb : Below w.heap.size w w') : CeAt w' B es hs g cap :=
  ⟨own_keepE h.1 (hb.block g (h.1.lt g rfl).2), h.2.kept (fun b hb' => hb.block b hb'.2.1) (Off.on hb.size)⟩
theorem CeAt.keep {w w' : World} {B g cap : Nat} {es : List Cl} {hs : List Value} (h : CeAt w B es hs g cap) (hk : ∀ b, B ≤ b → b < w.heap.size → w'.heap[b]? = w.heap[b]?) (hz : w.heap.size ≤ w'.heap.size) : CeAt w' B es hs g cap :=
  ⟨own_keepE h.1 (hk g h.gb.1 h.gb.2), h.2.kept (fun b hb' => hk b hb'.1 hb'.2.1) (Off.on hz)⟩
theorem CeAt.read {w : World} {B g cap : Nat} {es : List Cl} {hs : List Value} (h : CeAt w B es hs g cap) : CeIn w w.heap.size (some ⟨g, 0, none⟩) es := fun k hk => by
  obtain ⟨cur, hrow, _, _, _, _, hget⟩ := own_partsE h.1
  obtain ⟨A', c', e0, e1, e2, hx⟩ := h.2.2 k hk
  refine ⟨g, 0, rfl, hrow.lt, A', c', ?_, ?_, ?_, (hx.kept (fun _ _ => rfl) (T := fun b => b < w.heap.size) (fun b hb => hb.2.1)).ints⟩
  · rw [Nat.zero_add, hrow.cell, hget _ (by omega)]; exact e0
  · rw [Nat.zero_add, hrow.cell, hget _ (by omega)]; exact e1
  · refine ⟨?_, ?_⟩
    · rw [Nat.zero_add, hrow.cell, hget _ (by omega)]; exact e2.1
    · rw [Nat.zero_add, hrow.cell, hget _ (by omega)]; exact e2.2
theorem CeAt.made (w : World) (B : Nat) (hB : B ≤ w.heap.size) : CeAt (w.alloc (.cells #[] 190)) B [] [] w.heap.size 0 := by
  have h := World.ownsRow_lit (base := B) (e := 190) (size := 4) w #[] 0 hB (by simp [maxLen]) (by simp)
  exact ⟨h, CeHdrs.nil _ _⟩
section
variable {ops : Array Oper} {rest : List Oper} {o : Oper} {a : Act} {Q : Exit → Act → World → Prop}
end
end Go.Proofs.Ytdadokcodklfgaa
/- The contracts of comparing cells. -/
namespace Go.Proofs.Ytdadokcodklfgaa
open Go.RowKit Go.Deep Cut

end Go.Proofs.Ytdadokcodklfgaa
/- The contracts of marks on cells. -/
namespace Go.Proofs.Ytdadokcodklfgaa
open Go.RowKit Go.Deep Cut

/-- What the marks on struct j of such a row are. -/
def CeMk (cs : Array Value) (ls : List Nat) (K j : Nat) : Prop := cs[j * 4]? = some (.int .i64 (K + ofT 3 ls j : Nat)) ∧ cs[j * 4 + 2]? = some (.int .i64 (K + ofT 3 ls j + 1 + ls.getD j 0 : Nat)) ∧ cs[j * 4 + 3]? = some (.bool (((K + ofT 3 ls j + 1 + ls.getD j 0 + 1 : Nat) : Int) % 3 == 0))
/-- The row of the structs, the first m of them marked. -/
def CeRow (w : World) (g : Nat) (hs : List Value) (ls : List Nat) (m K : Nat) : Prop := ∃ cs, Row w g 190 cs ∧ ls.length * 4 ≤ cs.size ∧ (∀ j, j < ls.length → cs[j * 4 + 1]? = hs[j]?) ∧ ∀ j, j < m → CeMk cs ls K j
theorem CeRow.below {w w' : World} {g m K B : Nat} {hs : List Value} {ls : List Nat} (h : CeRow w g hs ls m K) (hb : Below B w w') (hg : g < B) : CeRow w' g hs ls m K := by
  obtain ⟨cs, hr, h1, h2, h3⟩ := h
  exact ⟨cs, hr.below hb hg, h1, h2, h3⟩
theorem CeRow.lt {w : World} {g m K : Nat} {hs : List Value} {ls : List Nat} (h : CeRow w g hs ls m K) : g < w.heap.size := by
  obtain ⟨cs, hr, _⟩ := h
  exact hr.lt
theorem CeMk.set {cs : Array Value} {hs : List Value} {ls : List Nat} {m K : Nat} (h1 : ls.length * 4 ≤ cs.size) (h2 : ∀ j, j < ls.length → cs[j * 4 + 1]? = hs[j]?) (h3 : ∀ j, j < m → CeMk cs ls K j) (hm : m < ls.length) :
    ls.length * 4 ≤ (((cs.setIfInBounds (m * 4) (.int .i64 (K + ofT 3 ls m : Nat))).setIfInBounds (m * 4 + 2) (.int .i64 (K + ofT 3 ls m + 1 + ls.getD m 0 : Nat))).setIfInBounds (m * 4 + 3) (.bool (((K + ofT 3 ls m + 1 + ls.getD m 0 + 1 : Nat) : Int) % 3 == 0))).size ∧ (∀ j, j < ls.length → (((cs.setIfInBounds (m * 4) (.int .i64 (K + ofT 3 ls m : Nat))).setIfInBounds (m * 4 + 2) (.int .i64 (K + ofT 3 ls m + 1 + ls.getD m 0 : Nat))).setIfInBounds (m * 4 + 3) (.bool (((K + ofT 3 ls m + 1 + ls.getD m 0 + 1 : Nat) : Int) % 3 == 0)))[j * 4 + 1]? = hs[j]?) ∧ ∀ j, j < m + 1 → CeMk (((cs.setIfInBounds (m * 4) (.int .i64 (K + ofT 3 ls m : Nat))).setIfInBounds (m * 4 + 2) (.int .i64 (K + ofT 3 ls m + 1 + ls.getD m 0 : Nat))).setIfInBounds (m * 4 + 3) (.bool (((K + ofT 3 ls m + 1 + ls.getD m 0 + 1 : Nat) : Int) % 3 == 0))) ls K j := by
  refine ⟨by simpa using h1, fun j hj => ?_, fun j hj => ?_⟩
  · rw [Array.getElem?_setIfInBounds_ne (by omega), Array.getElem?_setIfInBounds_ne (by omega), Array.getElem?_setIfInBounds_ne (by omega)]
    exact h2 j hj
  · by_cases e : j = m
    · subst e
      refine ⟨?_, ?_, ?_⟩
      · rw [Array.getElem?_setIfInBounds_ne (by omega), Array.getElem?_setIfInBounds_ne (by omega), Array.getElem?_setIfInBounds_self_of_lt (by omega)]
      · rw [Array.getElem?_setIfInBounds_ne (by omega), Array.getElem?_setIfInBounds_self_of_lt (by simp; omega)]
      · rw [Array.getElem?_setIfInBounds_self_of_lt (by simp; omega)]
    · obtain ⟨a, b, c⟩ := h3 j (by omega)
      refine ⟨?_, ?_, ?_⟩
      · rw [Array.getElem?_setIfInBounds_ne (by omega), Array.getElem?_setIfInBounds_ne (by omega), Array.getElem?_setIfInBounds_ne (by omega)]; exact a
      · rw [Array.getElem?_setIfInBounds_ne (by omega), Array.getElem?_setIfInBounds_ne (by omega), Array.getElem?_setIfInBounds_ne (by omega)]; exact b
      · rw [Array.getElem?_setIfInBounds_ne (by omega), Array.getElem?_setIfInBounds_ne (by omega), Array.getElem?_setIfInBounds_ne (by omega)]; exact c

end Go.Proofs.Ytdadokcodklfgaa
