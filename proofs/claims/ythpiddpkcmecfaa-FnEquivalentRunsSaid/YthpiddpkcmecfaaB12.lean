/- The contracts of the draws of truth values, and of a circuit with a state and inputs. -/
import Derived.Test.YthpiddpkcmecfaaR4
import Derived.Test.YthpiddpkcmecfaaB6
namespace Go.Proofs.Ythpiddpkcmecfaa
open Go.RowKit Go.Deep

theorem IntsAt.grownR {w w' : World} {A : Option Addr} {xs : List Int} {row : Option Nat} (h : IntsAt w w.heap.size A xs) (hg : w.grownBy w' row) (hne : ∀ b off, A = some ⟨b, off, none⟩ → 0 < xs.length → some b ≠ row) : IntsAt w' w'.heap.size A xs := fun k hk => by
  obtain ⟨b, off, e, hlt, hc⟩ := h k hk
  exact ⟨b, off, e, Nat.lt_of_lt_of_le hlt hg.size, hg.cell hc (hne b off e (by omega))⟩
theorem GatesAt.grownR {w w' : World} {A : Option Addr} {xs : List (Int × Int)} {row : Option Nat} (h : GatesAt w w.heap.size A xs) (hg : w.grownBy w' row) (hne : ∀ b off, A = some ⟨b, off, none⟩ → 0 < xs.length → some b ≠ row) : GatesAt w' w'.heap.size A xs := fun k hk => by
  obtain ⟨b, off, e, hlt, hc, hd⟩ := h k hk
  exact ⟨b, off, e, Nat.lt_of_lt_of_le hlt hg.size, hg.cell hc (hne b off e (by omega)), hg.cell hd (hne b off e (by omega))⟩
theorem BoolsAt.grownR {w w' : World} {A : Option Addr} {xs : List Bool} {row : Option Nat} (h : BoolsAt w w.heap.size A xs) (hg : w.grownBy w' row) (hne : ∀ b off, A = some ⟨b, off, none⟩ → 0 < xs.length → some b ≠ row) : BoolsAt w' w'.heap.size A xs := fun k hk => by
  obtain ⟨b, off, e, hlt, hc⟩ := h k hk
  exact ⟨b, off, e, Nat.lt_of_lt_of_le hlt hg.size, hg.cell hc (hne b off e (by omega))⟩

/-- A circuit in blocks from lo on; what is not empty lies below hi. -/
structure CircIn (w : World) (lo hi : Nat) (nA gA oA : Option Addr) (ns : List Int) (gs : List (Int × Int)) (os : List Int) : Prop where
  at' : CircAt w w.heap.size nA gA oA ns gs os
  f1 : FreshA lo nA
  f2 : FreshA lo gA
  f3 : FreshA lo oA
  u1 : ∀ b off, nA = some ⟨b, off, none⟩ → 0 < ns.length → b < hi
  u2 : ∀ b off, gA = some ⟨b, off, none⟩ → 0 < gs.length → b < hi
  u3 : ∀ b off, oA = some ⟨b, off, none⟩ → 0 < os.length → b < hi
theorem CircIn.of {w : World} {lo : Nat} {nA gA oA : Option Addr} {ns : List Int} {gs : List (Int × Int)} {os : List Int} (h : CircAt w w.heap.size nA gA oA ns gs os) (f1 : FreshA lo nA) (f2 : FreshA lo gA) (f3 : FreshA lo oA) : CircIn w lo w.heap.size nA gA oA ns gs os := by
  refine ⟨h, f1, f2, f3, fun b off e hl => ?_, fun b off e hl => ?_, fun b off e hl => ?_⟩
  · obtain ⟨b', off', e', hlt, _⟩ := h.next 0 hl
    rw [e'] at e; injection e with e; injection e with e; omega
  · obtain ⟨b', off', e', hlt, _⟩ := h.gates 0 hl
    rw [e'] at e; injection e with e; injection e with e; omega
  · obtain ⟨b', off', e', hlt, _⟩ := h.outs 0 hl
    rw [e'] at e; injection e with e; injection e with e; omega
theorem CircIn.grown {w w' : World} {lo hi : Nat} {nA gA oA : Option Addr} {ns : List Int} {gs : List (Int × Int)} {os : List Int} {row : Option Nat} (h : CircIn w lo hi nA gA oA ns gs os) (hg : w.grownBy w' row) (hr : ∀ k, row = some k → k < lo ∨ hi ≤ k) : CircIn w' lo hi nA gA oA ns gs os := by
  refine ⟨⟨h.at'.next.grownR hg (fun b off e hl he => ?_), h.at'.gates.grownR hg (fun b off e hl he => ?_), h.at'.outs.grownR hg (fun b off e hl he => ?_), h.at'.nl, h.at'.gl, h.at'.ol⟩, h.f1, h.f2, h.f3, h.u1, h.u2, h.u3⟩
  · have := h.f1 b off e; have := h.u1 b off e hl; have := hr b he.symm; omega
  · have := h.f2 b off e; have := h.u2 b off e hl; have := hr b he.symm; omega
  · have := h.f3 b off e; have := h.u3 b off e hl; have := hr b he.symm; omega

/-- A list of truth values that the call has drawn. -/
def BoolsDrawn (w : World) (R : Nat) (rb : Value) (p : Int) (n : Nat) (e : Ending) (w' : World) : Prop :=
  ∃ (g cap : Nat) (xs : List Bool), e = .returned (.slice (some ⟨g, 0, none⟩) n cap) ∧ xs.length = n ∧ w'.ownsRow w.heap.size 4 1 (.slice (some ⟨g, 0, none⟩) n cap) n (bvs xs) ∧ Row w' R 90 #[rb, .int .i64 (p + n)] ∧ w.grownBy w' (some R)

set_option maxHeartbeats 800000 in
theorem bools_any (R : Nat) (bA : Option Addr) (bl bc : Nat) (p : Int) (n : Nat) (w : World) (hR : Row w R 90 #[.slice bA bl bc, .int .i64 p]) (hb : BytesAt w R bA bl) (hbl : bl ≤ 2000) (hp0 : 0 ≤ p) (hp1 : p ≤ 90000) (hn : n ≤ 100) :
    Calls Try.prog 84 #[.pointer (some ⟨R, 0, none⟩), .int .i64 n] w (BoolsDrawn w R (.slice bA bl bc) p n) := by
  have HR := Lib.hid hR
  have HB := Lib.hid hb
  have hRw : R < w.heap.size := hR.lt
  clear hR hb
  obtain ⟨i0, hi0, hz0, hz1, hz2⟩ := info_parts Try.infoB
  have HI0 := Lib.hid hi0
  have HZ0 := Lib.hid hz0
  have HZ1 := Lib.hid hz1
  have HZ2 := Lib.hid hz2
  clear hi0 hz0 hz1 hz2
  have HO0 := Lib.hid (World.ownsRow_lit (base := w.heap.size) (e := 4) (size := 1) w #[] 0 (Nat.le_refl _) (by simp [maxLen]) (by simp))
  have HG0 : Hid (w.grownBy (w.alloc (.cells #[] 4)) (some R)) := Lib.hid (gb_alloc (World.grownBy.refl w _) _)
  have HR0 := Lib.hid (HR.out.alloc (.cells #[] 4))
  clear HR
  go_enter Try.func84, Try.ntmps84
  go_wp2
  go_loopw [5, 6] (fun v iv wr => ∃ (k g cap : Nat) (xs : List Bool), k ≤ n ∧ iv = .int .i64 k ∧ v = .slice (some ⟨g, 0, none⟩) k cap ∧ Hid (xs.length = k) ∧ Hid (wr.ownsRow w.heap.size 4 1 (.slice (some ⟨g, 0, none⟩) k cap) k (bvs xs)) ∧ Hid (Row wr R 90 #[.slice bA bl bc, .int .i64 (p + k)]) ∧ Hid (w.grownBy wr (some R))) (fun _ iv _ => n - (intOf iv).toNat)
  case atStart => exact ⟨0, _, _, [], Nat.zero_le _, rfl, rfl, Lib.hid rfl, Lib.hid (by simpa [bvs] using HO0.out), Lib.hid (by simpa using HR0.out), HG0⟩
  case round =>
    clear HO0 HG0 HR0
    obtain ⟨k, g, cap, xs, hk, rfl, rfl, HXL, HOwn, HRow, HGr⟩ := hrel
    by_cases hlt : k < n
    · have hgb : w.heap.size ≤ g := (HOwn.out.lt g rfl).1
      have hrs : w.heap.size ≤ wr.heap.size := HGr.out.size
      go_wp2_with fail
      refine (pick_any R bA bl bc (p + k) 2 wr HRow.out (HB.out.grown HGr.out) hbl (by omega) (by omega) (by omega) (by omega)).mono ?_
      rintro e w1 ⟨v, rfl, hv0, hv1, hr1, hg1⟩
      have HO1 := Lib.hid (HOwn.out.kept hg1 (.inr (fun e => own_low HOwn.out hRw e.symm)))
      have HR1 : Hid (Row w1 R 90 #[.slice bA bl bc, .int .i64 (p + ((k + 1 : Nat) : Int))]) := Lib.hid (by rw [show p + ((k + 1 : Nat) : Int) = p + (k : Int) + 1 from by omega]; exact hr1)
      have HG1 := Lib.hid (HGr.out.trans hg1)
      have hrs1 : w.heap.size ≤ w1.heap.size := Nat.le_trans hrs hg1.size
      clear hr1 hg1 HOwn HRow HGr hrs
      have HV : Hid (∃ bv : Bool, (v == 1) = bv) := Lib.hid ⟨_, rfl⟩
      obtain ⟨bv, hbv⟩ := HV.out
      clear HV hv0 hv1
      go_wp2_with (at_builtin; refine wpList_append_kept _ rfl (.tmp 13) (.tmp 17) 33 rfl w.heap.size 4 i0 _ 1 1 Try.underlying33 HI0.out HZ0.out HZ1.out HZ2.out rfl (by omega) (.slice (some ⟨g, 0, none⟩) k cap) k (bvs xs) rfl (HO1.out.alloc _) ⟨w1.heap.size, 0, none⟩ 1 1 [.bool bv] rfl rfl (World.news_of_block (cs := #[.bool bv]) (t := 4) (fr := (0, 0)) (heap_alloc_new w1 _)) (by simp [Value.oneCell']) (by omega) (by simp [maxLen]; omega) (by omega) (by simp; omega) _ rfl ?_)
      intro g' cap' w5 hown5 hgr5 hat5 hlt5 hkept5
      have HR5 := Lib.hid ((HR1.out.alloc _).grown hgr5 (own_low HO1.out hRw))
      have HG5 := Lib.hid (gb_own (gb_alloc HG1.out (.cells #[.bool bv] 4)) hgr5 (fun j hj => by simp [Value.ownBlock] at hj; omega))
      have HO5 : Hid (w5.ownsRow w.heap.size 4 1 (.slice (some ⟨g', 0, none⟩) (k + 1) cap') (k + 1) (bvs (xs ++ [bv]))) := Lib.hid (by rw [bvs_append]; exact hown5)
      have HX5 : Hid ((xs ++ [bv]).length = k + 1) := Lib.hid (by simp [HXL.out])
      clear hown5 hgr5 hat5 hlt5 hkept5 HO1 HR1 HG1 hbv
      go_wp2
      go_roundw
      case rel => exact ⟨k + 1, g', cap', _, by omega, by go_num, rfl, HX5, HO5, HR5, HG5⟩
      case measure => simp [intOf]; omega
    · obtain rfl : k = n := by omega
      go_wp2
      go_ret
      exact ⟨g, cap, xs, rfl, HXL.out, HOwn.out, HRow.out, HGr.out⟩

def DrawEvOut (w : World) (e : Ending) (w' : World) : Prop :=
  ∃ (i : Int) (nA gA oA sA iA : Option Addr) (nc gc oc sc ic : Nat) (ns : List Int) (gs : List (Int × Int)) (os : List Int) (st ins : List Bool),
    e = .returned (.tuple #[.agg #[.int .i64 i, .slice nA ns.length nc, .slice gA gs.length gc, .slice oA os.length oc], .slice sA st.length sc, .slice iA ins.length ic]) ∧ CircAt w' w'.heap.size nA gA oA ns gs os ∧ BoolsAt w' w'.heap.size sA st ∧ BoolsAt w' w'.heap.size iA ins ∧ ns.length ≤ 10 ∧ gs.length ≤ 20 ∧ os.length ≤ 10 ∧ -5 ≤ i ∧ i ≤ 5 ∧ st.length ≤ 20 ∧ ins.length ≤ 20 ∧ (FreshA w.heap.size nA ∧ FreshA w.heap.size gA ∧ FreshA w.heap.size oA ∧ FreshA w.heap.size sA ∧ FreshA w.heap.size iA) ∧ Below w.heap.size w w'

theorem fresh_some {B g : Nat} (h : B ≤ g) : FreshA B (some ⟨g, 0, none⟩) := fun b off e => by
  injection e with e
  injection e with e
  omega
theorem fresh_mono {B B' : Nat} {A : Option Addr} (h : FreshA B A) (hb : B' ≤ B) : FreshA B' A := fun b off e => Nat.le_trans hb (h b off e)
theorem own_at {w : World} {base g n cap : Nat} {xs : List Bool} (h : w.ownsRow base 4 1 (.slice (some ⟨g, 0, none⟩) n cap) n (bvs xs)) (hn : xs.length = n) : BoolsAt w w.heap.size (some ⟨g, 0, none⟩) xs := own_bools h hn
end Go.Proofs.Ythpiddpkcmecfaa
