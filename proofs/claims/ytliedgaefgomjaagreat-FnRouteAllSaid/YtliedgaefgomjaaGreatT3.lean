/- The contracts of the program's literals and renamings. -/
import Derived.Test.YtliedgaefgomjaaGreatB1a
import Derived.Test.YtliedgaefgomjaaGreatQA
import Derived.Deep.RegionLaw
namespace Go.Proofs.YtliedgaefgomjaaGreat
open Go.RowKit Go.Deep

end Go.Proofs.YtliedgaefgomjaaGreat
/- The contracts of the pair of operands, and of the variables that are reached. -/
namespace Go.Proofs.YtliedgaefgomjaaGreat
open Go.RowKit Go.Deep

end Go.Proofs.YtliedgaefgomjaaGreat
/- The contracts of the variables that are reached. -/
namespace Go.Proofs.YtliedgaefgomjaaGreat
open Go.RowKit Go.Deep

/-- Integers that do not lie in block g. -/
def IntsNe (w : World) (g : Nat) (A : Option Addr) (xs : List Int) : Prop :=
  ∀ k, k < xs.length → ∃ b off, A = some ⟨b, off, none⟩ ∧ b < w.heap.size ∧ b ≠ g ∧ w.cell? ⟨b, off + k, none⟩ = some (.int .i64 (xs.getD k 0))
theorem IntsAt.ne {w : World} {B g : Nat} {A : Option Addr} {xs : List Int} (h : IntsAt w B A xs) (hg : B ≤ g) (hB : B ≤ w.heap.size) : IntsNe w g A xs := fun k hk => by
  obtain ⟨b, off, e, hlt, hc⟩ := h k hk
  exact ⟨b, off, e, by omega, by omega, hc⟩

set_option maxHeartbeats 400000 in
theorem addVars_any (g m : Nat) (A : Option Addr) (cap n : Nat) (xs : List Nat) (w : World) (hR : Row w g 121 #[.int .u64 m]) (hx : IntsNe w g A (Opt.intL xs)) (hn : xs.length = n) (hnb : n ≤ 1000)
    (hm : m < 18446744073709551616) (hl : ∀ x, x ∈ xs → x / 2 < 64) :
    Calls Tryz.prog 102 #[.slice (some ⟨g, 0, none⟩) 1 1, .slice A n cap] w fun e w' => e = .returned (.tuple #[]) ∧ Row w' g 121 #[.int .u64 (Opt.orV m xs : Nat)] ∧ Only (some g) w w' := by
  have HR0 := Lib.hid hR
  have HX := Lib.hid hx
  have HN := Lib.hid hn
  have HM := Lib.hid hm
  have HL := Lib.hid hl
  clear hR hx hn hm hl
  go_enter Tryz.func102, Tryz.ntmps102
  go_wp2
  go_loopw [8] (fun iv wr => ∃ (k : Nat), k ≤ n ∧ iv = .int .i64 k ∧ Hid (Row wr g 121 #[.int .u64 (Opt.orV m (xs.take k) : Nat)]) ∧ Hid (Only (some g) w wr)) (fun iv _ => n - (intOf iv).toNat)
  case atStart => exact ⟨0, Nat.zero_le _, rfl, Lib.hid (by simpa [Opt.orV] using HR0.out), Lib.hid (Only.refl _ _)⟩
  case round =>
    clear HR0
    obtain ⟨k, hk, rfl, HRow, HO⟩ := hrel
    by_cases hlt : k < n
    · have hk' : k < xs.length := by rw [HN.out]; exact hlt
      obtain ⟨b, off, rfl, hbl, hbne, hcell⟩ := HX.out k (by rw [Opt.intL_len]; exact hk')
      rw [← World.cell?_of_block (a := ⟨b, off + k, none⟩) (HO.out.grown.block b hbl (by intro e; injection e; omega)), Opt.intL_at] at hcell
      have HT : Hid (Opt.orV m (xs.take (k + 1)) = Opt.orV m (xs.take k) ||| 2 ^ (xs.getD k 0 / 2)) := Lib.hid (by
        rw [List.take_succ_eq_append_getElem hk', Opt.orV_snoc]
        simp [List.getD_eq_getElem?_getD, hk'])
      have hv : xs.getD k 0 / 2 < 64 := HL.out _ (by rw [List.getD_eq_getElem?_getD, List.getElem?_eq_getElem hk']; exact List.getElem_mem hk')
      have HMk : Hid (Opt.orV m (xs.take k) < 18446744073709551616) := Lib.hid (Opt.orV_lt HM.out (fun x hx => HL.out x (List.mem_of_mem_take hx)))
      clear hk'
      generalize xs.getD k 0 = v at *
      generalize Opt.orV m (xs.take k) = mk at *
      have hq : (v : Int) / 2 = ((v / 2 : Nat) : Int) := by omega
      generalize v / 2 = q at *
      go_wp2_with (first
        | (go_at_call 52; refine (var_any _ _).mono ?_; rintro e w' ⟨rfl, rfl⟩; rw [hq])
        | (go_at_call 49; refine (add_any g mk q _ _ HRow.out hv HMk.out).mono ?_; rintro e w' ⟨rfl, rfl⟩))
      go_roundw
      case rel => exact ⟨k + 1, by omega, by go_num, Lib.hid (by rw [HT.out]; have := HRow.out.set 0 (.int .u64 (mk ||| 2 ^ q : Nat)); simpa using this), Lib.hid (HO.out.set 0 _)⟩
      case measure => simp [intOf]; omega
    · obtain rfl : k = n := by omega
      go_wp2
      go_end0
      exact ⟨rfl, by have := HRow.out; rwa [List.take_of_length_le (by rw [HN.out]; omega)] at this, HO.out⟩

theorem natL_int {xs : List Int} {c : Int} (h : Circ.litsOk xs c = true) : Opt.intL (Opt.natL xs) = xs := by
  unfold Opt.intL Opt.natL
  rw [List.map_map]
  refine (List.map_congr_left (fun x hx => ?_)).trans (List.map_id xs)
  have := Opt.litsOk_mem h hx
  simp
  omega

/-- The circuit's blocks and the box of the call's argument. -/
structure Boxed (w : World) (H : Nat) (i : Int) (nA gA oA : Option Addr) (nl nc gl gc ol oc : Nat) : Prop where
  c0 : w.cell? ⟨H, 0, none⟩ = some (.int .i64 i)
  c1 : w.cell? ⟨H, 1, none⟩ = some (.slice nA nl nc)
  c2 : w.cell? ⟨H, 2, none⟩ = some (.slice gA gl gc)
  c3 : w.cell? ⟨H, 3, none⟩ = some (.slice oA ol oc)
theorem Boxed.new (w : World) (i : Int) (nA gA oA : Option Addr) (nl nc gl gc ol oc : Nat) (t : TypeId) : Boxed (w.alloc (.cells #[.int .i64 i, .slice nA nl nc, .slice gA gl gc, .slice oA ol oc] t)) w.heap.size i nA gA oA nl nc gl gc ol oc := by
  have h : Row (w.alloc (.cells #[.int .i64 i, .slice nA nl nc, .slice gA gl gc, .slice oA ol oc] t)) w.heap.size t #[.int .i64 i, .slice nA nl nc, .slice gA gl gc, .slice oA ol oc] := heap_alloc_new w _
  exact ⟨h.cell 0, h.cell 1, h.cell 2, h.cell 3⟩
theorem Boxed.below {w w' : World} {B H : Nat} {i : Int} {nA gA oA : Option Addr} {nl nc gl gc ol oc : Nat} (h : Boxed w H i nA gA oA nl nc gl gc ol oc) (hb : Below B w w') (hH : H < B) : Boxed w' H i nA gA oA nl nc gl gc ol oc :=
  ⟨(hb.cell (p := ⟨H, 0, none⟩) hH).trans h.c0, (hb.cell (p := ⟨H, 1, none⟩) hH).trans h.c1, (hb.cell (p := ⟨H, 2, none⟩) hH).trans h.c2, (hb.cell (p := ⟨H, 3, none⟩) hH).trans h.c3⟩

def ReachOut (w : World) (M : Nat) (e : Ending) (w' : World) : Prop := ∃ g : Nat, e = .returned (.slice (some ⟨g, 0, none⟩) 1 1) ∧ w.heap.size ≤ g ∧ Row w' g 121 #[.int .u64 M] ∧ Below w.heap.size w w'

/-- A circuit's sizes within the limits. -/
structure Fits (i : Int) (f nl gl ol : Nat) (c : Opt.C) : Prop where
  i0 : 0 ≤ i
  i4 : i ≤ 4
  ln : c.ns.length = nl
  lg : c.gs.length = gl
  lo : c.os.length = ol
  n3 : nl ≤ 3
  g14 : gl ≤ 14
  o3 : ol ≤ 3
  hf : 1 + i + (nl : Int) = f
  ok : Opt.Ok f c

end Go.Proofs.YtliedgaefgomjaaGreat
