/- The library's contracts (bytes.Buffer, bytes.Equal) laid at this program. -/
import Derived.Test.YtdadokcodklfgaaRows
import Derived.Shelf.LaysM
import Derived.Shelf.Bytes.Len
import Derived.Shelf.Bytes.TryGrow
import Derived.Shelf.Bytes.GrowSlice
import Derived.Shelf.Bytes.Bytes
import Derived.Shelf.Bytes.SlEqualAll
import Derived.Test.YtdadokcodklfgaaKC
import Derived.Laws.CopyOwn
import Derived.Deep.DeepFit
import Derived.Test.YtdadokcodklfgaaQK
import Derived.Test.YtdadokcodklfgaaKZ
namespace Go.Proofs.Ytdadokcodklfgaa
open Go.RowKit Go.Lib
def laysM181_ren : Go.Shelf.Ren := ⟨fun | 181 => 194 | n => n, fun | 130 => 90 | 3 => 3 | 0 => 0 | 93 => 89 | 37 => 22 | 91 => 87 | 5 => 5 | n => n, fun | n => n⟩
theorem laysM181 : LaysM.n181 Try.prog laysM181_ren := {
  mixed := by kernel_rfl
  f181 := Try.func194.trans (congrArg some (by kernel_rfl))
  t0 := Try.underlying0
  a0 := Try.isAgg0
  z0 := Try.sizeOf0
  v0 := Try.zeroValue0
  t3 := Try.underlying3
  a3 := Try.isAgg3
  z3 := Try.sizeOf3
  v3 := Try.zeroValue3
  t37 := Try.underlying22
  a37 := Try.isAgg22
  z37 := Try.sizeOf22
  v37 := Try.zeroValue22
  t93 := Try.underlying89
  a93 := Try.isAgg89
  z93 := Try.sizeOf89
  v93 := Try.zeroValue89
  t130 := Try.underlying90
  a130 := Try.isAgg90
  z130 := Try.sizeOf90
  v130 := Try.zeroValue90
  t5 := Try.underlying5
  a5 := Try.isAgg5
  z5 := Try.sizeOf5
  v5 := Try.zeroValue5
  t91 := Try.underlying87
  a91 := Try.isAgg87
  z91 := Try.sizeOf87
  v91 := Try.zeroValue87
  i0 := by kernel_rfl
  i3 := by kernel_rfl
  i5 := by kernel_rfl
  i37 := by kernel_rfl
  i91 := by kernel_rfl
  i93 := by kernel_rfl
  i130 := by kernel_rfl }
def laysM251_ren : Go.Shelf.Ren := ⟨fun | 251 => 192 | n => n, fun | 130 => 90 | 3 => 3 | 4 => 4 | 0 => 0 | 93 => 89 | 37 => 22 | 91 => 87 | 5 => 5 | n => n, fun | n => n⟩
theorem laysM251 : LaysM.n251 Try.prog laysM251_ren := {
  mixed := by kernel_rfl
  f251 := Try.func192.trans (congrArg some (by kernel_rfl))
  t0 := Try.underlying0
  a0 := Try.isAgg0
  z0 := Try.sizeOf0
  v0 := Try.zeroValue0
  t3 := Try.underlying3
  a3 := Try.isAgg3
  z3 := Try.sizeOf3
  v3 := Try.zeroValue3
  t4 := Try.underlying4
  a4 := Try.isAgg4
  z4 := Try.sizeOf4
  v4 := Try.zeroValue4
  t37 := Try.underlying22
  a37 := Try.isAgg22
  z37 := Try.sizeOf22
  v37 := Try.zeroValue22
  t93 := Try.underlying89
  a93 := Try.isAgg89
  z93 := Try.sizeOf89
  v93 := Try.zeroValue89
  t130 := Try.underlying90
  a130 := Try.isAgg90
  z130 := Try.sizeOf90
  v130 := Try.zeroValue90
  t5 := Try.underlying5
  a5 := Try.isAgg5
  z5 := Try.sizeOf5
  v5 := Try.zeroValue5
  t91 := Try.underlying87
  a91 := Try.isAgg87
  z91 := Try.sizeOf87
  v91 := Try.zeroValue87
  i0 := by kernel_rfl
  i3 := by kernel_rfl
  i4 := by kernel_rfl
  i5 := by kernel_rfl
  i37 := by kernel_rfl
  i91 := by kernel_rfl
  i93 := by kernel_rfl
  i130 := by kernel_rfl }
def laysM290_ren : Go.Shelf.Ren := ⟨fun | 290 => 195 | 324 => 196 | n => n, fun | 37 => 22 | 3 => 3 | 0 => 0 | 4 => 4 | 20 => 20 | 75 => 96 | 5 => 5 | 80 => 230 | 9 => 9 | n => n, fun | 14 => 0 | n => n⟩
theorem laysM290 : LaysM.n290 Try.prog laysM290_ren := {
  mixed := by kernel_rfl
  f290 := Try.func195.trans (congrArg some (by kernel_rfl))
  f324 := Try.func196.trans (congrArg some (by kernel_rfl))
  t0 := Try.underlying0
  a0 := Try.isAgg0
  z0 := Try.sizeOf0
  v0 := Try.zeroValue0
  t3 := Try.underlying3
  a3 := Try.isAgg3
  z3 := Try.sizeOf3
  v3 := Try.zeroValue3
  t4 := Try.underlying4
  a4 := Try.isAgg4
  z4 := Try.sizeOf4
  v4 := Try.zeroValue4
  t20 := Try.underlying20
  a20 := Try.isAgg20
  z20 := Try.sizeOf20
  v20 := Try.zeroValue20
  t37 := Try.underlying22
  a37 := Try.isAgg22
  z37 := Try.sizeOf22
  v37 := Try.zeroValue22
  t75 := Try.underlying96
  a75 := Try.isAgg96
  z75 := Try.sizeOf96
  v75 := Try.zeroValue96
  g14 := by kernel_rfl
  t5 := Try.underlying5
  a5 := Try.isAgg5
  z5 := Try.sizeOf5
  v5 := Try.zeroValue5
  t9 := Try.underlying9
  a9 := Try.isAgg9
  z9 := Try.sizeOf9
  v9 := Try.zeroValue9
  t80 := Try.underlying230
  a80 := Try.isAgg230
  z80 := Try.sizeOf230
  v80 := Try.zeroValue230
  i0 := by kernel_rfl
  i3 := by kernel_rfl
  i4 := by kernel_rfl
  i5 := by kernel_rfl
  i9 := by kernel_rfl
  i20 := by kernel_rfl
  i37 := by kernel_rfl
  i75 := by kernel_rfl
  i80 := by kernel_rfl
  m14 := by kernel_rfl }
theorem bufLen_any (B b : Nat) (bs : List Value) (w : World) (h : IsBuffer 89 5 B b bs w) :
    Calls Try.prog 194 #[.pointer (some ⟨b, 0, none⟩)] w fun e w' => e = .returned (.int .i64 bs.length) ∧ ∃ n, w' = w.drewN n := Any.Buffer_Len laysM181 B b bs w h
theorem bufRoom_any (b : Nat) (ao : Option Addr) (l cap n : Nat) (w : World) (c0 : w.cell? ⟨b, 0, none⟩ = some (.slice ao l cap)) (f0 : w.frozen? ⟨b, 0, none⟩ = false) (hlc : l ≤ cap) (hcap : cap ≤ maxLen) (hn : n ≤ cap - l) :
    Calls Try.prog 192 #[.pointer (some ⟨b, 0, none⟩), .int .i64 n] w fun e w' => e = .returned (.tuple #[.int .i64 l, .bool true]) ∧ w' = w.setCell ⟨b, 0, none⟩ (.slice ao (l + n) cap) := Any.Buffer_tryGrow_room laysM251 b ao l cap n w c0 f0 hlc hcap hn
theorem bufNone_any (b : Nat) (ao : Option Addr) (l cap n : Nat) (w : World) (c0 : w.cell? ⟨b, 0, none⟩ = some (.slice ao l cap)) (hlc : l ≤ cap) (hcap : cap ≤ maxLen) (hn : cap - l < n) :
    Calls Try.prog 192 #[.pointer (some ⟨b, 0, none⟩), .int .i64 n] w fun e w' => e = .returned (.tuple #[.int .i64 0, .bool false]) ∧ w' = w := Any.Buffer_tryGrow_none laysM251 b ao l cap n w c0 hlc hcap hn
theorem growSl_any (g l c n : Nat) (cur : Array Value) (w : World) (hg : w.heap[g]? = some (.cells cur 5 (0, 0))) (hcs : cur.size = c) (hlc : l ≤ c) (hn : 1 ≤ n) (hlim : l + n ≤ 140737488355328) (hc2 : c ≤ 140737488355328) (h1 : ∀ v ∈ cur.toList.take l, v.oneCell' = true) :
    Calls Try.prog 195 #[.slice (some ⟨g, 0, none⟩) l c, .int .i64 n] w fun e w' => ∃ cap2 cells, e = .returned (.slice (some ⟨w.heap.size, 0, none⟩) l cap2) ∧ w'.heap[w.heap.size]? = some (.cells cells 5 (0, 0)) ∧
      cells.size = cap2 ∧ cells.toList.take l = cur.toList.take l ∧ l + n ≤ cap2 ∧ cap2 ≤ maxLen ∧ Below w.heap.size w w' := Any.bytes_growSlice_row laysM290 g l c n cur w hg hcs hlc hn hlim hc2 h1
end Go.Proofs.Ytdadokcodklfgaa
/- The contract of (*bytes.Buffer).Write: what is written lies in a row of its own and stays. -/
namespace Go.Proofs.Ytdadokcodklfgaa
open Go.RowKit Go.Deep

/-- Bytes. -/
def bys (xs : List Nat) : List Value := xs.map fun (x : Nat) => Value.int .u8 (x : Int)
theorem bys_len (xs : List Nat) : (bys xs).length = xs.length := by simp [bys]
theorem bys_app (xs ys : List Nat) : bys (xs ++ ys) = bys xs ++ bys ys := by simp [bys]
theorem bys_one (xs : List Nat) : ∀ v ∈ bys xs, v.oneCell' = true := fun v hv => by
  simp [bys] at hv
  obtain ⟨x, _, rfl⟩ := hv
  rfl
theorem bys_get {xs : List Nat} {j : Nat} (hj : j < xs.length) : (bys xs)[j]? = some (.int .u8 (xs.getD j 0 : Nat)) := by
  simp [bys, List.getD_eq_getElem?_getD, hj]
/-- A buffer that has only been written to. -/
structure Bf (w : World) (b : Nat) (A : Option Addr) (cap : Nat) (xs : List Nat) : Prop where
  bk : ∃ lr : Int, Row w b 89 #[.slice A xs.length cap, .int .i64 0, .int .i8 lr]
  row : (A = none ∧ xs = [] ∧ cap = 0) ∨ ∃ (g : Nat) (cur : Array Value), A = some ⟨g, 0, none⟩ ∧ g ≠ b ∧ Row w g 5 cur ∧ cur.size = cap ∧ 1 ≤ xs.length ∧ xs.length ≤ cap ∧ cap ≤ maxLen ∧ cur.toList.take xs.length = bys xs
/-- What growing answers: a new row for more, what was written at its start. -/
def GrOut (b l n : Nat) (xs : List Value) (w : World) (e : Ending) (w' : World) : Prop :=
  e = .returned (.int .i64 l) ∧ ∃ (N cap2 : Nat) (cells : Array Value) (lr : Int), w.heap.size ≤ N ∧ Row w' b 89 #[.slice (some ⟨N, 0, none⟩) (l + n) cap2, .int .i64 0, .int .i8 lr] ∧ Row w' N 5 cells ∧ (cells.size = cap2 ∧ l + n ≤ cap2 ∧ cap2 ≤ maxLen ∧ cells.toList.take l = xs) ∧ (∀ k, k < w.heap.size → k ≠ b → w'.heap[k]? = w.heap[k]?) ∧ w.heap.size ≤ w'.heap.size ∧ ∀ B, B ≤ b → B ≤ w.heap.size → Below B w w'
theorem run_make64 (n : Nat) (hn : n ≤ 64) (w : World) :
    (Instr.makeSlice 22 (.int .i64 (n : Int)) (.int .i64 64)).run Try.prog w = .ok (.slice (some ⟨w.heap.size, 0, none⟩) n 64) (w.alloc (.cells (madeCells #[.int .u8 0] 64) 5)) := by
  have hinfo : (Try.prog.info? 5).map (fun i => (i.zero, i.size, i.bytes)) = some (some (.int .u8 0), 1, 1) := by kernel_rfl
  obtain ⟨i0, hi, hz0, hz1, hz2⟩ := info_parts hinfo
  have hr := run_make (P := Try.prog) w 22 5 i0 _ Try.underlying22 hi hz0 .i64 .i64 n 64 (by omega) (by omega) (by rw [hz2]; omega) (by omega)
  simp only [Int.toNat_natCast, hz1] at hr
  exact hr
set_option maxRecDepth 10000 in
set_option maxHeartbeats 800000 in
theorem grow_nil (b n : Nat) (w : World) (h1 : 1 ≤ n) (h64 : n ≤ 64) (lr : Int) (hb : Row w b 89 #[.slice none 0 0, .int .i64 0, .int .i8 lr]) :
    Calls Try.prog 193 #[.pointer (some ⟨b, 0, none⟩), .int .i64 n] w (GrOut b 0 n [] w) := by
  have hI : Lib.IsBuffer 89 5 b b [] w := ⟨Nat.le_refl _, .slice none 0 0, lr, hb, World.ownsRow_nil _ _ _ _, by simp [Value.ownBlock]⟩
  have HL := Lib.hid (bufLen_any b b [] w hI)
  have HB := Lib.hid hb
  have hmk := run_make64 n h64
  have hnil : ∀ W, (binOp .eql 22 (.slice none 0 0) (.slice none 0 0)).run Try.prog W = .ok (.bool true) W := fun W => Lib.run_eql_slice_nil_nil W _ _ Try.underlying22
  clear hI hb
  go_enter Try.func193, Try.ntmps193
  go_wp2_with fail
  refine HL.out.mono ?_
  rintro e w1 ⟨rfl, k, hw1⟩
  have HB1 : Hid (Row w1 b 89 #[.slice none 0 0, .int .i64 0, .int .i8 lr]) := Lib.hid (by rw [hw1]; exact HB.out)
  have HK1 : Hid (∀ k : Nat, w1.heap[k]? = w.heap[k]?) := Lib.hid (by rw [hw1]; exact fun _ => rfl)
  have hz1 : w.heap.size ≤ w1.heap.size := by rw [hw1]; exact Nat.le_refl _
  have HL1 : Hid (∀ B, Below B w w1) := Lib.hid (fun B => by rw [hw1]; exact ⟨rfl, rfl, rfl, Nat.le_refl _, fun _ _ => rfl⟩)
  have hbl : b < w1.heap.size := HB1.out.lt
  have c0 := HB1.out.cell 0
  have c1 := HB1.out.cell 1
  have f0 := HB1.out.frozen 0
  simp at c0 c1
  rw [List.length_nil]
  clear hw1 HL HB
  go_wp2_with fail
  refine (bufNone_any b none 0 0 n w1 c0 (Nat.le_refl _) (by simp [maxLen]) (by omega)).mono ?_
  rintro e w2 ⟨rfl, rfl⟩
  have HR : Hid (Row ((w2.setCell ⟨b, 0, none⟩ (.slice (some ⟨w2.heap.size, 0, none⟩) n 64)).alloc (.cells (madeCells #[.int .u8 0] 64) 5)) b 89 #[.slice (some ⟨w2.heap.size, 0, none⟩) n 64, .int .i64 0, .int .i8 lr]) := Lib.hid ((Below.heap_alloc _ _ _ (by simp [World.setCell]; exact hbl)).trans (HB1.out.set 0 _))
  have HN : Hid (Row ((w2.setCell ⟨b, 0, none⟩ (.slice (some ⟨w2.heap.size, 0, none⟩) n 64)).alloc (.cells (madeCells #[.int .u8 0] 64) 5)) w2.heap.size 5 (madeCells #[.int .u8 0] 64)) := Lib.hid (by
    have h := row_new (w2.setCell ⟨b, 0, none⟩ (.slice (some ⟨w2.heap.size, 0, none⟩) n 64)) 5 (madeCells #[.int .u8 0] 64)
    rw [show (w2.setCell ⟨b, 0, none⟩ (.slice (some ⟨w2.heap.size, 0, none⟩) n 64)).heap.size = w2.heap.size by simp [World.setCell]] at h
    exact h)
  have HKF : Hid (∀ k, k < w.heap.size → k ≠ b → ((w2.setCell ⟨b, 0, none⟩ (.slice (some ⟨w2.heap.size, 0, none⟩) n 64)).alloc (.cells (madeCells #[.int .u8 0] 64) 5)).heap[k]? = w.heap[k]?) := Lib.hid (fun k h1 h2 => (Below.heap_alloc _ _ _ (by simp [World.setCell]; omega)).trans ((Below.heap_setCell _ _ _ _ h2).trans (HK1.out k)))
  have HZF : Hid (w.heap.size ≤ ((w2.setCell ⟨b, 0, none⟩ (.slice (some ⟨w2.heap.size, 0, none⟩) n 64)).alloc (.cells (madeCells #[.int .u8 0] 64) 5)).heap.size) := Lib.hid (by simp [World.setCell]; omega)
  have HLF : Hid (∀ B, B ≤ b → B ≤ w.heap.size → Below B w ((w2.setCell ⟨b, 0, none⟩ (.slice (some ⟨w2.heap.size, 0, none⟩) n 64)).alloc (.cells (madeCells #[.int .u8 0] 64) 5))) := Lib.hid (fun B h1 h2 => ((HL1.out B).setCell (p := ⟨b, 0, none⟩) h1 _).alloc (by simp [World.setCell]; omega) _)
  have hz64 : (madeCells #[Value.int .u8 0] 64).size = 64 := by rw [size_madeCells]
  clear HB1 HK1 HL1
  go_wp2
  go_ret
  exact ⟨rfl, w2.heap.size, 64, _, lr, hz1, by rw [Nat.zero_add]; exact HR.out, HN.out, ⟨hz64, by omega, by simp [maxLen], by simp⟩, HKF.out, HZF.out, HLF.out⟩
set_option maxRecDepth 10000 in
set_option maxHeartbeats 400000 in
theorem grow_row (b g l cap n : Nat) (cur : Array Value) (xs : List Value) (w : World) (lr : Int) (hb : Row w b 89 #[.slice (some ⟨g, 0, none⟩) l cap, .int .i64 0, .int .i8 lr]) (hg : Row w g 5 cur) (hgb : g ≠ b) (hcs : cur.size = cap) (hl1 : 1 ≤ l) (hlc : l ≤ cap) (hn : 1 ≤ n) (hroom : cap - l < n) (hlim : l + n ≤ 1000000) (hx : cur.toList.take l = xs) (hone : ∀ v ∈ xs, v.oneCell' = true) :
    Calls Try.prog 193 #[.pointer (some ⟨b, 0, none⟩), .int .i64 n] w (GrOut b l n xs w) := by
  have hxl : xs.length = l := by rw [← hx, List.length_take, Array.length_toList]; omega
  have hI : Lib.IsBuffer 89 5 0 b xs w := ⟨Nat.zero_le _, .slice (some ⟨g, 0, none⟩) l cap, lr, hb, ⟨by omega, .inr ⟨g, cap, cur, by rw [hxl], Nat.zero_le _, hg, by omega, by simp [maxLen]; omega, by omega, by rw [hxl, Nat.mul_one]; exact hx⟩⟩, by simp [Value.ownBlock]; exact hgb⟩
  have HL := Lib.hid (bufLen_any 0 b xs w hI)
  rw [hxl] at HL
  have HB := Lib.hid hb
  have HG := Lib.hid hg
  have HXX := Lib.hid hx
  have HONE := Lib.hid hone
  clear hI hb hg hx hone hxl
  have hnil : ∀ W, (binOp .eql 22 (.slice (some ⟨g, 0, none⟩) l cap) (.slice none 0 0)).run Try.prog W = .ok (.bool false) W := fun W => Lib.run_eql_slice_some_nil W _ _ _ Try.underlying22
  go_enter Try.func193, Try.ntmps193
  go_wp2_with fail
  refine HL.out.mono ?_
  rintro e w1 ⟨rfl, k, hw1⟩
  have HB1 : Hid (Row w1 b 89 #[.slice (some ⟨g, 0, none⟩) l cap, .int .i64 0, .int .i8 lr]) := Lib.hid (by rw [hw1]; exact HB.out)
  have HG1 : Hid (Row w1 g 5 cur) := Lib.hid (by rw [hw1]; exact HG.out)
  have HK1 : Hid (∀ k : Nat, w1.heap[k]? = w.heap[k]?) := Lib.hid (by rw [hw1]; exact fun _ => rfl)
  have hz1 : w.heap.size ≤ w1.heap.size := by rw [hw1]; exact Nat.le_refl _
  have HL1 : Hid (∀ B, Below B w w1) := Lib.hid (fun B => by rw [hw1]; exact ⟨rfl, rfl, rfl, Nat.le_refl _, fun _ _ => rfl⟩)
  have hbl : b < w1.heap.size := HB1.out.lt
  have c0 := HB1.out.cell 0
  have c1 := HB1.out.cell 1
  have f0 := HB1.out.frozen 0
  have f1 := HB1.out.frozen 1
  simp at c0 c1
  have hl0 : ((l : Int) == 0) = false := by rw [beq_eq_false_iff_ne]; omega
  have hq1 : ¬ (n : Int) ≤ (cap : Int) / 2 - (l : Int) := by omega
  have hq2 : ¬ (9223372036854775807 : Int) - (cap : Int) - (n : Int) < (cap : Int) := by omega
  have hwn : IntKind.i64.wrap (n : Int) = (n : Int) := IntWalk.i64_in _ (by omega)
  have hcap : cap ≤ 1000000 := by omega
  clear hw1 HL HB HG
  go_wp2_with fail
  refine (bufNone_any b (some ⟨g, 0, none⟩) l cap n w1 c0 hlc (by simp [maxLen]; omega) hroom).mono ?_
  rintro e w2 ⟨rfl, rfl⟩
  go_upto_region 15 with fail
  rw [lateLd_of 22 (.tmp 79), lateLd_of 3 (.tmp 83), lateLd_of 3 (.tmp 88)]
  go_region_held3 (fun _ => True) (exact trivial)
    (first | (go_at_call 195; go_fit (growSl_any g l cap n cur w2.drew HG1.out hcs hlc hn (by omega) (by omega) (by rw [HXX.out]; exact HONE.out)); rintro e w3 ⟨cap2, cells, rfl, hN, hcz, hct, hcl, hcm, hb3⟩; obtain ⟨hc3, hf3⟩ := bcell hb3; have c03 := (hc3 b 0 hbl).trans c0; have c13 := (hc3 b 1 hbl).trans c1; have f03 := (hf3 b 0 hbl).trans f0; have f13 := (hf3 b 1 hbl).trans f1))
  all_goals
    have hB3 : Row w3 b 89 #[.slice (some ⟨g, 0, none⟩) l cap, .int .i64 0, .int .i8 lr] := (show Row w2.drew b _ _ from HB1.out).below hb3 hbl
    have hlt3 : w2.heap.size < w3.heap.size := Row.lt hN
    have HR : Hid (Row (((w3.setCell ⟨b, 0, none⟩ (.slice (some ⟨w2.heap.size, 0, none⟩) l cap2)).setCell ⟨b, 1, none⟩ (.int .i64 0)).setCell ⟨b, 0, none⟩ (.slice (some ⟨w2.heap.size, 0, none⟩) (l + n) cap2)) b 89 #[.slice (some ⟨w2.heap.size, 0, none⟩) (l + n) cap2, .int .i64 0, .int .i8 lr]) := Lib.hid (((hB3.set 0 (.slice (some ⟨w2.heap.size, 0, none⟩) l cap2)).set 1 (.int .i64 0)).set 0 (.slice (some ⟨w2.heap.size, 0, none⟩) (l + n) cap2))
    have hkk : ∀ k : Nat, k ≠ b → (((w3.setCell ⟨b, 0, none⟩ (.slice (some ⟨w2.heap.size, 0, none⟩) l cap2)).setCell ⟨b, 1, none⟩ (.int .i64 0)).setCell ⟨b, 0, none⟩ (.slice (some ⟨w2.heap.size, 0, none⟩) (l + n) cap2)).heap[k]? = w3.heap[k]? := fun k h => (Below.heap_setCell _ _ _ _ h).trans ((Below.heap_setCell _ _ _ _ h).trans (Below.heap_setCell _ _ _ _ h))
    have HN : Hid (Row (((w3.setCell ⟨b, 0, none⟩ (.slice (some ⟨w2.heap.size, 0, none⟩) l cap2)).setCell ⟨b, 1, none⟩ (.int .i64 0)).setCell ⟨b, 0, none⟩ (.slice (some ⟨w2.heap.size, 0, none⟩) (l + n) cap2)) w2.heap.size 5 cells) := Lib.hid ((hkk _ (by omega)).trans hN)
    have HKF : Hid (∀ k, k < w.heap.size → k ≠ b → (((w3.setCell ⟨b, 0, none⟩ (.slice (some ⟨w2.heap.size, 0, none⟩) l cap2)).setCell ⟨b, 1, none⟩ (.int .i64 0)).setCell ⟨b, 0, none⟩ (.slice (some ⟨w2.heap.size, 0, none⟩) (l + n) cap2)).heap[k]? = w.heap[k]?) := Lib.hid (fun k h1 h2 => (hkk k h2).trans ((hb3.block k (by show k < w2.heap.size; omega)).trans (HK1.out k)))
    have HZF : Hid (w.heap.size ≤ (((w3.setCell ⟨b, 0, none⟩ (.slice (some ⟨w2.heap.size, 0, none⟩) l cap2)).setCell ⟨b, 1, none⟩ (.int .i64 0)).setCell ⟨b, 0, none⟩ (.slice (some ⟨w2.heap.size, 0, none⟩) (l + n) cap2)).heap.size) := Lib.hid (by simp [World.setCell]; omega)
    have HLF : Hid (∀ B, B ≤ b → B ≤ w.heap.size → Below B w (((w3.setCell ⟨b, 0, none⟩ (.slice (some ⟨w2.heap.size, 0, none⟩) l cap2)).setCell ⟨b, 1, none⟩ (.int .i64 0)).setCell ⟨b, 0, none⟩ (.slice (some ⟨w2.heap.size, 0, none⟩) (l + n) cap2))) := Lib.hid (fun B h1 h2 => ((((HL1.out B).drew.trans (hb3.mono (by show B ≤ w2.heap.size; omega))).setCell (p := ⟨b, 0, none⟩) h1 _).setCell (p := ⟨b, 1, none⟩) h1 _).setCell (p := ⟨b, 0, none⟩) h1 _)
    have HCT : Hid (cells.size = cap2 ∧ l + n ≤ cap2 ∧ cap2 ≤ maxLen ∧ cells.toList.take l = xs) := Lib.hid ⟨hcz, hcl, hcm, by rw [hct, HXX.out]⟩
    have hwl : IntKind.i64.wrap ((l : Int) + (n : Int)) = (l : Int) + (n : Int) := IntWalk.i64_in _ (by omega)
    have hcl' : (l : Int) + (n : Int) ≤ (cap2 : Int) := by omega
    clear hkk hB3 hb3 hc3 hf3 hct hcz hN HB1 HG1 HK1 HL1 HXX HONE
    go_wp2
    go_ret
    exact ⟨rfl, w2.heap.size, cap2, cells, lr, by omega, HR.out, HN.out, HCT.out, HKF.out, HZF.out, HLF.out⟩
end Go.Proofs.Ytdadokcodklfgaa
/- The contract of (*bytes.Buffer).Write. -/
namespace Go.Proofs.Ytdadokcodklfgaa
open Go.RowKit Go.Deep

/-- What a write of more keeps. -/
structure BfKeep (b : Nat) (A A' : Option Addr) (w w' : World) : Prop where
  at' : A' = A ∨ ∃ g : Nat, A' = some ⟨g, 0, none⟩ ∧ w.heap.size ≤ g
  kept : ∀ k, k < w.heap.size → k ≠ b → NotB A k → w'.heap[k]? = w.heap[k]?
  below : ∀ B, B ≤ b → (∀ g, A.map (·.block) = some g → B ≤ g) → B ≤ w.heap.size → Below B w w'
  size : w.heap.size ≤ w'.heap.size
theorem wr_arr {cur : Array Value} {l n cap : Nat} {cs xs : List Value} (hz : cur.size = cap) (hx : cur.toList.take l = xs) (hxl : xs.length = l) (hcl : cs.length = n) (hr : l + n ≤ cap) :
    (cur.toList.take l ++ cs ++ cur.toList.drop (l + n)).toArray.size = cap ∧ (cur.toList.take l ++ cs ++ cur.toList.drop (l + n)).toArray.toList.take (l + n) = xs ++ cs := by
  refine ⟨by simp; omega, ?_⟩
  rw [List.take_append_of_le_length (by rw [List.length_append, hx, hxl, hcl]; exact Nat.le_refl _), hx, List.take_of_length_le (by rw [List.length_append, hxl, hcl]; exact Nat.le_refl _)]
theorem copy_bytes (W : World) (g l n cap2 cap c pb : Nat) (cur : Array Value) (ys : List Nat) (hg : Row W g 5 cur) (hn : ys.length = n) (hz : cur.size = cap) (hr : l + n ≤ cap) (hsrc : ∀ j, j < n → W.cell? ⟨pb, j, none⟩ = some (.int .u8 (ys.getD j 0 : Nat))) (ty : TypeId) :
    (Builtin.copy_ #[22, 22] ty #[.slice (some ⟨g, l, none⟩) n cap2, .slice (some ⟨pb, 0, none⟩) n c]).run Try.prog W = .ok (.int .i64 n) (W.setRow g (cur.toList.take l ++ (bys ys ++ cur.toList.drop (l + n))).toArray) := by
  have hsz : (Try.prog.info? 5).map (·.size) = some 1 := by kernel_rfl
  have h := run_copy_row Try.prog W 22 22 ty 5 g l n cap2 ⟨pb, 0, none⟩ n c cur 5 (bys ys) Try.underlying22 hsz hg (by rw [bys_len, hn]; exact (Nat.min_self n).symm) (fun j u hj => by
    have hj' : j < n := by have := (List.getElem?_eq_some_iff.1 hj).1; rw [bys_len] at this; omega
    rw [bys_get (by omega)] at hj
    rw [← hj]
    rw [Addr.add_lit, Nat.zero_add]
    exact hsrc j hj') (by rw [bys_len]; omega) (bys_one ys)
  rw [bys_len, hn, List.append_assoc] at h
  exact h
theorem bf_end {w w' W : World} {b N cap2 l n : Nat} {A : Option Addr} {xs ys : List Nat} {lr : Int} {cells : Array Value} (hw : W = w'.setRow N (cells.toList.take l ++ (bys ys ++ cells.toList.drop (l + n))).toArray) (hb : Row w' b 89 #[.slice (some ⟨N, 0, none⟩) (l + n) cap2, .int .i64 0, .int .i8 lr]) (hN : Row w' N 5 cells) (hz : cells.size = cap2) (hr : l + n ≤ cap2) (hm : cap2 ≤ maxLen) (ht : cells.toList.take l = bys xs) (hl : xs.length = l) (hn : ys.length = n) (hn1 : 1 ≤ n)
    (hat : A = some ⟨N, 0, none⟩ ∨ w.heap.size ≤ N) (hk : ∀ k, k < w.heap.size → k ≠ b → w'.heap[k]? = w.heap[k]?) (hzz : w.heap.size ≤ w'.heap.size) (hbel : ∀ B, B ≤ b → B ≤ w.heap.size → Below B w w') :
    Bf W b (some ⟨N, 0, none⟩) cap2 (xs ++ ys) ∧ BfKeep b A (some ⟨N, 0, none⟩) w W := by
  have hne : N ≠ b := fun e => by subst e; exact hN.ne hb (by decide) rfl
  obtain ⟨a1, a2⟩ := wr_arr hz ht (by rw [bys_len, hl]) (by rw [bys_len, hn]) hr
  rw [← List.append_assoc] at hw
  subst hw
  refine ⟨⟨⟨lr, ?_⟩, .inr ⟨N, _, rfl, hne, setRow_heap _ _ _ _ _ _ hN, a1, by rw [List.length_append]; omega, by rw [List.length_append]; omega, hm, by rw [List.length_append, bys_app, hl, hn]; exact a2⟩⟩, ⟨?_, fun k h1 h2 h3 => ?_, fun B h1 h2 h3 => ?_, by rw [setRow_size]; exact hzz⟩⟩
  · rw [List.length_append, hl, hn]
    exact (setRow_other _ _ _ _ (fun e => hne e.symm)).trans hb
  · rcases hat with h | h
    · exact .inl h.symm
    · exact .inr ⟨N, rfl, h⟩
  · refine (setRow_other _ _ _ _ (fun e => ?_)).trans (hk k h1 h2)
    rcases hat with h | h
    · subst h; subst e; exact h3 rfl
    · omega
  · refine below_setRow (hbel B h1 h3) ?_ _
    rcases hat with h | h
    · subst h; exact h2 N rfl
    · omega
/-- What a write answers. -/
def WrOut (b n : Nat) (A : Option Addr) (xs ys : List Nat) (w : World) (e : Ending) (w' : World) : Prop := e = .returned (.tuple #[.int .i64 n, .nilIface]) ∧ ∃ (A' : Option Addr) (cap' : Nat), Bf w' b A' cap' (xs ++ ys) ∧ BfKeep b A A' w w'
set_option maxRecDepth 10000 in
set_option maxHeartbeats 800000 in
theorem bwrite_any (b n c cap pb : Nat) (A : Option Addr) (xs ys : List Nat) (w : World) (hB : Bf w b A cap xs) (hn : ys.length = n) (h1 : 1 ≤ n) (h64 : n ≤ 64) (hlim : xs.length ≤ 100000) (hpb : pb ≠ b) (hpA : NotB A pb) (hpw : pb < w.heap.size) (hsrc : ∀ j, j < n → w.cell? ⟨pb, j, none⟩ = some (.int .u8 (ys.getD j 0 : Nat))) :
    Calls Try.prog 191 #[.pointer (some ⟨b, 0, none⟩), .slice (some ⟨pb, 0, none⟩) n c] w (WrOut b n A xs ys w) := by
  obtain ⟨⟨lr, hbk⟩, hrow⟩ := hB
  have hk0 : ∀ k, k ≠ b → (w.setCell ⟨b, 2, none⟩ (.int .i8 0)).heap[k]? = w.heap[k]? := fun k h => Below.heap_setCell _ _ _ _ h
  have hb0 : Row (w.setCell ⟨b, 2, none⟩ (.int .i8 0)) b 89 #[.slice A xs.length cap, .int .i64 0, .int .i8 0] := hbk.set 2 _
  have hL0 : ∀ B, B ≤ b → Below B w (w.setCell ⟨b, 2, none⟩ (.int .i8 0)) := fun B h => (Below.refl B w).setCell (p := ⟨b, 2, none⟩) h _
  have hz0 : (w.setCell ⟨b, 2, none⟩ (.int .i8 0)).heap.size = w.heap.size := by simp [World.setCell]
  have c2 := hbk.cell 2
  have f2 := hbk.frozen 2
  simp at c2
  have HB0 := Lib.hid hb0
  have HK0 := Lib.hid hk0
  have HL0 := Lib.hid hL0
  have HZ0 := Lib.hid hz0
  have HSRC := Lib.hid hsrc
  have HR := Lib.hid hrow
  obtain ⟨w0, hw0⟩ : ∃ w0, w0 = w.setCell ⟨b, 2, none⟩ (.int .i8 0) := ⟨_, rfl⟩
  clear hbk hk0 hb0 hL0 hz0 hsrc hrow
  rw [← hw0] at HB0 HK0 HL0 HZ0
  have d0 := HB0.out.cell 0
  have g0 := HB0.out.frozen 0
  simp at d0
  have HS0 : Hid (∀ j, j < n → w0.cell? ⟨pb, j, none⟩ = some (.int .u8 (ys.getD j 0 : Nat))) := Lib.hid (fun j hj => (World.cell?_of_block (a := ⟨pb, j, none⟩) (HK0.out pb hpb)).trans (HSRC.out j hj))
  by_cases hroom : n ≤ cap - xs.length
  · rcases HR.out with ⟨_, _, h0⟩ | ⟨g, cur, rfl, hgb, hg, hcz, hl1, hlc, hcm, htk⟩
    · omega
    · have hg0 : Row w0 g 5 cur := (HK0.out g hgb).trans hg
      obtain ⟨w1, hw1⟩ : ∃ w1, w1 = w0.setCell ⟨b, 0, none⟩ (.slice (some ⟨g, 0, none⟩) (xs.length + n) cap) := ⟨_, rfl⟩
      have HB1 : Hid (Row w1 b 89 #[.slice (some ⟨g, 0, none⟩) (xs.length + n) cap, .int .i64 0, .int .i8 0]) := Lib.hid (by rw [hw1]; exact HB0.out.set 0 _)
      have hk1 : ∀ k : Nat, k ≠ b → w1.heap[k]? = w0.heap[k]? := fun k h => by rw [hw1]; exact Below.heap_setCell _ _ _ _ h
      have HG1 : Hid (Row w1 g 5 cur) := Lib.hid ((hk1 g hgb).trans hg0)
      have HS1 : Hid (∀ j, j < n → w1.cell? ⟨pb, j, none⟩ = some (.int .u8 (ys.getD j 0 : Nat))) := Lib.hid (fun j hj => (World.cell?_of_block (a := ⟨pb, j, none⟩) (hk1 pb hpb)).trans (HS0.out j hj))
      have HCP := Lib.hid (fun ty cap2 => copy_bytes w1 g xs.length n cap2 cap c pb cur ys HG1.out hn hcz (by omega) HS1.out ty)
      have HZ1 : Hid (w1.heap.size = w.heap.size) := Lib.hid (by rw [hw1, ← HZ0.out]; simp [World.setCell])
      have HEND := Lib.hid (fun W hW => bf_end (W := W) (A := some ⟨g, 0, none⟩) (w := w) hW HB1.out HG1.out hcz (by omega) hcm htk rfl hn h1 (.inl rfl) (fun k _ h2 => (hk1 k h2).trans (HK0.out k h2)) (by rw [HZ1.out]; exact Nat.le_refl _) (fun B h2 _ => by rw [hw1]; exact (HL0.out B h2).setCell (p := ⟨b, 0, none⟩) h2 _))
      have e0 := HB1.out.cell 0
      simp at e0
      have hne : ¬ cap = xs.length := by omega
      have hwl : ((xs.length : Nat) : Int) ≤ ((xs.length + n : Nat) : Int) := by omega
      have hcap63 : cap ≤ 9223372036854775807 := by unfold maxLen at hcm; omega
      have HRM := Lib.hid (bufRoom_any b (some ⟨g, 0, none⟩) xs.length cap n w0 d0 g0 hlc hcm hroom)
      rw [hw0] at HRM
      clear hg0 hg hk1 HR htk
      go_enter Try.func191, Try.ntmps191
      go_wp2_with fail
      refine HRM.out.mono ?_
      rintro e w2 ⟨rfl, hw2⟩
      rw [← hw0, ← hw1] at hw2
      subst hw2
      clear HRM hw0 hw1
      have hcp := HCP.out
      clear HCP d0 g0 c2 f2
      generalize xs.length = l at *
      go_wp2
      go_ret2
      obtain ⟨r1, r2⟩ := HEND.out _ rfl
      exact ⟨rfl, _, _, r1, r2⟩
  · have hgr : Calls Try.prog 193 #[.pointer (some ⟨b, 0, none⟩), .int .i64 n] w0 (GrOut b xs.length n (bys xs) w0) := by
      rcases HR.out with ⟨rfl, rfl, rfl⟩ | ⟨g, cur, rfl, hgb, hg, hcz, hl1, hlc, hcm, htk⟩
      · exact grow_nil b n w0 h1 h64 0 HB0.out
      · exact grow_row b g xs.length cap n cur (bys xs) w0 0 HB0.out ((HK0.out g hgb).trans hg) hgb hcz hl1 hlc h1 (by omega) (by omega) htk (bys_one xs)
    have HGR := Lib.hid hgr
    have hle : xs.length ≤ cap ∧ cap ≤ maxLen := by
      rcases HR.out with ⟨_, rfl, rfl⟩ | ⟨_, _, _, _, _, _, _, a, b, _⟩
      · exact ⟨Nat.le_refl _, by simp [maxLen]⟩
      · exact ⟨a, b⟩
    have HRM := Lib.hid (bufNone_any b A xs.length cap n w0 d0 hle.1 hle.2 (by omega))
    rw [hw0] at HRM HGR
    clear hgr hle HR hroom
    go_enter Try.func191, Try.ntmps191
    go_wp2_with fail
    refine HRM.out.mono ?_
    rintro e w2 ⟨rfl, hw2⟩
    clear HRM
    subst hw2
    go_wp2_with fail
    refine HGR.out.mono ?_
    rintro e w3 ⟨rfl, N, cap2, cells, lr3, hN0, hb3, hN3, ⟨hz3, hr3, hm3, ht3⟩, hk3, hzz3, hbel3⟩
    rw [← hw0] at hN0 hk3 hzz3 hbel3
    have hzw := HZ0.out
    have hpk : w3.heap[pb]? = w0.heap[pb]? := hk3 pb (by omega) hpb
    have HS3 : Hid (∀ j, j < n → w3.cell? ⟨pb, j, none⟩ = some (.int .u8 (ys.getD j 0 : Nat))) := Lib.hid (fun j hj => (World.cell?_of_block (a := ⟨pb, j, none⟩) hpk).trans (HS0.out j hj))
    have HCP := Lib.hid (fun ty cap9 => copy_bytes w3 N xs.length n cap9 cap2 c pb cells ys hN3 hn hz3 hr3 HS3.out ty)
    have HEND := Lib.hid (fun W hW => bf_end (W := W) (A := A) (w := w) hW hb3 hN3 hz3 hr3 hm3 ht3 rfl hn h1 (.inr (by omega)) (fun k h1 h2 => (hk3 k (by omega) h2).trans (HK0.out k h2)) (by omega) (fun B h2 h3 => (HL0.out B h2).trans (hbel3 B h2 (by omega))))
    have e0 := Row.cell hb3 0
    simp at e0
    have hne : ¬ cap2 = xs.length := by omega
    have hcap63 : cap2 ≤ 9223372036854775807 := by unfold maxLen at hm3; omega
    have hwl : ((xs.length : Nat) : Int) ≤ ((xs.length + n : Nat) : Int) := by omega
    clear HGR hw0 d0 g0 c2 f2 hN0 hb3 hN3 hz3 hm3 ht3 hk3 hzz3 hbel3 hzw hpk
    have hcp := HCP.out
    clear HCP
    generalize xs.length = l at *
    go_wp2
    go_ret2
    obtain ⟨r1, r2⟩ := HEND.out _ rfl
    exact ⟨rfl, _, _, r1, r2⟩
end Go.Proofs.Ytdadokcodklfgaa
/- The contract of the program's writer with a checksum. -/
namespace Go.Proofs.Ytdadokcodklfgaa
open Go.RowKit Go.Deep

theorem Try.meth_buf (f : Nat) (p : Option Addr) (w : World) : (method (f + 1) 90 (.pointer p) "Write").run Try.prog w = .ok (191, .pointer p) w := by kernel_rfl
/-- The writer: its buffer and the sum so far. -/
def CkRow (w : World) (wb b s : Nat) : Prop := Row w wb 94 #[.iface 90 (.pointer (some ⟨b, 0, none⟩)), .int .i64 (s : Int)]
/-- What the writer's Write answers. -/
def CwOut (wb b n : Nat) (A : Option Addr) (s : Nat) (xs ys : List Nat) (w : World) (e : Ending) (w' : World) : Prop := e = .returned (.tuple #[.int .i64 n, .nilIface]) ∧ ∃ (A' : Option Addr) (cap' : Nat), Bf w' b A' cap' (xs ++ ys) ∧ CkRow w' wb b (Ck.ck s ys) ∧ (A' = A ∨ ∃ g : Nat, A' = some ⟨g, 0, none⟩ ∧ w.heap.size ≤ g) ∧ (∀ k, k < w.heap.size → k ≠ b → k ≠ wb → NotB A k → w'.heap[k]? = w.heap[k]?) ∧ (∀ B, B ≤ b → B ≤ wb → (∀ g, A.map (·.block) = some g → B ≤ g) → B ≤ w.heap.size → Below B w w') ∧ w.heap.size ≤ w'.heap.size
theorem ck_take (s : Nat) (ys : List Nat) {k : Nat} (hk : k < ys.length) : Ck.ck s (ys.take (k + 1)) = Ck.stepC (Ck.ck s (ys.take k)) (ys.getD k 0) := by rw [take_tl ys 0 hk, Ck.ck_snoc]
theorem Bf.set {w : World} {b wb : Nat} {A : Option Addr} {cap : Nat} {xs : List Nat} (h : Bf w b A cap xs) {t : TypeId} {cs : Array Value} (hr : Row w wb t cs) (h1 : t ≠ 89) (h2 : t ≠ 5) (i : Nat) (u : Value) : Bf (w.setCell ⟨wb, i, none⟩ u) b A cap xs := by
  obtain ⟨⟨lr, hb⟩, hrow⟩ := h
  refine ⟨⟨lr, hb.far (p := ⟨wb, i, none⟩) (hb.ne hr (fun e => h1 e.symm)) u⟩, ?_⟩
  rcases hrow with h | ⟨g, cur, e1, e2, e3, e4⟩
  · exact .inl h
  · exact .inr ⟨g, cur, e1, e2, e3.far (p := ⟨wb, i, none⟩) (e3.ne hr (fun e => h2 e.symm)) u, e4⟩
set_option maxRecDepth 10000 in
set_option maxHeartbeats 1600000 in
theorem cwrite_any (wb b n c cap pb s : Nat) (A : Option Addr) (xs ys : List Nat) (w : World) (hB : Bf w b A cap xs) (hC : CkRow w wb b s) (hn : ys.length = n) (h1 : 1 ≤ n) (h64 : n ≤ 64) (hnc : n ≤ c) (hc63 : c ≤ maxLen) (hlim : xs.length ≤ 100000) (hs : s < 65521) (hy : ∀ j, j < n → ys.getD j 0 < 256) (hpb : pb ≠ b) (hpw : pb ≠ wb) (hpA : NotB A pb) (hpz : pb < w.heap.size) (hwA : NotB A wb) (hsrc : ∀ j, j < n → w.cell? ⟨pb, j, none⟩ = some (.int .u8 (ys.getD j 0 : Nat))) :
    Calls Try.prog 59 #[.pointer (some ⟨wb, 0, none⟩), .slice (some ⟨pb, 0, none⟩) n c] w (CwOut wb b n A s xs ys w) := by
  have hwb : wb ≠ b := by
    obtain ⟨⟨lr, hb⟩, _⟩ := hB
    exact Row.ne hC hb (by decide)
  have HW := Lib.hid (bwrite_any b n c cap pb A xs ys w hB hn h1 h64 hlim hpb hpA hpz hsrc)
  have HC := Lib.hid hC
  have HS := Lib.hid hsrc
  have HN := Lib.hid hn
  have HY := Lib.hid hy
  have HWA := Lib.hid hwA
  have HPA := Lib.hid hpA
  have c0 := Row.cell hC 0
  simp at c0
  have hwz : wb < w.heap.size := Row.lt hC
  unfold maxLen at hc63
  clear hB hC hsrc hn hy hwA hpA
  go_enter Try.func59, Try.ntmps59
  go_wp2_with fail
  rw [Try.meth_buf]
  go_wp2_with fail
  refine HW.out.mono ?_
  rintro e w1 ⟨rfl, A', cap', hB1, hK1⟩
  have hC1 : CkRow w1 wb b s := (hK1.kept wb hwz hwb HWA.out).trans HC.out
  have hp1 : w1.heap[pb]? = w.heap[pb]? := hK1.kept pb hpz hpb HPA.out
  have HS1 : Hid (∀ j, j < n → w1.cell? ⟨pb, j, none⟩ = some (.int .u8 (ys.getD j 0 : Nat))) := Lib.hid (fun j hj => (World.cell?_of_block (a := ⟨pb, j, none⟩) hp1).trans (HS.out j hj))
  have HB1 := Lib.hid hB1
  have HC1 := Lib.hid hC1
  have HK1 := Lib.hid hK1
  have hpz1 : pb < w1.heap.size := Nat.lt_of_lt_of_le hpz hK1.size
  have hwz1 : wb < w1.heap.size := Row.lt hC1
  clear HW hB1 hC1 hK1 hp1 HS HC c0
  obtain ⟨w8, h8⟩ : ∃ w8, w8 = w1 := ⟨_, rfl⟩
  rw [← h8] at HS1 HB1 HC1 HK1 hpz1 hwz1
  rw [← h8]
  clear h8
  go_wp2
  go_loopw [23] (fun iv wr => ∃ (k : Nat), k ≤ n ∧ iv = .int .i64 k ∧ Hid (CkRow wr wb b (Ck.ck s (ys.take k))) ∧ Hid (Bf wr b A' cap' (xs ++ ys)) ∧ Hid (∀ j : Nat, j ≠ wb → wr.heap[j]? = w8.heap[j]?) ∧ Hid (∀ B, B ≤ wb → Below B w8 wr) ∧ wr.heap.size = w8.heap.size) (fun iv _ => n - (intOf iv).toNat)
  case atStart => exact ⟨0, Nat.zero_le _, rfl, HC1, HB1, Lib.hid (fun _ _ => rfl), Lib.hid (fun B _ => Below.refl _ _), rfl⟩
  case round =>
    obtain ⟨k, hk, rfl, HC, HB, HF, HL, hz⟩ := hrel
    by_cases hlt : k < n
    · have hp : wr.cell? ⟨pb, k, none⟩ = some (.int .u8 (ys.getD k 0 : Nat)) := (World.cell?_of_block (a := ⟨pb, k, none⟩) (HF.out pb hpw)).trans (HS1.out k hlt)
      have hyk := HY.out k hlt
      have HCK := Lib.hid (ck_take s ys (show k < ys.length by rw [HN.out]; exact hlt))
      have hsl : Ck.ck s (ys.take k) < 65521 := Ck.ck_lt hs _
      have hc1 := Row.cell HC.out 1
      have hf1 := Row.frozen HC.out 1
      simp at hc1
      generalize ys.getD k 0 = y at *
      obtain ⟨q, hq⟩ : ∃ q, Ck.ck s (ys.take k) = q := ⟨_, rfl⟩
      rw [hq] at hsl hc1 HCK
      have hst : Ck.stepC q y = (q * 257 + y + 1) % 65521 := rfl
      have e1 : ((q : Int) * 257 + (y : Int) + 1).tmod 65521 = ((Ck.stepC q y : Nat) : Int) := by rw [Int.tmod_eq_emod_of_nonneg (by omega), hst]; omega
      have e2 : ((q : Int) * 257 + (y : Int) + 1) % 65521 = ((Ck.stepC q y : Nat) : Int) := by rw [hst]; omega
      have hu8 : IntKind.i64.wrap (y : Int) = (y : Int) := IntWalk.i64_in _ (by omega)
      have HQ := Lib.hid hq
      have HC2 : Hid (CkRow (wr.setCell ⟨wb, 1, none⟩ (.int .i64 (Ck.stepC q y : Nat))) wb b (Ck.ck s (ys.take (k + 1)))) := Lib.hid (by rw [HCK.out]; exact Row.set HC.out 1 _)
      have HB2 := Lib.hid (HB.out.set (show Row wr wb _ _ from HC.out) (by decide) (by decide) 1 (.int .i64 (Ck.stepC q y : Nat)))
      have HF2 : Hid (∀ j : Nat, j ≠ wb → (wr.setCell ⟨wb, 1, none⟩ (.int .i64 (Ck.stepC q y : Nat))).heap[j]? = w8.heap[j]?) := Lib.hid (fun j h => (Below.heap_setCell _ _ _ _ h).trans (HF.out j h))
      have HL2 : Hid (∀ B, B ≤ wb → Below B w8 (wr.setCell ⟨wb, 1, none⟩ (.int .i64 (Ck.stepC q y : Nat)))) := Lib.hid (fun B h => (HL.out B h).setCell (p := ⟨wb, 1, none⟩) h _)
      have HZ2 : Hid ((wr.setCell ⟨wb, 1, none⟩ (.int .i64 (Ck.stepC q y : Nat))).heap.size = w8.heap.size) := Lib.hid (by rw [← hz]; simp [World.setCell])
      clear HCK hst hq HC HB HF HL hz
      generalize Ck.stepC q y = q2 at *
      go_wp2
      go_roundw
      case rel => exact ⟨k + 1, by omega, by go_num, HC2, HB2, HF2, HL2, HZ2.out⟩
      case measure => simp [intOf]; omega
    · obtain rfl : k = n := by omega
      go_wp2
      go_ret2
      have hck := HC.out
      rw [← HN.out, List.take_length] at hck
      refine ⟨rfl, A', cap', HB.out, hck, HK1.out.at', fun j h1 h2 h3 h4 => (HF.out j h3).trans (HK1.out.kept j h1 h2 h4), fun B h1 h2 h3 h4 => (HK1.out.below B h1 h3 h4).trans (HL.out B h2), by have := HK1.out.size; omega⟩
end Go.Proofs.Ytdadokcodklfgaa
