/- The contracts of the validity tests. -/
import Derived.Test.YtdadokcodklfgaaW1
import Derived.Deep.QuietTactic
import Derived.BigQuiet
import Derived.Deep.RegionWith
import Derived.Deep.RegionHeld3
namespace Go.Proofs.Ytdadokcodklfgaa
open Go.RowKit

def GatesAt (w : World) (B : Nat) (A : Option Addr) (gs : List (Int × Int)) : Prop :=
  ∀ k, k < gs.length → ∃ b off, A = some ⟨b, off, none⟩ ∧ b < B ∧ w.cell? ⟨b, off + k * 2, none⟩ = some (.int .i64 (gs.getD k (0, 0)).1) ∧ w.cell? ⟨b, off + k * 2 + 1, none⟩ = some (.int .i64 (gs.getD k (0, 0)).2)

theorem IntsAt.below {w w' : World} {B : Nat} {A : Option Addr} {xs : List Int} (h : IntsAt w B A xs) (hb : Below B w w') : IntsAt w' B A xs := fun k hk => by
  obtain ⟨b, off, e, hlt, hc⟩ := h k hk
  exact ⟨b, off, e, hlt, (hb.cell (p := ⟨b, off + k, none⟩) hlt).trans hc⟩
theorem IntsAt.mono {w : World} {B B' : Nat} {A : Option Addr} {xs : List Int} (h : IntsAt w B A xs) (hb : B ≤ B') : IntsAt w B' A xs := fun k hk => by
  obtain ⟨b, off, e, hlt, hc⟩ := h k hk
  exact ⟨b, off, e, by omega, hc⟩
theorem GatesAt.below {w w' : World} {B : Nat} {A : Option Addr} {xs : List (Int × Int)} (h : GatesAt w B A xs) (hb : Below B w w') : GatesAt w' B A xs := fun k hk => by
  obtain ⟨b, off, e, hlt, hc, hd⟩ := h k hk
  exact ⟨b, off, e, hlt, (hb.cell (p := ⟨b, off + k * 2, none⟩) hlt).trans hc, (hb.cell (p := ⟨b, off + k * 2 + 1, none⟩) hlt).trans hd⟩
theorem GatesAt.mono {w : World} {B B' : Nat} {A : Option Addr} {xs : List (Int × Int)} (h : GatesAt w B A xs) (hb : B ≤ B') : GatesAt w B' A xs := fun k hk => by
  obtain ⟨b, off, e, hlt, hc⟩ := h k hk
  exact ⟨b, off, e, by omega, hc⟩
theorem bcell {B : Nat} {W w1 : World} (hb : Below B W w1) : (∀ b o, b < B → w1.cell? ⟨b, o, none⟩ = W.cell? ⟨b, o, none⟩) ∧ (∀ b o, b < B → w1.frozen? ⟨b, o, none⟩ = W.frozen? ⟨b, o, none⟩) :=
  ⟨fun b o h => hb.cell (p := ⟨b, o, none⟩) h, fun b o h => hb.frozen (p := ⟨b, o, none⟩) h⟩

structure CircAt (w : World) (B : Nat) (nA gA oA : Option Addr) (ns : List Int) (gs : List (Int × Int)) (os : List Int) : Prop where
  next : IntsAt w B nA ns
  gates : GatesAt w B gA gs
  outs : IntsAt w B oA os
  nl : ns.length ≤ maxLen
  gl : gs.length ≤ maxLen
  ol : os.length ≤ maxLen

theorem CircAt.below {w w' : World} {B : Nat} {nA gA oA : Option Addr} {ns : List Int} {gs : List (Int × Int)} {os : List Int} (h : CircAt w B nA gA oA ns gs os) (hb : Below B w w') : CircAt w' B nA gA oA ns gs os :=
  ⟨h.next.below hb, h.gates.below hb, h.outs.below hb, h.nl, h.gl, h.ol⟩
theorem CircAt.mono {w : World} {B B' : Nat} {nA gA oA : Option Addr} {ns : List Int} {gs : List (Int × Int)} {os : List Int} (h : CircAt w B nA gA oA ns gs os) (hb : B ≤ B') : CircAt w B' nA gA oA ns gs os :=
  ⟨h.next.mono hb, h.gates.mono hb, h.outs.mono hb, h.nl, h.gl, h.ol⟩

end Go.Proofs.Ytdadokcodklfgaa
