/- The walk of the exact law of NetSinks. -/
import Derived.Test.YtliaommpnaagiaaGreatNS
import Derived.Test.YtliaommpnaagiaaGreatEQ
namespace Go.Proofs.YtliaommpnaagiaaGreat
open Go.RowKit Go.Deep Cut
set_option maxRecDepth 100000

theorem TimesAt.on {w w' : World} {s g cap : Nat} {xs : List Nat} (h : TimesAt w s xs g cap) (hb : Below w.heap.size w w') : TimesAt w' s xs g cap := h.keep (hb.block g h.gb.2)
theorem TimesAt.mid {w w' : World} {s g cap lo hi : Nat} {xs : List Nat} (h : TimesAt w s xs g cap) (hm : Mid lo hi w w') (hB : hi ≤ s) : TimesAt w' s xs g cap := h.keep (hm.block g h.gb.2 (.inr (by have := h.gb; omega)))
theorem IntsAt.midX {w w' : World} {B lo hi : Nat} {A : Option Addr} {xs : List Int} (h : IntsAt w B A xs) (hm : Mid lo hi w w') (hB : B ≤ lo) (hs : lo ≤ w.heap.size) : IntsAt w' B A xs := h.below ((hm.below hs).mono hB)
theorem eqI_none (A A' : Option Addr) (cap cap' : Nat) (w : World) : Calls Tryz.prog 23 #[.slice A 0 cap, .slice A' 0 cap'] w fun e w' => e = .returned (.bool true) ∧ Below w.heap.size w w' :=
  eqI_n A A' 0 cap cap' [] w (fun k hk => absurd hk (by simp [Opt.intL])) (fun k hk => absurd hk (by simp [Opt.intL])) rfl (by omega)
theorem markI_none (A : Option Addr) (cap k : Nat) (w : World) : Calls Tryz.prog 25 #[.slice A 0 cap, .int .i64 k] w fun e w' => e = .returned (.int .i64 k) ∧ Below w.heap.size w w' :=
  (markNone_any A cap k w).mono (fun e w' ⟨h1, h2⟩ => ⟨h1, by subst h2; exact Below.refl _ _⟩)
theorem heldI_none (A : Option Addr) (cap k : Nat) (w : World) : Calls Tryz.prog 26 #[.slice A 0 cap, .int .i64 k] w fun e w' => e = .returned (.int .i64 k) ∧ Below w.heap.size w w' :=
  (heldNone_any A cap k w).mono (fun e w' ⟨h1, h2⟩ => ⟨h1, by subst h2; exact Below.refl _ _⟩)
theorem times_row {w : World} {s g cap n : Nat} {xs : List Nat} (h : TimesAt w s xs g cap) (hn : xs.length = n) : ∃ cs, Row w g 3 cs ∧ n ≤ cs.size := by
  obtain ⟨cur, hrow, _, hnc, hcs, _, _⟩ := own_partsE h
  exact ⟨cur, hrow, by omega⟩

end Go.Proofs.YtliaommpnaagiaaGreat
