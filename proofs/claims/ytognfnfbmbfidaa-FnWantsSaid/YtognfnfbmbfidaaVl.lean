/- What the laws of this stage carry: copies that are the call's own. -/
import Derived.Test.YtognfnfbmbfidaaVj
import Derived.Test.YtognfnfbmbfidaaVo
namespace Go.Proofs.Ytognfnfbmbfidaa
open Go.RowKit

theorem toIntS_own (A : Option Addr) (n cap : Nat) (f : Nat → Int) (w : World) (hn : n ≤ 1048576) (hr : IntsAt w w.heap.size A n f) :
    Calls Try.prog 28 #[.slice A n cap] w fun e w' => ∃ g, e = .returned (.slice (some ⟨g, 0, none⟩) n n) ∧ OwnI w' w.heap.size w'.heap.size (some ⟨g, 0, none⟩) n f ∧ Below w.heap.size w w' := by
  refine (toIntS_any A n cap f w hn hr).mono ?_
  rintro e w' ⟨rfl, hb, hrow⟩
  exact ⟨_, rfl, OwnI.of_row hrow (Nat.le_refl _) hrow.lt, hb⟩
theorem toWantS_own (A : Option Addr) (cap : Nat) (l : HL) (w : World) (hn : l.length ≤ 1048576) (hr : HAt w w.heap.size A l) :
    Calls Try.prog 38 #[.slice A l.length cap] w fun e w' => ∃ g, e = .returned (.slice (some ⟨g, 0, none⟩) l.length l.length) ∧ HOwn w' w.heap.size w'.heap.size (some ⟨g, 0, none⟩) l ∧ Below w.heap.size w w' := by
  refine (toWantS_any A cap l w hn hr).mono ?_
  rintro e w' ⟨g, rfl, hb, ho⟩
  exact ⟨g, rfl, ho, hb⟩
theorem toActS_own (A : Option Addr) (n cap : Nat) (f : Nat → Int) (w : World) (hn : n ≤ 1048576) (hr : IntsAt w w.heap.size A (n * 3) f) :
    Calls Try.prog 42 #[.slice A n cap] w fun e w' => ∃ g, e = .returned (.slice (some ⟨g, 0, none⟩) n n) ∧ OwnI w' w.heap.size w'.heap.size (some ⟨g, 0, none⟩) (n * 3) f ∧ Below w.heap.size w w' := by
  refine (toActS_any A n cap f w hn hr).mono ?_
  rintro e w' ⟨rfl, hb, hrow⟩
  exact ⟨_, rfl, OwnI.of_row hrow (Nat.le_refl _) hrow.lt, hb⟩
theorem IntsAt.up4 {w : World} {B B' : Nat} {A : Option Addr} {N : Nat} {f : Nat → Int} (h : IntsAt w B A N f) (hB : B ≤ B') : IntsAt w B' A N f := h.below (Below.refl _ _) hB
theorem specHeat_keep (A : Option Addr) (n cap B : Nat) (f : Nat → Int) (w : World) (hn : n ≤ 1048576) (hr : IntsAt w B A n f) :
    Calls Try.prog 25 #[.slice A n cap] w fun e w' => e = .returned (.bool (heatB n f)) ∧ Below w.heap.size w w' := by
  refine (specHeat_any A n cap B f w hn hr).mono ?_
  rintro e w' ⟨rfl, rfl⟩
  exact ⟨rfl, Below.refl _ _⟩
end Go.Proofs.Ytognfnfbmbfidaa
