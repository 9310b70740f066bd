/- A region that draws its order and whose calls lay memory of their own: one walk of the lexical order, over a class of worlds. -/
import Derived.Test.YtkpkjcmoldkmmaaGreatCore
import Derived.Deep.QuietTactic
import Derived.BigQuiet
namespace Go.Proofs.YtkpkjcmoldkmmaaGreat
open Go.RowKit

/-- the worlds that meet S, as a family -/
theorem cls {S : World → Prop} {w0 : World} (h0 : S w0) : ∃ (I : Type) (F : I → World), Nonempty I ∧ (∃ n, w0 = F n) ∧ (∀ n, S (F n)) ∧ ∀ W, S W → ∃ m, W = F m :=
  ⟨{W // S W}, Subtype.val, ⟨⟨w0, h0⟩⟩, ⟨⟨w0, h0⟩, rfl⟩, fun n => n.2, fun W h => ⟨⟨W, h⟩, rfl⟩⟩
theorem wp_region_cls {P : Program} {I : Type} {F : I → World} {id : Nat} {Q : Exit → Act → World → Prop} {a : Act} {w : World} {l : List Oper} (hm : P.follows .mixedOrders = true) (hB : Region.lexB .any l.toArray = true)
    (hC : ∃ n, w.drew = F n) (h : wpQuiet P l.toArray (fun w' => ∃ n, w' = F n) (fun a' => ∀ w', (∃ n, w' = F n) → Q .normal a' w') l a) : (Code.region id l.toArray true).wp P Q a w :=
  wp_region_quiet (C := fun w' => ∃ n, w' = F n) hm hB hC (by simpa using h)
end Go.Proofs.YtkpkjcmoldkmmaaGreat
