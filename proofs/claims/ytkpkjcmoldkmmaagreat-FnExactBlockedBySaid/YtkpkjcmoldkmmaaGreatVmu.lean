/- InOrder: the model's and the program's. -/
import Derived.Test.YtkpkjcmoldkmmaaGreatLb
namespace Go.Proofs.YtkpkjcmoldkmmaaGreat
open Go.RowKit

/-- all are below x -/
def belowB (n : Nat) (f : Nat → Int) (x : Int) : Bool := (List.range n).all fun j => decide (f j < x)
theorem belowB_yes {n : Nat} {f : Nat → Int} {x : Int} (h : ∀ j, j < n → f j < x) : belowB n f x = true := by
  simpa [belowB] using h
theorem belowB_no {n k : Nat} {f : Nat → Int} {x : Int} (hk : k < n) (h : ¬ f k < x) : belowB n f x = false := by
  rw [Bool.eq_false_iff]
  intro hp
  simp only [belowB, List.all_eq_true, List.mem_range, decide_eq_true_eq] at hp
  exact h (hp k hk)

end Go.Proofs.YtkpkjcmoldkmmaaGreat
