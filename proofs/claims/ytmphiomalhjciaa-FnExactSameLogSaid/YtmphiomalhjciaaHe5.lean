/- Histories: sameCommit, case by case. -/
import Derived.Test.YtmphiomalhjciaaHe1
import Derived.Test.YtmphiomalhjciaaHe2
import Derived.Test.YtmphiomalhjciaaHe3
import Derived.Test.YtmphiomalhjciaaHe4
namespace Go.Proofs.Ytmphiomalhjciaa
open Go.RowKit

theorem sameCommit_any (d x : DCommit) (B B' : Nat) (vs us : List Value) (w : World) (hB : B ≤ w.heap.size) (hB' : B' ≤ w.heap.size) (h : fCommit.At w B d vs) (h' : fCommit.At w B' x us) :
    Calls Try.prog 93 #[.agg vs.toArray, .agg us.toArray] w fun e w' => e = .returned (.bool (sameB d x)) ∧ Below w.heap.size w w' := by
  obtain ⟨A4, c4, A5, c5, rfl, r4, r5⟩ := at_Commit h
  obtain ⟨A4x, c4x, A5x, c5x, rfl, q4, q5⟩ := at_Commit h'
  obtain ⟨d1, d2, d3, d4, d5, d6⟩ := d
  obtain ⟨x1, x2, x3, x4, x5, x6⟩ := x
  by_cases h1 : d1 = x1
  case neg =>
    rw [show sameB (d1, d2, d3, d4, d5, d6) (x1, x2, x3, x4, x5, x6) = false by simp [sameB, h1]]
    exact scNe1 d1 d2 d3 d4 d5 d6 x1 x2 x3 x4 x5 x6 h1 A4 A5 A4x A5x c4 c5 c4x c5x B B' w hB hB' r4 r5 q4 q5
  subst h1
  by_cases h2 : d2 = x2
  case neg =>
    rw [show sameB (d1, d2, d3, d4, d5, d6) (d1, x2, x3, x4, x5, x6) = false by simp [sameB, h2]]
    exact scNe2 d1 d2 d3 d4 d5 d6 x2 x3 x4 x5 x6 h2 A4 A5 A4x A5x c4 c5 c4x c5x B B' w hB hB' r4 r5 q4 q5
  subst h2
  by_cases h3 : d3 = x3
  case neg =>
    rw [show sameB (d1, d2, d3, d4, d5, d6) (d1, d2, x3, x4, x5, x6) = false by simp [sameB, h3]]
    exact scNe3 d1 d2 d3 d4 d5 d6 x3 x4 x5 x6 h3 A4 A5 A4x A5x c4 c5 c4x c5x B B' w hB hB' r4 r5 q4 q5
  subst h3
  by_cases h4 : d4 = x4
  case neg =>
    rw [show sameB (d1, d2, d3, d4, d5, d6) (d1, d2, d3, x4, x5, x6) = false by simp [sameB, h4]]
    exact scNe4 d1 d2 d3 d4 d5 d6 x4 x5 x6 h4 A4 A5 A4x A5x c4 c5 c4x c5x B B' w hB hB' r4 r5 q4 q5
  subst h4
  by_cases h5 : d5 = x5
  case neg =>
    rw [show sameB (d1, d2, d3, d4, d5, d6) (d1, d2, d3, d4, x5, x6) = false by simp [sameB, h5]]
    exact scNe5 d1 d2 d3 d4 d5 d6 x5 x6 h5 A4 A5 A4x A5x c4 c5 c4x c5x B B' w hB hB' r4 r5 q4 q5
  subst h5
  by_cases h6 : d6 = x6
  case neg =>
    rw [show sameB (d1, d2, d3, d4, d5, d6) (d1, d2, d3, d4, d5, x6) = false by simp [sameB, h6]]
    exact scNe6 d1 d2 d3 d4 d5 d6 x6 h6 A4 A5 A4x A5x c4 c5 c4x c5x B B' w hB hB' r4 r5 q4 q5
  subst h6
  rw [show sameB (d1, d2, d3, d4, d5, d6) (d1, d2, d3, d4, d5, d6) = true by simp [sameB]]
  exact scEq d1 d2 d3 d4 d5 d6 A4 A5 A4x A5x c4 c5 c4x c5x B B' w hB hB' r4 r5 q4 q5
end Go.Proofs.Ytmphiomalhjciaa
