/- Contracts of UnpackWord on both sides, and of eqWord on equal words. -/
import Derived.Test.YtomkfldimkpmdaaWHold
namespace Go.Proofs.Ytomkfldimkpmdaa
open Go.RowKit

theorem eqWord_same (a b : Int) (h : Bool) (w : World) :
    Calls Try.prog 149 #[.agg #[.int .i64 a, .int .i64 b, .bool h], .agg #[.int .i64 a, .int .i64 b, .bool h]] w fun o w' => o = .returned (.bool true) ∧ Below w.heap.size w w' := by
  cases h
  all_goals
    go_enter Try.func149, Try.ntmps149
    go_wp2
    go_ret
    exact ⟨rfl, ((Below.refl w.heap.size w).alloc (Nat.le_refl _) _).alloc (by simp) _⟩

end Go.Proofs.Ytomkfldimkpmdaa
