/- Contracts of the functions on version words: validity, the packed integer and its parts, on both sides. -/
import Derived.Test.YtkpkjcmoldkmmaaRows
import Derived.WalkKit
import Derived.WalkSpells
import Derived.WalkLawsBesides
import Derived.ProofKit
import Derived.Below
import Derived.Outline
import Derived.Lib.Hide
import Derived.Deep.QuietTactic
import Derived.BigQuiet
import Derived.IntWalk
namespace Go.Proofs.Ytkpkjcmoldkmmaa
open Go.RowKit

theorem wcell {W w1 : World} (hb : Below W.heap.size W w1) : (∀ b o, b < W.heap.size → w1.cell? ⟨b, o, none⟩ = W.cell? ⟨b, o, none⟩) ∧ (∀ b o, b < W.heap.size → w1.frozen? ⟨b, o, none⟩ = W.frozen? ⟨b, o, none⟩) :=
  ⟨fun b o h => hb.cell (p := ⟨b, o, none⟩) h, fun b o h => hb.frozen (p := ⟨b, o, none⟩) h⟩

/-- lo ≤ x ≤ hi -/
def inW (x lo hi : Int) : Bool := decide (lo ≤ x) && decide (x ≤ hi)
/-- a word is valid -/
def wordOk (e s : Int) : Bool := inW e 0 1023 && inW s 0 65535
/-- a word as a value -/
def wv (e s : Int) (h : Bool) : Value := .agg #[.int .i64 e, .int .i64 s, .bool h]

theorem wordOk_iff {e s : Int} : wordOk e s = true ↔ (0 ≤ e ∧ e ≤ 1023) ∧ 0 ≤ s ∧ s ≤ 65535 := by simp [wordOk, inW]

theorem wret_bool {a b : Bool} (h : a = b) : Ending.returned (.bool a) = .returned (.bool b) := by rw [h]
theorem wret_int {a b : Int} (h : a = b) : Ending.returned (.int .i64 a) = .returned (.int .i64 b) := by rw [h]

theorem l01InW_any (x lo hi : Int) (w : World) :
    Calls Try.prog 71 #[.int .i64 x, .int .i64 lo, .int .i64 hi] w fun e w' => e = .returned (.bool (inW x lo hi)) ∧ w = w' := by
  by_cases h1 : lo ≤ x
  · by_cases h2 : x ≤ hi
    · go_enter Try.func71, Try.ntmps71
      go_wp2
      go_ret
      exact ⟨wret_bool (by simp [inW, h1, h2]), rfl⟩
    · go_enter Try.func71, Try.ntmps71
      go_wp2
      go_ret
      exact ⟨wret_bool (by simp [inW]; omega), rfl⟩
  · go_enter Try.func71, Try.ntmps71
    go_wp2
    go_ret
    exact ⟨wret_bool (by simp [inW]; omega), rfl⟩

end Go.Proofs.Ytkpkjcmoldkmmaa
