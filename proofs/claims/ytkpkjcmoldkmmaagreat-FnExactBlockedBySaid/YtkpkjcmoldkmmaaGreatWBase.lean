/- Contracts of the functions on version words: validity, the packed integer and its parts, on both sides. -/
import Derived.Test.YtkpkjcmoldkmmaaGreatRows
import Derived.WalkKit
import Derived.WalkSpells
import Derived.WalkLawsBesides
import Derived.ProofKit
import Derived.Below
import Derived.Outline
import Derived.Lib.Hide
import Derived.Deep.QuietTactic
import Derived.BigQuiet
import Derived.IntWalk
namespace Go.Proofs.YtkpkjcmoldkmmaaGreat
open Go.RowKit

theorem wcell {W w1 : World} (hb : Below W.heap.size W w1) : (∀ b o, b < W.heap.size → w1.cell? ⟨b, o, none⟩ = W.cell? ⟨b, o, none⟩) ∧ (∀ b o, b < W.heap.size → w1.frozen? ⟨b, o, none⟩ = W.frozen? ⟨b, o, none⟩) :=
  ⟨fun b o h => hb.cell (p := ⟨b, o, none⟩) h, fun b o h => hb.frozen (p := ⟨b, o, none⟩) h⟩

/-- lo ≤ x ≤ hi -/
def inW (x lo hi : Int) : Bool := decide (lo ≤ x) && decide (x ≤ hi)
/-- a word is valid -/
def wordOk (e s : Int) : Bool := inW e 0 1023 && inW s 0 65535
/-- a word as a value -/
def wv (e s : Int) (h : Bool) : Value := .agg #[.int .i64 e, .int .i64 s, .bool h]

theorem wordOk_iff {e s : Int} : wordOk e s = true ↔ (0 ≤ e ∧ e ≤ 1023) ∧ 0 ≤ s ∧ s ≤ 65535 := by simp [wordOk, inW]

theorem wret_bool {a b : Bool} (h : a = b) : Ending.returned (.bool a) = .returned (.bool b) := by rw [h]
theorem wret_int {a b : Int} (h : a = b) : Ending.returned (.int .i64 a) = .returned (.int .i64 b) := by rw [h]

theorem toWord_any (e s : Int) (h : Bool) (w : World) :
    Calls Tryz.prog 165 #[.agg #[.int .i64 e, .int .i64 s, .bool h]] w fun o w' => o = .returned (.agg #[.int .i64 e, .int .i64 s, .bool h]) ∧ Below w.heap.size w w' := by
  go_enter Tryz.func165, Tryz.ntmps165
  go_wp2
  exact bodyPost_ret (v := .agg #[.int .i64 e, .int .i64 s, .bool h]) (by simp [results, Tryz.results165, go_sem]) rfl ⟨rfl, (((Below.refl _ _).alloc (Nat.le_refl _) _).alloc (by simp) _).alloc (by simp; omega) _⟩

theorem l01InW_any (x lo hi : Int) (w : World) :
    Calls Tryz.prog 28 #[.int .i64 x, .int .i64 lo, .int .i64 hi] w fun e w' => e = .returned (.bool (inW x lo hi)) ∧ w = w' := by
  by_cases h1 : lo ≤ x
  · by_cases h2 : x ≤ hi
    · go_enter Tryz.func28, Tryz.ntmps28
      go_wp2
      go_ret
      exact ⟨wret_bool (by simp [inW, h1, h2]), rfl⟩
    · go_enter Tryz.func28, Tryz.ntmps28
      go_wp2
      go_ret
      exact ⟨wret_bool (by simp [inW]; omega), rfl⟩
  · go_enter Tryz.func28, Tryz.ntmps28
    go_wp2
    go_ret
    exact ⟨wret_bool (by simp [inW]; omega), rfl⟩

theorem epochOk_any (x : Int) (w : World) :
    Calls Tryz.prog 209 #[.int .i64 x] w fun e w' => e = .returned (.bool (inW x 0 1023)) ∧ w = w' := by
  by_cases h1 : 0 ≤ x
  · by_cases h2 : x ≤ 1023
    · go_enter Tryz.func209, Tryz.ntmps209
      go_wp2
      go_ret
      exact ⟨wret_bool (by simp [inW, h1, h2]), rfl⟩
    · go_enter Tryz.func209, Tryz.ntmps209
      go_wp2
      go_ret
      exact ⟨wret_bool (by simp [inW]; omega), rfl⟩
  · go_enter Tryz.func209, Tryz.ntmps209
    go_wp2
    go_ret
    exact ⟨wret_bool (by simp [inW]; omega), rfl⟩

theorem specWordOk_any (e s : Int) (h : Bool) (w : World) :
    Calls Tryz.prog 133 #[.agg #[.int .i64 e, .int .i64 s, .bool h]] w fun o w' => o = .returned (.bool (wordOk e s)) ∧ Below w.heap.size w w' := by
  go_enter Tryz.func133, Tryz.ntmps133
  go_wp2_with (go_at_call 28; refine (l01InW_any _ _ _ _).mono ?_; rintro e w' ⟨rfl, rfl⟩)
  all_goals
    go_ret
    exact ⟨wret_bool (by simp_all [wordOk]), (Below.refl _ _).alloc (Nat.le_refl _) _⟩

theorem implWordOk_any (e s : Int) (h : Bool) (w : World) :
    Calls Tryz.prog 186 #[.agg #[.int .i64 e, .int .i64 s, .bool h]] w fun o w' => o = .returned (.bool (wordOk e s)) ∧ Below w.heap.size w w' := by
  by_cases h1 : 0 ≤ s
  · by_cases h2 : s ≤ 65535
    · go_enter Tryz.func186, Tryz.ntmps186
      go_wp2_with (go_at_call 209; refine (epochOk_any _ _).mono ?_; rintro e w' ⟨rfl, rfl⟩)
      all_goals
        go_ret
        exact ⟨wret_bool (by first | (simp_all [wordOk, inW]; done) | (simp_all [wordOk, inW]; omega)), (Below.refl _ _).alloc (Nat.le_refl _) _⟩
    · go_enter Tryz.func186, Tryz.ntmps186
      go_wp2_with (go_at_call 209; refine (epochOk_any _ _).mono ?_; rintro e w' ⟨rfl, rfl⟩)
      all_goals
        go_ret
        exact ⟨wret_bool (by first | (simp_all [wordOk, inW]; done) | (simp_all [wordOk, inW]; omega)), (Below.refl _ _).alloc (Nat.le_refl _) _⟩
  · go_enter Tryz.func186, Tryz.ntmps186
    go_wp2_with (go_at_call 209; refine (epochOk_any _ _).mono ?_; rintro e w' ⟨rfl, rfl⟩)
    all_goals
      go_ret
      exact ⟨wret_bool (by first | (simp_all [wordOk, inW]; done) | (simp_all [wordOk, inW]; omega)), (Below.refl _ _).alloc (Nat.le_refl _) _⟩
end Go.Proofs.YtkpkjcmoldkmmaaGreat
