/- Values in their limits; a writer that holds: spec.l05Written. -/
import Derived.Test.YtkpkjcmoldkmmaaRg
import Derived.Test.YtkpkjcmoldkmmaaLs2
import Derived.Test.YtkpkjcmoldkmmaaTb
namespace Go.Proofs.Ytkpkjcmoldkmmaa
open Go.RowKit

theorem specVal_any (x : Int) (w : World) :
    Calls Try.prog 117 #[.int .i64 x] w fun e w' => e = .returned (.bool (valB x)) ∧ w = w' := by
  go_enter Try.func117, Try.ntmps117
  go_wp2_with (go_at_call 71; refine (l01In_any _ _ _ _).mono ?_; rintro e w' ⟨rfl, rfl⟩)
  go_ret
  exact ⟨rfl, rfl⟩
theorem implVal_any (x : Int) (w : World) :
    Calls Try.prog 136 #[.int .i64 x] w fun e w' => e = .returned (.bool (valB x)) ∧ w = w' := by
  by_cases h1 : -1000000 ≤ x
  · by_cases h2 : x ≤ 1000000
    · go_enter Try.func136, Try.ntmps136
      go_wp2
      go_ret
      exact ⟨ret_bool (by simp [valB, inB, h1, h2]), rfl⟩
    · go_enter Try.func136, Try.ntmps136
      go_wp2
      go_ret
      exact ⟨ret_bool (by simp [valB, inB]; omega), rfl⟩
  · go_enter Try.func136, Try.ntmps136
    go_wp2
    go_ret
    exact ⟨ret_bool (by simp [valB, inB]; omega), rfl⟩
end Go.Proofs.Ytkpkjcmoldkmmaa
