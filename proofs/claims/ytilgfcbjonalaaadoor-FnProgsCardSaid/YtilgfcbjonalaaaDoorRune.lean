/- Runes and bytes: what follows a rune's first byte is no ASCII byte. -/
import Derived.Test.YtilgfcbjonalaaaDoorCore
import Derived.Laws.RangeAny
namespace Go.Proofs.YtilgfcbjonalaaaDoor

theorem decode_skip (s : ByteArray) (pos i : Nat) (h0 : 0 < i) (h : i < (Utf8.decode s pos).2) : 128 ≤ (s.get! (pos + i)).toNat ∧ pos + i < s.size := by
  unfold Utf8.decode at h
  revert h
  simp only []
  repeat' split
  all_goals intro h
  all_goals (try (exfalso; have h' : i < 1 := h; omega))
  all_goals simp_all only [Bool.and_eq_true, decide_eq_true_eq, beq_iff_eq]
  · obtain rfl : i = 1 := by omega
    omega
  · have hi : i = 1 ∨ i = 2 := by omega
    rcases hi with rfl | rfl <;> omega
  · have hi : i = 1 ∨ i = 2 ∨ i = 3 := by omega
    rcases hi with rfl | rfl | rfl <;> omega

theorem decode_width (s : ByteArray) (pos : Nat) (h : pos < s.size) : 1 ≤ (Utf8.decode s pos).2 ∧ pos + (Utf8.decode s pos).2 ≤ s.size := by
  have h1 : 1 ≤ (Utf8.decode s pos).2 := by
    by_cases ha : (s[pos]'h).toNat < 128
    · rw [decode_ascii s pos h ha]
      exact Nat.le_refl 1
    · exact (decode_high s pos h (by omega)).2
  refine ⟨h1, ?_⟩
  by_cases hw : (Utf8.decode s pos).2 = 1
  · omega
  · have := (decode_skip s pos ((Utf8.decode s pos).2 - 1) (by omega) (by omega)).2
    omega
end Go.Proofs.YtilgfcbjonalaaaDoor
