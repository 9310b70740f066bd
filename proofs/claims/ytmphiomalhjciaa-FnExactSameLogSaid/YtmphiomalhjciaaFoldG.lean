/- Digits read back: what a text of digits is worth. -/
import Derived.Test.YtmphiomalhjciaaNumG
namespace Go.Proofs.Ytmphiomalhjciaa

/-- what digits are worth -/
def worth (l : List UInt8) : Nat := l.foldl (fun a d => 10 * a + (d.toNat - 48)) 0
theorem worth_more (l : List UInt8) (d : UInt8) : worth (l ++ [d]) = 10 * worth l + (d.toNat - 48) := by simp [worth]
theorem digit_nat {i : Nat} (h : i < 10) : (UInt8.ofNat (48 + i)).toNat = 48 + i := by
  rw [UInt8.toNat_ofNat']
  omega
theorem dec_step {u : Nat} (h : 10 ≤ u) : Lib.decDigits u = Lib.decDigits (u / 10) ++ [UInt8.ofNat (48 + u % 10)] := by
  rw [Lib.decDigits, dif_neg (by omega)]
theorem worth_dec : ∀ u : Nat, worth (Lib.decDigits u) = u := by
  intro u
  induction u using Nat.strongRecOn with
  | _ u ih =>
    by_cases h : u < 10
    · rw [Lib.decDigits_one h]
      simp only [worth, List.foldl_cons, List.foldl_nil, digit_nat h]
      omega
    · rw [dec_step (by omega), worth_more, ih (u / 10) (by omega), digit_nat (by omega)]
      omega
theorem dec_digit : ∀ u : Nat, ∀ d ∈ Lib.decDigits u, 48 ≤ d.toNat ∧ d.toNat ≤ 57 := by
  intro u
  induction u using Nat.strongRecOn with
  | _ u ih =>
    by_cases h : u < 10
    · rw [Lib.decDigits_one h]
      intro d hd
      simp only [List.mem_singleton] at hd
      subst hd
      rw [digit_nat h]
      omega
    · rw [dec_step (by omega)]
      intro d hd
      simp only [List.mem_append, List.mem_singleton] at hd
      rcases hd with hd | rfl
      · exact ih (u / 10) (by omega) d hd
      · rw [digit_nat (by omega)]
        omega
theorem dec_len : ∀ k u : Nat, 1 ≤ k → u < 10 ^ k → 1 ≤ (Lib.decDigits u).length ∧ (Lib.decDigits u).length ≤ k
  | 0, _, h, _ => absurd h (by omega)
  | k + 1, u, _, hu => by
    by_cases h : u < 10
    · rw [Lib.decDigits_one h]
      simp
    · have h10 : u / 10 < 10 ^ k := by rw [Nat.pow_succ] at hu; omega
      have hk : 1 ≤ k := by
        rcases Nat.eq_zero_or_pos k with rfl | h'
        · simp at h10; omega
        · exact h'
      have := dec_len k (u / 10) hk h10
      rw [dec_step (by omega)]
      simp only [List.length_append, List.length_cons, List.length_nil]
      omega
end Go.Proofs.Ytmphiomalhjciaa
