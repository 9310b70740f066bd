/- The float64 of a small integer: how it stands to 0 and to the greatest finite float64. No condition but the integer's size. -/
import Derived.Laws.Cover2
import Derived.Laws.FloatBits
import Derived.Laws.FloatArith
namespace Go.Proofs.YtcndmdglnohbcaaGreatDoor
open Ieee

theorem inf_rung : double.infRung = 9218868437227405312 := by decide +kernel
theorem bin_rung : double.binade = 4503599627370496 := by decide +kernel
theorem sign_rung : double.signWeight = 9223372036854775808 := by decide +kernel
theorem least_d : double.leastPlace = -1074 := by decide +kernel
theorem frac_d : double.fractionBits = 52 := rfl

theorem read_word (neg : Bool) (k kept : Nat) (h1 : 4503599627370496 ≤ kept) (h2 : kept < 9007199254740992) (hk : k ≤ 2000) :
    double.read (double.word neg (k * 4503599627370496 + kept)) = .number neg kept (-1074 + k) := by
  have e1 : double.word neg (k * 4503599627370496 + kept) / 9223372036854775808 % 2 = neg.toNat := by
    cases neg <;> simp [Format.word, sign_rung] <;> omega
  have e2 : double.word neg (k * 4503599627370496 + kept) % 9223372036854775808 = k * 4503599627370496 + kept := by
    cases neg <;> simp [Format.word, sign_rung] <;> omega
  unfold Format.read
  simp only [inf_rung, bin_rung, sign_rung, least_d, e1, e2]
  rw [if_neg (by omega), if_pos (by omega)]
  have e3 : (neg.toNat == 1) = neg := by cases neg <;> rfl
  have e4 : (k * 4503599627370496 + kept) / 4503599627370496 = k + 1 := by omega
  have e5 : (k * 4503599627370496 + kept) % 4503599627370496 = kept - 4503599627370496 := by omega
  rw [e3, e4, e5]
  have e6 : 4503599627370496 + (kept - 4503599627370496) = kept := by omega
  rw [e6]
  rfl

theorem cut_none (neg : Bool) (n : Nat) : Toward.even.cut neg n 0 = n := by
  simp [Toward.cut, Nat.mod_one]

theorem nearest_small (neg : Bool) (m : Nat) (h1 : 1 ≤ m) (h2 : m < 134217728) :
    ∃ kept k : Nat, 4503599627370496 ≤ kept ∧ kept < 9007199254740992 ∧ k ≤ 2000 ∧ double.nearest neg m 0 = double.word neg (k * 4503599627370496 + kept) := by
  have hl1 : 2 ^ m.log2 ≤ m := Nat.log2_self_le (by omega)
  have hl2 : m < 2 ^ (m.log2 + 1) := Nat.lt_log2_self
  have hl3 : m.log2 < 27 := (Nat.log2_lt (by omega)).2 (by omega)
  have e0 : double.nearest neg m 0 = double.word neg (min ((max (0 + (m.log2 : Int) - 52) (-1074) - (-1074)).toNat * 4503599627370496 + Toward.even.cut neg (m <<< (0 - max (0 + (m.log2 : Int) - 52) (-1074)).toNat) (max (0 + (m.log2 : Int) - 52) (-1074) - 0).toNat) 9218868437227405312) := by
    unfold Format.nearest
    rw [if_neg (by omega)]
    simp only [frac_d, least_d, bin_rung, inf_rung]
    rfl
  rw [e0]
  clear e0
  generalize m.log2 = L at hl1 hl2 hl3 ⊢
  have f1 : max (0 + (L : Int) - 52) (-1074) = L - 52 := by omega
  rw [f1]
  have f2 : ((L : Int) - 52 - (-1074)).toNat = L + 1022 := by omega
  have f3 : (0 - ((L : Int) - 52)).toNat = 52 - L := by omega
  have f4 : ((L : Int) - 52 - 0).toNat = 0 := by omega
  rw [f2, f3, f4, cut_none]
  have g1 : 4503599627370496 ≤ m <<< (52 - L) := by
    rw [Nat.shiftLeft_eq]
    calc 4503599627370496 = 2 ^ L * 2 ^ (52 - L) := by rw [← Nat.pow_add]; rw [show L + (52 - L) = 52 by omega]
      _ ≤ m * 2 ^ (52 - L) := Nat.mul_le_mul_right _ hl1
  have g2 : m <<< (52 - L) < 9007199254740992 := by
    rw [Nat.shiftLeft_eq]
    calc m * 2 ^ (52 - L) < 2 ^ (L + 1) * 2 ^ (52 - L) := Nat.mul_lt_mul_of_pos_right hl2 (Nat.two_pow_pos _)
      _ = 9007199254740992 := by rw [← Nat.pow_add]; rw [show L + 1 + (52 - L) = 53 by omega]
  refine ⟨m <<< (52 - L), L + 1022, g1, g2, by omega, ?_⟩
  congr 1
  omega

theorem zero_read : double.read 0 = .number false 0 (-1074) := by decide +kernel
theorem max_read : double.read 9218868437227405311 = .number false 9007199254740991 971 := by decide +kernel

theorem order_zero (neg : Bool) (kept k : Nat) (h : 1 ≤ kept) :
    Datum.order (.number neg kept (-1074 + k)) (.number false 0 (-1074)) = some (if neg then .lt else .gt) := by
  have hp : 0 < kept <<< ((-1074 + (k : Int)) - min (-1074 + (k : Int)) (-1074)).toNat := by
    rw [Nat.shiftLeft_eq]; exact Nat.mul_pos h (Nat.two_pow_pos _)
  unfold Datum.order
  simp only [signed]
  generalize kept <<< ((-1074 + (k : Int)) - min (-1074 + (k : Int)) (-1074)).toNat = z at hp ⊢
  cases neg
  · simp [Int.compare_eq_gt]
    omega
  · simp [Int.compare_eq_lt]
    omega

theorem order_max (neg : Bool) (kept k : Nat) (h : kept < 9007199254740992) (hk : k ≤ 2000) :
    Datum.order (.number neg kept (-1074 + k)) (.number false 9007199254740991 971) = some .lt := by
  have e1 : min (-1074 + (k : Int)) 971 = -1074 + k := by omega
  unfold Datum.order
  simp only [signed, e1]
  have e2 : (-1074 + (k : Int) - (-1074 + (k : Int))).toNat = 0 := by omega
  have e3 : 9007199254740991 * 2 ≤ 9007199254740991 <<< ((971 : Int) - (-1074 + (k : Int))).toNat := by
    rw [Nat.shiftLeft_eq]
    refine Nat.mul_le_mul_left _ ?_
    have : 1 ≤ ((971 : Int) - (-1074 + (k : Int))).toNat := by omega
    calc 2 = 2 ^ 1 := rfl
      _ ≤ _ := Nat.pow_le_pow_right (by decide) this
  rw [e2]
  generalize 9007199254740991 <<< ((971 : Int) - (-1074 + (k : Int))).toNat = z at e3 ⊢
  cases neg
  · simp [Int.compare_eq_lt]
    omega
  · simp [Int.compare_eq_lt]
    omega

/-- how the float64 of n stands to 0 -/
theorem float_zero (n : Int) (h1 : -134217728 < n) (h2 : n < 134217728) : FloatKind.f64.format.order (floatOfInt .f64 n) 0 = some (compare n 0) := by
  show double.order (double.nearest (n < 0) n.natAbs 0) 0 = _
  by_cases hz : n = 0
  · subst hz; decide +kernel
  obtain ⟨kept, k, g1, g2, g3, g4⟩ := nearest_small (decide (n < 0)) n.natAbs (by omega) (by omega)
  unfold Format.order
  rw [g4, read_word _ _ _ g1 g2 g3, zero_read, order_zero _ _ _ (by omega)]
  by_cases hn : n < 0
  · simp [hn, (Int.compare_eq_lt).2 hn]
  · simp [hn, (Int.compare_eq_gt).2 (show 0 < n by omega)]

/-- it is no infinity -/
theorem float_max (n : Int) (h1 : -134217728 < n) (h2 : n < 134217728) : (FloatKind.f64.format.order (floatOfInt .f64 n) 9218868437227405311 == some .gt) = false := by
  show (double.order (double.nearest (n < 0) n.natAbs 0) 9218868437227405311 == some .gt) = false
  by_cases hz : n = 0
  · subst hz; decide +kernel
  obtain ⟨kept, k, g1, g2, g3, g4⟩ := nearest_small (decide (n < 0)) n.natAbs (by omega) (by omega)
  unfold Format.order
  rw [g4, read_word _ _ _ g1 g2 g3, max_read, order_max _ _ _ g2 g3]
  rfl
theorem inf_max : (FloatKind.f64.format.order 9218868437227405312 9218868437227405311 == some .gt) = true := by decide +kernel
theorem inf_zero : (FloatKind.f64.format.order 9218868437227405312 0 == some .eq) = false := by decide +kernel
end Go.Proofs.YtcndmdglnohbcaaGreatDoor
