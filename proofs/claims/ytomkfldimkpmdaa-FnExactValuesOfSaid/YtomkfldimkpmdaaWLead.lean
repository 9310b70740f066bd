/- Contracts of lead, math.Inf and math.IsInf: the lead of one version over another as a float64, infinite for an invalid word. -/
import Derived.Test.YtomkfldimkpmdaaWPack
import Derived.Test.YtomkfldimkpmdaaWFloat
import Derived.Deep.RegionHeld3
import Derived.Deep.RegionLaw
import Derived.Laws.Externs
namespace Go.Proofs.Ytomkfldimkpmdaa
open Go.RowKit

/-- the lead as a float64 -/
def leadBits (a b c d : Int) : Nat := if wordOk a b && wordOk c d then floatOfInt .f64 (a * 65536 + b - (c * 65536 + d)) else 9218868437227405312

theorem leadBits_ok {a b c d : Int} (h1 : wordOk a b = true) (h2 : wordOk c d = true) : leadBits a b c d = floatOfInt .f64 (a * 65536 + b - (c * 65536 + d)) := by simp [leadBits, h1, h2]
theorem leadBits_bad1 {a b c d : Int} (h1 : wordOk a b = false) : leadBits a b c d = 9218868437227405312 := by simp [leadBits, h1]
theorem leadBits_bad2 {a b c d : Int} (h1 : wordOk c d = false) : leadBits a b c d = 9218868437227405312 := by simp [leadBits, h1]

theorem below_both {w w1 w2 w3 : World} {n : Nat} (h1 : Below n w w1) (h2 : Below w1.heap.size w1.drew w2) (h3 : Below w2.heap.size w2 w3) (hn : n ≤ w1.heap.size) (hm : w1.heap.size ≤ w2.heap.size) : Below n w w3 :=
  ((h1.drew).trans (h2.mono hn)).trans (h3.mono (by omega))

/-- the order of versions, -2 for an invalid word -/
def laterW (a b c d : Int) : Int := if wordOk a b && wordOk c d then (if c < a ∨ c = a ∧ d < b then 1 else if a = c ∧ b = d then 0 else -1) else -2
/-- the same version -/
def sameW (a b c d : Int) : Bool := wordOk a b && wordOk c d && decide (a = c ∧ b = d)

theorem lead_cases (a b c d : Int) :
    ((FloatKind.f64.format.order (leadBits a b c d) 9218868437227405311 == some .gt) = true ∧ laterW a b c d = -2 ∧ (FloatKind.f64.format.order (leadBits a b c d) 0 == some .eq) = false ∧ sameW a b c d = false) ∨
    ((FloatKind.f64.format.order (leadBits a b c d) 9218868437227405311 == some .gt) = false ∧ (FloatKind.f64.format.order (leadBits a b c d) 0 == some .gt) = true ∧ laterW a b c d = 1 ∧ (FloatKind.f64.format.order (leadBits a b c d) 0 == some .eq) = false ∧ sameW a b c d = false) ∨
    ((FloatKind.f64.format.order (leadBits a b c d) 9218868437227405311 == some .gt) = false ∧ (FloatKind.f64.format.order (leadBits a b c d) 0 == some .gt) = false ∧ (FloatKind.f64.format.order (leadBits a b c d) 0 == some .lt) = true ∧ laterW a b c d = -1 ∧ (FloatKind.f64.format.order (leadBits a b c d) 0 == some .eq) = false ∧ sameW a b c d = false) ∨
    ((FloatKind.f64.format.order (leadBits a b c d) 9218868437227405311 == some .gt) = false ∧ (FloatKind.f64.format.order (leadBits a b c d) 0 == some .gt) = false ∧ (FloatKind.f64.format.order (leadBits a b c d) 0 == some .lt) = false ∧ laterW a b c d = 0 ∧ (FloatKind.f64.format.order (leadBits a b c d) 0 == some .eq) = true ∧ sameW a b c d = true) := by
  cases h1 : wordOk a b
  · exact .inl ⟨by rw [leadBits_bad1 h1]; exact inf_max, by simp [laterW, h1], by rw [leadBits_bad1 h1]; exact inf_zero, by simp [sameW, h1]⟩
  cases h2 : wordOk c d
  · exact .inl ⟨by rw [leadBits_bad2 h2]; exact inf_max, by simp [laterW, h2], by rw [leadBits_bad2 h2]; exact inf_zero, by simp [sameW, h2]⟩
  obtain ⟨⟨a1, a2⟩, a3, a4⟩ := wordOk_iff.1 h1
  obtain ⟨⟨c1, c2⟩, c3, c4⟩ := wordOk_iff.1 h2
  rw [leadBits_ok h1 h2, float_max _ (by omega) (by omega), float_zero _ (by omega) (by omega)]
  rcases Int.lt_trichotomy (a * 65536 + b - (c * 65536 + d)) 0 with h | h | h
  · rw [Int.compare_eq_lt.2 h]
    have hne : ¬ (c < a ∨ c = a ∧ d < b) := by omega
    have hne2 : ¬ (a = c ∧ b = d) := by omega
    exact .inr (.inr (.inl ⟨rfl, rfl, rfl, by simp [laterW, h1, h2, hne, hne2], rfl, by simp [sameW, h1, h2]; omega⟩))
  · rw [h]
    have hne : ¬ (c < a ∨ c = a ∧ d < b) := by omega
    have hne2 : (a = c ∧ b = d) := by omega
    exact .inr (.inr (.inr ⟨rfl, rfl, rfl, by simp [laterW, h2, hne2], rfl, by simp [sameW, h2, hne2]⟩))
  · rw [Int.compare_eq_gt.2 h]
    have hne : (c < a ∨ c = a ∧ d < b) := by omega
    exact .inr (.inl ⟨rfl, rfl, by simp [laterW, h1, h2, hne], rfl, by simp [sameW, h1, h2]; omega⟩)

end Go.Proofs.Ytomkfldimkpmdaa
