/- Contracts of lead, math.Inf and math.IsInf: the lead of one version over another as a float64, infinite for an invalid word. -/
import Derived.Test.YtcndmdglnohbcaaGreatDoorWPack
import Derived.Test.YtcndmdglnohbcaaGreatDoorWFloat
import Derived.Deep.RegionHeld3
import Derived.Deep.RegionLaw
import Derived.Laws.Externs
namespace Go.Proofs.YtcndmdglnohbcaaGreatDoor
open Go.RowKit

/-- the lead as a float64 -/
def leadBits (a b c d : Int) : Nat := if wordOk a b && wordOk c d then floatOfInt .f64 (a * 65536 + b - (c * 65536 + d)) else 9218868437227405312

theorem leadBits_ok {a b c d : Int} (h1 : wordOk a b = true) (h2 : wordOk c d = true) : leadBits a b c d = floatOfInt .f64 (a * 65536 + b - (c * 65536 + d)) := by simp [leadBits, h1, h2]
theorem leadBits_bad1 {a b c d : Int} (h1 : wordOk a b = false) : leadBits a b c d = 9218868437227405312 := by simp [leadBits, h1]
theorem leadBits_bad2 {a b c d : Int} (h1 : wordOk c d = false) : leadBits a b c d = 9218868437227405312 := by simp [leadBits, h1]

theorem frombits_run (w : World) : (callFunc 89 #[.int .u64 9218868437227405312]).run Tryz.prog w = .ok (.value (.float .f64 9218868437227405312)) w := by
  rw [run_callFunc_extern Tryz.func89 (by kernel_rfl) (by kernel_rfl) (by kernel_rfl) (e := Extern.MathFloatBits.float64frombits) (by kernel_rfl)]
  rfl
theorem inf_any (w : World) : Calls Tryz.prog 84 #[.int .i64 1] w fun e w' => e = .returned (.float .f64 9218868437227405312) ∧ w = w' := by
  have hd := frombits_run
  go_enter Tryz.func84, Tryz.ntmps84
  go_wp2
  go_ret
  exact ⟨rfl, rfl⟩
theorem below_both {w w1 w2 w3 : World} {n : Nat} (h1 : Below n w w1) (h2 : Below w1.heap.size w1.drew w2) (h3 : Below w2.heap.size w2 w3) (hn : n ≤ w1.heap.size) (hm : w1.heap.size ≤ w2.heap.size) : Below n w w3 :=
  ((h1.drew).trans (h2.mono hn)).trans (h3.mono (by omega))

theorem lead_ok (a b c d : Int) (g h : Bool) (h1 : wordOk a b = true) (h2 : wordOk c d = true) (w : World) :
    Calls Tryz.prog 67 #[.agg #[.int .i64 a, .int .i64 b, .bool g], .agg #[.int .i64 c, .int .i64 d, .bool h]] w fun o w' => o = .returned (.float .f64 (leadBits a b c d)) ∧ Below w.heap.size w w' := by
  obtain ⟨⟨a1, a2⟩, a3, a4⟩ := wordOk_iff.1 h1
  obtain ⟨⟨c1, c2⟩, c3, c4⟩ := wordOk_iff.1 h2
  have R1 := pk_range g h1
  have R2 := pk_range h h2
  go_enter Tryz.func67, Tryz.ntmps67
  go_wp2_with fail
  refine (implWordOk_any _ _ _ _).mono ?_; rintro o w1 ⟨rfl, hb1⟩; rw [h1]; obtain ⟨hc1, hf1⟩ := wcell hb1
  have hs1 : w.heap.size + 1 < w1.heap.size := by have := hb1.size; simp at this; omega
  have hB1 := (((Below.refl w.heap.size w).alloc (Nat.le_refl _) _).alloc (by simp) _).trans (hb1.mono (by simp; omega))
  go_wp2_with fail
  refine (implWordOk_any _ _ _ _).mono ?_; rintro o w2 ⟨rfl, hb2⟩; rw [h2]; obtain ⟨hc2, hf2⟩ := wcell hb2
  have hs2 : w1.heap.size ≤ w2.heap.size := hb2.size
  have hB2 := hB1.trans (hb2.mono (by omega))
  have k00 : w2.cell? ⟨w.heap.size, 0, none⟩ = some (.int .i64 a) := by rw [hc2 _ _ (by omega), hc1 _ _ (by first | (simp; done) | (simp; omega))]; go_simp
  have k01 : w2.cell? ⟨w.heap.size, 1, none⟩ = some (.int .i64 b) := by rw [hc2 _ _ (by omega), hc1 _ _ (by first | (simp; done) | (simp; omega))]; go_simp
  have k02 : w2.cell? ⟨w.heap.size, 2, none⟩ = some (.bool g) := by rw [hc2 _ _ (by omega), hc1 _ _ (by first | (simp; done) | (simp; omega))]; go_simp
  have k10 : w2.cell? ⟨w.heap.size + 1, 0, none⟩ = some (.int .i64 c) := by rw [hc2 _ _ (by omega), hc1 _ _ (by first | (simp; done) | (simp; omega))]; go_simp
  have k11 : w2.cell? ⟨w.heap.size + 1, 1, none⟩ = some (.int .i64 d) := by rw [hc2 _ _ (by omega), hc1 _ _ (by first | (simp; done) | (simp; omega))]; go_simp
  have k12 : w2.cell? ⟨w.heap.size + 1, 2, none⟩ = some (.bool h) := by rw [hc2 _ _ (by omega), hc1 _ _ (by first | (simp; done) | (simp; omega))]; go_simp
  have hL : w.heap.size + 1 < w2.drew.heap.size := by show w.heap.size + 1 < w2.heap.size; omega
  clear hb1 hb2 hf1 hf2 hB1 hc1 hc2
  have HL := Lib.hid (leadBits_ok (a := a) (b := b) (c := c) (d := d) h1 h2)
  have E1 := Lib.hid (pk_half a b g)
  have E2 := Lib.hid (pk_half c d h)
  clear h1 h2
  go_wp2_with fail
  go_region_law (first | (go_simp; go_at_call_of 33 (Value.agg #[Value.int IntKind.i64 a, Value.int IntKind.i64 b, Value.bool g]); refine (packedOf_any _ _ _ a1 a2 a3 a4 _).mono ?_; rintro o w3 ⟨rfl, hb3⟩; obtain ⟨hc3, hf3⟩ := wcell hb3; have q0 := (hc3 _ 0 hL).trans k10; have q1 := (hc3 _ 1 hL).trans k11; have q2 := (hc3 _ 2 hL).trans k12; clear hc3 hf3) | (go_simp; go_at_call_of 33 (Value.agg #[Value.int IntKind.i64 c, Value.int IntKind.i64 d, Value.bool h]); refine (packedOf_any _ _ _ c1 c2 c3 c4 _).mono ?_; rintro o w4 ⟨rfl, hb4⟩) | (go_simp; go_at_call_of 82 (Value.int IntKind.i64 (pk a b g)); refine (version_any _ R1.1 R1.2 _).mono ?_; rintro o w' ⟨rfl, rfl⟩) | (go_simp; go_at_call_of 82 (Value.int IntKind.i64 (pk c d h)); refine (version_any _ R2.1 R2.2 _).mono ?_; rintro o w' ⟨rfl, rfl⟩))
  all_goals
    go_wp2
    go_ret
    refine ⟨(show _ = Ending.returned (.float .f64 (floatOfInt .f64 (IntKind.i64.wrap (pk a b g / 2 - pk c d h / 2)))) from rfl).trans ?_, (hB2.drew.trans (hb3.mono (Nat.le_trans (by omega) (Nat.le_of_lt hL)))).trans (hb4.mono (Nat.le_trans (by omega) (Nat.le_of_lt (Nat.lt_of_lt_of_le hL hb3.size))))⟩
    rw [E1.out, E2.out, HL.out, IntWalk.i64_in _ (by omega)]

theorem lead_bad1 (a b c d : Int) (g h : Bool) (h1 : wordOk a b = false) (w : World) :
    Calls Tryz.prog 67 #[.agg #[.int .i64 a, .int .i64 b, .bool g], .agg #[.int .i64 c, .int .i64 d, .bool h]] w fun o w' => o = .returned (.float .f64 (leadBits a b c d)) ∧ Below w.heap.size w w' := by
  have HL := Lib.hid (leadBits_bad1 (a := a) (b := b) (c := c) (d := d) h1)
  go_enter Tryz.func67, Tryz.ntmps67
  go_wp2_with fail
  refine (implWordOk_any _ _ _ _).mono ?_; rintro o w1 ⟨rfl, hb1⟩; rw [h1]; obtain ⟨hc1, hf1⟩ := wcell hb1
  clear h1
  have hB1 := (((Below.refl w.heap.size w).alloc (Nat.le_refl _) _).alloc (by simp) _).trans (hb1.mono (by simp; omega))
  go_wp2_with fail
  refine (inf_any _).mono ?_; rintro o w' ⟨rfl, rfl⟩
  go_wp2
  go_ret
  rw [HL.out]
  exact ⟨rfl, hB1⟩
theorem lead_bad2 (a b c d : Int) (g h : Bool) (h1 : wordOk a b = true) (h2 : wordOk c d = false) (w : World) :
    Calls Tryz.prog 67 #[.agg #[.int .i64 a, .int .i64 b, .bool g], .agg #[.int .i64 c, .int .i64 d, .bool h]] w fun o w' => o = .returned (.float .f64 (leadBits a b c d)) ∧ Below w.heap.size w w' := by
  have HL := Lib.hid (leadBits_bad2 (a := a) (b := b) (c := c) (d := d) h2)
  go_enter Tryz.func67, Tryz.ntmps67
  go_wp2_with fail
  refine (implWordOk_any _ _ _ _).mono ?_; rintro o w1 ⟨rfl, hb1⟩; rw [h1]; obtain ⟨hc1, hf1⟩ := wcell hb1
  clear h1
  have hs1 : w.heap.size + 1 < w1.heap.size := by have := hb1.size; simp at this; omega
  have hB1 := (((Below.refl w.heap.size w).alloc (Nat.le_refl _) _).alloc (by simp) _).trans (hb1.mono (by simp; omega))
  go_wp2_with fail
  refine (implWordOk_any _ _ _ _).mono ?_; rintro o w2 ⟨rfl, hb2⟩; rw [h2]
  clear h2
  have hB2 := hB1.trans (hb2.mono (by omega))
  go_wp2_with fail
  refine (inf_any _).mono ?_; rintro o w' ⟨rfl, rfl⟩
  go_wp2
  go_ret
  rw [HL.out]
  exact ⟨rfl, hB2⟩
theorem lead_any (a b c d : Int) (g h : Bool) (w : World) :
    Calls Tryz.prog 67 #[.agg #[.int .i64 a, .int .i64 b, .bool g], .agg #[.int .i64 c, .int .i64 d, .bool h]] w fun o w' => o = .returned (.float .f64 (leadBits a b c d)) ∧ Below w.heap.size w w' := by
  cases h1 : wordOk a b
  · exact lead_bad1 a b c d g h h1 w
  · cases h2 : wordOk c d
    · exact lead_bad2 a b c d g h h1 h2 w
    · exact lead_ok a b c d g h h1 h2 w

/-- the order of versions, -2 for an invalid word -/
def laterW (a b c d : Int) : Int := if wordOk a b && wordOk c d then (if c < a ∨ c = a ∧ d < b then 1 else if a = c ∧ b = d then 0 else -1) else -2
/-- the same version -/
def sameW (a b c d : Int) : Bool := wordOk a b && wordOk c d && decide (a = c ∧ b = d)

theorem lead_cases (a b c d : Int) :
    ((FloatKind.f64.format.order (leadBits a b c d) 9218868437227405311 == some .gt) = true ∧ laterW a b c d = -2 ∧ (FloatKind.f64.format.order (leadBits a b c d) 0 == some .eq) = false ∧ sameW a b c d = false) ∨
    ((FloatKind.f64.format.order (leadBits a b c d) 9218868437227405311 == some .gt) = false ∧ (FloatKind.f64.format.order (leadBits a b c d) 0 == some .gt) = true ∧ laterW a b c d = 1 ∧ (FloatKind.f64.format.order (leadBits a b c d) 0 == some .eq) = false ∧ sameW a b c d = false) ∨
    ((FloatKind.f64.format.order (leadBits a b c d) 9218868437227405311 == some .gt) = false ∧ (FloatKind.f64.format.order (leadBits a b c d) 0 == some .gt) = false ∧ (FloatKind.f64.format.order (leadBits a b c d) 0 == some .lt) = true ∧ laterW a b c d = -1 ∧ (FloatKind.f64.format.order (leadBits a b c d) 0 == some .eq) = false ∧ sameW a b c d = false) ∨
    ((FloatKind.f64.format.order (leadBits a b c d) 9218868437227405311 == some .gt) = false ∧ (FloatKind.f64.format.order (leadBits a b c d) 0 == some .gt) = false ∧ (FloatKind.f64.format.order (leadBits a b c d) 0 == some .lt) = false ∧ laterW a b c d = 0 ∧ (FloatKind.f64.format.order (leadBits a b c d) 0 == some .eq) = true ∧ sameW a b c d = true) := by
  cases h1 : wordOk a b
  · exact .inl ⟨by rw [leadBits_bad1 h1]; exact inf_max, by simp [laterW, h1], by rw [leadBits_bad1 h1]; exact inf_zero, by simp [sameW, h1]⟩
  cases h2 : wordOk c d
  · exact .inl ⟨by rw [leadBits_bad2 h2]; exact inf_max, by simp [laterW, h2], by rw [leadBits_bad2 h2]; exact inf_zero, by simp [sameW, h2]⟩
  obtain ⟨⟨a1, a2⟩, a3, a4⟩ := wordOk_iff.1 h1
  obtain ⟨⟨c1, c2⟩, c3, c4⟩ := wordOk_iff.1 h2
  rw [leadBits_ok h1 h2, float_max _ (by omega) (by omega), float_zero _ (by omega) (by omega)]
  rcases Int.lt_trichotomy (a * 65536 + b - (c * 65536 + d)) 0 with h | h | h
  · rw [Int.compare_eq_lt.2 h]
    have hne : ¬ (c < a ∨ c = a ∧ d < b) := by omega
    have hne2 : ¬ (a = c ∧ b = d) := by omega
    exact .inr (.inr (.inl ⟨rfl, rfl, rfl, by simp [laterW, h1, h2, hne, hne2], rfl, by simp [sameW, h1, h2]; omega⟩))
  · rw [h]
    have hne : ¬ (c < a ∨ c = a ∧ d < b) := by omega
    have hne2 : (a = c ∧ b = d) := by omega
    exact .inr (.inr (.inr ⟨rfl, rfl, rfl, by simp [laterW, h2, hne2], rfl, by simp [sameW, h2, hne2]⟩))
  · rw [Int.compare_eq_gt.2 h]
    have hne : (c < a ∨ c = a ∧ d < b) := by omega
    exact .inr (.inl ⟨rfl, rfl, by simp [laterW, h1, h2, hne], rfl, by simp [sameW, h1, h2]; omega⟩)

theorem implSame_any (a b c d : Int) (g h : Bool) (w : World) :
    Calls Tryz.prog 36 #[.agg #[.int .i64 a, .int .i64 b, .bool g], .agg #[.int .i64 c, .int .i64 d, .bool h]] w fun o w' => o = .returned (.bool (sameW a b c d)) ∧ Below w.heap.size w w' := by
  have HS := Lib.hid (show (FloatKind.f64.format.order (leadBits a b c d) 0 == some .eq) = sameW a b c d by
    rcases lead_cases a b c d with ⟨x1, x2, x3, x4⟩ | ⟨x1, x2, x3, x4, x5⟩ | ⟨x1, x2, x3, x4, x5, x6⟩ | ⟨x1, x2, x3, x4, x5, x6⟩
    · rw [x3, x4]
    · rw [x4, x5]
    · rw [x5, x6]
    · rw [x5, x6])
  go_enter Tryz.func36, Tryz.ntmps36
  go_wp2_with fail
  refine (lead_any _ _ _ _ _ _ _).mono ?_; rintro o w1 ⟨rfl, hb1⟩
  have hB1 := (((Below.refl w.heap.size w).alloc (Nat.le_refl _) _).alloc (by simp) _).trans (hb1.mono (by simp; omega))
  clear hb1
  go_wp2
  go_ret
  exact ⟨wret_bool HS.out, hB1⟩
end Go.Proofs.YtcndmdglnohbcaaGreatDoor
