/- Contracts of the model's LaterWord and SameVersion, and of HoldWord, FreeWord, UnpackWord on both sides, and of eqWord. -/
import Derived.Test.YtilgfcbjonalaaaDoorWLead
namespace Go.Proofs.YtilgfcbjonalaaaDoor
open Go.RowKit

theorem specSame_any (a b c d : Int) (g h : Bool) (w : World) :
    Calls Tryd.prog 66 #[.agg #[.int .i64 a, .int .i64 b, .bool g], .agg #[.int .i64 c, .int .i64 d, .bool h]] w fun o w' => o = .returned (.bool (sameW a b c d)) ∧ Below w.heap.size w w' := by
  cases h1 : wordOk a b
  · have HL := Lib.hid (show sameW a b c d = false by simp [sameW, h1])
    go_enter Tryd.func66, Tryd.ntmps66
    go_wp2_with fail
    refine (specWordOk_any _ _ _ _).mono ?_; rintro o w1 ⟨rfl, hb1⟩; rw [h1]
    have hB1 := (((Below.refl w.heap.size w).alloc (Nat.le_refl _) _).alloc (by simp) _).trans (hb1.mono (by simp; omega))
    clear hb1 h1
    go_wp2
    go_ret
    exact ⟨wret_bool HL.out.symm, hB1⟩
  cases h2 : wordOk c d
  · have HL := Lib.hid (show sameW a b c d = false by simp [sameW, h2])
    go_enter Tryd.func66, Tryd.ntmps66
    go_wp2_with fail
    refine (specWordOk_any _ _ _ _).mono ?_; rintro o w1 ⟨rfl, hb1⟩; rw [h1]; obtain ⟨hc1, hf1⟩ := wcell hb1
    have hs1 : w.heap.size + 1 < w1.heap.size := by have := hb1.size; simp at this; omega
    have hB1 := (((Below.refl w.heap.size w).alloc (Nat.le_refl _) _).alloc (by simp) _).trans (hb1.mono (by simp; omega))
    clear hb1 h1
    go_wp2_with fail
    refine (specWordOk_any _ _ _ _).mono ?_; rintro o w2 ⟨rfl, hb2⟩; rw [h2]
    have hB2 := hB1.trans (hb2.mono (by omega))
    clear hb2 h2 hB1
    go_wp2
    go_ret
    exact ⟨wret_bool HL.out.symm, hB2⟩
  have HL := Lib.hid (show sameW a b c d = decide (a = c ∧ b = d) by simp [sameW, h1, h2])
  go_enter Tryd.func66, Tryd.ntmps66
  go_wp2_with fail
  refine (specWordOk_any _ _ _ _).mono ?_; rintro o w1 ⟨rfl, hb1⟩; rw [h1]; obtain ⟨hc1, hf1⟩ := wcell hb1
  have hs1 : w.heap.size + 1 < w1.heap.size := by have := hb1.size; simp at this; omega
  have hB1 := (((Below.refl w.heap.size w).alloc (Nat.le_refl _) _).alloc (by simp) _).trans (hb1.mono (by simp; omega))
  clear hb1 h1
  go_wp2_with fail
  refine (specWordOk_any _ _ _ _).mono ?_; rintro o w2 ⟨rfl, hb2⟩; rw [h2]
  have k00 : w2.cell? ⟨w.heap.size, 0, none⟩ = some (.int .i64 a) := by rw [(wcell hb2).1 _ _ (by omega), hc1 _ _ (by first | (simp; done) | (simp; omega))]; go_simp
  have k01 : w2.cell? ⟨w.heap.size, 1, none⟩ = some (.int .i64 b) := by rw [(wcell hb2).1 _ _ (by omega), hc1 _ _ (by first | (simp; done) | (simp; omega))]; go_simp
  have k10 : w2.cell? ⟨w.heap.size + 1, 0, none⟩ = some (.int .i64 c) := by rw [(wcell hb2).1 _ _ (by omega), hc1 _ _ (by first | (simp; done) | (simp; omega))]; go_simp
  have k11 : w2.cell? ⟨w.heap.size + 1, 1, none⟩ = some (.int .i64 d) := by rw [(wcell hb2).1 _ _ (by omega), hc1 _ _ (by first | (simp; done) | (simp; omega))]; go_simp
  have hB2 := hB1.trans (hb2.mono (by omega))
  clear hb2 h2 hB1 hc1 hf1
  by_cases e1 : a = c
  · have b1 : (a == c) = true := by simp [e1]
    have HE := Lib.hid e1
    clear e1
    go_wp2
    go_ret
    have := HE.out
    exact ⟨wret_bool (by rw [HL.out]; simp [this]; rfl), hB2⟩
  · have b1 : (a == c) = false := by simp [e1]
    have HE := Lib.hid e1
    clear e1
    go_wp2
    go_ret
    have := HE.out
    exact ⟨wret_bool (by rw [HL.out]; simp [this]), hB2⟩

theorem specLater_any (a b c d : Int) (g h : Bool) (w : World) :
    Calls Tryd.prog 23 #[.agg #[.int .i64 a, .int .i64 b, .bool g], .agg #[.int .i64 c, .int .i64 d, .bool h]] w fun o w' => o = .returned (.int .i64 (laterW a b c d)) ∧ Below w.heap.size w w' := by
  cases h1 : wordOk a b
  · have HL := Lib.hid (show laterW a b c d = -2 by simp [laterW, h1])
    go_enter Tryd.func23, Tryd.ntmps23
    go_wp2_with fail
    refine (specWordOk_any _ _ _ _).mono ?_; rintro o w1 ⟨rfl, hb1⟩; rw [h1]
    have hB1 := (((Below.refl w.heap.size w).alloc (Nat.le_refl _) _).alloc (by simp) _).trans (hb1.mono (by simp; omega))
    clear hb1 h1
    go_wp2
    go_ret
    rw [HL.out]
    exact ⟨rfl, hB1⟩
  cases h2 : wordOk c d
  · have HL := Lib.hid (show laterW a b c d = -2 by simp [laterW, h2])
    go_enter Tryd.func23, Tryd.ntmps23
    go_wp2_with fail
    refine (specWordOk_any _ _ _ _).mono ?_; rintro o w1 ⟨rfl, hb1⟩; rw [h1]; obtain ⟨hc1, hf1⟩ := wcell hb1
    have hs1 : w.heap.size + 1 < w1.heap.size := by have := hb1.size; simp at this; omega
    have hB1 := (((Below.refl w.heap.size w).alloc (Nat.le_refl _) _).alloc (by simp) _).trans (hb1.mono (by simp; omega))
    clear hb1 h1
    go_wp2_with fail
    refine (specWordOk_any _ _ _ _).mono ?_; rintro o w2 ⟨rfl, hb2⟩; rw [h2]
    have hB2 := hB1.trans (hb2.mono (by omega))
    clear hb2 h2 hB1
    go_wp2
    go_ret
    rw [HL.out]
    exact ⟨rfl, hB2⟩
  have HL := Lib.hid (show laterW a b c d = (if c < a ∨ c = a ∧ d < b then 1 else if sameW a b c d then 0 else -1) by simp [laterW, sameW, h1, h2])
  go_enter Tryd.func23, Tryd.ntmps23
  go_wp2_with fail
  refine (specWordOk_any _ _ _ _).mono ?_; rintro o w1 ⟨rfl, hb1⟩; rw [h1]; obtain ⟨hc1, hf1⟩ := wcell hb1
  have hs1 : w.heap.size + 1 < w1.heap.size := by have := hb1.size; simp at this; omega
  have hB1 := (((Below.refl w.heap.size w).alloc (Nat.le_refl _) _).alloc (by simp) _).trans (hb1.mono (by simp; omega))
  clear hb1 h1
  go_wp2_with fail
  refine (specWordOk_any _ _ _ _).mono ?_; rintro o w2 ⟨rfl, hb2⟩; rw [h2]
  have k00 : w2.cell? ⟨w.heap.size, 0, none⟩ = some (.int .i64 a) := by rw [(wcell hb2).1 _ _ (by omega), hc1 _ _ (by first | (simp; done) | (simp; omega))]; go_simp
  have k01 : w2.cell? ⟨w.heap.size, 1, none⟩ = some (.int .i64 b) := by rw [(wcell hb2).1 _ _ (by omega), hc1 _ _ (by first | (simp; done) | (simp; omega))]; go_simp
  have k02 : w2.cell? ⟨w.heap.size, 2, none⟩ = some (.bool g) := by rw [(wcell hb2).1 _ _ (by omega), hc1 _ _ (by first | (simp; done) | (simp; omega))]; go_simp
  have k10 : w2.cell? ⟨w.heap.size + 1, 0, none⟩ = some (.int .i64 c) := by rw [(wcell hb2).1 _ _ (by omega), hc1 _ _ (by first | (simp; done) | (simp; omega))]; go_simp
  have k11 : w2.cell? ⟨w.heap.size + 1, 1, none⟩ = some (.int .i64 d) := by rw [(wcell hb2).1 _ _ (by omega), hc1 _ _ (by first | (simp; done) | (simp; omega))]; go_simp
  have k12 : w2.cell? ⟨w.heap.size + 1, 2, none⟩ = some (.bool h) := by rw [(wcell hb2).1 _ _ (by omega), hc1 _ _ (by first | (simp; done) | (simp; omega))]; go_simp
  have hB2 := hB1.trans (hb2.mono (by omega))
  have hs2 : w.heap.size < w2.heap.size := by have := hb2.size; omega
  clear hb2 h2 hB1 hc1 hf1
  by_cases e1 : c < a
  · have HL := Lib.hid (HL.out.trans (if_pos (.inl e1)))
    go_wp2
    go_ret
    rw [HL.out]
    exact ⟨rfl, hB2⟩
  have HE1 := Lib.hid e1
  by_cases e2 : c = a
  · have b2 : (a == c) = true := by simp [e2]
    have HE2 := Lib.hid e2
    by_cases e3 : d < b
    · have HL := Lib.hid (HL.out.trans (if_pos (.inr ⟨e2, e3⟩)))
      have n1 : decide (c < a) = false := by simp; omega
      clear e2 e1
      go_wp2
      go_ret
      rw [HL.out]
      exact ⟨rfl, hB2⟩
    · have HL := Lib.hid (HL.out.trans (if_neg (by omega)))
      have n1 : decide (c < a) = false := by simp; omega
      clear e2 e1
      go_wp2_with fail
      refine (specSame_any _ _ _ _ _ _ _).mono ?_; rintro o w3 ⟨rfl, hb3⟩
      have hB3 := hB2.trans (hb3.mono (by omega))
      clear hb3
      cases hsw : sameW a b c d
      · rw [hsw] at HL
        go_wp2
        go_ret
        rw [HL.out]
        exact ⟨rfl, hB3⟩
      · rw [hsw] at HL
        go_wp2
        go_ret
        rw [HL.out]
        exact ⟨rfl, hB3⟩
  · have b2 : (a == c) = false := by simp; omega
    have HL := Lib.hid (HL.out.trans (if_neg (by omega)))
    have n1 : decide (c < a) = false := by simp; omega
    clear e2 e1
    go_wp2_with fail
    refine (specSame_any _ _ _ _ _ _ _).mono ?_; rintro o w3 ⟨rfl, hb3⟩
    have hB3 := hB2.trans (hb3.mono (by omega))
    clear hb3
    cases hsw : sameW a b c d
    · rw [hsw] at HL
      go_wp2
      go_ret
      rw [HL.out]
      exact ⟨rfl, hB3⟩
    · rw [hsw] at HL
      go_wp2
      go_ret
      rw [HL.out]
      exact ⟨rfl, hB3⟩


end Go.Proofs.YtilgfcbjonalaaaDoor
