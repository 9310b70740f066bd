/- Contracts of the model's LaterWord and SameVersion, and of HoldWord, FreeWord, UnpackWord on both sides, and of eqWord. -/
import Derived.Test.YtnnjhikfbpcmfaaWLead
namespace Go.Proofs.Ytnnjhikfbpcmfaa
open Go.RowKit

theorem specSame_any (a b c d : Int) (g h : Bool) (w : World) :
    Calls Try.prog 49 #[.agg #[.int .i64 a, .int .i64 b, .bool g], .agg #[.int .i64 c, .int .i64 d, .bool h]] w fun o w' => o = .returned (.bool (sameW a b c d)) ∧ Below w.heap.size w w' := by
  cases h1 : wordOk a b
  · have HL := Lib.hid (show sameW a b c d = false by simp [sameW, h1])
    go_enter Try.func49, Try.ntmps49
    go_wp2_with fail
    refine (specWordOk_any _ _ _ _).mono ?_; rintro o w1 ⟨rfl, hb1⟩; rw [h1]
    have hB1 := (((Below.refl w.heap.size w).alloc (Nat.le_refl _) _).alloc (by simp) _).trans (hb1.mono (by simp; omega))
    clear hb1 h1
    go_wp2
    go_ret
    exact ⟨wret_bool HL.out.symm, hB1⟩
  cases h2 : wordOk c d
  · have HL := Lib.hid (show sameW a b c d = false by simp [sameW, h2])
    go_enter Try.func49, Try.ntmps49
    go_wp2_with fail
    refine (specWordOk_any _ _ _ _).mono ?_; rintro o w1 ⟨rfl, hb1⟩; rw [h1]; obtain ⟨hc1, hf1⟩ := wcell hb1
    have hs1 : w.heap.size + 1 < w1.heap.size := by have := hb1.size; simp at this; omega
    have hB1 := (((Below.refl w.heap.size w).alloc (Nat.le_refl _) _).alloc (by simp) _).trans (hb1.mono (by simp; omega))
    clear hb1 h1
    go_wp2_with fail
    refine (specWordOk_any _ _ _ _).mono ?_; rintro o w2 ⟨rfl, hb2⟩; rw [h2]
    have hB2 := hB1.trans (hb2.mono (by omega))
    clear hb2 h2 hB1
    go_wp2
    go_ret
    exact ⟨wret_bool HL.out.symm, hB2⟩
  have HL := Lib.hid (show sameW a b c d = decide (a = c ∧ b = d) by simp [sameW, h1, h2])
  go_enter Try.func49, Try.ntmps49
  go_wp2_with fail
  refine (specWordOk_any _ _ _ _).mono ?_; rintro o w1 ⟨rfl, hb1⟩; rw [h1]; obtain ⟨hc1, hf1⟩ := wcell hb1
  have hs1 : w.heap.size + 1 < w1.heap.size := by have := hb1.size; simp at this; omega
  have hB1 := (((Below.refl w.heap.size w).alloc (Nat.le_refl _) _).alloc (by simp) _).trans (hb1.mono (by simp; omega))
  clear hb1 h1
  go_wp2_with fail
  refine (specWordOk_any _ _ _ _).mono ?_; rintro o w2 ⟨rfl, hb2⟩; rw [h2]
  have k00 : w2.cell? ⟨w.heap.size, 0, none⟩ = some (.int .i64 a) := by rw [(wcell hb2).1 _ _ (by omega), hc1 _ _ (by first | (simp; done) | (simp; omega))]; go_simp
  have k01 : w2.cell? ⟨w.heap.size, 1, none⟩ = some (.int .i64 b) := by rw [(wcell hb2).1 _ _ (by omega), hc1 _ _ (by first | (simp; done) | (simp; omega))]; go_simp
  have k10 : w2.cell? ⟨w.heap.size + 1, 0, none⟩ = some (.int .i64 c) := by rw [(wcell hb2).1 _ _ (by omega), hc1 _ _ (by first | (simp; done) | (simp; omega))]; go_simp
  have k11 : w2.cell? ⟨w.heap.size + 1, 1, none⟩ = some (.int .i64 d) := by rw [(wcell hb2).1 _ _ (by omega), hc1 _ _ (by first | (simp; done) | (simp; omega))]; go_simp
  have hB2 := hB1.trans (hb2.mono (by omega))
  clear hb2 h2 hB1 hc1 hf1
  by_cases e1 : a = c
  · have b1 : (a == c) = true := by simp [e1]
    have HE := Lib.hid e1
    clear e1
    go_wp2
    go_ret
    have := HE.out
    exact ⟨wret_bool (by rw [HL.out]; simp [this]; rfl), hB2⟩
  · have b1 : (a == c) = false := by simp [e1]
    have HE := Lib.hid e1
    clear e1
    go_wp2
    go_ret
    have := HE.out
    exact ⟨wret_bool (by rw [HL.out]; simp [this]), hB2⟩

end Go.Proofs.Ytnnjhikfbpcmfaa
