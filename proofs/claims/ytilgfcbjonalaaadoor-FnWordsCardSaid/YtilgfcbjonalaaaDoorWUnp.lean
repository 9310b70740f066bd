/- Contracts of UnpackWord on both sides, and of eqWord on equal words. -/
import Derived.Test.YtilgfcbjonalaaaDoorWHold
namespace Go.Proofs.YtilgfcbjonalaaaDoor
open Go.RowKit

theorem eqWord_same (a b : Int) (h : Bool) (w : World) :
    Calls Tryd.prog 39 #[.agg #[.int .i64 a, .int .i64 b, .bool h], .agg #[.int .i64 a, .int .i64 b, .bool h]] w fun o w' => o = .returned (.bool true) ∧ Below w.heap.size w w' := by
  cases h
  all_goals
    go_enter Tryd.func39, Tryd.ntmps39
    go_wp2
    go_ret
    exact ⟨rfl, ((Below.refl w.heap.size w).alloc (Nat.le_refl _) _).alloc (by simp) _⟩

theorem implUnpack_bad (x : Int) (hx : x < 0 ∨ 134217727 < x) (w : World) :
    Calls Tryd.prog 24 #[.int .i64 x] w fun o w' => o = .returned (.tuple #[.agg #[.int .i64 0, .int .i64 0, .bool false], .bool false]) ∧ Below w.heap.size w w' := by
  rcases hx with hx | hx
  · go_enter Tryd.func24, Tryd.ntmps24
    go_wp2
    exact bodyPost_ret (v := .tuple #[.agg #[.int .i64 0, .int .i64 0, .bool false], .bool false]) (by simp [results, Tryd.results24, go_sem]) rfl ⟨rfl, (Below.refl w.heap.size w).alloc (Nat.le_refl _) _⟩
  · have n0 : decide (x < 0) = false := by simp; omega
    go_enter Tryd.func24, Tryd.ntmps24
    go_wp2
    exact bodyPost_ret (v := .tuple #[.agg #[.int .i64 0, .int .i64 0, .bool false], .bool false]) (by simp [results, Tryd.results24, go_sem]) rfl ⟨rfl, (Below.refl w.heap.size w).alloc (Nat.le_refl _) _⟩
theorem implUnpack_ok (x : Int) (h0 : 0 ≤ x) (h1 : x ≤ 134217727) (w : World) :
    Calls Tryd.prog 24 #[.int .i64 x] w fun o w' => o = .returned (.tuple #[.agg #[.int .i64 (x / 2 / 65536), .int .i64 (x / 2 % 65536), .bool (x % 2 == 1)], .bool true]) ∧ Below w.heap.size w w' := by
  go_enter Tryd.func24, Tryd.ntmps24
  go_wp2_with fail
  refine (word_any _ h0 h1 _).mono ?_; rintro o w1 ⟨rfl, hb1⟩; obtain ⟨hc1, hf1⟩ := wcell hb1
  have hB1 := ((Below.refl w.heap.size w).alloc (Nat.le_refl _) _).trans (hb1.mono (by simp))
  have hs1 : w.heap.size < w1.heap.size := by have := hb1.size; simp at this; omega
  have k10 : w1.cell? ⟨w.heap.size, 0, none⟩ = some (.int .i64 0) := by rw [hc1 _ _ (by first | (simp; done) | (simp; omega))]; go_simp
  have fk10 : w1.frozen? ⟨w.heap.size, 0, none⟩ = false := by rw [hf1 _ _ (by first | (simp; done) | (simp; omega))]; go_simp
  have k11 : w1.cell? ⟨w.heap.size, 1, none⟩ = some (.int .i64 0) := by rw [hc1 _ _ (by first | (simp; done) | (simp; omega))]; go_simp
  have fk11 : w1.frozen? ⟨w.heap.size, 1, none⟩ = false := by rw [hf1 _ _ (by first | (simp; done) | (simp; omega))]; go_simp
  have k12 : w1.cell? ⟨w.heap.size, 2, none⟩ = some (.bool false) := by rw [hc1 _ _ (by first | (simp; done) | (simp; omega))]; go_simp
  have fk12 : w1.frozen? ⟨w.heap.size, 2, none⟩ = false := by rw [hf1 _ _ (by first | (simp; done) | (simp; omega))]; go_simp
  clear hb1 hc1 hf1
  go_wp2
  exact bodyPost_ret (v := .tuple #[.agg #[.int .i64 (x / 2 / 65536), .int .i64 (x / 2 % 65536), .bool (x % 2 == 1)], .bool true]) (by simp [results, Tryd.results24, go_sem, k10, k11, k12]) rfl ⟨rfl, ((hB1.setCell (by simp) _).setCell (by simp) _).setCell (by simp) _⟩
end Go.Proofs.YtilgfcbjonalaaaDoor
