/- Contracts of spec.ActText and impl.ActText. -/
import Derived.Test.YtilgfcbjonalaaaDoorNum
import Derived.Test.YtilgfcbjonalaaaDoorBase
import Derived.Test.YtilgfcbjonalaaaDoorItoa
import Derived.Deep.RegionHeld3
import Derived.Deep.RegionLaw
namespace Go.Proofs.YtilgfcbjonalaaaDoor
open Go.RowKit

/-- an act's text -/
def actText (k y n : Int) : List UInt8 :=
  if actOk k y n = true then
    (if k = 0 then [103, 101, 116] else if k = 1 then [112, 117, 116] else [97, 100, 100]) ++ [32] ++ Lib.itoa y ++ (if k = 0 then [] else [32] ++ Lib.itoa n)
  else []
theorem actText_get {y n : Int} (h : actOk 0 y n = true) : actText 0 y n = [103, 101, 116, 32] ++ Lib.itoa y := by simp [actText, h]
theorem actText_put {y n : Int} (h : actOk 1 y n = true) : actText 1 y n = [112, 117, 116, 32] ++ Lib.itoa y ++ [32] ++ Lib.itoa n := by simp [actText, h]
theorem actText_add {y n : Int} (h : actOk 2 y n = true) : actText 2 y n = [97, 100, 100, 32] ++ Lib.itoa y ++ [32] ++ Lib.itoa n := by simp [actText, h]
theorem actText_no {k y n : Int} (h : actOk k y n = false) : actText k y n = [] := by simp [actText, h]

theorem l01Verbs_any (w : World) : Calls Tryd.prog 78 #[] w fun e w' => e = .returned (.slice (some ⟨w.heap.size, 0, none⟩) 3 3) ∧ w' = w.alloc (.cells #[.string ⟨#[103, 101, 116]⟩, .string ⟨#[112, 117, 116]⟩, .string ⟨#[97, 100, 100]⟩] 9) := by
  go_enter Tryd.func78, Tryd.ntmps78
  go_wp2
  go_ret
  exact ⟨rfl, rfl⟩

theorem act_parts {k y n : Int} (h : actOk k y n = true) : (k = 0 ∨ k = 1 ∨ k = 2) ∧ (0 ≤ y ∧ y < 8) ∧ (-1000000 ≤ n ∧ n ≤ 1000000) := by
  simp only [actOk, inB, Bool.and_eq_true, decide_eq_true_eq] at h
  obtain ⟨⟨h1, h2⟩, h3⟩ := h
  refine ⟨by omega, by omega, ?_⟩
  split at h3
  · simp at h3; omega
  · simp only [Bool.and_eq_true, decide_eq_true_eq] at h3; exact h3

theorem below_two {w w1 w3 : World} {o : Obj} (h : Below w.heap.size w w1) (h3 : Below ((w1.alloc o).drew).heap.size (w1.alloc o).drew w3) : Below w.heap.size w w3 :=
  ((h.alloc h.size o).drew).trans (h3.mono (by have := h.size; simp [World.drew]; omega))
theorem bytes_verb (a b c : UInt8) (l : List UInt8) : ((⟨#[a, b, c]⟩ : ByteArray) ++ ⟨#[32]⟩ ++ ⟨l.toArray⟩) = ⟨([a, b, c, 32] ++ l).toArray⟩ := by
  rw [show (#[a, b, c] : Array UInt8) = [a, b, c].toArray from rfl, show (#[32] : Array UInt8) = [32].toArray from rfl, ByteArray.mk_append_mk, ByteArray.mk_append_mk]
  rfl

set_option maxHeartbeats 6400000 in
set_option maxRecDepth 100000 in
theorem specActText_any (k y n : Int) (w : World) :
    Calls Tryd.prog 80 #[.agg #[.int .i64 k, .int .i64 y, .int .i64 n]] w fun e w' => e = .returned (.string ⟨(actText k y n).toArray⟩) ∧ Below w.heap.size w w' := by
  cases ha : actOk k y n with
  | false =>
    have HT := Lib.hid (actText_no ha)
    go_enter Tryd.func80, Tryd.ntmps80
    go_wp2_with fail
    refine (specActOk_any _ _ _ _).mono ?_; rintro e w1 ⟨rfl, hb1⟩
    rw [ha]
    go_wp2
    go_ret
    rw [HT.out]
    exact ⟨rfl, ((Below.refl _ _).alloc (Nat.le_refl _) _).trans (hb1.mono (by simp))⟩
  | true =>
    obtain ⟨hk, hy, hn⟩ := act_parts ha
    have HA := Lib.hid ha
    have hly := Lib.itoa_length_le y (by omega) (by omega)
    have hln := Lib.itoa_length_le n (by omega) (by omega)
    have hcat : ¬ (9223372036854775807 < 4 + (Lib.itoa y).length) := by omega
    rcases hk with rfl | rfl | rfl
    · have HT := Lib.hid (actText_get ha)
      go_enter Tryd.func80, Tryd.ntmps80
      go_wp2_with fail
      refine (specActOk_any _ _ _ _).mono ?_; rintro e w1 ⟨rfl, hb1⟩
      rw [ha]
      clear ha
      obtain ⟨hc1, hf1⟩ := bcell hb1
      have hs1 : w.heap.size < w1.heap.size := by have := hb1.size; simp at this; omega
      have hB1 := ((Below.refl w.heap.size w).alloc (Nat.le_refl _) _).trans (hb1.mono (by simp))
      go_wp2_with fail
      go_region_law (first | (go_simp; go_at_call 78; refine (l01Verbs_any _).mono ?_; rintro e w2 ⟨rfl, rfl⟩) | (go_simp; go_at_call 103; refine (l01Num_any _ (by omega) (by omega) _).mono ?_; rintro e w3 ⟨rfl, hb3⟩; obtain ⟨hc3, hf3⟩ := bcell hb3))
      all_goals
        have hB3 : Below w.heap.size w w3 := below_two hB1 hb3
        obtain ⟨hc3, hf3⟩ := bcell hb3
        have hs3 : w.heap.size < w3.heap.size := by have := hb3.size; simp [World.drew] at this; omega
        go_wp2
        go_ret
        rw [HT.out]
        refine ⟨?_, hB3⟩
        rw [bytes_verb]
        rfl
    · have HT := Lib.hid (actText_put ha)
      go_enter Tryd.func80, Tryd.ntmps80
      go_wp2_with fail
      refine (specActOk_any _ _ _ _).mono ?_; rintro e w1 ⟨rfl, hb1⟩
      rw [ha]
      clear ha
      obtain ⟨hc1, hf1⟩ := bcell hb1
      have hs1 : w.heap.size < w1.heap.size := by have := hb1.size; simp at this; omega
      have hB1 := ((Below.refl w.heap.size w).alloc (Nat.le_refl _) _).trans (hb1.mono (by simp))
      go_wp2_with fail
      go_region_law (first | (go_simp; go_at_call 78; refine (l01Verbs_any _).mono ?_; rintro e w2 ⟨rfl, rfl⟩) | (go_simp; go_at_call 103; refine (l01Num_any _ (by omega) (by omega) _).mono ?_; rintro e w3 ⟨rfl, hb3⟩; obtain ⟨hc3, hf3⟩ := bcell hb3))
      all_goals
        have hB3 : Below w.heap.size w w3 := below_two hB1 hb3
        obtain ⟨hc3, hf3⟩ := bcell hb3
        have hs3 : w.heap.size < w3.heap.size := by have := hb3.size; simp [World.drew] at this; omega
        rw [bytes_verb]
        go_wp2_with fail
        refine (l01Num_any _ (by omega) (by omega) _).mono ?_; rintro e w4 ⟨rfl, hb4⟩
        go_wp2
        go_ret
        rw [HT.out]
        refine ⟨?_, hB3.trans (hb4.mono hB3.size)⟩
        simp only [ByteArray.mk_append_mk]
        rfl
    · have HT := Lib.hid (actText_add ha)
      go_enter Tryd.func80, Tryd.ntmps80
      go_wp2_with fail
      refine (specActOk_any _ _ _ _).mono ?_; rintro e w1 ⟨rfl, hb1⟩
      rw [ha]
      clear ha
      obtain ⟨hc1, hf1⟩ := bcell hb1
      have hs1 : w.heap.size < w1.heap.size := by have := hb1.size; simp at this; omega
      have hB1 := ((Below.refl w.heap.size w).alloc (Nat.le_refl _) _).trans (hb1.mono (by simp))
      go_wp2_with fail
      go_region_law (first | (go_simp; go_at_call 78; refine (l01Verbs_any _).mono ?_; rintro e w2 ⟨rfl, rfl⟩) | (go_simp; go_at_call 103; refine (l01Num_any _ (by omega) (by omega) _).mono ?_; rintro e w3 ⟨rfl, hb3⟩; obtain ⟨hc3, hf3⟩ := bcell hb3))
      all_goals
        have hB3 : Below w.heap.size w w3 := below_two hB1 hb3
        obtain ⟨hc3, hf3⟩ := bcell hb3
        have hs3 : w.heap.size < w3.heap.size := by have := hb3.size; simp [World.drew] at this; omega
        rw [bytes_verb]
        go_wp2_with fail
        refine (l01Num_any _ (by omega) (by omega) _).mono ?_; rintro e w4 ⟨rfl, hb4⟩
        go_wp2
        go_ret
        rw [HT.out]
        refine ⟨?_, hB3.trans (hb4.mono hB3.size)⟩
        simp only [ByteArray.mk_append_mk]
        rfl
end Go.Proofs.YtilgfcbjonalaaaDoor
