/- The walks of the laws on version words: each law answers true. -/
import Derived.Test.YtilgfcbjonalaaaWUnp
namespace Go.Proofs.Ytilgfcbjonalaaa
open Go.RowKit

/-- two words lie boxed in the blocks B and B + 1 -/
def Two (w : World) (B : Nat) (a b c d : Int) (g h : Bool) : Prop :=
  (w.cell? ⟨B, 0, none⟩ = some (.int .i64 a) ∧ w.cell? ⟨B, 1, none⟩ = some (.int .i64 b) ∧ w.cell? ⟨B, 2, none⟩ = some (.bool g)) ∧
  (w.cell? ⟨B + 1, 0, none⟩ = some (.int .i64 c) ∧ w.cell? ⟨B + 1, 1, none⟩ = some (.int .i64 d) ∧ w.cell? ⟨B + 1, 2, none⟩ = some (.bool h)) ∧ B + 1 < w.heap.size
theorem Two.below {w w' : World} {B : Nat} {a b c d : Int} {g h : Bool} (k : Two w B a b c d g h) (hb : Below w.heap.size w w') : Two w' B a b c d g h := by
  obtain ⟨⟨k1, k2, k3⟩, ⟨k4, k5, k6⟩, k7⟩ := k
  obtain ⟨hc, _⟩ := wcell hb
  exact ⟨⟨(hc _ _ (by omega)).trans k1, (hc _ _ (by omega)).trans k2, (hc _ _ (by omega)).trans k3⟩, ⟨(hc _ _ k7).trans k4, (hc _ _ k7).trans k5, (hc _ _ k7).trans k6⟩, Nat.lt_of_lt_of_le k7 hb.size⟩
theorem Two.drew {w : World} {B : Nat} {a b c d : Int} {g h : Bool} (k : Two w B a b c d g h) : Two w.drew B a b c d g h := k
theorem Two.made (w : World) (a b c d : Int) (g h : Bool) (t : TypeId) : Two ((w.alloc (.cells #[.int .i64 a, .int .i64 b, .bool g] t)).alloc (.cells #[.int .i64 c, .int .i64 d, .bool h] t)) w.heap.size a b c d g h := by
  refine ⟨⟨?_, ?_, ?_⟩, ⟨?_, ?_, ?_⟩, ?_⟩ <;> first | go_simp | skip
  all_goals simp


theorem exactWordOk_walk (a b : Int) (h : Bool) (w : World) :
    Calls Try.prog 3 #[.agg #[.int .i64 a, .int .i64 b, .bool h]] w fun e w' => e = .returned (.bool true) ∧ Below w.heap.size w w' := by
  go_enter Try.func3, Try.ntmps3
  go_wp2_with fail
  refine (toWord_any _ _ _ _).mono ?_; rintro e w1 ⟨rfl, hb1⟩; obtain ⟨hc1, hf1⟩ := wcell hb1
  go_wp2_with fail
  refine (specWordOk_any _ _ _ _).mono ?_; rintro e w2 ⟨rfl, hb2⟩; obtain ⟨hc2, hf2⟩ := wcell hb2
  have hz1 : w.heap.size < w1.heap.size := by have := hb1.size; simp at this; omega
  have hz2 : w.heap.size < w2.heap.size := by have := hb2.size; omega
  go_wp2_with fail
  refine (toWord_any _ _ _ _).mono ?_; rintro e w3 ⟨rfl, hb3⟩; obtain ⟨hc3, hf3⟩ := wcell hb3
  go_wp2_with fail
  refine (implWordOk_any _ _ _ _).mono ?_; rintro e w4 ⟨rfl, hb4⟩
  go_wp2
  go_ret
  have hz3 := hb3.size
  exact ⟨rfl, ((((Below.refl _ _).alloc (Nat.le_refl _) _).trans (hb1.mono (by simp))).trans (hb2.mono (by omega))).trans ((hb3.mono (by omega)).trans (hb4.mono (by omega)))⟩

theorem exactPackWord_walk (a b : Int) (h : Bool) (w : World) :
    Calls Try.prog 4 #[.agg #[.int .i64 a, .int .i64 b, .bool h]] w fun e w' => e = .returned (.bool true) ∧ Below w.heap.size w w' := by
  cases ho : wordOk a b
  · go_enter Try.func4, Try.ntmps4
    go_wp2_with fail
    refine (toWord_any _ _ _ _).mono ?_; rintro e w1 ⟨rfl, hb1⟩; obtain ⟨hc1, hf1⟩ := wcell hb1
    go_wp2_with fail
    refine (specPack_bad _ _ _ ho _).mono ?_; rintro e w2 ⟨rfl, hb2⟩; obtain ⟨hc2, hf2⟩ := wcell hb2
    have hz1 : w.heap.size < w1.heap.size := by have := hb1.size; simp at this; omega
    have hz2 : w.heap.size < w2.heap.size := by have := hb2.size; omega
    go_wp2_with fail
    refine (toWord_any _ _ _ _).mono ?_; rintro e w3 ⟨rfl, hb3⟩; obtain ⟨hc3, hf3⟩ := wcell hb3
    go_wp2_with fail
    refine (implPack_bad _ _ _ ho _).mono ?_; rintro e w4 ⟨rfl, hb4⟩
    go_wp2
    go_ret
    have hz3 := hb3.size
    exact ⟨rfl, ((((Below.refl _ _).alloc (Nat.le_refl _) _).trans (hb1.mono (by simp))).trans (hb2.mono (by omega))).trans ((hb3.mono (by omega)).trans (hb4.mono (by omega)))⟩
  · go_enter Try.func4, Try.ntmps4
    go_wp2_with fail
    refine (toWord_any _ _ _ _).mono ?_; rintro e w1 ⟨rfl, hb1⟩; obtain ⟨hc1, hf1⟩ := wcell hb1
    go_wp2_with fail
    refine (specPack_ok _ _ _ ho _).mono ?_; rintro e w2 ⟨rfl, hb2⟩; obtain ⟨hc2, hf2⟩ := wcell hb2
    have hz1 : w.heap.size < w1.heap.size := by have := hb1.size; simp at this; omega
    have hz2 : w.heap.size < w2.heap.size := by have := hb2.size; omega
    go_wp2_with fail
    refine (toWord_any _ _ _ _).mono ?_; rintro e w3 ⟨rfl, hb3⟩; obtain ⟨hc3, hf3⟩ := wcell hb3
    go_wp2_with fail
    refine (implPack_ok _ _ _ ho _).mono ?_; rintro e w4 ⟨rfl, hb4⟩
    go_wp2
    go_ret
    have hz3 := hb3.size
    exact ⟨rfl, ((((Below.refl _ _).alloc (Nat.le_refl _) _).trans (hb1.mono (by simp))).trans (hb2.mono (by omega))).trans ((hb3.mono (by omega)).trans (hb4.mono (by omega)))⟩

theorem exactLaterWord_walk (a b c d : Int) (g h : Bool) (w : World) :
    Calls Try.prog 6 #[.agg #[.int .i64 a, .int .i64 b, .bool g], .agg #[.int .i64 c, .int .i64 d, .bool h]] w fun e w' => e = .returned (.bool true) ∧ Below w.heap.size w w' := by
  go_enter Try.func6, Try.ntmps6
  go_wp2_with fail
  have T0 := Two.made w a b c d g h 23
  have hB0 := ((Below.refl w.heap.size w).alloc (Nat.le_refl _) (.cells #[.int .i64 a, .int .i64 b, .bool g] 23)).alloc (by simp) (.cells #[.int .i64 c, .int .i64 d, .bool h] 23)
  generalize (w.alloc (.cells #[.int .i64 a, .int .i64 b, .bool g] 23)).alloc (.cells #[.int .i64 c, .int .i64 d, .bool h] 23) = w0 at T0 hB0 ⊢
  obtain ⟨⟨k1, k2, k3⟩, ⟨k4, k5, k6⟩, k7⟩ := id T0
  have HT := Lib.hid T0
  clear T0
  go_region_law (first | (go_simp; go_at_call_of 11 (Value.agg #[Value.int IntKind.i64 a, Value.int IntKind.i64 b, Value.bool g]); refine (toWord_any _ _ _ _).mono ?_; rintro o w1 ⟨rfl, hb1⟩; obtain ⟨_, ⟨p4, p5, p6⟩, p7⟩ := HT.out.drew.below hb1) | (go_simp; go_at_call_of 11 (Value.agg #[Value.int IntKind.i64 c, Value.int IntKind.i64 d, Value.bool h]); refine (toWord_any _ _ _ _).mono ?_; rintro o w2 ⟨rfl, hb2⟩) | (go_simp; go_at_call 18; refine (specLater_any _ _ _ _ _ _ _).mono ?_; rintro o w3 ⟨rfl, hb3⟩))
  all_goals
    have T3 := ((HT.out.drew.below hb1).below hb2).below hb3
    have hB3 : Below w.heap.size w w3 := ((hB0.drew.trans (hb1.mono (Nat.le_trans (by omega) (Nat.le_of_lt k7)))).trans (hb2.mono (Nat.le_trans (by omega) (Nat.le_of_lt (HT.out.drew.below hb1).2.2)))).trans (hb3.mono (Nat.le_trans (by omega) (Nat.le_of_lt ((HT.out.drew.below hb1).below hb2).2.2)))
    clear k1 k2 k3 k4 k5 k6 k7 p4 p5 p6 p7 hb1 hb2 hb3 HT hB0
    obtain ⟨⟨k1, k2, k3⟩, ⟨k4, k5, k6⟩, k7⟩ := id T3
    have HT := Lib.hid T3
    clear T3
    go_wp2_with fail
    go_region_law (first | (go_simp; go_at_call_of 11 (Value.agg #[Value.int IntKind.i64 a, Value.int IntKind.i64 b, Value.bool g]); refine (toWord_any _ _ _ _).mono ?_; rintro o w4 ⟨rfl, hb4⟩; obtain ⟨_, ⟨p4, p5, p6⟩, p7⟩ := HT.out.drew.below hb4) | (go_simp; go_at_call_of 11 (Value.agg #[Value.int IntKind.i64 c, Value.int IntKind.i64 d, Value.bool h]); refine (toWord_any _ _ _ _).mono ?_; rintro o w5 ⟨rfl, hb5⟩) | (go_simp; go_at_call 19; refine (implLater_any _ _ _ _ _ _ _).mono ?_; rintro o w6 ⟨rfl, hb6⟩))
    all_goals
      have hB6 : Below w.heap.size w w6 := ((hB3.drew.trans (hb4.mono (Nat.le_trans (by omega) (Nat.le_of_lt k7)))).trans (hb5.mono (Nat.le_trans (by omega) (Nat.le_of_lt (HT.out.drew.below hb4).2.2)))).trans (hb6.mono (Nat.le_trans (by omega) (Nat.le_of_lt ((HT.out.drew.below hb4).below hb5).2.2)))
      go_wp2
      go_ret
      exact ⟨rfl, hB6⟩

theorem exactSameVersion_walk (a b c d : Int) (g h : Bool) (w : World) :
    Calls Try.prog 9 #[.agg #[.int .i64 a, .int .i64 b, .bool g], .agg #[.int .i64 c, .int .i64 d, .bool h]] w fun e w' => e = .returned (.bool true) ∧ Below w.heap.size w w' := by
  go_enter Try.func9, Try.ntmps9
  go_wp2_with fail
  have T0 := Two.made w a b c d g h 23
  have hB0 := ((Below.refl w.heap.size w).alloc (Nat.le_refl _) (.cells #[.int .i64 a, .int .i64 b, .bool g] 23)).alloc (by simp) (.cells #[.int .i64 c, .int .i64 d, .bool h] 23)
  generalize (w.alloc (.cells #[.int .i64 a, .int .i64 b, .bool g] 23)).alloc (.cells #[.int .i64 c, .int .i64 d, .bool h] 23) = w0 at T0 hB0 ⊢
  obtain ⟨⟨k1, k2, k3⟩, ⟨k4, k5, k6⟩, k7⟩ := id T0
  have HT := Lib.hid T0
  clear T0
  go_region_law (first | (go_simp; go_at_call_of 11 (Value.agg #[Value.int IntKind.i64 a, Value.int IntKind.i64 b, Value.bool g]); refine (toWord_any _ _ _ _).mono ?_; rintro o w1 ⟨rfl, hb1⟩; obtain ⟨_, ⟨p4, p5, p6⟩, p7⟩ := HT.out.drew.below hb1) | (go_simp; go_at_call_of 11 (Value.agg #[Value.int IntKind.i64 c, Value.int IntKind.i64 d, Value.bool h]); refine (toWord_any _ _ _ _).mono ?_; rintro o w2 ⟨rfl, hb2⟩) | (go_simp; go_at_call 24; refine (specSame_any _ _ _ _ _ _ _).mono ?_; rintro o w3 ⟨rfl, hb3⟩))
  all_goals
    have T3 := ((HT.out.drew.below hb1).below hb2).below hb3
    have hB3 : Below w.heap.size w w3 := ((hB0.drew.trans (hb1.mono (Nat.le_trans (by omega) (Nat.le_of_lt k7)))).trans (hb2.mono (Nat.le_trans (by omega) (Nat.le_of_lt (HT.out.drew.below hb1).2.2)))).trans (hb3.mono (Nat.le_trans (by omega) (Nat.le_of_lt ((HT.out.drew.below hb1).below hb2).2.2)))
    clear k1 k2 k3 k4 k5 k6 k7 p4 p5 p6 p7 hb1 hb2 hb3 HT hB0
    obtain ⟨⟨k1, k2, k3⟩, ⟨k4, k5, k6⟩, k7⟩ := id T3
    have HT := Lib.hid T3
    clear T3
    go_wp2_with fail
    go_region_law (first | (go_simp; go_at_call_of 11 (Value.agg #[Value.int IntKind.i64 a, Value.int IntKind.i64 b, Value.bool g]); refine (toWord_any _ _ _ _).mono ?_; rintro o w4 ⟨rfl, hb4⟩; obtain ⟨_, ⟨p4, p5, p6⟩, p7⟩ := HT.out.drew.below hb4) | (go_simp; go_at_call_of 11 (Value.agg #[Value.int IntKind.i64 c, Value.int IntKind.i64 d, Value.bool h]); refine (toWord_any _ _ _ _).mono ?_; rintro o w5 ⟨rfl, hb5⟩) | (go_simp; go_at_call 25; refine (implSame_any _ _ _ _ _ _ _).mono ?_; rintro o w6 ⟨rfl, hb6⟩))
    all_goals
      have hB6 : Below w.heap.size w w6 := ((hB3.drew.trans (hb4.mono (Nat.le_trans (by omega) (Nat.le_of_lt k7)))).trans (hb5.mono (Nat.le_trans (by omega) (Nat.le_of_lt (HT.out.drew.below hb4).2.2)))).trans (hb6.mono (Nat.le_trans (by omega) (Nat.le_of_lt ((HT.out.drew.below hb4).below hb5).2.2)))
      go_wp2
      go_ret
      exact ⟨rfl, hB6⟩

theorem exactUnpackWord_walk (x : Int) (hx : x ≤ 9223372036854775807) (w : World) :
    Calls Try.prog 5 #[.int .i64 x] w fun e w' => e = .returned (.bool true) ∧ Below w.heap.size w w' := by
  by_cases h0 : x < 0
  · go_enter Try.func5, Try.ntmps5
    go_wp2_with fail
    refine (specUnpack_neg _ h0 _).mono ?_; rintro e w1 ⟨rfl, hb1⟩
    go_wp2_with fail
    refine (implUnpack_bad _ (.inl h0) _).mono ?_; rintro e w2 ⟨rfl, hb2⟩; obtain ⟨hc2, hf2⟩ := wcell hb2
    have hz2 : w1.heap.size < w2.heap.size := by have := hb2.size; simp at this; omega
    have hz1 := hb1.size
    have hB2 : Below w.heap.size w w2 := (hb1.alloc hz1 _).trans (hb2.mono (by simp; omega))
    go_wp2_with fail
    refine (eqWord_same _ _ _ _).mono ?_; rintro e w3 ⟨rfl, hb3⟩
    have hB3 := (hB2.alloc (by omega) _).trans (hb3.mono (by simp; omega))
    go_wp2
    go_ret
    exact ⟨rfl, hB3⟩
  by_cases h1 : 134217727 < x
  · go_enter Try.func5, Try.ntmps5
    go_wp2_with fail
    refine (specUnpack_big _ h1 hx _).mono ?_; rintro e w1 ⟨rfl, hb1⟩
    go_wp2_with fail
    refine (implUnpack_bad _ (.inr h1) _).mono ?_; rintro e w2 ⟨rfl, hb2⟩; obtain ⟨hc2, hf2⟩ := wcell hb2
    have hz2 : w1.heap.size < w2.heap.size := by have := hb2.size; simp at this; omega
    have hz1 := hb1.size
    have hB2 : Below w.heap.size w w2 := (hb1.alloc hz1 _).trans (hb2.mono (by simp; omega))
    go_wp2_with fail
    refine (eqWord_same _ _ _ _).mono ?_; rintro e w3 ⟨rfl, hb3⟩
    have hB3 := (hB2.alloc (by omega) _).trans (hb3.mono (by simp; omega))
    go_wp2
    go_ret
    exact ⟨rfl, hB3⟩
  have h0 : 0 ≤ x := by omega
  have h1 : x ≤ 134217727 := by omega
  go_enter Try.func5, Try.ntmps5
  go_wp2_with fail
  refine (specUnpack_ok _ h0 h1 _).mono ?_; rintro e w1 ⟨rfl, hb1⟩
  go_wp2_with fail
  refine (implUnpack_ok _ h0 h1 _).mono ?_; rintro e w2 ⟨rfl, hb2⟩; obtain ⟨hc2, hf2⟩ := wcell hb2
  have hz2 : w1.heap.size < w2.heap.size := by have := hb2.size; simp at this; omega
  have hz1 := hb1.size
  have hB2 : Below w.heap.size w w2 := (hb1.alloc hz1 _).trans (hb2.mono (by simp; omega))
  go_wp2_with fail
  refine (eqWord_same _ _ _ _).mono ?_; rintro e w3 ⟨rfl, hb3⟩
  have hB3 := (hB2.alloc (by omega) _).trans (hb3.mono (by simp; omega))
  go_wp2
  go_ret
  exact ⟨rfl, hB3⟩

theorem exactHoldWord_walk (a b : Int) (h : Bool) (w : World) :
    Calls Try.prog 7 #[.agg #[.int .i64 a, .int .i64 b, .bool h]] w fun e w' => e = .returned (.bool true) ∧ Below w.heap.size w w' := by
  cases ho : wordOk a b
  · go_enter Try.func7, Try.ntmps7
    go_wp2_with fail
    refine (toWord_any _ _ _ _).mono ?_; rintro e w1 ⟨rfl, hb1⟩; obtain ⟨hc1, hf1⟩ := wcell hb1
    go_wp2_with fail
    refine (specHoldWord_bad _ _ _ ho _).mono ?_; rintro e w2 ⟨rfl, hb2⟩; obtain ⟨hc2, hf2⟩ := wcell hb2
    have hz1 : w.heap.size < w1.heap.size := by have := hb1.size; simp at this; omega
    have hz2 : w.heap.size < w2.heap.size := by have := hb2.size; omega
    have hB2 : Below w.heap.size w w2 := (((Below.refl _ _).alloc (Nat.le_refl _) _).trans (hb1.mono (by simp))).trans (hb2.mono (by omega))
    go_wp2_with fail
    refine (toWord_any _ _ _ _).mono ?_; rintro e w3 ⟨rfl, hb3⟩; obtain ⟨hc3, hf3⟩ := wcell hb3
    have hz3 : w2.heap.size < w3.heap.size := by have := hb3.size; simp at this; omega
    go_wp2_with fail
    refine (implHoldWord_bad _ _ _ ho _).mono ?_; rintro e w4 ⟨rfl, hb4⟩; obtain ⟨hc4, hf4⟩ := wcell hb4
    have hz4 : w3.heap.size ≤ w4.heap.size := hb4.size
    have hz5 : w2.heap.size < w4.heap.size := by omega
    have hB4 : Below w.heap.size w w4 := ((hB2.alloc (by omega) _).trans (hb3.mono (by simp; omega))).trans (hb4.mono (by omega))
    go_wp2_with fail
    refine (eqWord_same _ _ _ _).mono ?_; rintro e w5 ⟨rfl, hb5⟩
    have hB5 := (hB4.alloc (by omega) _).trans (hb5.mono (by simp; omega))
    go_wp2
    go_ret
    exact ⟨rfl, hB5⟩
  cases h
  · go_enter Try.func7, Try.ntmps7
    go_wp2_with fail
    refine (toWord_any _ _ _ _).mono ?_; rintro e w1 ⟨rfl, hb1⟩; obtain ⟨hc1, hf1⟩ := wcell hb1
    go_wp2_with fail
    refine (specHoldWord_yes _ _ ho _).mono ?_; rintro e w2 ⟨rfl, hb2⟩; obtain ⟨hc2, hf2⟩ := wcell hb2
    have hz1 : w.heap.size < w1.heap.size := by have := hb1.size; simp at this; omega
    have hz2 : w.heap.size < w2.heap.size := by have := hb2.size; omega
    have hB2 : Below w.heap.size w w2 := (((Below.refl _ _).alloc (Nat.le_refl _) _).trans (hb1.mono (by simp))).trans (hb2.mono (by omega))
    go_wp2_with fail
    refine (toWord_any _ _ _ _).mono ?_; rintro e w3 ⟨rfl, hb3⟩; obtain ⟨hc3, hf3⟩ := wcell hb3
    have hz3 : w2.heap.size < w3.heap.size := by have := hb3.size; simp at this; omega
    go_wp2_with fail
    refine (implHoldWord_yes _ _ ho _).mono ?_; rintro e w4 ⟨rfl, hb4⟩; obtain ⟨hc4, hf4⟩ := wcell hb4
    have hz4 : w3.heap.size ≤ w4.heap.size := hb4.size
    have hz5 : w2.heap.size < w4.heap.size := by omega
    have hB4 : Below w.heap.size w w4 := ((hB2.alloc (by omega) _).trans (hb3.mono (by simp; omega))).trans (hb4.mono (by omega))
    go_wp2_with fail
    refine (eqWord_same _ _ _ _).mono ?_; rintro e w5 ⟨rfl, hb5⟩
    have hB5 := (hB4.alloc (by omega) _).trans (hb5.mono (by simp; omega))
    go_wp2
    go_ret
    exact ⟨rfl, hB5⟩
  · go_enter Try.func7, Try.ntmps7
    go_wp2_with fail
    refine (toWord_any _ _ _ _).mono ?_; rintro e w1 ⟨rfl, hb1⟩; obtain ⟨hc1, hf1⟩ := wcell hb1
    go_wp2_with fail
    refine (specHoldWord_no _ _ ho _).mono ?_; rintro e w2 ⟨rfl, hb2⟩; obtain ⟨hc2, hf2⟩ := wcell hb2
    have hz1 : w.heap.size < w1.heap.size := by have := hb1.size; simp at this; omega
    have hz2 : w.heap.size < w2.heap.size := by have := hb2.size; omega
    have hB2 : Below w.heap.size w w2 := (((Below.refl _ _).alloc (Nat.le_refl _) _).trans (hb1.mono (by simp))).trans (hb2.mono (by omega))
    go_wp2_with fail
    refine (toWord_any _ _ _ _).mono ?_; rintro e w3 ⟨rfl, hb3⟩; obtain ⟨hc3, hf3⟩ := wcell hb3
    have hz3 : w2.heap.size < w3.heap.size := by have := hb3.size; simp at this; omega
    go_wp2_with fail
    refine (implHoldWord_no _ _ ho _).mono ?_; rintro e w4 ⟨rfl, hb4⟩; obtain ⟨hc4, hf4⟩ := wcell hb4
    have hz4 : w3.heap.size ≤ w4.heap.size := hb4.size
    have hz5 : w2.heap.size < w4.heap.size := by omega
    have hB4 : Below w.heap.size w w4 := ((hB2.alloc (by omega) _).trans (hb3.mono (by simp; omega))).trans (hb4.mono (by omega))
    go_wp2_with fail
    refine (eqWord_same _ _ _ _).mono ?_; rintro e w5 ⟨rfl, hb5⟩
    have hB5 := (hB4.alloc (by omega) _).trans (hb5.mono (by simp; omega))
    go_wp2
    go_ret
    exact ⟨rfl, hB5⟩

theorem exactFreeWord_walk (a b : Int) (h : Bool) (w : World) :
    Calls Try.prog 8 #[.agg #[.int .i64 a, .int .i64 b, .bool h]] w fun e w' => e = .returned (.bool true) ∧ Below w.heap.size w w' := by
  cases ho : wordOk a b
  · go_enter Try.func8, Try.ntmps8
    go_wp2_with fail
    refine (toWord_any _ _ _ _).mono ?_; rintro e w1 ⟨rfl, hb1⟩; obtain ⟨hc1, hf1⟩ := wcell hb1
    go_wp2_with fail
    refine (specFreeWord_bad _ _ _ ho _).mono ?_; rintro e w2 ⟨rfl, hb2⟩; obtain ⟨hc2, hf2⟩ := wcell hb2
    have hz1 : w.heap.size < w1.heap.size := by have := hb1.size; simp at this; omega
    have hz2 : w.heap.size < w2.heap.size := by have := hb2.size; omega
    have hB2 : Below w.heap.size w w2 := (((Below.refl _ _).alloc (Nat.le_refl _) _).trans (hb1.mono (by simp))).trans (hb2.mono (by omega))
    go_wp2_with fail
    refine (toWord_any _ _ _ _).mono ?_; rintro e w3 ⟨rfl, hb3⟩; obtain ⟨hc3, hf3⟩ := wcell hb3
    have hz3 : w2.heap.size < w3.heap.size := by have := hb3.size; simp at this; omega
    go_wp2_with fail
    refine (implFreeWord_bad _ _ _ ho _).mono ?_; rintro e w4 ⟨rfl, hb4⟩; obtain ⟨hc4, hf4⟩ := wcell hb4
    have hz4 : w3.heap.size ≤ w4.heap.size := hb4.size
    have hz5 : w2.heap.size < w4.heap.size := by omega
    have hB4 : Below w.heap.size w w4 := ((hB2.alloc (by omega) _).trans (hb3.mono (by simp; omega))).trans (hb4.mono (by omega))
    go_wp2_with fail
    refine (eqWord_same _ _ _ _).mono ?_; rintro e w5 ⟨rfl, hb5⟩
    have hB5 := (hB4.alloc (by omega) _).trans (hb5.mono (by simp; omega))
    go_wp2
    go_ret
    exact ⟨rfl, hB5⟩
  cases h
  · go_enter Try.func8, Try.ntmps8
    go_wp2_with fail
    refine (toWord_any _ _ _ _).mono ?_; rintro e w1 ⟨rfl, hb1⟩; obtain ⟨hc1, hf1⟩ := wcell hb1
    go_wp2_with fail
    refine (specFreeWord_no _ _ ho _).mono ?_; rintro e w2 ⟨rfl, hb2⟩; obtain ⟨hc2, hf2⟩ := wcell hb2
    have hz1 : w.heap.size < w1.heap.size := by have := hb1.size; simp at this; omega
    have hz2 : w.heap.size < w2.heap.size := by have := hb2.size; omega
    have hB2 : Below w.heap.size w w2 := (((Below.refl _ _).alloc (Nat.le_refl _) _).trans (hb1.mono (by simp))).trans (hb2.mono (by omega))
    go_wp2_with fail
    refine (toWord_any _ _ _ _).mono ?_; rintro e w3 ⟨rfl, hb3⟩; obtain ⟨hc3, hf3⟩ := wcell hb3
    have hz3 : w2.heap.size < w3.heap.size := by have := hb3.size; simp at this; omega
    go_wp2_with fail
    refine (implFreeWord_no _ _ ho _).mono ?_; rintro e w4 ⟨rfl, hb4⟩; obtain ⟨hc4, hf4⟩ := wcell hb4
    have hz4 : w3.heap.size ≤ w4.heap.size := hb4.size
    have hz5 : w2.heap.size < w4.heap.size := by omega
    have hB4 : Below w.heap.size w w4 := ((hB2.alloc (by omega) _).trans (hb3.mono (by simp; omega))).trans (hb4.mono (by omega))
    go_wp2_with fail
    refine (eqWord_same _ _ _ _).mono ?_; rintro e w5 ⟨rfl, hb5⟩
    have hB5 := (hB4.alloc (by omega) _).trans (hb5.mono (by simp; omega))
    go_wp2
    go_ret
    exact ⟨rfl, hB5⟩
  · go_enter Try.func8, Try.ntmps8
    go_wp2_with fail
    refine (toWord_any _ _ _ _).mono ?_; rintro e w1 ⟨rfl, hb1⟩; obtain ⟨hc1, hf1⟩ := wcell hb1
    go_wp2_with fail
    refine (specFreeWord_yes _ _ ho _).mono ?_; rintro e w2 ⟨rfl, hb2⟩; obtain ⟨hc2, hf2⟩ := wcell hb2
    have hz1 : w.heap.size < w1.heap.size := by have := hb1.size; simp at this; omega
    have hz2 : w.heap.size < w2.heap.size := by have := hb2.size; omega
    have hB2 : Below w.heap.size w w2 := (((Below.refl _ _).alloc (Nat.le_refl _) _).trans (hb1.mono (by simp))).trans (hb2.mono (by omega))
    go_wp2_with fail
    refine (toWord_any _ _ _ _).mono ?_; rintro e w3 ⟨rfl, hb3⟩; obtain ⟨hc3, hf3⟩ := wcell hb3
    have hz3 : w2.heap.size < w3.heap.size := by have := hb3.size; simp at this; omega
    go_wp2_with fail
    refine (implFreeWord_yes _ _ ho _).mono ?_; rintro e w4 ⟨rfl, hb4⟩; obtain ⟨hc4, hf4⟩ := wcell hb4
    have hz4 : w3.heap.size ≤ w4.heap.size := hb4.size
    have hz5 : w2.heap.size < w4.heap.size := by omega
    have hB4 : Below w.heap.size w w4 := ((hB2.alloc (by omega) _).trans (hb3.mono (by simp; omega))).trans (hb4.mono (by omega))
    go_wp2_with fail
    refine (eqWord_same _ _ _ _).mono ?_; rintro e w5 ⟨rfl, hb5⟩
    have hB5 := (hB4.alloc (by omega) _).trans (hb5.mono (by simp; omega))
    go_wp2
    go_ret
    exact ⟨rfl, hB5⟩
end Go.Proofs.Ytilgfcbjonalaaa
