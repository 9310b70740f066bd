/- Contract of impl.ActText. -/
import Derived.Test.YtilgfcbjonalaaaDoorText
import Derived.Test.YtilgfcbjonalaaaDoorTab
import Derived.Lib.AppendIntMem
import Derived.Lib.LaidTab
namespace Go.Proofs.YtilgfcbjonalaaaDoor
open Go.RowKit








set_option maxHeartbeats 6400000 in
set_option maxRecDepth 100000 in
theorem implActText_any (k y n : Int) (w : World) (ht : Tab w) :
    Calls Tryd.prog 54 #[.agg #[.int .i64 k, .int .i64 y, .int .i64 n]] w fun e w' => e = .returned (.string ⟨(actText k y n).toArray⟩) ∧ Below w.heap.size w w' := by
  have HTab := Lib.hid ht
  clear ht
  cases ha : actOk k y n with
  | false =>
    have HT := Lib.hid (actText_no ha)
    go_enter Tryd.func54, Tryd.ntmps54
    go_wp2_with fail
    refine (implActOk_any _ _ _ _).mono ?_; rintro e w1 ⟨rfl, hb1⟩
    rw [ha]
    go_wp2
    go_ret
    rw [HT.out]
    exact ⟨rfl, ((Below.refl _ _).alloc (Nat.le_refl _) _).trans (hb1.mono (by simp))⟩
  | true =>
    obtain ⟨hk, hy, hn⟩ := act_parts ha
    have HA := Lib.hid ha
    have hly := Lib.itoa_length_le y (by omega) (by omega)
    have hln := Lib.itoa_length_le n (by omega) (by omega)
    have hcat : ¬ (9223372036854775807 < 4 + (Lib.itoa y).length) := by omega
    have hcat2 : ¬ (9223372036854775807 < 4 + (Lib.itoa y).length + 1) := by omega
    have hcat3 : ¬ (9223372036854775807 < 4 + (Lib.itoa y).length + 1 + (Lib.itoa n).length) := by omega
    have ygg := ta_yes Tryd.underlying113
    have ypp := ta_yes Tryd.underlying115
    have yaa := ta_yes Tryd.underlying116
    have npg := ta_no (t := 115) Tryd.underlying113 zGet (by decide)
    have nag := ta_no (t := 116) Tryd.underlying113 zGet (by decide)
    have nap := ta_no (t := 116) Tryd.underlying115 zPut (by decide)
    rcases hk with rfl | rfl | rfl
    · have HT := Lib.hid (actText_get ha)
      go_enter Tryd.func54, Tryd.ntmps54
      go_wp2_with fail
      refine (implActOk_any _ _ _ _).mono ?_; rintro e w1 ⟨rfl, hb1⟩
      rw [ha]
      clear ha
      obtain ⟨hc1, hf1⟩ := bcell hb1
      have hs1 : w.heap.size < w1.heap.size := by have := hb1.size; simp at this; omega
      have hB1 := ((Below.refl w.heap.size w).alloc (Nat.le_refl _) _).trans (hb1.mono (by simp))
      go_wp2_with fail
      refine (actionOf_get _ _ _).mono ?_; rintro e w2 ⟨rfl, hb2⟩
      have hB2 := hB1.trans (hb2.mono hB1.size)
      go_wp2_with fail
      refine (itoa_key _ hy.1 hy.2 _).mono ?_; rintro e w3 ⟨rfl, rfl⟩
      go_wp2
      go_ret
      rw [HT.out]
      refine ⟨?_, hB2.alloc hB2.size _⟩
      show Ending.returned (.string ((⟨[103, 101, 116, 32].toArray⟩ : ByteArray) ++ ⟨(Lib.itoa y).toArray⟩)) = _
      rw [ByteArray.mk_append_mk]
    · have HT := Lib.hid (actText_put ha)
      go_enter Tryd.func54, Tryd.ntmps54
      go_wp2_with fail
      refine (implActOk_any _ _ _ _).mono ?_; rintro e w1 ⟨rfl, hb1⟩
      rw [ha]
      clear ha
      obtain ⟨hc1, hf1⟩ := bcell hb1
      have hs1 : w.heap.size < w1.heap.size := by have := hb1.size; simp at this; omega
      have hB1 := ((Below.refl w.heap.size w).alloc (Nat.le_refl _) _).trans (hb1.mono (by simp))
      go_wp2_with fail
      refine (actionOf_put _ _ _).mono ?_; rintro e w2 ⟨rfl, hb2⟩
      have hB2 := hB1.trans (hb2.mono hB1.size)
      have HTab2 := Lib.hid ((HTab.out.below hB2))
      go_wp2_with fail
      go_region_law (first | (go_simp; go_at_call_of 73 (Value.int IntKind.i64 y); refine (itoa_key _ hy.1 hy.2 _).mono ?_; rintro e w3 ⟨rfl, rfl⟩) | (go_simp; go_at_call_of 73 (Value.int IntKind.i64 n); refine (itoa_any _ (by omega) (by omega) _ (by exact (HTab2.out.below (((Below.refl _ _).alloc (Nat.le_refl _) _).drew)))).mono ?_; rintro e w3 ⟨rfl, hb3⟩; obtain ⟨hc3, hf3⟩ := bcell hb3))
      all_goals
        have hB3 := below_two hB2 hb3
        go_wp2
        go_ret
        rw [HT.out]
        refine ⟨?_, hB3⟩
        simp only [ByteArray.mk_append_mk]
        rfl
    · have HT := Lib.hid (actText_add ha)
      go_enter Tryd.func54, Tryd.ntmps54
      go_wp2_with fail
      refine (implActOk_any _ _ _ _).mono ?_; rintro e w1 ⟨rfl, hb1⟩
      rw [ha]
      clear ha
      obtain ⟨hc1, hf1⟩ := bcell hb1
      have hs1 : w.heap.size < w1.heap.size := by have := hb1.size; simp at this; omega
      have hB1 := ((Below.refl w.heap.size w).alloc (Nat.le_refl _) _).trans (hb1.mono (by simp))
      go_wp2_with fail
      refine (actionOf_add _ _ _).mono ?_; rintro e w2 ⟨rfl, hb2⟩
      have hB2 := hB1.trans (hb2.mono hB1.size)
      have HTab2 := Lib.hid ((HTab.out.below hB2))
      go_wp2_with fail
      go_region_law (first | (go_simp; go_at_call_of 73 (Value.int IntKind.i64 y); refine (itoa_key _ hy.1 hy.2 _).mono ?_; rintro e w3 ⟨rfl, rfl⟩) | (go_simp; go_at_call_of 73 (Value.int IntKind.i64 n); refine (itoa_any _ (by omega) (by omega) _ (by exact (HTab2.out.below (((Below.refl _ _).alloc (Nat.le_refl _) _).drew)))).mono ?_; rintro e w3 ⟨rfl, hb3⟩; obtain ⟨hc3, hf3⟩ := bcell hb3))
      all_goals
        have hB3 := below_two hB2 hb3
        go_wp2
        go_ret
        rw [HT.out]
        refine ⟨?_, hB3⟩
        simp only [ByteArray.mk_append_mk]
        rfl

end Go.Proofs.YtilgfcbjonalaaaDoor
