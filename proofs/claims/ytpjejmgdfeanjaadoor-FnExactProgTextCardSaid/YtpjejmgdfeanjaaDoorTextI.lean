/- Contract of impl.ActText. -/
import Derived.Test.YtpjejmgdfeanjaaDoorText
import Derived.Lib.AppendIntMem
import Derived.Lib.LaidTab
namespace Go.Proofs.YtpjejmgdfeanjaaDoor
open Go.RowKit

/-- the library's table lies as it is listed -/
def Tab (w : World) : Prop := Lib.TabIs Tryd.prog w "internal/strconv.uint64pow10" .u64 Lib.pow10Tab
theorem gTab : Tryd.prog.globalNamed "internal/strconv.uint64pow10" = some 1 := by kernel_rfl
theorem Tab.below {w w' : World} (h : Tab w) (hb : Below w.heap.size w w') : Tab w' := by
  unfold Tab Lib.TabIs World.var? at h ⊢
  simp only [gTab, Option.bind_some] at h ⊢
  have hlt : 1 < w.heap.size := by
    rcases Nat.lt_or_ge 1 w.heap.size with h' | h'
    · exact h'
    · rw [Array.getElem?_eq_none h'] at h; cases h
  rw [hb.block _ hlt]
  exact h

theorem itoa_any (x : Int) (h0 : -1000000000 ≤ x) (h1 : x ≤ 1000000000) (w : World) (ht : Tab w) :
    Calls Tryd.prog 58 #[.int .i64 x] w fun e w' => e = .returned (.string ⟨(Lib.itoa x).toArray⟩) ∧ Below w.heap.size w w' :=
  (Tryd.strconv_Itoa x (by omega) (by omega) w ht).mono fun e w' ⟨he, k, os, hw⟩ => ⟨he, by rw [hw]; exact Lib.below_grow _ w (Nat.le_refl _) k os⟩
theorem itoa_key (y : Int) (h0 : 0 ≤ y) (h1 : y < 8) (w : World) :
    Calls Tryd.prog 58 #[.int .i64 y] w fun e w' => e = .returned (.string ⟨(Lib.itoa y).toArray⟩) ∧ w = w' := by
  obtain ⟨n, rfl⟩ := Int.eq_ofNat_of_zero_le h0
  rw [Lib.itoa_nonneg]
  exact (Tryd.strconv_Itoa_small n (by omega) w).mono fun e w' ⟨he, hw⟩ => ⟨he, hw.symm⟩

set_option maxHeartbeats 6400000 in
set_option maxRecDepth 100000 in
theorem implActText_any (k y n : Int) (w : World) (ht : Tab w) :
    Calls Tryd.prog 23 #[.agg #[.int .i64 k, .int .i64 y, .int .i64 n]] w fun e w' => e = .returned (.string ⟨(actText k y n).toArray⟩) ∧ Below w.heap.size w w' := by
  have HTab := Lib.hid ht
  clear ht
  cases ha : actOk k y n with
  | false =>
    have HT := Lib.hid (actText_no ha)
    go_enter Tryd.func23, Tryd.ntmps23
    go_wp2_with fail
    refine (implActOk_any _ _ _ _).mono ?_; rintro e w1 ⟨rfl, hb1⟩
    rw [ha]
    go_wp2
    go_ret
    rw [HT.out]
    exact ⟨rfl, ((Below.refl _ _).alloc (Nat.le_refl _) _).trans (hb1.mono (by simp))⟩
  | true =>
    obtain ⟨hk, hy, hn⟩ := act_parts ha
    have HA := Lib.hid ha
    have hly := Lib.itoa_length_le y (by omega) (by omega)
    have hln := Lib.itoa_length_le n (by omega) (by omega)
    have hcat : ¬ (9223372036854775807 < 4 + (Lib.itoa y).length) := by omega
    have hcat2 : ¬ (9223372036854775807 < 4 + (Lib.itoa y).length + 1) := by omega
    have hcat3 : ¬ (9223372036854775807 < 4 + (Lib.itoa y).length + 1 + (Lib.itoa n).length) := by omega
    have ygg := ta_yes Tryd.underlying80
    have ypp := ta_yes Tryd.underlying82
    have yaa := ta_yes Tryd.underlying83
    have npg := ta_no (t := 82) Tryd.underlying80 zGet (by decide)
    have nag := ta_no (t := 83) Tryd.underlying80 zGet (by decide)
    have nap := ta_no (t := 83) Tryd.underlying82 zPut (by decide)
    rcases hk with rfl | rfl | rfl
    · have HT := Lib.hid (actText_get ha)
      go_enter Tryd.func23, Tryd.ntmps23
      go_wp2_with fail
      refine (implActOk_any _ _ _ _).mono ?_; rintro e w1 ⟨rfl, hb1⟩
      rw [ha]
      clear ha
      obtain ⟨hc1, hf1⟩ := bcell hb1
      have hs1 : w.heap.size < w1.heap.size := by have := hb1.size; simp at this; omega
      have hB1 := ((Below.refl w.heap.size w).alloc (Nat.le_refl _) _).trans (hb1.mono (by simp))
      go_wp2_with fail
      refine (actionOf_get _ _ _).mono ?_; rintro e w2 ⟨rfl, hb2⟩
      have hB2 := hB1.trans (hb2.mono hB1.size)
      go_wp2_with fail
      refine (itoa_key _ hy.1 hy.2 _).mono ?_; rintro e w3 ⟨rfl, rfl⟩
      go_wp2
      go_ret
      rw [HT.out]
      refine ⟨?_, hB2.alloc hB2.size _⟩
      show Ending.returned (.string ((⟨[103, 101, 116, 32].toArray⟩ : ByteArray) ++ ⟨(Lib.itoa y).toArray⟩)) = _
      rw [ByteArray.mk_append_mk]
    · have HT := Lib.hid (actText_put ha)
      go_enter Tryd.func23, Tryd.ntmps23
      go_wp2_with fail
      refine (implActOk_any _ _ _ _).mono ?_; rintro e w1 ⟨rfl, hb1⟩
      rw [ha]
      clear ha
      obtain ⟨hc1, hf1⟩ := bcell hb1
      have hs1 : w.heap.size < w1.heap.size := by have := hb1.size; simp at this; omega
      have hB1 := ((Below.refl w.heap.size w).alloc (Nat.le_refl _) _).trans (hb1.mono (by simp))
      go_wp2_with fail
      refine (actionOf_put _ _ _).mono ?_; rintro e w2 ⟨rfl, hb2⟩
      have hB2 := hB1.trans (hb2.mono hB1.size)
      have HTab2 := Lib.hid ((HTab.out.below hB2))
      go_wp2_with fail
      go_region_law (first | (go_simp; go_at_call_of 58 (Value.int IntKind.i64 y); refine (itoa_key _ hy.1 hy.2 _).mono ?_; rintro e w3 ⟨rfl, rfl⟩) | (go_simp; go_at_call_of 58 (Value.int IntKind.i64 n); refine (itoa_any _ (by omega) (by omega) _ (by exact (HTab2.out.below (((Below.refl _ _).alloc (Nat.le_refl _) _).drew)))).mono ?_; rintro e w3 ⟨rfl, hb3⟩; obtain ⟨hc3, hf3⟩ := bcell hb3))
      all_goals
        have hB3 := below_two hB2 hb3
        go_wp2
        go_ret
        rw [HT.out]
        refine ⟨?_, hB3⟩
        simp only [ByteArray.mk_append_mk]
        rfl
    · have HT := Lib.hid (actText_add ha)
      go_enter Tryd.func23, Tryd.ntmps23
      go_wp2_with fail
      refine (implActOk_any _ _ _ _).mono ?_; rintro e w1 ⟨rfl, hb1⟩
      rw [ha]
      clear ha
      obtain ⟨hc1, hf1⟩ := bcell hb1
      have hs1 : w.heap.size < w1.heap.size := by have := hb1.size; simp at this; omega
      have hB1 := ((Below.refl w.heap.size w).alloc (Nat.le_refl _) _).trans (hb1.mono (by simp))
      go_wp2_with fail
      refine (actionOf_add _ _ _).mono ?_; rintro e w2 ⟨rfl, hb2⟩
      have hB2 := hB1.trans (hb2.mono hB1.size)
      have HTab2 := Lib.hid ((HTab.out.below hB2))
      go_wp2_with fail
      go_region_law (first | (go_simp; go_at_call_of 58 (Value.int IntKind.i64 y); refine (itoa_key _ hy.1 hy.2 _).mono ?_; rintro e w3 ⟨rfl, rfl⟩) | (go_simp; go_at_call_of 58 (Value.int IntKind.i64 n); refine (itoa_any _ (by omega) (by omega) _ (by exact (HTab2.out.below (((Below.refl _ _).alloc (Nat.le_refl _) _).drew)))).mono ?_; rintro e w3 ⟨rfl, hb3⟩; obtain ⟨hc3, hf3⟩ := bcell hb3))
      all_goals
        have hB3 := below_two hB2 hb3
        go_wp2
        go_ret
        rw [HT.out]
        refine ⟨?_, hB3⟩
        simp only [ByteArray.mk_append_mk]
        rfl

set_option maxHeartbeats 800000 in
theorem exactActText_walk (k y n : Int) (w : World) (ht : Tab w) :
    Calls Tryd.prog 4 #[.agg #[.int .i64 k, .int .i64 y, .int .i64 n]] w fun e w' => e = .returned (.bool true) ∧ Below w.heap.size w w' := by
  have HTab := Lib.hid ht
  clear ht
  go_enter Tryd.func4, Tryd.ntmps4
  go_wp2_with fail
  refine (toAct_any _ _ _ _).mono ?_; rintro e w1 ⟨rfl, hb1⟩; obtain ⟨hc1, hf1⟩ := bcell hb1
  go_wp2_with fail
  refine (specActText_any _ _ _ _).mono ?_; rintro e w2 ⟨rfl, hb2⟩; obtain ⟨hc2, hf2⟩ := bcell hb2
  have hz1 : w.heap.size < w1.heap.size := by have := hb1.size; simp at this; omega
  have hz2 : w.heap.size < w2.heap.size := by have := hb2.size; omega
  go_wp2_with fail
  refine (toAct_any _ _ _ _).mono ?_; rintro e w3 ⟨rfl, hb3⟩
  have hB3 := ((((Below.refl w.heap.size w).alloc (Nat.le_refl _) _).trans (hb1.mono (by simp))).trans (hb2.mono (by omega))).trans (hb3.mono (by omega))
  go_wp2_with fail
  refine (implActText_any _ _ _ _ (HTab.out.below hB3)).mono ?_; rintro e w4 ⟨rfl, hb4⟩
  go_wp2
  go_ret
  exact ⟨rfl, hB3.trans (hb4.mono hB3.size)⟩
end Go.Proofs.YtpjejmgdfeanjaaDoor
