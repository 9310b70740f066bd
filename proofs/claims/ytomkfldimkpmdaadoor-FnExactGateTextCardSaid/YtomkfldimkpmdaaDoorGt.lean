/- GateText: the model's and the program's. -/
import Derived.Test.YtomkfldimkpmdaaDoorGf
import Derived.Test.YtomkfldimkpmdaaDoorTabG
namespace Go.Proofs.YtomkfldimkpmdaaDoor
open Go.RowKit

def gtext (d : DEngine) : List UInt8 := if d.2.2.2.2.2.1 = -1 then [111, 112, 101, 110] else 119 :: Lib.itoa d.2.2.2.2.2.1
theorem gtext_open {d : DEngine} (h : d.2.2.2.2.2.1 = -1) : gtext d = [111, 112, 101, 110] := if_pos h
theorem gtext_w {d : DEngine} (h : ¬ d.2.2.2.2.2.1 = -1) : gtext d = 119 :: Lib.itoa d.2.2.2.2.2.1 := if_neg h
theorem gret_str {a b : ByteArray} (h : a = b) : Ending.returned (.string a) = .returned (.string b) := by rw [h]
set_option maxHeartbeats 3200000 in
set_option maxRecDepth 100000 in
theorem specGate_any (d : DEngine) (B : Nat) (vs : List Value) (w : World) (hw : fEngine.Wf d) (h : fEngine.At w B d vs) : Calls Tryd.prog 5 #[.agg vs.toArray] w fun o w' => o = .returned (.string ⟨(gtext d).toArray⟩) ∧ Below w.heap.size w w' := by
  obtain ⟨A5, c5, A6, c6, A7, c7, A10, c10, rfl, _, _, _, _⟩ := at_Engine h
  clear h
  have hz : wfI d.2.2.2.2.2.1 := hw.2.2.2.2.2.1
  obtain ⟨hz0, hz1⟩ := hz
  have L1 := Lib.itoa_length_le d.2.2.2.2.2.1 hz0 hz1
  have N1 : ¬ 9223372036854775807 < 1 + (Lib.itoa d.2.2.2.2.2.1).length := by omega
  have N2 : ¬ 9223372036854775807 < (Lib.itoa d.2.2.2.2.2.1).length + 1 := by omega
  have b := (Below.refl w.heap.size w).alloc (Nat.le_refl _) (.cells #[.int .i64 d.1.1, .int .i64 d.1.2.1, .int .i64 d.1.2.2.1, .bool d.1.2.2.2.1, .int .i64 d.1.2.2.2.2, .slice A5 (d.2.1).length c5, .slice A6 (d.2.2.1).length c6, .slice A7 (d.2.2.2.1).length c7, .int .i64 d.2.2.2.2.1, .int .i64 d.2.2.2.2.2.1, .slice A10 (d.2.2.2.2.2.2.1).length c10, .int .i64 d.2.2.2.2.2.2.2.1, .int .i64 d.2.2.2.2.2.2.2.2] 41)
  by_cases hg : d.2.2.2.2.2.1 = -1
  · have HE := Lib.hid (gtext_open hg)
    have hg' : (d.2.2.2.2.2.1 == -1) = true := by simpa using hg
    clear hg
    go_enter Tryd.func5, Tryd.ntmps5
    go_wp2_with fail
    go_ret
    exact ⟨gret_str (by rw [HE.out]), b⟩
  · have HE := Lib.hid (gtext_w hg)
    have hg' : (d.2.2.2.2.2.1 == -1) = false := by simpa using hg
    clear hg
    go_enter Tryd.func5, Tryd.ntmps5
    go_wp2_with fail
    (with_reducible refine (l01Num_any _ hz0 hz1 _).mono ?_); rintro o w2 ⟨rfl, hb⟩
    have b := b.trans (hb.mono b.size)
    clear hb
    go_wp2
    go_ret
    exact ⟨gret_str (by rw [HE.out]; simp [ByteArray.mk_append_mk]), b⟩
set_option maxHeartbeats 3200000 in
set_option maxRecDepth 100000 in
theorem implGate_any (d : DEngine) (B : Nat) (vs : List Value) (w : World) (hw : fEngine.Wf d) (h : fEngine.At w B d vs) (ht : Tab w) : Calls Tryd.prog 7 #[.agg vs.toArray] w fun o w' => o = .returned (.string ⟨(gtext d).toArray⟩) ∧ Below w.heap.size w w' := by
  obtain ⟨A5, c5, A6, c6, A7, c7, A10, c10, rfl, _, _, _, _⟩ := at_Engine h
  clear h
  have hz : wfI d.2.2.2.2.2.1 := hw.2.2.2.2.2.1
  obtain ⟨hz0, hz1⟩ := hz
  have L1 := Lib.itoa_length_le d.2.2.2.2.2.1 hz0 hz1
  have N1 : ¬ 9223372036854775807 < 1 + (Lib.itoa d.2.2.2.2.2.1).length := by omega
  have N2 : ¬ 9223372036854775807 < (Lib.itoa d.2.2.2.2.2.1).length + 1 := by omega
  have b := (Below.refl w.heap.size w).alloc (Nat.le_refl _) (.cells #[.int .i64 d.1.1, .int .i64 d.1.2.1, .int .i64 d.1.2.2.1, .bool d.1.2.2.2.1, .int .i64 d.1.2.2.2.2, .slice A5 (d.2.1).length c5, .slice A6 (d.2.2.1).length c6, .slice A7 (d.2.2.2.1).length c7, .int .i64 d.2.2.2.2.1, .int .i64 d.2.2.2.2.2.1, .slice A10 (d.2.2.2.2.2.2.1).length c10, .int .i64 d.2.2.2.2.2.2.2.1, .int .i64 d.2.2.2.2.2.2.2.2] 41)
  by_cases hg : d.2.2.2.2.2.1 = -1
  · have HE := Lib.hid (gtext_open hg)
    have hg' : (d.2.2.2.2.2.1 == -1) = true := by simpa using hg
    clear hg
    go_enter Tryd.func7, Tryd.ntmps7
    go_wp2_with fail
    go_ret
    exact ⟨gret_str (by rw [HE.out]), b⟩
  · have HE := Lib.hid (gtext_w hg)
    have hg' : (d.2.2.2.2.2.1 == -1) = false := by simpa using hg
    clear hg
    go_enter Tryd.func7, Tryd.ntmps7
    go_wp2_with fail
    (with_reducible refine (itoa_any _ hz0 hz1 _ (ht.below b)).mono ?_); rintro o w2 ⟨rfl, hb⟩
    have b := b.trans (hb.mono b.size)
    clear hb
    go_wp2
    go_ret
    exact ⟨gret_str (by rw [HE.out]; simp [ByteArray.mk_append_mk]), b⟩
end Go.Proofs.YtomkfldimkpmdaaDoor
