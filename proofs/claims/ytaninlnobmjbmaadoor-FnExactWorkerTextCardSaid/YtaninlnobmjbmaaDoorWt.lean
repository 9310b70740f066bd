/- WorkerText: the model's and the program's. -/
import Derived.Test.YtaninlnobmjbmaaDoorGe
import Derived.Test.YtaninlnobmjbmaaDoorTabG
import Derived.Test.YtaninlnobmjbmaaDoorRg
namespace Go.Proofs.YtaninlnobmjbmaaDoor
open Go.RowKit

/-- a worker's text -/
def wtext (x : DWorker) : List UInt8 := Lib.itoa x.2.1 ++ [58] ++ Lib.itoa x.2.2.1 ++ [46] ++ Lib.itoa x.2.2.2.1 ++ [32] ++ Lib.itoa x.2.2.2.2.1
theorem wret_str {a b : ByteArray} (h : a = b) : Ending.returned (.string a) = .returned (.string b) := by rw [h]
set_option maxHeartbeats 3200000 in
set_option maxRecDepth 100000 in
theorem specWorkerText_any (x : DWorker) (B : Nat) (vs : List Value) (w : World) (hw : fWorker.Wf x) (h : fWorker.At w B x vs) : Calls Tryd.prog 14 #[.agg vs.toArray] w fun o w' => o = .returned (.string ⟨(wtext x).toArray⟩) ∧ Below w.heap.size w w' := by
  obtain ⟨A0, c0, A5, c5, A6, c6, A7, c7, A8, c8, rfl, _, _, _, _, _⟩ := at_Worker h
  clear h
  obtain ⟨_, h1, h2, h3, h4, _⟩ := hw
  obtain ⟨h1a, h1b⟩ := h1
  obtain ⟨h2a, h2b⟩ := h2
  obtain ⟨h3a, h3b⟩ := h3
  obtain ⟨h4a, h4b⟩ := h4
  have L1 := Lib.itoa_length_le x.2.1 h1a h1b
  have L2 := Lib.itoa_length_le x.2.2.1 h2a h2b
  have L3 := Lib.itoa_length_le x.2.2.2.1 h3a h3b
  have L4 := Lib.itoa_length_le x.2.2.2.2.1 h4a h4b
  have N1 : ¬ 9223372036854775807 < (Lib.itoa x.2.1).length + 1 := by omega
  have N2 : ¬ 9223372036854775807 < (Lib.itoa x.2.1).length + 1 + (Lib.itoa x.2.2.1).length := by omega
  have N3 : ¬ 9223372036854775807 < (Lib.itoa x.2.1).length + 1 + (Lib.itoa x.2.2.1).length + 1 := by omega
  have N4 : ¬ 9223372036854775807 < (Lib.itoa x.2.1).length + 1 + (Lib.itoa x.2.2.1).length + 1 + (Lib.itoa x.2.2.2.1).length := by omega
  have N5 : ¬ 9223372036854775807 < (Lib.itoa x.2.1).length + 1 + (Lib.itoa x.2.2.1).length + 1 + (Lib.itoa x.2.2.2.1).length + 1 := by omega
  have N6 : ¬ 9223372036854775807 < (Lib.itoa x.2.1).length + 1 + (Lib.itoa x.2.2.1).length + 1 + (Lib.itoa x.2.2.2.1).length + 1 + (Lib.itoa x.2.2.2.2.1).length := by omega
  go_enter Tryd.func14, Tryd.ntmps14
  go_wp2_with fail
  have b := (Below.refl w.heap.size w).alloc (Nat.le_refl _) (.cells #[.slice A0 (x.1).length c0, .int .i64 x.2.1, .int .i64 x.2.2.1, .int .i64 x.2.2.2.1, .int .i64 x.2.2.2.2.1, .slice A5 (x.2.2.2.2.2.1).length c5, .slice A6 (x.2.2.2.2.2.2.1).length c6, .slice A7 (x.2.2.2.2.2.2.2.1).length c7, .slice A8 (x.2.2.2.2.2.2.2.2).length c8] 49)
  have X := Bx.new (w := w) (c := #[.slice A0 (x.1).length c0, .int .i64 x.2.1, .int .i64 x.2.2.1, .int .i64 x.2.2.2.1, .int .i64 x.2.2.2.2.1, .slice A5 (x.2.2.2.2.2.1).length c5, .slice A6 (x.2.2.2.2.2.2.1).length c6, .slice A7 (x.2.2.2.2.2.2.2.1).length c7, .slice A8 (x.2.2.2.2.2.2.2.2).length c8]) (t := 49) rfl
  generalize w.alloc (.cells #[.slice A0 (x.1).length c0, .int .i64 x.2.1, .int .i64 x.2.2.1, .int .i64 x.2.2.2.1, .int .i64 x.2.2.2.2.1, .slice A5 (x.2.2.2.2.2.1).length c5, .slice A6 (x.2.2.2.2.2.2.1).length c6, .slice A7 (x.2.2.2.2.2.2.2.1).length c7, .slice A8 (x.2.2.2.2.2.2.2.2).length c8] 49) = w1 at b X ⊢
  have hS : Bx (w1.drew) w.heap.size [.slice A0 (x.1).length c0, .int .i64 x.2.1, .int .i64 x.2.2.1, .int .i64 x.2.2.2.1, .int .i64 x.2.2.2.2.1, .slice A5 (x.2.2.2.2.2.1).length c5, .slice A6 (x.2.2.2.2.2.2.1).length c6, .slice A7 (x.2.2.2.2.2.2.2.1).length c7, .slice A8 (x.2.2.2.2.2.2.2.2).length c8] ∧ Below w.heap.size w (w1.drew) := ⟨X.drew, b.drew⟩
  obtain ⟨I, F, hI, hF0, hF, hFi⟩ := cls (S := fun W => Bx W w.heap.size [.slice A0 (x.1).length c0, .int .i64 x.2.1, .int .i64 x.2.2.1, .int .i64 x.2.2.2.1, .int .i64 x.2.2.2.2.1, .slice A5 (x.2.2.2.2.2.1).length c5, .slice A6 (x.2.2.2.2.2.2.1).length c6, .slice A7 (x.2.2.2.2.2.2.2.1).length c7, .slice A8 (x.2.2.2.2.2.2.2.2).length c8] ∧ Below w.heap.size w W) hS
  have hFn : ∀ n w2, Below (F n).heap.size (F n) w2 → ∃ m, w2 = F m := fun n w2 hb => hFi w2 ⟨(hF n).1.next hb, (hF n).2.trans (hb.mono (hF n).2.size)⟩
  have HFn := Lib.hid hFn
  have f0 := fun n => ((hF n).1.c9.1).1
  have f1 := fun n => ((hF n).1.c9.1).2.1
  have f2 := fun n => ((hF n).1.c9.1).2.2.1
  have f3 := fun n => ((hF n).1.c9.1).2.2.2.1
  have f4 := fun n => ((hF n).1.c9.1).2.2.2.2.1
  have f5 := fun n => ((hF n).1.c9.1).2.2.2.2.2.1
  have f6 := fun n => ((hF n).1.c9.1).2.2.2.2.2.2.1
  have f7 := fun n => ((hF n).1.c9.1).2.2.2.2.2.2.2.1
  have f8 := fun n => ((hF n).1.c9.1).2.2.2.2.2.2.2.2
  have f9 := fun n => (hF n).1.lt
  have HF := Lib.hid hF
  have HF0 := Lib.hid hF0
  clear hS hFi hFn hF hF0 X
  refine wp_region_cls (by kernel_rfl) (by kernel_rfl) HF0.out ?_
  repeat (go_big_quiet_step ((go_at_call 46; refine (l01Num_any _ (by assumption) (by assumption) _).mono ?_; rintro o w2 ⟨rfl, hb2⟩; exact ⟨rfl, HFn.out _ _ hb2⟩)))
  refine wpQuiet_nil ?_
  rintro _ ⟨nq, rfl⟩
  have hbq := (HF.out nq).2
  clear f0 f1 f2 f3 f4 f5 f6 f7 f8 f9 HF0
  generalize F nq = w2 at hbq ⊢
  go_wp2
  go_ret
  exact ⟨wret_str (by simp [ByteArray.mk_append_mk, wtext]), hbq⟩
set_option maxHeartbeats 3200000 in
set_option maxRecDepth 100000 in
theorem implWorkerText_any (x : DWorker) (B : Nat) (vs : List Value) (w : World) (hw : fWorker.Wf x) (h : fWorker.At w B x vs) (ht : Tab w) : Calls Tryd.prog 16 #[.agg vs.toArray] w fun o w' => o = .returned (.string ⟨(wtext x).toArray⟩) ∧ Below w.heap.size w w' := by
  obtain ⟨A0, c0, A5, c5, A6, c6, A7, c7, A8, c8, rfl, _, _, _, _, _⟩ := at_Worker h
  clear h
  obtain ⟨_, h1, h2, h3, h4, _⟩ := hw
  obtain ⟨h1a, h1b⟩ := h1
  obtain ⟨h2a, h2b⟩ := h2
  obtain ⟨h3a, h3b⟩ := h3
  obtain ⟨h4a, h4b⟩ := h4
  have L1 := Lib.itoa_length_le x.2.1 h1a h1b
  have L2 := Lib.itoa_length_le x.2.2.1 h2a h2b
  have L3 := Lib.itoa_length_le x.2.2.2.1 h3a h3b
  have L4 := Lib.itoa_length_le x.2.2.2.2.1 h4a h4b
  have N1 : ¬ 9223372036854775807 < (Lib.itoa x.2.1).length + 1 := by omega
  have N2 : ¬ 9223372036854775807 < (Lib.itoa x.2.1).length + 1 + (Lib.itoa x.2.2.1).length := by omega
  have N3 : ¬ 9223372036854775807 < (Lib.itoa x.2.1).length + 1 + (Lib.itoa x.2.2.1).length + 1 := by omega
  have N4 : ¬ 9223372036854775807 < (Lib.itoa x.2.1).length + 1 + (Lib.itoa x.2.2.1).length + 1 + (Lib.itoa x.2.2.2.1).length := by omega
  have N5 : ¬ 9223372036854775807 < (Lib.itoa x.2.1).length + 1 + (Lib.itoa x.2.2.1).length + 1 + (Lib.itoa x.2.2.2.1).length + 1 := by omega
  have N6 : ¬ 9223372036854775807 < (Lib.itoa x.2.1).length + 1 + (Lib.itoa x.2.2.1).length + 1 + (Lib.itoa x.2.2.2.1).length + 1 + (Lib.itoa x.2.2.2.2.1).length := by omega
  go_enter Tryd.func16, Tryd.ntmps16
  go_wp2_with fail
  have b := (Below.refl w.heap.size w).alloc (Nat.le_refl _) (.cells #[.slice A0 (x.1).length c0, .int .i64 x.2.1, .int .i64 x.2.2.1, .int .i64 x.2.2.2.1, .int .i64 x.2.2.2.2.1, .slice A5 (x.2.2.2.2.2.1).length c5, .slice A6 (x.2.2.2.2.2.2.1).length c6, .slice A7 (x.2.2.2.2.2.2.2.1).length c7, .slice A8 (x.2.2.2.2.2.2.2.2).length c8] 49)
  have X := Bx.new (w := w) (c := #[.slice A0 (x.1).length c0, .int .i64 x.2.1, .int .i64 x.2.2.1, .int .i64 x.2.2.2.1, .int .i64 x.2.2.2.2.1, .slice A5 (x.2.2.2.2.2.1).length c5, .slice A6 (x.2.2.2.2.2.2.1).length c6, .slice A7 (x.2.2.2.2.2.2.2.1).length c7, .slice A8 (x.2.2.2.2.2.2.2.2).length c8]) (t := 49) rfl
  generalize w.alloc (.cells #[.slice A0 (x.1).length c0, .int .i64 x.2.1, .int .i64 x.2.2.1, .int .i64 x.2.2.2.1, .int .i64 x.2.2.2.2.1, .slice A5 (x.2.2.2.2.2.1).length c5, .slice A6 (x.2.2.2.2.2.2.1).length c6, .slice A7 (x.2.2.2.2.2.2.2.1).length c7, .slice A8 (x.2.2.2.2.2.2.2.2).length c8] 49) = w1 at b X ⊢
  have hS : Bx (w1.drew) w.heap.size [.slice A0 (x.1).length c0, .int .i64 x.2.1, .int .i64 x.2.2.1, .int .i64 x.2.2.2.1, .int .i64 x.2.2.2.2.1, .slice A5 (x.2.2.2.2.2.1).length c5, .slice A6 (x.2.2.2.2.2.2.1).length c6, .slice A7 (x.2.2.2.2.2.2.2.1).length c7, .slice A8 (x.2.2.2.2.2.2.2.2).length c8] ∧ Below w.heap.size w (w1.drew) ∧ Tab (w1.drew) := ⟨X.drew, b.drew, ht.below b.drew⟩
  obtain ⟨I, F, hI, hF0, hF, hFi⟩ := cls (S := fun W => Bx W w.heap.size [.slice A0 (x.1).length c0, .int .i64 x.2.1, .int .i64 x.2.2.1, .int .i64 x.2.2.2.1, .int .i64 x.2.2.2.2.1, .slice A5 (x.2.2.2.2.2.1).length c5, .slice A6 (x.2.2.2.2.2.2.1).length c6, .slice A7 (x.2.2.2.2.2.2.2.1).length c7, .slice A8 (x.2.2.2.2.2.2.2.2).length c8] ∧ Below w.heap.size w W ∧ Tab W) hS
  have hFn : ∀ n w2, Below (F n).heap.size (F n) w2 → ∃ m, w2 = F m := fun n w2 hb => hFi w2 ⟨(hF n).1.next hb, (hF n).2.1.trans (hb.mono (hF n).2.1.size), (hF n).2.2.below hb⟩
  have HFn := Lib.hid hFn
  have f0 := fun n => ((hF n).1.c9.1).1
  have f1 := fun n => ((hF n).1.c9.1).2.1
  have f2 := fun n => ((hF n).1.c9.1).2.2.1
  have f3 := fun n => ((hF n).1.c9.1).2.2.2.1
  have f4 := fun n => ((hF n).1.c9.1).2.2.2.2.1
  have f5 := fun n => ((hF n).1.c9.1).2.2.2.2.2.1
  have f6 := fun n => ((hF n).1.c9.1).2.2.2.2.2.2.1
  have f7 := fun n => ((hF n).1.c9.1).2.2.2.2.2.2.2.1
  have f8 := fun n => ((hF n).1.c9.1).2.2.2.2.2.2.2.2
  have f9 := fun n => (hF n).1.lt
  have HF := Lib.hid hF
  have HF0 := Lib.hid hF0
  clear hS hFi hFn hF hF0 X
  refine wp_region_cls (by kernel_rfl) (by kernel_rfl) HF0.out ?_
  repeat (go_big_quiet_step ((go_at_call 52; refine (itoa_any _ (by assumption) (by assumption) _ (HF.out _).2.2).mono ?_; rintro o w2 ⟨rfl, hb2⟩; exact ⟨rfl, HFn.out _ _ hb2⟩)))
  refine wpQuiet_nil ?_
  rintro _ ⟨nq, rfl⟩
  have hbq := (HF.out nq).2.1
  clear f0 f1 f2 f3 f4 f5 f6 f7 f8 f9 HF0
  generalize F nq = w2 at hbq ⊢
  go_wp2
  go_ret
  exact ⟨wret_str (by simp [ByteArray.mk_append_mk, wtext]), hbq⟩
end Go.Proofs.YtaninlnobmjbmaaDoor
