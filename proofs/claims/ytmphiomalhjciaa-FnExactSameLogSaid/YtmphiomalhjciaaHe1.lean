/- Histories: sameCommit, case by case. -/
import Derived.Test.YtmphiomalhjciaaHe
namespace Go.Proofs.Ytmphiomalhjciaa
open Go.RowKit

set_option maxHeartbeats 25600000 in
set_option maxRecDepth 100000 in
theorem scNe1 (d1 : Int) (d2 : Int) (d3 : Int) (d4 : Int) (d5 : List Int) (d6 : List DPut) (x1 : Int) (x2 : Int) (x3 : Int) (x4 : Int) (x5 : List Int) (x6 : List DPut) (hne : ¬ d1 = x1) (A4 A5 A4x A5x : Option Addr) (c4 c5 c4x c5x B B' : Nat) (w : World) (hB : B ≤ w.heap.size) (hB' : B' ≤ w.heap.size) (r4 : RAt intF w B A4 d5) (r5 : RAt fPut w B A5 d6) (q4 : RAt intF w B' A4x x5) (q5 : RAt fPut w B' A5x x6) :
    Calls Try.prog 93 #[.agg #[.int .i64 d1, .int .i64 d2, .int .i64 d3, .int .i64 d4, .slice A4 d5.length c4, .slice A5 d6.length c5], .agg #[.int .i64 x1, .int .i64 x2, .int .i64 x3, .int .i64 x4, .slice A4x x5.length c4x, .slice A5x x6.length c5x]] w fun e w' => e = .returned (.bool false) ∧ Below w.heap.size w w' := by
  go_enter Try.func93, Try.ntmps93
  go_wp2_with fail
  have b := ((Below.refl w.heap.size w).alloc (Nat.le_refl _) (.cells #[.int .i64 d1, .int .i64 d2, .int .i64 d3, .int .i64 d4, .slice A4 d5.length c4, .slice A5 d6.length c5] 95)).alloc (by simp) (.cells #[.int .i64 x1, .int .i64 x2, .int .i64 x3, .int .i64 x4, .slice A4x x5.length c4x, .slice A5x x6.length c5x] 95)
  have X := (Bx.new (w := w) (c := #[.int .i64 d1, .int .i64 d2, .int .i64 d3, .int .i64 d4, .slice A4 d5.length c4, .slice A5 d6.length c5]) (t := 95) rfl).alloc (.cells #[.int .i64 x1, .int .i64 x2, .int .i64 x3, .int .i64 x4, .slice A4x x5.length c4x, .slice A5x x6.length c5x] 95)
  have Y := Bx.new (w := w.alloc (.cells #[.int .i64 d1, .int .i64 d2, .int .i64 d3, .int .i64 d4, .slice A4 d5.length c4, .slice A5 d6.length c5] 95)) (b := w.heap.size + 1) (c := #[.int .i64 x1, .int .i64 x2, .int .i64 x3, .int .i64 x4, .slice A4x x5.length c4x, .slice A5x x6.length c5x]) (t := 95) (by simp)
  generalize (w.alloc (.cells #[.int .i64 d1, .int .i64 d2, .int .i64 d3, .int .i64 d4, .slice A4 d5.length c4, .slice A5 d6.length c5] 95)).alloc (.cells #[.int .i64 x1, .int .i64 x2, .int .i64 x3, .int .i64 x4, .slice A4x x5.length c4x, .slice A5x x6.length c5x] 95) = w1 at b X Y ⊢
  have hB0 : B ≤ w1.heap.size := Nat.le_trans hB b.size
  have hB0' : B' ≤ w1.heap.size := Nat.le_trans hB' b.size
  have R4 := Lib.hid (r4.keep b hB)
  have R5 := Lib.hid (r5.keep b hB)
  have Q4 := Lib.hid (q4.keep b hB')
  have Q5 := Lib.hid (q5.keep b hB')
  clear r4 r5 q4 q5
  obtain ⟨I, F, hI, hF0, hF, hFn⟩ := clsH w1
  have f0 := fun n => ((X.next (hF n)).c6.1).1
  have f1 := fun n => ((X.next (hF n)).c6.1).2.1
  have f2 := fun n => ((X.next (hF n)).c6.1).2.2.1
  have f3 := fun n => ((X.next (hF n)).c6.1).2.2.2.1
  have f4 := fun n => ((X.next (hF n)).c6.1).2.2.2.2.1
  have f5 := fun n => ((X.next (hF n)).c6.1).2.2.2.2.2
  have g0 := fun n => ((Y.next (hF n)).c6.1).1
  have g1 := fun n => ((Y.next (hF n)).c6.1).2.1
  have g2 := fun n => ((Y.next (hF n)).c6.1).2.2.1
  have g3 := fun n => ((Y.next (hF n)).c6.1).2.2.2.1
  have g4 := fun n => ((Y.next (hF n)).c6.1).2.2.2.2.1
  have g5 := fun n => ((Y.next (hF n)).c6.1).2.2.2.2.2
  have f6 := fun n => (X.next (hF n)).lt
  have g6 := fun n => (Y.next (hF n)).lt
  have HFn := Lib.hid hFn
  have HF := Lib.hid hF
  have HF0 := Lib.hid hF0
  clear hFn hF hF0 X Y
  have hg : decide (d5 = x5) = decide (d5 = x5) := rfl
  have hp : decide (d6 = x6) = decide (d6 = x6) := rfl
  refine wp_region_cls (by kernel_rfl) (by kernel_rfl) HF0.out ?_
  repeat (go_big_quiet_step ((first
            | (go_at_call 136; refine (stampOf_any _ _ _ _ _ _ _ _ _ _ _).mono ?_; rintro o w2 ⟨rfl, hb2⟩; exact ⟨rfl, HFn.out _ _ hb2⟩)
            | (go_at_call 83; refine (equalI_any _ _ _ _ B B' _ _ _ (Nat.le_trans hB0 (HF.out _).size) (Nat.le_trans hB0' (HF.out _).size) (R4.out.keep (HF.out _) hB0) (Q4.out.keep (HF.out _) hB0')).mono ?_; rintro o w2 ⟨rfl, hb2⟩; rw [hg]; exact ⟨rfl, HFn.out _ _ hb2⟩)
            | (go_at_call 84; refine (equalP_any _ _ _ _ B B' _ _ _ (Nat.le_trans hB0 (HF.out _).size) (Nat.le_trans hB0' (HF.out _).size) (R5.out.keep (HF.out _) hB0) (Q5.out.keep (HF.out _) hB0')).mono ?_; rintro o w2 ⟨rfl, hb2⟩; rw [hp]; exact ⟨rfl, HFn.out _ _ hb2⟩))))
  refine wpQuiet_nil ?_
  rintro _ ⟨nq, rfl⟩
  have b := b.trans ((HF.out nq).mono b.size)
  clear f0 f1 f2 f3 f4 f5 f6 g0 g1 g2 g3 g4 g5 g6
  go_wp2
  go_ret
  exact ⟨rfl, b⟩
set_option maxHeartbeats 25600000 in
set_option maxRecDepth 100000 in
theorem scNe2 (d1 : Int) (d2 : Int) (d3 : Int) (d4 : Int) (d5 : List Int) (d6 : List DPut) (x2 : Int) (x3 : Int) (x4 : Int) (x5 : List Int) (x6 : List DPut) (hne : ¬ d2 = x2) (A4 A5 A4x A5x : Option Addr) (c4 c5 c4x c5x B B' : Nat) (w : World) (hB : B ≤ w.heap.size) (hB' : B' ≤ w.heap.size) (r4 : RAt intF w B A4 d5) (r5 : RAt fPut w B A5 d6) (q4 : RAt intF w B' A4x x5) (q5 : RAt fPut w B' A5x x6) :
    Calls Try.prog 93 #[.agg #[.int .i64 d1, .int .i64 d2, .int .i64 d3, .int .i64 d4, .slice A4 d5.length c4, .slice A5 d6.length c5], .agg #[.int .i64 d1, .int .i64 x2, .int .i64 x3, .int .i64 x4, .slice A4x x5.length c4x, .slice A5x x6.length c5x]] w fun e w' => e = .returned (.bool false) ∧ Below w.heap.size w w' := by
  go_enter Try.func93, Try.ntmps93
  go_wp2_with fail
  have b := ((Below.refl w.heap.size w).alloc (Nat.le_refl _) (.cells #[.int .i64 d1, .int .i64 d2, .int .i64 d3, .int .i64 d4, .slice A4 d5.length c4, .slice A5 d6.length c5] 95)).alloc (by simp) (.cells #[.int .i64 d1, .int .i64 x2, .int .i64 x3, .int .i64 x4, .slice A4x x5.length c4x, .slice A5x x6.length c5x] 95)
  have X := (Bx.new (w := w) (c := #[.int .i64 d1, .int .i64 d2, .int .i64 d3, .int .i64 d4, .slice A4 d5.length c4, .slice A5 d6.length c5]) (t := 95) rfl).alloc (.cells #[.int .i64 d1, .int .i64 x2, .int .i64 x3, .int .i64 x4, .slice A4x x5.length c4x, .slice A5x x6.length c5x] 95)
  have Y := Bx.new (w := w.alloc (.cells #[.int .i64 d1, .int .i64 d2, .int .i64 d3, .int .i64 d4, .slice A4 d5.length c4, .slice A5 d6.length c5] 95)) (b := w.heap.size + 1) (c := #[.int .i64 d1, .int .i64 x2, .int .i64 x3, .int .i64 x4, .slice A4x x5.length c4x, .slice A5x x6.length c5x]) (t := 95) (by simp)
  generalize (w.alloc (.cells #[.int .i64 d1, .int .i64 d2, .int .i64 d3, .int .i64 d4, .slice A4 d5.length c4, .slice A5 d6.length c5] 95)).alloc (.cells #[.int .i64 d1, .int .i64 x2, .int .i64 x3, .int .i64 x4, .slice A4x x5.length c4x, .slice A5x x6.length c5x] 95) = w1 at b X Y ⊢
  have hB0 : B ≤ w1.heap.size := Nat.le_trans hB b.size
  have hB0' : B' ≤ w1.heap.size := Nat.le_trans hB' b.size
  have R4 := Lib.hid (r4.keep b hB)
  have R5 := Lib.hid (r5.keep b hB)
  have Q4 := Lib.hid (q4.keep b hB')
  have Q5 := Lib.hid (q5.keep b hB')
  clear r4 r5 q4 q5
  obtain ⟨I, F, hI, hF0, hF, hFn⟩ := clsH w1
  have f0 := fun n => ((X.next (hF n)).c6.1).1
  have f1 := fun n => ((X.next (hF n)).c6.1).2.1
  have f2 := fun n => ((X.next (hF n)).c6.1).2.2.1
  have f3 := fun n => ((X.next (hF n)).c6.1).2.2.2.1
  have f4 := fun n => ((X.next (hF n)).c6.1).2.2.2.2.1
  have f5 := fun n => ((X.next (hF n)).c6.1).2.2.2.2.2
  have g0 := fun n => ((Y.next (hF n)).c6.1).1
  have g1 := fun n => ((Y.next (hF n)).c6.1).2.1
  have g2 := fun n => ((Y.next (hF n)).c6.1).2.2.1
  have g3 := fun n => ((Y.next (hF n)).c6.1).2.2.2.1
  have g4 := fun n => ((Y.next (hF n)).c6.1).2.2.2.2.1
  have g5 := fun n => ((Y.next (hF n)).c6.1).2.2.2.2.2
  have f6 := fun n => (X.next (hF n)).lt
  have g6 := fun n => (Y.next (hF n)).lt
  have HFn := Lib.hid hFn
  have HF := Lib.hid hF
  have HF0 := Lib.hid hF0
  clear hFn hF hF0 X Y
  have hg : decide (d5 = x5) = decide (d5 = x5) := rfl
  have hp : decide (d6 = x6) = decide (d6 = x6) := rfl
  refine wp_region_cls (by kernel_rfl) (by kernel_rfl) HF0.out ?_
  repeat (go_big_quiet_step ((first
            | (go_at_call 136; refine (stampOf_any _ _ _ _ _ _ _ _ _ _ _).mono ?_; rintro o w2 ⟨rfl, hb2⟩; exact ⟨rfl, HFn.out _ _ hb2⟩)
            | (go_at_call 83; refine (equalI_any _ _ _ _ B B' _ _ _ (Nat.le_trans hB0 (HF.out _).size) (Nat.le_trans hB0' (HF.out _).size) (R4.out.keep (HF.out _) hB0) (Q4.out.keep (HF.out _) hB0')).mono ?_; rintro o w2 ⟨rfl, hb2⟩; rw [hg]; exact ⟨rfl, HFn.out _ _ hb2⟩)
            | (go_at_call 84; refine (equalP_any _ _ _ _ B B' _ _ _ (Nat.le_trans hB0 (HF.out _).size) (Nat.le_trans hB0' (HF.out _).size) (R5.out.keep (HF.out _) hB0) (Q5.out.keep (HF.out _) hB0')).mono ?_; rintro o w2 ⟨rfl, hb2⟩; rw [hp]; exact ⟨rfl, HFn.out _ _ hb2⟩))))
  refine wpQuiet_nil ?_
  rintro _ ⟨nq, rfl⟩
  have b := b.trans ((HF.out nq).mono b.size)
  clear f0 f1 f2 f3 f4 f5 f6 g0 g1 g2 g3 g4 g5 g6
  go_wp2
  go_ret
  exact ⟨rfl, b⟩
set_option maxHeartbeats 25600000 in
set_option maxRecDepth 100000 in
theorem scNe3 (d1 : Int) (d2 : Int) (d3 : Int) (d4 : Int) (d5 : List Int) (d6 : List DPut) (x3 : Int) (x4 : Int) (x5 : List Int) (x6 : List DPut) (hne : ¬ d3 = x3) (A4 A5 A4x A5x : Option Addr) (c4 c5 c4x c5x B B' : Nat) (w : World) (hB : B ≤ w.heap.size) (hB' : B' ≤ w.heap.size) (r4 : RAt intF w B A4 d5) (r5 : RAt fPut w B A5 d6) (q4 : RAt intF w B' A4x x5) (q5 : RAt fPut w B' A5x x6) :
    Calls Try.prog 93 #[.agg #[.int .i64 d1, .int .i64 d2, .int .i64 d3, .int .i64 d4, .slice A4 d5.length c4, .slice A5 d6.length c5], .agg #[.int .i64 d1, .int .i64 d2, .int .i64 x3, .int .i64 x4, .slice A4x x5.length c4x, .slice A5x x6.length c5x]] w fun e w' => e = .returned (.bool false) ∧ Below w.heap.size w w' := by
  go_enter Try.func93, Try.ntmps93
  go_wp2_with fail
  have b := ((Below.refl w.heap.size w).alloc (Nat.le_refl _) (.cells #[.int .i64 d1, .int .i64 d2, .int .i64 d3, .int .i64 d4, .slice A4 d5.length c4, .slice A5 d6.length c5] 95)).alloc (by simp) (.cells #[.int .i64 d1, .int .i64 d2, .int .i64 x3, .int .i64 x4, .slice A4x x5.length c4x, .slice A5x x6.length c5x] 95)
  have X := (Bx.new (w := w) (c := #[.int .i64 d1, .int .i64 d2, .int .i64 d3, .int .i64 d4, .slice A4 d5.length c4, .slice A5 d6.length c5]) (t := 95) rfl).alloc (.cells #[.int .i64 d1, .int .i64 d2, .int .i64 x3, .int .i64 x4, .slice A4x x5.length c4x, .slice A5x x6.length c5x] 95)
  have Y := Bx.new (w := w.alloc (.cells #[.int .i64 d1, .int .i64 d2, .int .i64 d3, .int .i64 d4, .slice A4 d5.length c4, .slice A5 d6.length c5] 95)) (b := w.heap.size + 1) (c := #[.int .i64 d1, .int .i64 d2, .int .i64 x3, .int .i64 x4, .slice A4x x5.length c4x, .slice A5x x6.length c5x]) (t := 95) (by simp)
  generalize (w.alloc (.cells #[.int .i64 d1, .int .i64 d2, .int .i64 d3, .int .i64 d4, .slice A4 d5.length c4, .slice A5 d6.length c5] 95)).alloc (.cells #[.int .i64 d1, .int .i64 d2, .int .i64 x3, .int .i64 x4, .slice A4x x5.length c4x, .slice A5x x6.length c5x] 95) = w1 at b X Y ⊢
  have hB0 : B ≤ w1.heap.size := Nat.le_trans hB b.size
  have hB0' : B' ≤ w1.heap.size := Nat.le_trans hB' b.size
  have R4 := Lib.hid (r4.keep b hB)
  have R5 := Lib.hid (r5.keep b hB)
  have Q4 := Lib.hid (q4.keep b hB')
  have Q5 := Lib.hid (q5.keep b hB')
  clear r4 r5 q4 q5
  obtain ⟨I, F, hI, hF0, hF, hFn⟩ := clsH w1
  have f0 := fun n => ((X.next (hF n)).c6.1).1
  have f1 := fun n => ((X.next (hF n)).c6.1).2.1
  have f2 := fun n => ((X.next (hF n)).c6.1).2.2.1
  have f3 := fun n => ((X.next (hF n)).c6.1).2.2.2.1
  have f4 := fun n => ((X.next (hF n)).c6.1).2.2.2.2.1
  have f5 := fun n => ((X.next (hF n)).c6.1).2.2.2.2.2
  have g0 := fun n => ((Y.next (hF n)).c6.1).1
  have g1 := fun n => ((Y.next (hF n)).c6.1).2.1
  have g2 := fun n => ((Y.next (hF n)).c6.1).2.2.1
  have g3 := fun n => ((Y.next (hF n)).c6.1).2.2.2.1
  have g4 := fun n => ((Y.next (hF n)).c6.1).2.2.2.2.1
  have g5 := fun n => ((Y.next (hF n)).c6.1).2.2.2.2.2
  have f6 := fun n => (X.next (hF n)).lt
  have g6 := fun n => (Y.next (hF n)).lt
  have HFn := Lib.hid hFn
  have HF := Lib.hid hF
  have HF0 := Lib.hid hF0
  clear hFn hF hF0 X Y
  have hg : decide (d5 = x5) = decide (d5 = x5) := rfl
  have hp : decide (d6 = x6) = decide (d6 = x6) := rfl
  refine wp_region_cls (by kernel_rfl) (by kernel_rfl) HF0.out ?_
  repeat (go_big_quiet_step ((first
            | (go_at_call 136; refine (stampOf_any _ _ _ _ _ _ _ _ _ _ _).mono ?_; rintro o w2 ⟨rfl, hb2⟩; exact ⟨rfl, HFn.out _ _ hb2⟩)
            | (go_at_call 83; refine (equalI_any _ _ _ _ B B' _ _ _ (Nat.le_trans hB0 (HF.out _).size) (Nat.le_trans hB0' (HF.out _).size) (R4.out.keep (HF.out _) hB0) (Q4.out.keep (HF.out _) hB0')).mono ?_; rintro o w2 ⟨rfl, hb2⟩; rw [hg]; exact ⟨rfl, HFn.out _ _ hb2⟩)
            | (go_at_call 84; refine (equalP_any _ _ _ _ B B' _ _ _ (Nat.le_trans hB0 (HF.out _).size) (Nat.le_trans hB0' (HF.out _).size) (R5.out.keep (HF.out _) hB0) (Q5.out.keep (HF.out _) hB0')).mono ?_; rintro o w2 ⟨rfl, hb2⟩; rw [hp]; exact ⟨rfl, HFn.out _ _ hb2⟩))))
  refine wpQuiet_nil ?_
  rintro _ ⟨nq, rfl⟩
  have b := b.trans ((HF.out nq).mono b.size)
  clear f0 f1 f2 f3 f4 f5 f6 g0 g1 g2 g3 g4 g5 g6
  go_wp2
  go_ret
  exact ⟨rfl, b⟩
set_option maxHeartbeats 25600000 in
set_option maxRecDepth 100000 in
theorem scNe4 (d1 : Int) (d2 : Int) (d3 : Int) (d4 : Int) (d5 : List Int) (d6 : List DPut) (x4 : Int) (x5 : List Int) (x6 : List DPut) (hne : ¬ d4 = x4) (A4 A5 A4x A5x : Option Addr) (c4 c5 c4x c5x B B' : Nat) (w : World) (hB : B ≤ w.heap.size) (hB' : B' ≤ w.heap.size) (r4 : RAt intF w B A4 d5) (r5 : RAt fPut w B A5 d6) (q4 : RAt intF w B' A4x x5) (q5 : RAt fPut w B' A5x x6) :
    Calls Try.prog 93 #[.agg #[.int .i64 d1, .int .i64 d2, .int .i64 d3, .int .i64 d4, .slice A4 d5.length c4, .slice A5 d6.length c5], .agg #[.int .i64 d1, .int .i64 d2, .int .i64 d3, .int .i64 x4, .slice A4x x5.length c4x, .slice A5x x6.length c5x]] w fun e w' => e = .returned (.bool false) ∧ Below w.heap.size w w' := by
  go_enter Try.func93, Try.ntmps93
  go_wp2_with fail
  have b := ((Below.refl w.heap.size w).alloc (Nat.le_refl _) (.cells #[.int .i64 d1, .int .i64 d2, .int .i64 d3, .int .i64 d4, .slice A4 d5.length c4, .slice A5 d6.length c5] 95)).alloc (by simp) (.cells #[.int .i64 d1, .int .i64 d2, .int .i64 d3, .int .i64 x4, .slice A4x x5.length c4x, .slice A5x x6.length c5x] 95)
  have X := (Bx.new (w := w) (c := #[.int .i64 d1, .int .i64 d2, .int .i64 d3, .int .i64 d4, .slice A4 d5.length c4, .slice A5 d6.length c5]) (t := 95) rfl).alloc (.cells #[.int .i64 d1, .int .i64 d2, .int .i64 d3, .int .i64 x4, .slice A4x x5.length c4x, .slice A5x x6.length c5x] 95)
  have Y := Bx.new (w := w.alloc (.cells #[.int .i64 d1, .int .i64 d2, .int .i64 d3, .int .i64 d4, .slice A4 d5.length c4, .slice A5 d6.length c5] 95)) (b := w.heap.size + 1) (c := #[.int .i64 d1, .int .i64 d2, .int .i64 d3, .int .i64 x4, .slice A4x x5.length c4x, .slice A5x x6.length c5x]) (t := 95) (by simp)
  generalize (w.alloc (.cells #[.int .i64 d1, .int .i64 d2, .int .i64 d3, .int .i64 d4, .slice A4 d5.length c4, .slice A5 d6.length c5] 95)).alloc (.cells #[.int .i64 d1, .int .i64 d2, .int .i64 d3, .int .i64 x4, .slice A4x x5.length c4x, .slice A5x x6.length c5x] 95) = w1 at b X Y ⊢
  have hB0 : B ≤ w1.heap.size := Nat.le_trans hB b.size
  have hB0' : B' ≤ w1.heap.size := Nat.le_trans hB' b.size
  have R4 := Lib.hid (r4.keep b hB)
  have R5 := Lib.hid (r5.keep b hB)
  have Q4 := Lib.hid (q4.keep b hB')
  have Q5 := Lib.hid (q5.keep b hB')
  clear r4 r5 q4 q5
  obtain ⟨I, F, hI, hF0, hF, hFn⟩ := clsH w1
  have f0 := fun n => ((X.next (hF n)).c6.1).1
  have f1 := fun n => ((X.next (hF n)).c6.1).2.1
  have f2 := fun n => ((X.next (hF n)).c6.1).2.2.1
  have f3 := fun n => ((X.next (hF n)).c6.1).2.2.2.1
  have f4 := fun n => ((X.next (hF n)).c6.1).2.2.2.2.1
  have f5 := fun n => ((X.next (hF n)).c6.1).2.2.2.2.2
  have g0 := fun n => ((Y.next (hF n)).c6.1).1
  have g1 := fun n => ((Y.next (hF n)).c6.1).2.1
  have g2 := fun n => ((Y.next (hF n)).c6.1).2.2.1
  have g3 := fun n => ((Y.next (hF n)).c6.1).2.2.2.1
  have g4 := fun n => ((Y.next (hF n)).c6.1).2.2.2.2.1
  have g5 := fun n => ((Y.next (hF n)).c6.1).2.2.2.2.2
  have f6 := fun n => (X.next (hF n)).lt
  have g6 := fun n => (Y.next (hF n)).lt
  have HFn := Lib.hid hFn
  have HF := Lib.hid hF
  have HF0 := Lib.hid hF0
  clear hFn hF hF0 X Y
  have hg : decide (d5 = x5) = decide (d5 = x5) := rfl
  have hp : decide (d6 = x6) = decide (d6 = x6) := rfl
  refine wp_region_cls (by kernel_rfl) (by kernel_rfl) HF0.out ?_
  repeat (go_big_quiet_step ((first
            | (go_at_call 136; refine (stampOf_any _ _ _ _ _ _ _ _ _ _ _).mono ?_; rintro o w2 ⟨rfl, hb2⟩; exact ⟨rfl, HFn.out _ _ hb2⟩)
            | (go_at_call 83; refine (equalI_any _ _ _ _ B B' _ _ _ (Nat.le_trans hB0 (HF.out _).size) (Nat.le_trans hB0' (HF.out _).size) (R4.out.keep (HF.out _) hB0) (Q4.out.keep (HF.out _) hB0')).mono ?_; rintro o w2 ⟨rfl, hb2⟩; rw [hg]; exact ⟨rfl, HFn.out _ _ hb2⟩)
            | (go_at_call 84; refine (equalP_any _ _ _ _ B B' _ _ _ (Nat.le_trans hB0 (HF.out _).size) (Nat.le_trans hB0' (HF.out _).size) (R5.out.keep (HF.out _) hB0) (Q5.out.keep (HF.out _) hB0')).mono ?_; rintro o w2 ⟨rfl, hb2⟩; rw [hp]; exact ⟨rfl, HFn.out _ _ hb2⟩))))
  refine wpQuiet_nil ?_
  rintro _ ⟨nq, rfl⟩
  have b := b.trans ((HF.out nq).mono b.size)
  clear f0 f1 f2 f3 f4 f5 f6 g0 g1 g2 g3 g4 g5 g6
  go_wp2
  go_ret
  exact ⟨rfl, b⟩
end Go.Proofs.Ytmphiomalhjciaa
