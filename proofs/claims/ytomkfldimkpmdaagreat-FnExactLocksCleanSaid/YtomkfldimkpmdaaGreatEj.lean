/- EngineOk of the program: workerOk. -/
import Derived.Test.YtomkfldimkpmdaaGreatEi
import Derived.Test.YtomkfldimkpmdaaGreatEa
import Derived.Test.YtomkfldimkpmdaaGreatRg
namespace Go.Proofs.YtomkfldimkpmdaaGreat
open Go.RowKit

theorem clsE (w1 : World) : ∃ (I : Type) (F : I → World), Nonempty I ∧ (∃ n, w1.drew = F n) ∧ (∀ n, Below w1.heap.size w1 (F n)) ∧ ∀ n w2, Below (F n).heap.size (F n) w2 → ∃ m, w2 = F m := by
  obtain ⟨I, F, hI, h0, hF, hi⟩ := cls (S := fun W => Below w1.heap.size w1 W) (Below.refl w1.heap.size w1).drew
  exact ⟨I, F, hI, h0, hF, fun n w2 hb => hi w2 ((hF n).trans (hb.mono (hF n).size))⟩
theorem wk_att (K : Int) (x : DWorker) : wkOk K x = (wkHead x && (x.1.all (progIn K) && (attB K x && pcIn x))) := by
  unfold wkOk attB
  cases wkHead x <;> cases x.1.all (progIn K) <;> cases wantsB x.2.2.2.2.2.1 <;> cases x.2.2.2.2.2.1.all (wantIn K) <;> cases x.2.2.2.2.2.2.1.all (seenIn K) <;> cases x.2.2.2.2.2.2.2.1.all (putIn K) <;> simp
theorem head_no {x : DWorker} (h : x.2.1 < 0 ∨ x.2.2.2.1 < 0 ∨ x.2.2.1 < 0 ∨ 5 < x.2.2.1) : wkHead x = false := by
  unfold wkHead inB
  rcases h with h | h | h | h
  · rw [decide_eq_false (show ¬ 0 ≤ x.2.1 by omega), Bool.false_and]
  · rw [decide_eq_false (show ¬ 0 ≤ x.2.2.2.1 by omega), Bool.false_and, Bool.and_false]
  · rw [decide_eq_false (show ¬ 0 ≤ x.2.2.1 by omega), Bool.false_and, Bool.and_false, Bool.and_false]
  · rw [decide_eq_false (show ¬ x.2.2.1 ≤ 5 by omega), Bool.and_false, Bool.and_false, Bool.and_false]
theorem head_yes {x : DWorker} (h1 : ¬ x.2.1 < 0) (h2 : ¬ x.2.2.2.1 < 0) (h3 : ¬ x.2.2.1 < 0) (h4 : ¬ 5 < x.2.2.1) : wkHead x = true := by
  unfold wkHead inB
  rw [decide_eq_true (show 0 ≤ x.2.1 by omega), decide_eq_true (show 0 ≤ x.2.2.2.1 by omega), decide_eq_true (show 0 ≤ x.2.2.1 by omega), decide_eq_true (show x.2.2.1 ≤ 5 by omega)]
  rfl
set_option maxHeartbeats 6400000 in
set_option maxRecDepth 100000 in
theorem implWorkerOk_any (x : DWorker) (K : Int) (B : Nat) (vs : List Value) (w : World) (hs : fWorker.cnt x ≤ 1048576) (hB : B ≤ w.heap.size) (h : fWorker.At w B x vs) :
    Calls Tryz.prog 102 #[.agg vs.toArray, .int .i64 K] w fun e w' => e = .returned (.bool (wkOk K x)) ∧ Below w.heap.size w w' := by
  rw [wk_att]
  obtain ⟨A0, c0, A5, c5, A6, c6, A7, c7, A8, c8, rfl, r0, r5, r6, r7, r8⟩ := at_Worker h
  have HVS := Lib.hid h
  clear h
  by_cases hq : x.2.1 < 0
  · rw [head_no (.inl hq), Bool.false_and]
    go_enter Tryz.func102, Tryz.ntmps102
    go_wp2_with fail
    have b := (Below.refl w.heap.size w).alloc (Nat.le_refl _) (.cells #[.slice A0 (x.1).length c0, .int .i64 x.2.1, .int .i64 x.2.2.1, .int .i64 x.2.2.2.1, .int .i64 x.2.2.2.2.1, .slice A5 (x.2.2.2.2.2.1).length c5, .slice A6 (x.2.2.2.2.2.2.1).length c6, .slice A7 (x.2.2.2.2.2.2.2.1).length c7, .slice A8 (x.2.2.2.2.2.2.2.2).length c8] 73)
    have X := Bx.new (w := w) (c := #[.slice A0 (x.1).length c0, .int .i64 x.2.1, .int .i64 x.2.2.1, .int .i64 x.2.2.2.1, .int .i64 x.2.2.2.2.1, .slice A5 (x.2.2.2.2.2.1).length c5, .slice A6 (x.2.2.2.2.2.2.1).length c6, .slice A7 (x.2.2.2.2.2.2.2.1).length c7, .slice A8 (x.2.2.2.2.2.2.2.2).length c8]) (t := 73) rfl
    generalize w.alloc (.cells #[.slice A0 (x.1).length c0, .int .i64 x.2.1, .int .i64 x.2.2.1, .int .i64 x.2.2.2.1, .int .i64 x.2.2.2.2.1, .slice A5 (x.2.2.2.2.2.1).length c5, .slice A6 (x.2.2.2.2.2.2.1).length c6, .slice A7 (x.2.2.2.2.2.2.2.1).length c7, .slice A8 (x.2.2.2.2.2.2.2.2).length c8] 73) = w1 at b X ⊢
    obtain ⟨⟨x0, x1, x2, x3, x4, x5, x6, x7, x8⟩, _⟩ := X.c9
    have Xl := X.lt
    go_wp2
    go_ret
    exact ⟨rfl, b⟩
  have hq0 := hq
  clear hq
  by_cases hq : x.2.2.2.1 < 0
  · rw [head_no (.inr (.inl hq)), Bool.false_and]
    go_enter Tryz.func102, Tryz.ntmps102
    go_wp2_with fail
    have b := (Below.refl w.heap.size w).alloc (Nat.le_refl _) (.cells #[.slice A0 (x.1).length c0, .int .i64 x.2.1, .int .i64 x.2.2.1, .int .i64 x.2.2.2.1, .int .i64 x.2.2.2.2.1, .slice A5 (x.2.2.2.2.2.1).length c5, .slice A6 (x.2.2.2.2.2.2.1).length c6, .slice A7 (x.2.2.2.2.2.2.2.1).length c7, .slice A8 (x.2.2.2.2.2.2.2.2).length c8] 73)
    have X := Bx.new (w := w) (c := #[.slice A0 (x.1).length c0, .int .i64 x.2.1, .int .i64 x.2.2.1, .int .i64 x.2.2.2.1, .int .i64 x.2.2.2.2.1, .slice A5 (x.2.2.2.2.2.1).length c5, .slice A6 (x.2.2.2.2.2.2.1).length c6, .slice A7 (x.2.2.2.2.2.2.2.1).length c7, .slice A8 (x.2.2.2.2.2.2.2.2).length c8]) (t := 73) rfl
    generalize w.alloc (.cells #[.slice A0 (x.1).length c0, .int .i64 x.2.1, .int .i64 x.2.2.1, .int .i64 x.2.2.2.1, .int .i64 x.2.2.2.2.1, .slice A5 (x.2.2.2.2.2.1).length c5, .slice A6 (x.2.2.2.2.2.2.1).length c6, .slice A7 (x.2.2.2.2.2.2.2.1).length c7, .slice A8 (x.2.2.2.2.2.2.2.2).length c8] 73) = w1 at b X ⊢
    obtain ⟨⟨x0, x1, x2, x3, x4, x5, x6, x7, x8⟩, _⟩ := X.c9
    have Xl := X.lt
    go_wp2
    go_ret
    exact ⟨rfl, b⟩
  have hq1 := hq
  clear hq
  by_cases hq : x.2.2.1 < 0
  · rw [head_no (.inr (.inr (.inl hq))), Bool.false_and]
    go_enter Tryz.func102, Tryz.ntmps102
    go_wp2_with fail
    have b := (Below.refl w.heap.size w).alloc (Nat.le_refl _) (.cells #[.slice A0 (x.1).length c0, .int .i64 x.2.1, .int .i64 x.2.2.1, .int .i64 x.2.2.2.1, .int .i64 x.2.2.2.2.1, .slice A5 (x.2.2.2.2.2.1).length c5, .slice A6 (x.2.2.2.2.2.2.1).length c6, .slice A7 (x.2.2.2.2.2.2.2.1).length c7, .slice A8 (x.2.2.2.2.2.2.2.2).length c8] 73)
    have X := Bx.new (w := w) (c := #[.slice A0 (x.1).length c0, .int .i64 x.2.1, .int .i64 x.2.2.1, .int .i64 x.2.2.2.1, .int .i64 x.2.2.2.2.1, .slice A5 (x.2.2.2.2.2.1).length c5, .slice A6 (x.2.2.2.2.2.2.1).length c6, .slice A7 (x.2.2.2.2.2.2.2.1).length c7, .slice A8 (x.2.2.2.2.2.2.2.2).length c8]) (t := 73) rfl
    generalize w.alloc (.cells #[.slice A0 (x.1).length c0, .int .i64 x.2.1, .int .i64 x.2.2.1, .int .i64 x.2.2.2.1, .int .i64 x.2.2.2.2.1, .slice A5 (x.2.2.2.2.2.1).length c5, .slice A6 (x.2.2.2.2.2.2.1).length c6, .slice A7 (x.2.2.2.2.2.2.2.1).length c7, .slice A8 (x.2.2.2.2.2.2.2.2).length c8] 73) = w1 at b X ⊢
    obtain ⟨⟨x0, x1, x2, x3, x4, x5, x6, x7, x8⟩, _⟩ := X.c9
    have Xl := X.lt
    go_wp2
    go_ret
    exact ⟨rfl, b⟩
  have hq2 := hq
  clear hq
  by_cases hq : 5 < x.2.2.1
  · rw [head_no (.inr (.inr (.inr hq))), Bool.false_and]
    go_enter Tryz.func102, Tryz.ntmps102
    go_wp2_with fail
    have b := (Below.refl w.heap.size w).alloc (Nat.le_refl _) (.cells #[.slice A0 (x.1).length c0, .int .i64 x.2.1, .int .i64 x.2.2.1, .int .i64 x.2.2.2.1, .int .i64 x.2.2.2.2.1, .slice A5 (x.2.2.2.2.2.1).length c5, .slice A6 (x.2.2.2.2.2.2.1).length c6, .slice A7 (x.2.2.2.2.2.2.2.1).length c7, .slice A8 (x.2.2.2.2.2.2.2.2).length c8] 73)
    have X := Bx.new (w := w) (c := #[.slice A0 (x.1).length c0, .int .i64 x.2.1, .int .i64 x.2.2.1, .int .i64 x.2.2.2.1, .int .i64 x.2.2.2.2.1, .slice A5 (x.2.2.2.2.2.1).length c5, .slice A6 (x.2.2.2.2.2.2.1).length c6, .slice A7 (x.2.2.2.2.2.2.2.1).length c7, .slice A8 (x.2.2.2.2.2.2.2.2).length c8]) (t := 73) rfl
    generalize w.alloc (.cells #[.slice A0 (x.1).length c0, .int .i64 x.2.1, .int .i64 x.2.2.1, .int .i64 x.2.2.2.1, .int .i64 x.2.2.2.2.1, .slice A5 (x.2.2.2.2.2.1).length c5, .slice A6 (x.2.2.2.2.2.2.1).length c6, .slice A7 (x.2.2.2.2.2.2.2.1).length c7, .slice A8 (x.2.2.2.2.2.2.2.2).length c8] 73) = w1 at b X ⊢
    obtain ⟨⟨x0, x1, x2, x3, x4, x5, x6, x7, x8⟩, _⟩ := X.c9
    have Xl := X.lt
    go_wp2
    go_ret
    exact ⟨rfl, b⟩
  have hq3 := hq
  clear hq
  rw [head_yes hq0 hq1 hq2 hq3, Bool.true_and]
  go_enter Tryz.func102, Tryz.ntmps102
  go_wp2_with fail
  have b := (Below.refl w.heap.size w).alloc (Nat.le_refl _) (.cells #[.slice A0 (x.1).length c0, .int .i64 x.2.1, .int .i64 x.2.2.1, .int .i64 x.2.2.2.1, .int .i64 x.2.2.2.2.1, .slice A5 (x.2.2.2.2.2.1).length c5, .slice A6 (x.2.2.2.2.2.2.1).length c6, .slice A7 (x.2.2.2.2.2.2.2.1).length c7, .slice A8 (x.2.2.2.2.2.2.2.2).length c8] 73)
  have X := Bx.new (w := w) (c := #[.slice A0 (x.1).length c0, .int .i64 x.2.1, .int .i64 x.2.2.1, .int .i64 x.2.2.2.1, .int .i64 x.2.2.2.2.1, .slice A5 (x.2.2.2.2.2.1).length c5, .slice A6 (x.2.2.2.2.2.2.1).length c6, .slice A7 (x.2.2.2.2.2.2.2.1).length c7, .slice A8 (x.2.2.2.2.2.2.2.2).length c8]) (t := 73) rfl
  generalize w.alloc (.cells #[.slice A0 (x.1).length c0, .int .i64 x.2.1, .int .i64 x.2.2.1, .int .i64 x.2.2.2.1, .int .i64 x.2.2.2.2.1, .slice A5 (x.2.2.2.2.2.1).length c5, .slice A6 (x.2.2.2.2.2.2.1).length c6, .slice A7 (x.2.2.2.2.2.2.2.1).length c7, .slice A8 (x.2.2.2.2.2.2.2.2).length c8] 73) = w1 at b X ⊢
  obtain ⟨⟨x0, x1, x2, x3, x4, x5, x6, x7, x8⟩, _⟩ := X.c9
  have Xl := X.lt
  go_wp2_with fail
  clear x0 x1 x2 x3 x4 x5 x6 x7 x8 Xl
  refine (implProgsOk_any A0 c0 B x.1 K _ (Nat.le_trans hB b.size) (r0.keep b hB)).mono ?_; rintro o w2 ⟨rfl, hb⟩
  have X := X.next hb
  have b := b.trans (hb.mono b.size)
  clear hb
  obtain ⟨⟨x0, x1, x2, x3, x4, x5, x6, x7, x8⟩, _⟩ := X.c9
  have Xl := X.lt
  cases hp : x.1.all (progIn K) with
  | false =>
    go_wp2
    go_ret
    exact ⟨ret_bool (by rw [hp]; rfl), b⟩
  | true =>
    go_wp2_with fail
    clear x0 x1 x2 x3 x4 x5 x6 x7 x8 Xl
    refine (implAttemptOk_any x K B _ _ hs (Nat.le_trans hB b.size) (fWorker.at_same HVS.out (.of b hB))).mono ?_; rintro o w3 ⟨rfl, hb⟩
    have X := X.next hb
    have b := b.trans (hb.mono b.size)
    clear hb
    obtain ⟨⟨x0, x1, x2, x3, x4, x5, x6, x7, x8⟩, _⟩ := X.c9
    have Xl := X.lt
    cases ha : attB K x with
    | false =>
      go_wp2
      go_ret
      exact ⟨ret_bool (by rw [hp, ha]; rfl), b⟩
    | true =>
      go_wp2_with fail
      clear x0 x1 x2 x3 x4 x5 x6 x7 x8 Xl
      obtain ⟨I, F, hI, hF0, hF, hFn⟩ := clsE w3
      have hBw : B ≤ w3.heap.size := Nat.le_trans hB b.size
      have hat3 := fWorker.at_same HVS.out (.of b hB)
      have r03 := r0.keep b hB
      have f0 := fun n => ((X.next (hF n)).c9.1).1
      have f1 := fun n => ((X.next (hF n)).c9.1).2.1
      have f2 := fun n => ((X.next (hF n)).c9.1).2.2.1
      have f3 := fun n => ((X.next (hF n)).c9.1).2.2.2.1
      have f4 := fun n => ((X.next (hF n)).c9.1).2.2.2.2.1
      have f5 := fun n => ((X.next (hF n)).c9.1).2.2.2.2.2.1
      have f6 := fun n => ((X.next (hF n)).c9.1).2.2.2.2.2.2.1
      have f7 := fun n => ((X.next (hF n)).c9.1).2.2.2.2.2.2.2.1
      have f8 := fun n => ((X.next (hF n)).c9.1).2.2.2.2.2.2.2.2
      have f9 := fun n => (X.next (hF n)).lt
      have HAT := Lib.hid (fun n => fWorker.at_same hat3 (.of (hF n) hBw))
      have HFn := Lib.hid hFn
      have HF := Lib.hid hF
      have HF0 := Lib.hid hF0
      clear hFn hF0 X hat3
      cases hd : doneW x with
      | true =>
        have HPC := Lib.hid (show pcIn x = true by
          have h1 : decide ((x.1.length : Int) ≤ x.2.1) = true := hd
          unfold pcIn
          rw [h1]
          simp)
        clear hF
        refine wp_region_cls (by kernel_rfl) (by kernel_rfl) HF0.out ?_
        repeat (go_big_quiet_step ((go_at_call 106; refine (implDone_any x B _ _ (HAT.out _)).mono ?_; rintro o w2 ⟨rfl, hb2⟩; rw [hd]; exact ⟨rfl, HFn.out _ _ hb2⟩)))
        refine wpQuiet_nil ?_
        rintro _ ⟨nq, rfl⟩
        have b := b.trans ((HF.out nq).mono b.size)
        clear f0 f1 f2 f3 f4 f5 f6 f7 f8 f9
        go_wp2
        go_ret
        exact ⟨ret_bool (by first | (rw [HPC.out]; done) | (rw [hp, ha, HPC.out]; rfl) | simp_all), b⟩
      | false =>
        have hnd : ¬ (x.1.length : Int) ≤ x.2.1 := of_decide_eq_false hd
        by_cases h2 : x.2.2.1 = 2
        case neg =>
          have hbn : (x.2.2.1 != 2) = true := by simpa using h2
          have HPC := Lib.hid (show pcIn x = true by
            unfold pcIn
            rw [decide_eq_false h2]
            simp)
          clear hF
          refine wp_region_cls (by kernel_rfl) (by kernel_rfl) HF0.out ?_
          repeat (go_big_quiet_step ((go_at_call 106; refine (implDone_any x B _ _ (HAT.out _)).mono ?_; rintro o w2 ⟨rfl, hb2⟩; rw [hd]; exact ⟨rfl, HFn.out _ _ hb2⟩)))
          refine wpQuiet_nil ?_
          rintro _ ⟨nq, rfl⟩
          have b := b.trans ((HF.out nq).mono b.size)
          clear f0 f1 f2 f3 f4 f5 f6 f7 f8 f9
          go_wp2
          go_ret
          exact ⟨ret_bool (by first | (rw [HPC.out]; done) | (rw [hp, ha, HPC.out]; rfl) | simp_all), b⟩
        have hbn : (x.2.2.1 != 2) = false := by simp [h2]
        obtain ⟨t, ht⟩ : ∃ t : Nat, x.2.1 = (t : Int) := ⟨x.2.1.toNat, by omega⟩
        obtain ⟨b0, off0, eA, hb0, hc0⟩ := r03.2 (by omega)
        have hget : x.1[t]? = some x.1[t] := List.getElem?_eq_getElem (by omega)
        obtain ⟨v, hv, Ap, cp, ev, rp⟩ := hc0 t _ hget
        subst ev
        subst eA
        have a0 := hv.c1
        rw [show (rowF fAct).n = 1 from rfl, Nat.mul_one] at a0
        have f10 := fun n => ((hF n).cell (p := ⟨b0, off0 + t, none⟩) (by show b0 < _; omega)).trans a0
        have e : pcIn x = decide (x.2.2.2.1 < (x.1[t].length : Int)) := by
          unfold pcIn
          rw [decide_eq_true h2, decide_eq_false hnd, ht, show (t : Int).toNat = t from rfl, List.getD_eq_getElem?_getD, hget]
          rfl
        have hpm := rp.1
        unfold maxLen at hpm
        have htl : (t : Int) < x.1.length := by omega
        generalize x.1[t].length = m at f10 hpm e
        have HEE := Lib.hid e
        rw [ht] at f1
        rw [h2] at f2
        have HAT := Lib.hid (fun n => by
          have h := HAT.out n
          rw [ht, h2] at h
          exact h)
        clear hF hc0 hget hv a0 e rp
        by_cases hm : x.2.2.2.1 < (m : Int)
        · have HPC := Lib.hid (HEE.out.trans (decide_eq_true hm))
          refine wp_region_cls (by kernel_rfl) (by kernel_rfl) HF0.out ?_
          repeat (go_big_quiet_step ((go_at_call 106; refine (implDone_any x B _ _ (HAT.out _)).mono ?_; rintro o w2 ⟨rfl, hb2⟩; rw [hd]; exact ⟨rfl, HFn.out _ _ hb2⟩)))
          refine wpQuiet_nil ?_
          rintro _ ⟨nq, rfl⟩
          have b := b.trans ((HF.out nq).mono b.size)
          clear f0 f1 f2 f3 f4 f5 f6 f7 f8 f9 f10
          go_wp2
          go_ret
          exact ⟨ret_bool (by first | (rw [HPC.out]; done) | (rw [hp, ha, HPC.out]; rfl) | simp_all), b⟩
        · have HPC := Lib.hid (HEE.out.trans (decide_eq_false hm))
          refine wp_region_cls (by kernel_rfl) (by kernel_rfl) HF0.out ?_
          repeat (go_big_quiet_step ((go_at_call 106; refine (implDone_any x B _ _ (HAT.out _)).mono ?_; rintro o w2 ⟨rfl, hb2⟩; rw [hd]; exact ⟨rfl, HFn.out _ _ hb2⟩)))
          refine wpQuiet_nil ?_
          rintro _ ⟨nq, rfl⟩
          have b := b.trans ((HF.out nq).mono b.size)
          clear f0 f1 f2 f3 f4 f5 f6 f7 f8 f9 f10
          go_wp2
          go_ret
          exact ⟨ret_bool (by first | (rw [HPC.out]; done) | (rw [hp, ha, HPC.out]; rfl) | simp_all), b⟩
theorem eng_1 {d : DEngine} (h : setupB d.1 = false) : engOk d = false := by unfold engOk engHead; rw [h]; rfl
theorem eng_2 {d : DEngine} (h : tabOk (toT d.2.1) = false) : engOk d = false := by unfold engOk engHead; rw [h]; simp
theorem eng_3 {d : DEngine} (h : ¬ (d.2.1.length : Int) = d.1.1) : engOk d = false := by unfold engOk engHead; rw [decide_eq_false h]; simp
theorem eng_4 {d : DEngine} (h : ¬ (d.2.2.1.length : Int) ≤ 4) : engOk d = false := by unfold engOk engHead; rw [decide_eq_false h]; simp
theorem eng_5 {d : DEngine} (h : heatB d.2.2.2.1.length (fun j => d.2.2.2.1.getD j 0) = false) : engOk d = false := by unfold engOk engHead; rw [h]; simp
theorem eng_6 {d : DEngine} (h : d.2.2.2.2.1 < 0) : engOk d = false := by unfold engOk engHead; rw [decide_eq_false (show ¬ 0 ≤ d.2.2.2.2.1 by omega)]; simp
theorem eng_7 {d : DEngine} (h : inB d.2.2.2.2.2.1 (-1) ((d.2.2.1.length : Int) - 1) = false) : engOk d = false := by unfold engOk engHead; rw [h]; simp
theorem eng_8 {d : DEngine} {k : Nat} {x : DWorker} (hg : d.2.2.1[k]? = some x) (h : wkOk d.1.1 x = false) : engOk d = false := by unfold engOk; rw [all_noE hg h, Bool.and_false]
theorem eng_9 {d : DEngine} (h1 : setupB d.1 = true) (h2 : tabOk (toT d.2.1) = true) (h3 : (d.2.1.length : Int) = d.1.1) (h4 : (d.2.2.1.length : Int) ≤ 4) (h5 : heatB d.2.2.2.1.length (fun j => d.2.2.2.1.getD j 0) = true)
    (h6 : ¬ d.2.2.2.2.1 < 0) (h7 : inB d.2.2.2.2.2.1 (-1) ((d.2.2.1.length : Int) - 1) = true) (h8 : ∀ j x, j < d.2.2.1.length → d.2.2.1[j]? = some x → wkOk d.1.1 x = true) : engOk d = true := by
  unfold engOk engHead
  rw [h1, h2, decide_eq_true h3, decide_eq_true h4, h5, decide_eq_true (show 0 ≤ d.2.2.2.2.1 by omega), h7, all_yesE h8]
  rfl
end Go.Proofs.YtomkfldimkpmdaaGreat
