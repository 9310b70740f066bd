/- Wait graphs: OrderKept of the model and of the program. -/
import Derived.Test.YtomkfldimkpmdaaGreatEk
import Derived.Test.YtomkfldimkpmdaaGreatEs
import Derived.Test.YtomkfldimkpmdaaGreatKxu
import Derived.Test.YtomkfldimkpmdaaGreatVmu
namespace Go.Proofs.YtomkfldimkpmdaaGreat
open Go.RowKit

def okAt (T : TL) (tid : Int) : Bool := decide (waitK T tid < 0) || belowB (heldL T tid).length (fun i => (heldL T tid).getD i 0) (waitK T tid)
def orderB (d : DEngine) : Bool := engOk d && (List.range d.2.2.1.length).all fun j => okAt (toT d.2.1) ((j : Int) + 1)
theorem order_no {d : DEngine} (h : engOk d = false) : orderB d = false := by simp [orderB, h]
theorem order_yes {d : DEngine} (h : engOk d = true) (ha : ∀ j, j < d.2.2.1.length → okAt (toT d.2.1) ((j : Int) + 1) = true) : orderB d = true := by
  unfold orderB
  rw [h, Bool.true_and, List.all_eq_true]
  intro j hj
  exact ha j (List.mem_range.1 hj)
theorem order_bad {d : DEngine} {k : Nat} (hk : k < d.2.2.1.length) (h : okAt (toT d.2.1) ((k : Int) + 1) = false) : orderB d = false := by
  unfold orderB
  rw [Bool.and_eq_false_iff]
  refine .inr ?_
  rw [Bool.eq_false_iff]
  intro ha
  rw [List.all_eq_true] at ha
  rw [ha k (List.mem_range.2 hk)] at h
  cases h
theorem implWaitsD (A : Option Addr) (c B : Nat) (l : List DCell) (tid : Int) (w : World) (hs : (rowF fCell).cnt l ≤ 1048576) (hB : B ≤ w.heap.size) (r : RAt fCell w B A l) :
    Calls Tryz.prog 64 #[.agg #[.slice A l.length c], .int .i64 tid] w fun e w' => e = .returned (.int .i64 (waitK (toT l) tid)) ∧ Below w.heap.size w w' := by
  have h := implWaits_any A c B (toT l) tid w (tab_fit hs) hB (tab_at r)
  rwa [toT_len] at h
theorem implHeldD (A : Option Addr) (c B : Nat) (l : List DCell) (tid : Int) (w : World) (hs : (rowF fCell).cnt l ≤ 1048576) (hB : B ≤ w.heap.size) (r : RAt fCell w B A l) :
    Calls Tryz.prog 66 #[.agg #[.slice A l.length c], .int .i64 tid] w (RetI w (heldL (toT l) tid)) := by
  have h := implHeld_any A c B (toT l) tid w (tab_fit hs) hB (tab_at r)
  rwa [toT_len] at h
theorem specWaitsD (A : Option Addr) (c B : Nat) (l : List DCell) (tid : Int) (w : World) (hs : (rowF fCell).cnt l ≤ 1048576) (hB : B ≤ w.heap.size) (r : RAt fCell w B A l) :
    Calls Tryz.prog 61 #[.agg #[.slice A l.length c], .int .i64 tid] w fun e w' => e = .returned (.int .i64 (waitK (toT l) tid)) ∧ Below w.heap.size w w' := by
  have h := specWaits_any A c B (toT l) tid w (tab_fit hs) hB (tab_at r)
  rwa [toT_len] at h
theorem specHeldD (A : Option Addr) (c B : Nat) (l : List DCell) (tid : Int) (w : World) (hs : (rowF fCell).cnt l ≤ 1048576) (hB : B ≤ w.heap.size) (r : RAt fCell w B A l) :
    Calls Tryz.prog 63 #[.agg #[.slice A l.length c], .int .i64 tid] w (RetI w (heldL (toT l) tid)) := by
  have h := specHeld_any A c B (toT l) tid w (tab_fit hs) hB (tab_at r)
  rwa [toT_len] at h
set_option maxHeartbeats 6400000 in
set_option maxRecDepth 100000 in
theorem implOrder_any (d : DEngine) (B : Nat) (vs : List Value) (w : World) (hs : fEngine.cnt d ≤ 1048576) (hB : B ≤ w.heap.size) (h : fEngine.At w B d vs) :
    Calls Tryz.prog 20 #[.agg vs.toArray] w fun e w' => e = .returned (.bool (orderB d)) ∧ Below w.heap.size w w' := by
  obtain ⟨A5, c5, A6, c6, A7, c7, A10, c10, rfl, r5, r6, r7, r10⟩ := at_Engine h
  have hct := cnt_Engine d
  have hc2 := cnt_Table d.2.1
  have hc3 : (rowF fCell).cnt d.2.1 ≤ 1048576 := by omega
  have hmx := r6.1
  unfold maxLen at hmx
  have HAT := Lib.hid h
  clear hct hc2 h
  go_enter Tryz.func20, Tryz.ntmps20
  go_wp2_with fail
  have b := (Below.refl w.heap.size w).alloc (Nat.le_refl _) (.cells #[.int .i64 d.1.1, .int .i64 d.1.2.1, .int .i64 d.1.2.2.1, .bool d.1.2.2.2.1, .int .i64 d.1.2.2.2.2, .slice A5 (d.2.1).length c5, .slice A6 (d.2.2.1).length c6, .slice A7 (d.2.2.2.1).length c7, .int .i64 d.2.2.2.2.1, .int .i64 d.2.2.2.2.2.1, .slice A10 (d.2.2.2.2.2.2.1).length c10, .int .i64 d.2.2.2.2.2.2.2.1, .int .i64 d.2.2.2.2.2.2.2.2] 41)
  have X := Bx.new (w := w) (c := #[.int .i64 d.1.1, .int .i64 d.1.2.1, .int .i64 d.1.2.2.1, .bool d.1.2.2.2.1, .int .i64 d.1.2.2.2.2, .slice A5 (d.2.1).length c5, .slice A6 (d.2.2.1).length c6, .slice A7 (d.2.2.2.1).length c7, .int .i64 d.2.2.2.2.1, .int .i64 d.2.2.2.2.2.1, .slice A10 (d.2.2.2.2.2.2.1).length c10, .int .i64 d.2.2.2.2.2.2.2.1, .int .i64 d.2.2.2.2.2.2.2.2]) (t := 41) rfl
  generalize w.alloc (.cells #[.int .i64 d.1.1, .int .i64 d.1.2.1, .int .i64 d.1.2.2.1, .bool d.1.2.2.2.1, .int .i64 d.1.2.2.2.2, .slice A5 (d.2.1).length c5, .slice A6 (d.2.2.1).length c6, .slice A7 (d.2.2.2.1).length c7, .int .i64 d.2.2.2.2.1, .int .i64 d.2.2.2.2.2.1, .slice A10 (d.2.2.2.2.2.2.1).length c10, .int .i64 d.2.2.2.2.2.2.2.1, .int .i64 d.2.2.2.2.2.2.2.2] 41) = w1 at b X ⊢
  obtain ⟨⟨x0, x1, x2, x3, x4, x5, x6, x7, x8, x9, x10, x11, x12⟩, _⟩ := X.c13
  have Xl := X.lt
  go_wp2_with fail
  clear x0 x1 x2 x3 x4 x5 x6 x7 x8 x9 x10 x11 x12 Xl
  (with_reducible refine (implEngineOk_any d B _ _ hs (Nat.le_trans hB b.size) (fEngine.at_same HAT.out (.of b hB))).mono ?_); rintro o w2 ⟨rfl, hb⟩
  have X := X.next hb
  have b := b.trans (hb.mono b.size)
  clear hb
  obtain ⟨⟨x0, x1, x2, x3, x4, x5, x6, x7, x8, x9, x10, x11, x12⟩, _⟩ := X.c13
  have Xl := X.lt
  cases h1 : engOk d with
  | false =>
    have HF := Lib.hid (order_no h1)
    go_wp2
    go_ret
    exact ⟨ret_bool HF.out.symm, b⟩
  | true =>
    have H1 := Lib.hid h1
    clear h1
    go_wp2_with fail
    go_loopw [11] (fun i wr => ∃ k : Nat, k ≤ d.2.2.1.length ∧ i = .int .i64 k ∧ Below w.heap.size w wr ∧ Bx wr w.heap.size [.int .i64 d.1.1, .int .i64 d.1.2.1, .int .i64 d.1.2.2.1, .bool d.1.2.2.2.1, .int .i64 d.1.2.2.2.2, .slice A5 (d.2.1).length c5, .slice A6 (d.2.2.1).length c6, .slice A7 (d.2.2.2.1).length c7, .int .i64 d.2.2.2.2.1, .int .i64 d.2.2.2.2.2.1, .slice A10 (d.2.2.2.2.2.2.1).length c10, .int .i64 d.2.2.2.2.2.2.2.1, .int .i64 d.2.2.2.2.2.2.2.2] ∧ Hid (∀ j, j < k → okAt (toT d.2.1) ((j : Int) + 1) = true)) (fun i _ => d.2.2.1.length - (intOf i).toNat)
    case atStart => exact ⟨0, Nat.zero_le _, rfl, b, X, Lib.hid (fun j hj => absurd hj (by omega))⟩
    case round =>
      clear x0 x1 x2 x3 x4 x5 x6 x7 x8 x9 x10 x11 x12 Xl X b
      obtain ⟨k, hk, rfl, b, X, HA⟩ := hrel
      obtain ⟨⟨x0, x1, x2, x3, x4, x5, x6, x7, x8, x9, x10, x11, x12⟩, _⟩ := X.c13
      have Xl := X.lt
      by_cases hkn : k < d.2.2.1.length
      · have hkz : (k : Int) < d.2.2.1.length := by omega
        go_wp2_with fail
        clear x0 x1 x2 x3 x4 x5 x6 x7 x8 x9 x10 x11 x12 Xl
        (with_reducible refine (implWaitsD A5 c5 B d.2.1 ((k : Int) + 1) _ hc3 (Nat.le_trans hB b.size) (r5.keep b hB)).mono ?_); rintro o w3 ⟨rfl, hb⟩
        have X := X.next hb
        have b := b.trans (hb.mono b.size)
        clear hb
        obtain ⟨⟨x0, x1, x2, x3, x4, x5, x6, x7, x8, x9, x10, x11, x12⟩, _⟩ := X.c13
        have Xl := X.lt
        have HO := Lib.hid (show okAt (toT d.2.1) ((k : Int) + 1) = (decide (waitK (toT d.2.1) ((k : Int) + 1) < 0) || belowB (heldL (toT d.2.1) ((k : Int) + 1)).length (fun i => (heldL (toT d.2.1) ((k : Int) + 1)).getD i 0) (waitK (toT d.2.1) ((k : Int) + 1))) from rfl)
        generalize waitK (toT d.2.1) ((k : Int) + 1) = z at HO ⊢
        by_cases hz : 0 ≤ z
        · go_wp2_with fail
          clear x0 x1 x2 x3 x4 x5 x6 x7 x8 x9 x10 x11 x12 Xl
          (with_reducible refine (implHeldD A5 c5 B d.2.1 ((k : Int) + 1) _ hc3 (Nat.le_trans hB b.size) (r5.keep b hB)).mono ?_); rintro o w4 ⟨Ah, ch, rfl, OI, hb⟩
          have X := X.next hb
          have b := b.trans (hb.mono b.size)
          clear hb
          obtain ⟨⟨x0, x1, x2, x3, x4, x5, x6, x7, x8, x9, x10, x11, x12⟩, _⟩ := X.c13
          have Xl := X.lt
          have hhl := heldL_len (toT d.2.1) ((k : Int) + 1)
          have OI := Lib.hid OI
          go_wp2_with fail
          clear x0 x1 x2 x3 x4 x5 x6 x7 x8 x9 x10 x11 x12 Xl
          (with_reducible refine (implInOrder_any Ah _ ch _ _ z _ (by omega) OI.out.at_).mono ?_); rintro o w5 ⟨rfl, hb⟩
          have X := X.next hb
          have b := b.trans (hb.mono b.size)
          clear hb
          obtain ⟨⟨x0, x1, x2, x3, x4, x5, x6, x7, x8, x9, x10, x11, x12⟩, _⟩ := X.c13
          have Xl := X.lt
          cases ho : belowB (heldL (toT d.2.1) ((k : Int) + 1)).length (fun i => (heldL (toT d.2.1) ((k : Int) + 1)).getD i 0) z with
          | true =>
            have HA := Lib.hid (show ∀ j, j < k + 1 → okAt (toT d.2.1) ((j : Int) + 1) = true from fun j hj => by
              by_cases e : j = k
              · subst e; rw [HO.out, ho]; simp
              · exact HA.out j (by omega))
            clear ho HO OI
            go_wp2
            exact ⟨⟨k + 1, by omega, by go_num, b, X, HA⟩, by simp [intOf]; omega⟩
          | false =>
            have HF := Lib.hid (order_bad (d := d) hkn (by rw [HO.out, ho]; simp; omega))
            clear ho HO OI
            go_wp2
            go_ret
            exact ⟨ret_bool HF.out.symm, b⟩
        · have HA := Lib.hid (show ∀ j, j < k + 1 → okAt (toT d.2.1) ((j : Int) + 1) = true from fun j hj => by
            by_cases e : j = k
            · subst e; rw [HO.out]; simp; exact .inl (by omega)
            · exact HA.out j (by omega))
          clear HO
          go_wp2
          exact ⟨⟨k + 1, by omega, by go_num, b, X, HA⟩, by simp [intOf]; omega⟩
      · obtain rfl : k = d.2.2.1.length := by omega
        have HT := Lib.hid (order_yes H1.out HA.out)
        go_wp2
        go_ret
        exact ⟨ret_bool HT.out.symm, b⟩
set_option maxHeartbeats 6400000 in
set_option maxRecDepth 100000 in
theorem specOrder_any (d : DEngine) (B : Nat) (vs : List Value) (w : World) (hs : fEngine.cnt d ≤ 1048576) (hB : B ≤ w.heap.size) (h : fEngine.At w B d vs) :
    Calls Tryz.prog 19 #[.agg vs.toArray] w fun e w' => e = .returned (.bool (orderB d)) ∧ Below w.heap.size w w' := by
  obtain ⟨A5, c5, A6, c6, A7, c7, A10, c10, rfl, r5, r6, r7, r10⟩ := at_Engine h
  have hct := cnt_Engine d
  have hc2 := cnt_Table d.2.1
  have hc3 : (rowF fCell).cnt d.2.1 ≤ 1048576 := by omega
  have hmx := r6.1
  unfold maxLen at hmx
  have HAT := Lib.hid h
  clear hct hc2 h
  go_enter Tryz.func19, Tryz.ntmps19
  go_wp2_with fail
  have b := (Below.refl w.heap.size w).alloc (Nat.le_refl _) (.cells #[.int .i64 d.1.1, .int .i64 d.1.2.1, .int .i64 d.1.2.2.1, .bool d.1.2.2.2.1, .int .i64 d.1.2.2.2.2, .slice A5 (d.2.1).length c5, .slice A6 (d.2.2.1).length c6, .slice A7 (d.2.2.2.1).length c7, .int .i64 d.2.2.2.2.1, .int .i64 d.2.2.2.2.2.1, .slice A10 (d.2.2.2.2.2.2.1).length c10, .int .i64 d.2.2.2.2.2.2.2.1, .int .i64 d.2.2.2.2.2.2.2.2] 41)
  have X := Bx.new (w := w) (c := #[.int .i64 d.1.1, .int .i64 d.1.2.1, .int .i64 d.1.2.2.1, .bool d.1.2.2.2.1, .int .i64 d.1.2.2.2.2, .slice A5 (d.2.1).length c5, .slice A6 (d.2.2.1).length c6, .slice A7 (d.2.2.2.1).length c7, .int .i64 d.2.2.2.2.1, .int .i64 d.2.2.2.2.2.1, .slice A10 (d.2.2.2.2.2.2.1).length c10, .int .i64 d.2.2.2.2.2.2.2.1, .int .i64 d.2.2.2.2.2.2.2.2]) (t := 41) rfl
  generalize w.alloc (.cells #[.int .i64 d.1.1, .int .i64 d.1.2.1, .int .i64 d.1.2.2.1, .bool d.1.2.2.2.1, .int .i64 d.1.2.2.2.2, .slice A5 (d.2.1).length c5, .slice A6 (d.2.2.1).length c6, .slice A7 (d.2.2.2.1).length c7, .int .i64 d.2.2.2.2.1, .int .i64 d.2.2.2.2.2.1, .slice A10 (d.2.2.2.2.2.2.1).length c10, .int .i64 d.2.2.2.2.2.2.2.1, .int .i64 d.2.2.2.2.2.2.2.2] 41) = w1 at b X ⊢
  obtain ⟨⟨x0, x1, x2, x3, x4, x5, x6, x7, x8, x9, x10, x11, x12⟩, _⟩ := X.c13
  have Xl := X.lt
  go_wp2_with fail
  clear x0 x1 x2 x3 x4 x5 x6 x7 x8 x9 x10 x11 x12 Xl
  (with_reducible refine (specEngineOk_any d B _ _ hs (Nat.le_trans hB b.size) (fEngine.at_same HAT.out (.of b hB))).mono ?_); rintro o w2 ⟨rfl, hb⟩
  have X := X.next hb
  have b := b.trans (hb.mono b.size)
  clear hb
  obtain ⟨⟨x0, x1, x2, x3, x4, x5, x6, x7, x8, x9, x10, x11, x12⟩, _⟩ := X.c13
  have Xl := X.lt
  cases h1 : engOk d with
  | false =>
    have HF := Lib.hid (order_no h1)
    go_wp2
    go_ret
    exact ⟨ret_bool HF.out.symm, b⟩
  | true =>
    have H1 := Lib.hid h1
    clear h1
    go_wp2_with fail
    go_loopw [3] (fun i wr => ∃ k : Nat, k ≤ d.2.2.1.length ∧ i = .int .i64 k ∧ Below w.heap.size w wr ∧ Bx wr w.heap.size [.int .i64 d.1.1, .int .i64 d.1.2.1, .int .i64 d.1.2.2.1, .bool d.1.2.2.2.1, .int .i64 d.1.2.2.2.2, .slice A5 (d.2.1).length c5, .slice A6 (d.2.2.1).length c6, .slice A7 (d.2.2.2.1).length c7, .int .i64 d.2.2.2.2.1, .int .i64 d.2.2.2.2.2.1, .slice A10 (d.2.2.2.2.2.2.1).length c10, .int .i64 d.2.2.2.2.2.2.2.1, .int .i64 d.2.2.2.2.2.2.2.2] ∧ Hid (∀ j, j < k → okAt (toT d.2.1) ((j : Int) + 1) = true)) (fun i _ => d.2.2.1.length - (intOf i).toNat)
    case atStart => exact ⟨0, Nat.zero_le _, rfl, b, X, Lib.hid (fun j hj => absurd hj (by omega))⟩
    case round =>
      clear x0 x1 x2 x3 x4 x5 x6 x7 x8 x9 x10 x11 x12 Xl X b
      obtain ⟨k, hk, rfl, b, X, HA⟩ := hrel
      obtain ⟨⟨x0, x1, x2, x3, x4, x5, x6, x7, x8, x9, x10, x11, x12⟩, _⟩ := X.c13
      have Xl := X.lt
      by_cases hkn : k < d.2.2.1.length
      · have hkz : (k : Int) < d.2.2.1.length := by omega
        go_wp2_with fail
        clear x0 x1 x2 x3 x4 x5 x6 x7 x8 x9 x10 x11 x12 Xl
        (with_reducible refine (specWaitsD A5 c5 B d.2.1 ((k : Int) + 1) _ hc3 (Nat.le_trans hB b.size) (r5.keep b hB)).mono ?_); rintro o w3 ⟨rfl, hb⟩
        have X := X.next hb
        have b := b.trans (hb.mono b.size)
        clear hb
        obtain ⟨⟨x0, x1, x2, x3, x4, x5, x6, x7, x8, x9, x10, x11, x12⟩, _⟩ := X.c13
        have Xl := X.lt
        have HO := Lib.hid (show okAt (toT d.2.1) ((k : Int) + 1) = (decide (waitK (toT d.2.1) ((k : Int) + 1) < 0) || belowB (heldL (toT d.2.1) ((k : Int) + 1)).length (fun i => (heldL (toT d.2.1) ((k : Int) + 1)).getD i 0) (waitK (toT d.2.1) ((k : Int) + 1))) from rfl)
        generalize waitK (toT d.2.1) ((k : Int) + 1) = z at HO ⊢
        by_cases hz : 0 ≤ z
        · go_wp2_with fail
          clear x0 x1 x2 x3 x4 x5 x6 x7 x8 x9 x10 x11 x12 Xl
          (with_reducible refine (specHeldD A5 c5 B d.2.1 ((k : Int) + 1) _ hc3 (Nat.le_trans hB b.size) (r5.keep b hB)).mono ?_); rintro o w4 ⟨Ah, ch, rfl, OI, hb⟩
          have X := X.next hb
          have b := b.trans (hb.mono b.size)
          clear hb
          obtain ⟨⟨x0, x1, x2, x3, x4, x5, x6, x7, x8, x9, x10, x11, x12⟩, _⟩ := X.c13
          have Xl := X.lt
          have hhl := heldL_len (toT d.2.1) ((k : Int) + 1)
          have OI := Lib.hid OI
          go_wp2_with fail
          clear x0 x1 x2 x3 x4 x5 x6 x7 x8 x9 x10 x11 x12 Xl
          (with_reducible refine (specInOrder_any Ah _ ch _ _ z _ (by omega) OI.out.at_).mono ?_); rintro o w5 ⟨rfl, hb⟩
          have X := X.next hb
          have b := b.trans (hb.mono b.size)
          clear hb
          obtain ⟨⟨x0, x1, x2, x3, x4, x5, x6, x7, x8, x9, x10, x11, x12⟩, _⟩ := X.c13
          have Xl := X.lt
          cases ho : belowB (heldL (toT d.2.1) ((k : Int) + 1)).length (fun i => (heldL (toT d.2.1) ((k : Int) + 1)).getD i 0) z with
          | true =>
            have HA := Lib.hid (show ∀ j, j < k + 1 → okAt (toT d.2.1) ((j : Int) + 1) = true from fun j hj => by
              by_cases e : j = k
              · subst e; rw [HO.out, ho]; simp
              · exact HA.out j (by omega))
            clear ho HO OI
            go_wp2
            exact ⟨⟨k + 1, by omega, by go_num, b, X, HA⟩, by simp [intOf]; omega⟩
          | false =>
            have HF := Lib.hid (order_bad (d := d) hkn (by rw [HO.out, ho]; simp; omega))
            clear ho HO OI
            go_wp2
            go_ret
            exact ⟨ret_bool HF.out.symm, b⟩
        · have HA := Lib.hid (show ∀ j, j < k + 1 → okAt (toT d.2.1) ((j : Int) + 1) = true from fun j hj => by
            by_cases e : j = k
            · subst e; rw [HO.out]; simp; exact .inl (by omega)
            · exact HA.out j (by omega))
          clear HO
          go_wp2
          exact ⟨⟨k + 1, by omega, by go_num, b, X, HA⟩, by simp [intOf]; omega⟩
      · obtain rfl : k = d.2.2.1.length := by omega
        have HT := Lib.hid (order_yes H1.out HA.out)
        go_wp2
        go_ret
        exact ⟨ret_bool HT.out.symm, b⟩
end Go.Proofs.YtomkfldimkpmdaaGreat
