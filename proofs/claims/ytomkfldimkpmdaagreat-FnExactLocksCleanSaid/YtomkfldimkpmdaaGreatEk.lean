/- EngineOk of the program. -/
import Derived.Test.YtomkfldimkpmdaaGreatEj
namespace Go.Proofs.YtomkfldimkpmdaaGreat
open Go.RowKit

set_option maxHeartbeats 6400000 in
set_option maxRecDepth 100000 in
theorem implEngineOk_any (d : DEngine) (B : Nat) (vs : List Value) (w : World) (hs : fEngine.cnt d ≤ 1048576) (hB : B ≤ w.heap.size) (h : fEngine.At w B d vs) :
    Calls Tryz.prog 50 #[.agg vs.toArray] w fun e w' => e = .returned (.bool (engOk d)) ∧ Below w.heap.size w w' := by
  obtain ⟨A5, c5, A6, c6, A7, c7, A10, c10, rfl, r5, r6, r7, r10⟩ := at_Engine h
  clear h
  have hct := cnt_Engine d
  have hc2 := cnt_Table d.2.1
  have hc3 : (rowF fCell).cnt d.2.1 ≤ 1048576 := by omega
  have hc4 : (rowF fWorker).cnt d.2.2.1 ≤ 1048576 := by omega
  have hc5 : (rowF intF).cnt d.2.2.2.1 ≤ 1048576 := by omega
  have hm6 := r6.1
  unfold maxLen at hm6
  have HC := Lib.hid hc4
  clear hs hct hc2 r10
  go_enter Tryz.func50, Tryz.ntmps50
  go_wp2_with fail
  have b := (Below.refl w.heap.size w).alloc (Nat.le_refl _) (.cells #[.int .i64 d.1.1, .int .i64 d.1.2.1, .int .i64 d.1.2.2.1, .bool d.1.2.2.2.1, .int .i64 d.1.2.2.2.2, .slice A5 (d.2.1).length c5, .slice A6 (d.2.2.1).length c6, .slice A7 (d.2.2.2.1).length c7, .int .i64 d.2.2.2.2.1, .int .i64 d.2.2.2.2.2.1, .slice A10 (d.2.2.2.2.2.2.1).length c10, .int .i64 d.2.2.2.2.2.2.2.1, .int .i64 d.2.2.2.2.2.2.2.2] 41)
  have X := Bx.new (w := w) (c := #[.int .i64 d.1.1, .int .i64 d.1.2.1, .int .i64 d.1.2.2.1, .bool d.1.2.2.2.1, .int .i64 d.1.2.2.2.2, .slice A5 (d.2.1).length c5, .slice A6 (d.2.2.1).length c6, .slice A7 (d.2.2.2.1).length c7, .int .i64 d.2.2.2.2.1, .int .i64 d.2.2.2.2.2.1, .slice A10 (d.2.2.2.2.2.2.1).length c10, .int .i64 d.2.2.2.2.2.2.2.1, .int .i64 d.2.2.2.2.2.2.2.2]) (t := 41) rfl
  generalize w.alloc (.cells #[.int .i64 d.1.1, .int .i64 d.1.2.1, .int .i64 d.1.2.2.1, .bool d.1.2.2.2.1, .int .i64 d.1.2.2.2.2, .slice A5 (d.2.1).length c5, .slice A6 (d.2.2.1).length c6, .slice A7 (d.2.2.2.1).length c7, .int .i64 d.2.2.2.2.1, .int .i64 d.2.2.2.2.2.1, .slice A10 (d.2.2.2.2.2.2.1).length c10, .int .i64 d.2.2.2.2.2.2.2.1, .int .i64 d.2.2.2.2.2.2.2.2] 41) = w1 at b X ⊢
  obtain ⟨⟨x0, x1, x2, x3, x4, x5, x6, x7, x8, x9, x10, x11, x12⟩, _⟩ := X.c13
  have Xl := X.lt
  go_wp2_with fail
  clear x0 x1 x2 x3 x4 x5 x6 x7 x8 x9 x10 x11 x12 Xl
  refine (implSetupOk_any d.1 _).mono ?_; rintro o w2 ⟨rfl, hb⟩
  have X := X.next hb
  have b := b.trans (hb.mono b.size)
  clear hb
  obtain ⟨⟨x0, x1, x2, x3, x4, x5, x6, x7, x8, x9, x10, x11, x12⟩, _⟩ := X.c13
  have Xl := X.lt
  cases h1 : setupB d.1 with
  | false =>
    have HF := Lib.hid (eng_1 h1)
    go_wp2
    go_ret
    exact ⟨ret_bool HF.out.symm, b⟩
  | true =>
    have H1 := Lib.hid h1
    clear h1
    go_wp2_with fail
    clear x0 x1 x2 x3 x4 x5 x6 x7 x8 x9 x10 x11 x12 Xl
    refine (implTabD A5 c5 B d.2.1 _ hc3 (Nat.le_trans hB b.size) (r5.keep b hB)).mono ?_; rintro o w3 ⟨rfl, hb⟩
    have X := X.next hb
    have b := b.trans (hb.mono b.size)
    clear hb
    obtain ⟨⟨x0, x1, x2, x3, x4, x5, x6, x7, x8, x9, x10, x11, x12⟩, _⟩ := X.c13
    have Xl := X.lt
    cases h2 : tabOk (toT d.2.1) with
    | false =>
      have HF := Lib.hid (eng_2 h2)
      go_wp2
      go_ret
      exact ⟨ret_bool HF.out.symm, b⟩
    | true =>
      have H2 := Lib.hid h2
      clear h2
      by_cases h3 : (d.2.1.length : Int) = d.1.1
      case neg =>
        have HF := Lib.hid (eng_3 h3)
        go_wp2
        go_ret
        exact ⟨ret_bool HF.out.symm, b⟩
      by_cases h4 : (d.2.2.1.length : Int) ≤ 4
      case neg =>
        have HF := Lib.hid (eng_4 h4)
        go_wp2
        go_ret
        exact ⟨ret_bool HF.out.symm, b⟩
      go_wp2_with fail
      clear x0 x1 x2 x3 x4 x5 x6 x7 x8 x9 x10 x11 x12 Xl
      refine (implHeat_any A7 d.2.2.2.1.length c7 B _ _ (Nat.le_trans hB b.size) (ints_at (r7.keep b hB))).mono ?_; rintro o w4 ⟨rfl, hb⟩
      have X := X.next hb
      have b := b.trans (hb.mono b.size)
      clear hb
      obtain ⟨⟨x0, x1, x2, x3, x4, x5, x6, x7, x8, x9, x10, x11, x12⟩, _⟩ := X.c13
      have Xl := X.lt
      cases h5 : heatB d.2.2.2.1.length (fun j => d.2.2.2.1.getD j 0) with
      | false =>
        have HF := Lib.hid (eng_5 h5)
        go_wp2
        go_ret
        exact ⟨ret_bool HF.out.symm, b⟩
      | true =>
        have H5 := Lib.hid h5
        clear h5
        by_cases h6 : d.2.2.2.2.1 < 0
        · have HF := Lib.hid (eng_6 h6)
          go_wp2
          go_ret
          exact ⟨ret_bool HF.out.symm, b⟩
        by_cases h7 : d.2.2.2.2.2.1 < -1
        · have HF := Lib.hid (eng_7 (show inB _ _ _ = false by unfold inB; rw [decide_eq_false (show ¬ -1 ≤ d.2.2.2.2.2.1 by omega)]; rfl))
          go_wp2
          go_ret
          exact ⟨ret_bool HF.out.symm, b⟩
        by_cases h8 : (d.2.2.1.length : Int) ≤ d.2.2.2.2.2.1
        · have HF := Lib.hid (eng_7 (show inB _ _ _ = false by unfold inB; rw [decide_eq_false (show ¬ d.2.2.2.2.2.1 ≤ (d.2.2.1.length : Int) - 1 by omega)]; simp))
          go_wp2
          go_ret
          exact ⟨ret_bool HF.out.symm, b⟩
        have H7 := Lib.hid (show inB d.2.2.2.2.2.1 (-1) ((d.2.2.1.length : Int) - 1) = true by unfold inB; rw [decide_eq_true (show -1 ≤ d.2.2.2.2.2.1 by omega), decide_eq_true (show d.2.2.2.2.2.1 ≤ (d.2.2.1.length : Int) - 1 by omega)]; rfl)
        go_wp2
        clear x0 x1 x2 x3 x4 x5 x6 x7 x8 x9 x10 x11 x12 Xl
        go_loopw [54] (fun i wr => ∃ k : Nat, k ≤ d.2.2.1.length ∧ i = .int .i64 k ∧ Below w.heap.size w wr ∧ Bx wr w.heap.size [.int .i64 d.1.1, .int .i64 d.1.2.1, .int .i64 d.1.2.2.1, .bool d.1.2.2.2.1, .int .i64 d.1.2.2.2.2, .slice A5 (d.2.1).length c5, .slice A6 (d.2.2.1).length c6, .slice A7 (d.2.2.2.1).length c7, .int .i64 d.2.2.2.2.1, .int .i64 d.2.2.2.2.2.1, .slice A10 (d.2.2.2.2.2.2.1).length c10, .int .i64 d.2.2.2.2.2.2.2.1, .int .i64 d.2.2.2.2.2.2.2.2] ∧ Hid (∀ j x, j < k → d.2.2.1[j]? = some x → wkOk d.1.1 x = true)) (fun i _ => d.2.2.1.length - (intOf i).toNat)
        case atStart => exact ⟨0, Nat.zero_le _, rfl, b, X, Lib.hid (fun j x hj => absurd hj (by omega))⟩
        case round =>
          clear b X
          obtain ⟨k, hk, rfl, b, X, HA⟩ := hrel
          obtain ⟨⟨x0, x1, x2, x3, x4, x5, x6, x7, x8, x9, x10, x11, x12⟩, _⟩ := X.c13
          have Xl := X.lt
          by_cases hkn : k < d.2.2.1.length
          · obtain ⟨bb, off, eA, hbB, hc⟩ := r6.2 (by omega)
            have hkz : (k : Int) < d.2.2.1.length := by omega
            have hget : d.2.2.1[k]? = some d.2.2.1[k] := List.getElem?_eq_getElem hkn
            obtain ⟨v, hv0, hat0⟩ := hc k _ hget
            have hsz := b.size
            have hat := fWorker.at_same hat0 (.of b hB)
            have hv := hv0.below b (show bb < w.heap.size by omega)
            rw [show fWorker.n = 9 from rfl] at hv
            have hcx := cnt_at (F := fWorker) hget
            clear hv0 hat0
            generalize d.2.2.1[k] = x at hget hat hcx
            have HAT := Lib.hid hat
            obtain ⟨A0w, c0w, A5w, c5w, A6w, c6w, A7w, c7w, A8w, c8w, rfl, _, _, _, _, _⟩ := at_Worker hat
            subst eA
            obtain ⟨a0, a1, a2, a3, a4, a5, a6, a7, a8⟩ := hv.c9
            have HG := Lib.hid hget
            have hcx : fWorker.cnt x ≤ 1048576 := by have := HC.out; omega
            clear hc hv hat hget
            have hA := (Below.refl wr.heap.size wr).alloc (Nat.le_refl _) (.cells #[.slice A0w (x.1).length c0w, .int .i64 x.2.1, .int .i64 x.2.2.1, .int .i64 x.2.2.2.1, .int .i64 x.2.2.2.2.1, .slice A5w (x.2.2.2.2.2.1).length c5w, .slice A6w (x.2.2.2.2.2.2.1).length c6w, .slice A7w (x.2.2.2.2.2.2.2.1).length c7w, .slice A8w (x.2.2.2.2.2.2.2.2).length c8w] 73)
            have b := b.alloc hsz (.cells #[.slice A0w (x.1).length c0w, .int .i64 x.2.1, .int .i64 x.2.2.1, .int .i64 x.2.2.2.1, .int .i64 x.2.2.2.2.1, .slice A5w (x.2.2.2.2.2.1).length c5w, .slice A6w (x.2.2.2.2.2.2.1).length c6w, .slice A7w (x.2.2.2.2.2.2.2.1).length c7w, .slice A8w (x.2.2.2.2.2.2.2.2).length c8w] 73)
            have X := X.next hA
            have HAT2 := Lib.hid (fWorker.at_same HAT.out (.of hA (by omega)))
            have hs2 := hA.size
            clear hA
            go_wp2_with fail
            clear a0 a1 a2 a3 a4 a5 a6 a7 a8 x0 x1 x2 x3 x4 x5 x6 x7 x8 x9 x10 x11 x12 Xl
            refine (implWorkerOk_any x d.1.1 B _ _ hcx (by omega) HAT2.out).mono ?_; rintro o w6 ⟨rfl, hb⟩
            have X := X.next hb
            have b := b.trans (hb.mono b.size)
            clear hb HAT2
            cases hd : wkOk d.1.1 x with
            | true =>
              have HA := Lib.hid (show ∀ j u, j < k + 1 → d.2.2.1[j]? = some u → wkOk d.1.1 u = true from fun j u hj hu => by
                by_cases e : j = k
                · subst e
                  rw [HG.out] at hu
                  cases hu
                  exact hd
                · exact HA.out j u (by omega) hu)
              go_wp2
              exact ⟨⟨k + 1, by omega, by go_num, b, X, HA⟩, by simp [intOf]; omega⟩
            | false =>
              have HF := Lib.hid (eng_8 HG.out hd)
              go_wp2
              go_ret
              exact ⟨ret_bool HF.out.symm, b⟩
          · obtain rfl : k = d.2.2.1.length := by omega
            have HT := Lib.hid (eng_9 H1.out H2.out h3 h4 H5.out (by omega) H7.out HA.out)
            go_wp2
            go_ret
            exact ⟨ret_bool HT.out.symm, b⟩
end Go.Proofs.YtomkfldimkpmdaaGreat
