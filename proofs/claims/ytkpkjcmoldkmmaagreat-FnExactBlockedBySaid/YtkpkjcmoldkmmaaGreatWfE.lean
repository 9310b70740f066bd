/- EngineOk of the model. -/
import Derived.Test.YtkpkjcmoldkmmaaGreatWfD
import Derived.Lib.SmallJoins
import Derived.Laws.OwnMore
namespace Go.Proofs.YtkpkjcmoldkmmaaGreat
open Go.RowKit

theorem wk_no1 {K : Int} {x : DWorker} (h : wkHead x = false) : wkOk K x = false := by unfold wkOk; rw [h]; rfl
theorem wk_no2 {K : Int} {x : DWorker} {j : Nat} {p : List DAct} (hg : x.1[j]? = some p) (h : progIn K p = false) : wkOk K x = false := by unfold wkOk; rw [all_noE hg h]; simp
theorem wk_no3 {K : Int} {x : DWorker} (h : (wantsB x.2.2.2.2.2.1 && x.2.2.2.2.2.1.all (wantIn K)) = false) : wkOk K x = false := by unfold wkOk; rw [h]; simp
theorem wk_no4 {K : Int} {x : DWorker} {j : Nat} {a : DSeen} (hg : x.2.2.2.2.2.2.1[j]? = some a) (h : seenIn K a = false) : wkOk K x = false := by unfold wkOk; rw [all_noE hg h]; simp
theorem wk_no5 {K : Int} {x : DWorker} {j : Nat} {a : DPut} (hg : x.2.2.2.2.2.2.2.1[j]? = some a) (h : putIn K a = false) : wkOk K x = false := by unfold wkOk; rw [all_noE hg h]; simp
theorem wk_no6 {K : Int} {x : DWorker} (h : pcIn x = false) : wkOk K x = false := by unfold wkOk; rw [h]; simp
theorem wk_yes {K : Int} {x : DWorker} (h1 : wkHead x = true) (h2 : x.1.all (progIn K) = true) (h3 : (wantsB x.2.2.2.2.2.1 && x.2.2.2.2.2.1.all (wantIn K)) = true) (h4 : x.2.2.2.2.2.2.1.all (seenIn K) = true)
    (h5 : x.2.2.2.2.2.2.2.1.all (putIn K) = true) (h6 : pcIn x = true) : wkOk K x = true := by unfold wkOk; rw [h1, h2, h3, h4, h5, h6]; rfl
set_option maxHeartbeats 51200000 in
set_option maxRecDepth 100000 in
theorem specEngineOk_any (d : DEngine) (B : Nat) (vs : List Value) (w : World) (hs : fEngine.cnt d ≤ 1048576) (hB : B ≤ w.heap.size) (h : fEngine.At w B d vs) :
    Calls Tryz.prog 42 #[.agg vs.toArray] w fun e w' => e = .returned (.bool (engOk d)) ∧ Below w.heap.size w w' := by
  obtain ⟨A5, c5, A6, c6, A7, c7, A10, c10, rfl, r5, r6, r7, r10⟩ := at_Engine h
  clear h
  have hct := cnt_Engine d
  have hc2 := cnt_Table d.2.1
  have hc3 : (rowF fCell).cnt d.2.1 ≤ 1048576 := by omega
  have hc4 : (rowF fWorker).cnt d.2.2.1 ≤ 1048576 := by omega
  have hc5 : (rowF intF).cnt d.2.2.2.1 ≤ 1048576 := by omega
  have hc6 : d.2.2.2.1.length ≤ 1048576 := by have := row_cnt intF d.2.2.2.1; omega
  have hm6 := r6.1
  unfold maxLen at hm6
  have HC := Lib.hid hc4
  clear hs hct hc2 r10 hc4 hc5
  go_enter Tryz.func42, Tryz.ntmps42
  go_wp2_with fail
  have b := (Below.refl w.heap.size w).alloc (Nat.le_refl _) (.cells #[.int .i64 d.1.1, .int .i64 d.1.2.1, .int .i64 d.1.2.2.1, .bool d.1.2.2.2.1, .int .i64 d.1.2.2.2.2, .slice A5 (d.2.1).length c5, .slice A6 (d.2.2.1).length c6, .slice A7 (d.2.2.2.1).length c7, .int .i64 d.2.2.2.2.1, .int .i64 d.2.2.2.2.2.1, .slice A10 (d.2.2.2.2.2.2.1).length c10, .int .i64 d.2.2.2.2.2.2.2.1, .int .i64 d.2.2.2.2.2.2.2.2] 41)
  have X := Bx.new (w := w) (c := #[.int .i64 d.1.1, .int .i64 d.1.2.1, .int .i64 d.1.2.2.1, .bool d.1.2.2.2.1, .int .i64 d.1.2.2.2.2, .slice A5 (d.2.1).length c5, .slice A6 (d.2.2.1).length c6, .slice A7 (d.2.2.2.1).length c7, .int .i64 d.2.2.2.2.1, .int .i64 d.2.2.2.2.2.1, .slice A10 (d.2.2.2.2.2.2.1).length c10, .int .i64 d.2.2.2.2.2.2.2.1, .int .i64 d.2.2.2.2.2.2.2.2]) (t := 41) rfl
  generalize w.alloc (.cells #[.int .i64 d.1.1, .int .i64 d.1.2.1, .int .i64 d.1.2.2.1, .bool d.1.2.2.2.1, .int .i64 d.1.2.2.2.2, .slice A5 (d.2.1).length c5, .slice A6 (d.2.2.1).length c6, .slice A7 (d.2.2.2.1).length c7, .int .i64 d.2.2.2.2.1, .int .i64 d.2.2.2.2.2.1, .slice A10 (d.2.2.2.2.2.2.1).length c10, .int .i64 d.2.2.2.2.2.2.2.1, .int .i64 d.2.2.2.2.2.2.2.2] 41) = w1 at b X ⊢
  obtain ⟨⟨x0, x1, x2, x3, x4, x5, x6, x7, x8, x9, x10, x11, x12⟩, _⟩ := X.c13
  have Xl := X.lt
  go_wp2_with fail
  clear x0 x1 x2 x3 x4 x5 x6 x7 x8 x9 x10 x11 x12 Xl
  refine (specSetupOk_any d.1 _).mono ?_; rintro o w2 ⟨rfl, hb⟩
  have X := X.next hb
  have b := b.trans (hb.mono b.size)
  clear hb
  obtain ⟨⟨x0, x1, x2, x3, x4, x5, x6, x7, x8, x9, x10, x11, x12⟩, _⟩ := X.c13
  have Xl := X.lt
  cases h1 : setupB d.1 with
  | false =>
    have HF := Lib.hid (eng_1 h1)
    go_wp2
    go_ret
    exact ⟨ret_bool HF.out.symm, b⟩
  | true =>
    have H1 := Lib.hid h1
    have hK1 : 1 ≤ d.1.1 ∧ d.1.1 ≤ 8 := by
      simp only [setupB, inB, Bool.and_eq_true, decide_eq_true_eq] at h1
      omega
    clear h1
    go_wp2_with fail
    clear x0 x1 x2 x3 x4 x5 x6 x7 x8 x9 x10 x11 x12 Xl
    refine (specTabD A5 c5 B d.2.1 _ hc3 (Nat.le_trans hB b.size) (r5.keep b hB)).mono ?_; rintro o w3 ⟨rfl, hb⟩
    have X := X.next hb
    have b := b.trans (hb.mono b.size)
    clear hb
    obtain ⟨⟨x0, x1, x2, x3, x4, x5, x6, x7, x8, x9, x10, x11, x12⟩, _⟩ := X.c13
    have Xl := X.lt
    cases h2 : tabOk (toT d.2.1) with
    | false =>
      have HF := Lib.hid (eng_2 h2)
      go_wp2
      go_ret
      exact ⟨ret_bool HF.out.symm, b⟩
    | true =>
      have H2 := Lib.hid h2
      clear h2
      by_cases h3 : (d.2.1.length : Int) = d.1.1
      case neg =>
        have HF := Lib.hid (eng_3 h3)
        go_wp2
        go_ret
        exact ⟨ret_bool HF.out.symm, b⟩
      by_cases h4 : (d.2.2.1.length : Int) ≤ 4
      case neg =>
        have HF := Lib.hid (eng_4 h4)
        go_wp2
        go_ret
        exact ⟨ret_bool HF.out.symm, b⟩
      go_wp2_with fail
      clear x0 x1 x2 x3 x4 x5 x6 x7 x8 x9 x10 x11 x12 Xl
      refine (specHeat_any A7 d.2.2.2.1.length c7 B _ _ hc6 (ints_at (r7.keep b hB))).mono ?_; rintro o w4 ⟨rfl, rfl⟩
      obtain ⟨⟨x0, x1, x2, x3, x4, x5, x6, x7, x8, x9, x10, x11, x12⟩, _⟩ := X.c13
      have Xl := X.lt
      cases h5 : heatB d.2.2.2.1.length (fun j => d.2.2.2.1.getD j 0) with
      | false =>
        have HF := Lib.hid (eng_5 h5)
        go_wp2
        go_ret
        exact ⟨ret_bool HF.out.symm, b⟩
      | true =>
        have H5 := Lib.hid h5
        clear h5
        by_cases h6 : d.2.2.2.2.1 < 0
        · have HF := Lib.hid (eng_6 h6)
          go_wp2
          go_ret
          exact ⟨ret_bool HF.out.symm, b⟩
        go_wp2_with fail
        refine (l01In_any _ _ _ _).mono ?_; rintro e w' ⟨rfl, rfl⟩
        cases h7 : inB d.2.2.2.2.2.1 (-1) ((d.2.2.1.length : Int) - 1) with
        | false =>
          have HF := Lib.hid (eng_7 h7)
          go_wp2
          go_ret
          exact ⟨ret_bool HF.out.symm, b⟩
        | true =>
          have H7 := Lib.hid h7
          clear h7
          have H3 := Lib.hid h3
          have H4 := Lib.hid h4
          have H6 := Lib.hid h6
          go_wp2
          clear h3 h4 h6
          clear x0 x1 x2 x3 x4 x5 x6 x7 x8 x9 x10 x11 x12 Xl
          go_loopw [3] (fun i wr => ∃ k : Nat, k ≤ d.2.2.1.length ∧ i = .int .i64 k ∧ Below w.heap.size w wr ∧ Bx wr w.heap.size [.int .i64 d.1.1, .int .i64 d.1.2.1, .int .i64 d.1.2.2.1, .bool d.1.2.2.2.1, .int .i64 d.1.2.2.2.2, .slice A5 (d.2.1).length c5, .slice A6 (d.2.2.1).length c6, .slice A7 (d.2.2.2.1).length c7, .int .i64 d.2.2.2.2.1, .int .i64 d.2.2.2.2.2.1, .slice A10 (d.2.2.2.2.2.2.1).length c10, .int .i64 d.2.2.2.2.2.2.2.1, .int .i64 d.2.2.2.2.2.2.2.2] ∧ Hid (∀ j x, j < k → d.2.2.1[j]? = some x → wkOk d.1.1 x = true)) (fun i _ => d.2.2.1.length - (intOf i).toNat)
          case atStart => exact ⟨0, Nat.zero_le _, rfl, b, X, Lib.hid (fun j x hj => absurd hj (by omega))⟩
          case round =>
            clear b X
            obtain ⟨k, hk, rfl, b, X, HA⟩ := hrel
            obtain ⟨⟨x0, x1, x2, x3, x4, x5, x6, x7, x8, x9, x10, x11, x12⟩, _⟩ := X.c13
            have Xl := X.lt
            by_cases hkn : k < d.2.2.1.length
            case neg =>
              obtain rfl : k = d.2.2.1.length := by omega
              have HT := Lib.hid (eng_9 H1.out H2.out H3.out H4.out H5.out (by have := H6.out; omega) H7.out HA.out)
              go_wp2
              go_ret
              exact ⟨ret_bool HT.out.symm, b⟩
            obtain ⟨bb, off, eA, hbB, hc⟩ := r6.2 (by omega)
            have hkz : (k : Int) < d.2.2.1.length := by omega
            have hget : d.2.2.1[k]? = some d.2.2.1[k] := List.getElem?_eq_getElem hkn
            obtain ⟨v, hv0, hat0⟩ := hc k _ hget
            have hsz := b.size
            have hv := hv0.below b (show bb < w.heap.size by omega)
            rw [show fWorker.n = 9 from rfl] at hv
            have hcx := cnt_at (F := fWorker) hget
            clear hv0
            generalize d.2.2.1[k] = x at hget hat0 hcx
            obtain ⟨A0w, c0w, A5w, c5w, A6w, c6w, A7w, c7w, A8w, c8w, rfl, r0, q5, q6, q7, _⟩ := at_Worker hat0
            have hcw := cnt_Worker x
            have hw5 : x.2.2.2.2.2.1.length ≤ 1048576 := by
              have := row_cnt fWant x.2.2.2.2.2.1
              have := HC.out
              omega
            have HATW := Lib.hid hat0
            subst eA
            obtain ⟨a0, a1, a2, a3, a4, a5, a6, a7, a8⟩ := hv.c9
            have HG := Lib.hid hget
            clear hc hv hat0 hget hcx hcw
            have hA := (Below.refl wr.heap.size wr).alloc (Nat.le_refl _) (.cells #[.slice A0w (x.1).length c0w, .int .i64 x.2.1, .int .i64 x.2.2.1, .int .i64 x.2.2.2.1, .int .i64 x.2.2.2.2.1, .slice A5w (x.2.2.2.2.2.1).length c5w, .slice A6w (x.2.2.2.2.2.2.1).length c6w, .slice A7w (x.2.2.2.2.2.2.2.1).length c7w, .slice A8w (x.2.2.2.2.2.2.2.2).length c8w] 73)
            have b2 := b.alloc hsz (.cells #[.slice A0w (x.1).length c0w, .int .i64 x.2.1, .int .i64 x.2.2.1, .int .i64 x.2.2.2.1, .int .i64 x.2.2.2.2.1, .slice A5w (x.2.2.2.2.2.1).length c5w, .slice A6w (x.2.2.2.2.2.2.1).length c6w, .slice A7w (x.2.2.2.2.2.2.2.1).length c7w, .slice A8w (x.2.2.2.2.2.2.2.2).length c8w] 73)
            have X2 := X.next hA
            have Y := Bx.new (w := wr) (c := #[.slice A0w (x.1).length c0w, .int .i64 x.2.1, .int .i64 x.2.2.1, .int .i64 x.2.2.2.1, .int .i64 x.2.2.2.2.1, .slice A5w (x.2.2.2.2.2.1).length c5w, .slice A6w (x.2.2.2.2.2.2.1).length c6w, .slice A7w (x.2.2.2.2.2.2.2.1).length c7w, .slice A8w (x.2.2.2.2.2.2.2.2).length c8w]) (t := 73) rfl
            have R0 := Lib.hid r0
            have R5 := Lib.hid q5
            have R6 := Lib.hid q6
            have R7 := Lib.hid q7
            have hm0 := r0.1
            have hn5 := q5.1
            have hn6 := q6.1
            have hn7 := q7.1
            unfold maxLen at hm0 hn5 hn6 hn7
            clear hA r0 q5 q6 q7
            by_cases q0 : x.2.1 < 0
            · have HF9 := Lib.hid (eng_8 HG.out (wk_no1 (head_no (.inl q0))))
              go_wp2
              go_ret
              exact ⟨ret_bool HF9.out.symm, b2⟩
            clear X b
            go_wp2_with fail
            refine (l01In_any _ _ _ _).mono ?_; rintro e w' ⟨rfl, rfl⟩
            clear a0 a1 a2 a3 a4 a5 a6 a7 a8 x0 x1 x2 x3 x4 x5 x6 x7 x8 x9 x10 x11 x12 Xl
            generalize wr.alloc (.cells #[.slice A0w (x.1).length c0w, .int .i64 x.2.1, .int .i64 x.2.2.1, .int .i64 x.2.2.2.1, .int .i64 x.2.2.2.2.1, .slice A5w (x.2.2.2.2.2.1).length c5w, .slice A6w (x.2.2.2.2.2.2.1).length c6w, .slice A7w (x.2.2.2.2.2.2.2.1).length c7w, .slice A8w (x.2.2.2.2.2.2.2.2).length c8w] 73) = wA at b2 X2 Y ⊢
            generalize wr.heap.size = b4 at Y hsz ⊢
            have X := X2
            have b := b2
            clear X2 b2
            obtain ⟨⟨x0, x1, x2, x3, x4, x5, x6, x7, x8, x9, x10, x11, x12⟩, _⟩ := X.c13
            obtain ⟨⟨y0, y1, y2, y3, y4, y5, y6, y7, y8⟩, _⟩ := Y.c9
            have Xl := X.lt
            have Yl := Y.lt
            cases hP : inB x.2.2.1 0 5 with
            | false =>
              have HF9 := Lib.hid (eng_8 HG.out (wk_no1 (by unfold wkHead; rw [hP]; simp)))
              go_wp2
              go_ret
              exact ⟨ret_bool HF9.out.symm, b⟩
            | true =>
              by_cases q1 : x.2.2.2.1 < 0
              · have HF9 := Lib.hid (eng_8 HG.out (wk_no1 (head_no (.inr (.inl q1)))))
                go_wp2
                go_ret
                exact ⟨ret_bool HF9.out.symm, b⟩
              have HHD := Lib.hid (show wkHead x = true by unfold wkHead; rw [hP, decide_eq_true (show 0 ≤ x.2.1 by omega), decide_eq_true (show 0 ≤ x.2.2.2.1 by omega)]; rfl)
              go_wp2
              clear x0 x1 x2 x3 x4 x5 x6 x7 x8 x9 x10 x11 x12 y0 y1 y2 y3 y4 y5 y6 y7 y8 Xl Yl
              go_loopw [5] (fun i wr => ∃ j : Nat, j ≤ x.1.length ∧ i = .int .i64 j ∧ Below w.heap.size w wr ∧ Bx wr w.heap.size [.int .i64 d.1.1, .int .i64 d.1.2.1, .int .i64 d.1.2.2.1, .bool d.1.2.2.2.1, .int .i64 d.1.2.2.2.2, .slice A5 (d.2.1).length c5, .slice (some ⟨bb, off, none⟩) (d.2.2.1).length c6, .slice A7 (d.2.2.2.1).length c7, .int .i64 d.2.2.2.2.1, .int .i64 d.2.2.2.2.2.1, .slice A10 (d.2.2.2.2.2.2.1).length c10, .int .i64 d.2.2.2.2.2.2.2.1, .int .i64 d.2.2.2.2.2.2.2.2] ∧ Bx wr b4 [.slice A0w (x.1).length c0w, .int .i64 x.2.1, .int .i64 x.2.2.1, .int .i64 x.2.2.2.1, .int .i64 x.2.2.2.2.1, .slice A5w (x.2.2.2.2.2.1).length c5w, .slice A6w (x.2.2.2.2.2.2.1).length c6w, .slice A7w (x.2.2.2.2.2.2.2.1).length c7w, .slice A8w (x.2.2.2.2.2.2.2.2).length c8w] ∧ Hid (∀ i u, i < j → x.1[i]? = some u → progIn d.1.1 u = true)) (fun i _ => x.1.length - (intOf i).toNat)
              case atStart => exact ⟨0, Nat.zero_le _, rfl, b, X, Y, Lib.hid (fun i u hi => absurd hi (by omega))⟩
              case round =>
                clear b X Y
                obtain ⟨j, hj, rfl, b, X, Y, HP⟩ := hrel
                obtain ⟨⟨x0, x1, x2, x3, x4, x5, x6, x7, x8, x9, x10, x11, x12⟩, _⟩ := X.c13
                obtain ⟨⟨y0, y1, y2, y3, y4, y5, y6, y7, y8⟩, _⟩ := Y.c9
                have Xl := X.lt
                have Yl := Y.lt
                by_cases hjn : j < x.1.length
                · obtain ⟨b0, off0, eA, hb0, hc0⟩ := R0.out.2 (by omega)
                  have hjz : (j : Int) < x.1.length := by omega
                  have hget : x.1[j]? = some x.1[j] := List.getElem?_eq_getElem hjn
                  obtain ⟨v, hv, Ap, cp, ev, rp⟩ := hc0 j _ hget
                  subst ev
                  subst eA
                  rw [show (rowF fAct).n = 1 from rfl, Nat.mul_one] at hv
                  generalize x.1[j] = p at hget rp hv
                  have a0 := (hv.below b (show b0 < w.heap.size by omega)).c1
                  have HGe := Lib.hid hget
                  have HV := Lib.hid hv
                  have hpm := rp.1
                  unfold maxLen at hpm
                  have RP := Lib.hid rp
                  clear hc0 hv hget rp
                  go_wp2_with fail
                  clear a0
                  clear x0 x1 x2 x3 x4 x5 x6 x7 x8 x9 x10 x11 x12 y0 y1 y2 y3 y4 y5 y6 y7 y8 Xl Yl
                  refine (specKeysOf_any Ap p.length cp (actF p) _ (acts_at ((RP.out.keep b hB).up (Nat.le_trans hB b.size)))).mono ?_; rintro o w2 ⟨v, rfl, hown, hb⟩
                  have X := X.next hb
                  have Y := Y.next hb
                  have b := b.trans (hb.mono b.size)
                  clear hb
                  cases hp : progOk p.length (actF p) with
                  | false =>
                    obtain ⟨I, F, hI, hF0, hF, hFn⟩ := clsE w2
                    have fx0 := fun n => ((X.next (hF n)).c13.1).1
                    have fxl := fun n => (X.next (hF n)).lt
                    have fy0 := fun n => ((Y.next (hF n)).c9.1).1
                    have fyl := fun n => (Y.next (hF n)).lt
                    have hBb := fun n => b.trans ((hF n).mono b.size)
                    have fa := fun n => (HV.out.below (hBb n) (show b0 < w.heap.size by omega)).c1
                    have HFn := Lib.hid hFn
                    have HF := Lib.hid hF
                    have HF0 := Lib.hid hF0
                    have HB := Lib.hid hBb
                    clear hFn hF hF0 hBb
                    go_wp2_with fail
                    refine wp_region_cls (by kernel_rfl) (by kernel_rfl) HF0.out ?_
                    repeat (go_big_quiet_step ((go_at_call 80; refine (specProgOk_any Ap p.length cp (actF p) _ (acts_at ((RP.out.keep (HB.out _) hB).up (Nat.le_trans hB (HB.out _).size)))).mono ?_; rintro o w2 ⟨rfl, hb2⟩; rw [hp]; exact ⟨rfl, HFn.out _ _ hb2⟩)))
                    refine wpQuiet_nil ?_
                    rintro _ ⟨nq, rfl⟩
                    have X := X.next (HF.out nq)
                    have Y := Y.next (HF.out nq)
                    have b := HB.out nq
                    clear fx0 fxl fyl fy0 fa
                    generalize F nq = wq at X Y b
                    have HF9 := Lib.hid (eng_8 HG.out (wk_no2 HGe.out (show progIn d.1.1 p = false by unfold progIn; rw [hp, Bool.false_and])))
                    go_wp2
                    go_ret
                    exact ⟨ret_bool HF9.out.symm, b⟩
                  | true =>
                    obtain ⟨g, hg8, hpos, hlast, hyes, hno⟩ := prog_keys hp
                    generalize keysOut (fun _ => true) p.length (actF p) = Ks at hown hpos hlast
                    obtain ⟨gk, cap, rfl⟩ := Go.Joins.ownsRow_form hown hpos
                    obtain ⟨m, hm⟩ : ∃ m, Ks.length = m + 1 := ⟨Ks.length - 1, by omega⟩
                    have hcell := hown.cellAt m (by omega)
                    have hgl := (hown.lt gk rfl).2
                    have hk9 : (Ks.map (Value.int .i64))[m]? = some (.int .i64 (g : Int)) := by
                      rw [hm, show m + 1 - 1 = m by omega, List.getD_eq_getElem?_getD] at hlast
                      rw [List.getElem?_map]
                      have h9 : Ks[m]? = some Ks[m] := List.getElem?_eq_getElem (by omega)
                      rw [h9] at hlast ⊢
                      have hlast : Ks[m] = (g : Int) := hlast
                      rw [hlast]
                      rfl
                    rw [hk9] at hcell
                    have hcap : m + 1 ≤ cap ∨ True := .inr trivial
                    rw [hm]
                    have hm2 : m < 9223372036854775807 := by
                      have : Ks.length ≤ 9223372036854775807 := by
                        rcases hown.2 with ⟨h, _⟩ | ⟨_, _, _, _, _, _, h1, h2, _⟩
                        · simp at h
                        · have h2 : _ ≤ 2 ^ 63 - 1 := h2
                          omega
                      omega
                    have hw1 : IntKind.i64.wrap (((m + 1 : Nat) : Int) - 1) = (m : Int) := by rw [IntWalk.i64_in _ (by omega)]; omega
                    have hw2 : IntKind.i64.wrap ((m : Int) + 1 - 1) = (m : Int) := by rw [IntWalk.i64_in _ (by omega)]; omega
                    have hw3 : IntKind.i64.wrap (m : Int) = (m : Int) := by rw [IntWalk.i64_in _ (by omega)]
                    have hmz : (m : Int) < ((m + 1 : Nat) : Int) := by omega
                    have HY := Lib.hid hyes
                    have HN := Lib.hid hno
                    clear hown hk9 hlast hpos hyes hno hcap
                    obtain ⟨I, F, hI, hF0, hF, hFn⟩ := clsE w2
                    have fx0 := fun n => ((X.next (hF n)).c13.1).1
                    have fxl := fun n => (X.next (hF n)).lt
                    have fy0 := fun n => ((Y.next (hF n)).c9.1).1
                    have fyl := fun n => (Y.next (hF n)).lt
                    have hBb := fun n => b.trans ((hF n).mono b.size)
                    have fa := fun n => (HV.out.below (hBb n) (show b0 < w.heap.size by omega)).c1
                    have fk := fun n => ((hF n).cell (p := ⟨gk, m, none⟩) hgl).trans hcell
                    clear hcell
                    have HFn := Lib.hid hFn
                    have HF := Lib.hid hF
                    have HF0 := Lib.hid hF0
                    have HB := Lib.hid hBb
                    clear hFn hF hF0 hBb
                    by_cases hK : d.1.1 ≤ (g : Int)
                    · go_wp2_with fail
                      refine wp_region_cls (by kernel_rfl) (by kernel_rfl) HF0.out ?_
                      repeat (go_big_quiet_step ((go_at_call 80; refine (specProgOk_any Ap p.length cp (actF p) _ (acts_at ((RP.out.keep (HB.out _) hB).up (Nat.le_trans hB (HB.out _).size)))).mono ?_; rintro o w2 ⟨rfl, hb2⟩; rw [hp]; exact ⟨rfl, HFn.out _ _ hb2⟩)))
                      refine wpQuiet_nil ?_
                      rintro _ ⟨nq, rfl⟩
                      have X := X.next (HF.out nq)
                      have Y := Y.next (HF.out nq)
                      have b := HB.out nq
                      clear fx0 fxl fyl fy0 fa fk
                      generalize F nq = wq at X Y b
                      have HF9 := Lib.hid (eng_8 HG.out (wk_no2 HGe.out (HN.out _ hK)))
                      go_wp2
                      go_ret
                      exact ⟨ret_bool HF9.out.symm, b⟩
                    · have HPI := Lib.hid (HY.out d.1.1 (by omega))
                      have HP := Lib.hid (show ∀ i u, i < j + 1 → x.1[i]? = some u → progIn d.1.1 u = true from fun i u hi hu => by
                        by_cases e : i = j
                        · subst e
                          rw [HGe.out] at hu
                          cases hu
                          exact HPI.out
                        · exact HP.out i u (by omega) hu)
                      go_wp2_with fail
                      refine wp_region_cls (by kernel_rfl) (by kernel_rfl) HF0.out ?_
                      repeat (go_big_quiet_step ((go_at_call 80; refine (specProgOk_any Ap p.length cp (actF p) _ (acts_at ((RP.out.keep (HB.out _) hB).up (Nat.le_trans hB (HB.out _).size)))).mono ?_; rintro o w2 ⟨rfl, hb2⟩; rw [hp]; exact ⟨rfl, HFn.out _ _ hb2⟩)))
                      refine wpQuiet_nil ?_
                      rintro _ ⟨nq, rfl⟩
                      have X := X.next (HF.out nq)
                      have Y := Y.next (HF.out nq)
                      have b := HB.out nq
                      clear fx0 fxl fyl fy0 fa fk
                      generalize F nq = wq at X Y b
                      go_wp2
                      exact ⟨⟨j + 1, by omega, by go_num, b, X, Y, HP⟩, by simp [intOf]; omega⟩
                · obtain rfl : j = x.1.length := by omega
                  have HP := Lib.hid (all_yesE HP.out)
                  go_wp2_with fail
                  clear x0 x1 x2 x3 x4 x5 x6 x7 x8 x9 x10 x11 x12 y0 y1 y2 y3 y4 y5 y6 y7 y8 Xl Yl
                  cases hW : wantsB x.2.2.2.2.2.1 with
                  | false =>
                    obtain ⟨I, F, hI, hF0, hF, hFn⟩ := clsE wr
                    have fx0 := fun n => ((X.next (hF n)).c13.1).1
                    have fxl := fun n => (X.next (hF n)).lt
                    have fy5 := fun n => ((Y.next (hF n)).c9.1).2.2.2.2.2.1
                    have fyl := fun n => (Y.next (hF n)).lt
                    have hBb := fun n => b.trans ((hF n).mono b.size)
                    have HFn := Lib.hid hFn
                    have HF := Lib.hid hF
                    have HF0 := Lib.hid hF0
                    have HB := Lib.hid hBb
                    clear hFn hF hF0 hBb
                    refine wp_region_cls (by kernel_rfl) (by kernel_rfl) HF0.out ?_
                    repeat (go_big_quiet_step ((go_at_call 81; refine (specWantsOk_any _ _ B x.2.2.2.2.2.1 _ hw5 (wants_at (R5.out.keep (HB.out _) hB))).mono ?_; rintro o w2 ⟨rfl, hb2⟩; rw [hW]; exact ⟨rfl, HFn.out _ _ hb2⟩)))
                    refine wpQuiet_nil ?_
                    rintro _ ⟨nq, rfl⟩
                    have X := X.next (HF.out nq)
                    have Y := Y.next (HF.out nq)
                    have b := HB.out nq
                    clear fx0 fxl fyl fy5
                    generalize F nq = wq at X Y b
                    have HF9 := Lib.hid (eng_8 HG.out (wk_no3 (by rw [hW]; rfl)))
                    go_wp2
                    go_ret
                    exact ⟨ret_bool HF9.out.symm, b⟩
                  | true =>
                    by_cases hbad : 0 < x.2.2.2.2.2.1.length ∧ d.1.1 ≤ hT x.2.2.2.2.2.1 (x.2.2.2.2.2.1.length - 1)
                    · obtain ⟨hl0, hK⟩ := hbad
                      have hlast := (wants_at R5.out) hl0
                      obtain ⟨b5, off5, eA, hb5, hc5⟩ := hlast
                      obtain ⟨m, hm⟩ : ∃ m, x.2.2.2.2.2.1.length = m + 1 := ⟨x.2.2.2.2.2.1.length - 1, by omega⟩
                      have hc := (hc5 m (by omega)).1
                      subst eA
                      have HR := Lib.hid (wants_not hl0 hK)
                      rw [hm, show m + 1 - 1 = m by omega] at hK
                      have hlz : (0 : Int) < x.2.2.2.2.2.1.length := by omega
                      have hw1 : IntKind.i64.wrap ((x.2.2.2.2.2.1.length : Int) - 1) = (m : Int) := by rw [IntWalk.i64_in _ (by omega)]; omega
                      have hmz : (m : Int) < x.2.2.2.2.2.1.length := by omega
                      have hne : ¬ x.2.2.2.2.2.1 = [] := by
                        intro e
                        rw [e] at hl0
                        simp at hl0
                      have hbl : decide ((0 : Int) < (x.2.2.2.2.2.1.length : Int)) = true := decide_eq_true hlz
                      clear hc5 hm
                      obtain ⟨I, F, hI, hF0, hF, hFn⟩ := clsE wr
                      have fx0 := fun n => ((X.next (hF n)).c13.1).1
                      have fxl := fun n => (X.next (hF n)).lt
                      have fy5 := fun n => ((Y.next (hF n)).c9.1).2.2.2.2.2.1
                      have fyl := fun n => (Y.next (hF n)).lt
                      have hBb := fun n => b.trans ((hF n).mono b.size)
                      have fk := fun n => ((hBb n).cell (p := ⟨b5, off5 + m * 2, none⟩) (show b5 < w.heap.size by omega)).trans hc
                      have HFn := Lib.hid hFn
                      have HF := Lib.hid hF
                      have HF0 := Lib.hid hF0
                      have HB := Lib.hid hBb
                      clear hFn hF hF0 hBb
                      refine wp_region_cls (by kernel_rfl) (by kernel_rfl) HF0.out ?_
                      repeat (go_big_quiet_step ((go_at_call 81; refine (specWantsOk_any _ _ B x.2.2.2.2.2.1 _ hw5 (wants_at (R5.out.keep (HB.out _) hB))).mono ?_; rintro o w2 ⟨rfl, hb2⟩; rw [hW]; exact ⟨rfl, HFn.out _ _ hb2⟩)))
                      refine wpQuiet_nil ?_
                      rintro _ ⟨nq, rfl⟩
                      have X := X.next (HF.out nq)
                      have Y := Y.next (HF.out nq)
                      have b := HB.out nq
                      clear fx0 fxl fyl fy5 fk
                      generalize F nq = wq at X Y b
                      have HF9 := Lib.hid (eng_8 HG.out (wk_no3 (by rw [HR.out]; simp)))
                      go_wp2
                      go_ret
                      exact ⟨ret_bool HF9.out.symm, b⟩
                    have HW3 := Lib.hid (show (wantsB x.2.2.2.2.2.1 && x.2.2.2.2.2.1.all (wantIn d.1.1)) = true by rw [hW, wants_last hW (fun h => by omega)]; rfl)
                    go_cut [138] from 114 to 138 (fun s wx => s = .bool false ∧ Below w.heap.size w wx ∧ Bx wx w.heap.size [.int .i64 d.1.1, .int .i64 d.1.2.1, .int .i64 d.1.2.2.1, .bool d.1.2.2.2.1, .int .i64 d.1.2.2.2.2, .slice A5 (d.2.1).length c5, .slice (some ⟨bb, off, none⟩) (d.2.2.1).length c6, .slice A7 (d.2.2.2.1).length c7, .int .i64 d.2.2.2.2.1, .int .i64 d.2.2.2.2.2.1, .slice A10 (d.2.2.2.2.2.2.1).length c10, .int .i64 d.2.2.2.2.2.2.2.1, .int .i64 d.2.2.2.2.2.2.2.2] ∧ Bx wx b4 [.slice A0w (x.1).length c0w, .int .i64 x.2.1, .int .i64 x.2.2.1, .int .i64 x.2.2.2.1, .int .i64 x.2.2.2.2.1, .slice A5w (x.2.2.2.2.2.1).length c5w, .slice A6w (x.2.2.2.2.2.2.1).length c6w, .slice A7w (x.2.2.2.2.2.2.2.1).length c7w, .slice A8w (x.2.2.2.2.2.2.2.2).length c8w])
                    case first =>
                      by_cases hl0 : 0 < x.2.2.2.2.2.1.length
                      · have hlast := (wants_at R5.out) hl0
                        obtain ⟨b5, off5, eA, hb5, hc5⟩ := hlast
                        obtain ⟨m, hm⟩ : ∃ m, x.2.2.2.2.2.1.length = m + 1 := ⟨x.2.2.2.2.2.1.length - 1, by omega⟩
                        have hc := (hc5 m (by omega)).1
                        have hK : hT x.2.2.2.2.2.1 m < d.1.1 := by rw [hm, show m + 1 - 1 = m by omega] at hbad; omega
                        have hlz : (0 : Int) < x.2.2.2.2.2.1.length := by omega
                        have hw1 : IntKind.i64.wrap ((x.2.2.2.2.2.1.length : Int) - 1) = (m : Int) := by rw [IntWalk.i64_in _ (by omega)]; omega
                        subst eA
                        have hmz : (m : Int) < x.2.2.2.2.2.1.length := by omega
                        have hne : ¬ x.2.2.2.2.2.1 = [] := by
                          intro e
                          rw [e] at hl0
                          simp at hl0
                        have hbl : decide ((0 : Int) < (x.2.2.2.2.2.1.length : Int)) = true := decide_eq_true hlz
                        clear hc5 hbad hm
                        obtain ⟨I, F, hI, hF0, hF, hFn⟩ := clsE wr
                        have fx0 := fun n => ((X.next (hF n)).c13.1).1
                        have fxl := fun n => (X.next (hF n)).lt
                        have fy5 := fun n => ((Y.next (hF n)).c9.1).2.2.2.2.2.1
                        have fyl := fun n => (Y.next (hF n)).lt
                        have hBb := fun n => b.trans ((hF n).mono b.size)
                        have fk := fun n => ((hBb n).cell (p := ⟨b5, off5 + m * 2, none⟩) (show b5 < w.heap.size by omega)).trans hc
                        have HFn := Lib.hid hFn
                        have HF := Lib.hid hF
                        have HF0 := Lib.hid hF0
                        have HB := Lib.hid hBb
                        clear hFn hF hF0 hBb
                        refine wp_region_cls (by kernel_rfl) (by kernel_rfl) HF0.out ?_
                        repeat (go_big_quiet_step ((go_at_call 81; refine (specWantsOk_any _ _ B x.2.2.2.2.2.1 _ hw5 (wants_at (R5.out.keep (HB.out _) hB))).mono ?_; rintro o w2 ⟨rfl, hb2⟩; rw [hW]; exact ⟨rfl, HFn.out _ _ hb2⟩)))
                        refine wpQuiet_nil ?_
                        rintro _ ⟨nq, rfl⟩
                        have X := X.next (HF.out nq)
                        have Y := Y.next (HF.out nq)
                        have b := HB.out nq
                        clear fx0 fxl fyl fy5 fk
                        generalize F nq = wq at X Y b
                        go_wp2_with fail
                        go_meet
                        exact ⟨by first | rfl | rw [decide_eq_false (by omega)], b, X, Y⟩
                      · have hlz : ¬ (0 : Int) < x.2.2.2.2.2.1.length := by omega
                        clear hbad
                        obtain ⟨I, F, hI, hF0, hF, hFn⟩ := clsE wr
                        have fx0 := fun n => ((X.next (hF n)).c13.1).1
                        have fxl := fun n => (X.next (hF n)).lt
                        have fy5 := fun n => ((Y.next (hF n)).c9.1).2.2.2.2.2.1
                        have fyl := fun n => (Y.next (hF n)).lt
                        have hBb := fun n => b.trans ((hF n).mono b.size)
                        have HFn := Lib.hid hFn
                        have HF := Lib.hid hF
                        have HF0 := Lib.hid hF0
                        have HB := Lib.hid hBb
                        clear hFn hF hF0 hBb
                        refine wp_region_cls (by kernel_rfl) (by kernel_rfl) HF0.out ?_
                        repeat (go_big_quiet_step ((go_at_call 81; refine (specWantsOk_any _ _ B x.2.2.2.2.2.1 _ hw5 (wants_at (R5.out.keep (HB.out _) hB))).mono ?_; rintro o w2 ⟨rfl, hb2⟩; rw [hW]; exact ⟨rfl, HFn.out _ _ hb2⟩)))
                        refine wpQuiet_nil ?_
                        rintro _ ⟨nq, rfl⟩
                        have X := X.next (HF.out nq)
                        have Y := Y.next (HF.out nq)
                        have b := HB.out nq
                        clear fx0 fxl fyl fy5
                        generalize F nq = wq at X Y b
                        go_wp2_with fail
                        go_meet
                        exact ⟨rfl, b, X, Y⟩
                    case rest =>
                      clear b X Y hbad
                      obtain ⟨rfl, b, X, Y⟩ := hcut
                      obtain ⟨⟨x0, x1, x2, x3, x4, x5, x6, x7, x8, x9, x10, x11, x12⟩, _⟩ := X.c13
                      obtain ⟨⟨y0, y1, y2, y3, y4, y5, y6, y7, y8⟩, _⟩ := Y.c9
                      have Xl := X.lt
                      have Yl := Y.lt
                      go_wp2
                      clear x0 x1 x2 x3 x4 x5 x6 x7 x8 x9 x10 x11 x12 y0 y1 y2 y3 y4 y5 y6 y7 y8 Xl Yl
                      go_loopw [7] (fun i wr => ∃ j : Nat, j ≤ x.2.2.2.2.2.2.1.length ∧ i = .int .i64 j ∧ Below w.heap.size w wr ∧ Bx wr w.heap.size [.int .i64 d.1.1, .int .i64 d.1.2.1, .int .i64 d.1.2.2.1, .bool d.1.2.2.2.1, .int .i64 d.1.2.2.2.2, .slice A5 (d.2.1).length c5, .slice (some ⟨bb, off, none⟩) (d.2.2.1).length c6, .slice A7 (d.2.2.2.1).length c7, .int .i64 d.2.2.2.2.1, .int .i64 d.2.2.2.2.2.1, .slice A10 (d.2.2.2.2.2.2.1).length c10, .int .i64 d.2.2.2.2.2.2.2.1, .int .i64 d.2.2.2.2.2.2.2.2] ∧ Bx wr b4 [.slice A0w (x.1).length c0w, .int .i64 x.2.1, .int .i64 x.2.2.1, .int .i64 x.2.2.2.1, .int .i64 x.2.2.2.2.1, .slice A5w (x.2.2.2.2.2.1).length c5w, .slice A6w (x.2.2.2.2.2.2.1).length c6w, .slice A7w (x.2.2.2.2.2.2.2.1).length c7w, .slice A8w (x.2.2.2.2.2.2.2.2).length c8w] ∧ Hid (∀ i u, i < j → x.2.2.2.2.2.2.1[i]? = some u → seenIn d.1.1 u = true)) (fun i _ => x.2.2.2.2.2.2.1.length - (intOf i).toNat)
                      case atStart => exact ⟨0, Nat.zero_le _, rfl, b, X, Y, Lib.hid (fun i u hi => absurd hi (by omega))⟩
                      case round =>
                        clear b X Y
                        obtain ⟨j, hj, rfl, b, X, Y, HQ⟩ := hrel
                        obtain ⟨⟨x0, x1, x2, x3, x4, x5, x6, x7, x8, x9, x10, x11, x12⟩, _⟩ := X.c13
                        obtain ⟨⟨y0, y1, y2, y3, y4, y5, y6, y7, y8⟩, _⟩ := Y.c9
                        have Xl := X.lt
                        have Yl := Y.lt
                        by_cases hjn : j < x.2.2.2.2.2.2.1.length
                        · obtain ⟨b6, off6, eA, hb6, hc6⟩ := R6.out.2 (by omega)
                          have hjz : (j : Int) < x.2.2.2.2.2.2.1.length := by omega
                          have hget : x.2.2.2.2.2.2.1[j]? = some x.2.2.2.2.2.2.1[j] := List.getElem?_eq_getElem hjn
                          obtain ⟨v, hv, hat⟩ := hc6 j _ hget
                          generalize x.2.2.2.2.2.2.1[j] = a at hget hat
                          have ev := at_Seen hat
                          subst ev
                          subst eA
                          rw [show fSeen.n = 5 from rfl] at hv
                          have HV := Lib.hid hv
                          have HGe := Lib.hid hget
                          clear hc6 hat hv hget
                          have hw1 : IntKind.i64.wrap (d.1.1 - 1) = d.1.1 - 1 := IntWalk.i64_in _ (by omega)
                          go_wp2_with fail
                          clear x0 x1 x2 x3 x4 x5 x6 x7 x8 x9 x10 x11 x12 y0 y1 y2 y3 y4 y5 y6 y7 y8 Xl Yl
                          obtain ⟨I, F, hI, hF0, hF, hFn⟩ := clsE wr
                          have fx0 := fun n => ((X.next (hF n)).c13.1).1
                          have fxl := fun n => (X.next (hF n)).lt
                          have fy6 := fun n => ((Y.next (hF n)).c9.1).2.2.2.2.2.2.1
                          have fyl := fun n => (Y.next (hF n)).lt
                          have hBb := fun n => b.trans ((hF n).mono b.size)
                          have fa := fun n => (HV.out.below (hBb n) (show b6 < w.heap.size by omega)).c5.1
                          have HFn := Lib.hid hFn
                          have HF := Lib.hid hF
                          have HF0 := Lib.hid hF0
                          have HB := Lib.hid hBb
                          clear hFn hF hF0 hBb
                          cases hq : inB a.1 0 (d.1.1 - 1) with
                          | false =>
                            refine wp_region_cls (by kernel_rfl) (by kernel_rfl) HF0.out ?_
                            repeat (go_big_quiet_step ((go_at_call 28; refine (l01In_any _ _ _ _).mono ?_; rintro o w2 ⟨rfl, rfl⟩; rw [hq]; exact ⟨rfl, _, rfl⟩)))
                            refine wpQuiet_nil ?_
                            rintro _ ⟨nq, rfl⟩
                            have X := X.next (HF.out nq)
                            have Y := Y.next (HF.out nq)
                            have b := HB.out nq
                            clear fx0 fxl fyl fy6 fa
                            generalize F nq = wq at X Y b
                            have HF9 := Lib.hid (eng_8 HG.out (wk_no4 HGe.out hq))
                            go_wp2
                            go_ret
                            exact ⟨ret_bool HF9.out.symm, b⟩
                          | true =>
                            have HQ := Lib.hid (show ∀ i u, i < j + 1 → x.2.2.2.2.2.2.1[i]? = some u → seenIn d.1.1 u = true from fun i u hi hu => by
                              by_cases e : i = j
                              · subst e
                                rw [HGe.out] at hu
                                cases hu
                                exact hq
                              · exact HQ.out i u (by omega) hu)
                            refine wp_region_cls (by kernel_rfl) (by kernel_rfl) HF0.out ?_
                            repeat (go_big_quiet_step ((go_at_call 28; refine (l01In_any _ _ _ _).mono ?_; rintro o w2 ⟨rfl, rfl⟩; rw [hq]; exact ⟨rfl, _, rfl⟩)))
                            refine wpQuiet_nil ?_
                            rintro _ ⟨nq, rfl⟩
                            have X := X.next (HF.out nq)
                            have Y := Y.next (HF.out nq)
                            have b := HB.out nq
                            clear fx0 fxl fyl fy6 fa
                            generalize F nq = wq at X Y b
                            go_wp2
                            exact ⟨⟨j + 1, by omega, by go_num, b, X, Y, HQ⟩, by simp [intOf]; omega⟩
                        · obtain rfl : j = x.2.2.2.2.2.2.1.length := by omega
                          have HQ := Lib.hid (all_yesE HQ.out)
                          go_wp2
                          clear x0 x1 x2 x3 x4 x5 x6 x7 x8 x9 x10 x11 x12 y0 y1 y2 y3 y4 y5 y6 y7 y8 Xl Yl
                          go_loopw [8] (fun i wr => ∃ j : Nat, j ≤ x.2.2.2.2.2.2.2.1.length ∧ i = .int .i64 j ∧ Below w.heap.size w wr ∧ Bx wr w.heap.size [.int .i64 d.1.1, .int .i64 d.1.2.1, .int .i64 d.1.2.2.1, .bool d.1.2.2.2.1, .int .i64 d.1.2.2.2.2, .slice A5 (d.2.1).length c5, .slice (some ⟨bb, off, none⟩) (d.2.2.1).length c6, .slice A7 (d.2.2.2.1).length c7, .int .i64 d.2.2.2.2.1, .int .i64 d.2.2.2.2.2.1, .slice A10 (d.2.2.2.2.2.2.1).length c10, .int .i64 d.2.2.2.2.2.2.2.1, .int .i64 d.2.2.2.2.2.2.2.2] ∧ Bx wr b4 [.slice A0w (x.1).length c0w, .int .i64 x.2.1, .int .i64 x.2.2.1, .int .i64 x.2.2.2.1, .int .i64 x.2.2.2.2.1, .slice A5w (x.2.2.2.2.2.1).length c5w, .slice A6w (x.2.2.2.2.2.2.1).length c6w, .slice A7w (x.2.2.2.2.2.2.2.1).length c7w, .slice A8w (x.2.2.2.2.2.2.2.2).length c8w] ∧ Hid (∀ i u, i < j → x.2.2.2.2.2.2.2.1[i]? = some u → putIn d.1.1 u = true)) (fun i _ => x.2.2.2.2.2.2.2.1.length - (intOf i).toNat)
                          case atStart => exact ⟨0, Nat.zero_le _, rfl, b, X, Y, Lib.hid (fun i u hi => absurd hi (by omega))⟩
                          case round =>
                            clear b X Y
                            obtain ⟨j, hj, rfl, b, X, Y, HT⟩ := hrel
                            obtain ⟨⟨x0, x1, x2, x3, x4, x5, x6, x7, x8, x9, x10, x11, x12⟩, _⟩ := X.c13
                            obtain ⟨⟨y0, y1, y2, y3, y4, y5, y6, y7, y8⟩, _⟩ := Y.c9
                            have Xl := X.lt
                            have Yl := Y.lt
                            by_cases hjn : j < x.2.2.2.2.2.2.2.1.length
                            · obtain ⟨b7, off7, eA, hb7, hc7⟩ := R7.out.2 (by omega)
                              have hjz : (j : Int) < x.2.2.2.2.2.2.2.1.length := by omega
                              have hget : x.2.2.2.2.2.2.2.1[j]? = some x.2.2.2.2.2.2.2.1[j] := List.getElem?_eq_getElem hjn
                              obtain ⟨v, hv, hat⟩ := hc7 j _ hget
                              generalize x.2.2.2.2.2.2.2.1[j] = a at hget hat
                              have ev := at_Put hat
                              subst ev
                              subst eA
                              rw [show fPut.n = 2 from rfl] at hv
                              have HV := Lib.hid hv
                              have HGe := Lib.hid hget
                              clear hc7 hat hv hget
                              have hw1 : IntKind.i64.wrap (d.1.1 - 1) = d.1.1 - 1 := IntWalk.i64_in _ (by omega)
                              go_wp2_with fail
                              clear x0 x1 x2 x3 x4 x5 x6 x7 x8 x9 x10 x11 x12 y0 y1 y2 y3 y4 y5 y6 y7 y8 Xl Yl
                              obtain ⟨I, F, hI, hF0, hF, hFn⟩ := clsE wr
                              have fx0 := fun n => ((X.next (hF n)).c13.1).1
                              have fxl := fun n => (X.next (hF n)).lt
                              have fy7 := fun n => ((Y.next (hF n)).c9.1).2.2.2.2.2.2.2.1
                              have fyl := fun n => (Y.next (hF n)).lt
                              have hBb := fun n => b.trans ((hF n).mono b.size)
                              have fa := fun n => (HV.out.below (hBb n) (show b7 < w.heap.size by omega)).c2.1
                              have fb := fun n => (HV.out.below (hBb n) (show b7 < w.heap.size by omega)).c2.2
                              have HFn := Lib.hid hFn
                              have HF := Lib.hid hF
                              have HF0 := Lib.hid hF0
                              have HB := Lib.hid hBb
                              clear hFn hF hF0 hBb
                              cases hq : inB a.1 0 (d.1.1 - 1) with
                              | false =>
                                have hq2 : inB a.2 (-1000000) 1000000 = inB a.2 (-1000000) 1000000 := rfl
                                refine wp_region_cls (by kernel_rfl) (by kernel_rfl) HF0.out ?_
                                repeat (go_big_quiet_step ((first | (go_at_call 28; refine (l01In_any _ _ _ _).mono ?_; rintro o w2 ⟨rfl, rfl⟩; rw [hq]; exact ⟨rfl, _, rfl⟩) | (go_at_call 82; refine (specVal_any _ _).mono ?_; rintro o w2 ⟨rfl, rfl⟩; rw [show valB a.2 = inB a.2 (-1000000) 1000000 from rfl, hq2]; exact ⟨rfl, _, rfl⟩))))
                                refine wpQuiet_nil ?_
                                rintro _ ⟨nq, rfl⟩
                                have X := X.next (HF.out nq)
                                have Y := Y.next (HF.out nq)
                                have b := HB.out nq
                                clear fx0 fxl fyl fy7 fa fb
                                generalize F nq = wq at X Y b
                                have HF9 := Lib.hid (eng_8 HG.out (wk_no5 HGe.out (by unfold putIn; rw [hq]; rfl)))
                                go_wp2
                                go_ret
                                exact ⟨ret_bool HF9.out.symm, b⟩
                              | true =>
                                cases hq2 : inB a.2 (-1000000) 1000000 with
                                | false =>
                                  refine wp_region_cls (by kernel_rfl) (by kernel_rfl) HF0.out ?_
                                  repeat (go_big_quiet_step ((first | (go_at_call 28; refine (l01In_any _ _ _ _).mono ?_; rintro o w2 ⟨rfl, rfl⟩; rw [hq]; exact ⟨rfl, _, rfl⟩) | (go_at_call 82; refine (specVal_any _ _).mono ?_; rintro o w2 ⟨rfl, rfl⟩; rw [show valB a.2 = inB a.2 (-1000000) 1000000 from rfl, hq2]; exact ⟨rfl, _, rfl⟩))))
                                  refine wpQuiet_nil ?_
                                  rintro _ ⟨nq, rfl⟩
                                  have X := X.next (HF.out nq)
                                  have Y := Y.next (HF.out nq)
                                  have b := HB.out nq
                                  clear fx0 fxl fyl fy7 fa fb
                                  generalize F nq = wq at X Y b
                                  have HF9 := Lib.hid (eng_8 HG.out (wk_no5 HGe.out (by unfold putIn; rw [hq, hq2]; rfl)))
                                  go_wp2
                                  go_ret
                                  exact ⟨ret_bool HF9.out.symm, b⟩
                                | true =>
                                  have HT := Lib.hid (show ∀ i u, i < j + 1 → x.2.2.2.2.2.2.2.1[i]? = some u → putIn d.1.1 u = true from fun i u hi hu => by
                                    by_cases e : i = j
                                    · subst e
                                      rw [HGe.out] at hu
                                      cases hu
                                      exact (by unfold putIn; rw [hq, hq2]; rfl)
                                    · exact HT.out i u (by omega) hu)
                                  refine wp_region_cls (by kernel_rfl) (by kernel_rfl) HF0.out ?_
                                  repeat (go_big_quiet_step ((first | (go_at_call 28; refine (l01In_any _ _ _ _).mono ?_; rintro o w2 ⟨rfl, rfl⟩; rw [hq]; exact ⟨rfl, _, rfl⟩) | (go_at_call 82; refine (specVal_any _ _).mono ?_; rintro o w2 ⟨rfl, rfl⟩; rw [show valB a.2 = inB a.2 (-1000000) 1000000 from rfl, hq2]; exact ⟨rfl, _, rfl⟩))))
                                  refine wpQuiet_nil ?_
                                  rintro _ ⟨nq, rfl⟩
                                  have X := X.next (HF.out nq)
                                  have Y := Y.next (HF.out nq)
                                  have b := HB.out nq
                                  clear fx0 fxl fyl fy7 fa fb
                                  generalize F nq = wq at X Y b
                                  go_wp2
                                  exact ⟨⟨j + 1, by omega, by go_num, b, X, Y, HT⟩, by simp [intOf]; omega⟩
                            · obtain rfl : j = x.2.2.2.2.2.2.2.1.length := by omega
                              have HT := Lib.hid (all_yesE HT.out)
                              go_wp2_with fail
                              clear x0 x1 x2 x3 x4 x5 x6 x7 x8 x9 x10 x11 x12 y0 y1 y2 y3 y4 y5 y6 y7 y8 Xl Yl
                              by_cases h2 : x.2.2.1 = 2
                              case neg =>
                                have hbe : (x.2.2.1 == 2) = false := by simpa using h2
                                have HPC := Lib.hid (show pcIn x = true by unfold pcIn; rw [decide_eq_false h2]; rfl)
                                have HA := Lib.hid (show ∀ i u, i < k + 1 → d.2.2.1[i]? = some u → wkOk d.1.1 u = true from fun i u hi hu => by
                                  by_cases e : i = k
                                  · subst e
                                    rw [HG.out] at hu
                                    cases hu
                                    exact wk_yes HHD.out HP.out HW3.out HQ.out HT.out HPC.out
                                  · exact HA.out i u (by omega) hu)
                                have hd : doneW x = doneW x := rfl
                                obtain ⟨I, F, hI, hF0, hF, hFn⟩ := clsE wr
                                have fx0 := fun n => ((X.next (hF n)).c13.1).1
                                have fxl := fun n => (X.next (hF n)).lt
                                have fy2 := fun n => ((Y.next (hF n)).c9.1).2.2.1
                                have fyl := fun n => (Y.next (hF n)).lt
                                have hBb := fun n => b.trans ((hF n).mono b.size)
                                have HFn := Lib.hid hFn
                                have HF := Lib.hid hF
                                have HF0 := Lib.hid hF0
                                have HB := Lib.hid hBb
                                clear hFn hF hF0 hBb
                                refine wp_region_cls (by kernel_rfl) (by kernel_rfl) HF0.out ?_
                                repeat (go_big_quiet_step ((go_at_call 83; refine (specDone_any x B _ _ (HATF.out _)).mono ?_; rintro o w2 ⟨rfl, hb2⟩; rw [hd]; exact ⟨rfl, HFn.out _ _ hb2⟩)))
                                refine wpQuiet_nil ?_
                                rintro _ ⟨nq, rfl⟩
                                have X := X.next (HF.out nq)
                                have Y := Y.next (HF.out nq)
                                have b := HB.out nq
                                clear fx0 fxl fyl fy2
                                generalize F nq = wq at X Y b
                                go_wp2
                                exact ⟨⟨k + 1, by omega, by go_num, b, X, HA⟩, by simp [intOf]; omega⟩
                              have hbe : (x.2.2.1 == 2) = true := by simp [h2]
                              have H2 := Lib.hid h2
                              clear h2
                              cases hd : doneW x with
                              | true =>
                                have HPC := Lib.hid (show pcIn x = true by
                                  have h1 : decide ((x.1.length : Int) ≤ x.2.1) = true := hd
                                  unfold pcIn
                                  rw [h1]
                                  simp)
                                have HA := Lib.hid (show ∀ i u, i < k + 1 → d.2.2.1[i]? = some u → wkOk d.1.1 u = true from fun i u hi hu => by
                                  by_cases e : i = k
                                  · subst e
                                    rw [HG.out] at hu
                                    cases hu
                                    exact wk_yes HHD.out HP.out HW3.out HQ.out HT.out HPC.out
                                  · exact HA.out i u (by omega) hu)
                                obtain ⟨I, F, hI, hF0, hF, hFn⟩ := clsE wr
                                have fx0 := fun n => ((X.next (hF n)).c13.1).1
                                have fxl := fun n => (X.next (hF n)).lt
                                have fy0 := fun n => ((Y.next (hF n)).c9.1).1
                                have fy1 := fun n => ((Y.next (hF n)).c9.1).2.1
                                have fy2 := fun n => ((Y.next (hF n)).c9.1).2.2.1
                                have fy3 := fun n => ((Y.next (hF n)).c9.1).2.2.2.1
                                have fy4 := fun n => ((Y.next (hF n)).c9.1).2.2.2.2.1
                                have fy5 := fun n => ((Y.next (hF n)).c9.1).2.2.2.2.2.1
                                have fy6 := fun n => ((Y.next (hF n)).c9.1).2.2.2.2.2.2.1
                                have fy7 := fun n => ((Y.next (hF n)).c9.1).2.2.2.2.2.2.2.1
                                have fy8 := fun n => ((Y.next (hF n)).c9.1).2.2.2.2.2.2.2.2
                                have fyl := fun n => (Y.next (hF n)).lt
                                have hBb := fun n => b.trans ((hF n).mono b.size)
                                have hATF := fun n => fWorker.at_same HATW.out (.of (hBb n) hB)
                                have HATF := Lib.hid hATF
                                clear hATF
                                have HFn := Lib.hid hFn
                                have HF := Lib.hid hF
                                have HF0 := Lib.hid hF0
                                have HB := Lib.hid hBb
                                clear hFn hF hF0 hBb
                                refine wp_region_cls (by kernel_rfl) (by kernel_rfl) HF0.out ?_
                                repeat (go_big_quiet_step ((go_at_call 83; refine (specDone_any x B _ _ (HATF.out _)).mono ?_; rintro o w2 ⟨rfl, hb2⟩; rw [hd]; exact ⟨rfl, HFn.out _ _ hb2⟩)))
                                refine wpQuiet_nil ?_
                                rintro _ ⟨nq, rfl⟩
                                have X := X.next (HF.out nq)
                                have Y := Y.next (HF.out nq)
                                have b := HB.out nq
                                clear fx0 fxl fyl fy0 fy1 fy2 fy3 fy4 fy5 fy6 fy7 fy8
                                generalize F nq = wq at X Y b
                                go_wp2
                                exact ⟨⟨k + 1, by omega, by go_num, b, X, HA⟩, by simp [intOf]; omega⟩
                              | false =>
                                have hnd : ¬ (x.1.length : Int) ≤ x.2.1 := of_decide_eq_false hd
                                obtain ⟨t, ht⟩ : ∃ t : Nat, x.2.1 = (t : Int) := ⟨x.2.1.toNat, by omega⟩
                                have htn : t < x.1.length := by omega
                                obtain ⟨b0, off0, eA, hb0, hc0⟩ := R0.out.2 (by omega)
                                obtain ⟨p, hget⟩ : ∃ p, x.1[t]? = some p := ⟨x.1[t], List.getElem?_eq_getElem htn⟩
                                obtain ⟨v, hv, Ap, cp, ev, rp⟩ := hc0 t _ hget
                                subst ev
                                subst eA
                                rw [show (rowF fAct).n = 1 from rfl, Nat.mul_one] at hv
                                have HV := Lib.hid hv
                                have HEE := Lib.hid (show pcIn x = decide (x.2.2.2.1 < (p.length : Int)) by
                                  unfold pcIn
                                  rw [decide_eq_true H2.out, decide_eq_false hnd, ht, show (t : Int).toNat = t from rfl, List.getD_eq_getElem?_getD, hget]
                                  rfl)
                                have hpm := rp.1
                                unfold maxLen at hpm
                                have htl : (t : Int) < x.1.length := by omega
                                obtain ⟨I, F, hI, hF0, hF, hFn⟩ := clsE wr
                                have fx0 := fun n => ((X.next (hF n)).c13.1).1
                                have fxl := fun n => (X.next (hF n)).lt
                                have fy0 := fun n => ((Y.next (hF n)).c9.1).1
                                have fy1 := fun n => ((Y.next (hF n)).c9.1).2.1
                                have fy2 := fun n => ((Y.next (hF n)).c9.1).2.2.1
                                have fy3 := fun n => ((Y.next (hF n)).c9.1).2.2.2.1
                                have fy4 := fun n => ((Y.next (hF n)).c9.1).2.2.2.2.1
                                have fy5 := fun n => ((Y.next (hF n)).c9.1).2.2.2.2.2.1
                                have fy6 := fun n => ((Y.next (hF n)).c9.1).2.2.2.2.2.2.1
                                have fy7 := fun n => ((Y.next (hF n)).c9.1).2.2.2.2.2.2.2.1
                                have fy8 := fun n => ((Y.next (hF n)).c9.1).2.2.2.2.2.2.2.2
                                have fyl := fun n => (Y.next (hF n)).lt
                                have hBb := fun n => b.trans ((hF n).mono b.size)
                                have fa := fun n => (HV.out.below (hBb n) (show b0 < w.heap.size by omega)).c1
                                have hATF := fun n => fWorker.at_same HATW.out (.of (hBb n) hB)
                                have HATF := Lib.hid hATF
                                clear hATF
                                have HFn := Lib.hid hFn
                                have HF := Lib.hid hF
                                have HF0 := Lib.hid hF0
                                have HB := Lib.hid hBb
                                clear hFn hF hF0 hBb
                                rw [ht] at fy1
                                have hATF2 : ∀ n, fWorker.At (F n) B x [.slice (some ⟨b0, off0, none⟩) (x.1).length c0w, .int .i64 (t : Int), .int .i64 x.2.2.1, .int .i64 x.2.2.2.1, .int .i64 x.2.2.2.2.1, .slice A5w (x.2.2.2.2.2.1).length c5w, .slice A6w (x.2.2.2.2.2.2.1).length c6w, .slice A7w (x.2.2.2.2.2.2.2.1).length c7w, .slice A8w (x.2.2.2.2.2.2.2.2).length c8w] := fun n => by
                                  have h := HATF.out n
                                  rw [ht] at h
                                  exact h
                                clear HATF
                                have HATF := Lib.hid hATF2
                                clear hATF2
                                clear hc0 hget hv rp HV
                                by_cases hm : x.2.2.2.1 < (p.length : Int)
                                · have HPC := Lib.hid (HEE.out.trans (decide_eq_true hm))
                                  have HA := Lib.hid (show ∀ i u, i < k + 1 → d.2.2.1[i]? = some u → wkOk d.1.1 u = true from fun i u hi hu => by
                                    by_cases e : i = k
                                    · subst e
                                      rw [HG.out] at hu
                                      cases hu
                                      exact wk_yes HHD.out HP.out HW3.out HQ.out HT.out HPC.out
                                    · exact HA.out i u (by omega) hu)
                                  refine wp_region_cls (by kernel_rfl) (by kernel_rfl) HF0.out ?_
                                  repeat (go_big_quiet_step ((go_at_call 83; refine (specDone_any x B _ _ (HATF.out _)).mono ?_; rintro o w2 ⟨rfl, hb2⟩; rw [hd]; exact ⟨rfl, HFn.out _ _ hb2⟩)))
                                  refine wpQuiet_nil ?_
                                  rintro _ ⟨nq, rfl⟩
                                  have X := X.next (HF.out nq)
                                  have Y := Y.next (HF.out nq)
                                  have b := HB.out nq
                                  clear fx0 fxl fyl fy0 fy1 fy2 fy3 fy4 fy5 fy6 fy7 fy8 fa
                                  generalize F nq = wq at X Y b
                                  go_wp2
                                  exact ⟨⟨k + 1, by omega, by go_num, b, X, HA⟩, by simp [intOf]; omega⟩
                                · have HPC := Lib.hid (HEE.out.trans (decide_eq_false hm))
                                  have hm' : (p.length : Int) ≤ x.2.2.2.1 := by omega
                                  refine wp_region_cls (by kernel_rfl) (by kernel_rfl) HF0.out ?_
                                  repeat (go_big_quiet_step ((go_at_call 83; refine (specDone_any x B _ _ (HATF.out _)).mono ?_; rintro o w2 ⟨rfl, hb2⟩; rw [hd]; exact ⟨rfl, HFn.out _ _ hb2⟩)))
                                  refine wpQuiet_nil ?_
                                  rintro _ ⟨nq, rfl⟩
                                  have X := X.next (HF.out nq)
                                  have Y := Y.next (HF.out nq)
                                  have b := HB.out nq
                                  clear fx0 fxl fyl fy0 fy1 fy2 fy3 fy4 fy5 fy6 fy7 fy8 fa
                                  generalize F nq = wq at X Y b
                                  have HF9 := Lib.hid (eng_8 HG.out (wk_no6 HPC.out))
                                  go_wp2
                                  go_ret
                                  exact ⟨ret_bool HF9.out.symm, b⟩
end Go.Proofs.YtkpkjcmoldkmmaaGreat
