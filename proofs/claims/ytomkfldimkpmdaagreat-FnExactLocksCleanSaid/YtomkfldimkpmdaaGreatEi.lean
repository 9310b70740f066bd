/- EngineOk of the program: progsOk, attemptOk. -/
import Derived.Test.YtomkfldimkpmdaaGreatEm
namespace Go.Proofs.YtomkfldimkpmdaaGreat
open Go.RowKit

set_option maxHeartbeats 1600000 in
set_option maxRecDepth 100000 in
theorem implProgsOk_any (A : Option Addr) (c B : Nat) (l : List (List DAct)) (K : Int) (w : World) (hB : B ≤ w.heap.size) (r : RAt (rowF fAct) w B A l) :
    Calls Tryz.prog 156 #[.slice A l.length c, .int .i64 K] w fun e w' => e = .returned (.bool (l.all (progIn K))) ∧ Below w.heap.size w w' := by
  have hmx := r.1
  unfold maxLen at hmx
  go_enter Tryz.func156, Tryz.ntmps156
  go_wp2
  go_loopw [11] (fun i wr => ∃ k : Nat, k ≤ l.length ∧ i = .int .i64 k ∧ Below w.heap.size w wr ∧ Hid (∀ j p, j < k → l[j]? = some p → progIn K p = true)) (fun i _ => l.length - (intOf i).toNat)
  case atStart => exact ⟨0, Nat.zero_le _, rfl, Below.refl _ _, Lib.hid (fun j p hj => absurd hj (by omega))⟩
  case round =>
    obtain ⟨k, hk, rfl, hb, HA⟩ := hrel
    by_cases hkn : k < l.length
    · obtain ⟨b, off, rfl, hbB, hc⟩ := r.2 (by omega)
      have hkz : (k : Int) < l.length := by omega
      have hget : l[k]? = some l[k] := List.getElem?_eq_getElem hkn
      obtain ⟨v, hv0, hat0⟩ := hc k _ hget
      have hsz := hb.size
      have hv := hv0.below hb (show b < w.heap.size by omega)
      have hat := (rowF fAct).at_same hat0 (.of hb hB)
      rw [show (rowF fAct).n = 1 from rfl] at hv
      generalize l[k] = p at hget hat hv
      obtain ⟨A0, c0, rfl, r0⟩ := hat
      have a0 := hv.c1
      rw [Nat.mul_one] at a0
      have hpm := r0.1
      unfold maxLen at hpm
      have hBw : B ≤ wr.heap.size := by omega
      have HG := Lib.hid hget
      clear hc hv0 hat0 hv hget
      go_wp2_with fail
      refine (implProgOk_any A0 p.length c0 (actF p) _ (acts_at (r0.up hBw))).mono ?_; rintro e w2 ⟨rfl, hb2⟩
      have r2 := r0.keep hb2 hBw
      have hb3 := hb.trans (hb2.mono hsz)
      clear r0 hb2 a0 hb
      cases hp : progOk p.length (actF p) with
      | false =>
        have HF := Lib.hid (all_noE HG.out (show progIn K p = false by unfold progIn; rw [hp, Bool.false_and]))
        go_wp2
        go_ret
        exact ⟨ret_bool HF.out.symm, hb3⟩
      | true =>
        have HP := Lib.hid hp
        clear hp
        have hs3 := hb3.size
        have hB2 : B ≤ w2.heap.size := by omega
        go_wp2
        go_loopw [20] (fun i wr => ∃ j : Nat, j ≤ p.length ∧ i = .int .i64 j ∧ Below w2.heap.size w2 wr ∧ Hid (∀ q a, q < j → p[q]? = some a → a.2.1 < K)) (fun i _ => p.length - (intOf i).toNat)
        case atStart => exact ⟨0, Nat.zero_le _, rfl, Below.refl _ _, Lib.hid (fun q a hq => absurd hq (by omega))⟩
        case round =>
          obtain ⟨j, hj, rfl, hb, HJ⟩ := hrel
          by_cases hjn : j < p.length
          · obtain ⟨b2, off2, rfl, hbB2, hc2⟩ := r2.2 (by omega)
            have hjz : (j : Int) < p.length := by omega
            have hget : p[j]? = some p[j] := List.getElem?_eq_getElem hjn
            obtain ⟨v, hv0, hat0⟩ := hc2 j _ hget
            have hv := hv0.below hb (show b2 < w2.heap.size by omega)
            generalize p[j] = a at hget hat0
            have ev := at_Act hat0
            subst ev
            rw [show fAct.n = 3 from rfl] at hv
            obtain ⟨a0, a1, a2⟩ := hv.c3
            have hsz := hb.size
            clear hc2 hv0 hat0 hv
            by_cases hK : K ≤ a.2.1
            · have HF := Lib.hid (all_noE HG.out (show progIn K p = false by
                unfold progIn
                rw [all_noE hget (by rw [decide_eq_false_iff_not]; omega), Bool.and_false]))
              clear hget
              go_wp2
              go_ret
              exact ⟨ret_bool HF.out.symm, hb3.trans ((hb.alloc hsz _).mono hs3)⟩
            · have HJ := Lib.hid (show ∀ q a, q < j + 1 → p[q]? = some a → a.2.1 < K from fun q x hq hx => by
                by_cases e : q = j
                · subst e
                  rw [hget] at hx
                  cases hx
                  omega
                · exact HJ.out q x (by omega) hx)
              clear hget
              go_wp2
              exact ⟨⟨j + 1, by omega, by go_num, hb.alloc hsz _, HJ⟩, by simp [intOf]; omega⟩
          · obtain rfl : j = p.length := by omega
            have HA := Lib.hid (show ∀ j q, j < k + 1 → l[j]? = some q → progIn K q = true from fun j q hj hq => by
              by_cases e : j = k
              · subst e
                rw [HG.out] at hq
                cases hq
                unfold progIn
                rw [HP.out, Bool.true_and]
                exact all_yesE (fun i a hi ha => by rw [decide_eq_true_eq]; exact HJ.out i a hi ha)
              · exact HA.out j q (by omega) hq)
            go_wp2
            exact ⟨⟨k + 1, by omega, by go_num, hb3.trans (hb.mono hs3), HA⟩, by simp [intOf]; omega⟩
    · obtain rfl : k = l.length := by omega
      have HT := Lib.hid (all_yesE HA.out)
      go_wp2
      go_ret
      exact ⟨ret_bool HT.out.symm, hb⟩
theorem inK (k K : Int) : inB k 0 (K - 1) = (decide (0 ≤ k) && decide (k < K)) := by
  unfold inB
  rw [show decide (k ≤ K - 1) = decide (k < K) by rw [decide_eq_decide]; omega]
theorem hasKey_any (k K : Int) (P : Nat) (w : World) (hc : w.cell? ⟨P, 0, none⟩ = some (.int .i64 K)) (_hP : P < w.heap.size) :
    Calls Tryz.prog 205 #[.int .i64 k, .pointer (some ⟨P, 0, none⟩)] w fun e w' => e = .returned (.bool (inB k 0 (K - 1))) ∧ w = w' := by
  rw [inK]
  by_cases h0 : 0 ≤ k
  · by_cases h1 : k < K
    · go_enter Tryz.func205, Tryz.ntmps205
      go_wp2
      go_ret
      exact ⟨ret_bool (by simp [h0, h1]), rfl⟩
    · go_enter Tryz.func205, Tryz.ntmps205
      go_wp2
      go_ret
      exact ⟨ret_bool (by simp [h1]), rfl⟩
  · go_enter Tryz.func205, Tryz.ntmps205
    go_wp2
    go_ret
    exact ⟨ret_bool (by simp; omega), rfl⟩
def attB (K : Int) (x : DWorker) : Bool := x.2.2.2.2.2.1.all (wantIn K) && (x.2.2.2.2.2.2.1.all (seenIn K) && (x.2.2.2.2.2.2.2.1.all (putIn K) && wantsB x.2.2.2.2.2.1))
theorem valueOkE_any (v : Int) (w : World) : Calls Tryz.prog 200 #[.int .i64 v] w fun e w' => e = .returned (.bool (inB v (-1000000) 1000000)) ∧ w = w' := by
  by_cases h0 : -1000000 ≤ v
  · by_cases h1 : v ≤ 1000000
    · go_enter Tryz.func200, Tryz.ntmps200
      go_wp2
      go_ret
      exact ⟨ret_bool (by simp [inB, h0, h1]), rfl⟩
    · go_enter Tryz.func200, Tryz.ntmps200
      go_wp2
      go_ret
      exact ⟨ret_bool (by simp [inB, h1]), rfl⟩
  · go_enter Tryz.func200, Tryz.ntmps200
    go_wp2
    go_ret
    exact ⟨ret_bool (by simp [inB]; omega), rfl⟩
set_option maxHeartbeats 6400000 in
set_option maxRecDepth 100000 in
theorem implAttemptOk_any (x : DWorker) (K : Int) (B : Nat) (vs : List Value) (w : World) (hs : fWorker.cnt x ≤ 1048576) (hB : B ≤ w.heap.size) (h : fWorker.At w B x vs) :
    Calls Tryz.prog 157 #[.agg vs.toArray, .int .i64 K] w fun e w' => e = .returned (.bool (attB K x)) ∧ Below w.heap.size w w' := by
  obtain ⟨A0, c0, A5, c5, A6, c6, A7, c7, A8, c8, rfl, r0, r5, r6, r7, r8⟩ := at_Worker h
  rw [cnt_Worker, row_cnt fWant] at hs
  have hm5 := r5.1
  have hm6 := r6.1
  have hm7 := r7.1
  unfold maxLen at hm5 hm6 hm7
  clear h r0 r8
  go_enter Tryz.func157, Tryz.ntmps157
  go_wp2_with fail
  have b := ((Below.refl w.heap.size w).alloc (Nat.le_refl _) (.cells #[.slice A0 (x.1).length c0, .int .i64 x.2.1, .int .i64 x.2.2.1, .int .i64 x.2.2.2.1, .int .i64 x.2.2.2.2.1, .slice A5 (x.2.2.2.2.2.1).length c5, .slice A6 (x.2.2.2.2.2.2.1).length c6, .slice A7 (x.2.2.2.2.2.2.2.1).length c7, .slice A8 (x.2.2.2.2.2.2.2.2).length c8] 73)).alloc (by simp) (.cells #[.int .i64 K] 3)
  have X := (Bx.new (w := w) (c := #[.slice A0 (x.1).length c0, .int .i64 x.2.1, .int .i64 x.2.2.1, .int .i64 x.2.2.2.1, .int .i64 x.2.2.2.2.1, .slice A5 (x.2.2.2.2.2.1).length c5, .slice A6 (x.2.2.2.2.2.2.1).length c6, .slice A7 (x.2.2.2.2.2.2.2.1).length c7, .slice A8 (x.2.2.2.2.2.2.2.2).length c8]) (t := 73) rfl).alloc (.cells #[.int .i64 K] 3)
  have P := Bx.new (w := w.alloc (.cells #[.slice A0 (x.1).length c0, .int .i64 x.2.1, .int .i64 x.2.2.1, .int .i64 x.2.2.2.1, .int .i64 x.2.2.2.2.1, .slice A5 (x.2.2.2.2.2.1).length c5, .slice A6 (x.2.2.2.2.2.2.1).length c6, .slice A7 (x.2.2.2.2.2.2.2.1).length c7, .slice A8 (x.2.2.2.2.2.2.2.2).length c8] 73)) (b := w.heap.size + 1) (c := #[.int .i64 K]) (t := 3) (by simp)
  generalize (w.alloc (.cells #[.slice A0 (x.1).length c0, .int .i64 x.2.1, .int .i64 x.2.2.1, .int .i64 x.2.2.2.1, .int .i64 x.2.2.2.2.1, .slice A5 (x.2.2.2.2.2.1).length c5, .slice A6 (x.2.2.2.2.2.2.1).length c6, .slice A7 (x.2.2.2.2.2.2.2.1).length c7, .slice A8 (x.2.2.2.2.2.2.2.2).length c8] 73)).alloc (.cells #[.int .i64 K] 3) = w1 at b X P ⊢
  obtain ⟨⟨x0, x1, x2, x3, x4, x5, x6, x7, x8⟩, _⟩ := X.c9
  have Xl := X.lt
  go_wp2_with fail
  clear x0 x1 x2 x3 x4 x5 x6 x7 x8 Xl
  go_loopw [16] (fun i wr => ∃ k : Nat, k ≤ x.2.2.2.2.2.1.length ∧ i = .int .i64 k ∧ Below w.heap.size w wr ∧ Bx wr w.heap.size [.slice A0 (x.1).length c0, .int .i64 x.2.1, .int .i64 x.2.2.1, .int .i64 x.2.2.2.1, .int .i64 x.2.2.2.2.1, .slice A5 (x.2.2.2.2.2.1).length c5, .slice A6 (x.2.2.2.2.2.2.1).length c6, .slice A7 (x.2.2.2.2.2.2.2.1).length c7, .slice A8 (x.2.2.2.2.2.2.2.2).length c8] ∧ Bx wr (w.heap.size + 1) [.int .i64 K] ∧ Hid (∀ j a, j < k → x.2.2.2.2.2.1[j]? = some a → wantIn K a = true)) (fun i _ => x.2.2.2.2.2.1.length - (intOf i).toNat)
  case atStart => exact ⟨0, Nat.zero_le _, rfl, b, X, P, Lib.hid (fun j a hj => absurd hj (by omega))⟩
  case round =>
    clear b X P
    obtain ⟨k, hk, rfl, b, X, P, HA0⟩ := hrel
    obtain ⟨⟨x0, x1, x2, x3, x4, x5, x6, x7, x8⟩, _⟩ := X.c9
    have Xl := X.lt
    have p0 := P.cell 0 _ rfl
    have Pl := P.lt
    have hsz := b.size
    by_cases hkn : k < x.2.2.2.2.2.1.length
    · obtain ⟨bb, off, eA, hbB, hc⟩ := r5.2 (by omega)
      subst eA
      have hkz : (k : Int) < x.2.2.2.2.2.1.length := by omega
      have hget : x.2.2.2.2.2.1[k]? = some x.2.2.2.2.2.1[k] := List.getElem?_eq_getElem hkn
      obtain ⟨v, hv0, hat0⟩ := hc k _ hget
      have hv := hv0.below b (show bb < w.heap.size by omega)
      generalize x.2.2.2.2.2.1[k] = a at hget hat0
      have ev := at_Want hat0
      subst ev
      rw [show fWant.n = 2 from rfl] at hv
      obtain ⟨a0, a1⟩ := hv.c2
      have HG := Lib.hid hget
      clear hc hv0 hat0 hv
      have b2 := b.alloc hsz (.cells #[.int .i64 a.1, .bool a.2] 143)
      have X2 := X.alloc (.cells #[.int .i64 a.1, .bool a.2] 143)
      have P2 := P.alloc (.cells #[.int .i64 a.1, .bool a.2] 143)
      have p2 := P2.cell 0 _ rfl
      have Pl2 := P2.lt
      clear b X P hget
      cases hq0 : inB a.1 0 (K - 1) with
      | false =>
        have HF := Lib.hid (show attB K x = false by
          have hq : wantIn K a = false := by unfold wantIn; simp [hq0]
          unfold attB
          rw [all_noE HG.out hq]
          simp)
        go_wp2_with fail
        refine (hasKey_any a.1 K _ _ p2 Pl2).mono ?_; rintro o w' ⟨rfl, rfl⟩
        rw [hq0]
        clear p0 p2
        go_wp2
        go_ret
        exact ⟨ret_bool HF.out.symm, b2⟩
      | true =>
        have HA0 := Lib.hid (show ∀ j u, j < k + 1 → x.2.2.2.2.2.1[j]? = some u → wantIn K u = true from fun j u hj hu => by
          by_cases e : j = k
          · subst e
            rw [HG.out] at hu
            cases hu
            exact hq0
          · exact HA0.out j u (by omega) hu)
        go_wp2_with fail
        refine (hasKey_any a.1 K _ _ p2 Pl2).mono ?_; rintro o w' ⟨rfl, rfl⟩
        rw [hq0]
        clear p0 p2
        go_wp2
        exact ⟨⟨k + 1, by omega, by go_num, b2, X2, P2, HA0⟩, by simp [intOf]; omega⟩
    · obtain rfl : k = x.2.2.2.2.2.1.length := by omega
      have HT0 := Lib.hid (all_yesE HA0.out)
      clear HA0
      go_wp2_with fail
      clear x0 x1 x2 x3 x4 x5 x6 x7 x8 Xl p0 Pl hkn hk
      go_loopw [29] (fun i wr => ∃ k : Nat, k ≤ x.2.2.2.2.2.2.1.length ∧ i = .int .i64 k ∧ Below w.heap.size w wr ∧ Bx wr w.heap.size [.slice A0 (x.1).length c0, .int .i64 x.2.1, .int .i64 x.2.2.1, .int .i64 x.2.2.2.1, .int .i64 x.2.2.2.2.1, .slice A5 (x.2.2.2.2.2.1).length c5, .slice A6 (x.2.2.2.2.2.2.1).length c6, .slice A7 (x.2.2.2.2.2.2.2.1).length c7, .slice A8 (x.2.2.2.2.2.2.2.2).length c8] ∧ Bx wr (w.heap.size + 1) [.int .i64 K] ∧ Hid (∀ j a, j < k → x.2.2.2.2.2.2.1[j]? = some a → seenIn K a = true)) (fun i _ => x.2.2.2.2.2.2.1.length - (intOf i).toNat)
      case atStart => exact ⟨0, Nat.zero_le _, rfl, b, X, P, Lib.hid (fun j a hj => absurd hj (by omega))⟩
      case round =>
        clear b X P
        obtain ⟨k, hk, rfl, b, X, P, HA1⟩ := hrel
        obtain ⟨⟨x0, x1, x2, x3, x4, x5, x6, x7, x8⟩, _⟩ := X.c9
        have Xl := X.lt
        have p0 := P.cell 0 _ rfl
        have Pl := P.lt
        have hsz := b.size
        by_cases hkn : k < x.2.2.2.2.2.2.1.length
        · obtain ⟨bb, off, eA, hbB, hc⟩ := r6.2 (by omega)
          subst eA
          have hkz : (k : Int) < x.2.2.2.2.2.2.1.length := by omega
          have hget : x.2.2.2.2.2.2.1[k]? = some x.2.2.2.2.2.2.1[k] := List.getElem?_eq_getElem hkn
          obtain ⟨v, hv0, hat0⟩ := hc k _ hget
          have hv := hv0.below b (show bb < w.heap.size by omega)
          generalize x.2.2.2.2.2.2.1[k] = a at hget hat0
          have ev := at_Seen hat0
          subst ev
          rw [show fSeen.n = 5 from rfl] at hv
          obtain ⟨a0, a1, a2, a3, a4⟩ := hv.c5
          have HG := Lib.hid hget
          clear hc hv0 hat0 hv
          have b2 := b.alloc hsz (.cells #[.int .i64 a.1, .int .i64 a.2.1.1, .int .i64 a.2.1.2.1, .bool a.2.1.2.2, .int .i64 a.2.2] 145)
          have X2 := X.alloc (.cells #[.int .i64 a.1, .int .i64 a.2.1.1, .int .i64 a.2.1.2.1, .bool a.2.1.2.2, .int .i64 a.2.2] 145)
          have P2 := P.alloc (.cells #[.int .i64 a.1, .int .i64 a.2.1.1, .int .i64 a.2.1.2.1, .bool a.2.1.2.2, .int .i64 a.2.2] 145)
          have p2 := P2.cell 0 _ rfl
          have Pl2 := P2.lt
          clear b X P hget
          cases hq0 : inB a.1 0 (K - 1) with
          | false =>
            have HF := Lib.hid (show attB K x = false by
              have hq : seenIn K a = false := by unfold seenIn; simp [hq0]
              unfold attB
              rw [all_noE HG.out hq]
              simp)
            go_wp2_with fail
            refine (hasKey_any a.1 K _ _ p2 Pl2).mono ?_; rintro o w' ⟨rfl, rfl⟩
            rw [hq0]
            clear p0 p2
            go_wp2
            go_ret
            exact ⟨ret_bool HF.out.symm, b2⟩
          | true =>
            have HA1 := Lib.hid (show ∀ j u, j < k + 1 → x.2.2.2.2.2.2.1[j]? = some u → seenIn K u = true from fun j u hj hu => by
              by_cases e : j = k
              · subst e
                rw [HG.out] at hu
                cases hu
                exact hq0
              · exact HA1.out j u (by omega) hu)
            go_wp2_with fail
            refine (hasKey_any a.1 K _ _ p2 Pl2).mono ?_; rintro o w' ⟨rfl, rfl⟩
            rw [hq0]
            clear p0 p2
            go_wp2
            exact ⟨⟨k + 1, by omega, by go_num, b2, X2, P2, HA1⟩, by simp [intOf]; omega⟩
        · obtain rfl : k = x.2.2.2.2.2.2.1.length := by omega
          have HT1 := Lib.hid (all_yesE HA1.out)
          clear HA1
          go_wp2_with fail
          clear x0 x1 x2 x3 x4 x5 x6 x7 x8 Xl p0 Pl hkn hk
          go_loopw [42] (fun i wr => ∃ k : Nat, k ≤ x.2.2.2.2.2.2.2.1.length ∧ i = .int .i64 k ∧ Below w.heap.size w wr ∧ Bx wr w.heap.size [.slice A0 (x.1).length c0, .int .i64 x.2.1, .int .i64 x.2.2.1, .int .i64 x.2.2.2.1, .int .i64 x.2.2.2.2.1, .slice A5 (x.2.2.2.2.2.1).length c5, .slice A6 (x.2.2.2.2.2.2.1).length c6, .slice A7 (x.2.2.2.2.2.2.2.1).length c7, .slice A8 (x.2.2.2.2.2.2.2.2).length c8] ∧ Bx wr (w.heap.size + 1) [.int .i64 K] ∧ Hid (∀ j a, j < k → x.2.2.2.2.2.2.2.1[j]? = some a → putIn K a = true)) (fun i _ => x.2.2.2.2.2.2.2.1.length - (intOf i).toNat)
          case atStart => exact ⟨0, Nat.zero_le _, rfl, b, X, P, Lib.hid (fun j a hj => absurd hj (by omega))⟩
          case round =>
            clear b X P
            obtain ⟨k, hk, rfl, b, X, P, HA2⟩ := hrel
            obtain ⟨⟨x0, x1, x2, x3, x4, x5, x6, x7, x8⟩, _⟩ := X.c9
            have Xl := X.lt
            have p0 := P.cell 0 _ rfl
            have Pl := P.lt
            have hsz := b.size
            by_cases hkn : k < x.2.2.2.2.2.2.2.1.length
            · obtain ⟨bb, off, eA, hbB, hc⟩ := r7.2 (by omega)
              subst eA
              have hkz : (k : Int) < x.2.2.2.2.2.2.2.1.length := by omega
              have hget : x.2.2.2.2.2.2.2.1[k]? = some x.2.2.2.2.2.2.2.1[k] := List.getElem?_eq_getElem hkn
              obtain ⟨v, hv0, hat0⟩ := hc k _ hget
              have hv := hv0.below b (show bb < w.heap.size by omega)
              generalize x.2.2.2.2.2.2.2.1[k] = a at hget hat0
              have ev := at_Put hat0
              subst ev
              rw [show fPut.n = 2 from rfl] at hv
              obtain ⟨a0, a1⟩ := hv.c2
              have HG := Lib.hid hget
              clear hc hv0 hat0 hv
              have b2 := b.alloc hsz (.cells #[.int .i64 a.1, .int .i64 a.2] 75)
              have X2 := X.alloc (.cells #[.int .i64 a.1, .int .i64 a.2] 75)
              have P2 := P.alloc (.cells #[.int .i64 a.1, .int .i64 a.2] 75)
              have p2 := P2.cell 0 _ rfl
              have Pl2 := P2.lt
              clear b X P hget
              cases hq0 : inB a.1 0 (K - 1) with
              | false =>
                have HF := Lib.hid (show attB K x = false by
                  have hq : putIn K a = false := by unfold putIn; simp [hq0]
                  unfold attB
                  rw [all_noE HG.out hq]
                  simp)
                go_wp2_with fail
                refine (hasKey_any a.1 K _ _ p2 Pl2).mono ?_; rintro o w' ⟨rfl, rfl⟩
                rw [hq0]
                clear p0 p2
                go_wp2
                go_ret
                exact ⟨ret_bool HF.out.symm, b2⟩
              | true =>
                cases hq1 : inB a.2 (-1000000) 1000000 with
                | false =>
                  have HF := Lib.hid (show attB K x = false by
                    have hq : putIn K a = false := by unfold putIn; simp [hq1]
                    unfold attB
                    rw [all_noE HG.out hq]
                    simp)
                  go_wp2_with fail
                  refine (hasKey_any a.1 K _ _ p2 Pl2).mono ?_; rintro o w' ⟨rfl, rfl⟩
                  rw [hq0]
                  clear p0 p2
                  go_wp2_with fail
                  refine (valueOkE_any a.2 _).mono ?_; rintro o w' ⟨rfl, rfl⟩
                  rw [hq1]
                  go_wp2
                  go_ret
                  exact ⟨ret_bool HF.out.symm, b2⟩
                | true =>
                  have HA2 := Lib.hid (show ∀ j u, j < k + 1 → x.2.2.2.2.2.2.2.1[j]? = some u → putIn K u = true from fun j u hj hu => by
                    by_cases e : j = k
                    · subst e
                      rw [HG.out] at hu
                      cases hu
                      unfold putIn
                      rw [hq0, hq1]
                      rfl
                    · exact HA2.out j u (by omega) hu)
                  go_wp2_with fail
                  refine (hasKey_any a.1 K _ _ p2 Pl2).mono ?_; rintro o w' ⟨rfl, rfl⟩
                  rw [hq0]
                  clear p0 p2
                  go_wp2_with fail
                  refine (valueOkE_any a.2 _).mono ?_; rintro o w' ⟨rfl, rfl⟩
                  rw [hq1]
                  go_wp2
                  exact ⟨⟨k + 1, by omega, by go_num, b2, X2, P2, HA2⟩, by simp [intOf]; omega⟩
            · obtain rfl : k = x.2.2.2.2.2.2.2.1.length := by omega
              have HT2 := Lib.hid (all_yesE HA2.out)
              clear HA2
              go_wp2_with fail
              clear x0 x1 x2 x3 x4 x5 x6 x7 x8 Xl p0 Pl hkn hk
              have hw : wantsB x.2.2.2.2.2.1 = attB K x := by
                unfold attB
                rw [HT0.out, HT1.out, HT2.out]
                simp
              refine (implWantsOk_any A5 c5 B x.2.2.2.2.2.1 _ (by omega) (wants_at (r5.keep b hB))).mono ?_; rintro o w2 ⟨rfl, hb⟩
              rw [hw]
              go_wp2
              go_ret
              exact ⟨rfl, b.trans (hb.mono hsz)⟩
end Go.Proofs.YtomkfldimkpmdaaGreat
