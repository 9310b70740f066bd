/- EngineOk of the program: progsOk, attemptOk. -/
import Derived.Test.YtkpkjcmoldkmmaaEm
namespace Go.Proofs.Ytkpkjcmoldkmmaa
open Go.RowKit

set_option maxHeartbeats 1600000 in
set_option maxRecDepth 100000 in
theorem implProgsOk_any (A : Option Addr) (c B : Nat) (l : List (List DAct)) (K : Int) (w : World) (hB : B ≤ w.heap.size) (r : RAt (rowF fAct) w B A l) :
    Calls Try.prog 51 #[.slice A l.length c, .int .i64 K] w fun e w' => e = .returned (.bool (l.all (progIn K))) ∧ Below w.heap.size w w' := by
  have hmx := r.1
  unfold maxLen at hmx
  go_enter Try.func51, Try.ntmps51
  go_wp2
  go_loopw [11] (fun i wr => ∃ k : Nat, k ≤ l.length ∧ i = .int .i64 k ∧ Below w.heap.size w wr ∧ Hid (∀ j p, j < k → l[j]? = some p → progIn K p = true)) (fun i _ => l.length - (intOf i).toNat)
  case atStart => exact ⟨0, Nat.zero_le _, rfl, Below.refl _ _, Lib.hid (fun j p hj => absurd hj (by omega))⟩
  case round =>
    obtain ⟨k, hk, rfl, hb, HA⟩ := hrel
    by_cases hkn : k < l.length
    · obtain ⟨b, off, rfl, hbB, hc⟩ := r.2 (by omega)
      have hkz : (k : Int) < l.length := by omega
      have hget : l[k]? = some l[k] := List.getElem?_eq_getElem hkn
      obtain ⟨v, hv0, hat0⟩ := hc k _ hget
      have hsz := hb.size
      have hv := hv0.below hb (show b < w.heap.size by omega)
      have hat := (rowF fAct).at_same hat0 (.of hb hB)
      rw [show (rowF fAct).n = 1 from rfl] at hv
      generalize l[k] = p at hget hat hv
      obtain ⟨A0, c0, rfl, r0⟩ := hat
      have a0 := hv.c1
      rw [Nat.mul_one] at a0
      have hpm := r0.1
      unfold maxLen at hpm
      have hBw : B ≤ wr.heap.size := by omega
      have HG := Lib.hid hget
      clear hc hv0 hat0 hv hget
      go_wp2_with fail
      refine (implProgOk_any A0 p.length c0 (actF p) _ (acts_at (r0.up hBw))).mono ?_; rintro e w2 ⟨rfl, hb2⟩
      have r2 := r0.keep hb2 hBw
      have hb3 := hb.trans (hb2.mono hsz)
      clear r0 hb2 a0 hb
      cases hp : progOk p.length (actF p) with
      | false =>
        have HF := Lib.hid (all_noE HG.out (show progIn K p = false by unfold progIn; rw [hp, Bool.false_and]))
        go_wp2
        go_ret
        exact ⟨ret_bool HF.out.symm, hb3⟩
      | true =>
        have HP := Lib.hid hp
        clear hp
        have hs3 := hb3.size
        have hB2 : B ≤ w2.heap.size := by omega
        go_wp2
        go_loopw [20] (fun i wr => ∃ j : Nat, j ≤ p.length ∧ i = .int .i64 j ∧ Below w2.heap.size w2 wr ∧ Hid (∀ q a, q < j → p[q]? = some a → a.2.1 < K)) (fun i _ => p.length - (intOf i).toNat)
        case atStart => exact ⟨0, Nat.zero_le _, rfl, Below.refl _ _, Lib.hid (fun q a hq => absurd hq (by omega))⟩
        case round =>
          obtain ⟨j, hj, rfl, hb, HJ⟩ := hrel
          by_cases hjn : j < p.length
          · obtain ⟨b2, off2, rfl, hbB2, hc2⟩ := r2.2 (by omega)
            have hjz : (j : Int) < p.length := by omega
            have hget : p[j]? = some p[j] := List.getElem?_eq_getElem hjn
            obtain ⟨v, hv0, hat0⟩ := hc2 j _ hget
            have hv := hv0.below hb (show b2 < w2.heap.size by omega)
            generalize p[j] = a at hget hat0
            have ev := at_Act hat0
            subst ev
            rw [show fAct.n = 3 from rfl] at hv
            obtain ⟨a0, a1, a2⟩ := hv.c3
            have hsz := hb.size
            clear hc2 hv0 hat0 hv
            by_cases hK : K ≤ a.2.1
            · have HF := Lib.hid (all_noE HG.out (show progIn K p = false by
                unfold progIn
                rw [all_noE hget (by rw [decide_eq_false_iff_not]; omega), Bool.and_false]))
              clear hget
              go_wp2
              go_ret
              exact ⟨ret_bool HF.out.symm, hb3.trans ((hb.alloc hsz _).mono hs3)⟩
            · have HJ := Lib.hid (show ∀ q a, q < j + 1 → p[q]? = some a → a.2.1 < K from fun q x hq hx => by
                by_cases e : q = j
                · subst e
                  rw [hget] at hx
                  cases hx
                  omega
                · exact HJ.out q x (by omega) hx)
              clear hget
              go_wp2
              exact ⟨⟨j + 1, by omega, by go_num, hb.alloc hsz _, HJ⟩, by simp [intOf]; omega⟩
          · obtain rfl : j = p.length := by omega
            have HA := Lib.hid (show ∀ j q, j < k + 1 → l[j]? = some q → progIn K q = true from fun j q hj hq => by
              by_cases e : j = k
              · subst e
                rw [HG.out] at hq
                cases hq
                unfold progIn
                rw [HP.out, Bool.true_and]
                exact all_yesE (fun i a hi ha => by rw [decide_eq_true_eq]; exact HJ.out i a hi ha)
              · exact HA.out j q (by omega) hq)
            go_wp2
            exact ⟨⟨k + 1, by omega, by go_num, hb3.trans (hb.mono hs3), HA⟩, by simp [intOf]; omega⟩
    · obtain rfl : k = l.length := by omega
      have HT := Lib.hid (all_yesE HA.out)
      go_wp2
      go_ret
      exact ⟨ret_bool HT.out.symm, hb⟩
theorem inK (k K : Int) : inB k 0 (K - 1) = (decide (0 ≤ k) && decide (k < K)) := by
  unfold inB
  rw [show decide (k ≤ K - 1) = decide (k < K) by rw [decide_eq_decide]; omega]
def attB (K : Int) (x : DWorker) : Bool := x.2.2.2.2.2.1.all (wantIn K) && (x.2.2.2.2.2.2.1.all (seenIn K) && (x.2.2.2.2.2.2.2.1.all (putIn K) && wantsB x.2.2.2.2.2.1))
theorem valueOkE_any (v : Int) (w : World) : Calls Try.prog 136 #[.int .i64 v] w fun e w' => e = .returned (.bool (inB v (-1000000) 1000000)) ∧ w = w' := by
  by_cases h0 : -1000000 ≤ v
  · by_cases h1 : v ≤ 1000000
    · go_enter Try.func136, Try.ntmps136
      go_wp2
      go_ret
      exact ⟨ret_bool (by simp [inB, h0, h1]), rfl⟩
    · go_enter Try.func136, Try.ntmps136
      go_wp2
      go_ret
      exact ⟨ret_bool (by simp [inB, h1]), rfl⟩
  · go_enter Try.func136, Try.ntmps136
    go_wp2
    go_ret
    exact ⟨ret_bool (by simp [inB]; omega), rfl⟩
end Go.Proofs.Ytkpkjcmoldkmmaa
