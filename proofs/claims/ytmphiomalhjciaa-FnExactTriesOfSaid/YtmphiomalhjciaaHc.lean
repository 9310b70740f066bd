/- Histories: TriesOf of the model. -/
import Derived.Test.YtmphiomalhjciaaHm
import Derived.Test.YtmphiomalhjciaaGc
namespace Go.Proofs.Ytmphiomalhjciaa
open Go.RowKit

set_option maxHeartbeats 1600000 in
set_option maxRecDepth 100000 in
theorem specTriesOf_any (A : Option Addr) (c B : Nat) (l : List DCommit) (w : World) (hB : B ≤ w.heap.size) (hl : l.length ≤ 1048576) (r : RAt fCommit w B A l) :
    Calls Try.prog 42 #[.slice A l.length c] w (RetF intF w (triesOf l)) := by
  go_enter Try.func42, Try.ntmps42
  go_wp2
  go_loopw [3, 4] (fun v i wr => ∃ k : Nat, k ≤ l.length ∧ i = .int .i64 k ∧ v = .int .i64 (mostOf l k) ∧ Below w.heap.size w wr ∧ Hid (∀ j d, j < k → l[j]? = some d → 0 ≤ d.2.2.2.1 ∧ d.2.2.2.1 ≤ 300)) (fun _ i _ => l.length - (intOf i).toNat)
  case atStart => exact ⟨0, Nat.zero_le _, rfl, by rw [mostOf_zero], Below.refl _ _, Lib.hid (fun j d hj => absurd hj (by omega))⟩
  case round =>
    obtain ⟨k, hk, rfl, rfl, hb, HA⟩ := hrel
    have hmost := most_bounds HA.out hk
    by_cases hkn : k < l.length
    · obtain ⟨b, off, hA, hbB, hc⟩ := r.2 (by omega)
      have hkz : (k : Int) < l.length := by omega
      have hget : l[k]? = some l[k] := List.getElem?_eq_getElem hkn
      obtain ⟨v, hv0, hat0⟩ := hc k _ hget
      have hsz := hb.size
      have hat := fCommit.at_same hat0 (.of hb hB)
      have hv := hv0.below hb (show b < w.heap.size by omega)
      rw [show fCommit.n = 6 from rfl] at hv
      clear hv0 hat0
      generalize hd : l[k] = d at hget hat
      clear hd
      obtain ⟨A4, c4, A5, c5, rfl, _, _⟩ := at_Commit hat
      subst hA
      obtain ⟨a0, a1, a2, a3, a4, a5⟩ := hv.c6
      clear hc hv hat
      by_cases hq : 0 ≤ d.2.2.2.1 ∧ d.2.2.2.1 ≤ 300
      · have HI := Lib.hid (show inB d.2.2.2.1 0 300 = true by simp [inB]; omega)
        have HA := Lib.hid (show ∀ j d, j < k + 1 → l[j]? = some d → 0 ≤ d.2.2.2.1 ∧ d.2.2.2.1 ≤ 300 from fun j x hj hx => by
          by_cases e : j = k
          · subst e
            rw [hget] at hx
            cases hx
            exact hq
          · exact HA.out j x (by omega) hx)
        have hms := mostOf_succ hget
        clear hget
        by_cases hgt : mostOf l k < d.2.2.2.1
        · have HM := Lib.hid (show mostOf l (k + 1) = d.2.2.2.1 by rw [hms]; omega)
          clear hms
          generalize mostOf l k = x at hmost hgt
          go_wp2_with fail
          refine (l01In_any _ _ _ _).mono ?_; rintro e w' ⟨rfl, rfl⟩
          rw [HI.out]
          go_wp2
          exact ⟨⟨k + 1, by omega, by go_num, int_eqH HM.out.symm, hb, HA⟩, by simp [intOf]; omega⟩
        · have HM := Lib.hid (show mostOf l (k + 1) = mostOf l k by rw [hms]; omega)
          clear hms
          generalize mostOf l k = x at hmost hgt HM
          go_wp2_with fail
          refine (l01In_any _ _ _ _).mono ?_; rintro e w' ⟨rfl, rfl⟩
          rw [HI.out]
          go_wp2
          exact ⟨⟨k + 1, by omega, by go_num, int_eqH HM.out.symm, hb, HA⟩, by simp [intOf]; omega⟩
      · have HI := Lib.hid (show inB d.2.2.2.1 0 300 = false by simp [inB]; omega)
        have HF := Lib.hid (fit_no hget hq)
        clear hget
        go_wp2_with fail
        refine (l01In_any _ _ _ _).mono ?_; rintro e w' ⟨rfl, rfl⟩
        rw [HI.out]
        go_wp2
        go_ret
        rw [HF.out]
        exact RetF.nil hb
    · obtain rfl : k = l.length := by omega
      obtain ⟨n, hn⟩ : ∃ n : Nat, mostOf l l.length = (n : Int) - 1 := ⟨(mostOf l l.length + 1).toNat, by omega⟩
      have HE := Lib.hid (show triesOf l = trow l l.length n by rw [fit_yes HA.out, show (mostOf l l.length + 1).toNat = n by omega])
      have HMM := Lib.hid (fun j d (hj : l[j]? = some d) => most_le hj)
      have hn3 : n ≤ 301 := by omega
      rw [hn]
      have hmk := make_Int n (by omega)
      have hrow := World.ownsRow_lit (base := w.heap.size) (e := 3) (size := 1) wr (madeCells #[.int .i64 0] n) n hb.size (by unfold maxLen; omega) (by rw [Nat.mul_one, size_madeCells])
      rw [toList_madeCells_one] at hrow
      have hrow : (wr.alloc (.cells (madeCells #[.int .i64 0] n) 3)).ownsRow w.heap.size 3 1 (.slice (some ⟨wr.heap.size, 0, none⟩) n n) n ((trow l 0 n).map (.int .i64)) := by
        rw [trow_zero, List.map_replicate]
        exact hrow
      have hb1 := hb.alloc hb.size (.cells (madeCells #[.int .i64 0] n) 3)
      have hgl := hb.size
      clear hmost
      have HMO := Lib.hid hn
      clear hn
      go_wp2
      clear hmk
      generalize wr.alloc (.cells (madeCells #[.int .i64 0] n) 3) = w1 at hrow hb1 ⊢
      generalize wr.heap.size = g at hrow hgl ⊢
      clear hb
      go_loopw [6] (fun i wr => ∃ k : Nat, k ≤ l.length ∧ i = .int .i64 k ∧ wr.ownsRow w.heap.size 3 1 (.slice (some ⟨g, 0, none⟩) n n) n ((trow l k n).map (.int .i64)) ∧ Below w.heap.size w wr) (fun i _ => l.length - (intOf i).toNat)
      case atStart => exact ⟨0, Nat.zero_le _, rfl, hrow, hb1⟩
      case round =>
        clear hrow hb1 hk hkn
        obtain ⟨k, hk, rfl, hown, hb⟩ := hrel
        by_cases hkn : k < l.length
        · obtain ⟨b, off, hA, hbB, hc⟩ := r.2 (by omega)
          have hkz : (k : Int) < l.length := by omega
          have hget : l[k]? = some l[k] := List.getElem?_eq_getElem hkn
          obtain ⟨v, hv0, hat0⟩ := hc k _ hget
          have hsz := hb.size
          have hat := fCommit.at_same hat0 (.of hb hB)
          have hv := hv0.below hb (show b < w.heap.size by omega)
          rw [show fCommit.n = 6 from rfl] at hv
          clear hv0 hat0
          generalize hd : l[k] = d at hget hat
          clear hd
          obtain ⟨A4, c4, A5, c5, rfl, _, _⟩ := at_Commit hat
          subst hA
          obtain ⟨a0, a1, a2, a3, a4, a5⟩ := hv.c6
          clear hc hv hat
          have hq := HA.out k d hkn hget
          have hm := HMM.out k d hget
          rw [HMO.out] at hm
          obtain ⟨t, ht⟩ : ∃ t : Nat, d.2.2.2.1 = (t : Int) := ⟨d.2.2.2.1.toNat, by omega⟩
          have hc : wr.cell? ⟨g, t, none⟩ = some (.int .i64 (timesOf l k (t : Int))) := by
            rw [hown.cellAt t (by omega), List.getElem?_map, trow_get (show t < n by omega)]
            rfl
          have hf := hown.frozenAt t
          have hle2 := timesOf_le l k (t : Int)
          have hst := (World.ownsRow.stored (show wr.drew.ownsRow w.heap.size 3 1 (.slice (some ⟨g, 0, none⟩) n n) n ((trow l k n).map (.int .i64)) from hown) t (.int .i64 ((timesOf l k (t : Int) : Int) + 1))).1
          have HS := Lib.hid (show (wr.drew.setCell ⟨g, t, none⟩ (.int .i64 ((timesOf l k (t : Int) : Int) + 1))).ownsRow w.heap.size 3 1 (.slice (some ⟨g, 0, none⟩) n n) n ((trow l (k + 1) n).map (.int .i64)) by
            have e := trow_put (n := n) hget ht (by omega)
            rw [← e, List.map_set]
            exact hst)
          rw [ht] at a3 hq hm
          have htn : (t : Int) < n := by omega
          have HSZ := Lib.hid (rfl : True = True)
          clear hst hown hget hm HSZ
          generalize timesOf l k (t : Int) = q at hc hle2 HS
          go_wp2_with fail
          go_still_tail 16, (by kernel_rfl)
          change wpList _ _ _ _ _ wr.drew
          have hb2 := hb.drew
          have hc2 : wr.drew.cell? ⟨g, t, none⟩ = some (.int .i64 (q : Int)) := hc
          have hf2 : wr.drew.frozen? ⟨g, t, none⟩ = false := hf
          clear a0 a1 a2 a3 a4 a5 hc hf
          generalize wr.drew = w2 at hb2 hc2 hf2 HS ⊢
          go_wp2
          exact ⟨⟨k + 1, by omega, by go_num, HS.out, hb2.setCell hgl _⟩, by simp [intOf]; omega⟩
        · obtain rfl : k = l.length := by omega
          have hl2 : (triesOf l).length = n := by rw [HE.out, trow_len]
          obtain ⟨A', c', he, ho⟩ := rown_ints (l := triesOf l) (by rw [hl2, HE.out]; exact hown) (by rw [hl2]; unfold maxLen; omega)
          have HR := Lib.hid (show RetF intF w (triesOf l) (.returned (.slice (some ⟨g, 0, none⟩) n n)) wr from ⟨A', c', by rw [he], hb, ho⟩)
          clear ho hown hl2 he
          go_wp2
          go_ret
          exact HR.out
end Go.Proofs.Ytmphiomalhjciaa
