/- Histories: IdsOk of the model and of the program. -/
import Derived.Test.YtmphiomalhjciaaHm
namespace Go.Proofs.Ytmphiomalhjciaa
open Go.RowKit

set_option maxHeartbeats 1600000 in
set_option maxRecDepth 100000 in
theorem specIdsOk_any (A : Option Addr) (c B : Nat) (l : List DCommit) (w : World) (hB : B ≤ w.heap.size) (r : RAt fCommit w B A l) :
    Calls Try.prog 33 #[.slice A l.length c] w fun e w' => e = .returned (.bool (idsOk l)) ∧ Below w.heap.size w w' := by
  have hmx := r.1
  unfold maxLen at hmx
  go_enter Try.func33, Try.ntmps33
  go_wp2
  go_loopw [3] (fun i wr => ∃ k : Nat, k ≤ l.length ∧ i = .int .i64 k ∧ Below w.heap.size w wr ∧ Hid (∀ j d, j < k → l[j]? = some d → d.2.2.1 = (j : Int) + 1)) (fun i _ => l.length - (intOf i).toNat)
  case atStart => exact ⟨0, Nat.zero_le _, rfl, Below.refl _ _, Lib.hid (fun j d hj => absurd hj (by omega))⟩
  case round =>
    obtain ⟨k, hk, rfl, hb, HA⟩ := hrel
    by_cases hkn : k < l.length
    · obtain ⟨b, off, hA, hbB, hc⟩ := r.2 (by omega)
      have hkz : (k : Int) < l.length := by omega
      have hget : l[k]? = some l[k] := List.getElem?_eq_getElem hkn
      obtain ⟨v, hv0, hat0⟩ := hc k _ hget
      have hsz := hb.size
      have hat := fCommit.at_same hat0 (.of hb hB)
      have hv := hv0.below hb (show b < w.heap.size by omega)
      rw [show fCommit.n = 6 from rfl] at hv
      clear hv0 hat0
      generalize hd : l[k] = d at hget hat
      clear hd
      obtain ⟨A4, c4, A5, c5, rfl, _, _⟩ := at_Commit hat
      subst hA
      obtain ⟨a0, a1, a2, a3, a4, a5⟩ := hv.c6
      clear hc hv hat
      by_cases hq : d.2.2.1 = (k : Int) + 1
      · have HA := Lib.hid (show ∀ j d, j < k + 1 → l[j]? = some d → d.2.2.1 = (j : Int) + 1 from fun j x hj hx => by
          by_cases e : j = k
          · subst e
            rw [hget] at hx
            cases hx
            exact hq
          · exact HA.out j x (by omega) hx)
        clear hget
        go_wp2
        exact ⟨⟨k + 1, by omega, by go_num, hb, HA⟩, by simp [intOf]; omega⟩
      · have HF := Lib.hid (idsOk_false hget hq)
        clear hget
        go_wp2
        go_ret
        exact ⟨ret_bool HF.out.symm, hb⟩
    · obtain rfl : k = l.length := by omega
      have HT := Lib.hid (idsOk_true HA.out)
      go_wp2
      go_ret
      exact ⟨ret_bool HT.out.symm, hb⟩
set_option maxHeartbeats 1600000 in
set_option maxRecDepth 100000 in
theorem implIdsOk_any (A : Option Addr) (c B : Nat) (l : List DCommit) (w : World) (hB : B ≤ w.heap.size) (r : RAt fCommit w B A l) :
    Calls Try.prog 34 #[.slice A l.length c] w fun e w' => e = .returned (.bool (idsOk l)) ∧ Below w.heap.size w w' := by
  have hmx := r.1
  unfold maxLen at hmx
  go_enter Try.func34, Try.ntmps34
  go_wp2
  go_loopw [7] (fun i wr => ∃ k : Nat, k ≤ l.length ∧ i = .int .i64 k ∧ Below w.heap.size w wr ∧ Hid (∀ j d, j < k → l[j]? = some d → d.2.2.1 = (j : Int) + 1)) (fun i _ => l.length - (intOf i).toNat)
  case atStart => exact ⟨0, Nat.zero_le _, rfl, Below.refl _ _, Lib.hid (fun j d hj => absurd hj (by omega))⟩
  case round =>
    obtain ⟨k, hk, rfl, hb, HA⟩ := hrel
    by_cases hkn : k < l.length
    · obtain ⟨b, off, hA, hbB, hc⟩ := r.2 (by omega)
      have hkz : (k : Int) < l.length := by omega
      have hget : l[k]? = some l[k] := List.getElem?_eq_getElem hkn
      obtain ⟨v, hv0, hat0⟩ := hc k _ hget
      have hsz := hb.size
      have hat := fCommit.at_same hat0 (.of hb hB)
      have hv := hv0.below hb (show b < w.heap.size by omega)
      rw [show fCommit.n = 6 from rfl] at hv
      clear hv0 hat0
      generalize hd : l[k] = d at hget hat
      clear hd
      obtain ⟨A4, c4, A5, c5, rfl, _, _⟩ := at_Commit hat
      subst hA
      obtain ⟨a0, a1, a2, a3, a4, a5⟩ := hv.c6
      clear hc hv hat
      by_cases hq : d.2.2.1 = (k : Int) + 1
      · have HA := Lib.hid (show ∀ j d, j < k + 1 → l[j]? = some d → d.2.2.1 = (j : Int) + 1 from fun j x hj hx => by
          by_cases e : j = k
          · subst e
            rw [hget] at hx
            cases hx
            exact hq
          · exact HA.out j x (by omega) hx)
        clear hget
        go_wp2
        exact ⟨⟨k + 1, by omega, by go_num, hb.alloc hsz _, HA⟩, by simp [intOf]; omega⟩
      · have HF := Lib.hid (idsOk_false hget hq)
        clear hget
        go_wp2
        go_ret
        exact ⟨ret_bool HF.out.symm, hb.alloc hsz _⟩
    · obtain rfl : k = l.length := by omega
      have HT := Lib.hid (idsOk_true HA.out)
      go_wp2
      go_ret
      exact ⟨ret_bool HT.out.symm, hb⟩
end Go.Proofs.Ytmphiomalhjciaa
