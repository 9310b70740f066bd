/- Histories: SameLog of the program, and what it calls. -/
import Derived.Test.YtmphiomalhjciaaHm
import Derived.Test.YtmphiomalhjciaaRg
namespace Go.Proofs.Ytmphiomalhjciaa
open Go.RowKit

theorem row_addr {α : Type} {F : Fm α} {w : World} {B : Nat} {A : Option Addr} {l : List α} (r : RAt F w B A l) (h : 0 < l.length) : ∃ b off, A = some ⟨b, off, none⟩ ∧ b < B := by
  obtain ⟨b, off, e, hb, _⟩ := r.2 h
  exact ⟨b, off, e, hb⟩
theorem in_at {w wr : World} {B b off k : Nat} {l : List Int} {x : Int} (r : RAt intF w B (some ⟨b, off, none⟩) l) (hb : Below w.heap.size w wr) (hB : B ≤ w.heap.size) (h : l[k]? = some x) : wr.cell? ⟨b, off + k, none⟩ = some (.int .i64 x) := by
  obtain ⟨b', off', e, hlt, hc⟩ := r.2 (by have := get_lt h; omega)
  injection e with e
  injection e with e1 e2 _
  subst e1 e2
  obtain ⟨v, hv0, hat0⟩ := hc k _ h
  have hv := hv0.below hb (show b < w.heap.size by omega)
  cases hat0
  have := hv.c1
  rwa [show (intF : Fm Int).n = 1 from rfl, Nat.mul_one] at this
theorem pt_at {w wr : World} {B b off k : Nat} {l : List DPut} {x : DPut} (r : RAt fPut w B (some ⟨b, off, none⟩) l) (hb : Below w.heap.size w wr) (hB : B ≤ w.heap.size) (h : l[k]? = some x) : wr.cell? ⟨b, off + k * 2, none⟩ = some (.int .i64 x.1) ∧ wr.cell? ⟨b, off + k * 2 + 1, none⟩ = some (.int .i64 x.2) := by
  obtain ⟨b', off', e, hlt, hc⟩ := r.2 (by have := get_lt h; omega)
  injection e with e
  injection e with e1 e2 _
  subst e1 e2
  obtain ⟨v, hv0, hat0⟩ := hc k _ h
  have hv := hv0.below hb (show b < w.heap.size by omega)
  rw [show fPut.n = 2 from rfl] at hv
  have e := at_Put hat0
  subst e
  exact hv.c2
set_option maxHeartbeats 1600000 in
set_option maxRecDepth 100000 in
theorem equalI_any (A A' : Option Addr) (c c' B B' : Nat) (l l' : List Int) (w : World) (hB : B ≤ w.heap.size) (hB' : B' ≤ w.heap.size) (r : RAt intF w B A l) (r' : RAt intF w B' A' l') :
    Calls Try.prog 83 #[.slice A l.length c, .slice A' l'.length c'] w fun e w' => e = .returned (.bool (decide (l = l'))) ∧ Below w.heap.size w w' := by
  have hmx := r.1
  have hmx' := r'.1
  unfold maxLen at hmx hmx'
  by_cases hl : l.length = l'.length
  · go_enter Try.func83, Try.ntmps83
    rw [hl]
    go_wp2
    go_loopw [13] (fun i wr => ∃ k : Nat, k ≤ l'.length ∧ i = .int .i64 k ∧ Below w.heap.size w wr ∧ Hid (∀ j, j < k → l[j]? = l'[j]?)) (fun i _ => l'.length - (intOf i).toNat)
    case atStart => exact ⟨0, Nat.zero_le _, rfl, Below.refl _ _, Lib.hid (fun j hj => absurd hj (by omega))⟩
    case round =>
      obtain ⟨k, hk, rfl, hb, HA⟩ := hrel
      by_cases hkn : k < l'.length
      · obtain ⟨b, off, rfl, hbB⟩ := row_addr r (by omega)
        obtain ⟨b', off', rfl, hbB'⟩ := row_addr r' (by omega)
        have hkz : (k : Int) < l'.length := by omega
        have hget : l[k]? = some l[k] := List.getElem?_eq_getElem (by omega)
        have hget' : l'[k]? = some l'[k] := List.getElem?_eq_getElem hkn
        have hlz : (l.length : Int) = l'.length := by omega
        generalize l[k] = x at hget
        generalize l'[k] = y at hget'
        have a0 := in_at r hb hB hget
        have b0 := in_at r' hb hB' hget'
        have HG := Lib.hid hget
        have HG' := Lib.hid hget'
        clear hget hget' hl
        by_cases h0 : x = y
        · subst h0
          have HA := Lib.hid (show ∀ j, j < k + 1 → l[j]? = l'[j]? from fun j hj => by
            by_cases e : j = k
            · subst e
              rw [HG.out, HG'.out]
            · exact HA.out j (by omega))
          go_wp2_with fail
          go_quiet (fail)
          go_wp2
          exact ⟨⟨k + 1, by omega, by go_num, below_drewN hb _, HA⟩, by simp [intOf]; omega⟩
        · have HF := Lib.hid (show ¬ l = l' from fun e => by
            have h1 := HG.out
            rw [e, HG'.out] at h1
            injection h1 with h1
            exact h0 h1.symm)
          go_wp2_with fail
          go_quiet (fail)
          go_wp2
          go_ret
          exact ⟨ret_bool (by rw [decide_eq_false HF.out]), below_drewN hb _⟩
      · obtain rfl : k = l'.length := by omega
        have HT := Lib.hid (show l = l' from List.ext_getElem? (fun j => by
          by_cases hj : j < l'.length
          · exact HA.out j hj
          · rw [List.getElem?_eq_none (by omega), List.getElem?_eq_none (by omega)]))
        clear hl
        go_wp2
        go_ret
        exact ⟨ret_bool (by rw [decide_eq_true HT.out]), hb⟩
  · have HF := Lib.hid (show ¬ l = l' from fun e => hl (by rw [e]))
    have hlz : ¬ (l.length : Int) = l'.length := by omega
    clear hl
    go_enter Try.func83, Try.ntmps83
    go_wp2
    go_ret
    exact ⟨ret_bool (by rw [decide_eq_false HF.out]), Below.refl _ _⟩
set_option maxHeartbeats 1600000 in
set_option maxRecDepth 100000 in
theorem equalP_any (A A' : Option Addr) (c c' B B' : Nat) (l l' : List DPut) (w : World) (hB : B ≤ w.heap.size) (hB' : B' ≤ w.heap.size) (r : RAt fPut w B A l) (r' : RAt fPut w B' A' l') :
    Calls Try.prog 84 #[.slice A l.length c, .slice A' l'.length c'] w fun e w' => e = .returned (.bool (decide (l = l'))) ∧ Below w.heap.size w w' := by
  have hmx := r.1
  have hmx' := r'.1
  unfold maxLen at hmx hmx'
  by_cases hl : l.length = l'.length
  · go_enter Try.func84, Try.ntmps84
    rw [hl]
    go_wp2
    go_loopw [13] (fun i wr => ∃ k : Nat, k ≤ l'.length ∧ i = .int .i64 k ∧ Below w.heap.size w wr ∧ Hid (∀ j, j < k → l[j]? = l'[j]?)) (fun i _ => l'.length - (intOf i).toNat)
    case atStart => exact ⟨0, Nat.zero_le _, rfl, Below.refl _ _, Lib.hid (fun j hj => absurd hj (by omega))⟩
    case round =>
      obtain ⟨k, hk, rfl, hb, HA⟩ := hrel
      by_cases hkn : k < l'.length
      · obtain ⟨b, off, rfl, hbB⟩ := row_addr r (by omega)
        obtain ⟨b', off', rfl, hbB'⟩ := row_addr r' (by omega)
        have hkz : (k : Int) < l'.length := by omega
        have hget : l[k]? = some l[k] := List.getElem?_eq_getElem (by omega)
        have hget' : l'[k]? = some l'[k] := List.getElem?_eq_getElem hkn
        have hlz : (l.length : Int) = l'.length := by omega
        generalize l[k] = x at hget
        generalize l'[k] = y at hget'
        obtain ⟨a0, a1⟩ := pt_at r hb hB hget
        obtain ⟨b0, b1⟩ := pt_at r' hb hB' hget'
        have HG := Lib.hid hget
        have HG' := Lib.hid hget'
        clear hget hget' hl
        by_cases h0 : x.1 = y.1
        · by_cases h1 : x.2 = y.2
          · obtain rfl : x = y := Prod.ext h0 h1
            clear h0 h1
            have HA := Lib.hid (show ∀ j, j < k + 1 → l[j]? = l'[j]? from fun j hj => by
              by_cases e : j = k
              · subst e
                rw [HG.out, HG'.out]
              · exact HA.out j (by omega))
            go_wp2_with fail
            go_quiet (fail)
            go_wp2
            exact ⟨⟨k + 1, by omega, by go_num, below_drewN hb _, HA⟩, by simp [intOf]; omega⟩
          · have HF := Lib.hid (show ¬ l = l' from fun e => by
              have h9 := HG.out
              rw [e, HG'.out] at h9
              injection h9 with h9
              exact h1 (by rw [h9]))
            go_wp2_with fail
            go_quiet (fail)
            go_wp2
            go_ret
            exact ⟨ret_bool (by rw [decide_eq_false HF.out]), below_drewN hb _⟩
        · have HF := Lib.hid (show ¬ l = l' from fun e => by
            have h9 := HG.out
            rw [e, HG'.out] at h9
            injection h9 with h9
            exact h0 (by rw [h9]))
          go_wp2_with fail
          go_quiet (fail)
          go_wp2
          go_ret
          exact ⟨ret_bool (by rw [decide_eq_false HF.out]), below_drewN hb _⟩
      · obtain rfl : k = l'.length := by omega
        have HT := Lib.hid (show l = l' from List.ext_getElem? (fun j => by
          by_cases hj : j < l'.length
          · exact HA.out j hj
          · rw [List.getElem?_eq_none (by omega), List.getElem?_eq_none (by omega)]))
        clear hl
        go_wp2
        go_ret
        exact ⟨ret_bool (by rw [decide_eq_true HT.out]), hb⟩
  · have HF := Lib.hid (show ¬ l = l' from fun e => hl (by rw [e]))
    have hlz : ¬ (l.length : Int) = l'.length := by omega
    clear hl
    go_enter Try.func84, Try.ntmps84
    go_wp2
    go_ret
    exact ⟨ret_bool (by rw [decide_eq_false HF.out]), Below.refl _ _⟩

set_option maxRecDepth 100000 in
theorem stampOf_any (x0 x1 x2 x3 : Int) (A4 A5 : Option Addr) (n4 c4 n5 c5 : Nat) (w : World) :
    Calls Try.prog 136 #[.agg #[.int .i64 x0, .int .i64 x1, .int .i64 x2, .int .i64 x3, .slice A4 n4 c4, .slice A5 n5 c5]] w fun e w' => e = .returned (.agg #[.int .i64 x0, .int .i64 x1, .int .i64 x2, .int .i64 x3]) ∧ Below w.heap.size w w' := by
  go_enter Try.func136, Try.ntmps136
  go_wp2
  exact bodyPost_ret (v := .agg #[.int .i64 x0, .int .i64 x1, .int .i64 x2, .int .i64 x3]) (by simp [results, Try.results136, go_sem]) rfl ⟨rfl, (by repeat' (first | (with_reducible refine Below.setCell ?_ (by simp <;> omega) _) | (with_reducible refine Below.alloc ?_ (by simp <;> omega) _) | (with_reducible assumption) | (with_reducible exact Below.refl _ _)))⟩
def sameB (d x : DCommit) : Bool := decide (d.1 = x.1) && (decide (d.2.1 = x.2.1) && (decide (d.2.2.1 = x.2.2.1) && (decide (d.2.2.2.1 = x.2.2.2.1) && (decide (d.2.2.2.2.1 = x.2.2.2.2.1) && decide (d.2.2.2.2.2 = x.2.2.2.2.2)))))
/-- the worlds that lie over w1 -/
theorem clsH (w1 : World) : ∃ (I : Type) (F : I → World), Nonempty I ∧ (∃ n, w1.drew = F n) ∧ (∀ n, Below w1.heap.size w1 (F n)) ∧ ∀ n w2, Below (F n).heap.size (F n) w2 → ∃ m, w2 = F m := by
  obtain ⟨I, F, hI, h0, hF, hi⟩ := cls (S := fun W => Below w1.heap.size w1 W) (Below.refl w1.heap.size w1).drew
  exact ⟨I, F, hI, h0, hF, fun n w2 hb => hi w2 ((hF n).trans (hb.mono (hF n).size))⟩
end Go.Proofs.Ytmphiomalhjciaa
