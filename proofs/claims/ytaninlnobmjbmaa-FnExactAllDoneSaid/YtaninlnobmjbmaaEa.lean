/- Engines: is everybody done, which epoch it is; of the model and of the program. -/
import Derived.Test.YtaninlnobmjbmaaGf
namespace Go.Proofs.Ytaninlnobmjbmaa
open Go.RowKit

def doneW (x : DWorker) : Bool := decide ((x.1.length : Int) ≤ x.2.1)
def doneAll (d : DEngine) : Bool := d.2.2.1.all doneW
def epochOf (d : DEngine) : Int := if d.1.2.2.1 < 1 ∨ d.2.2.2.2.1 < 0 then 0 else min (wrap64 (d.2.2.2.2.1.tdiv d.1.2.2.1)) 1023
theorem all_false {α : Type} {l : List α} {p : α → Bool} {k : Nat} {a : α} (h : l[k]? = some a) (hp : p a = false) : l.all p = false := by
  rw [Bool.eq_false_iff]
  intro ha
  rw [List.all_eq_true] at ha
  rw [ha a (List.mem_of_getElem? h)] at hp
  cases hp
theorem all_true {α : Type} {l : List α} {p : α → Bool} (h : ∀ j a, j < l.length → l[j]? = some a → p a = true) : l.all p = true := by
  rw [List.all_eq_true]
  intro a ha
  obtain ⟨j, hj⟩ := List.getElem?_of_mem ha
  exact h j a (get_lt hj) hj
theorem specDone_any (x : DWorker) (B : Nat) (vs : List Value) (w : World) (h : fWorker.At w B x vs) : Calls Try.prog 59 #[.agg vs.toArray] w fun e w' => e = .returned (.bool (doneW x)) ∧ Below w.heap.size w w' := by
  obtain ⟨A0, c0, A5, c5, A6, c6, A7, c7, A8, c8, rfl, _, _, _, _, _⟩ := at_Worker h
  clear h
  go_enter Try.func59, Try.ntmps59
  go_wp2
  go_ret
  exact ⟨rfl, (Below.refl _ _).alloc (Nat.le_refl _) _⟩
theorem implDone_any (x : DWorker) (B : Nat) (vs : List Value) (w : World) (h : fWorker.At w B x vs) : Calls Try.prog 64 #[.agg vs.toArray] w fun e w' => e = .returned (.bool (doneW x)) ∧ Below w.heap.size w w' := by
  obtain ⟨A0, c0, A5, c5, A6, c6, A7, c7, A8, c8, rfl, _, _, _, _, _⟩ := at_Worker h
  clear h
  go_enter Try.func64, Try.ntmps64
  go_wp2
  go_ret
  exact ⟨rfl, (Below.refl _ _).alloc (Nat.le_refl _) _⟩
set_option maxHeartbeats 1600000 in
set_option maxRecDepth 100000 in
theorem specAllDone_any (d : DEngine) (B : Nat) (vs : List Value) (w : World) (hB : B ≤ w.heap.size) (h : fEngine.At w B d vs) : Calls Try.prog 24 #[.agg vs.toArray] w fun e w' => e = .returned (.bool (doneAll d)) ∧ Below w.heap.size w w' := by
  obtain ⟨A5, c5, A6, c6, A7, c7, A10, c10, rfl, r5, r6, r7, r10⟩ := at_Engine h
  clear h
  have hmx := r6.1
  unfold maxLen at hmx
  go_enter Try.func24, Try.ntmps24
  go_wp2_with fail
  have b := (Below.refl w.heap.size w).alloc (Nat.le_refl _) (.cells #[.int .i64 d.1.1, .int .i64 d.1.2.1, .int .i64 d.1.2.2.1, .bool d.1.2.2.2.1, .int .i64 d.1.2.2.2.2, .slice A5 (d.2.1).length c5, .slice A6 (d.2.2.1).length c6, .slice A7 (d.2.2.2.1).length c7, .int .i64 d.2.2.2.2.1, .int .i64 d.2.2.2.2.2.1, .slice A10 (d.2.2.2.2.2.2.1).length c10, .int .i64 d.2.2.2.2.2.2.2.1, .int .i64 d.2.2.2.2.2.2.2.2] 40)
  have X := Bx.new (w := w) (c := #[.int .i64 d.1.1, .int .i64 d.1.2.1, .int .i64 d.1.2.2.1, .bool d.1.2.2.2.1, .int .i64 d.1.2.2.2.2, .slice A5 (d.2.1).length c5, .slice A6 (d.2.2.1).length c6, .slice A7 (d.2.2.2.1).length c7, .int .i64 d.2.2.2.2.1, .int .i64 d.2.2.2.2.2.1, .slice A10 (d.2.2.2.2.2.2.1).length c10, .int .i64 d.2.2.2.2.2.2.2.1, .int .i64 d.2.2.2.2.2.2.2.2]) (t := 40) rfl
  generalize w.alloc (.cells #[.int .i64 d.1.1, .int .i64 d.1.2.1, .int .i64 d.1.2.2.1, .bool d.1.2.2.2.1, .int .i64 d.1.2.2.2.2, .slice A5 (d.2.1).length c5, .slice A6 (d.2.2.1).length c6, .slice A7 (d.2.2.2.1).length c7, .int .i64 d.2.2.2.2.1, .int .i64 d.2.2.2.2.2.1, .slice A10 (d.2.2.2.2.2.2.1).length c10, .int .i64 d.2.2.2.2.2.2.2.1, .int .i64 d.2.2.2.2.2.2.2.2] 40) = w1 at b X ⊢
  obtain ⟨⟨x0, x1, x2, x3, x4, x5, x6, x7, x8, x9, x10, x11, x12⟩, _⟩ := X.c13
  have Xl := X.lt
  go_wp2_with fail
  go_loopw [3] (fun i wr => ∃ k : Nat, k ≤ d.2.2.1.length ∧ i = .int .i64 k ∧ Below w.heap.size w wr ∧ Bx wr w.heap.size [.int .i64 d.1.1, .int .i64 d.1.2.1, .int .i64 d.1.2.2.1, .bool d.1.2.2.2.1, .int .i64 d.1.2.2.2.2, .slice A5 (d.2.1).length c5, .slice A6 (d.2.2.1).length c6, .slice A7 (d.2.2.2.1).length c7, .int .i64 d.2.2.2.2.1, .int .i64 d.2.2.2.2.2.1, .slice A10 (d.2.2.2.2.2.2.1).length c10, .int .i64 d.2.2.2.2.2.2.2.1, .int .i64 d.2.2.2.2.2.2.2.2] ∧ ∀ j a, j < k → d.2.2.1[j]? = some a → doneW a = true) (fun i _ => d.2.2.1.length - (intOf i).toNat)
  case atStart => exact ⟨0, Nat.zero_le _, rfl, b, X, fun j a hj => absurd hj (by omega)⟩
  case round =>
    clear x0 x1 x2 x3 x4 x5 x6 x7 x8 x9 x10 x11 x12 Xl X b
    obtain ⟨k, hk, rfl, b, X, hall⟩ := hrel
    have HA := Lib.hid hall
    clear hall
    obtain ⟨⟨x0, x1, x2, x3, x4, x5, x6, x7, x8, x9, x10, x11, x12⟩, _⟩ := X.c13
    have Xl := X.lt
    by_cases hkn : k < d.2.2.1.length
    · obtain ⟨bb, off, hA6, hbB, hc⟩ := r6.2 (by omega)
      have hkz : (k : Int) < d.2.2.1.length := by omega
      have hget : d.2.2.1[k]? = some d.2.2.1[k] := List.getElem?_eq_getElem hkn
      obtain ⟨v, hv0, hat0⟩ := hc k _ hget
      have hsz := b.size
      have hat := fWorker.at_same hat0 (.of b hB)
      have hv := hv0.below b (show bb < w.heap.size by omega)
      rw [show fWorker.n = 9 from rfl] at hv
      clear hv0 hat0
      generalize hx : d.2.2.1[k] = x at hget hat
      have HAT := Lib.hid hat
      obtain ⟨A0w, c0w, A5w, c5w, A6w, c6w, A7w, c7w, A8w, c8w, rfl, _, _, _, _, _⟩ := at_Worker hat
      subst hA6
      obtain ⟨a0, a1, a2, a3, a4, a5, a6, a7, a8⟩ := hv.c9
      clear hc hv hx hat
      go_wp2_with fail
      refine (specDone_any x B _ _ HAT.out).mono ?_; rintro o w2 ⟨rfl, hb⟩
      have X := X.next hb
      have b := b.trans (hb.mono hsz)
      clear hb x0 x1 x2 x3 x4 x5 x6 x7 x8 x9 x10 x11 x12 a0 a1 a2 a3 a4 a5 a6 a7 a8 Xl
      cases hd : doneW x with
      | true =>
        go_wp2
        exact ⟨⟨k + 1, by omega, by go_num, b, X, fun j a hj ha => by
          by_cases e : j = k
          · subst e
            rw [hget] at ha
            cases ha
            exact hd
          · exact HA.out j a (by omega) ha⟩, by simp [intOf]; omega⟩
      | false =>
        have HF := Lib.hid (all_false hget hd)
        go_wp2
        go_ret
        exact ⟨ret_bool HF.out.symm, b⟩
    · obtain rfl : k = d.2.2.1.length := by omega
      have HT := Lib.hid (all_true (l := d.2.2.1) (p := doneW) HA.out)
      go_wp2
      go_ret
      exact ⟨ret_bool HT.out.symm, b⟩
set_option maxHeartbeats 1600000 in
set_option maxRecDepth 100000 in
theorem implAllDone_any (d : DEngine) (B : Nat) (vs : List Value) (w : World) (hB : B ≤ w.heap.size) (h : fEngine.At w B d vs) : Calls Try.prog 26 #[.agg vs.toArray] w fun e w' => e = .returned (.bool (doneAll d)) ∧ Below w.heap.size w w' := by
  obtain ⟨A5, c5, A6, c6, A7, c7, A10, c10, rfl, r5, r6, r7, r10⟩ := at_Engine h
  clear h
  have hmx := r6.1
  unfold maxLen at hmx
  go_enter Try.func26, Try.ntmps26
  go_wp2_with fail
  have b := (Below.refl w.heap.size w).alloc (Nat.le_refl _) (.cells #[.int .i64 d.1.1, .int .i64 d.1.2.1, .int .i64 d.1.2.2.1, .bool d.1.2.2.2.1, .int .i64 d.1.2.2.2.2, .slice A5 (d.2.1).length c5, .slice A6 (d.2.2.1).length c6, .slice A7 (d.2.2.2.1).length c7, .int .i64 d.2.2.2.2.1, .int .i64 d.2.2.2.2.2.1, .slice A10 (d.2.2.2.2.2.2.1).length c10, .int .i64 d.2.2.2.2.2.2.2.1, .int .i64 d.2.2.2.2.2.2.2.2] 40)
  have X := Bx.new (w := w) (c := #[.int .i64 d.1.1, .int .i64 d.1.2.1, .int .i64 d.1.2.2.1, .bool d.1.2.2.2.1, .int .i64 d.1.2.2.2.2, .slice A5 (d.2.1).length c5, .slice A6 (d.2.2.1).length c6, .slice A7 (d.2.2.2.1).length c7, .int .i64 d.2.2.2.2.1, .int .i64 d.2.2.2.2.2.1, .slice A10 (d.2.2.2.2.2.2.1).length c10, .int .i64 d.2.2.2.2.2.2.2.1, .int .i64 d.2.2.2.2.2.2.2.2]) (t := 40) rfl
  generalize w.alloc (.cells #[.int .i64 d.1.1, .int .i64 d.1.2.1, .int .i64 d.1.2.2.1, .bool d.1.2.2.2.1, .int .i64 d.1.2.2.2.2, .slice A5 (d.2.1).length c5, .slice A6 (d.2.2.1).length c6, .slice A7 (d.2.2.2.1).length c7, .int .i64 d.2.2.2.2.1, .int .i64 d.2.2.2.2.2.1, .slice A10 (d.2.2.2.2.2.2.1).length c10, .int .i64 d.2.2.2.2.2.2.2.1, .int .i64 d.2.2.2.2.2.2.2.2] 40) = w1 at b X ⊢
  obtain ⟨⟨x0, x1, x2, x3, x4, x5, x6, x7, x8, x9, x10, x11, x12⟩, _⟩ := X.c13
  have Xl := X.lt
  go_wp2_with fail
  go_loopw [8] (fun i wr => ∃ k : Nat, k ≤ d.2.2.1.length ∧ i = .int .i64 k ∧ Below w.heap.size w wr ∧ Bx wr w.heap.size [.int .i64 d.1.1, .int .i64 d.1.2.1, .int .i64 d.1.2.2.1, .bool d.1.2.2.2.1, .int .i64 d.1.2.2.2.2, .slice A5 (d.2.1).length c5, .slice A6 (d.2.2.1).length c6, .slice A7 (d.2.2.2.1).length c7, .int .i64 d.2.2.2.2.1, .int .i64 d.2.2.2.2.2.1, .slice A10 (d.2.2.2.2.2.2.1).length c10, .int .i64 d.2.2.2.2.2.2.2.1, .int .i64 d.2.2.2.2.2.2.2.2] ∧ ∀ j a, j < k → d.2.2.1[j]? = some a → doneW a = true) (fun i _ => d.2.2.1.length - (intOf i).toNat)
  case atStart => exact ⟨0, Nat.zero_le _, rfl, b, X, fun j a hj => absurd hj (by omega)⟩
  case round =>
    clear x0 x1 x2 x3 x4 x5 x6 x7 x8 x9 x10 x11 x12 Xl X b
    obtain ⟨k, hk, rfl, b, X, hall⟩ := hrel
    have HA := Lib.hid hall
    clear hall
    obtain ⟨⟨x0, x1, x2, x3, x4, x5, x6, x7, x8, x9, x10, x11, x12⟩, _⟩ := X.c13
    have Xl := X.lt
    by_cases hkn : k < d.2.2.1.length
    · obtain ⟨bb, off, hA6, hbB, hc⟩ := r6.2 (by omega)
      have hkz : (k : Int) < d.2.2.1.length := by omega
      have hget : d.2.2.1[k]? = some d.2.2.1[k] := List.getElem?_eq_getElem hkn
      obtain ⟨v, hv0, hat0⟩ := hc k _ hget
      have hsz := b.size
      have hat := fWorker.at_same hat0 (.of b hB)
      have hv := hv0.below b (show bb < w.heap.size by omega)
      rw [show fWorker.n = 9 from rfl] at hv
      clear hv0 hat0
      generalize hx : d.2.2.1[k] = x at hget hat
      have HAT := Lib.hid hat
      obtain ⟨A0w, c0w, A5w, c5w, A6w, c6w, A7w, c7w, A8w, c8w, rfl, _, _, _, _, _⟩ := at_Worker hat
      subst hA6
      obtain ⟨a0, a1, a2, a3, a4, a5, a6, a7, a8⟩ := hv.c9
      clear hc hv hx hat
      go_wp2_with fail
      have b := b.trans ((Below.refl wr.heap.size wr).alloc (Nat.le_refl _) (.cells #[.slice A0w (x.1).length c0w, .int .i64 x.2.1, .int .i64 x.2.2.1, .int .i64 x.2.2.2.1, .int .i64 x.2.2.2.2.1, .slice A5w (x.2.2.2.2.2.1).length c5w, .slice A6w (x.2.2.2.2.2.2.1).length c6w, .slice A7w (x.2.2.2.2.2.2.2.1).length c7w, .slice A8w (x.2.2.2.2.2.2.2.2).length c8w] 73) |>.mono hsz)
      have hA := (Below.refl wr.heap.size wr).alloc (Nat.le_refl _) (.cells #[.slice A0w (x.1).length c0w, .int .i64 x.2.1, .int .i64 x.2.2.1, .int .i64 x.2.2.2.1, .int .i64 x.2.2.2.2.1, .slice A5w (x.2.2.2.2.2.1).length c5w, .slice A6w (x.2.2.2.2.2.2.1).length c6w, .slice A7w (x.2.2.2.2.2.2.2.1).length c7w, .slice A8w (x.2.2.2.2.2.2.2.2).length c8w] 73)
      have X := X.next hA
      have hat2 := fWorker.at_same HAT.out (.of hA (by omega))
      have hsz2 := hA.size
      clear hA x0 x1 x2 x3 x4 x5 x6 x7 x8 x9 x10 x11 x12 a0 a1 a2 a3 a4 a5 a6 a7 a8 Xl
      refine (implDone_any x B _ _ hat2).mono ?_; rintro o w2 ⟨rfl, hb⟩
      have X := X.next hb
      have b := b.trans (hb.mono (by omega))
      clear hb hat2
      cases hd : doneW x with
      | true =>
        go_wp2
        exact ⟨⟨k + 1, by omega, by go_num, b, X, fun j a hj ha => by
          by_cases e : j = k
          · subst e
            rw [hget] at ha
            cases ha
            exact hd
          · exact HA.out j a (by omega) ha⟩, by simp [intOf]; omega⟩
      | false =>
        have HF := Lib.hid (all_false hget hd)
        go_wp2
        go_ret
        exact ⟨ret_bool HF.out.symm, b⟩
    · obtain rfl : k = d.2.2.1.length := by omega
      have HT := Lib.hid (all_true (l := d.2.2.1) (p := doneW) HA.out)
      go_wp2
      go_ret
      exact ⟨ret_bool HT.out.symm, b⟩
set_option maxRecDepth 100000 in
theorem specEpochOf_any (d : DEngine) (B : Nat) (vs : List Value) (w : World) (h : fEngine.At w B d vs) : Calls Try.prog 27 #[.agg vs.toArray] w fun e w' => e = .returned (.int .i64 (epochOf d)) ∧ Below w.heap.size w w' := by
  obtain ⟨A5, c5, A6, c6, A7, c7, A10, c10, rfl, _, _, _, _⟩ := at_Engine h
  clear h
  unfold epochOf
  by_cases h1 : d.1.2.2.1 < 1
  · rw [if_pos (.inl h1)]
    have h2 : decide (d.1.2.2.1 < 1) = true := decide_eq_true h1
    go_enter Try.func27, Try.ntmps27
    go_wp2
    go_ret
    exact ⟨rfl, (Below.refl _ _).alloc (Nat.le_refl _) _⟩
  · have h2 : decide (d.1.2.2.1 < 1) = false := decide_eq_false h1
    by_cases h3 : d.2.2.2.2.1 < 0
    · rw [if_pos (.inr h3)]
      go_enter Try.func27, Try.ntmps27
      go_wp2
      go_ret
      exact ⟨rfl, (Below.refl _ _).alloc (Nat.le_refl _) _⟩
    · rw [if_neg (by omega)]
      go_enter Try.func27, Try.ntmps27
      go_wp2
      all_goals
        go_ret
        exact ⟨ret_int (by omega), (Below.refl _ _).alloc (Nat.le_refl _) _⟩
set_option maxRecDepth 100000 in
theorem implEpochOf_any (d : DEngine) (B : Nat) (vs : List Value) (w : World) (h : fEngine.At w B d vs) : Calls Try.prog 28 #[.agg vs.toArray] w fun e w' => e = .returned (.int .i64 (epochOf d)) ∧ Below w.heap.size w w' := by
  obtain ⟨A5, c5, A6, c6, A7, c7, A10, c10, rfl, _, _, _, _⟩ := at_Engine h
  clear h
  unfold epochOf
  by_cases h1 : d.1.2.2.1 < 1
  · rw [if_pos (.inl h1)]
    have h2 : decide (d.1.2.2.1 < 1) = true := decide_eq_true h1
    go_enter Try.func28, Try.ntmps28
    go_wp2
    go_ret
    exact ⟨rfl, (Below.refl _ _).alloc (Nat.le_refl _) _⟩
  · have h2 : decide (d.1.2.2.1 < 1) = false := decide_eq_false h1
    by_cases h3 : d.2.2.2.2.1 < 0
    · rw [if_pos (.inr h3)]
      go_enter Try.func28, Try.ntmps28
      go_wp2
      go_ret
      exact ⟨rfl, (Below.refl _ _).alloc (Nat.le_refl _) _⟩
    · rw [if_neg (by omega)]
      go_enter Try.func28, Try.ntmps28
      go_wp2
      all_goals
        go_ret
        exact ⟨ret_int (by omega), (Below.refl _ _).alloc (Nat.le_refl _) _⟩
end Go.Proofs.Ytaninlnobmjbmaa
