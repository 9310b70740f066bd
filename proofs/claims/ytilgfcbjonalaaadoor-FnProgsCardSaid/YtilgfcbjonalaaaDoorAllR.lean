/- FnProgs: what the law turns on; the contracts of its helpers. -/
import Derived.Test.YtilgfcbjonalaaaDoorDrawN
import Derived.Test.YtilgfcbjonalaaaDoorRunC
import Derived.Test.YtilgfcbjonalaaaDoorReadsI
namespace Go.Proofs.YtilgfcbjonalaaaDoor
open Go.RowKit

/-- touched by the first k acts -/
theorem marksP_all {P : Nat → Bool} {f : Nat → Int} {k j : Nat} (h : marksTo P f k j = true) : marksTo (fun _ => true) f k j = true := by
  simp only [marksTo, List.any_eq_true, Bool.and_eq_true] at h ⊢
  obtain ⟨i, hi, _, he⟩ := h
  exact ⟨i, hi, by simp, he⟩
theorem readsP_all {f : Nat → Int} : ∀ {k j : Nat}, readsTo f k j = true → marksTo (fun _ => true) f k j = true
  | 0, j, h => by simp [readsTo] at h
  | k + 1, j, h => by
    rw [marksTo_succ]
    unfold readsTo at h
    split at h
    · rename_i hc
      simp only [Bool.and_eq_true] at hc
      simp [hc.1]
    · simp [readsP_all h]
/-- what is not written keeps its value -/
theorem runV_keep (f v : Nat → Int) (j : Nat) : ∀ k, marksTo (wrt f) f k j = false → runV f v k j = v j
  | 0, _ => rfl
  | k + 1, h => by
    rw [marksTo_succ, Bool.or_eq_false_iff] at h
    obtain ⟨h1, h2⟩ := h
    rw [runV_succ]
    unfold actV
    rw [runV_keep f v j k h1]
    by_cases e : (j : Int) = f (k * 3 + 1)
    · rw [if_pos e]
      have hw : wrt f k = false := by
        cases hw : wrt f k with
        | false => rfl
        | true => rw [hw, Bool.true_and, beq_eq_false_iff_ne] at h2; exact absurd e.symm h2
      have h0 : f (k * 3) = 0 := by simpa [wrt] using hw
      rw [if_pos h0]
    · rw [if_neg e]
theorem runT_len_get {f v : Nat → Int} {k : Nat} (h0 : f (k * 3) = 0) : (runT f v (k + 1)).length = (runT f v k).length + 1 := by
  have : runT f v (k + 1) = runT f v k ++ [runV f v k (f (k * 3 + 1)).toNat] := by simp [runT, h0]
  rw [this]
  simp

/-- x is among the first n -/
def wth (n : Nat) (l : Nat → Int) (x : Int) : Bool := (List.range n).any fun j => l j == x
theorem wth_true {n k : Nat} {l : Nat → Int} {x : Int} (hk : k < n) (h : l k = x) : wth n l x = true := by
  simp only [wth, List.any_eq_true, List.mem_range, beq_iff_eq]
  exact ⟨k, hk, h⟩
theorem wth_false {n : Nat} {l : Nat → Int} {x : Int} (h : ∀ j, j < n → ¬ l j = x) : wth n l x = false := by
  rw [Bool.eq_false_iff]
  simp only [wth, List.any_eq_true, List.mem_range, beq_iff_eq, ne_eq, not_exists, not_and]
  exact h
/-- x is in the list -/
def isIn (l : List Int) (x : Int) : Bool := wth l.length (fun j => l.getD j 0) x
theorem keysUp_wth {M : Nat → Bool} {m k : Nat} (hk : k < m) (hM : M k = true) : isIn (keysUp M m) (k : Int) = true := by
  have hmem : (k : Int) ∈ keysUp M m := by
    simp only [keysUp, List.mem_map, List.mem_filter, List.mem_range]
    exact ⟨k, ⟨hk, hM⟩, rfl⟩
  obtain ⟨i, hi, he⟩ := List.getElem_of_mem hmem
  exact wth_true hi (by simp [List.getD_eq_getElem?_getD, List.getElem?_eq_getElem hi, he])
theorem keysUp_at {M : Nat → Bool} {m i : Nat} (hi : i < (keysUp M m).length) : ∃ j : Nat, (keysUp M m).getD i 0 = (j : Int) ∧ j < m ∧ M j = true := by
  have hmem : (keysUp M m)[i] ∈ keysUp M m := List.getElem_mem hi
  simp only [keysUp, List.mem_map, List.mem_filter, List.mem_range] at hmem
  obtain ⟨j, ⟨hj, hM⟩, he⟩ := hmem
  refine ⟨j, ?_, hj, hM⟩
  rw [List.getD_eq_getElem?_getD, List.getElem?_eq_getElem hi]
  simpa [keysUp] using he.symm
/-- what is written is of the keys .. -/
theorem writes_in {m i : Nat} {f : Nat → Int} (hp : progOk m f = true) (hi : i < (keysOut (wrt f) m f).length) : isIn (keysOut (fun _ => true) m f) ((keysOut (wrt f) m f).getD i 0) = true := by
  unfold keysOut at hi ⊢
  rw [if_pos hp] at hi ⊢
  rw [if_pos hp]
  obtain ⟨j, hj, h8, hM⟩ := keysUp_at hi
  rw [hj]
  exact keysUp_wth h8 (marksP_all hM)
/-- .. and what is read -/
theorem reads_in {m i : Nat} {f : Nat → Int} (hp : progOk m f = true) (hi : i < (readsOut m f).length) : isIn (keysOut (fun _ => true) m f) ((readsOut m f).getD i 0) = true := by
  unfold readsOut at hi ⊢
  unfold keysOut
  rw [if_pos hp] at hi ⊢
  rw [if_pos hp]
  obtain ⟨j, hj, h8, hM⟩ := keysUp_at hi
  rw [hj]
  exact keysUp_wth h8 (readsP_all hM)
/-- what has turned was written -/
theorem turned_in {L m k : Nat} {v f : Nat → Int} (hok : runOk L v m f = true) (hk : k < L) (h : ¬ resV L v m f k = v k) : isIn (keysOut (wrt f) m f) (k : Int) = true := by
  obtain ⟨hL, _, hp, _⟩ := runOk_parts hok
  unfold keysOut
  rw [if_pos hp]
  refine keysUp_wth (by omega) ?_
  cases hM : marksTo (wrt f) f m k with
  | true => rfl
  | false =>
    unfold resV at h
    rw [if_pos hok] at h
    exact absurd (runV_keep f v k m hM) h
theorem resT_six (L : Nat) (v : Nat → Int) (n : Nat) (f : Nat → Int) : (resT L v n f).length ≤ 6 := by
  unfold resT
  split
  · rename_i h
    have := prog_len (runOk_parts h).2.2.1
    have := runT_le f v n
    omega
  · simp
theorem resT_gets {L n : Nat} {v f : Nat → Int} (h : runOk L v n f = true) : (resT L v n f).length = (runT f v n).length := by unfold resT; rw [if_pos h]

theorem IntsAt.upP {w : World} {B B' : Nat} {A : Option Addr} {N : Nat} {f : Nat → Int} (h : IntsAt w B A N f) (hB : B ≤ B') : IntsAt w B' A N f := h.below (Below.refl _ _) hB
theorem IntsAt.keepP {w w' : World} {B B' : Nat} {A : Option Addr} {N : Nat} {f : Nat → Int} (h : IntsAt w B A N f) (hb : Below B' w w') (hB : B ≤ B') : IntsAt w' B A N f := h.below (hb.mono hB) (Nat.le_refl _)

theorem bigP_any (A : Option Addr) (n cap : Nat) (w : World) :
    Calls Tryd.prog 8 #[.slice A n cap] w fun e w' => e = .returned (.bool (decide ((1048576 : Int) < n))) ∧ w = w' := by
  go_enter Tryd.func8, Tryd.ntmps8
  go_wp2
  go_ret
  exact ⟨rfl, rfl⟩

theorem withinP_any (A : Option Addr) (n cap B : Nat) (l : Nat → Int) (x : Int) (w : World) (hn : n ≤ 1048576) (hr : IntsAt w B A n l) :
    Calls Tryd.prog 20 #[.slice A n cap, .int .i64 x] w fun e w' => e = .returned (.bool (wth n l x)) ∧ w = w' := by
  go_enter Tryd.func20, Tryd.ntmps20
  go_wp2
  go_loop [5] (fun i => ∃ k : Nat, k ≤ n ∧ i = .int .i64 k ∧ ∀ j, j < k → ¬ l j = x) (fun i => n - (intOf i).toNat)
  case atStart => exact ⟨0, Nat.zero_le _, rfl, fun j hj => absurd hj (by omega)⟩
  case round =>
    obtain ⟨k, hk, rfl, hall⟩ := hrel
    have Hall := Lib.hid hall
    clear hall
    by_cases hkn : k < n
    · obtain ⟨b, off, rfl, hB, hc⟩ := hr (by omega)
      have hkz : (k : Int) < n := by omega
      have c0 : w.cell? ⟨b, off + k, none⟩ = some (.int .i64 (l k)) := hc _ (by omega)
      clear hc hr
      by_cases hv : l k = x
      · have HW := Lib.hid (wth_true hkn hv)
        rw [hv] at c0
        clear hv
        go_wp2
        go_ret
        exact ⟨ret_bool HW.out.symm, rfl⟩
      · go_wp2
        exact ⟨⟨k + 1, by omega, by go_num, fun j hj => by
          by_cases e : j = k
          · subst e; exact hv
          · exact Hall.out j (by omega)⟩, by simp [intOf]; omega⟩
    · obtain rfl : k = n := by omega
      go_wp2
      go_ret
      exact ⟨ret_bool (wth_false Hall.out).symm, rfl⟩

theorem sameP_any (A1 A2 : Option Addr) (n c1 c2 B1 B2 : Nat) (f : Nat → Int) (w : World) (hn : n ≤ maxLen) (h1 : IntsAt w B1 A1 n f) (h2 : IntsAt w B2 A2 n f) :
    Calls Tryd.prog 12 #[.slice A1 n c1, .slice A2 n c2] w fun e w' => e = .returned (.bool true) ∧ Below w.heap.size w w' := by
  unfold maxLen at hn
  go_enter Tryd.func12, Tryd.ntmps12
  go_wp2
  go_loopw [5] (fun i wr => ∃ k : Nat, k ≤ n ∧ i = .int .i64 k ∧ ∃ m, wr = w.drewN m) (fun i _ => n - (intOf i).toNat)
  case atStart => exact ⟨0, Nat.zero_le _, rfl, 0, rfl⟩
  case round =>
    obtain ⟨k, hk, rfl, m, rfl⟩ := hrel
    by_cases hkn : k < n
    · obtain ⟨b, off, rfl, _, hc⟩ := h1 (by omega)
      obtain ⟨b', off', rfl, _, hc'⟩ := h2 (by omega)
      have hkz : (k : Int) < n := by omega
      have d0 : w.cell? ⟨b, off + k, none⟩ = some (.int .i64 (f k)) := hc _ hkn
      have d0' : w.cell? ⟨b', off' + k, none⟩ = some (.int .i64 (f k)) := hc' _ hkn
      clear hc hc' h1 h2
      go_wp2_with fail
      go_quiet (fail)
      go_wp2
      exact ⟨⟨k + 1, by omega, by go_num, _, rfl⟩, by simp [intOf]; omega⟩
    · obtain rfl : k = n := by omega
      go_wp2
      go_ret
      exact ⟨rfl, ⟨rfl, rfl, rfl, Nat.le_refl _, fun _ _ => rfl⟩⟩

theorem OwnA.actsP {w : World} {lo m : Nat} {v : Value} (h : OwnA w lo v m) : ∃ A cap f, v = .slice A m cap ∧ IntsAt w w.heap.size A (m * 3) f := by
  obtain ⟨xs, hx, h0, h | ⟨g, cap, cur, rfl, hb, hg, hc1, hc2, hc3, hc4⟩⟩ := h
  · obtain ⟨rfl, rfl⟩ := h
    exact ⟨none, 0, fun _ => 0, rfl, fun h => absurd h (by omega)⟩
  · refine ⟨_, cap, fun j => xs.getD j 0, rfl, fun hn => ⟨g, 0, rfl, (Array.getElem?_eq_some_iff.1 hg).1, fun j hj => ?_⟩⟩
    have hc := World.ownsRow.cells (base := lo) (w := w) (e := 40) (size := 3) (v := .slice (some ⟨g, 0, none⟩) m cap) (n := m) (xs := xs.map (.int .i64)) ⟨h0, .inr ⟨g, cap, cur, rfl, hb, hg, hc1, hc2, hc3, hc4⟩⟩ (g := g) rfl j (.int .i64 (xs.getD j 0)) (by
      rw [List.getElem?_map, List.getElem?_eq_getElem (by omega)]
      simp [List.getD_eq_getElem?_getD, List.getElem?_eq_getElem (show j < xs.length by omega)])
    rw [Nat.zero_add]
    by_cases hj0 : j = 0
    · subst hj0; simpa [Addr.add] using hc
    · simpa [Addr.add, hj0] using hc
/-- the drawn values: none, or a block -/
theorem OwnV.kindP {w : World} {lo m : Nat} {v : Value} (h : OwnV w lo v m) : ∃ A cap f, v = .slice A m cap ∧ IntsAt w w.heap.size A m f ∧ ((A = none ∧ m = 0 ∧ cap = 0) ∨ ∃ b, A = some ⟨b, 0, none⟩ ∧ b < w.heap.size) := by
  obtain ⟨xs, hx, hr⟩ := h
  have hr0 := hr
  obtain ⟨A, cap, hv, _, o⟩ := OwnI.of_owns hr0
  refine ⟨A, cap, _, hv, o.at_, ?_⟩
  rcases hr.2 with ⟨h1, h2⟩ | ⟨g, c9, cur, h1, hg, hh, hn, hm, hs, ht⟩
  · rw [h1] at hv
    cases hv
    exact .inl ⟨rfl, rfl, rfl⟩
  · rw [h1] at hv
    cases hv
    exact .inr ⟨g, rfl, (Array.getElem?_eq_some_iff.1 hh).1⟩

theorem clone_nil (w : World) : Calls Tryd.prog 49 #[.slice none 0 0] w fun e w' => e = .returned (.slice none 0 0) ∧ w = w' := by
  have hnil := fun w => Lib.run_eql_slice_nil (P := Tryd.prog) w 24 3 none 0 0 0 0 Tryd.underlying24
  go_enter Tryd.func49, Tryd.ntmps49
  go_wp2
  go_ret
  exact ⟨rfl, rfl⟩
set_option maxHeartbeats 800000 in
theorem implRunP_any (A1 A2 : Option Addr) (L n c1 c2 : Nat) (v f : Nat → Int) (w : World) (hL : L ≤ 1048576) (hk : (A1 = none ∧ L = 0 ∧ c1 = 0) ∨ ∃ b, A1 = some ⟨b, 0, none⟩ ∧ b < w.heap.size) (h1 : IntsAt w w.heap.size A1 L v) (h2 : IntsAt w w.heap.size A2 (n * 3) f) :
    Calls Tryd.prog 11 #[.slice A1 L c1, .slice A2 n c2] w (RunOut w L (resV L v n f) (resT L v n f) (runOk L v n f)) := by
  rcases hk with ⟨rfl, rfl, rfl⟩ | ⟨b, rfl, hb⟩
  · have hok : runOk 0 v n f = false := by simp [runOk, inB]
    have HN := Lib.hid hok
    go_enter Tryd.func11, Tryd.ntmps11
    go_wp2_with fail
    refine (clone_nil _).mono ?_; rintro e w1 ⟨rfl, rfl⟩
    go_wp2_with fail
    refine (canRun_any none A2 0 n 0 c2 v f _ (by omega) h1 h2).mono ?_; rintro e w2 ⟨rfl, hb2⟩
    rw [hok]
    clear hok
    go_wp2
    go_ret3
    have := res_no HN.out (own_more (A := none) (n := 0) (v := v) (c := 0) (Nat.le_refl _) hb2.size (fun h => absurd h (by omega)) hb2)
    rwa [HN.out] at this
  · refine implRun_any A2 b 0 L n c1 c2 v f w hL hb ?_ h2
    intro j hj
    obtain ⟨b', off, e, _, hc⟩ := h1 (by omega)
    cases e
    exact hc j hj
end Go.Proofs.YtilgfcbjonalaaaDoor
