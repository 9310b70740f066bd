/- The law FnReadsMatter walked. -/
import Derived.Test.YtpjejmgdfeanjaaMat
namespace Go.Proofs.Ytpjejmgdfeanjaa
open Go.RowKit

theorem OwnA.acts {w : World} {lo m : Nat} {v : Value} (h : OwnA w lo v m) : ∃ A cap f, v = .slice A m cap ∧ IntsAt w w.heap.size A (m * 3) f := by
  obtain ⟨xs, hx, h0, h | ⟨g, cap, cur, rfl, hb, hg, hc1, hc2, hc3, hc4⟩⟩ := h
  · obtain ⟨rfl, rfl⟩ := h
    exact ⟨none, 0, fun _ => 0, rfl, fun h => absurd h (by omega)⟩
  · refine ⟨_, cap, fun j => xs.getD j 0, rfl, fun hn => ⟨g, 0, rfl, (Array.getElem?_eq_some_iff.1 hg).1, fun j hj => ?_⟩⟩
    have hc := World.ownsRow.cells (base := lo) (w := w) (e := 37) (size := 3) (v := .slice (some ⟨g, 0, none⟩) m cap) (n := m) (xs := xs.map (.int .i64)) ⟨h0, .inr ⟨g, cap, cur, rfl, hb, hg, hc1, hc2, hc3, hc4⟩⟩ (g := g) rfl j (.int .i64 (xs.getD j 0)) (by
      rw [List.getElem?_map, List.getElem?_eq_getElem (by omega)]
      simp [List.getD_eq_getElem?_getD, List.getElem?_eq_getElem (show j < xs.length by omega)])
    rw [Nat.zero_add]
    by_cases hj0 : j = 0
    · subst hj0; simpa [Addr.add] using hc
    · simpa [Addr.add, hj0] using hc

theorem OwnV.ints {w : World} {lo m : Nat} {v : Value} (h : OwnV w lo v m) : ∃ A cap f, v = .slice A m cap ∧ IntsAt w w.heap.size A m f := by
  obtain ⟨xs, hx, hr⟩ := h
  obtain ⟨A, cap, rfl, _, o⟩ := OwnI.of_owns hr
  exact ⟨A, cap, _, rfl, o.at_⟩

theorem keysUp_wth {M : Nat → Bool} {m k : Nat} (hk : k < m) (hM : M k = true) : wth (keysUp M m).length (fun j => (keysUp M m).getD j 0) (k : Int) = true := by
  have hmem : (k : Int) ∈ keysUp M m := by
    simp only [keysUp, List.mem_map, List.mem_filter, List.mem_range]
    exact ⟨k, ⟨hk, hM⟩, rfl⟩
  obtain ⟨i, hi, he⟩ := List.getElem_of_mem hmem
  exact wth_true hi (by simp [List.getD_eq_getElem?_getD, List.getElem?_eq_getElem hi, he])
theorem keysUp_at {M : Nat → Bool} {m i : Nat} (hi : i < (keysUp M m).length) : ∃ j : Nat, (keysUp M m).getD i 0 = (j : Int) ∧ j < m ∧ M j = true := by
  have hmem : (keysUp M m)[i] ∈ keysUp M m := List.getElem_mem hi
  simp only [keysUp, List.mem_map, List.mem_filter, List.mem_range] at hmem
  obtain ⟨j, ⟨hj, hM⟩, he⟩ := hmem
  refine ⟨j, ?_, hj, hM⟩
  rw [List.getD_eq_getElem?_getD, List.getElem?_eq_getElem hi]
  simpa [keysUp] using he.symm
theorem marks_tch {P : Nat → Bool} {f : Nat → Int} {k j : Nat} (h : marksTo P f k j = true) : tch f k j = true := by
  simp only [marksTo, tch, List.any_eq_true, Bool.and_eq_true] at h ⊢
  obtain ⟨i, hi, _, he⟩ := h
  exact ⟨i, hi, by simp, he⟩
theorem marks_key {P : Nat → Bool} {f : Nat → Int} {L k j : Nat} (h : marksTo P f k j = true) (hk : keysIn L k f = true) : j < L := by
  simp only [marksTo, List.any_eq_true, Bool.and_eq_true, List.mem_range, beq_iff_eq] at h
  obtain ⟨i, hi, _, he⟩ := h
  have := keysIn_get hk hi
  omega

/-- the values with what is not read put otherwise -/
structure Other (L m : Nat) (v f : Nat → Int) (xs : List Int) : Prop where
  ok : runOk L (fun j => xs.getD j 0) m f = true
  told : resT L (fun j => xs.getD j 0) m f = resT L v m f
  wrote : ∀ i, i < (keysOut (wrt f) m f).length → ∃ j : Nat, (keysOut (wrt f) m f).getD i 0 = (j : Int) ∧ j < L ∧ resV L (fun j => xs.getD j 0) m f j = resV L v m f j
theorem other_ok {L m : Nat} {v f : Nat → Int} {xs : List Int} (hok : runOk L v m f = true)
    (hx : ∀ j, j < L → -1000000 ≤ xs.getD j 0 ∧ xs.getD j 0 ≤ 1000000 ∧ (wth (readsOut m f).length (fun j => (readsOut m f).getD j 0) (j : Int) = true → xs.getD j 0 = v j)) : Other L m v f xs := by
  obtain ⟨hL, hv, hp, hk⟩ := runOk_parts hok
  have ok : runOk L (fun j => xs.getD j 0) m f = true := by
    have h1 : inB L 1 8 = true := by simp [inB]; omega
    have h2 : valsOk L (fun j => xs.getD j 0) = true := valsOk_true (fun j hj => by
      obtain ⟨h1, h2, _⟩ := hx j hj
      simp only [inB, Bool.and_eq_true, decide_eq_true_eq]
      exact ⟨h1, h2⟩)
    simp only [runOk, h1, h2, hp, hk, Bool.and_self]
  have hro : readsOut m f = keysUp (readsTo f m) 8 := by unfold readsOut; rw [if_pos hp]
  have hwo : keysOut (wrt f) m f = keysUp (marksTo (wrt f) f m) 8 := by unfold keysOut; rw [if_pos hp]
  have hj8 : ∀ j, readsTo f m j = true → j < L := fun j hj => marks_key (readsTo_tch hj) hk
  obtain ⟨hT, hV⟩ := matter f (fun j => xs.getD j 0) v m (fun i hi => (key_range hp hi).1) (fun j hj => (hx j (hj8 j hj)).2.2 (by rw [hro]; exact keysUp_wth (by have := hj8 j hj; omega) hj))
  refine ⟨ok, ?_, fun i hi => ?_⟩
  · unfold resT
    rw [if_pos ok, if_pos hok]
    exact hT
  · rw [hwo] at hi ⊢
    obtain ⟨j, he, h8, hM⟩ := keysUp_at hi
    refine ⟨j, he, marks_key hM hk, ?_⟩
    unfold resV
    rw [if_pos ok, if_pos hok]
    exact (hV j).1 (marks_tch hM)
end Go.Proofs.Ytpjejmgdfeanjaa
