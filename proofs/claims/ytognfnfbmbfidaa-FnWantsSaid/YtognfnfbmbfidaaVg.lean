/- The mathematics of FnWants: what is merged covers both, less asked for is more, and what cools becomes cold. -/
import Derived.Test.YtognfnfbmbfidaaVe
namespace Go.Proofs.Ytognfnfbmbfidaa
open Go.RowKit

theorem keysUp_wth {M : Nat → Bool} {m k : Nat} (hk : k < m) (hM : M k = true) : wth (keysUp M m).length (fun j => (keysUp M m).getD j 0) (k : Int) = true := by
  have hmem : (k : Int) ∈ keysUp M m := by
    simp only [keysUp, List.mem_map, List.mem_filter, List.mem_range]
    exact ⟨k, ⟨hk, hM⟩, rfl⟩
  obtain ⟨i, hi, he⟩ := List.getElem_of_mem hmem
  exact wth_true hi (by simp [List.getD_eq_getElem?_getD, List.getElem?_eq_getElem hi, he])
theorem keysUp_at {M : Nat → Bool} {m i : Nat} (hi : i < (keysUp M m).length) : ∃ j : Nat, (keysUp M m).getD i 0 = (j : Int) ∧ j < m ∧ M j = true := by
  have hmem : (keysUp M m)[i] ∈ keysUp M m := List.getElem_mem hi
  simp only [keysUp, List.mem_map, List.mem_filter, List.mem_range] at hmem
  obtain ⟨j, ⟨hj, hM⟩, he⟩ := hmem
  refine ⟨j, ?_, hj, hM⟩
  rw [List.getD_eq_getElem?_getD, List.getElem?_eq_getElem hi]
  simpa [keysUp] using he.symm

theorem covO_mrg {a b : HL} (h : (wantsB a && wantsB b) = true) : covO (mrgA a b) a = true ∧ covO (mrgA a b) b = true ∧ wantsB (mrgA a b) = true := by
  rw [mrgA_yes h]
  simp only [Bool.and_eq_true] at h
  have hm := wantsB_mrgO a b
  have hb := mrgO_both (a := a) (b := b) (mrgO a b) rfl
  refine ⟨?_, ?_, hm⟩
  · unfold covO; rw [hm, h.1, (cover_mrg hm h.1).1 hb.1]; rfl
  · unfold covO; rw [hm, h.2, (cover_mrg hm h.2).1 hb.2]; rfl
/-- the greatest heat after k coolings -/
def bnd : Nat → Int
  | 0 => 20
  | k + 1 => bnd k / 2
structure Cool (n : Nat) (f : Nat → Int) (k : Nat) : Prop where
  ok : heatB n f = true
  le : ∀ j, j < 8 → f j ≤ bnd k
theorem Cool.zero {n : Nat} {f : Nat → Int} (h : heatB n f = true) : Cool n f 0 := ⟨h, fun _ hj => (heatB_get h hj).2⟩
theorem Cool.next {n k : Nat} {f : Nat → Int} (h : Cool n f k) : Cool n (coolF n f) (k + 1) := by
  have hc : ∀ j, coolF n f j = f j / 2 := fun j => by unfold coolF; rw [if_pos h.ok]
  refine ⟨heatB_yes (heatB_len h.ok) fun j hj => ?_, fun j hj => ?_⟩
  · have := heatB_get h.ok hj
    rw [hc j]
    simp [inB]; omega
  · rw [hc j]
    have := h.le j hj
    show f j / 2 ≤ bnd k / 2
    omega
theorem Cool.done {n : Nat} {f : Nat → Int} (h : Cool n f 5) : hotO n f 1 = [] := by
  have h5 : bnd 5 = 0 := by decide
  unfold hotO
  split
  · have : ∀ k ∈ List.range 8, hotM f 1 k = false := fun k hk => by
      have := h.le k (List.mem_range.1 hk)
      rw [h5] at this
      simp [hotM]; omega
    unfold keysUp
    rw [List.filter_eq_nil_iff.2 (fun k hk => by rw [this k hk]; simp)]
    rfl
  · rfl
theorem hot_in {n i : Nat} {f : Nat → Int} {x : Int} (hi : i < (hotO n f x).length) : (heatB n f && inB x 1 20) = true := by
  unfold hotO at hi
  split at hi
  · assumption
  · simp at hi
theorem hot_le {n i : Nat} {f : Nat → Int} {x : Int} (hi : i < (hotO n f x).length) : x ≤ 20 := by
  have := hot_in hi
  simp only [Bool.and_eq_true] at this
  have := this.2
  simp [inB] at this
  omega
theorem hot_more {n i : Nat} {f : Nat → Int} {x : Int} (hx : 1 < x) (hi : i < (hotO n f x).length) : wth (hotO n f (x - 1)).length (fun j => (hotO n f (x - 1)).getD j 0) ((hotO n f x).getD i 0) = true := by
  have h := hot_in hi
  have h2 := hot_le hi
  rw [hotO_yes h] at hi ⊢
  obtain ⟨j, he, hj, hm⟩ := keysUp_at hi
  rw [he]
  simp only [Bool.and_eq_true] at h
  have h3 : (heatB n f && inB (x - 1) 1 20) = true := by rw [h.1]; simp [inB]; omega
  rw [hotO_yes h3]
  refine keysUp_wth hj ?_
  simp only [hotM, decide_eq_true_eq] at hm ⊢
  omega
end Go.Proofs.Ytognfnfbmbfidaa
