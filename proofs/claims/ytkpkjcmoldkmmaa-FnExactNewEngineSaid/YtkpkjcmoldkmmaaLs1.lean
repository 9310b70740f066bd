/- Contracts of the model's functions on one lock: l03Tid, l03Grants, l01Has, LockOk. -/
import Derived.Test.YtkpkjcmoldkmmaaLh
namespace Go.Proofs.Ytkpkjcmoldkmmaa
open Go.RowKit

/-- the model's test of one holder -/
def ok1 (hs : HL) (k : Nat) : Bool := tidB (hT hs k) && !(hW hs k && decide (1 < hs.length)) && !(decide (0 < k) && decide (hT hs (k - 1) ≥ hT hs k))
theorem ids_get {l : HL} {k : Nat} (h : k < (ids l).length) : (ids l)[k] = hT l k := by
  have h' : k < l.length := by simpa [ids] using h
  simp [ids, hT, List.getD_eq_getElem?_getD, h']
theorem ids_len' (l : HL) : (ids l).length = l.length := by simp [ids]
theorem asc_get {l : HL} (h : (ids l).Pairwise (· ≤ ·)) {i j : Nat} (hij : i < j) (hj : j < l.length) : hT l i ≤ hT l j := by
  have := List.pairwise_iff_getElem.1 h i j (by rw [ids_len']; omega) (by rw [ids_len']; omega) hij
  rwa [ids_get, ids_get] at this
theorem nd_get {l : HL} (h : (ids l).Nodup) {i j : Nat} (hij : i < j) (hj : j < l.length) : ¬ hT l i = hT l j := by
  have := List.pairwise_iff_getElem.1 h i j (by rw [ids_len']; omega) (by rw [ids_len']; omega) hij
  rwa [ids_get, ids_get] at this
theorem hT_mem {l : HL} {k : Nat} (h : k < l.length) : hT l k ∈ ids l := by
  rw [← ids_get (l := l) (k := k) (by rw [ids_len']; exact h)]; exact List.getElem_mem _
theorem hW_mem {l : HL} {k : Nat} (h : k < l.length) : ∃ z ∈ l, z.2 = hW l k := ⟨l[k], List.getElem_mem _, by simp [hW, List.getD_eq_getElem?_getD, h]⟩
theorem get_hW {l : HL} {z : Int × Bool} (h : z ∈ l) : ∃ k, k < l.length ∧ z = (hT l k, hW l k) := by
  obtain ⟨k, hk, e⟩ := List.getElem_of_mem h
  exact ⟨k, hk, by rw [hT_get hk, e]⟩
theorem lockOk_bad1 {hs : HL} {k : Nat} (ws : HL) (hk : k < hs.length) (h : ok1 hs k = false) : lockOk hs ws = false := by
  rw [Bool.eq_false_iff]
  intro hl
  have hp := ((lockOk_iff _ _).1 hl).1
  have h1 : tidB (hT hs k) = true := hp.tid _ (by rw [ids_append]; exact List.mem_append_left _ (hT_mem hk))
  have h2 : ¬ (hW hs k = true ∧ 1 < hs.length) := fun ⟨a, b⟩ => by
    obtain ⟨z, hz, e⟩ := hW_mem hk
    have := (wrOk_iff _).1 hp.wr b z hz
    rw [e, a] at this; cases this
  have h3 : ¬ (0 < k ∧ hT hs (k - 1) ≥ hT hs k) := fun ⟨a, b⟩ => by
    have c := asc_get hp.asc (show k - 1 < k by omega) hk
    have hn := hp.nd
    rw [ids_append, List.nodup_append] at hn
    exact nd_get hn.1 (show k - 1 < k by omega) hk (by omega)
  rw [ok1, h1] at h
  simp only [Bool.true_and, Bool.and_eq_false_iff, Bool.not_eq_false', Bool.and_eq_true, decide_eq_true_eq] at h
  rcases h with h | h
  · exact h2 h
  · exact h3 h
theorem ok1_parts {hs : HL} {k : Nat} (h : ok1 hs k = true) : tidB (hT hs k) = true ∧ ¬ (hW hs k = true ∧ 1 < hs.length) ∧ ¬ (0 < k ∧ hT hs (k - 1) ≥ hT hs k) := by
  simp only [ok1, Bool.and_eq_true, Bool.not_eq_true', Bool.and_eq_false_iff, decide_eq_false_iff_not] at h
  refine ⟨h.1.1, fun ⟨a, b⟩ => ?_, fun ⟨a, b⟩ => ?_⟩
  · rcases h.1.2 with c | c
    · rw [a] at c; cases c
    · exact c b
  · rcases h.2 with c | c
    · exact c a
    · exact c b
theorem ok1_asc {hs : HL} (h : ∀ k, k < hs.length → ok1 hs k = true) : ∀ j i, i < j → j < hs.length → hT hs i < hT hs j := by
  intro j
  induction j with
  | zero => intro i hi; omega
  | succ j ih =>
    intro i hi hj
    have h1 := (ok1_parts (h (j + 1) hj)).2.2
    have h2 : hT hs j < hT hs (j + 1) := by
      have : ¬ (hT hs j ≥ hT hs (j + 1)) := fun e => h1 ⟨by omega, by simpa using e⟩
      omega
    by_cases e : i = j
    · subst e; exact h2
    · have := ih i (by omega) (by omega); omega
theorem lockOk_split {hs : HL} (ws : HL) (h : ∀ k, k < hs.length → ok1 hs k = true) : lockOk hs ws = (idsOk (ids hs) (ids ws) && !grantsS hs ws) := by
  have hasc := ok1_asc h
  have hlt : (ids hs).Pairwise (· < ·) := List.pairwise_iff_getElem.2 fun i j hi hj hij => by
    rw [ids_get, ids_get]; exact hasc j i hij (by rwa [ids_len'] at hj)
  have ha : ascOk hs = true := by
    simp only [ascOk, decide_eq_true_eq]
    exact hlt.imp (fun h => by omega)
  have hw : wrOk hs = true := by
    rw [wrOk_iff]
    intro h1 z hz
    obtain ⟨k, hk, rfl⟩ := get_hW hz
    have := (ok1_parts (h k hk)).2.1
    show hW hs k = false
    rw [Bool.eq_false_iff]
    exact fun e => this ⟨e, h1⟩
  have hi : idsOk [] (ids hs) = true := by
    rw [idsOk_iff]
    refine ⟨fun t ht => ?_, hlt.imp (fun h => by omega), fun _ _ => List.not_mem_nil⟩
    obtain ⟨z, hz, rfl⟩ := List.mem_map.1 ht
    obtain ⟨k, hk, rfl⟩ := get_hW hz
    exact (ok1_parts (h k hk)).1
  rw [lockOk, idsOk_append, hi, ha, hw, grants_blocked hw]
  simp
theorem drop_ids {ws : HL} {k : Nat} (h : k < ws.length) : ids (ws.drop k) = hT ws k :: ids (ws.drop (k + 1)) := by
  rw [List.drop_eq_getElem_cons h, ids_cons, ← hT_get h]
theorem take_ids {ws : HL} {k : Nat} (h : k < ws.length) : ids (ws.take (k + 1)) = ids (ws.take k) ++ [hT ws k] := by
  rw [List.take_succ_eq_append_getElem h, ids_append, ← hT_get h]; rfl

def NotIn (l : List Int) (x : Int) (k : Nat) : Prop := ∀ j, j < k → ¬ l.getD j 0 = x
end Go.Proofs.Ytkpkjcmoldkmmaa
