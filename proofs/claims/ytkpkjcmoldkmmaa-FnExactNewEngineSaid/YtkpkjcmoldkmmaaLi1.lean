/- The program's tests of a lock: tidOk, compareTids, canJoin, holdersOk. -/
import Derived.Test.YtkpkjcmoldkmmaaLs1
namespace Go.Proofs.Ytkpkjcmoldkmmaa
open Go.RowKit

def cmpI (a b : Int) : Int := if a < b then -1 else if b < a then 1 else 0
theorem ret_int {a b : Int} (h : a = b) : Ending.returned (.int .i64 a) = .returned (.int .i64 b) := by rw [h]
theorem compare_any (a b : Int) (w : World) :
    Calls Try.prog 112 #[.int .i64 a, .int .i64 b] w fun e w' => e = .returned (.int .i64 (cmpI a b)) ∧ w = w' := by
  by_cases h1 : a < b
  · go_enter Try.func112, Try.ntmps112
    go_wp2
    go_ret
    exact ⟨ret_int (by unfold cmpI; rw [if_pos h1]), rfl⟩
  · by_cases h2 : b < a
    · go_enter Try.func112, Try.ntmps112
      go_wp2
      go_ret
      exact ⟨ret_int (by unfold cmpI; rw [if_neg (by omega), if_pos h2]), rfl⟩
    · go_enter Try.func112, Try.ntmps112
      go_wp2
      go_ret
      exact ⟨ret_int (by unfold cmpI; rw [if_neg (by omega), if_neg (by omega)]), rfl⟩

def NoW (hs : HL) (h : Int × Bool) (k : Nat) : Prop := ∀ j, j < k → (h.2 || hW hs j) = false
theorem canJoin_no {hs : HL} {h : Int × Bool} {k : Nat} (hk : k < hs.length) (e : (h.2 || hW hs k) = true) : canJoin hs h = false := by
  rw [Bool.eq_false_iff]
  intro hc
  obtain ⟨z, hz, ez⟩ := hW_mem hk
  have := List.all_eq_true.1 hc z hz
  rw [ez, e] at this
  cases this
theorem canJoin_yes {hs : HL} {h : Int × Bool} (hn : NoW hs h hs.length) : canJoin hs h = true := by
  rw [canJoin, List.all_eq_true]
  intro z hz
  obtain ⟨k, hk, rfl⟩ := get_hW hz
  rw [hn k hk]; rfl
theorem NoW.next {hs : HL} {h : Int × Bool} {k : Nat} (hn : NoW hs h k) (e : (h.2 || hW hs k) = false) : NoW hs h (k + 1) := fun j hj => by
  by_cases ej : j = k
  · subst ej; exact e
  · exact hn j (by omega)

/-- sorted from k on -/
def AscFrom (l : HL) (k : Nat) : Prop := ∀ j, k < j → j < l.length → hT l (j - 1) ≤ hT l j
theorem AscFrom.next {l : HL} {k : Nat} (h : AscFrom l k) (hk : ¬ hT l k < hT l (k - 1)) : AscFrom l (k - 1) := fun j hj hl => by
  by_cases e : j = k
  · subst e; omega
  · exact h j (by omega) hl
theorem ascOk_no {l : HL} {k : Nat} (h0 : 0 < k) (hk : k < l.length) (h : hT l k < hT l (k - 1)) : ascOk l = false := by
  rw [Bool.eq_false_iff]
  intro hc
  simp only [ascOk, decide_eq_true_eq] at hc
  have := asc_get hc (show k - 1 < k by omega) hk
  omega
theorem ascOk_yes {l : HL} (h : AscFrom l 0) : ascOk l = true := by
  simp only [ascOk, decide_eq_true_eq]
  have key : ∀ j i, i < j → j < l.length → hT l i ≤ hT l j := by
    intro j
    induction j with
    | zero => intro i hi; omega
    | succ j ih =>
      intro i hi hj
      have h1 := h (j + 1) (by omega) hj
      simp only [Nat.add_sub_cancel] at h1
      by_cases e : i = j
      · subst e; exact h1
      · have := ih i (by omega) (by omega); omega
  exact List.pairwise_iff_getElem.2 fun i j hi hj hij => by
    rw [ids_get, ids_get]; exact key j i hij (by rwa [ids_len'] at hj)
theorem cmpI_neg {a b : Int} : cmpI a b < 0 ↔ a < b := by
  unfold cmpI
  split
  · omega
  · split <;> omega

theorem holders_no {hs : HL} {k : Nat} (hk : k < hs.length) (h1 : hW hs k = true) (h2 : 1 < hs.length) : wrOk hs = false := by
  rw [Bool.eq_false_iff]
  intro hc
  obtain ⟨z, hz, ez⟩ := hW_mem hk
  have := (wrOk_iff _).1 hc h2 z hz
  rw [ez, h1] at this; cases this
def WrTo (hs : HL) (k : Nat) : Prop := ∀ j, j < k → (hW hs j && decide (1 < hs.length)) = false
theorem holders_yes {hs : HL} (h : WrTo hs hs.length) : wrOk hs = true := by
  rw [wrOk_iff]
  intro h1 z hz
  obtain ⟨k, hk, rfl⟩ := get_hW hz
  have := h k hk
  simpa [h1] using this
theorem WrTo.next {hs : HL} {k : Nat} (hn : WrTo hs k) (e : (hW hs k && decide (1 < hs.length)) = false) : WrTo hs (k + 1) := fun j hj => by
  by_cases ej : j = k
  · subst ej; exact e
  · exact hn j (by omega)

end Go.Proofs.Ytkpkjcmoldkmmaa
