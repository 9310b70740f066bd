/- WantsOk: the model's and the program's. -/
import Derived.Test.YtkpkjcmoldkmmaaVju
namespace Go.Proofs.Ytkpkjcmoldkmmaa
open Go.RowKit

/-- want k lies within the keys and behind the one before it -/
def okW (l : HL) (k : Nat) : Bool := inB (hT l k) 0 7 && !(decide (0 < k) && decide (hT l (k - 1) ≥ hT l k))
def wantsB (l : HL) : Bool := (List.range l.length).all (okW l)
def OkToW (l : HL) (k : Nat) : Prop := ∀ j, j < k → okW l j = true
theorem wantsB_yes {l : HL} (h : OkToW l l.length) : wantsB l = true := by simpa [wantsB, OkToW] using h
theorem wantsB_no {l : HL} {k : Nat} (hk : k < l.length) (h : okW l k = false) : wantsB l = false := by
  rw [Bool.eq_false_iff]
  intro hp
  simp only [wantsB, List.all_eq_true, List.mem_range] at hp
  rw [hp k hk] at h; cases h
theorem wantsB_get {l : HL} (h : wantsB l = true) : OkToW l l.length := by
  simpa [wantsB, OkToW] using h
theorem OkToW.next {l : HL} {k : Nat} (h : OkToW l k) (hk : okW l k = true) : OkToW l (k + 1) := fun j hj => by
  by_cases e : j = k
  · subst e; exact hk
  · exact h j (by omega)
def leastL (l : HL) (k : Nat) : Int := if k = 0 then 0 else hT l (k - 1) + 1
theorem okW_key {l : HL} {k : Nat} (h : inB (hT l k) 0 7 = false) : okW l k = false := by simp [okW, h]
theorem okW_least {l : HL} {k : Nat} (h : hT l k < leastL l k) : okW l k = false := by
  unfold leastL at h
  by_cases e : k = 0
  · rw [if_pos e] at h
    exact okW_key (by simp [inB]; omega)
  · rw [if_neg e] at h
    have h1 : 0 < k := by omega
    have h2 : hT l (k - 1) ≥ hT l k := by omega
    simp [okW, h1, h2]
theorem okW_yes {l : HL} {k : Nat} (h : inB (hT l k) 0 7 = true) (h2 : ¬ hT l k < leastL l k) : okW l k = true := by
  unfold leastL at h2
  by_cases e : k = 0
  · subst e; simp [okW, h]
  · rw [if_neg e] at h2
    have h3 : ¬ hT l (k - 1) ≥ hT l k := by omega
    simp only [okW, h, decide_eq_false h3]; simp
theorem okW_range {l : HL} {k : Nat} (h : okW l k = true) : 0 ≤ hT l k ∧ hT l k ≤ 7 := by
  simp only [okW, Bool.and_eq_true] at h
  simpa [inB] using h.1
theorem leastL_range {l : HL} {k : Nat} (h : OkToW l k) : 0 ≤ leastL l k ∧ leastL l k ≤ 8 := by
  unfold leastL
  by_cases e : k = 0
  · rw [if_pos e]; omega
  · rw [if_neg e]
    have := okW_range (h (k - 1) (by omega))
    omega

end Go.Proofs.Ytkpkjcmoldkmmaa
