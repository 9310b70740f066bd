/- The mathematics of drawn plays: who has left is nowhere; nobody passes a waiting writer. -/
import Derived.Test.YtmdonjkkpkcpnaaLk
namespace Go.Proofs.Ytmdonjkkpkcpnaa

theorem holdsL_none {hs ws : HL} {tid : Int} (h : ¬ tid ∈ ids (hs ++ ws)) : holdsL hs ws tid = 0 := by
  unfold holdsL
  split
  · exact holdsAt_zero.2 h
  · rfl
theorem not_off {l : HL} {tid : Int} : ¬ tid ∈ ids (offL l tid) := by
  intro hm
  obtain ⟨x, hx, e⟩ := List.mem_map.1 hm
  have := (List.mem_filter.1 hx).2
  simp [e] at this
/-- who has left is nowhere -/
theorem leave_gone {hs ws : HL} {tid : Int} (h : leaveB hs ws tid = true) : holdsL (leaveL hs ws tid).1 (leaveL hs ws tid).2 tid = 0 := by
  apply holdsL_none
  intro hm
  unfold leaveL at hm
  rw [if_pos h] at hm
  have hp := (grant_perm (offL ws tid) (offL hs tid)).map (fun x : Int × Bool => x.1)
  have h2 : tid ∈ ids (offL hs tid ++ offL ws tid) := hp.mem_iff.1 hm
  rw [ids_append, List.mem_append] at h2
  rcases h2 with h2 | h2
  · exact not_off h2
  · exact not_off h2
theorem leave_pos {hs ws : HL} {tid : Int} (h : 0 < holdsL hs ws tid) : leaveB hs ws tid = true := by
  unfold leaveB
  have : ¬ holdsL hs ws tid = 0 := by omega
  simp [this]
theorem ask_fine {hs ws : HL} {tid : Int} (h : lockOk hs ws = true) (ht : tidB tid = true) (h0 : ¬ 0 < holdsL hs ws tid) : askBad hs ws tid = false := by
  have h1 : 0 ≤ holdsL hs ws tid := by
    unfold holdsL holdsAt
    repeat' split
    all_goals omega
  have h2 : holdsL hs ws tid = 0 := by omega
  simp [askBad, h, ht, h2]
theorem ask_two {hs ws : HL} {tid : Int} {wr : Bool} (h : askBad hs ws tid = false) : askC hs ws tid wr = 0 ∨ askC hs ws tid wr = 1 := by
  unfold askC
  rw [if_neg (by simp [h])]
  split
  · exact .inl rfl
  · exact .inr rfl
/-- behind somebody who waits one waits -/
theorem ask_waits {hs ws : HL} {tid : Int} {wr : Bool} (h : lockOk hs ws = true) (hb : askBad hs ws tid = false) (hw : ¬ ws = []) : askC hs ws tid wr = 1 := by
  have h0 : ¬ tid ∈ ids (hs ++ ws) := by
    simp only [askBad, Bool.or_eq_false_iff, Bool.not_eq_false', beq_iff_eq] at hb
    have h3 := hb.2
    rw [holdsL, if_pos h, holdsAt_zero] at h3
    exact h3
  have hp := (lockOk_iff _ _).1 h
  have hbl := hp.2
  rw [grants_blocked hp.1.wr] at hbl
  have e : askG hs ws tid wr = (hs, ws ++ [(tid, wr)]) := by
    unfold askG
    match ws, hw, hbl with
    | w :: l, _, hbl =>
      have hg : grantsS hs (w :: (l ++ [(tid, wr)])) = false := by
        have : grantsS hs (w :: l) = false := by simpa using hbl
        exact this
      show grantS hs (w :: (l ++ [(tid, wr)])) = (hs, w :: (l ++ [(tid, wr)]))
      rw [grantS, hg]
      rfl
  unfold askC
  rw [if_neg (by simp [hb]), e]
  have h1 : ¬ tid ∈ ids hs := fun hm => h0 (by rw [ids_append]; exact List.mem_append.2 (.inl hm))
  simp [h1]
theorem any_take {l : HL} {k : Nat} (h : k < l.length) : ((l.take k).any (·.2) || (l[k]).2) = (l.take (k + 1)).any (·.2) := by
  rw [List.take_add_one, List.any_append]
  simp [h]
theorem any_some {l : HL} (h : l.any (·.2) = true) : ¬ l = [] := fun e => by subst e; simp at h
end Go.Proofs.Ytmdonjkkpkcpnaa
