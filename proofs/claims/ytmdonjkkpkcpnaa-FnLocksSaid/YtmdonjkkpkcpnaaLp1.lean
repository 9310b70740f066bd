/- One operation of a play, in the program. -/
import Derived.Test.YtmdonjkkpkcpnaaLv1c
import Derived.Test.YtmdonjkkpkcpnaaLv7c
namespace Go.Proofs.Ytmdonjkkpkcpnaa
open Go.RowKit

/-- 1 for yes -/
def oneI (b : Bool) : Int := if b then 1 else 0
/-- one operation: the lock behind it, and what is told -/
def playS (p : HL × HL) (n : Nat) (f : Nat → Int) : (HL × HL) × Int :=
  if n = 3 then
    if f 0 = 0 then (askL p.1 p.2 (f 1) (f 2 == 1), askC p.1 p.2 (f 1) (f 2 == 1))
    else if f 0 = 1 then (tryL p.1 p.2 (f 1) (f 2 == 1), oneI (tryB p.1 p.2 (f 1) (f 2 == 1)))
    else if f 0 = 2 then (leaveL p.1 p.2 (f 1), oneI (leaveB p.1 p.2 (f 1)))
    else (p, -1)
  else (p, -1)
theorem playS_len (p : HL × HL) (n : Nat) (f : Nat → Int) : (playS p n f).1.1.length + (playS p n f).1.2.length ≤ p.1.length + p.2.length + 1 := by
  unfold playS
  split
  · split
    · exact askL_len _ _ _ _
    · split
      · exact tryL_len _ _ _ _
      · split
        · have h1 := off_len p.1 (f 1)
          have h2 := off_len p.2 (f 1)
          have h3 := grant_len (offL p.1 (f 1)) (offL p.2 (f 1))
          show (leaveL p.1 p.2 (f 1)).1.length + (leaveL p.1 p.2 (f 1)).2.length ≤ _
          unfold leaveL
          split
          · omega
          · simp
        · simp
  · simp
theorem playS_ask {p : HL × HL} {f : Nat → Int} (h : f 0 = 0) : playS p 3 f = (askL p.1 p.2 (f 1) (f 2 == 1), askC p.1 p.2 (f 1) (f 2 == 1)) := by unfold playS; rw [if_pos rfl, if_pos h]
theorem playS_try {p : HL × HL} {f : Nat → Int} (h : f 0 = 1) : playS p 3 f = (tryL p.1 p.2 (f 1) (f 2 == 1), oneI (tryB p.1 p.2 (f 1) (f 2 == 1))) := by unfold playS; rw [if_pos rfl, if_neg (by omega), if_pos h]
theorem playS_leave {p : HL × HL} {f : Nat → Int} (h : f 0 = 2) : playS p 3 f = (leaveL p.1 p.2 (f 1), oneI (leaveB p.1 p.2 (f 1))) := by unfold playS; rw [if_pos rfl, if_neg (by omega), if_neg (by omega), if_pos h]
theorem playS_none {p : HL × HL} {f : Nat → Int} (h0 : ¬ f 0 = 0) (h1 : ¬ f 0 = 1) (h2 : ¬ f 0 = 2) : playS p 3 f = (p, -1) := by unfold playS; rw [if_pos rfl, if_neg h0, if_neg h1, if_neg h2]
/-- a play keeps a lock whole -/
theorem playS_ok {p : HL × HL} (n : Nat) (f : Nat → Int) (h : lockOk p.1 p.2 = true) : lockOk (playS p n f).1.1 (playS p n f).1.2 = true := by
  unfold playS
  split
  · split
    · exact ask_ok _ h
    · split
      · exact try_ok _ h
      · split
        · exact leave_ok _ h
        · exact h
  · exact h
end Go.Proofs.Ytmdonjkkpkcpnaa
