/- The two AskLocks, in one form. -/
import Derived.Test.YtcndmdglnohbcaaGreatDoorLi7f
namespace Go.Proofs.YtcndmdglnohbcaaGreatDoor
open Go.RowKit

theorem grant_len (hs ws : HL) : (grantS hs ws).1.length + (grantS hs ws).2.length = hs.length + ws.length := by
  have := (grant_perm ws hs).length_eq
  simpa using this
theorem askL_len (hs ws : HL) (t : Int) (wr : Bool) : (askL hs ws t wr).1.length + (askL hs ws t wr).2.length ≤ hs.length + ws.length + 1 := by
  unfold askL
  split
  · simp
  · have := grant_len hs (ws ++ [(t, wr)])
    simp at this
    unfold askG
    omega
end Go.Proofs.YtcndmdglnohbcaaGreatDoor
