/- QueueOf, the model's and the program's. -/
import Derived.Test.YtkpkjcmoldkmmaaGreatLi2
import Derived.Test.YtkpkjcmoldkmmaaGreatLs2
namespace Go.Proofs.YtkpkjcmoldkmmaaGreat
open Go.RowKit

def queueL (hs ws : HL) : List Int := if lockOk hs ws then ids ws else []
theorem ws_len {hs ws : HL} (h : lockOk hs ws = true) : hs.length + ws.length ≤ 8 := ((lockOk_iff _ _).1 h).1.len
theorem queue_len (hs ws : HL) : (queueL hs ws).length ≤ 8 := by
  unfold queueL
  split
  · rename_i h; have := ws_len h; rw [ids_len']; omega
  · simp
/-- a slice of integers of the call's own -/
def RetI (w : World) (l : List Int) (e : Ending) (w' : World) : Prop := ∃ A cap, e = .returned (.slice A l.length cap) ∧ OwnI w' w.heap.size w'.heap.size A l.length (fun j => l.getD j 0) ∧ Below w.heap.size w w'
theorem RetI.nil {w w' : World} (h : Below w.heap.size w w') : RetI w [] (.returned (.slice none 0 0)) w' := ⟨none, 0, rfl, fun h => absurd h (by simp), h⟩
theorem RetI.of {w w' : World} {v : Value} {l : List Int} {lo : Nat} {e : TypeId} (h : w'.ownsRow lo e 1 v l.length (l.map (.int .i64))) (hlo : w.heap.size ≤ lo) (hb : Below w.heap.size w w') : RetI w l (.returned v) w' := by
  obtain ⟨A, cap, rfl, _, hI⟩ := OwnI.of_owns h
  exact ⟨A, cap, rfl, hI.more hlo (Nat.le_refl _), hb⟩

end Go.Proofs.YtkpkjcmoldkmmaaGreat
