/- The two AskLocks, in one form. -/
import Derived.Test.YtnnjhikfbpcmfaaGreatLi7f
namespace Go.Proofs.YtnnjhikfbpcmfaaGreat
open Go.RowKit

theorem specAskL (A A' : Option Addr) (c c' B : Nat) (hs ws : HL) (t : Int) (wr : Bool) (w : World) (hn : hs.length ≤ 1048576) (hn' : ws.length ≤ 1048576) (h : LAt w B A A' (hs, ws)) :
    Calls Tryz.prog 20 #[.agg #[.slice A hs.length c, .slice A' ws.length c'], .int .i64 t, .bool wr] w (RetLock w (askL hs ws t wr) fun v => .tuple #[v, .int .i64 (askC hs ws t wr)]) :=
  (specAsk_any A A' c c' B hs ws t wr w hn hn' h).mono fun _ _ h => h.lock
theorem grant_len (hs ws : HL) : (grantS hs ws).1.length + (grantS hs ws).2.length = hs.length + ws.length := by
  have := (grant_perm ws hs).length_eq
  simpa using this
theorem askL_len (hs ws : HL) (t : Int) (wr : Bool) : (askL hs ws t wr).1.length + (askL hs ws t wr).2.length ≤ hs.length + ws.length + 1 := by
  unfold askL
  split
  · simp
  · have := grant_len hs (ws ++ [(t, wr)])
    simp at this
    unfold askG
    omega
end Go.Proofs.YtnnjhikfbpcmfaaGreat
