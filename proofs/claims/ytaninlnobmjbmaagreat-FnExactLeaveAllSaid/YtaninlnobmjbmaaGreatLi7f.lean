/- The program's AskLock. -/
import Derived.Test.YtaninlnobmjbmaaGreatLi6f
import Derived.Test.YtaninlnobmjbmaaGreatLs6f
namespace Go.Proofs.YtaninlnobmjbmaaGreat
open Go.RowKit

theorem askC_in {hs ws : HL} {t : Int} {wr : Bool} (h : askBad hs ws t = false) (hm : t ∈ ids (askG hs ws t wr).1) : askC hs ws t wr = 0 ∧ askL hs ws t wr = askG hs ws t wr := by
  simp [askC, askL, h, hm]
theorem askC_out {hs ws : HL} {t : Int} {wr : Bool} (h : askBad hs ws t = false) (hm : ¬ t ∈ ids (askG hs ws t wr).1) : askC hs ws t wr = 1 ∧ askL hs ws t wr = askG hs ws t wr := by
  simp [askC, askL, h, hm]
theorem LOwn.far {w : World} {lo B : Nat} {A A' : Option Addr} {p : HL × HL} {a : Addr} (h : LOwn w lo B A A' p) (v : Value) (hd : a.block < lo ∨ B ≤ a.block) : LOwn (w.setCell a v) lo B A A' p := ⟨h.1.far v hd, h.2.1.far v hd, h.2.2⟩

end Go.Proofs.YtaninlnobmjbmaaGreat

