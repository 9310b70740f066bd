/- What all the cards of this seat share: the listed tables, a world that holds them. -/
import Derived.Test.YtomkfldimkpmdaaDoorCards
import Derived.Test.YtomkfldimkpmdaaDoorTie
import Derived.Test.YtomkfldimkpmdaaDoorTabG
import Derived.ProofKit
import Derived.OpenShut
import Derived.ChangeOld
import Derived.Deep.DeepHandedRow
import Derived.Stop.LaidErr
import Derived.Lib.SmallJoins
import Derived.ShutString
namespace Go.Proofs.YtomkfldimkpmdaaDoor
open Go.ChangeShapes Go.WideShapes Go.ChangeAt Go.RowKit Go.Joins

theorem own : ownKnob Tryd.prog.godebug = none := by kernel_rfl
theorem laidOut : laidOutB Tryd.prog = true := by kernel_rfl
theorem gTabType : (Tryd.prog.globals[0]?).map (·.type) = some 155 := by kernel_rfl
theorem cellsTab : Tryd.prog.cellsOf 155 = 20 := by kernel_rfl
theorem cellsU64 : Tryd.prog.cellsOf 136 = 1 := by kernel_rfl
theorem tabData_eq : (Rows.laid_internal_strconv_uint64pow10 : DataW Unit) = Lib.tabData .u64 Lib.pow10Tab := by kernel_rfl

abbrev laid3 : List (String × DataW Unit) := [("math/bits.deBruijn32tab", Rows.laid_math_bits_deBruijn32tab), ("math/bits.deBruijn64tab", Rows.laid_math_bits_deBruijn64tab), ("internal/strconv.uint64pow10", Rows.laid_internal_strconv_uint64pow10)]

/-- WHAT THE ROW's LIST GIVES: the table's cells hold its numbers. -/
theorem table {W : World} (h : laidMetH Tryd.prog laid3 W) : Tab W := by
  have h1 : laidMet Tryd.prog laid3 W := h
  have h2 := (laidMet.tail (laidMet.tail h1))
  rw [tabData_eq] at h2
  exact Lib.tabIs_of_head (rest := []) gTab gTabType Tryd.underlying155 Tryd.underlying136 cellsU64 cellsTab h2

def u8s (l : List Int) : Array Value := (l.map (Value.int .u8)).toArray
def setRow (cs : Array Value) : Obj → Obj
  | .cells _ t frozen => .cells cs t frozen
  | o => o
def pow10s : Array Value := (Lib.pow10Tab.map (Value.int .u64)).toArray
def tab32 : Array Value := u8s [0, 1, 28, 2, 29, 14, 24, 3, 30, 22, 20, 15, 25, 17, 4, 8, 31, 27, 13, 23, 21, 19, 16, 7, 26, 12, 18, 6, 11, 5, 10, 9]
def tab64 : Array Value := u8s [0, 1, 56, 2, 57, 49, 28, 3, 61, 58, 42, 50, 38, 29, 17, 4, 62, 47, 59, 36, 45, 43, 51, 22, 53, 39, 33, 30, 24, 18, 12, 5, 63, 55, 48, 27, 60, 41, 37, 16, 46, 35, 44, 21, 52, 32, 23, 11, 54, 26, 40, 15, 34, 20, 31, 10, 25, 14, 19, 9, 13, 8, 7, 6]
/-- A WORLD FOR THE WITNESS: the settled one, the tables holding what their initialisers lay. -/
noncomputable def laidWorld (os : Os) (blocks : Array Obj) (args : Array Value) : World :=
  { World.holding Tryd.prog os ⟨blocks, args, []⟩ with
    heap := (((World.holding Tryd.prog os ⟨blocks, args, []⟩).heap.modify 0 (setRow pow10s)).modify 1 (setRow tab32)).modify 2 (setRow tab64) }
theorem laid_met (os : Os) (args : Array Value) : laidMet Tryd.prog laid3 ((laidWorld os #[] args).forCall (fun _ _ => 0) ⟨#[], args, []⟩).memory :=
  laidMet_of_run' 8 (by kernel_rfl) (by kernel_rfl)
end Go.Proofs.YtomkfldimkpmdaaDoor
