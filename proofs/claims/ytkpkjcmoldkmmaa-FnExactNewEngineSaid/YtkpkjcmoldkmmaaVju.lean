/- Heat lists: the model's HeatOk, the program's heats as an array. -/
import Derived.Test.YtkpkjcmoldkmmaaViu
import Derived.Test.YtkpkjcmoldkmmaaRunAu
import Derived.Lib.MinMax
import Derived.Laws.Cover3
import Derived.Laws.StructEq
import Derived.Deep.RegionLaw
namespace Go.Proofs.Ytkpkjcmoldkmmaa
open Go.RowKit

/-- the heats of a list, if it is one -/
def heatV (n : Nat) (f : Nat → Int) (j : Nat) : Int := if n = 8 then f j else 0
end Go.Proofs.Ytkpkjcmoldkmmaa
