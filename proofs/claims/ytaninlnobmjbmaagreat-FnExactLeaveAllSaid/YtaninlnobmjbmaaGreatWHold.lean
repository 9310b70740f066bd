/- Contracts of the model's LaterWord and SameVersion, and of HoldWord, FreeWord, UnpackWord on both sides, and of eqWord. -/
import Derived.Test.YtaninlnobmjbmaaGreatWLead
namespace Go.Proofs.YtaninlnobmjbmaaGreat
open Go.RowKit

end Go.Proofs.YtaninlnobmjbmaaGreat
