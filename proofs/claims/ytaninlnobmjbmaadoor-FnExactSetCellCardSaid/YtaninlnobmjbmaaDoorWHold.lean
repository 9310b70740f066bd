/- Contracts of the model's LaterWord and SameVersion, and of HoldWord, FreeWord, UnpackWord on both sides, and of eqWord. -/
import Derived.Test.YtaninlnobmjbmaaDoorWLead
namespace Go.Proofs.YtaninlnobmjbmaaDoor
open Go.RowKit

end Go.Proofs.YtaninlnobmjbmaaDoor
