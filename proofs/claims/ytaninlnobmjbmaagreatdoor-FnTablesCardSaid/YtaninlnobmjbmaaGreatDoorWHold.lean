/- Contracts of the model's LaterWord and SameVersion, and of HoldWord, FreeWord, UnpackWord on both sides, and of eqWord. -/
import Derived.Test.YtaninlnobmjbmaaGreatDoorWLead
namespace Go.Proofs.YtaninlnobmjbmaaGreatDoor
open Go.RowKit

end Go.Proofs.YtaninlnobmjbmaaGreatDoor
