/- Contracts of UnpackWord on both sides, and of eqWord on equal words. -/
import Derived.Test.YtaninlnobmjbmaaGreatDoorWHold
namespace Go.Proofs.YtaninlnobmjbmaaGreatDoor
open Go.RowKit

end Go.Proofs.YtaninlnobmjbmaaGreatDoor
