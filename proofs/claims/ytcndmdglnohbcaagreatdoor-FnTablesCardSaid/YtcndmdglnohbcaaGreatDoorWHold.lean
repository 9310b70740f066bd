/- Contracts of the model's LaterWord and SameVersion, and of HoldWord, FreeWord, UnpackWord on both sides, and of eqWord. -/
import Derived.Test.YtcndmdglnohbcaaGreatDoorWLead
namespace Go.Proofs.YtcndmdglnohbcaaGreatDoor
open Go.RowKit

end Go.Proofs.YtcndmdglnohbcaaGreatDoor
