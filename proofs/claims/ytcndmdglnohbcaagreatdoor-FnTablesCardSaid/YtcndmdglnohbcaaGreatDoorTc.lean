/- The laws' functions over tables: how much a table takes, whether two are the same. -/
import Derived.Deep.RegionLaw
import Derived.Test.YtcndmdglnohbcaaGreatDoorTa
import Derived.Test.YtcndmdglnohbcaaGreatDoorWBase
namespace Go.Proofs.YtcndmdglnohbcaaGreatDoor
open Go.RowKit

end Go.Proofs.YtcndmdglnohbcaaGreatDoor
