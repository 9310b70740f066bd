/- The laws' functions over tables: how much a table takes, whether two are the same. -/
import Derived.Deep.RegionLaw
import Derived.Test.YtaninlnobmjbmaaGreatDoorTa
import Derived.Test.YtaninlnobmjbmaaGreatDoorWBase
namespace Go.Proofs.YtaninlnobmjbmaaGreatDoor
open Go.RowKit

end Go.Proofs.YtaninlnobmjbmaaGreatDoor
