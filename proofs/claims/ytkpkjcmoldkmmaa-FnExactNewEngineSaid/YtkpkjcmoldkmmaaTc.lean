/- The laws' functions over tables: how much a table takes, whether two are the same. -/
import Derived.Deep.RegionLaw
import Derived.Test.YtkpkjcmoldkmmaaTa
import Derived.Test.YtkpkjcmoldkmmaaWBase
namespace Go.Proofs.Ytkpkjcmoldkmmaa
open Go.RowKit

end Go.Proofs.Ytkpkjcmoldkmmaa
