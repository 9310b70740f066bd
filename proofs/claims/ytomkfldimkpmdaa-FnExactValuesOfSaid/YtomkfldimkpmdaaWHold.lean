/- Contracts of the model's LaterWord and SameVersion, and of HoldWord, FreeWord, UnpackWord on both sides, and of eqWord. -/
import Derived.Test.YtomkfldimkpmdaaWLead
namespace Go.Proofs.Ytomkfldimkpmdaa
open Go.RowKit

end Go.Proofs.Ytomkfldimkpmdaa
