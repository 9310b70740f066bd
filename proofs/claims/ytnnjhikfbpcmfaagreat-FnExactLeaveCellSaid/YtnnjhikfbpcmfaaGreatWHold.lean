/- Contracts of the model's LaterWord and SameVersion, and of HoldWord, FreeWord, UnpackWord on both sides, and of eqWord. -/
import Derived.Test.YtnnjhikfbpcmfaaGreatWLead
namespace Go.Proofs.YtnnjhikfbpcmfaaGreat
open Go.RowKit

end Go.Proofs.YtnnjhikfbpcmfaaGreat
