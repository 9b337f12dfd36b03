/- Where a word ends, as the specification tells it. -/
import Derived.Test.YtamigjljgepfiaaGreatDoorLowJ
namespace Go.Proofs.YtamigjljgepfiaaGreatDoor
namespace Cas
open Go.RowKit
end Cas
end Go.Proofs.YtamigjljgepfiaaGreatDoor
