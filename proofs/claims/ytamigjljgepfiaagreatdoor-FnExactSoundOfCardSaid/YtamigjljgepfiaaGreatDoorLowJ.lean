/- Where a word ends, as the program tells it. -/
import Derived.Test.YtamigjljgepfiaaGreatDoorLowI
namespace Go.Proofs.YtamigjljgepfiaaGreatDoor
namespace Cas
open Go.RowKit
end Cas
end Go.Proofs.YtamigjljgepfiaaGreatDoor
