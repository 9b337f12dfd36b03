/- A text's copy: strings.Clone answers the same bytes, by the library's contract of what it calls. -/
import Derived.Shelf.Pu.Clone
import Derived.Test.YtcdhaikmedicfaaGreatDoorBase
import Derived.Test.YtcdhaikmedicfaaGreatDoorProg
namespace Go.Proofs
open Go.Shelf
end Go.Proofs
namespace Go.Proofs.YtcdhaikmedicfaaGreatDoor
open Go.RowKit
end Go.Proofs.YtcdhaikmedicfaaGreatDoor
