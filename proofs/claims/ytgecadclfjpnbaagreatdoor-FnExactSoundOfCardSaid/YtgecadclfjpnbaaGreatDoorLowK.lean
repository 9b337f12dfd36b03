/- Where a word ends, as the specification tells it. -/
import Derived.Test.YtgecadclfjpnbaaGreatDoorLowJ
namespace Go.Proofs.YtgecadclfjpnbaaGreatDoor
namespace Cas
open Go.RowKit
end Cas
end Go.Proofs.YtgecadclfjpnbaaGreatDoor
