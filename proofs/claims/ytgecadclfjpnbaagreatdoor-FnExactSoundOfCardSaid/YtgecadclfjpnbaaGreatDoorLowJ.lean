/- Where a word ends, as the program tells it. -/
import Derived.Test.YtgecadclfjpnbaaGreatDoorLowI
namespace Go.Proofs.YtgecadclfjpnbaaGreatDoor
namespace Cas
open Go.RowKit
end Cas
end Go.Proofs.YtgecadclfjpnbaaGreatDoor
