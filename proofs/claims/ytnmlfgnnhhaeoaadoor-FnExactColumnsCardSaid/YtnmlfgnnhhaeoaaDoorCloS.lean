/- A text's copy: strings.Clone answers the same bytes, by the library's contract of what it calls. -/
import Derived.Shelf.Pu.Clone
import Derived.Test.YtnmlfgnnhhaeoaaDoorBase
import Derived.Test.YtnmlfgnnhhaeoaaDoorProg
namespace Go.Proofs
open Go.Shelf
end Go.Proofs
namespace Go.Proofs.YtnmlfgnnhhaeoaaDoor
open Go.RowKit
end Go.Proofs.YtnmlfgnnhhaeoaaDoor
