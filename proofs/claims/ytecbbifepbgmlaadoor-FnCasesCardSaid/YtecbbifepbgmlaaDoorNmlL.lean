/- Normalize of the program, and the law. -/
import Derived.Test.YtecbbifepbgmlaaDoorNrmI
namespace Go.Proofs.YtecbbifepbgmlaaDoor
open Go.RowKit
end Go.Proofs.YtecbbifepbgmlaaDoor
