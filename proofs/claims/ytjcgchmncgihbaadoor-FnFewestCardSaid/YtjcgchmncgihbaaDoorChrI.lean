/- The classes of points that cuts of characters ask for, as the program tells them; a place and what it is moved to. -/
import Derived.Test.YtjcgchmncgihbaaDoorChrP
import Derived.Test.YtjcgchmncgihbaaDoorCallsK
namespace Go.Proofs.YtjcgchmncgihbaaDoor
namespace Chr
open Go.RowKit
theorem ret_bool {x y : Bool} (h : x = y) : (Ending.returned (.bool x) : Ending) = .returned (.bool y) := by rw [h]
end Chr
end Go.Proofs.YtjcgchmncgihbaaDoor
