/- Normalize of the program, and the law. -/
import Derived.Test.YtjdginjohajmaaaGreatDoorNrmI
namespace Go.Proofs.YtjdginjohajmaaaGreatDoor
open Go.RowKit
end Go.Proofs.YtjdginjohajmaaaGreatDoor
